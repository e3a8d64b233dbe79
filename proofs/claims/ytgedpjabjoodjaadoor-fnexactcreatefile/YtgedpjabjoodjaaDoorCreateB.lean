/- CreateFile: both texts leave the same files and the same code. -/
import Derived.Test.YtgedpjabjoodjaaDoorCreC
import Derived.Test.YtgedpjabjoodjaaDoorSpecCreate
import Derived.Test.YtgedpjabjoodjaaDoorImplCreate
import Derived.Test.YtgedpjabjoodjaaDoorLawG
namespace Go.Proofs.YtgedpjabjoodjaaDoor
open Go.RowKit
set_option linter.unusedSimpArgs false
set_option linter.unusedVariables false

theorem used_ins {F : Nat → Fil} (s : ByteArray) (k : Nat) : ∀ n, used (insF F s k) (n + 1) ≤ used F (n + 1) ∧ (k ≤ n → used (insF F s k) (n + 1) ≤ used F n)
  | 0 => by
    constructor
    · simp only [used, insF]; split <;> (try split) <;> simp
    · intro hk
      obtain rfl : k = 0 := by omega
      simp [used, insF]
  | n + 1 => by
    obtain ⟨h1, h2⟩ := used_ins (F := F) s k n
    by_cases hk : k ≤ n
    · have h3 := h2 hk
      have e : (insF F s k (n + 1)).len = (F n).len := by unfold insF; rw [if_neg (by omega), if_neg (by omega)]; rfl
      have e2 : used (insF F s k) (n + 1 + 1) ≤ used F (n + 1) := by simp only [used] at h3 ⊢; omega
      exact ⟨Nat.le_trans e2 (by simp [used]), fun _ => e2⟩
    · by_cases hk2 : k = n + 1
      · have e : (insF F s k (n + 1)).len = 0 := by unfold insF; rw [if_neg (by omega), if_pos hk2.symm]
        have e2 : used (insF F s k) (n + 1 + 1) ≤ used F (n + 1) := by simp only [used] at h1 ⊢; omega
        exact ⟨Nat.le_trans e2 (by simp [used]), fun _ => e2⟩
      · have e : (insF F s k (n + 1)).len = (F (n + 1)).len := by unfold insF; rw [if_pos (by omega)]
        exact ⟨by simp only [used] at h1 ⊢; omega, fun h => by omega⟩

theorem createFile_both (Q : Int) (n : Nat) (F : Nat → Fil) (s : ByteArray) (hs : s.size ≤ 1048576) (hq : -9223372036854775808 ≤ Q ∧ Q ≤ 9223372036854775807) (hn : n ≤ 1048576) (hz : FSize n F 1048576) (hbd : ∀ i, i < n → ∀ j, 0 ≤ (F i).f j ∧ (F i).f j ≤ 255) :
    ∃ (Q' c : Int) (m : Nat) (Fo : Nat → Fil), m ≤ 1048576 ∧ FSize m Fo 1048576 ∧ cK Fo m ≤ 4194304 ∧
      (∀ (w : World) (ao : Option Addr) (cap : Nat), FRow w ao n F → Calls Tryd.prog 11 #[.agg #[.int .i64 Q, .slice ao n cap], .string s] w fun e w' => SOut Q' c m Fo w e w') ∧
      (∀ (w : World) (ao : Option Addr) (cap : Nat), FRow w ao n F → ET w → Calls Tryd.prog 13 #[.agg #[.int .i64 Q, .slice ao n cap], .string s] w fun e w' => IOut Q' c m Fo w e w') := by
  by_cases hbad : (goodF Q n F && fnB s) = false
  · exact ⟨0, 1, 0, F, by omega, fun i h => by omega, by unfold cK; simp [used], fun w ao cap hr => createFile_spec_bad Q ao n cap F F s hs _ _ rfl rfl hbad w hr hq hn hz, fun w ao cap hr _ => createFile_impl_bad Q ao n cap F F s hs _ _ rfl rfl hbad w hr hq hn hz⟩
  · have hG : goodF Q n F = true := by cases h : goodF Q n F <;> simp_all
    have hN : fnB s = true := by cases h : fnB s <;> simp_all
    obtain ⟨p1, p2, p3, hK, p4⟩ := good_parts hG
    have hcK : cK F n ≤ 4194304 := by unfold cK; omega
    by_cases hx : ∃ j, j < n ∧ (F j).nm = s
    · obtain ⟨j, hj, rfl⟩ := hx
      refine ⟨Q, 3, n, F, hn, hz, hcK, fun w ao cap hr => createFile_spec_good Q ao n cap F _ hs hG hN 3 n F (fun w fb base p cc h1 h2 h5 h3 h4 => l2Create_twice Q fb p n cc base F _ (fun v hv => by rw [atN_hit hK hj rfl v hv]; omega) w h1 h3 hn) w hr hq hn hz, fun w ao cap hr hE => ?_⟩
      refine createFile_impl_good Q ao n cap F _ hs hG hK hN 3 n F (fun w bm S G hM hD => (create_twice Q bm n F S j hj hK w hM hD.len).mono ?_) w hE hr hq hn hz
      rintro e w' ⟨he, hb⟩
      exact mout_same he (errFault (F j).nm 3 rfl) (.inr ⟨_, _, rfl⟩) hb hK hbd hn hM hD
    · have hm : ∀ j, j < n → (F j).nm ≠ s := fun j hj e => hx ⟨j, hj, e⟩
      by_cases h40 : n = 40
      · subst h40
        refine ⟨Q, 4, 40, F, hn, hz, hcK, fun w ao cap hr => createFile_spec_good Q ao 40 cap F s hs hG hN 4 40 F (fun w fb base p cc h1 h2 h5 h3 h4 => l2Create_full Q fb p cc base F s (atN_miss hm) w h1 h3) w hr hq hn hz, fun w ao cap hr hE => ?_⟩
        refine createFile_impl_good Q ao 40 cap F s hs hG hK hN 4 40 F (fun w bm S G hM hD => (create_full Q bm 40 F S s hm (by omega) hn w hM).mono ?_) w hE hr hq hn hz
        rintro e w' ⟨he, hb⟩
        exact mout_same he (errFault s 4 rfl) (.inr ⟨_, _, rfl⟩) hb hK hbd hn hM hD
      · obtain ⟨k, hR⟩ := rank_ex hK hm
        have hle := hR.le
        have h41 : n < 40 := by omega
        have hu := (used_ins (F := F) s k n).2 hle
        refine ⟨Q, 0, n + 1, insF F s k, by omega, fun i hi => ?_, by unfold cK; omega, fun w ao cap hr => createFile_spec_good Q ao n cap F s hs hG hN 0 (n + 1) (insF F s k) (fun w fb base p cc h1 h2 h5 h3 h4 => l2Create_new Q fb p n cc base F s k hR h41 (atN_miss hm) w h1 h2 h5 h3 h4) w hr hq hn hz, fun w ao cap hr hE => ?_⟩
        · unfold insF
          split
          · exact hz i (by omega)
          · split
            · exact ⟨hs, Nat.zero_le _⟩
            · exact hz (i - 1) (by omega)
        · exact createFile_impl_good Q ao n cap F s hs hG hK hN 0 (n + 1) (insF F s k) (fun w bm S G hM hD => create_out hR hm h41 hK hbd w hM hD) w hE hr hq hn hz
end Go.Proofs.YtgedpjabjoodjaaDoor
