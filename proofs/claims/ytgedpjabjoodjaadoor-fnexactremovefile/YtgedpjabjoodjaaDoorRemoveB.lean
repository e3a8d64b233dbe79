/- RemoveFile: both texts leave the same files and the same code. -/
import Derived.Test.YtgedpjabjoodjaaDoorRemS
import Derived.Test.YtgedpjabjoodjaaDoorSpecRemove
import Derived.Test.YtgedpjabjoodjaaDoorImplRemove
import Derived.Test.YtgedpjabjoodjaaDoorLawG
namespace Go.Proofs.YtgedpjabjoodjaaDoor
open Go.RowKit
set_option linter.unusedSimpArgs false
set_option linter.unusedVariables false

theorem used_rem {F : Nat → Fil} (j : Nat) : ∀ n, used (remF F j) n ≤ used F (n + 1)
  | 0 => Nat.zero_le _
  | n + 1 => by
    have h := used_rem (F := F) j n
    have e : (remF F j n).len = (F n).len ∨ (remF F j n).len = (F (n + 1)).len := by
      unfold remF sh
      split
      · exact .inl rfl
      · exact .inr rfl
    by_cases hj : n < j
    · have e2 : used (remF F j) (n + 1) = used F (n + 1) := used_congr (n + 1) (fun i hi => by unfold remF sh; rw [if_pos (by omega)])
      rw [e2]
      simp only [used]
      omega
    · have e2 : (remF F j n).len = (F (n + 1)).len := by unfold remF sh; rw [if_neg hj]
      simp only [used] at h ⊢
      omega

theorem removeFile_both (Q : Int) (n : Nat) (F : Nat → Fil) (s : ByteArray) (hs : s.size ≤ 1048576) (hq : -9223372036854775808 ≤ Q ∧ Q ≤ 9223372036854775807) (hn : n ≤ 1048576) (hz : FSize n F 1048576) (hbd : ∀ i, i < n → ∀ j, 0 ≤ (F i).f j ∧ (F i).f j ≤ 255) :
    ∃ (Q' c : Int) (m : Nat) (Fo : Nat → Fil), m ≤ 1048576 ∧ FSize m Fo 1048576 ∧ cK Fo m ≤ 4194304 ∧
      (∀ (w : World) (ao : Option Addr) (cap : Nat), FRow w ao n F → Calls Tryd.prog 26 #[.agg #[.int .i64 Q, .slice ao n cap], .string s] w fun e w' => SOut Q' c m Fo w e w') ∧
      (∀ (w : World) (ao : Option Addr) (cap : Nat), FRow w ao n F → ET w → Calls Tryd.prog 27 #[.agg #[.int .i64 Q, .slice ao n cap], .string s] w fun e w' => IOut Q' c m Fo w e w') := by
  by_cases hbad : (goodF Q n F && fnB s) = false
  · exact ⟨0, 1, 0, F, by omega, fun i h => by omega, by unfold cK; simp [used], fun w ao cap hr => removeFile_spec_bad Q ao n cap F F s hs _ _ rfl rfl hbad w hr hq hn hz, fun w ao cap hr _ => removeFile_impl_bad Q ao n cap F F s hs _ _ rfl rfl hbad w hr hq hn hz⟩
  · have hG : goodF Q n F = true := by cases h : goodF Q n F <;> simp_all
    have hN : fnB s = true := by cases h : fnB s <;> simp_all
    obtain ⟨p1, p2, p3, hK, p4⟩ := good_parts hG
    have hcK : cK F n ≤ 4194304 := by unfold cK; omega
    by_cases hx : ∃ j, j < n ∧ (F j).nm = s
    · obtain ⟨j, hj, rfl⟩ := hx
      have hu := used_rem (F := F) j (n - 1)
      rw [show n - 1 + 1 = n by omega] at hu
      refine ⟨Q, 0, n - 1, remF F j, by omega, fun i hi => hz _ (sh_lt hj hi), by unfold cK; omega, fun w ao cap hr => removeFile_spec_good Q ao n cap F _ hs hG hN 0 (n - 1) (remF F j) (fun w fb base p cc h1 h2 h3 h4 => l2Remove_hit Q fb p n cc base F _ j hj (atN_hit hK hj rfl) w h1 h2 h3 h4 hn) w hr hq hn hz, fun w ao cap hr hE => ?_⟩
      exact removeFile_impl_good Q ao n cap F _ hs hG hK hN 0 (n - 1) (remF F j) (fun w bm S G hM hD => remove_out hj hK hbd hn w hM hD) w hE hr hq hn hz
    · have hm : ∀ j, j < n → (F j).nm ≠ s := fun j hj e => hx ⟨j, hj, e⟩
      refine ⟨Q, 2, n, F, hn, hz, hcK, fun w ao cap hr => removeFile_spec_good Q ao n cap F s hs hG hN 2 n F (fun w fb base p cc h1 h2 h3 h4 => l2Remove_miss Q fb p n cc base F s (atN_miss hm) w h1 h3 hn) w hr hq hn hz, fun w ao cap hr hE => ?_⟩
      refine removeFile_impl_good Q ao n cap F s hs hG hK hN 2 n F (fun w bm S G hM hD => (remove_miss Q bm n F S s hm w hM).mono ?_) w hE hr hq hn hz
      rintro e w' ⟨he, hb⟩
      exact mout_same he (errFault s 2 rfl) (.inr ⟨_, _, rfl⟩) hb hK hbd hn hM hD
end Go.Proofs.YtgedpjabjoodjaaDoor
