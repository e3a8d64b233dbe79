/- RenameFile: both texts leave the same files and the same code. -/
import Derived.Test.YtgedpjabjoodjaaDoorSpecRenHit
import Derived.Test.YtgedpjabjoodjaaDoorImplRename
import Derived.Test.YtgedpjabjoodjaaDoorLOut
namespace Go.Proofs.YtgedpjabjoodjaaDoor
open Go.RowKit
set_option linter.unusedSimpArgs false
set_option linter.unusedVariables false

theorem used_insG {F : Nat → Fil} {y : Fil} {k : Nat} : ∀ n, k ≤ n → used (insG F y k) (n + 1) = used F n + y.len
  | 0, hk => by
    obtain rfl : k = 0 := by omega
    simp [used, insG]
  | n + 1, hk => by
    by_cases h : k ≤ n
    · have ih := used_insG (F := F) (y := y) n h
      have e : (insG F y k (n + 1)).len = (F n).len := by unfold insG; rw [if_neg (by omega), if_neg (by omega)]; rfl
      simp only [used] at ih ⊢
      omega
    · obtain rfl : k = n + 1 := by omega
      have e : (insG F y (n + 1) (n + 1)).len = y.len := by unfold insG; rw [if_neg (by omega), if_pos rfl]
      have e2 : used (insG F y (n + 1)) (n + 1) = used F (n + 1) := used_congr (n + 1) (fun i hi => by unfold insG; rw [if_pos hi])
      show used (insG F y (n + 1)) (n + 1) + (insG F y (n + 1) (n + 1)).len = _
      rw [e, e2]
theorem used_remE {F : Nat → Fil} {a : Nat} : ∀ n, a < n + 1 → used (remF F a) n + (F a).len = used F (n + 1)
  | 0, h => by
    obtain rfl : a = 0 := by omega
    simp [used]
  | n + 1, h => by
    by_cases e : a = n + 1
    · subst e
      have e2 : used (remF F (n + 1)) (n + 1) = used F (n + 1) := used_congr (n + 1) (fun i hi => by unfold remF sh; rw [if_pos hi])
      rw [e2]; rfl
    · have ih := used_remE (F := F) (a := a) n (by omega)
      have e2 : (remF F a n).len = (F (n + 1)).len := by unfold remF sh; rw [if_neg (by omega)]
      simp only [used] at ih ⊢
      omega
theorem atN_hit2 {F : Nat → Fil} {n b : Nat} (h : Rises F n) (hb : b < n) : ∀ v, AtN F n (F b).nm v → v = (b : Int) := fun v hv => by
  by_cases h0 : 0 ≤ v
  · obtain ⟨h1, h2⟩ := hv.hit h0
    by_cases e : v.toNat = b
    · omega
    · exact absurd h2 (h.ne h1 hb e)
  · exact absurd rfl (hv.miss (by omega) b hb)
theorem size_ins {F : Nat → Fil} {y : Fil} {n k B : Nat} (h : FSize n F B) (hy : y.nm.size ≤ B ∧ y.len ≤ B) (hk : k ≤ n) : FSize (n + 1) (insG F y k) B := fun i hi => by
  unfold insG
  by_cases h1 : i < k
  · rw [if_pos h1]; exact h i (by omega)
  · by_cases h2 : i = k
    · rw [if_neg h1, if_pos h2]; exact hy
    · rw [if_neg h1, if_neg h2]; exact h (i - 1) (by omega)
theorem size_rem {F : Nat → Fil} {n a B : Nat} (h : FSize n F B) (ha : a < n) : FSize (n - 1) (remF F a) B := fun i hi => h _ (sh_lt ha hi)

theorem renameFile_both (Q : Int) (n : Nat) (F : Nat → Fil) (s t : ByteArray) (hs : s.size ≤ 1048576) (ht : t.size ≤ 1048576) (hq : -9223372036854775808 ≤ Q ∧ Q ≤ 9223372036854775807) (hn : n ≤ 1048576) (hz : FSize n F 1048576) (hbd : ∀ i, i < n → ∀ j, 0 ≤ (F i).f j ∧ (F i).f j ≤ 255) :
    ∃ (Q' c : Int) (m : Nat) (Fo : Nat → Fil), m ≤ 1048576 ∧ FSize m Fo 1048576 ∧ cK Fo m ≤ 4194304 ∧
      (∀ (w : World) (ao : Option Addr) (cap : Nat), FRow w ao n F → Calls Tryd.prog 24 #[.agg #[.int .i64 Q, .slice ao n cap], .string s, .string t] w fun e w' => SOut Q' c m Fo w e w') ∧
      (∀ (w : World) (ao : Option Addr) (cap : Nat), FRow w ao n F → ET w → Calls Tryd.prog 25 #[.agg #[.int .i64 Q, .slice ao n cap], .string s, .string t] w fun e w' => IOut Q' c m Fo w e w') := by
  by_cases hbad : (goodF Q n F && fnB s && fnB t) = false
  · exact ⟨0, 1, 0, F, by omega, fun i h => by omega, by unfold cK; simp [used], fun w ao cap hr => renameFile_spec_bad Q ao n cap F F s t hs ht _ _ _ rfl rfl rfl hbad w hr hq hn hz, fun w ao cap hr _ => renameFile_impl_bad Q ao n cap F F s t hs ht _ _ _ rfl rfl rfl hbad w hr hq hn hz⟩
  · have hG : goodF Q n F = true := by cases h : goodF Q n F <;> simp_all
    have hN : fnB s = true := by cases h : fnB s <;> simp_all
    have hM' : fnB t = true := by cases h : fnB t <;> simp_all
    obtain ⟨p1, p2, p3, hK, p4⟩ := good_parts hG
    have hcK : cK F n ≤ 4194304 := by unfold cK; omega
    by_cases hx : ∃ j, j < n ∧ (F j).nm = s
    · obtain ⟨a, ha, rfl⟩ := hx
      have hRi := (rises_of hK).rem ha
      have hu := used_remE (F := F) (a := a) (n - 1) (by omega)
      rw [show n - 1 + 1 = n by omega] at hu
      by_cases hy : ∃ b, b < n - 1 ∧ (remF F a b).nm = t
      · obtain ⟨b, hb, rfl⟩ := hy
        have hR := rank_rem hRi hb
        have hu2 := used_remE (F := remF F a) (a := b) (n - 1 - 1) (by omega)
        rw [show n - 1 - 1 + 1 = n - 1 by omega] at hu2
        have hu3 := used_insG (F := remF (remF F a) b) (y := { F a with nm := (remF F a b).nm }) (n - 1 - 1) hR.le
        refine ⟨Q, 0, n - 1 - 1 + 1, insG (remF (remF F a) b) { F a with nm := (remF F a b).nm } b, by omega, size_ins (size_rem (size_rem hz ha) hb) ⟨ht, (hz a ha).2⟩ hR.le, by
          unfold cK
          rw [hu3]
          show 1 + 2 * (n - 1 - 1 + 1) + (used (remF (remF F a) b) (n - 1 - 1) + (F a).len) ≤ 4194304
          omega, fun w ao cap hr => ?_, fun w ao cap hr hE => ?_⟩
        · exact renameFile_spec_hit Q ao n cap F _ _ hs ht hG hN hM' a (n - 1 - 1) b ha (atN_hit hK ha rfl) (fun xs => xs.eraseIdx b) (sh b) hR (by omega) ⟨fun xs i x h => erase_sh i x h, fun xs h => by rw [List.length_eraseIdx, h, if_pos hb]⟩ (fun xs1 W fb base p c h1 h2 h3 h4 h5 h6 => l2Remove_hitX Q fb p (n - 1) c base (remF F a) _ b hb (atN_hit2 hRi hb) W h2 h3 h5 h6 (by omega) xs1 h1 h4) w hr hq hn hz
        · exact renameFile_impl_good Q ao n cap F _ _ hs ht hG hK hN hM' 0 (n - 1 - 1 + 1) _ (fun w bm S G hM hD => rename_out_old ha hb hK hbd hn w hM hD) w hE hr hq hn hz
      · have hm : ∀ j, j < n - 1 → (remF F a j).nm ≠ t := fun j hj e => hy ⟨j, hj, e⟩
        obtain ⟨k, hR⟩ := rank_ex2 hRi hm
        have hu3 := used_insG (F := remF F a) (y := { F a with nm := t }) (n - 1) hR.le
        refine ⟨Q, 0, n - 1 + 1, insG (remF F a) { F a with nm := t } k, by omega, size_ins (size_rem hz ha) ⟨ht, (hz a ha).2⟩ hR.le, by
          unfold cK
          rw [hu3]
          show 1 + 2 * (n - 1 + 1) + (used (remF F a) (n - 1) + (F a).len) ≤ 4194304
          omega, fun w ao cap hr => ?_, fun w ao cap hr hE => ?_⟩
        · exact renameFile_spec_hit Q ao n cap F _ t hs ht hG hN hM' a (n - 1) k ha (atN_hit hK ha rfl) (fun xs => xs) (fun i => i) hR (by omega) ⟨fun xs i x h => h, fun xs h => h⟩ (fun xs1 W fb base p c h1 h2 h3 h4 h5 h6 => l2Remove_missX Q fb p (n - 1) c base (remF F a) t (atN_miss hm) W h2 h5 h6 (by omega) xs1 h4) w hr hq hn hz
        · exact renameFile_impl_good Q ao n cap F _ t hs ht hG hK hN hM' 0 (n - 1 + 1) _ (fun w bm S G hM hD => rename_out_new ha hR hm hK hbd hn w hM hD) w hE hr hq hn hz
    · have hm : ∀ j, j < n → (F j).nm ≠ s := fun j hj e => hx ⟨j, hj, e⟩
      refine ⟨Q, 2, n, F, hn, hz, hcK, fun w ao cap hr => renameFile_spec_miss Q ao n cap F s t hs ht hG hN hM' (atN_miss hm) w hr hq hn hz, fun w ao cap hr hE => ?_⟩
      refine renameFile_impl_good Q ao n cap F s t hs ht hG hK hN hM' 2 n F (fun w bm S G hM hD => (rename_miss Q bm n F S s t hm w hM).mono ?_) w hE hr hq hn hz
      rintro e w' ⟨he, hb⟩
      exact mout_same he (errFault s 2 rfl) (.inr ⟨_, _, rfl⟩) hb hK hbd hn hM hD
end Go.Proofs.YtgedpjabjoodjaaDoor
