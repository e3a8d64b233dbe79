/- CrashFiles: both texts leave the same files and the same code. -/
import Derived.Test.YtgedpjabjoodjaaDoorSpecCrash
import Derived.Test.YtgedpjabjoodjaaDoorImplCrash
import Derived.Test.YtgedpjabjoodjaaDoorLawG
namespace Go.Proofs.YtgedpjabjoodjaaDoor
open Go.RowKit
set_option linter.unusedSimpArgs false
set_option linter.unusedVariables false

theorem used_fewer {F E : Nat → Fil} : ∀ n, (∀ i, i < n → (E i).len ≤ (F i).len) → used E n ≤ used F n
  | 0, _ => by simp [used]
  | n + 1, h => by
    have ih := used_fewer (F := F) (E := E) n (fun i hi => h i (by omega))
    have h1 := h n (by omega)
    simp only [used]
    omega

theorem crashFiles_both (Q : Int) (n : Nat) (F : Nat → Fil) (dn : Nat) (d : Nat → Int) (hbn : dn ≤ 1048576) (hq : -9223372036854775808 ≤ Q ∧ Q ≤ 9223372036854775807) (hn : n ≤ 1048576) (hz : FSize n F 1048576) (hbd : ∀ i, i < n → ∀ j, 0 ≤ (F i).f j ∧ (F i).f j ≤ 255) :
    ∃ (Q' c : Int) (m : Nat) (Fo : Nat → Fil), m ≤ 1048576 ∧ FSize m Fo 1048576 ∧ cK Fo m ≤ 4194304 ∧
      (∀ (w : World) (ao : Option Addr) (cap : Nat) (bo : Option Addr), FRow w ao n F → IRow w bo dn d → Calls Tryd.prog 31 #[.agg #[.int .i64 Q, .slice ao n cap], .slice bo dn dn] w fun e w' => SOut Q' c m Fo w e w') ∧
      (∀ (w : World) (ao : Option Addr) (cap : Nat) (bo : Option Addr), FRow w ao n F → IRow w bo dn d → ET w → Calls Tryd.prog 33 #[.agg #[.int .i64 Q, .slice ao n cap], .slice bo dn dn] w fun e w' => IOut Q' c m Fo w e w') := by
  cases hG : goodF Q n F
  · exact ⟨0, 1, 0, F, by omega, fun i h => by omega, by unfold cK; simp [used], fun w ao cap bo hr _ => crashFiles_spec_bad Q ao n cap F F _ hG w hr hq hn hz, fun w ao cap bo hr _ _ => crashFiles_impl_bad Q ao n cap F F _ hG w hr hq hn hz⟩
  · obtain ⟨p1, p2, p3, hK, p4⟩ := good_parts hG
    have hl : ∀ i, i < n → (crF F dn d n i).len ≤ (F i).len := fun i hi => by
      obtain ⟨s0, s1⟩ := ok_sy (hK i hi)
      rw [crF_at hi]
      exact crFil_len s0 s1
    have hu := used_fewer n hl
    exact ⟨Q, 0, n, crF F dn d n, hn, fun i hi => ⟨by rw [crF_nm]; exact (hz i hi).1, Nat.le_trans (hl i hi) (hz i hi).2⟩, by unfold cK; omega,
      fun w ao cap bo hr hd => crashFiles_spec_good Q ao n cap F bo dn dn d (Nat.le_refl _) hG hK p3 w hd hr hq hz,
      fun w ao cap bo hr hd hE => crashFiles_impl_good Q ao n cap F bo dn dn d (Nat.le_refl _) hbn hG hK hbd p3 w hd hE hr hq hz⟩
end Go.Proofs.YtgedpjabjoodjaaDoor
