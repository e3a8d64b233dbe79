/- SyncFile: both texts leave the same files and the same code. -/
import Derived.Test.YtgedpjabjoodjaaDoorSyncM
import Derived.Test.YtgedpjabjoodjaaDoorLawG
namespace Go.Proofs.YtgedpjabjoodjaaDoor
open Go.RowKit
set_option linter.unusedSimpArgs false
set_option linter.unusedVariables false

theorem syncFile_both (Q : Int) (n : Nat) (F : Nat → Fil) (s : ByteArray) (hs : s.size ≤ 1048576) (hq : -9223372036854775808 ≤ Q ∧ Q ≤ 9223372036854775807) (hn : n ≤ 1048576) (hz : FSize n F 1048576) (hbd : ∀ i, i < n → ∀ j, 0 ≤ (F i).f j ∧ (F i).f j ≤ 255) :
    ∃ (Q' c : Int) (m : Nat) (Fo : Nat → Fil), m ≤ 1048576 ∧ FSize m Fo 1048576 ∧ cK Fo m ≤ 4194304 ∧
      (∀ (w : World) (ao : Option Addr) (cap : Nat), FRow w ao n F → Calls Tryd.prog 22 #[.agg #[.int .i64 Q, .slice ao n cap], .string s] w fun e w' => SOut Q' c m Fo w e w') ∧
      (∀ (w : World) (ao : Option Addr) (cap : Nat), FRow w ao n F → ET w → Calls Tryd.prog 23 #[.agg #[.int .i64 Q, .slice ao n cap], .string s] w fun e w' => IOut Q' c m Fo w e w') := by
  by_cases hbad : (goodF Q n F && fnB s) = false
  · exact ⟨0, 1, 0, F, by omega, fun i h => by omega, by unfold cK; simp [used], fun w ao cap hr => syncFile_spec_bad Q ao n cap F F s hs _ _ rfl rfl hbad w hr hq hn hz, fun w ao cap hr _ => syncFile_impl_bad Q ao n cap F F s hs _ _ rfl rfl hbad w hr hq hn hz⟩
  · have hG : goodF Q n F = true := by cases h : goodF Q n F <;> simp_all
    have hN : fnB s = true := by cases h : fnB s <;> simp_all
    obtain ⟨p1, p2, p3, hK, p4⟩ := good_parts hG
    have hcK : cK F n ≤ 4194304 := by unfold cK; omega
    by_cases hx : ∃ j, j < n ∧ (F j).nm = s
    · obtain ⟨j, hj, rfl⟩ := hx
      have hlen : ∀ i, (syncF F j i).len = (F i).len := fun i => by unfold syncF; split <;> simp_all
      have hnm : ∀ i, (syncF F j i).nm = (F i).nm := fun i => by unfold syncF; split <;> simp_all
      refine ⟨Q, 0, n, syncF F j, hn, fun i hi => by rw [hlen, hnm]; exact hz i hi, by unfold cK; rw [used_congr n (fun i _ => hlen i)]; exact hcK, fun w ao cap hr => syncFile_spec_hit Q ao n cap F _ hs hG hN j hj (atN_hit hK hj rfl) w hr hq hn hz, fun w ao cap hr hE => ?_⟩
      exact syncFile_impl_good Q ao n cap F _ hs hG hK hN 0 n (syncF F j) (fun w bm S G hM hD => sync_out hj hK hbd hn w hM hD) w hE hr hq hn hz
    · have hm : ∀ j, j < n → (F j).nm ≠ s := fun j hj e => hx ⟨j, hj, e⟩
      refine ⟨Q, 2, n, F, hn, hz, hcK, fun w ao cap hr => syncFile_spec_miss Q ao n cap F s hs hG hN (atN_miss hm) w hr hq hn hz, fun w ao cap hr hE => ?_⟩
      refine syncFile_impl_good Q ao n cap F s hs hG hK hN 2 n F (fun w bm S G hM hD => (sync_miss Q bm n F S s hm w hM).mono ?_) w hE hr hq hn hz
      rintro e w' ⟨he, hb⟩
      exact mout_same he (errFault s 2 rfl) (.inr ⟨_, _, rfl⟩) hb hK hbd hn hM hD
end Go.Proofs.YtgedpjabjoodjaaDoor
