/- What crash leaves, as files. -/
import Derived.Test.YtgedpjabjoodjaaDoorCrX
import Derived.Test.YtgedpjabjoodjaaDoorMOut
import Derived.Test.YtgedpjabjoodjaaDoorDiskX
namespace Go.Proofs.YtgedpjabjoodjaaDoor
open Go.RowKit
set_option linter.unusedSimpArgs false
set_option linter.unusedVariables false

theorem crF_at {F : Nat → Fil} {dn : Nat} {d : Nat → Int} {n i : Nat} (hi : i < n) : crF F dn d n i = crFil F dn d i := by unfold crF; rw [if_pos hi]
theorem crF_ok {F : Nat → Fil} {dn : Nat} {d : Nat → Int} {n : Nat} (hK : ∀ i, i < n → fileOk F i = true) : ∀ i, i < n → fileOk (crF F dn d n) i = true := by
  intro i hi
  have h := hK i hi
  obtain ⟨s0, s1⟩ := ok_sy h
  have hb := stay_bd (dn := dn) (d := d) s0 s1
  simp only [fileOk, Bool.and_eq_true, decide_eq_true_eq] at h ⊢
  rw [crF_nm, crF_nm]
  refine ⟨⟨⟨h.1.1.1, h.1.1.2⟩, ?_⟩, ?_⟩
  · rw [crF_at hi]
    unfold crFil
    split
    · exact s0
    · show 0 ≤ stayD F dn d i
      omega
  · rw [crF_at hi]
    unfold crFil
    split
    · exact s1
    · show stayD F dn d i ≤ ((stayD F dn d i).toNat : Int)
      omega
theorem cr_down {w w' : World} {bm n dn : Nat} {F : Nat → Fil} {S : Nat → Value} {d : Nat → Int} {G : Nat → Nat} (hK : ∀ i, i < n → fileOk F i = true) (hD : DOwn w (bm + 2) n F S G) (hs : w.heap.size ≤ w'.heap.size) (hoth : ∀ j, j < w.heap.size → j ≠ bm → w'.heap[j]? = w.heap[j]?) : DOwn w' (bm + 2) n (crF F dn d n) (Sk F S dn d n) G := by
  refine ⟨fun i hi => ?_, hD.low, fun i hi => Nat.le_trans (hD.up i hi) hs, hD.mono⟩
  obtain ⟨s0, s1⟩ := ok_sy (hK i hi)
  have hlow := hD.low i hi
  have kept : ∀ m, m ≤ (F i).len → Own w (G i) 0 (F i).len (F i).f → Own w' (G i) 0 m (F i).f := fun m hm ho => by
    have hb := hoth (G i) ho.lt (by omega)
    exact ⟨ho.bd, Nat.lt_of_lt_of_le ho.lt hs, fun j hj => (World.cell?_of_block (w := w) (a := ⟨G i, 0 + j, none⟩) hb).trans (ho.cell j (by omega)), fun j hj => (World.frozen?_of_block (w := w) (a := ⟨G i, 0 + j, none⟩) hb).trans (ho.free j (by omega))⟩
  rw [crF_at hi]
  by_cases hl : loose F i = 0
  · have e1 : crFil F dn d i = F i := by simp [crFil, hl]
    have e2 : Sk F S dn d n i = S i := by simp [Sk, hl]
    rw [e1, e2]
    rcases hD.data i hi with h | ⟨c, e, ho⟩
    · exact .inl h
    · exact .inr ⟨c, e, kept _ (Nat.le_refl _) ho⟩
  · have hb := stay_bd (dn := dn) (d := d) s0 s1
    rcases hD.data i hi with ⟨h0, _⟩ | ⟨c, e, ho⟩
    · exact absurd (show loose F i = 0 by unfold loose; omega) hl
    · have e1 : crFil F dn d i = { F i with len := (stayD F dn d i).toNat, sy := stayD F dn d i } := by simp [crFil, hl]
      refine .inr ⟨(stayD F dn d i).toNat, ?_, ?_⟩
      · rw [e1]
        simp [Sk, hl, hi, e, sAd]
      · rw [e1]
        exact kept (stayD F dn d i).toNat (by omega) ho

theorem dlen_of {w : World} {bm n : Nat} {F : Nat → Fil} {S : Nat → Value} {G : Nat → Nat} (hD : DOwn w (bm + 2) n F S G) (hDR : DRow w (bm + 2) n F S) : ∀ i, i < n → ∃ da dc, S i = .slice da (F i).len dc ∧ (F i).len ≤ dc ∧ ((F i).len ≠ 0 → ∃ g, da = some ⟨g, 0, none⟩) := by
  intro i hi
  rcases (hDR i hi).1.2 with ⟨e, h0⟩ | ⟨g, cap, cur, e, _, _, hc, _⟩
  · exact ⟨none, 0, by rw [e, h0], by omega, fun h => absurd h0 h⟩
  · exact ⟨some ⟨g, 0, none⟩, cap, e, hc, fun _ => ⟨g, rfl⟩⟩

theorem crash_out (Q : Int) (bm n : Nat) (F : Nat → Fil) (S : Nat → Value) (G : Nat → Nat) (bo : Option Addr) (dn bc : Nat) (d : Nat → Int) (hdn : dn ≤ bc) (hbc : dn ≤ 1048576) (HK : Hid (∀ i, i < n → fileOk F i = true)) (hbd : ∀ i, i < n → ∀ j, 0 ≤ (F i).f j ∧ (F i).f j ≤ 255) (hn : n ≤ 40) (hz : FSize n F 1048576) (w : World) (hb : w.heap[bm]? = some (.map (ents F S n) n)) (hD : DOwn w (bm + 2) n F S G) (hDR : DRow w (bm + 2) n F S) (hd : IRow w bo dn d) (hlo : ∀ b off, bo = some ⟨b, off, none⟩ → dn ≠ 0 → b ≠ bm) :
    Calls Tryd.prog 61 #[.agg #[.int .i64 Q, .map (some bm)], .slice bo dn bc] w fun e w' => ∃ (L : List (FT × Nat)) (zs : List FT), e = .returned (.tuple #[]) ∧ MHas w' bm L n ∧ L.length ≤ 1048576 ∧ zs.Perm (L.map (·.1)) ∧ zs.Pairwise (fun x y => Op.bytesLess x.1.toList y.1.toList = true) ∧ ZOwn w' bm n zs (crF F dn d n) G ∧ Below bm w w' ∧ ∀ j, j < w.heap.size → j ≠ bm → w'.heap[j]? = w.heap[j]? := by
  refine (crash_any Q bm n F S bo dn bc d hdn hbc HK hn hz w hb (dlen_of hD hDR) hd hlo).mono ?_
  rintro e w' ⟨rfl, hM, hbel, hoth⟩
  have hD' := cr_down (dn := dn) (d := d) HK.out hD hbel.size hoth
  exact ⟨_, _, rfl, hM, by rw [lOf_len]; omega, List.Perm.refl _, rising_of (crF_ok HK.out), zown_of hD' (fun i hi j => by rw [crF_f]; exact hbd i hi j), hbel, hoth⟩
end Go.Proofs.YtgedpjabjoodjaaDoor
