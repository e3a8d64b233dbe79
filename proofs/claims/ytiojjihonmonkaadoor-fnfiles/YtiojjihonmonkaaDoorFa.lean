/- What a law over files holds while it goes on. / CrashFiles: both texts leave the same files and the same code. / What a crash leaves of good files. -/
import Derived.Test.YtiojjihonmonkaaDoorReadLaw
import Derived.Test.YtiojjihonmonkaaDoorSpecCrash
import Derived.Test.YtiojjihonmonkaaDoorImplCrash
namespace Go.Proofs.YtiojjihonmonkaaDoor
open Go.RowKit
set_option linter.unusedSimpArgs false
set_option linter.unusedVariables false

theorem FV.mid {w w' : World} {B U n : Nat} {ao : Option Addr} {F : Nat → Fil} {G : Nat → Nat} (h : FV w B U ao n F G) (hs : w.heap.size ≤ w'.heap.size) (hb : ∀ k, B ≤ k → k < U → k < w.heap.size → w'.heap[k]? = w.heap[k]?) : FV w' B U ao n F G := by
  rcases h with h | ⟨b, rfl, h⟩
  · exact .inl h
  · have hlt := h.lt
    have hrg := h.range
    have cl : ∀ b' j, B ≤ b' → b' < U → b' < w.heap.size → w'.cell? ⟨b', j, none⟩ = w.cell? ⟨b', j, none⟩ := fun b' j h1 h3 h2 => World.cell?_of_block (w := w) (a := ⟨b', j, none⟩) (hb b' h1 h3 h2)
    have fz : ∀ b' j, B ≤ b' → b' < U → b' < w.heap.size → w'.frozen? ⟨b', j, none⟩ = w.frozen? ⟨b', j, none⟩ := fun b' j h1 h3 h2 => World.frozen?_of_block (w := w) (a := ⟨b', j, none⟩) (hb b' h1 h3 h2)
    refine .inr ⟨b, rfl, by omega, fun i hi => ?_, fun j hj => (fz b j hrg.1 hrg.2.1 hlt).trans (h.free j hj), h.bd, h.self, h.apart, h.range⟩
    obtain ⟨da, dc, c0, c1, c2, hd⟩ := h.cell i hi
    refine ⟨da, dc, (cl b _ hrg.1 hrg.2.1 hlt).trans c0, (cl b _ hrg.1 hrg.2.1 hlt).trans c1, (cl b _ hrg.1 hrg.2.1 hlt).trans c2, ?_⟩
    rcases hd with h0 | ⟨e, ho⟩
    · exact .inl h0
    · by_cases h0 : (F i).len = 0
      · exact .inl h0
      · have := hrg.2.2 i hi h0
        exact .inr ⟨e, ho.bd, by have := ho.lt; omega, fun j hj => (cl _ _ this.1 this.2 ho.lt).trans (ho.cell j hj), fun j hj => (fz _ _ this.1 this.2 ho.lt).trans (ho.free j hj)⟩

structure RG (w w3 : World) (B U XB GB : Nat) (Q : Int) (ao : Option Addr) (n cap g4 : Nat) (F : Nat → Fil) (G4 : Nat → Nat) (Q' : Int) (m : Nat) (a3 : Option Addr) (c3 : Nat) (Fo : Nat → Fil) (a5 : Option Addr) (c5 : Nat) (Fx : Nat → Fil) (G5 : Nat → Nat) (wr : World) : Prop where
  ord : w.heap.size < w3.heap.size ∧ w3.heap.size < B ∧ B ≤ U ∧ U ≤ XB ∧ XB < GB ∧ GB < wr.heap.size
  ka : QAt wr w.heap.size Q (.slice ao n cap)
  kw : QAt wr w3.heap.size Q' (.slice a3 m c3)
  kx : QAt wr XB Q (.slice (some ⟨g4, 0, none⟩) n n)
  kg : QAt wr GB Q' (.slice a5 m c5)
  fx : FV wr B U (some ⟨g4, 0, none⟩) n F G4
  r3 : FRow w3 a3 m Fo
  b3 : Below w3.heap.size w3 wr
  fg : FV wr (XB + 1) GB a5 m Fx G5
  bel : Below w.heap.size w wr
section
variable {w w3 wr w' : World} {B U XB GB : Nat} {Q : Int} {ao : Option Addr} {n cap g4 : Nat} {F : Nat → Fil} {G4 : Nat → Nat} {Q' : Int} {m : Nat} {a3 : Option Addr} {c3 : Nat} {Fo : Nat → Fil} {a5 : Option Addr} {c5 : Nat} {Fx : Nat → Fil} {G5 : Nat → Nat}
theorem RG.keep (h : RG w w3 B U XB GB Q ao n cap g4 F G4 Q' m a3 c3 Fo a5 c5 Fx G5 wr) (hb : Below wr.heap.size wr w') : RG w w3 B U XB GB Q ao n cap g4 F G4 Q' m a3 c3 Fo a5 c5 Fx G5 w' := by
  obtain ⟨o1, o2, o3, o4, o5, o6⟩ := h.ord
  have hs := hb.size
  exact ⟨⟨o1, o2, o3, o4, o5, by omega⟩, h.ka.keep hb, h.kw.keep hb, h.kx.keep hb, h.kg.keep hb, h.fx.keep hb, h.r3, h.b3.trans (hb.mono (by omega)), h.fg.keep hb, h.bel.trans (hb.mono (by omega))⟩
theorem RG.files (h : RG w w3 B U XB GB Q ao n cap g4 F G4 Q' m a3 c3 Fo a5 c5 Fx G5 wr) (M : Mid B U wr w') {F' : Nat → Fil} (hf : FV w' B U (some ⟨g4, 0, none⟩) n F' G4) : RG w w3 B U XB GB Q ao n cap g4 F' G4 Q' m a3 c3 Fo a5 c5 Fx G5 w' := by
  obtain ⟨o1, o2, o3, o4, o5, o6⟩ := h.ord
  have hs := M.size
  exact ⟨⟨o1, o2, o3, o4, o5, by omega⟩, M.qat h.ka (by omega), M.qat h.kw (by omega), M.qat h.kx (by omega), M.qat h.kg (by omega), hf, h.r3, h.b3.trans (M.below (by omega) (by omega)), h.fg.mid M.size (fun k h1 h2 h3 => M.block k h3 (by omega)), h.bel.trans (M.below (by omega) (by omega))⟩
theorem RG.gfiles (h : RG w w3 B U XB GB Q ao n cap g4 F G4 Q' m a3 c3 Fo a5 c5 Fx G5 wr) (M : Mid (XB + 1) GB wr w') {F' : Nat → Fil} (hf : FV w' (XB + 1) GB a5 m F' G5) : RG w w3 B U XB GB Q ao n cap g4 F G4 Q' m a3 c3 Fo a5 c5 F' G5 w' := by
  obtain ⟨o1, o2, o3, o4, o5, o6⟩ := h.ord
  have hs := M.size
  exact ⟨⟨o1, o2, o3, o4, o5, by omega⟩, M.qat h.ka (by omega), M.qat h.kw (by omega), M.qat h.kx (by omega), M.qat h.kg (by omega), h.fx.mid M.size (fun k h1 h2 h3 => M.block k h3 (by omega)), h.r3, h.b3.trans (M.below (by omega) (by omega)), hf, h.bel.trans (M.below (by omega) (by omega))⟩
theorem RG.row3 (h : RG w w3 B U XB GB Q ao n cap g4 F G4 Q' m a3 c3 Fo a5 c5 Fx G5 wr) : FRow wr a3 m Fo := h.r3.keep h.b3
end
theorem used_congr {F G : Nat → Fil} : ∀ n, (∀ i, i < n → (F i).len = (G i).len) → used F n = used G n
  | 0, _ => rfl
  | n + 1, h => by simp only [used]; rw [used_congr n (fun i hi => h i (by omega)), h n (by omega)]
end Go.Proofs.YtiojjihonmonkaaDoor
namespace Go.Proofs.YtiojjihonmonkaaDoor
open Go.RowKit
set_option linter.unusedSimpArgs false
set_option linter.unusedVariables false

theorem used_fewer {F E : Nat → Fil} : ∀ n, (∀ i, i < n → (E i).len ≤ (F i).len) → used E n ≤ used F n
  | 0, _ => by simp [used]
  | n + 1, h => by
    have ih := used_fewer (F := F) (E := E) n (fun i hi => h i (by omega))
    have h1 := h n (by omega)
    simp only [used]
    omega

theorem crashFiles_both (Q : Int) (n : Nat) (F : Nat → Fil) (dn : Nat) (d : Nat → Int) (hbn : dn ≤ 1048576) (hq : -9223372036854775808 ≤ Q ∧ Q ≤ 9223372036854775807) (hn : n ≤ 1048576) (hz : FSize n F 1048576) (hbd : ∀ i, i < n → ∀ j, 0 ≤ (F i).f j ∧ (F i).f j ≤ 255) :
    ∃ (Q' c : Int) (m : Nat) (Fo : Nat → Fil), m ≤ 1048576 ∧ FSize m Fo 1048576 ∧ cK Fo m ≤ 4194304 ∧
      (∀ (w : World) (ao : Option Addr) (cap : Nat) (bo : Option Addr), FRow w ao n F → IRow w bo dn d → Calls Tryd.prog 6 #[.agg #[.int .i64 Q, .slice ao n cap], .slice bo dn dn] w fun e w' => SOut Q' c m Fo w e w') ∧
      (∀ (w : World) (ao : Option Addr) (cap : Nat) (bo : Option Addr), FRow w ao n F → IRow w bo dn d → ET w → Calls Tryd.prog 5 #[.agg #[.int .i64 Q, .slice ao n cap], .slice bo dn dn] w fun e w' => IOut Q' c m Fo w e w') := by
  cases hG : goodF Q n F
  · exact ⟨0, 1, 0, F, by omega, fun i h => by omega, by unfold cK; simp [used], fun w ao cap bo hr _ => crashFiles_spec_bad Q ao n cap F F _ hG w hr hq hn hz, fun w ao cap bo hr _ _ => crashFiles_impl_bad Q ao n cap F F _ hG w hr hq hn hz⟩
  · obtain ⟨p1, p2, p3, hK, p4⟩ := good_parts hG
    have hl : ∀ i, i < n → (crF F dn d n i).len ≤ (F i).len := fun i hi => by
      obtain ⟨s0, s1⟩ := ok_sy (hK i hi)
      rw [crF_at hi]
      exact crFil_len s0 s1
    have hu := used_fewer n hl
    exact ⟨Q, 0, n, crF F dn d n, hn, fun i hi => ⟨by rw [crF_nm]; exact (hz i hi).1, Nat.le_trans (hl i hi) (hz i hi).2⟩, by unfold cK; omega,
      fun w ao cap bo hr hd => crashFiles_spec_good Q ao n cap F bo dn dn d (Nat.le_refl _) hG hK p3 w hd hr hq hz,
      fun w ao cap bo hr hd hE => crashFiles_impl_good Q ao n cap F bo dn dn d (Nat.le_refl _) hbn hG hK hbd p3 w hd hE hr hq hz⟩
end Go.Proofs.YtiojjihonmonkaaDoor
namespace Go.Proofs.YtiojjihonmonkaaDoor
open Go.RowKit
set_option linter.unusedSimpArgs false
set_option linter.unusedVariables false

/-- A file behind a crash: its name, no byte of the synced ones lost, its first bytes, and all of it synced. -/
structure Crd (x z : Fil) : Prop where
  nm : z.nm = x.nm
  lo : x.sy ≤ (z.len : Int)
  hi : z.len ≤ x.len
  f : z.f = x.f
  sy : z.sy = (z.len : Int)
theorem crd_of {F : Nat → Fil} {dn : Nat} {d : Nat → Int} {n i : Nat} (hi : i < n) (hK : fileOk F i = true) : Crd (F i) (crF F dn d n i) := by
  obtain ⟨s0, s1⟩ := ok_sy hK
  have hb := stay_bd (dn := dn) (d := d) s0 s1
  have hl := crFil_len (dn := dn) (d := d) s0 s1
  rw [crF_at hi]
  refine ⟨crFil_nm _ _ _ _, ?_, hl, crFil_f _ _ _ _, ?_⟩
  · unfold crFil
    split
    · exact s1
    · show (F i).sy ≤ ((stayD F dn d i).toNat : Int); omega
  · unfold crFil
    split
    · rename_i h; unfold loose at h; omega
    · show stayD F dn d i = ((stayD F dn d i).toNat : Int); omega
theorem good_cr {Q : Int} {n : Nat} {F : Nat → Fil} {dn : Nat} {d : Nat → Int} (h : goodF Q n F = true) : goodF Q n (crF F dn d n) = true := by
  obtain ⟨p1, p2, p3, hK, p4⟩ := good_parts h
  have hu := used_fewer (E := crF F dn d n) (F := F) n (fun i hi => (crd_of hi (hK i hi)).hi)
  exact good_yes p1 p2 p3 (crF_ok hK) (by omega)
end Go.Proofs.YtiojjihonmonkaaDoor
