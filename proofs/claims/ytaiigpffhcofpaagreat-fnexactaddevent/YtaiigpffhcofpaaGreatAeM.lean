/- The boxes that the model's AddEvent works in. -/
import Derived.Test.YtaiigpffhcofpaaGreatAeW
import Derived.Test.YtaiigpffhcofpaaGreatAeZ
namespace Go.Proofs.YtaiigpffhcofpaaGreat
set_option maxRecDepth 100000
open Go.RowKit
set_option linter.unusedSimpArgs false
set_option linter.unusedVariables false

/-- The board, the key and the answer in their boxes. -/
structure MB (w W : World) (z h mk : Int) (sv : Value) (m : ByteArray) (kv : Value) (st : Int) : Prop where
  B : BdAt W w.heap.size z h mk sv
  Bf : ∀ j, W.frozen? ⟨w.heap.size, j, none⟩ = false
  K : KAt W (w.heap.size + 1) m kv st
  Kf : ∀ j, W.frozen? ⟨w.heap.size + 1, j, none⟩ = false
  R : BdAt W (w.heap.size + 1 + 1) 0 0 0 (.slice none 0 0)
  Rf : ∀ j, W.frozen? ⟨w.heap.size + 1 + 1, j, none⟩ = false
  bw : Below w.heap.size w W
section
variable {w W W' : World} {z h mk : Int} {sv : Value} {m : ByteArray} {kv : Value} {st : Int}
theorem MB.keep (H : MB w W z h mk sv m kv st) (hb : Below W.heap.size W W') : MB w W' z h mk sv m kv st :=
  ⟨H.B.keep hb, fun j => (hb.frozen (p := ⟨w.heap.size, j, none⟩) H.B.lt).trans (H.Bf j), H.K.keep hb, fun j => (hb.frozen (p := ⟨w.heap.size + 1, j, none⟩) H.K.lt).trans (H.Kf j), H.R.keep hb, fun j => (hb.frozen (p := ⟨w.heap.size + 1 + 1, j, none⟩) H.R.lt).trans (H.Rf j), H.bw.trans (hb.mono H.bw.size)⟩
theorem KAt.oth {d b : Nat} (H : KAt W b m kv st) (ho : Others d W W') (hne : b ≠ d) : KAt W' b m kv st :=
  have k : ∀ j, W'.cell? ⟨b, j, none⟩ = W.cell? ⟨b, j, none⟩ := fun j => World.cell?_of_block (w := W) (a := ⟨b, j, none⟩) (ho.block b hne)
  ⟨by rw [ho.size]; exact H.lt, (k _).trans H.c0, (k _).trans H.c1, (k _).trans H.c2⟩
theorem fz_oth {d b : Nat} (H : ∀ j, W.frozen? ⟨b, j, none⟩ = false) (ho : Others d W W') (hne : b ≠ d) : ∀ j, W'.frozen? ⟨b, j, none⟩ = false :=
  fun j => (World.frozen?_of_block (w := W) (a := ⟨b, j, none⟩) (ho.block b hne)).trans (H j)
theorem MB.oth {d : Nat} (H : MB w W z h mk sv m kv st) (ho : Others d W W') (hd : w.heap.size + 3 ≤ d) : MB w W' z h mk sv m kv st :=
  ⟨H.B.others ho (by omega), fz_oth H.Bf ho (by omega), H.K.oth ho (by omega), fz_oth H.Kf ho (by omega), H.R.others ho (by omega), fz_oth H.Rf ho (by omega), H.bw.trans (ho.below (by omega))⟩
theorem MB.grow (H : MB w W z h mk sv m kv st) {row : Option Nat} (hg : W.grownBy W' row) (hr : ∀ k, row = some k → w.heap.size + 3 ≤ k) : MB w W' z h mk sv m kv st := by
  have hb : ∀ c, c < w.heap.size + 3 → W'.heap[c]? = W.heap[c]? := fun c hc => hg.block c (by have := H.R.lt; omega) (fun e => by have := hr c e.symm; omega)
  have k : ∀ c j, c < w.heap.size + 3 → W'.cell? ⟨c, j, none⟩ = W.cell? ⟨c, j, none⟩ := fun c j hc => World.cell?_of_block (w := W) (a := ⟨c, j, none⟩) (hb c hc)
  have f : ∀ c j, c < w.heap.size + 3 → W'.frozen? ⟨c, j, none⟩ = W.frozen? ⟨c, j, none⟩ := fun c j hc => World.frozen?_of_block (w := W) (a := ⟨c, j, none⟩) (hb c hc)
  have hs := hg.size
  have l1 := H.B.lt
  have l2 := H.K.lt
  have l3 := H.R.lt
  exact ⟨⟨by omega, (k _ _ (by omega)).trans H.B.c0, (k _ _ (by omega)).trans H.B.c1, (k _ _ (by omega)).trans H.B.c2, (k _ _ (by omega)).trans H.B.c3⟩, fun j => (f _ _ (by omega)).trans (H.Bf j), ⟨by omega, (k _ _ (by omega)).trans H.K.c0, (k _ _ (by omega)).trans H.K.c1, (k _ _ (by omega)).trans H.K.c2⟩, fun j => (f _ _ (by omega)).trans (H.Kf j), ⟨by omega, (k _ _ (by omega)).trans H.R.c0, (k _ _ (by omega)).trans H.R.c1, (k _ _ (by omega)).trans H.R.c2, (k _ _ (by omega)).trans H.R.c3⟩, fun j => (f _ _ (by omega)).trans (H.Rf j), H.bw.grown hg (by omega) (fun c e => by have := hr c e; omega)⟩
/-- The board's box written. -/
def setBd (W : World) (b : Nat) (z h mk : Int) (sv : Value) : World := (((W.setCell ⟨b, 0, none⟩ (.int .i64 z)).setCell ⟨b, 1, none⟩ (.int .i64 h)).setCell ⟨b, 2, none⟩ (.int .i64 mk)).setCell ⟨b, 3, none⟩ sv
theorem setBd_oth (W : World) (b : Nat) (z h mk : Int) (sv : Value) : Others b W (setBd W b z h mk sv) := (((Others.setCell _ _ _ _).trans (Others.setCell _ _ _ _)).trans (Others.setCell _ _ _ _)).trans (Others.setCell _ _ _ _)
theorem setBd_at {b : Nat} {z0 h0 mk0 : Int} {sv0 : Value} (H : BdAt W b z0 h0 mk0 sv0) (z h mk : Int) (sv : Value) : BdAt (setBd W b z h mk sv) b z h mk sv := by
  obtain ⟨lt, c0, c1, c2, c3⟩ := H
  refine ⟨by rw [(setBd_oth W b z h mk sv).size]; exact lt, ?_, ?_, ?_, ?_⟩ <;> simp [setBd, go_sem, c0, c1, c2, c3]
theorem MB.putB (H : MB w W z h mk sv m kv st) (z' h' mk' : Int) (sv' : Value) : MB w (setBd W w.heap.size z' h' mk' sv') z' h' mk' sv' m kv st :=
  have ho := setBd_oth W w.heap.size z' h' mk' sv'
  ⟨setBd_at H.B _ _ _ _, fun j => by simp [setBd, go_sem, H.Bf], H.K.oth ho (by omega), fz_oth H.Kf ho (by omega), H.R.others ho (by omega), fz_oth H.Rf ho (by omega), H.bw.trans (ho.below (Nat.le_refl _))⟩
/-- The board's windows written. -/
theorem MB.put3 (H : MB w W z h mk sv m kv st) (sv' : Value) : MB w (W.setCell ⟨w.heap.size, 3, none⟩ sv') z h mk sv' m kv st :=
  have ho := Others.setCell W w.heap.size 3 sv'
  ⟨⟨by rw [ho.size]; exact H.B.lt, (World.cell?_setCell_other _ _ _ _ (adr_ne (by decide))).trans H.B.c0, (World.cell?_setCell_other _ _ _ _ (adr_ne (by decide))).trans H.B.c1, (World.cell?_setCell_other _ _ _ _ (adr_ne (by decide))).trans H.B.c2, World.cell?_setCell_same _ _ _ H.B.c3⟩, fun j => (frozen_set _ _ _ _).trans (H.Bf j), H.K.oth ho (by omega), fz_oth H.Kf ho (by omega), H.R.others ho (by omega), fz_oth H.Rf ho (by omega), H.bw.trans (ho.below (Nat.le_refl _))⟩
/-- The key's box written, then its start. -/
def setKy (W : World) (b : Nat) (m : ByteArray) (kv : Value) (st T : Int) : World := (((W.setCell ⟨b, 0, none⟩ (.string m)).setCell ⟨b, 1, none⟩ kv).setCell ⟨b, 2, none⟩ (.int .i64 st)).setCell ⟨b, 2, none⟩ (.int .i64 T)
theorem setKy_oth (W : World) (b : Nat) (m : ByteArray) (kv : Value) (st T : Int) : Others b W (setKy W b m kv st T) := (((Others.setCell _ _ _ _).trans (Others.setCell _ _ _ _)).trans (Others.setCell _ _ _ _)).trans (Others.setCell _ _ _ _)
theorem MB.putK (H : MB w W z h mk sv m kv st) (m' : ByteArray) (kv' : Value) (st' T : Int) : MB w (setKy W (w.heap.size + 1) m' kv' st' T) z h mk sv m' kv' T := by
  have ho := setKy_oth W (w.heap.size + 1) m' kv' st' T
  obtain ⟨lt, c0, c1, c2⟩ := H.K
  refine ⟨H.B.others ho (by omega), fz_oth H.Bf ho (by omega), ⟨by rw [ho.size]; exact lt, ?_, ?_, ?_⟩, fun j => by simp [setKy, go_sem, H.Kf], H.R.others ho (by omega), fz_oth H.Rf ho (by omega), H.bw.trans (ho.below (by omega))⟩
  · simp [setKy, go_sem, c0, c1, c2]
  · simp [setKy, go_sem, c0, c1, c2]
  · exact World.cell?_setCell_same _ _ _ (World.cell?_setCell_same _ _ _ (((World.cell?_setCell_other _ _ _ _ (adr_ne (by decide))).trans (World.cell?_setCell_other _ _ _ _ (adr_ne (by decide)))).trans c2))
theorem MB.new (w : World) (z h mk : Int) (sv : Value) (m : ByteArray) (kv : Value) (st : Int) : MB w (((w.alloc (.cells #[.int .i64 z, .int .i64 h, .int .i64 mk, sv] 32)).alloc (.cells #[.string m, kv, .int .i64 st] 38)).alloc (.cells #[.int .i64 0, .int .i64 0, .int .i64 0, .slice none 0 0] 32)) z h mk sv m kv st := by
  have q1 := below_new w (.cells #[.int .i64 z, .int .i64 h, .int .i64 mk, sv] 32)
  have q2 := below_new (w.alloc (.cells #[.int .i64 z, .int .i64 h, .int .i64 mk, sv] 32)) (.cells #[.string m, kv, .int .i64 st] 38)
  have q3 := below_new ((w.alloc (.cells #[.int .i64 z, .int .i64 h, .int .i64 mk, sv] 32)).alloc (.cells #[.string m, kv, .int .i64 st] 38)) (.cells #[.int .i64 0, .int .i64 0, .int .i64 0, .slice none 0 0] 32)
  have hK := (KAt.new (w.alloc (.cells #[.int .i64 z, .int .i64 h, .int .i64 mk, sv] 32)) m kv st 38).keep q3
  have hR := BdAt.new ((w.alloc (.cells #[.int .i64 z, .int .i64 h, .int .i64 mk, sv] 32)).alloc (.cells #[.string m, kv, .int .i64 st] 38)) 0 0 0 (.slice none 0 0) 32
  simp only [World.size_alloc] at hK hR
  exact ⟨((BdAt.new w z h mk sv 32).keep q2).keep q3, fun j => by simp [go_sem], hK, fun j => by simp [go_sem], hR, fun j => by simp [go_sem], (q1.trans (q2.mono (by simp))).trans (q3.mono (by simp; omega))⟩
end
end Go.Proofs.YtaiigpffhcofpaaGreat
