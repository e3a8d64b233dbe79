/- AddEvent of a board, where the windows change, in the program (made by mkai.py). / The boxes that the model's AddEvent works in. / AddEvent in the model: a good board that is full (made by mkas.py). / The model's agg of one value with its list told; appends of windows; slices of windows. -/
import Derived.Test.YtpggmgmdcccmeaaTr
import Derived.Test.YtpggmgmdcccmeaaAeO
import Derived.Test.YtpggmgmdcccmeaaAeN
import Derived.Test.YtpggmgmdcccmeaaAeE
import Derived.Test.YtpggmgmdcccmeaaAeZ
namespace Go.Proofs.Ytpggmgmdcccmeaa
open Go.RowKit
set_option linter.unusedSimpArgs false
set_option linter.unusedVariables false

set_option maxRecDepth 100000 in
set_option maxHeartbeats 8000000 in
theorem addEvent_impl_put (z h mk t v : Int) (ao : Option Addr) (n cap n' : Nat) (X Y' X' : Nat → Wn) (S' : ByteArray → Prop) (x : Wn) (a0 : Option Addr) (c0 : Nat) (w : World) (hr : WiRow w ao n X) (hn : n ≤ 1048576) (hz : WiSize n X) (hG : Hid (GBd z h mk n X)) (rt : TRow w a0 x.tn x.nm x.vl)
    (hcall : ∀ (base p r lo : Nat) (sv : Value) (V : Nat → Value) (W : World), WSt W base p r z h mk sv n (cln X) V (dS X n) → TRow W a0 x.tn x.nm x.vl → lo ≤ p ∧ lo ≤ r ∧ base ≤ W.heap.size → Calls Try.prog 31 #[.pointer (some ⟨p, 0, none⟩), .agg #[.string x.m, .slice a0 x.tn c0, .int .i64 x.st], .int .i64 t, .int .i64 v] W fun e w' => AdO base p r lo z h mk n' Y' S' W e w')
    (hg' : Hid (∀ i, i < n' → gK (Y' i) = true)) (hn' : n' ≤ 1048576) (hX : Hid (∀ b : Nat → Bool, (∀ i, i < n' → (b i = true ↔ S' (kS (Y' i)))) → ∀ i, i < n' → tldB Y' b n' i = X' i)) :
    Calls Try.prog 10 #[.agg #[.int .i64 z, .int .i64 h, .int .i64 mk, .slice ao n cap], .agg #[.string x.m, .slice a0 x.tn c0, .int .i64 x.st], .int .i64 t, .int .i64 v] w fun e w' => BAns z h mk n' X' 0 w e w' := by
  have hB : ∀ o o' o'', Below w.heap.size w (((w.alloc o).alloc o').alloc o'') := fun o o' o'' => ((below_new w o).alloc (by simp) _).alloc (by simp; omega) _
  go_enter Try.func10, Try.ntmps10
  go_wp2_with fail
  refine (openBoard_good z h mk ao n cap X _ (hr.keep (hB _ _ _)) hn hz hG).mono ?_
  rintro e w1 ⟨base, p, r, v1, V, rfl, hp, hrr, rfl, HW, q1⟩
  have bw : Below w.heap.size w w1 := (hB _ _ _).trans (q1.mono (by simp; omega))
  have d0 := q1.cell (p := ⟨w.heap.size + 1 + 1, 0, none⟩) (by simp)
  have d1 := q1.cell (p := ⟨w.heap.size + 1 + 1, 1, none⟩) (by simp)
  have d2 := q1.cell (p := ⟨w.heap.size + 1 + 1, 2, none⟩) (by simp)
  have d3 := q1.cell (p := ⟨w.heap.size + 1 + 1, 3, none⟩) (by simp)
  have g0 := q1.cell (p := ⟨w.heap.size + 1, 0, none⟩) (by simp)
  have g1 := q1.cell (p := ⟨w.heap.size + 1, 1, none⟩) (by simp)
  have g2 := q1.cell (p := ⟨w.heap.size + 1, 2, none⟩) (by simp)
  have df : ∀ j, w1.frozen? ⟨w.heap.size + 1 + 1, j, none⟩ = false := fun j => (q1.frozen (p := ⟨w.heap.size + 1 + 1, j, none⟩) (by simp)).trans (by simp [go_sem])
  simp [go_sem] at d0 d1 d2 d3 g0 g1 g2 hp hrr
  have hpl := HW.box.lt
  clear q1 hB
  have hc1 := hcall (p + 1) p r (w.heap.size + 1 + 1 + 1) v1 V w1 HW (rt.keep bw) ⟨by omega, by omega, by omega⟩
  clear hcall
  go_wp2_with fail
  refine hc1.mono ?_
  rintro e w2 ⟨top, v2, rfl, HW2, q2⟩
  have bw2 := bw.trans (q2.mono (by omega))
  have s2 := q2.size
  have tl := tellB_any (p + 1) top p r z h mk v2 n' Y' S' _ HW2 hg' hn' (by omega)
  clear hc1
  go_wp2_with fail
  refine tl.mono ?_
  clear tl
  rintro e w3 ⟨v', b, rfl, hb, hA, _, q3⟩
  obtain ⟨va, vc, rfl⟩ := hA.form
  have hA' := hA.congr (hX.out b hb)
  have htop := hA.1
  have s3 := q3.size
  have y0 := (q2.cell (p := ⟨w.heap.size + 1 + 1, 0, none⟩) (by show w.heap.size + 1 + 1 < w.heap.size + 1 + 1 + 1; omega)).trans d0
  have y1 := (q2.cell (p := ⟨w.heap.size + 1 + 1, 1, none⟩) (by show w.heap.size + 1 + 1 < w.heap.size + 1 + 1 + 1; omega)).trans d1
  have y2 := (q2.cell (p := ⟨w.heap.size + 1 + 1, 2, none⟩) (by show w.heap.size + 1 + 1 < w.heap.size + 1 + 1 + 1; omega)).trans d2
  have y3 := (q2.cell (p := ⟨w.heap.size + 1 + 1, 3, none⟩) (by show w.heap.size + 1 + 1 < w.heap.size + 1 + 1 + 1; omega)).trans d3
  have x0 := (q3.cell (p := ⟨w.heap.size + 1 + 1, 0, none⟩) (by show w.heap.size + 1 + 1 < p + 1; omega)).trans y0
  have x1 := (q3.cell (p := ⟨w.heap.size + 1 + 1, 1, none⟩) (by show w.heap.size + 1 + 1 < p + 1; omega)).trans y1
  have x2 := (q3.cell (p := ⟨w.heap.size + 1 + 1, 2, none⟩) (by show w.heap.size + 1 + 1 < p + 1; omega)).trans y2
  have x3 := (q3.cell (p := ⟨w.heap.size + 1 + 1, 3, none⟩) (by show w.heap.size + 1 + 1 < p + 1; omega)).trans y3
  have xf : ∀ j, w3.frozen? ⟨w.heap.size + 1 + 1, j, none⟩ = false := fun j => (q3.frozen (p := ⟨w.heap.size + 1 + 1, j, none⟩) (by show w.heap.size + 1 + 1 < p + 1; omega)).trans ((q2.frozen (p := ⟨w.heap.size + 1 + 1, j, none⟩) (by show w.heap.size + 1 + 1 < w.heap.size + 1 + 1 + 1; omega)).trans (df j))
  have bw3 : Below w.heap.size w w3 := bw2.trans (q3.mono (by omega))
  clear q3 q2 hA hb d0 d1 d2 d3 y0 y1 y2 y3 g0 g1 g2 df
  go_wp2
  refine bodyPost_ret (v := .tuple #[.agg #[.int .i64 z, .int .i64 h, .int .i64 mk, .slice va n' vc], .int .i64 0]) (by simp [results, Try.results10, go_sem, x0, x1, x2, x3]) rfl ⟨.slice va n' vc, rfl, ?_, ?_⟩
  · refine BA.mono (hA'.same (by simp) (fun c h1 h2 => ?_)) (by omega) (by simp; omega) (Nat.le_refl _)
    repeat rw [set_blk _ _ _ _ _ (by omega)]
  · repeat' refine Below.setCell ?_ (by first | (simp; done) | (simp; omega)) _
    exact bw3
end Go.Proofs.Ytpggmgmdcccmeaa
namespace Go.Proofs.Ytpggmgmdcccmeaa
open Go.RowKit
set_option linter.unusedSimpArgs false
set_option linter.unusedVariables false

/-- The board, the key and the answer in their boxes. -/
structure MB (w W : World) (z h mk : Int) (sv : Value) (m : ByteArray) (kv : Value) (st : Int) : Prop where
  B : BdAt W w.heap.size z h mk sv
  Bf : ∀ j, W.frozen? ⟨w.heap.size, j, none⟩ = false
  K : KAt W (w.heap.size + 1) m kv st
  Kf : ∀ j, W.frozen? ⟨w.heap.size + 1, j, none⟩ = false
  R : BdAt W (w.heap.size + 1 + 1) 0 0 0 (.slice none 0 0)
  Rf : ∀ j, W.frozen? ⟨w.heap.size + 1 + 1, j, none⟩ = false
  bw : Below w.heap.size w W
section
variable {w W W' : World} {z h mk : Int} {sv : Value} {m : ByteArray} {kv : Value} {st : Int}
theorem MB.keep (H : MB w W z h mk sv m kv st) (hb : Below W.heap.size W W') : MB w W' z h mk sv m kv st :=
  ⟨H.B.keep hb, fun j => (hb.frozen (p := ⟨w.heap.size, j, none⟩) H.B.lt).trans (H.Bf j), H.K.keep hb, fun j => (hb.frozen (p := ⟨w.heap.size + 1, j, none⟩) H.K.lt).trans (H.Kf j), H.R.keep hb, fun j => (hb.frozen (p := ⟨w.heap.size + 1 + 1, j, none⟩) H.R.lt).trans (H.Rf j), H.bw.trans (hb.mono H.bw.size)⟩
theorem KAt.oth {d b : Nat} (H : KAt W b m kv st) (ho : Others d W W') (hne : b ≠ d) : KAt W' b m kv st :=
  have k : ∀ j, W'.cell? ⟨b, j, none⟩ = W.cell? ⟨b, j, none⟩ := fun j => World.cell?_of_block (w := W) (a := ⟨b, j, none⟩) (ho.block b hne)
  ⟨by rw [ho.size]; exact H.lt, (k _).trans H.c0, (k _).trans H.c1, (k _).trans H.c2⟩
theorem fz_oth {d b : Nat} (H : ∀ j, W.frozen? ⟨b, j, none⟩ = false) (ho : Others d W W') (hne : b ≠ d) : ∀ j, W'.frozen? ⟨b, j, none⟩ = false :=
  fun j => (World.frozen?_of_block (w := W) (a := ⟨b, j, none⟩) (ho.block b hne)).trans (H j)
theorem MB.oth {d : Nat} (H : MB w W z h mk sv m kv st) (ho : Others d W W') (hd : w.heap.size + 3 ≤ d) : MB w W' z h mk sv m kv st :=
  ⟨H.B.others ho (by omega), fz_oth H.Bf ho (by omega), H.K.oth ho (by omega), fz_oth H.Kf ho (by omega), H.R.others ho (by omega), fz_oth H.Rf ho (by omega), H.bw.trans (ho.below (by omega))⟩
theorem MB.grow (H : MB w W z h mk sv m kv st) {row : Option Nat} (hg : W.grownBy W' row) (hr : ∀ k, row = some k → w.heap.size + 3 ≤ k) : MB w W' z h mk sv m kv st := by
  have hb : ∀ c, c < w.heap.size + 3 → W'.heap[c]? = W.heap[c]? := fun c hc => hg.block c (by have := H.R.lt; omega) (fun e => by have := hr c e.symm; omega)
  have k : ∀ c j, c < w.heap.size + 3 → W'.cell? ⟨c, j, none⟩ = W.cell? ⟨c, j, none⟩ := fun c j hc => World.cell?_of_block (w := W) (a := ⟨c, j, none⟩) (hb c hc)
  have f : ∀ c j, c < w.heap.size + 3 → W'.frozen? ⟨c, j, none⟩ = W.frozen? ⟨c, j, none⟩ := fun c j hc => World.frozen?_of_block (w := W) (a := ⟨c, j, none⟩) (hb c hc)
  have hs := hg.size
  have l1 := H.B.lt
  have l2 := H.K.lt
  have l3 := H.R.lt
  exact ⟨⟨by omega, (k _ _ (by omega)).trans H.B.c0, (k _ _ (by omega)).trans H.B.c1, (k _ _ (by omega)).trans H.B.c2, (k _ _ (by omega)).trans H.B.c3⟩, fun j => (f _ _ (by omega)).trans (H.Bf j), ⟨by omega, (k _ _ (by omega)).trans H.K.c0, (k _ _ (by omega)).trans H.K.c1, (k _ _ (by omega)).trans H.K.c2⟩, fun j => (f _ _ (by omega)).trans (H.Kf j), ⟨by omega, (k _ _ (by omega)).trans H.R.c0, (k _ _ (by omega)).trans H.R.c1, (k _ _ (by omega)).trans H.R.c2, (k _ _ (by omega)).trans H.R.c3⟩, fun j => (f _ _ (by omega)).trans (H.Rf j), H.bw.grown hg (by omega) (fun c e => by have := hr c e; omega)⟩
/-- The board's box written. -/
def setBd (W : World) (b : Nat) (z h mk : Int) (sv : Value) : World := (((W.setCell ⟨b, 0, none⟩ (.int .i64 z)).setCell ⟨b, 1, none⟩ (.int .i64 h)).setCell ⟨b, 2, none⟩ (.int .i64 mk)).setCell ⟨b, 3, none⟩ sv
theorem setBd_oth (W : World) (b : Nat) (z h mk : Int) (sv : Value) : Others b W (setBd W b z h mk sv) := (((Others.setCell _ _ _ _).trans (Others.setCell _ _ _ _)).trans (Others.setCell _ _ _ _)).trans (Others.setCell _ _ _ _)
theorem setBd_at {b : Nat} {z0 h0 mk0 : Int} {sv0 : Value} (H : BdAt W b z0 h0 mk0 sv0) (z h mk : Int) (sv : Value) : BdAt (setBd W b z h mk sv) b z h mk sv := by
  obtain ⟨lt, c0, c1, c2, c3⟩ := H
  refine ⟨by rw [(setBd_oth W b z h mk sv).size]; exact lt, ?_, ?_, ?_, ?_⟩ <;> simp [setBd, go_sem, c0, c1, c2, c3]
theorem MB.putB (H : MB w W z h mk sv m kv st) (z' h' mk' : Int) (sv' : Value) : MB w (setBd W w.heap.size z' h' mk' sv') z' h' mk' sv' m kv st :=
  have ho := setBd_oth W w.heap.size z' h' mk' sv'
  ⟨setBd_at H.B _ _ _ _, fun j => by simp [setBd, go_sem, H.Bf], H.K.oth ho (by omega), fz_oth H.Kf ho (by omega), H.R.others ho (by omega), fz_oth H.Rf ho (by omega), H.bw.trans (ho.below (Nat.le_refl _))⟩
/-- The board's windows written. -/
theorem MB.put3 (H : MB w W z h mk sv m kv st) (sv' : Value) : MB w (W.setCell ⟨w.heap.size, 3, none⟩ sv') z h mk sv' m kv st :=
  have ho := Others.setCell W w.heap.size 3 sv'
  ⟨⟨by rw [ho.size]; exact H.B.lt, (World.cell?_setCell_other _ _ _ _ (adr_ne (by decide))).trans H.B.c0, (World.cell?_setCell_other _ _ _ _ (adr_ne (by decide))).trans H.B.c1, (World.cell?_setCell_other _ _ _ _ (adr_ne (by decide))).trans H.B.c2, World.cell?_setCell_same _ _ _ H.B.c3⟩, fun j => (frozen_set _ _ _ _).trans (H.Bf j), H.K.oth ho (by omega), fz_oth H.Kf ho (by omega), H.R.others ho (by omega), fz_oth H.Rf ho (by omega), H.bw.trans (ho.below (Nat.le_refl _))⟩
/-- The key's box written, then its start. -/
def setKy (W : World) (b : Nat) (m : ByteArray) (kv : Value) (st T : Int) : World := (((W.setCell ⟨b, 0, none⟩ (.string m)).setCell ⟨b, 1, none⟩ kv).setCell ⟨b, 2, none⟩ (.int .i64 st)).setCell ⟨b, 2, none⟩ (.int .i64 T)
theorem setKy_oth (W : World) (b : Nat) (m : ByteArray) (kv : Value) (st T : Int) : Others b W (setKy W b m kv st T) := (((Others.setCell _ _ _ _).trans (Others.setCell _ _ _ _)).trans (Others.setCell _ _ _ _)).trans (Others.setCell _ _ _ _)
theorem MB.putK (H : MB w W z h mk sv m kv st) (m' : ByteArray) (kv' : Value) (st' T : Int) : MB w (setKy W (w.heap.size + 1) m' kv' st' T) z h mk sv m' kv' T := by
  have ho := setKy_oth W (w.heap.size + 1) m' kv' st' T
  obtain ⟨lt, c0, c1, c2⟩ := H.K
  refine ⟨H.B.others ho (by omega), fz_oth H.Bf ho (by omega), ⟨by rw [ho.size]; exact lt, ?_, ?_, ?_⟩, fun j => by simp [setKy, go_sem, H.Kf], H.R.others ho (by omega), fz_oth H.Rf ho (by omega), H.bw.trans (ho.below (by omega))⟩
  · simp [setKy, go_sem, c0, c1, c2]
  · simp [setKy, go_sem, c0, c1, c2]
  · exact World.cell?_setCell_same _ _ _ (World.cell?_setCell_same _ _ _ (((World.cell?_setCell_other _ _ _ _ (adr_ne (by decide))).trans (World.cell?_setCell_other _ _ _ _ (adr_ne (by decide)))).trans c2))
theorem MB.new (w : World) (z h mk : Int) (sv : Value) (m : ByteArray) (kv : Value) (st : Int) : MB w (((w.alloc (.cells #[.int .i64 z, .int .i64 h, .int .i64 mk, sv] 25)).alloc (.cells #[.string m, kv, .int .i64 st] 32)).alloc (.cells #[.int .i64 0, .int .i64 0, .int .i64 0, .slice none 0 0] 25)) z h mk sv m kv st := by
  have q1 := below_new w (.cells #[.int .i64 z, .int .i64 h, .int .i64 mk, sv] 25)
  have q2 := below_new (w.alloc (.cells #[.int .i64 z, .int .i64 h, .int .i64 mk, sv] 25)) (.cells #[.string m, kv, .int .i64 st] 32)
  have q3 := below_new ((w.alloc (.cells #[.int .i64 z, .int .i64 h, .int .i64 mk, sv] 25)).alloc (.cells #[.string m, kv, .int .i64 st] 32)) (.cells #[.int .i64 0, .int .i64 0, .int .i64 0, .slice none 0 0] 25)
  have hK := (KAt.new (w.alloc (.cells #[.int .i64 z, .int .i64 h, .int .i64 mk, sv] 25)) m kv st 32).keep q3
  have hR := BdAt.new ((w.alloc (.cells #[.int .i64 z, .int .i64 h, .int .i64 mk, sv] 25)).alloc (.cells #[.string m, kv, .int .i64 st] 32)) 0 0 0 (.slice none 0 0) 25
  simp only [World.size_alloc] at hK hR
  exact ⟨((BdAt.new w z h mk sv 25).keep q2).keep q3, fun j => by simp [go_sem], hK, fun j => by simp [go_sem], hR, fun j => by simp [go_sem], (q1.trans (q2.mono (by simp))).trans (q3.mono (by simp; omega))⟩
end
end Go.Proofs.Ytpggmgmdcccmeaa
namespace Go.Proofs.Ytpggmgmdcccmeaa
open Go.RowKit
set_option linter.unusedSimpArgs false
set_option linter.unusedVariables false

set_option maxRecDepth 100000 in
set_option maxHeartbeats 16000000 in
theorem addEvent_spec_full (z h mk t v : Int) (ao : Option Addr) (n cap q : Nat) (X : Nat → Wn) (x : Wn) (a0 : Option Addr) (c00 : Nat) (w : World) (hr : WiRow w ao n X) (hn : n ≤ 1048576) (hz : WiSize n X) (hG : Hid (GBd z h mk n X)) (rt : TRow w a0 x.tn x.nm x.vl) (hk : KSz x) (hE : Hid (evK x t v)) (hmh : -9223372036854775808 ≤ mk - h ∧ mk - h ≤ 9223372036854775807) (hl : ¬ t < mk - h)
    (hP : Hid (PosK X n (evX x (t - t % z)) q)) (hyes : Hid (¬ (q < n ∧ kc (X q) (evX x (t - t % z)) = 0))) (h40 : Hid (n = 40)) :
    Calls Try.prog 11 #[.agg #[.int .i64 z, .int .i64 h, .int .i64 mk, .slice ao n cap], .agg #[.string x.m, .slice a0 x.tn c00, .int .i64 x.st], .int .i64 t, .int .i64 v] w fun e w' => BAns z h mk n X 3 w e w' := by
  have hw : IntKind.i64.wrap (mk - h) = mk - h := by rw [IntKind.wrap_i64] <;> omega
  have hbd := hr.bd
  have hfX := hr.fb
  have hgX : Hid (∀ i, i < n → gK (X i) = true) := fun i hi => (hG.out.wins.each i hi).key
  have hgT : Hid (gK (evX x (t - t % z)) = true) := evX_good hE.out.2.2.1 hE.out.2.1 hG.out.size
  have h1t : 0 ≤ t ∧ t ≤ 1000000000 := by have := hE.out.2.1; simpa [isTm, btw] using this
  have h1z : 1 ≤ z ∧ z ≤ 100000 := by have := hG.out.size; simpa [isSz, btw] using this
  have m1 := Int.emod_lt_of_pos t (show 0 < z by omega)
  have m2 := Int.emod_nonneg t (show z ≠ 0 by omega)
  have hz0 : ¬ z = 0 := by omega
  have hw0 : IntKind.i64.wrap (t % z) = t % z := by rw [IntKind.wrap_i64] <;> omega
  have hwT : IntKind.i64.wrap (t - t % z) = t - t % z := by rw [IntKind.wrap_i64] <;> omega
  clear m1 m2
  have M0 := MB.new w z h mk (.slice ao n cap) x.m (.slice a0 x.tn c00) x.st
  go_enter Try.func11, Try.ntmps11
  go_wp2_with fail
  generalize ((w.alloc (.cells #[.int .i64 z, .int .i64 h, .int .i64 mk, .slice ao n cap] 25)).alloc (.cells #[.string x.m, .slice a0 x.tn c00, .int .i64 x.st] 32)).alloc (.cells #[.int .i64 0, .int .i64 0, .int .i64 0, .slice none 0 0] 25) = w0 at M0 ⊢
  refine (goodBoard_spec z h mk ao n cap X _ (hr.keep M0.bw) hn hz).mono ?_
  rintro e w1 ⟨b1, rfl, h1, q1⟩
  have M1 := M0.keep q1
  have e1 : b1 = true := h1.2 hG.out
  subst e1
  have s1 := M1.R.lt
  clear h1 q1 M0
  obtain ⟨_, c0, c1, c2, c3⟩ := id M1.B
  go_wp2_with fail
  refine (l11Own_any z h mk ao n cap X _ (hr.keep M1.bw) hn hz).mono ?_
  rintro e w2 ⟨v', V, rfl, hO, q2⟩
  obtain ⟨va, vc, rfl⟩ := ownsRow_form hO.own
  have hO := hO.mono (base' := w.heap.size + 3) (by omega)
  have M2 := M1.keep q2
  have M4 := M2.putB z h mk (.slice va n vc)
  have hO4 := hO.others (setBd_oth w2 w.heap.size z h mk (.slice va n vc)) (by omega)
  clear c0 c1 c2 c3 M1 q2 hO hr
  obtain ⟨_, c0, c1, c2, c3⟩ := id M2.B
  obtain ⟨_, g0, g1, g2⟩ := id M2.K
  have cf := M2.Bf
  go_wp2_with fail
  change Calls _ _ _ (setBd w2 w.heap.size z h mk (.slice va n vc)) _
  generalize setBd w2 w.heap.size z h mk (.slice va n vc) = w4 at M4 hO4 ⊢
  clear M2 c0 c1 c2 c3 cf g0 g1 g2
  refine (goodKey_spec x.m x.st a0 x.tn c00 x.nm x.vl _ (rt.keep M4.bw) hk.m hk.tn hk.ts).mono ?_
  rintro e w5 ⟨rfl, q5⟩
  have M5 := M4.keep q5
  have hO5 := hO4.keep q5
  obtain ⟨hv, ht, hgx, hst⟩ := hE.out
  have hgx' : goodB x.m x.tn x.nm x.vl x.st = true := hgx
  rw [hgx']
  rw [hst] at M5
  clear hst hgx hgx' M4 hO4 q5
  obtain ⟨_, g0, g1, g2⟩ := id M5.K
  obtain ⟨_, b0, b1, b2, b3⟩ := id M5.B
  go_wp2_with fail
  refine (l11Time_any t _).mono ?_
  rintro e w6 ⟨rfl, rfl⟩
  rw [ht]
  go_wp2_with fail
  refine (l4Value_any v _).mono ?_
  rintro e w7 ⟨rfl, rfl⟩
  rw [hv]
  have hld : decide (t < mk - h) = false := decide_eq_false (by omega)
  go_wp2_with fail
  refine (l11OwnKey_any x.m 0 a0 x.tn c00 x.nm x.vl _ (rt.keep M5.bw) hk.tn).mono ?_
  rintro e w8 ⟨kv, rfl, hown, q8⟩
  obtain ⟨ka, kcp, rfl⟩ := ownsRow_form hown
  have M8 := M5.keep q8
  have hO8 := hO5.keep q8
  have M9 := M8.putK x.m (.slice ka x.tn kcp) 0 (t - t % z)
  have hO9 := hO8.others (setKy_oth w8 (w.heap.size + 1) x.m (.slice ka x.tn kcp) 0 (t - t % z)) (by omega)
  have hsl := M5.R.lt
  have o9 := ownsRow_others hown (setKy_oth w8 (w.heap.size + 1) x.m (.slice ka x.tn kcp) 0 (t - t % z)) (fun hk => by have := (hown.lt _ hk).1; omega)
  have far : ∀ k, (Value.slice ka x.tn kcp).ownBlock = some k → w7.heap.size ≤ k ∧ k < w8.heap.size := fun k hk => hown.lt k hk
  have vl : ∀ k, (Value.slice va n vc).ownBlock = some k → w.heap.size + 3 ≤ k ∧ k < w7.heap.size := fun k hk => hO5.own.lt k hk
  have Vl : ∀ i k, i < n * 2 → (V i).ownBlock = some k → k < w7.heap.size := fun i k hi hk => (hO5.lt hi hk).2
  have sz8 := q8.size
  clear g0 g1 g2 b0 b1 b2 b3 M5 hO5 q8 hown hO8
  obtain ⟨_, g0, g1, g2⟩ := id M8.K
  obtain ⟨_, b0, b1, b2, b3⟩ := id M8.B
  have gf := M8.Kf
  have k2 : ((((w8.setCell ⟨w.heap.size + 1, 0, none⟩ (.string x.m)).setCell ⟨w.heap.size + 1, 1, none⟩ (.slice ka x.tn kcp)).setCell ⟨w.heap.size + 1, 2, none⟩ (.int .i64 0)).setCell ⟨w.heap.size + 1, 2, none⟩ (.int .i64 (t - t % z))).cell? ⟨w.heap.size + 1, 2, none⟩ = some (.int .i64 (t - t % z)) := M9.K.c2
  go_wp2_with fail
  change Calls _ _ _ (setKy w8 (w.heap.size + 1) x.m (.slice ka x.tn kcp) 0 (t - t % z)) _
  have sz9 := (setKy_oth w8 (w.heap.size + 1) x.m (.slice ka x.tn kcp) 0 (t - t % z)).size
  generalize setKy w8 (w.heap.size + 1) x.m (.slice ka x.tn kcp) 0 (t - t % z) = w9 at M9 hO9 o9 sz9 ⊢
  clear M8 k2 g0 g1 g2 b0 b1 b2 b3 gf hw0 hwT hz0 h1t h1z
  generalize hTT : t - t % z = T at *
  have HT : Hid (t - t % z = T) := hTT
  clear hTT
  refine (l11At_any z h mk va ka n vc kcp q X (evX x T) _ ((ba_of hO9 hfX).row hbd hfX).2 hn hgX hgT (trow_of o9) hP).mono ?_
  rintro e wa ⟨bb, rfl, hbb, qa⟩
  have ebb : bb = false := by
    cases bb
    · rfl
    · exact absurd (hbb.1 rfl) hyes.out
  subst ebb
  have Ma := M9.keep qa
  have hOa := hO9.keep qa
  have oa := ownsRow_keep o9 qa
  have sza := qa.size
  clear M9 hO9 o9 qa hbb
  obtain ⟨_, g0, g1, g2⟩ := id Ma.K
  obtain ⟨_, b0, b1, b2, b3⟩ := id Ma.B
  obtain ⟨_, d0, d1, d2, d3⟩ := id Ma.R
  have df := Ma.Rf
  have hnI : ((n : Int) == 40) = true := by rw [h40.out]; rfl
  have hA := ba_of hOa hfX
  have bwa := Ma.bw
  clear hOa Ma oa
  go_wp2
  refine bodyPost_ret (v := .tuple #[.agg #[.int .i64 z, .int .i64 h, .int .i64 mk, .slice va n vc], .int .i64 3]) (by simp [results, Try.results11, go_sem, b0, b1, b2, b3, d0, d1, d2, d3]) rfl ⟨.slice va n vc, rfl, ?_, ?_⟩
  · refine BA.mono (hA.same (by simp) (fun c h1 h2 => ?_)) (by omega) (by simp; try omega) (Nat.le_refl _)
    repeat rw [set_blk _ _ _ _ _ (by omega)]
  · repeat' refine Below.setCell ?_ (by first | (simp; done) | (simp; omega)) _
    exact bwa
end Go.Proofs.Ytpggmgmdcccmeaa
namespace Go.Proofs.Ytpggmgmdcccmeaa
open Go.RowKit
set_option linter.unusedSimpArgs false
set_option linter.unusedVariables false

/-- An agg of one value, its list told. -/
def OfO (v : Int) (f : Nat → Int) (w : World) (e : Ending) (w' : World) : Prop :=
  ∃ g, e = .returned (.agg #[.int .i64 1, .int .i64 v, .int .i64 v, .int .i64 v, .slice (some ⟨g, 0, none⟩) 8 8, .bool false]) ∧ w.heap.size ≤ g ∧ w'.ownsRow w.heap.size 3 1 (.slice (some ⟨g, 0, none⟩) 8 8) 8 (icells f 8) ∧ Below w.heap.size w w'
theorem set8 {q : Nat} (hq : q < 8) : (icells (fun _ => 0) 8).set q (.int .i64 1) = icells (fun i => if i = q then 1 else 0) 8 := by
  have : q = 0 ∨ q = 1 ∨ q = 2 ∨ q = 3 ∨ q = 4 ∨ q = 5 ∨ q = 6 ∨ q = 7 := by omega
  rcases this with rfl | rfl | rfl | rfl | rfl | rfl | rfl | rfl <;> rfl
set_option maxRecDepth 100000 in
set_option maxHeartbeats 4000000 in
theorem l4Of_own (v : Int) (w : World) (hv : isV v = true) :
    Calls Try.prog 35 #[.int .i64 v] w fun e w' => OfO v (oA v).f w e w' := by
  obtain ⟨q, hq, eq⟩ := bk_nat v
  have hcall : ∀ W, Calls Try.prog 62 #[.int .i64 v] W fun e w' => e = .returned (.int .i64 (q : Int)) ∧ w' = W := fun W => by rw [← eq]; exact l4Bucket_any v W hv
  rw [oA_f eq]
  clear eq
  obtain ⟨i0, hi, hz0, hz1, hz2⟩ := info_parts Try.infoInt
  have hB := below_new w (.cells #[.int .i64 0, .int .i64 0, .int .i64 0, .int .i64 0, .slice none 0 0, .bool false] 35)
  have R0 := AAt.new w 0 0 0 0 (.slice none 0 0) false 35
  have F0 : ∀ j, (w.alloc (.cells #[.int .i64 0, .int .i64 0, .int .i64 0, .int .i64 0, .slice none 0 0, .bool false] 35)).frozen? ⟨w.heap.size, j, none⟩ = false := fun j => by simp [go_sem]
  go_enter Try.func35, Try.ntmps35
  go_wp2_with (at_make; generalize w.alloc (.cells #[.int .i64 0, .int .i64 0, .int .i64 0, .int .i64 0, .slice none 0 0, .bool false] 35) = w0 at hB R0 F0 ⊢; refine wpList_make_full _ rfl (.const (.int .i64 8)) (.const (.int .i64 8)) 33 rfl w0.heap.size 3 i0 (.int .i64 0) 1 Try.underlying33 hi hz0 hz1 .i64 .i64 _ _ 8 rfl rfl rfl rfl (by rw [hz2]; omega) (by unfold maxLen; omega) (Nat.le_refl _) ?_; intro w1 hown hgrow; have hb1 : Below w0.heap.size w0 w1 := (Below.refl _ _).grown hgrow (Nat.le_refl _) (fun k h => by simp at h))
  have hGl : w0.heap.size < w1.heap.size := by
    rcases hown.2 with ⟨h, _⟩ | ⟨g', cap', cur, h, _, hg, _⟩
    · simp at h
    · simp at h; obtain ⟨rfl, _⟩ := h
      exact (Array.getElem?_eq_some_iff.1 hg).1
  have oG := iown_of_made hown hGl
  have oR := ownsRow_mono hown (base' := w.heap.size) hB.size
  rw [made8] at oR
  have hB2 := below_new w1 (.cells #[.int .i64 1, .int .i64 v, .int .i64 v, .int .i64 v, .slice (some ⟨w0.heap.size, 0, none⟩) 8 8, .bool false] 35)
  have A4 := AAt.new w1 1 v v v (.slice (some ⟨w0.heap.size, 0, none⟩) 8 8) false 35
  have z4 : ∀ j, (w1.alloc (.cells #[.int .i64 1, .int .i64 v, .int .i64 v, .int .i64 v, .slice (some ⟨w0.heap.size, 0, none⟩) 8 8, .bool false] 35)).frozen? ⟨w1.heap.size, j, none⟩ = false := fun j => by simp [go_sem]
  have R1 := R0.keep hb1
  have R4 := R1.keep hB2
  have F4 := fun j => (hB2.frozen (p := ⟨w.heap.size, j, none⟩) R1.lt).trans ((hb1.frozen (p := ⟨w.heap.size, j, none⟩) R0.lt).trans (F0 j))
  have H4 := oG.keep hB2
  have oR := ownsRow_keep oR hB2
  have hlt : w.heap.size < w1.heap.size := R1.lt
  have hGw : w.heap.size ≠ w0.heap.size := by have := R0.lt; omega
  have hwG : w.heap.size ≤ w0.heap.size := hB.size
  have bw4 : Below w.heap.size w (w1.alloc (.cells #[.int .i64 1, .int .i64 v, .int .i64 v, .int .i64 v, .slice (some ⟨w0.heap.size, 0, none⟩) 8 8, .bool false] 35)) := (hB.trans (hb1.mono hB.size)).trans (hB2.mono (Nat.le_of_lt hlt))
  clear hown hgrow hb1 hB2 hB R0 F0 oG R1 hi hz0 hz1 hz2
  generalize w1.alloc (.cells #[.int .i64 1, .int .i64 v, .int .i64 v, .int .i64 v, .slice (some ⟨w0.heap.size, 0, none⟩) 8 8, .bool false] 35) = w4 at A4 z4 R4 F4 H4 bw4 oR ⊢
  generalize w0.heap.size = G at A4 R4 H4 hGw hwG hGl oR ⊢
  obtain ⟨A5, H5, R5, F5⟩ := ago_set (w1 := w1) A4 H4 R4 F4 (by omega) hGw hq
  have bw5 : Below w.heap.size w (w4.setCell ⟨G, q, none⟩ (.int .i64 1)).drew := (Below.setCell bw4 (by simpa using hwG) _).drew
  have oR5 := ((oR.stored q (.int .i64 1)).1).drew
  rw [set8 hq] at oR5
  have hc := H4.cell q hq
  have hf := H4.free q hq
  rw [Nat.zero_add] at hc hf
  obtain ⟨_, b0, b1, b2, b3, b4, b5⟩ := A4
  clear R4 F4 H4 bw4 oR
  go_region_with (first | (go_at_call 62; refine (hcall _).mono ?_; rintro e w6 ⟨rfl, rfl⟩))
  all_goals
    clear hcall b0 b1 b2 b3 b4 b5 z4 hc hf
    generalize (w4.setCell ⟨G, q, none⟩ (.int .i64 1)).drew = w5 at A5 H5 R5 F5 bw5 oR5 ⊢
    obtain ⟨_, c0, c1, c2, c3, c4, c5⟩ := A5
    obtain ⟨_, r0, r1, r2, r3, r4, r5⟩ := R5
    go_wp2
    show bodyPost Try.prog Try.f35 (fun e w' => OfO v (fun i => if i = q then 1 else 0) w e w') _ _ _
    refine bodyPost_ret (v := .agg #[.int .i64 1, .int .i64 v, .int .i64 v, .int .i64 v, .slice (some ⟨G, 0, none⟩) 8 8, .bool false]) (by simp [results, Try.results35, go_sem, r0, r1, r2, r3, r4, r5]) rfl ⟨G, rfl, hwG, ?_, ?_⟩
    · repeat' refine ownsRow_others ?_ (Others.setCell _ _ _ _) (fun hk => by injection hk with hk; exact hGw hk.symm)
      exact oR5
    · repeat' refine Below.setCell ?_ (by first | (simp; done) | (simp; omega)) _
      exact bw5


/-- Windows put behind windows of the call's own. -/
theorem appW (w : World) (base : Nat) (v0 : Value) (m : Nat) (xs : List Value) (h0 : w.ownsRow base 39 11 v0 m xs) (ao : Option Addr) (n hc : Nat) (cs : List Value) (hl : cs.length = n * 11)
    (hrd : n = 0 ∨ ∃ b off, ao = some ⟨b, off, none⟩ ∧ ∀ j u, cs[j]? = some u → w.cell? ⟨b, off + j, none⟩ = some u) (h1 : ∀ u ∈ cs, u.oneCell' = true) (hn : n ≤ 1000) (hm : m ≤ 1000) (hbase : base ≤ w.heap.size) (ty : TypeId) :
    ∃ va vc w', (Builtin.append_ #[23, 23] ty #[v0, .slice ao n hc]).run Try.prog w = .ok (.slice va (m + n) vc) w' ∧ w'.ownsRow base 39 11 (.slice va (m + n) vc) (m + n) (xs ++ cs) ∧ w.grownBy w' v0.ownBlock ∧ ((Value.slice va (m + n) vc).ownBlock = v0.ownBlock ∨ (Value.slice va (m + n) vc).ownBlock = some w.heap.size) := by
  obtain ⟨i0, hi, hz0, hz1, hz2⟩ := info_parts Try.infoWi
  have key : ∀ a : Addr, (∀ j u, cs[j]? = some u → w.cell? (a.add j) = some u) → ∃ va vc w', (Builtin.append_ #[23, 23] ty #[v0, .slice (some a) n hc]).run Try.prog w = .ok (.slice va (m + n) vc) w' ∧ w'.ownsRow base 39 11 (.slice va (m + n) vc) (m + n) (xs ++ cs) ∧ w.grownBy w' v0.ownBlock ∧ ((Value.slice va (m + n) vc).ownBlock = v0.ownBlock ∨ (Value.slice va (m + n) vc).ownBlock = some w.heap.size) := fun a ha => by
    obtain ⟨v', w', hr, ho, hg, _, hb⟩ := run_append_own_at (P := Try.prog) w base 23 ty 39 i0 _ 11 128 Try.underlying23 hi hz0 hz1 hz2 rfl (by decide) v0 m xs h0 a n hc cs hl ha h1 (by unfold maxLen; omega) (by omega) hbase
    obtain ⟨va, vc, rfl⟩ := ownsRow_form ho
    exact ⟨va, vc, w', hr, ho, hg, hb⟩
  by_cases hn0 : n = 0
  · subst hn0
    obtain rfl : cs = [] := List.eq_nil_of_length_eq_zero (by simpa using hl)
    cases ao with
    | some a => exact key a (fun j u hu => by simp at hu)
    | none =>
      obtain ⟨a0, c0, rfl⟩ := ownsRow_form h0
      refine ⟨a0, c0, w, ?_, by simpa using h0, ⟨rfl, rfl, rfl, Nat.le_refl _, fun _ _ _ => rfl⟩, .inl rfl⟩
      have hmc : m ≤ c0 := by
        rcases h0.2 with ⟨e, _⟩ | ⟨g, cap, cur, e, _, _, h3, _⟩
        · injection e with _ e2 e3; omega
        · injection e with _ e2 e3; omega
      cases a0 <;> simp [Builtin.append_, run_underlying Try.underlying23, sizeOf, typeInfo, hi, Builtin.lenOf, Builtin.firstCells, loadCells, loadCellsFrom, storeCells, hmc]
  · obtain ⟨b, off, rfl, hcl⟩ := hrd.resolve_left hn0
    exact key ⟨b, off, none⟩ (fun j u hu => by
      rw [show (⟨b, off, none⟩ : Addr).add j = ⟨b, off + j, none⟩ from by unfold Addr.add; split <;> simp_all]
      exact hcl j u hu)
/-- The first q of a slice of windows. -/
theorem run_front (va : Option Addr) (n vc q : Nat) (hq : q ≤ vc) (hv : ∃ g, va = none ∨ va = some ⟨g, 0, none⟩) (w : World) : (Instr.slice 23 (.slice va n vc) none (some (.int .i64 (q : Int))) none).run Try.prog w = .ok (.slice va q vc) w := by
  obtain ⟨i0, hi, hz0, hz1, hz2⟩ := info_parts Try.infoWi
  have h1 : (0 : Int) ≤ (q : Int) ∧ (q : Int) ≤ (vc : Int) := by omega
  obtain ⟨g, rfl | rfl⟩ := hv
  · simp [Instr.slice, Instr.sliceBounds, Instr.sliceBound, asIntOf, run_underlying Try.underlying23, sizeOf, typeInfo, hi, hq, Result.andThen]
  · simp [Instr.slice, Instr.sliceBounds, Instr.sliceBound, asIntOf, run_underlying Try.underlying23, sizeOf, typeInfo, hi, hq, Result.andThen, Addr.add]
/-- Where the rest of a slice of windows lies. -/
def vtl (va : Option Addr) (vc q : Nat) : Option Addr := if vc = q then va else va.map (·.add (q * 11))
theorem run_rest (va : Option Addr) (n vc q : Nat) (hq : q ≤ n) (hn : n ≤ vc) (w : World) : (Instr.slice 23 (.slice va n vc) (some (.int .i64 (q : Int))) none none).run Try.prog w = .ok (.slice (vtl va vc q) (n - q) (vc - q)) w := by
  obtain ⟨i0, hi, hz0, hz1, hz2⟩ := info_parts Try.infoWi
  have h1 : (0 : Int) ≤ (q : Int) ∧ (q : Int) ≤ (n : Int) := by omega
  simp [Instr.slice, Instr.sliceBounds, Instr.sliceBound, asIntOf, run_underlying Try.underlying23, sizeOf, typeInfo, hi, hq, hz1, Result.andThen, vtl]
theorem vtl_some {g vc q : Nat} (h : q < vc) : vtl (some ⟨g, 0, none⟩) vc q = some ⟨g, q * 11, none⟩ := by
  unfold vtl
  rw [if_neg (by omega)]
  simp [Addr.add]
  intro h; exact h.symm
end Go.Proofs.Ytpggmgmdcccmeaa
