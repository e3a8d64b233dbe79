/- Bytes gathered in an array, by appends that fit. / KeyBytes, the program's text. / Times, sizes, and the start of a window: both texts, and the law of StartOf, walked. / Good aggs, in the program. / GoodAgg, in the program. -/
import Derived.Test.YtjdijikmdlklkaaKeyText
import Derived.Test.YtjdijikmdlklkaaWr
import Derived.Deep.AppendSrc
import Derived.Deep.RegionLaw
import Derived.Test.YtjdijikmdlklkaaAg
namespace Go.Proofs.Ytjdijikmdlklkaa
open Go.RowKit
set_option linter.unusedSimpArgs false
set_option linter.unusedVariables false

/-- Block b has room for cap bytes; the first L of them are l. -/
structure Fil (w : World) (b cap L : Nat) (l : List Int) : Prop where
  lt : b < w.heap.size
  len : L = l.length
  le : L ≤ cap
  bd : ∀ z ∈ l, 0 ≤ z ∧ z ≤ 255
  cell : ∀ i (h : i < l.length), w.cell? ⟨b, i, none⟩ = some (.int .u8 l[i])
  there : ∀ i, i < cap → (w.cell? ⟨b, i, none⟩).isSome = true
  free : ∀ i, i < cap → w.frozen? ⟨b, i, none⟩ = false

theorem Fil.keep {w w' : World} {b cap L : Nat} {l : List Int} (h : Fil w b cap L l) (hb : Below w.heap.size w w') : Fil w' b cap L l :=
  ⟨Nat.lt_of_lt_of_le h.lt hb.size, h.len, h.le, h.bd, fun i hi => (hb.cell (p := ⟨b, i, none⟩) h.lt).trans (h.cell i hi), fun i hi => by rw [hb.cell (p := ⟨b, i, none⟩) h.lt]; exact h.there i hi,
    fun i hi => (hb.frozen (p := ⟨b, i, none⟩) h.lt).trans (h.free i hi)⟩

theorem others_setCells (b : Nat) : ∀ (vs : List Value) (o : Nat) (w : World), Others b w (w.setCells b o vs)
  | [], o, w => Others.refl _ _
  | v :: r, o, w => (Others.setCell w b o v).trans (others_setCells b r (o + 1) _)

theorem Fil.more {w : World} {b cap L : Nat} {l : List Int} (h : Fil w b cap L l) (k : List Int) (hk : ∀ z ∈ k, 0 ≤ z ∧ z ≤ 255) (hle : L + k.length ≤ cap) :
    Fil (w.setCells b L (k.map (Value.int .u8))) b cap (L + k.length) (l ++ k) := by
  have hlen := h.len
  refine ⟨by rw [(others_setCells b _ _ _).size]; exact h.lt, by simp; omega, hle, ?_, ?_, ?_, ?_⟩
  · intro z hz
    exact (List.mem_append.1 hz).elim (h.bd z) (hk z)
  · intro i hi
    by_cases h1 : i < l.length
    · rw [World.cell?_setCells_out b _ _ _ _ (fun _ _ => by left; simp; omega), h.cell i h1, List.getElem_append_left h1]
    · have hj : i - L < k.length := by simp at hi; omega
      have := World.cell?_setCells_in b (k.map (Value.int .u8)) L w (fun j hj => h.there _ (by simp at hj; omega)) (i - L) (by simpa using hj)
      rw [show L + (i - L) = i from by omega] at this
      rw [this, List.getElem_append_right (by omega)]
      simp [hlen]
  · intro i hi
    by_cases h1 : L ≤ i ∧ i < L + k.length
    · have := World.cell?_setCells_in b (k.map (Value.int .u8)) L w (fun j hj => h.there _ (by simp at hj; omega)) (i - L) (by simp; omega)
      rw [show L + (i - L) = i from by omega] at this
      rw [this]; rfl
    · rw [World.cell?_setCells_out b _ _ _ _ (fun _ _ => by simp; omega)]
      exact h.there i hi
  · intro i hi
    rw [World.frozen?_setCells]
    exact h.free i hi

theorem src_byte (w : World) (c : Int) : Src Try.prog 1 76 (.slice (some ⟨w.heap.size, 0, none⟩) 1 1) 1 ([c].map (Value.int .u8)) (w.alloc (.cells #[.int .u8 c] 5)) :=
  Src.ofSlice _ Try.underlying76 _ 1 1 _ rfl (cell_one_new _ _ _) (by simp [Value.oneCell'])
theorem src_text (w : World) (s : ByteArray) : Src Try.prog 1 9 (.string s) s.size ((bytesOf s).map (Value.int .u8)) w := by
  have h := Src.ofString (P := Try.prog) w Try.underlying9 s
  have e : byteCells s = (bytesOf s).map (Value.int .u8) := by simp [byteCells, bytesOf]
  rw [e] at h
  exact h
theorem src_row {w : World} {g off n c : Nat} {f : Nat → Int} (h : Own w g off n f) : Src Try.prog 1 76 (.slice (some ⟨g, off, none⟩) n c) n (((List.range n).map f).map (Value.int .u8)) w :=
  Src.ofSlice _ Try.underlying76 _ n c _ (by simp) (fun j u hj => by
    have hjn : j < n := by
      have := (List.getElem?_eq_some_iff.1 hj).1
      simpa using this
    rw [Addr.add_lit, h.cell j hjn]
    simp [hjn] at hj
    rw [hj]) (by simp [Value.oneCell'])

/-- An append that fits. -/
theorem wpList_append_fil (w : World) {ops : Array Oper} {rest : List Oper} {o : Oper} {a : Act} {Q : Exit → Act → World → Prop}
    (hg : o.guard = none) (s x : Operand) (tx : TypeId) (hop : o.op = Op.call { callee := Callee.builtin Builtin.append, args := #[s, x], argTypes := #[76, tx] })
    (b cap L : Nat) (l : List Int) (hF : Fil w b cap L l) (hs : a.eval s = .slice (some ⟨b, 0, none⟩) L cap) (xv : Value) (hx : a.eval x = xv) (m : Nat) (k : List Int) (hk : ∀ z ∈ k, 0 ≤ z ∧ z ≤ 255)
    (hsrc : Src Try.prog 1 tx xv m (k.map (Value.int .u8)) w) (hle : L + m ≤ cap)
    (h : ∀ w' L', L' ≤ L + m → Fil w' b cap L' (l ++ k) → Others b w w' → wpList Try.prog ops Q rest (a.put o.dst (.slice (some ⟨b, 0, none⟩) L' cap)) w') :
    wpList Try.prog ops Q (o :: rest) a w := by
  obtain ⟨i0, hi, hz0, hz1, hz2⟩ := info_parts Try.info5
  have hm : m = k.length := by have := hsrc.newsLen; simp at this; omega
  subst hm
  have hsrc' : Src Try.prog i0.size tx xv k.length (k.map (Value.int .u8)) w := by rw [hz1]; exact hsrc
  have hrun := run_append_room_src (P := Try.prog) w 76 tx o.type 5 i0 Try.underlying76 hi b 0 L cap xv k.length (k.map (Value.int .u8)) hsrc' hle
    (fun j hj => by rw [hz1]; simp at hj; exact hF.there _ (by omega)) (fun j hj => by rw [hz1]; simp at hj; exact hF.free _ (by omega))
  rw [hz1] at hrun
  simp only [Nat.mul_one, Nat.zero_add] at hrun
  refine wpList_plain hg fun K hK' => ?_
  unfold Oper.wp
  simp [execOp, hop, resolve, invoke, builtin, hs, hx, hrun, Result.andThen]
  exact hK' _ _ (h _ _ (Nat.le_refl _) (hF.more k hk hle) (others_setCells b _ _ _))

theorem KAt.others {w w' : World} {b c : Nat} {m : ByteArray} {sv : Value} {st : Int} (h : KAt w b m sv st) (ho : Others c w w') (hne : b ≠ c) : KAt w' b m sv st :=
  have cl : ∀ j, w'.cell? ⟨b, j, none⟩ = w.cell? ⟨b, j, none⟩ := fun j => World.cell?_of_block (w := w) (a := ⟨b, j, none⟩) (ho.block b hne)
  ⟨by rw [ho.size]; exact h.lt, by rw [cl]; exact h.c0, by rw [cl]; exact h.c1, by rw [cl]; exact h.c2⟩

/-- What stays while bytes are gathered in block R: the key, its start's bytes, all that was there. -/
structure KR (w wr : World) (R : Nat) (m : ByteArray) (sv : Value) (st : Int) (gs os : Nat) : Prop where
  box : KAt wr w.heap.size m sv st
  start : Own wr gs os 8 (pf st 8)
  below : Below w.heap.size w wr
  neB : w.heap.size < R
  neS : gs ≠ R
theorem KR.step {w wr wa w' : World} {R : Nat} {m : ByteArray} {sv : Value} {st : Int} {gs os : Nat} (h : KR w wr R m sv st gs os) (hb : Below wr.heap.size wr wa) (hx : Others R wa w') : KR w w' R m sv st gs os :=
  ⟨(h.box.keep hb).others hx (Nat.ne_of_lt h.neB), hx.row (h.start.keep hb) h.neS, (h.below.trans (hb.mono h.below.size)).trans (hx.below (Nat.le_of_lt h.neB)), h.neB, h.neS⟩

theorem slice_arr_0m (t len : Nat) (ht : Try.prog.underlying t = some (.array len 5)) (a : Addr) (H : Int) (eh : H = (len : Int)) (w : World) :
    (Instr.sliceAt t (.pointer (some a)) none (some (.int .i64 0)) (some (.int .i64 H))).run Try.prog w = .ok (.slice (some a) 0 len) w := by
  obtain ⟨i0, hi, hz0, hz1, hz2⟩ := info_parts Try.info5
  subst eh
  have e1 : (0 : Int) ≤ (len : Int) := by omega
  simp [Instr.sliceAt, Instr.sureAddr, run_underlying ht, Instr.sliceBounds, run_sliceBound, sizeOf, typeInfo, hi, hz1, e1, Addr.add]

/-- The same, as one step of a statement whose order is open. -/
theorem step_append_fil {ops : Array Oper} {o : Oper} {a : Act} {w : World} {K : Act → World → Prop} {Q : Exit → Act → World → Prop} {E : Prop}
    (hg : o.guard = none) (s x : Operand) (tx : TypeId) (hop : o.op = Op.call { callee := Callee.builtin Builtin.append, args := #[s, x], argTypes := #[76, tx] })
    (b cap L : Nat) (l : List Int) (hF : Fil w b cap L l) (hs : a.eval s = .slice (some ⟨b, 0, none⟩) L cap) (xv : Value) (hx : a.eval x = xv) (m : Nat) (k : List Int) (hk : ∀ z ∈ k, 0 ≤ z ∧ z ≤ 255)
    (hsrc : Src Try.prog 1 tx xv m (k.map (Value.int .u8)) w) (hle : L + m ≤ cap)
    (h : ∀ w' L', L' ≤ L + m → Fil w' b cap L' (l ++ k) → Others b w w' → K (a.put o.dst (.slice (some ⟨b, 0, none⟩) L' cap)) w') :
    if Region.wanted o (yielded ops a.tmps) = true then Oper.wp Try.prog o a w K Q else E := by
  have hw : Region.wanted o (yielded ops a.tmps) = true := by simp [Region.wanted, hg]
  rw [if_pos hw]
  obtain ⟨i0, hi, hz0, hz1, hz2⟩ := info_parts Try.info5
  have hm : m = k.length := by have := hsrc.newsLen; simp at this; omega
  subst hm
  have hsrc' : Src Try.prog i0.size tx xv k.length (k.map (Value.int .u8)) w := by rw [hz1]; exact hsrc
  have hrun := run_append_room_src (P := Try.prog) w 76 tx o.type 5 i0 Try.underlying76 hi b 0 L cap xv k.length (k.map (Value.int .u8)) hsrc' hle
    (fun j hj => by rw [hz1]; simp at hj; exact hF.there _ (by omega)) (fun j hj => by rw [hz1]; simp at hj; exact hF.free _ (by omega))
  rw [hz1] at hrun
  simp only [Nat.mul_one, Nat.zero_add] at hrun
  unfold Oper.wp
  simp [execOp, hop, resolve, invoke, builtin, hs, hx, hrun, Result.andThen]
  exact h _ _ (Nat.le_refl _) (hF.more k hk hle) (others_setCells b _ _ _)

theorem fil_new (w : World) (n : Nat) (cs : Array Value) (T : Nat) (hs : cs.toList = List.replicate n (Value.int .u8 0)) : Fil (w.alloc (.cells cs T)) w.heap.size n 0 [] := by
  have h := own_new w n cs T hs
  refine ⟨h.lt, rfl, Nat.zero_le _, by simp, fun i hi => by simp at hi, fun i hi => ?_, fun i hi => ?_⟩
  · have := h.cell i hi; rw [Nat.zero_add] at this; rw [this]; rfl
  · have := h.free i hi; rw [Nat.zero_add] at this; exact this

/-- A tag lies in block b. -/
structure TBox (w : World) (b : Nat) (x y : ByteArray) : Prop where
  lt : b < w.heap.size
  c0 : w.cell? ⟨b, 0, none⟩ = some (.string x)
  c1 : w.cell? ⟨b, 1, none⟩ = some (.string y)
theorem TBox.new (w : World) (x y : ByteArray) (T : Nat) : TBox (w.alloc (.cells #[.string x, .string y] T)) w.heap.size x y := ⟨by simp, by simp [go_sem], by simp [go_sem]⟩
theorem TBox.step {w wa w' : World} {b R : Nat} {x y : ByteArray} (h : TBox w b x y) (hb : Below w.heap.size w wa) (hx : Others R wa w') (hne : b ≠ R) : TBox w' b x y :=
  have cl : ∀ j, w'.cell? ⟨b, j, none⟩ = w.cell? ⟨b, j, none⟩ := fun j => (World.cell?_of_block (w := wa) (a := ⟨b, j, none⟩) (hx.block b hne)).trans (hb.cell (p := ⟨b, j, none⟩) h.lt)
  ⟨by rw [hx.size]; exact Nat.lt_of_lt_of_le h.lt hb.size, by rw [cl]; exact h.c0, by rw [cl]; exact h.c1⟩

theorem Fil.own {w : World} {b cap L : Nat} {l : List Int} (h : Fil w b cap L l) : Own w b 0 l.length (lf l) := by
  refine ⟨lf_bd h.bd, h.lt, fun i hi => ?_, fun i hi => ?_⟩
  · rw [Nat.zero_add, h.cell i hi]; simp [lf, hi]
  · rw [Nat.zero_add]; exact h.free i (by have := h.len; have := h.le; omega)
theorem below_new2 (w : World) (o o' : Obj) : Below w.heap.size w ((w.alloc o).alloc o') := (below_new w o).alloc (by simp) _
theorem src_byte2 (w : World) (o : Obj) (c : Int) : Src Try.prog 1 76 (.slice (some ⟨w.heap.size + 1, 0, none⟩) 1 1) 1 ([c].map (Value.int .u8)) ((w.alloc o).alloc (.cells #[.int .u8 c] 5)) := by
  have h := src_byte (w.alloc o) c
  rw [World.size_alloc] at h
  exact h
end Go.Proofs.Ytjdijikmdlklkaa
namespace Go.Proofs.Ytjdijikmdlklkaa
open Go.RowKit
set_option linter.unusedSimpArgs false
set_option linter.unusedVariables false

end Go.Proofs.Ytjdijikmdlklkaa
namespace Go.Proofs.Ytjdijikmdlklkaa
open Go.RowKit
set_option linter.unusedSimpArgs false
set_option linter.unusedVariables false

def isTm (t : Int) : Bool := btw 0 t 1000000000
def isSz (z : Int) : Bool := btw 1 z 100000

/-- What StartOf answers. -/
def SoA (t z : Int) : Ending := if isTm t = true ∧ isSz z = true then .returned (.tuple #[.int .i64 (t - t % z), .bool true]) else .returned (.tuple #[.int .i64 0, .bool false])

theorem l1In_is (n lo hi : Int) (B : Bool) (h : Hid (btw lo n hi = B)) (w : World) :
    Calls Try.prog 31 #[.int .i64 n, .int .i64 lo, .int .i64 hi] w fun e w' => e = .returned (.bool B) ∧ w' = w := by
  have := l1In_any n lo hi w
  rw [h.out] at this
  exact this

end Go.Proofs.Ytjdijikmdlklkaa
namespace Go.Proofs.Ytjdijikmdlklkaa
open Go.RowKit
set_option linter.unusedSimpArgs false
set_option linter.unusedVariables false

/-- The first k together. -/
def sumF (f : Nat → Int) : Nat → Int
  | 0 => 0
  | k + 1 => sumF f k + f k
theorem sumF_bd {f : Nat → Int} {k : Nat} (h : ∀ i, i < k → isC (f i) = true) : 0 ≤ sumF f k ∧ sumF f k ≤ 1000000000 * (k : Int) := by
  induction k with
  | zero => simp [sumF]
  | succ k ih =>
    have h1 := ih (fun i hi => h i (by omega))
    have h2 := h k (by omega)
    simp [isC, btw] at h2
    simp only [sumF]
    omega

/-- Good, in the document's words. -/
def GoodA (c s lo hi : Int) (n : Nat) (f : Nat → Int) (fu : Bool) : Prop :=
  isC c = true ∧ n = 8 ∧ (∀ i, i < 8 → isC (f i) = true) ∧ (fu = false → sumF f 8 = c ∧ -1000000000 * c ≤ s ∧ s ≤ 1000000000 * c) ∧ (fu = true → s = 0 ∧ 0 < c) ∧
    (c = 0 → lo = 0 ∧ hi = 0) ∧ (c ≠ 0 → isV lo = true ∧ isV hi = true ∧ lo ≤ hi)

/-- What a question leaves: an answer that says whether p. -/
def Ans (p : Prop) (w : World) (e : Ending) (w' : World) : Prop := ∃ b : Bool, e = .returned (.bool b) ∧ (b = true ↔ p) ∧ Below w.heap.size w w'
theorem Ans.mk {p : Prop} {w w' : World} (b : Bool) (h : b = true ↔ p) (hb : Below w.heap.size w w') : Ans p w (.returned (.bool b)) w' := ⟨b, rfl, h, hb⟩

end Go.Proofs.Ytjdijikmdlklkaa
namespace Go.Proofs.Ytjdijikmdlklkaa
open Go.RowKit
set_option linter.unusedSimpArgs false
set_option linter.unusedVariables false

end Go.Proofs.Ytjdijikmdlklkaa
