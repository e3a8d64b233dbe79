/- Aggs compared by the laws. / Entries: where they lie, measured, copied, compared. / Rows of entries. / Rows of entries: measured, copied, compared. / Good aggs, in the program. / GoodAgg, in the program. / GoodAgg, in the model. / Good entries: one of them, in both texts. -/
import Derived.Test.YtohjjigkfdhklaaGreatIL
import Derived.Laws.IdiomCopy
import Derived.Deep.RegionHeld3
namespace Go.Proofs.YtohjjigkfdhklaaGreat
set_option maxRecDepth 100000
open Go.RowKit
set_option linter.unusedSimpArgs false
set_option linter.unusedVariables false

set_option maxHeartbeats 800000 in
theorem eqAgg_same (c s lo hi : Int) (ao bo : Option Addr) (n ca cb : Nat) (f : Nat → Int) (fu : Bool) (w : World) (hr : IRow w ao n f) (hs : IRow w bo n f) (hn : n ≤ 1048576) :
    Calls Tryz.prog 74 #[.agg #[.int .i64 c, .int .i64 s, .int .i64 lo, .int .i64 hi, .slice ao n ca, .bool fu], .agg #[.int .i64 c, .int .i64 s, .int .i64 lo, .int .i64 hi, .slice bo n cb, .bool fu]] w
      fun e w' => e = .returned (.bool true) ∧ Below w.heap.size w w' := by
  have hB : ∀ o p, Below w.heap.size w ((w.alloc o).alloc p) := fun o p => (below_new w o).alloc (by simp) _
  go_enter Tryz.func74, Tryz.ntmps74
  go_wp2_with fail
  refine (eqIntS_same ao bo n ca cb f _ (hr.keep (hB _ _)) (hs.keep (hB _ _)) hn).mono ?_
  rintro e w1 ⟨rfl, hb⟩
  have hbw : Below w.heap.size w w1 := (hB _ _).trans (hb.mono (by simp; omega))
  have c5 : w1.cell? ⟨w.heap.size, 5, none⟩ = some (.bool fu) := (hb.cell (p := ⟨w.heap.size, 5, none⟩) (by simp; omega)).trans (by simp [go_sem])
  have d5 : w1.cell? ⟨w.heap.size + 1, 5, none⟩ = some (.bool fu) := (hb.cell (p := ⟨w.heap.size + 1, 5, none⟩) (by simp)).trans (by simp [go_sem])
  clear hb
  cases fu
  all_goals
    go_wp2
    go_ret
    exact ⟨rfl, hbw⟩
end Go.Proofs.YtohjjigkfdhklaaGreat

namespace Go.Proofs.YtohjjigkfdhklaaGreat
set_option maxRecDepth 100000
open Go.RowKit
set_option linter.unusedSimpArgs false
set_option linter.unusedVariables false

/-- What an entry holds. -/
structure Ent where
  key : ByteArray
  seq : Int
  kind : Int
  c : Int
  s : Int
  lo : Int
  hi : Int
  n : Nat
  f : Nat → Int
  fu : Bool

/-- An entry in the nine cells from off on. -/
structure EAt (w : World) (b off : Nat) (x : Ent) (ao : Option Addr) (cap : Nat) : Prop where
  lt : b < w.heap.size
  c0 : w.cell? ⟨b, off, none⟩ = some (.string x.key)
  c1 : w.cell? ⟨b, off + 1, none⟩ = some (.int .i64 x.seq)
  c2 : w.cell? ⟨b, off + 2, none⟩ = some (.int .i64 x.kind)
  c3 : w.cell? ⟨b, off + 3, none⟩ = some (.int .i64 x.c)
  c4 : w.cell? ⟨b, off + 4, none⟩ = some (.int .i64 x.s)
  c5 : w.cell? ⟨b, off + 5, none⟩ = some (.int .i64 x.lo)
  c6 : w.cell? ⟨b, off + 6, none⟩ = some (.int .i64 x.hi)
  c7 : w.cell? ⟨b, off + 7, none⟩ = some (.slice ao x.n cap)
  c8 : w.cell? ⟨b, off + 8, none⟩ = some (.bool x.fu)
section
variable {w w' : World} {b off cap : Nat} {x : Ent} {ao : Option Addr}
theorem EAt.move (h : EAt w b off x ao cap) (lt : b < w'.heap.size) (k : ∀ j, w'.cell? ⟨b, j, none⟩ = w.cell? ⟨b, j, none⟩) : EAt w' b off x ao cap :=
  ⟨lt, (k _).trans h.c0, (k _).trans h.c1, (k _).trans h.c2, (k _).trans h.c3, (k _).trans h.c4, (k _).trans h.c5, (k _).trans h.c6, (k _).trans h.c7, (k _).trans h.c8⟩
theorem EAt.keep (h : EAt w b off x ao cap) (hb : Below w.heap.size w w') : EAt w' b off x ao cap :=
  h.move (Nat.lt_of_lt_of_le h.lt hb.size) fun j => hb.cell (p := ⟨b, j, none⟩) h.lt
theorem EAt.others {d : Nat} (h : EAt w b off x ao cap) (ho : Others d w w') (hne : b ≠ d) : EAt w' b off x ao cap :=
  h.move (by rw [ho.size]; exact h.lt) fun j => World.cell?_of_block (w := w) (a := ⟨b, j, none⟩) (ho.block b hne)
end
theorem EAt.new (w : World) (x : Ent) (ao : Option Addr) (cap : Nat) (T : Nat) : EAt (w.alloc (.cells #[.string x.key, .int .i64 x.seq, .int .i64 x.kind, .int .i64 x.c, .int .i64 x.s, .int .i64 x.lo, .int .i64 x.hi, .slice ao x.n cap, .bool x.fu] T)) w.heap.size 0 x ao cap := by
  refine ⟨by simp, ?_, ?_, ?_, ?_, ?_, ?_, ?_, ?_, ?_⟩ <;> simp [go_sem]

theorem EAt.z {w : World} {b cap : Nat} {x : Ent} {ao : Option Addr} (h : EAt w b 0 x ao cap) : b < w.heap.size ∧ w.cell? ⟨b, 0, none⟩ = some (.string x.key) ∧ w.cell? ⟨b, 1, none⟩ = some (.int .i64 x.seq) ∧ w.cell? ⟨b, 2, none⟩ = some (.int .i64 x.kind) ∧ w.cell? ⟨b, 3, none⟩ = some (.int .i64 x.c) ∧ w.cell? ⟨b, 4, none⟩ = some (.int .i64 x.s) ∧ w.cell? ⟨b, 5, none⟩ = some (.int .i64 x.lo) ∧ w.cell? ⟨b, 6, none⟩ = some (.int .i64 x.hi) ∧ w.cell? ⟨b, 7, none⟩ = some (.slice ao x.n cap) ∧ w.cell? ⟨b, 8, none⟩ = some (.bool x.fu) :=
  ⟨h.lt, h.c0, h.c1, h.c2, h.c3, h.c4, h.c5, h.c6, h.c7, h.c8⟩

/-- What a measure leaves. -/
def SzOut (left : Int) (P : Prop) (w : World) (e : Ending) (w' : World) : Prop :=
  ∃ v : Int, e = .returned (.int .i64 v) ∧ -1 ≤ v ∧ v ≤ left ∧ (0 ≤ v → P) ∧ Below w.heap.size w w'

set_option maxHeartbeats 800000 in
theorem eqEntry_same (x : Ent) (ao bo : Option Addr) (ca cb : Nat) (w : World) (hr : IRow w ao x.n x.f) (hs : IRow w bo x.n x.f) (hn : x.n ≤ 1048576) :
    Calls Tryz.prog 39 #[.agg #[.string x.key, .int .i64 x.seq, .int .i64 x.kind, .int .i64 x.c, .int .i64 x.s, .int .i64 x.lo, .int .i64 x.hi, .slice ao x.n ca, .bool x.fu], .agg #[.string x.key, .int .i64 x.seq, .int .i64 x.kind, .int .i64 x.c, .int .i64 x.s, .int .i64 x.lo, .int .i64 x.hi, .slice bo x.n cb, .bool x.fu]] w fun e w' => e = .returned (.bool true) ∧ Below w.heap.size w w' := by
  have hB : ∀ o p, Below w.heap.size w ((w.alloc o).alloc p) := fun o p => (below_new w o).alloc (by simp) _
  go_enter Tryz.func39, Tryz.ntmps39
  go_wp2_with fail
  refine (eqAgg_same _ _ _ _ ao bo _ ca cb x.f _ _ (hr.keep (hB _ _)) (hs.keep (hB _ _)) hn).mono ?_
  rintro e w1 ⟨rfl, hb⟩
  have hbw : Below w.heap.size w w1 := (hB _ _).trans (hb.mono (by simp; omega))
  clear hb
  go_wp2
  go_ret
  exact ⟨rfl, hbw⟩
end Go.Proofs.YtohjjigkfdhklaaGreat
namespace Go.Proofs.YtohjjigkfdhklaaGreat
set_option maxRecDepth 100000
open Go.RowKit
set_option linter.unusedSimpArgs false
set_option linter.unusedVariables false

/-- What its type says of an entry. -/
structure EB (x : Ent) : Prop where
  seq : -9223372036854775808 ≤ x.seq ∧ x.seq ≤ 9223372036854775807
  s : -9223372036854775808 ≤ x.s ∧ x.s ≤ 9223372036854775807
  key : x.key.size ≤ 9223372036854775807
  n : x.n ≤ 9223372036854775807

/-- n entries lie at ao. -/
structure ERow (w : World) (ao : Option Addr) (n : Nat) (X : Nat → Ent) : Prop where
  bd : ∀ i, i < n → EB (X i)
  lies : n = 0 ∨ ∃ b off, ao = some ⟨b, off, none⟩ ∧ b < w.heap.size ∧ ∀ i, i < n → ∃ da dc, EAt w b (off + i * 9) (X i) da dc ∧ IRow w da (X i).n (X i).f
theorem ERow.keep {w w' : World} {ao : Option Addr} {n : Nat} {X : Nat → Ent} (h : ERow w ao n X) (hb : Below w.heap.size w w') : ERow w' ao n X :=
  ⟨h.bd, h.lies.elim .inl fun ⟨b, off, e, hlt, hc⟩ => .inr ⟨b, off, e, Nat.lt_of_lt_of_le hlt hb.size, fun i hi => by obtain ⟨da, dc, h1, h2⟩ := hc i hi; exact ⟨da, dc, h1.keep hb, h2.keep hb⟩⟩⟩
end Go.Proofs.YtohjjigkfdhklaaGreat
namespace Go.Proofs.YtohjjigkfdhklaaGreat
set_option maxRecDepth 100000
open Go.RowKit
set_option linter.unusedSimpArgs false
set_option linter.unusedVariables false

theorem Tryz.infoEnt : (Tryz.prog.info? 35).map (fun i => (i.zero, i.size, i.bytes)) = some (some (.agg #[.string ByteArray.empty, .int .i64 0, .int .i64 0, .int .i64 0, .int .i64 0, .int .i64 0, .int .i64 0, .slice none 0 0, .bool false]), 9, 96) := by kernel_rfl

/-- Each entry's text and Hist are no longer than what is measured. -/
def ESize (n : Nat) (X : Nat → Ent) : Prop := ∀ i, i < n → (X i).key.size ≤ 1048576 ∧ (X i).n ≤ 1048576

/-- n entries of the call's own in block b, the first k of them laid, their lists in blocks of their own. -/
structure EOwn (w : World) (b n k : Nat) (X : Nat → Ent) (G : Nat → Nat) : Prop where
  lt : b < w.heap.size
  ent : ∀ i, i < k → EAt w b (i * 9) (X i) (some ⟨G i, 0, none⟩) (X i).n
  data : ∀ i, i < k → b < G i ∧ IOwn w (G i) 0 (X i).n (X i).f
  mono : ∀ i j, i < j → j < k → G i < G j
  there : ∀ j, j < n * 9 → (w.cell? ⟨b, j, none⟩).isSome = true
  free : ∀ j, j < n * 9 → w.frozen? ⟨b, j, none⟩ = false
section
variable {w w' : World} {b n k : Nat} {X : Nat → Ent} {G : Nat → Nat}
theorem EOwn.row (h : EOwn w b n n X G) (hbd : ∀ i, i < n → EB (X i)) : ERow w (some ⟨b, 0, none⟩) n X :=
  ⟨hbd, .inr ⟨b, 0, rfl, h.lt, fun i hi => ⟨_, _, by rw [Nat.zero_add]; exact h.ent i hi, (h.data i hi).2.row⟩⟩⟩
theorem EOwn.keep (h : EOwn w b n k X G) (hb : Below w.heap.size w w') : EOwn w' b n k X G :=
  ⟨Nat.lt_of_lt_of_le h.lt hb.size, fun i hi => (h.ent i hi).keep hb, fun i hi => ⟨(h.data i hi).1, (h.data i hi).2.keep hb⟩, h.mono,
    fun j hj => by rw [hb.cell (p := ⟨b, j, none⟩) h.lt]; exact h.there j hj, fun j hj => (hb.frozen (p := ⟨b, j, none⟩) h.lt).trans (h.free j hj)⟩
end
theorem setCells_others (b : Nat) : ∀ (vs : List Value) (o : Nat) (w : World), Others b w (w.setCells b o vs)
  | [], _, _ => Others.refl _ _
  | v :: r, o, w => (Others.setCell w b o v).trans (setCells_others b r (o + 1) _)

set_option maxRecDepth 10000 in
theorem EOwn.store {w : World} {b n k : Nat} {X : Nat → Ent} {G : Nat → Nat} (h : EOwn w b n k X G) (hk : k < n) {g : Nat} (ho : IOwn w g 0 (X k).n (X k).f) (hg : b < g) (hm : ∀ i, i < k → G i < g) :
    EOwn (w.setCells b (k * 9) [.string (X k).key, .int .i64 (X k).seq, .int .i64 (X k).kind, .int .i64 (X k).c, .int .i64 (X k).s, .int .i64 (X k).lo, .int .i64 (X k).hi, .slice (some ⟨g, 0, none⟩) (X k).n (X k).n, .bool (X k).fu]) b n (k + 1) X (fun i => if i = k then g else G i) := by
  generalize hL : ([.string (X k).key, .int .i64 (X k).seq, .int .i64 (X k).kind, .int .i64 (X k).c, .int .i64 (X k).s, .int .i64 (X k).lo, .int .i64 (X k).hi, .slice (some ⟨g, 0, none⟩) (X k).n (X k).n, .bool (X k).fu] : List Value) = L
  have hlen : L.length = 9 := by rw [← hL]; rfl
  have hoth := setCells_others b L (k * 9) w
  have hin := World.cell?_setCells_in b L (k * 9) w (fun j hj => h.there _ (by omega))
  have hout : ∀ j, j < k * 9 ∨ k * 9 + 9 ≤ j → (w.setCells b (k * 9) L).cell? ⟨b, j, none⟩ = w.cell? ⟨b, j, none⟩ := fun j hj => World.cell?_setCells_out b L (k * 9) w ⟨b, j, none⟩ (fun _ _ => by simp only [hlen]; exact hj)
  have hlt : b < (w.setCells b (k * 9) L).heap.size := by rw [hoth.size]; exact h.lt
  refine ⟨hlt, fun i hi => ?_, fun i hi => ?_, fun i j hij hj => ?_, fun j hj => ?_, fun j hj => by rw [World.frozen?_setCells]; exact h.free j hj⟩
  · by_cases e : i = k
    · subst e
      simp only [if_true]
      subst hL
      exact ⟨hlt, hin 0 (by simp), hin 1 (by simp), hin 2 (by simp), hin 3 (by simp), hin 4 (by simp), hin 5 (by simp), hin 6 (by simp), hin 7 (by simp), hin 8 (by simp)⟩
    · simp only [e, if_false]
      have h0 := h.ent i (by omega)
      have c : ∀ q, q < 9 → (w.setCells b (k * 9) L).cell? ⟨b, i * 9 + q, none⟩ = w.cell? ⟨b, i * 9 + q, none⟩ := fun q hq => hout _ (by omega)
      exact ⟨hlt, (c 0 (by omega)).trans h0.c0, (c 1 (by omega)).trans h0.c1, (c 2 (by omega)).trans h0.c2, (c 3 (by omega)).trans h0.c3, (c 4 (by omega)).trans h0.c4, (c 5 (by omega)).trans h0.c5, (c 6 (by omega)).trans h0.c6, (c 7 (by omega)).trans h0.c7, (c 8 (by omega)).trans h0.c8⟩
  · by_cases e : i = k
    · subst e
      simp only [if_true]
      exact ⟨hg, hoth.irow ho (by omega)⟩
    · simp only [e, if_false]
      have := h.data i (by omega)
      exact ⟨this.1, hoth.irow this.2 (by omega)⟩
  · by_cases e : j = k
    · subst e
      simp only [if_true, show ¬ i = j by omega, if_false]
      exact hm i hij
    · simp only [e, show ¬ i = k by omega, if_false]
      exact h.mono i j hij (by omega)
  · by_cases hj2 : j < k * 9 ∨ k * 9 + 9 ≤ j
    · rw [hout j hj2]; exact h.there j hj
    · obtain ⟨q, rfl⟩ : ∃ q, j = k * 9 + q := ⟨j - k * 9, by omega⟩
      rw [hin q (by omega)]
      rfl

set_option maxHeartbeats 1600000 in
theorem eqEntryS_same (ao bo : Option Addr) (n ca cb : Nat) (X : Nat → Ent) (w : World) (hr : ERow w ao n X) (hs : ERow w bo n X) (hn : n ≤ 1048576) (hz : ESize n X) :
    Calls Tryz.prog 16 #[.slice ao n ca, .slice bo n cb] w fun e w' => e = .returned (.bool true) ∧ Below w.heap.size w w' := by
  obtain ⟨_, hl⟩ := hr
  obtain ⟨_, hm⟩ := hs
  go_enter Tryz.func16, Tryz.ntmps16
  go_wp2
  go_loopw [5] (fun i wr => ∃ k : Nat, k ≤ n ∧ i = .int .i64 k ∧ Below w.heap.size w wr) (fun i _ => n - (intOf i).toNat)
  case atStart => exact ⟨0, Nat.zero_le _, rfl, Below.refl _ _⟩
  case round =>
    obtain ⟨k, hk, rfl, hbk⟩ := hrel
    by_cases hlt : k < n
    · obtain ⟨b, off, rfl, hblt, hc⟩ := hl.resolve_left (by omega)
      obtain ⟨b', off', rfl, hblt', hc'⟩ := hm.resolve_left (by omega)
      obtain ⟨da, dc, ea, ia⟩ := hc k hlt
      obtain ⟨db, ec, eb, ib⟩ := hc' k hlt
      have hlen := (hz k hlt).2
      have ea1 := ea.keep hbk
      have eb1 := eb.keep hbk
      obtain ⟨_, a0, a1, a2, a3, a4, a5, a6, a7, a8⟩ := id ea1
      obtain ⟨_, b0, b1, b2, b3, b4, b5, b6, b7, b8⟩ := id eb1
      have r1 := (ia.keep hbk).keep (Below.refl _ _).drew
      have r2 := (ib.keep hbk).keep (Below.refl _ _).drew
      clear hc hc' hl hm ea eb ia ib
      go_wp2
      go_region_held3 (fun w' => w'.cell? ⟨b, off + k * 9, none⟩ = some (.string (X k).key) ∧ w'.cell? ⟨b, off + k * 9 + 1, none⟩ = some (.int .i64 (X k).seq) ∧ w'.cell? ⟨b, off + k * 9 + 2, none⟩ = some (.int .i64 (X k).kind) ∧ w'.cell? ⟨b, off + k * 9 + 3, none⟩ = some (.int .i64 (X k).c) ∧ w'.cell? ⟨b, off + k * 9 + 4, none⟩ = some (.int .i64 (X k).s) ∧ w'.cell? ⟨b, off + k * 9 + 5, none⟩ = some (.int .i64 (X k).lo) ∧ w'.cell? ⟨b, off + k * 9 + 6, none⟩ = some (.int .i64 (X k).hi) ∧ w'.cell? ⟨b, off + k * 9 + 7, none⟩ = some (.slice da (X k).n dc) ∧ w'.cell? ⟨b, off + k * 9 + 8, none⟩ = some (.bool (X k).fu) ∧ w'.cell? ⟨b', off' + k * 9, none⟩ = some (.string (X k).key) ∧ w'.cell? ⟨b', off' + k * 9 + 1, none⟩ = some (.int .i64 (X k).seq) ∧ w'.cell? ⟨b', off' + k * 9 + 2, none⟩ = some (.int .i64 (X k).kind) ∧ w'.cell? ⟨b', off' + k * 9 + 3, none⟩ = some (.int .i64 (X k).c) ∧ w'.cell? ⟨b', off' + k * 9 + 4, none⟩ = some (.int .i64 (X k).s) ∧ w'.cell? ⟨b', off' + k * 9 + 5, none⟩ = some (.int .i64 (X k).lo) ∧ w'.cell? ⟨b', off' + k * 9 + 6, none⟩ = some (.int .i64 (X k).hi) ∧ w'.cell? ⟨b', off' + k * 9 + 7, none⟩ = some (.slice db (X k).n ec) ∧ w'.cell? ⟨b', off' + k * 9 + 8, none⟩ = some (.bool (X k).fu)) (go_keep) (first | (go_at_call 39; refine (eqEntry_same (X k) _ _ _ _ _ r1 r2 hlen).mono ?_; rintro e w6 ⟨rfl, hb6⟩; have hb6' := (Below.refl _ wr).drew.trans hb6; obtain ⟨_, p0, p1, p2, p3, p4, p5, p6, p7, p8⟩ := ea1.keep hb6'; obtain ⟨_, q0, q1, q2, q3, q4, q5, q6, q7, q8⟩ := eb1.keep hb6'; have bw6 := hbk.trans (hb6'.mono hbk.size); clear hb6 hb6'))
      go_wp2
      go_roundw
      case rel => exact ⟨k + 1, by omega, by go_num, bw6⟩
      case measure => simp [intOf]; omega
    · go_wp2
      go_ret
      exact ⟨rfl, hbk⟩
end Go.Proofs.YtohjjigkfdhklaaGreat
namespace Go.Proofs.YtohjjigkfdhklaaGreat
set_option maxRecDepth 100000
open Go.RowKit
set_option linter.unusedSimpArgs false
set_option linter.unusedVariables false

/-- The first k together. -/
def sumF (f : Nat → Int) : Nat → Int
  | 0 => 0
  | k + 1 => sumF f k + f k
theorem sumF_bd {f : Nat → Int} {k : Nat} (h : ∀ i, i < k → isC (f i) = true) : 0 ≤ sumF f k ∧ sumF f k ≤ 1000000000 * (k : Int) := by
  induction k with
  | zero => simp [sumF]
  | succ k ih =>
    have h1 := ih (fun i hi => h i (by omega))
    have h2 := h k (by omega)
    simp [isC, btw] at h2
    simp only [sumF]
    omega

/-- Good, in the document's words. -/
def GoodA (c s lo hi : Int) (n : Nat) (f : Nat → Int) (fu : Bool) : Prop :=
  isC c = true ∧ n = 8 ∧ (∀ i, i < 8 → isC (f i) = true) ∧ (fu = false → sumF f 8 = c ∧ -1000000000 * c ≤ s ∧ s ≤ 1000000000 * c) ∧ (fu = true → s = 0 ∧ 0 < c) ∧
    (c = 0 → lo = 0 ∧ hi = 0) ∧ (c ≠ 0 → isV lo = true ∧ isV hi = true ∧ lo ≤ hi)

/-- What a question leaves: an answer that says whether p. -/

theorem goodHist_any (ao : Option Addr) (n cap : Nat) (f : Nat → Int) (w : World) (hr : IRow w ao n f) (hn : n ≤ 1048576) :
    Calls Tryz.prog 133 #[.slice ao n cap] w fun e w' => Ans (n = 8 ∧ ∀ i, i < 8 → isC (f i) = true) w e w' := by
  obtain ⟨hbd, hlies⟩ := hr
  go_enter Tryz.func133, Tryz.ntmps133
  go_wp2
  go_loopw [7] (fun i wr => ∃ k : Nat, k ≤ n ∧ i = .int .i64 k ∧ Hid (∀ i, i < k → isC (f i) = true) ∧ wr = w) (fun i _ => n - (intOf i).toNat)
  case atStart => exact ⟨0, Nat.zero_le _, rfl, fun i h => by omega, rfl⟩
  case round =>
    obtain ⟨k, hk, rfl, hall, rfl⟩ := hrel
    by_cases hlt : k < n
    · obtain ⟨b, off, rfl, hblt, hc⟩ := hlies.resolve_left (by omega)
      have h1 := hc k hlt
      clear hc hlies
      go_wp2_with fail
      refine (isCount_any (f k) _).mono ?_
      rintro e w1 ⟨rfl, rfl⟩
      cases hx : isC (f k)
      · go_wp2
        refine bodyPost_ret (v := .bool false) (by simp [results, Tryz.results133, go_sem]) rfl (Ans.mk false ?_ (Below.refl _ _))
        simp only [Bool.false_eq_true, false_iff]
        rintro ⟨rfl, h⟩
        rw [h k hlt] at hx
        cases hx
      · have HX : Hid (isC (f k) = true) := hx
        clear hx
        go_wp2
        go_roundw
        case rel =>
          refine ⟨k + 1, by omega, by go_num, ?_, by first | rfl | trivial⟩
          intro i hi
          rcases Nat.lt_succ_iff_lt_or_eq.1 hi with h | rfl
          · exact hall.out i h
          · exact HX.out
        case measure => simp [intOf]; omega
    · have e : k = n := by omega
      have HE : Hid (k = n) := e
      clear e
      go_wp2
      refine bodyPost_ret (v := .bool ((n : Int) == 8)) (by simp [results, Tryz.results133, go_sem]) rfl (Ans.mk _ ?_ (Below.refl _ _))
      have e := HE.out
      subst e
      constructor
      · intro h
        have h8 : k = 8 := by have h' : (k : Int) = 8 := by simpa using h
                              omega
        subst h8
        exact ⟨rfl, hall.out⟩
      · rintro ⟨rfl, _⟩
        rfl

set_option maxHeartbeats 800000 in
theorem goodBounds_any (c s lo hi : Int) (hv : Value) (fu : Bool) (w : World) :
    Calls Tryz.prog 135 #[.agg #[.int .i64 c, .int .i64 s, .int .i64 lo, .int .i64 hi, hv, .bool fu]] w fun e w' => Ans ((c = 0 → lo = 0 ∧ hi = 0) ∧ (c ≠ 0 → isV lo = true ∧ isV hi = true ∧ lo ≤ hi)) w e w' := by
  have hB := fun o => below_new w o
  by_cases hc : c = 0
  · subst hc
    by_cases h1 : lo = 0
    · subst h1
      go_enter Tryz.func135, Tryz.ntmps135
      go_wp2
      exact bodyPost_ret (v := .bool (hi == 0)) (by simp [results, Tryz.results135, go_sem]) rfl (Ans.mk _ (by simp) (hB _))
    · have H1 : Hid (¬ lo = 0) := h1
      go_enter Tryz.func135, Tryz.ntmps135
      go_wp2
      exact bodyPost_ret (v := .bool false) (by simp [results, Tryz.results135, go_sem]) rfl (Ans.mk _ (by have := H1.out; simp [this]) (hB _))
  · cases hl : isV lo
    · go_enter Tryz.func135, Tryz.ntmps135
      go_wp2_with fail
      refine (isValue_any lo _).mono ?_
      rintro e w1 ⟨rfl, rfl⟩
      go_wp2
      exact bodyPost_ret (v := .bool false) (by simp [results, Tryz.results135, go_sem]) rfl (Ans.mk _ (by simp [hc, hl]) (hB _))
    · cases hh : isV hi
      · go_enter Tryz.func135, Tryz.ntmps135
        go_wp2_with fail
        refine (isValue_any lo _).mono ?_
        rintro e w1 ⟨rfl, rfl⟩
        go_wp2_with fail
        refine (isValue_any hi _).mono ?_
        rintro e w1 ⟨rfl, rfl⟩
        go_wp2
        exact bodyPost_ret (v := .bool false) (by simp [results, Tryz.results135, go_sem]) rfl (Ans.mk _ (by simp [hc, hh]) (hB _))
      · go_enter Tryz.func135, Tryz.ntmps135
        go_wp2_with fail
        refine (isValue_any lo _).mono ?_
        rintro e w1 ⟨rfl, rfl⟩
        go_wp2_with fail
        refine (isValue_any hi _).mono ?_
        rintro e w1 ⟨rfl, rfl⟩
        go_wp2
        exact bodyPost_ret (v := .bool (decide (lo ≤ hi))) (by simp [results, Tryz.results135, go_sem]) rfl (Ans.mk _ (by simp [hc, hl, hh]) (hB _))

theorem goodTotals_full (c s lo hi : Int) (hv : Value) (w : World) :
    Calls Tryz.prog 134 #[.agg #[.int .i64 c, .int .i64 s, .int .i64 lo, .int .i64 hi, hv, .bool true]] w fun e w' => Ans (s = 0 ∧ 0 < c) w e w' := by
  have hB := fun o => below_new w o
  by_cases h1 : s = 0
  · subst h1
    go_enter Tryz.func134, Tryz.ntmps134
    go_wp2
    exact bodyPost_ret (v := .bool (decide (0 < c))) (by simp [results, Tryz.results134, go_sem]) rfl (Ans.mk _ (by simp) (hB _))
  · have H1 : Hid (¬ s = 0) := h1
    go_enter Tryz.func134, Tryz.ntmps134
    go_wp2
    exact bodyPost_ret (v := .bool false) (by simp [results, Tryz.results134, go_sem]) rfl (Ans.mk _ (by have := H1.out; simp [this]) (hB _))

set_option maxHeartbeats 800000 in
theorem goodTotals_not (c s lo hi : Int) (ao : Option Addr) (cap : Nat) (f : Nat → Int) (w : World) (hr : IRow w ao 8 f) (hc : 0 ≤ c ∧ c ≤ 1000000000) (hs : -9223372036854775808 ≤ s ∧ s ≤ 9223372036854775807) (hf : ∀ i, i < 8 → isC (f i) = true) :
    Calls Tryz.prog 134 #[.agg #[.int .i64 c, .int .i64 s, .int .i64 lo, .int .i64 hi, .slice ao 8 cap, .bool false]] w fun e w' => Ans (sumF f 8 = c ∧ -1000000000 * c ≤ s ∧ s ≤ 1000000000 * c) w e w' := by
  obtain ⟨b, off, rfl, hblt, hcell⟩ := hr.lies.resolve_left (by omega)
  have hB := fun o => below_new w o
  have HF : Hid (∀ i, i < 8 → isC (f i) = true) := hf
  have hw : IntKind.i64.wrap (1000000000 * c) = 1000000000 * c := by rw [IntKind.wrap_i64] <;> omega
  have hwn : IntKind.i64.wrap (-(1000000000 * c)) = -(1000000000 * c) := by rw [IntKind.wrap_i64] <;> omega
  have hal : ∀ O i, i < 8 → (w.alloc O).cell? ⟨b, off + i, none⟩ = some (.int .i64 (f i)) := fun O i hi => (World.cell?_alloc_old _ _ _ (Nat.ne_of_lt hblt)).trans (hcell i hi)
  clear hf hcell hr
  generalize hO : (Obj.cells #[Value.int .i64 c, .int .i64 s, .int .i64 lo, .int .i64 hi, .slice (some ⟨b, off, none⟩) 8 cap, .bool false] 33) = O
  have A := AAt.new w c s lo hi (.slice (some ⟨b, off, none⟩) 8 cap) false 33
  rw [hO] at A
  obtain ⟨la, a0, a1, a2, a3, a4, a5⟩ := A
  go_enter Tryz.func134, Tryz.ntmps134
  go_wp2
  go_loopw [3, 20] (fun q i wr => ∃ k : Nat, k ≤ 8 ∧ i = .int .i64 k ∧ q = .int .i64 (sumF f k) ∧ wr = w.alloc O) (fun _ i _ => 8 - (intOf i).toNat)
  case atStart => exact ⟨0, Nat.zero_le _, rfl, rfl, rfl⟩
  case round =>
    obtain ⟨k, hk, rfl, rfl, rfl⟩ := hrel
    have hsb := sumF_bd (f := f) (k := k) (fun i hi => HF.out i (by omega))
    by_cases hlt : k < 8
    · have h1 := hal O k hlt
      have h2 := HF.out k hlt
      simp [isC, btw] at h2
      clear hal hO
      go_wp2
      go_roundw
      case rel => exact ⟨k + 1, by omega, by go_num, by go_num, by first | rfl | trivial⟩
      case measure => simp [intOf]; omega
    · have e : k = 8 := by omega
      subst e
      clear hal hO
      by_cases h1 : sumF f 8 = c
      · subst h1
        by_cases h2 : -(1000000000 * sumF f 8) ≤ s
        · have H2 : Hid (-(1000000000 * sumF f 8) ≤ s) := h2
          go_wp2
          exact bodyPost_ret (v := .bool (decide (s ≤ 1000000000 * sumF f 8))) (by simp [results, Tryz.results134, go_sem]) rfl (Ans.mk _ (by have := H2.out; simp; omega) (hB _))
        · have H2 : Hid (¬ -(1000000000 * sumF f 8) ≤ s) := h2
          have hd : decide (-(1000000000 * sumF f 8) ≤ s) = false := by simpa using h2
          go_wp2
          exact bodyPost_ret (v := .bool false) (by simp [results, Tryz.results134, go_sem]) rfl (Ans.mk _ (by have := H2.out; simp; omega) (hB _))
      · have H1 : Hid (¬ sumF f 8 = c) := h1
        go_wp2
        exact bodyPost_ret (v := .bool false) (by simp [results, Tryz.results134, go_sem]) rfl (Ans.mk _ (by have := H1.out; simp [this]) (hB _))
end Go.Proofs.YtohjjigkfdhklaaGreat
namespace Go.Proofs.YtohjjigkfdhklaaGreat
set_option maxRecDepth 100000
open Go.RowKit
set_option linter.unusedSimpArgs false
set_option linter.unusedVariables false

set_option maxHeartbeats 800000 in
theorem goodAgg_impl (c s lo hi : Int) (ao : Option Addr) (n cap : Nat) (f : Nat → Int) (fu : Bool) (w : World) (hr : IRow w ao n f) (hn : n ≤ 1048576) (hs : -9223372036854775808 ≤ s ∧ s ≤ 9223372036854775807) :
    Calls Tryz.prog 118 #[.agg #[.int .i64 c, .int .i64 s, .int .i64 lo, .int .i64 hi, .slice ao n cap, .bool fu]] w fun e w' => Ans (GoodA c s lo hi n f fu) w e w' := by
  have hB := fun o => below_new w o
  cases hc : isC c
  · go_enter Tryz.func118, Tryz.ntmps118
    go_wp2_with fail
    refine (isCount_any c _).mono ?_
    rintro e w1 ⟨rfl, rfl⟩
    go_wp2
    exact bodyPost_ret (v := .bool false) (by simp [results, Tryz.results118, go_sem]) rfl (Ans.mk _ (by simp [GoodA, hc]) (hB _))
  · have hcb : 0 ≤ c ∧ c ≤ 1000000000 := by simpa [isC, btw] using hc
    go_enter Tryz.func118, Tryz.ntmps118
    go_wp2_with fail
    refine (isCount_any c _).mono ?_
    rintro e w1 ⟨rfl, rfl⟩
    go_wp2_with fail
    refine (goodHist_any ao n cap f _ (hr.keep (hB _)) hn).mono ?_
    rintro e w1 ⟨b1, rfl, h1, q1⟩
    obtain ⟨la, a0, a1, a2, a3, a4, a5⟩ := (AAt.new w c s lo hi (.slice ao n cap) fu 33).keep q1
    have r1 := (hr.keep (hB _)).keep q1
    have B1 : Below w.heap.size w w1 := (hB _).trans (q1.mono (by simp))
    clear q1
    cases b1
    · have H1 : Hid (¬ GoodA c s lo hi n f fu) := fun h => by
        have := h1.2 ⟨h.2.1, h.2.2.1⟩
        cases this
      clear h1
      go_wp2
      exact bodyPost_ret (v := .bool false) (by simp [results, Tryz.results118, go_sem]) rfl (Ans.mk _ (by have := H1.out; simp [this]) B1)
    · obtain ⟨h8, hall⟩ := h1.1 rfl
      subst h8
      have HA : Hid (∀ i, i < 8 → isC (f i) = true) := hall
      clear h1 hall
      cases fu
      · go_wp2_with fail
        refine (goodTotals_not c s lo hi ao cap f _ r1 hcb hs HA.out).mono ?_
        rintro e w2 ⟨b2, rfl, h2, q2⟩
        obtain ⟨la, a0, a1, a2, a3, a4, a5⟩ := AAt.keep ⟨la, a0, a1, a2, a3, a4, a5⟩ q2
        have B2 : Below w.heap.size w w2 := B1.trans (q2.mono B1.size)
        clear q2
        cases b2
        · have L2 : Hid (¬ GoodA c s lo hi 8 f false) := fun h => by
            have := h2.2 (h.2.2.2.1 rfl)
            cases this
          clear h2
          go_wp2
          exact bodyPost_ret (v := .bool false) (by simp [results, Tryz.results118, go_sem]) rfl (Ans.mk _ (by have := L2.out; simp [this]) B2)
        · have H2 : Hid (sumF f 8 = c ∧ -1000000000 * c ≤ s ∧ s ≤ 1000000000 * c) := h2.1 rfl
          clear h2
          go_wp2_with fail
          refine (goodBounds_any c s lo hi _ false _).mono ?_
          rintro e w3 ⟨b3, rfl, h3, q3⟩
          have B3 : Below w.heap.size w w3 := B2.trans (q3.mono B2.size)
          clear q3
          have H3 : Hid (b3 = true ↔ GoodA c s lo hi 8 f false) :=
            ⟨fun h => ⟨hc, rfl, HA.out, fun _ => H2.out, fun h => (by cases h), (h3.1 h).1, (h3.1 h).2⟩, fun h => h3.2 ⟨h.2.2.2.2.2.1, h.2.2.2.2.2.2⟩⟩
          clear h3
          go_wp2
          exact bodyPost_ret (v := .bool b3) (by simp [results, Tryz.results118, go_sem]) rfl (Ans.mk _ H3.out B3)
      · go_wp2_with fail
        refine (goodTotals_full c s lo hi _ _).mono ?_
        rintro e w2 ⟨b2, rfl, h2, q2⟩
        obtain ⟨la, a0, a1, a2, a3, a4, a5⟩ := AAt.keep ⟨la, a0, a1, a2, a3, a4, a5⟩ q2
        have B2 : Below w.heap.size w w2 := B1.trans (q2.mono B1.size)
        clear q2
        cases b2
        · have L2 : Hid (¬ GoodA c s lo hi 8 f true) := fun h => by
            have := h2.2 (h.2.2.2.2.1 rfl)
            cases this
          clear h2
          go_wp2
          exact bodyPost_ret (v := .bool false) (by simp [results, Tryz.results118, go_sem]) rfl (Ans.mk _ (by have := L2.out; simp [this]) B2)
        · have H2 : Hid (s = 0 ∧ 0 < c) := h2.1 rfl
          clear h2
          go_wp2_with fail
          refine (goodBounds_any c s lo hi _ true _).mono ?_
          rintro e w3 ⟨b3, rfl, h3, q3⟩
          have B3 : Below w.heap.size w w3 := B2.trans (q3.mono B2.size)
          clear q3
          have H3 : Hid (b3 = true ↔ GoodA c s lo hi 8 f true) :=
            ⟨fun h => ⟨hc, rfl, HA.out, fun h => (by cases h), fun _ => H2.out, (h3.1 h).1, (h3.1 h).2⟩, fun h => h3.2 ⟨h.2.2.2.2.2.1, h.2.2.2.2.2.2⟩⟩
          clear h3
          go_wp2
          exact bodyPost_ret (v := .bool b3) (by simp [results, Tryz.results118, go_sem]) rfl (Ans.mk _ H3.out B3)
end Go.Proofs.YtohjjigkfdhklaaGreat
namespace Go.Proofs.YtohjjigkfdhklaaGreat
set_option maxRecDepth 100000
open Go.RowKit
set_option linter.unusedSimpArgs false
set_option linter.unusedVariables false

set_option maxHeartbeats 2000000 in
theorem goodAgg_spec (c s lo hi : Int) (ao : Option Addr) (n cap : Nat) (f : Nat → Int) (fu : Bool) (w : World) (hr : IRow w ao n f) (hn : n ≤ 1048576) (hs : -9223372036854775808 ≤ s ∧ s ≤ 9223372036854775807) :
    Calls Tryz.prog 83 #[.agg #[.int .i64 c, .int .i64 s, .int .i64 lo, .int .i64 hi, .slice ao n cap, .bool fu]] w fun e w' => Ans (GoodA c s lo hi n f fu) w e w' := by
  have hB := fun o => below_new w o
  cases hc : isC c
  · go_enter Tryz.func83, Tryz.ntmps83
    go_wp2_with fail
    refine (l1In_any c 0 1000000000 _).mono ?_
    rintro e w1 ⟨rfl, rfl⟩
    have hc' : btw 0 c 1000000000 = false := hc
    go_wp2
    exact bodyPost_ret (v := .bool false) (by simp [results, Tryz.results83, go_sem]) rfl (Ans.mk _ (by simp [GoodA, hc]) (hB _))
  · have hcb : 0 ≤ c ∧ c ≤ 1000000000 := by simpa [isC, btw] using hc
    have hc' : btw 0 c 1000000000 = true := hc
    have HC : Hid (isC c = true) := hc
    clear hc
    by_cases h8 : n = 8
    · subst h8
      obtain ⟨b, off, rfl, hblt, hcell⟩ := hr.lies.resolve_left (by omega)
      have hal : ∀ O i, i < 8 → (w.alloc O).cell? ⟨b, off + i, none⟩ = some (.int .i64 (f i)) := fun O i hi => (World.cell?_alloc_old _ _ _ (Nat.ne_of_lt hblt)).trans (hcell i hi)
      have hw : IntKind.i64.wrap (1000000000 * c) = 1000000000 * c := by rw [IntKind.wrap_i64] <;> omega
      have hwn : IntKind.i64.wrap (-1000000000 * c) = -1000000000 * c := by rw [IntKind.wrap_i64] <;> omega
      clear hcell hr
      generalize hO : (Obj.cells #[Value.int .i64 c, .int .i64 s, .int .i64 lo, .int .i64 hi, .slice (some ⟨b, off, none⟩) 8 cap, .bool fu] 33) = O
      have A := AAt.new w c s lo hi (.slice (some ⟨b, off, none⟩) 8 cap) fu 33
      rw [hO] at A
      obtain ⟨la, a0, a1, a2, a3, a4, a5⟩ := A
      go_enter Tryz.func83, Tryz.ntmps83
      go_wp2_with fail
      refine (l1In_any c 0 1000000000 _).mono ?_
      rintro e w1 ⟨rfl, rfl⟩
      go_wp2
      go_loopw [3, 19] (fun q i wr => ∃ k : Nat, k ≤ 8 ∧ i = .int .i64 k ∧ q = .int .i64 (sumF f k) ∧ Hid (∀ i, i < k → isC (f i) = true) ∧ wr = w.alloc O) (fun _ i _ => 8 - (intOf i).toNat)
      case atStart => exact ⟨0, Nat.zero_le _, rfl, rfl, fun i h => by omega, rfl⟩
      case round =>
        obtain ⟨k, hk, rfl, rfl, HA, rfl⟩ := hrel
        have hsb := sumF_bd (f := f) (k := k) HA.out
        by_cases hlt : k < 8
        · have h1 := hal O k hlt
          clear hal hO
          go_wp2_with fail
          refine (l1In_any (f k) 0 1000000000 _).mono ?_
          rintro e w1 ⟨rfl, rfl⟩
          cases hx : isC (f k)
          · have hx' : btw 0 (f k) 1000000000 = false := hx
            have HX : Hid (isC (f k) = false) := hx
            clear hx
            go_wp2
            exact bodyPost_ret (v := .bool false) (by simp [results, Tryz.results83, go_sem]) rfl (Ans.mk _ (by
              simp only [Bool.false_eq_true, false_iff]
              intro h
              have := h.2.2.1 k hlt
              rw [HX.out] at this
              cases this) (hB _))
          · have hx' : btw 0 (f k) 1000000000 = true := hx
            have HX : Hid (isC (f k) = true) := hx
            have h2 : 0 ≤ f k ∧ f k ≤ 1000000000 := by simpa [isC, btw] using hx
            clear hx
            go_wp2
            go_roundw
            case rel =>
              refine ⟨k + 1, by omega, by go_num, by go_num, ?_, by first | rfl | trivial⟩
              intro i hi
              rcases Nat.lt_succ_iff_lt_or_eq.1 hi with h | rfl
              · exact HA.out i h
              · exact HX.out
            case measure => simp [intOf]; omega
        · have e : k = 8 := by omega
          subst e
          clear hal hO
          by_cases c0 : c = 0
          · subst c0
            by_cases e1 : sumF f 8 = 0
            · have E1 : Hid (sumF f 8 = 0) := e1
              by_cases e2 : lo = 0
              · subst e2
                by_cases e3 : hi = 0
                · subst e3
                  by_cases e4 : s = 0
                  · subst e4
                    go_wp2
                    exact bodyPost_ret (v := .bool (!fu)) (by simp [results, Tryz.results83, go_sem]) rfl (Ans.mk _ (by cases fu <;> simp [GoodA, HC.out, HA.out, E1.out] <;> exact HA.out) (hB _))
                  · have E4 : Hid (¬ s = 0) := e4
                    go_wp2
                    exact bodyPost_ret (v := .bool false) (by simp [results, Tryz.results83, go_sem]) rfl (Ans.mk _ (by have h4 := E4.out; cases fu <;> simp [GoodA] <;> omega) (hB _))
                · have E3 : Hid (¬ hi = 0) := e3
                  go_wp2
                  exact bodyPost_ret (v := .bool false) (by simp [results, Tryz.results83, go_sem]) rfl (Ans.mk _ (by have h3 := E3.out; simp [GoodA, h3]) (hB _))
              · have E2 : Hid (¬ lo = 0) := e2
                go_wp2
                exact bodyPost_ret (v := .bool false) (by simp [results, Tryz.results83, go_sem]) rfl (Ans.mk _ (by have h3 := E2.out; simp [GoodA, h3]) (hB _))
            · have E1 : Hid (¬ sumF f 8 = 0) := e1
              go_wp2
              exact bodyPost_ret (v := .bool false) (by simp [results, Tryz.results83, go_sem]) rfl (Ans.mk _ (by have h3 := E1.out; cases fu <;> simp [GoodA, h3]) (hB _))
          · have C0 : Hid (¬ c = 0) := c0
            cases hl : isV lo
            · have HL : Hid (isV lo = false) := hl
              go_wp2_with fail
              refine (l4Value_any lo _).mono ?_
              rintro e w1 ⟨rfl, rfl⟩
              go_wp2
              exact bodyPost_ret (v := .bool false) (by simp [results, Tryz.results83, go_sem]) rfl (Ans.mk _ (by simp [GoodA, HL.out, C0.out]) (hB _))
            · have HL : Hid (isV lo = true) := hl
              cases hh : isV hi
              · have HH : Hid (isV hi = false) := hh
                go_wp2_with fail
                refine (l4Value_any lo _).mono ?_
                rintro e w1 ⟨rfl, rfl⟩
                go_wp2_with fail
                refine (l4Value_any hi _).mono ?_
                rintro e w1 ⟨rfl, rfl⟩
                go_wp2
                exact bodyPost_ret (v := .bool false) (by simp [results, Tryz.results83, go_sem]) rfl (Ans.mk _ (by simp [GoodA, HH.out, C0.out]) (hB _))
              · have HH : Hid (isV hi = true) := hh
                by_cases hlh : lo ≤ hi
                · have HLH : Hid (lo ≤ hi) := hlh
                  cases fu
                  · by_cases e1 : sumF f 8 = c
                    · have K : Hid (btw (-1000000000 * c) s (1000000000 * c) = true ↔ GoodA c s lo hi 8 f false) := by
                        have hbt : btw (-1000000000 * c) s (1000000000 * c) = true ↔ (-1000000000 * c ≤ s ∧ s ≤ 1000000000 * c) := by simp [btw]
                        unfold Hid
                        rw [hbt]
                        exact ⟨fun h => ⟨HC.out, rfl, HA.out, fun _ => ⟨e1, h⟩, fun h => (by cases h), fun h => absurd h C0.out, fun _ => ⟨HL.out, HH.out, HLH.out⟩⟩, fun h => (h.2.2.2.1 rfl).2⟩
                      go_wp2_with fail
                      refine (l4Value_any lo _).mono ?_
                      rintro e w1 ⟨rfl, rfl⟩
                      go_wp2_with fail
                      refine (l4Value_any hi _).mono ?_
                      rintro e w1 ⟨rfl, rfl⟩
                      go_wp2_with fail
                      refine (l1In_any s (-1000000000 * c) (1000000000 * c) _).mono ?_
                      rintro e w1 ⟨rfl, rfl⟩
                      go_wp2
                      exact bodyPost_ret (v := .bool (btw (-1000000000 * c) s (1000000000 * c))) (by simp [results, Tryz.results83, go_sem]) rfl (Ans.mk _ K.out (hB _))
                    · have E1 : Hid (¬ sumF f 8 = c) := e1
                      go_wp2_with fail
                      refine (l4Value_any lo _).mono ?_
                      rintro e w1 ⟨rfl, rfl⟩
                      go_wp2_with fail
                      refine (l4Value_any hi _).mono ?_
                      rintro e w1 ⟨rfl, rfl⟩
                      go_wp2
                      exact bodyPost_ret (v := .bool false) (by simp [results, Tryz.results83, go_sem]) rfl (Ans.mk _ (by have h3 := E1.out; simp [GoodA, h3]) (hB _))
                  · have K : Hid ((s == 0) = true ↔ GoodA c s lo hi 8 f true) := by
                      have h4 : 0 < c := by omega
                      unfold Hid
                      rw [beq_iff_eq]
                      exact ⟨fun h => ⟨HC.out, rfl, HA.out, fun h => (by cases h), fun _ => ⟨h, h4⟩, fun h => absurd h C0.out, fun _ => ⟨HL.out, HH.out, HLH.out⟩⟩, fun h => (h.2.2.2.2.1 rfl).1⟩
                    go_wp2_with fail
                    refine (l4Value_any lo _).mono ?_
                    rintro e w1 ⟨rfl, rfl⟩
                    go_wp2_with fail
                    refine (l4Value_any hi _).mono ?_
                    rintro e w1 ⟨rfl, rfl⟩
                    go_wp2
                    exact bodyPost_ret (v := .bool (s == 0)) (by simp [results, Tryz.results83, go_sem]) rfl (Ans.mk _ K.out (hB _))
                · have HLH : Hid (¬ lo ≤ hi) := hlh
                  go_wp2_with fail
                  refine (l4Value_any lo _).mono ?_
                  rintro e w1 ⟨rfl, rfl⟩
                  go_wp2_with fail
                  refine (l4Value_any hi _).mono ?_
                  rintro e w1 ⟨rfl, rfl⟩
                  go_wp2
                  exact bodyPost_ret (v := .bool false) (by simp [results, Tryz.results83, go_sem]) rfl (Ans.mk _ (by have h3 := HLH.out; simp [GoodA, C0.out, h3]) (hB _))
    · have H8 : Hid (¬ n = 8) := h8
      have h8' : ((n : Int) == 8) = false := by simp; omega
      go_enter Tryz.func83, Tryz.ntmps83
      go_wp2_with fail
      refine (l1In_any c 0 1000000000 _).mono ?_
      rintro e w1 ⟨rfl, rfl⟩
      go_wp2
      exact bodyPost_ret (v := .bool false) (by simp [results, Tryz.results83, go_sem]) rfl (Ans.mk _ (by have h3 := H8.out; simp [GoodA, h3]) (hB _))
end Go.Proofs.YtohjjigkfdhklaaGreat
namespace Go.Proofs.YtohjjigkfdhklaaGreat
set_option maxRecDepth 100000
open Go.RowKit
set_option linter.unusedSimpArgs false
set_option linter.unusedVariables false

/-- An agg that is zero. -/
def ZeroA (c s lo hi : Int) (n : Nat) (fu : Bool) : Prop := c = 0 ∧ s = 0 ∧ lo = 0 ∧ hi = 0 ∧ n = 0 ∧ fu = false
/-- An agg that fits its entry's kind. -/
def FitK (kind : Int) (c s lo hi : Int) (n : Nat) (f : Nat → Int) (fu : Bool) : Prop :=
  (kind = 1 ∨ kind = 3) ∧ GoodA c s lo hi n f fu ∨ kind = 2 ∧ ZeroA c s lo hi n fu
/-- A key's text. -/
def KeyOk (k : ByteArray) : Prop := 1 ≤ (k.size : Int) ∧ (k.size : Int) ≤ 140
/-- A good entry, in the document's words. -/
def GoodE (x : Ent) : Prop := KeyOk x.key ∧ (1 ≤ x.seq ∧ x.seq ≤ 1000000000) ∧ FitK x.kind x.c x.s x.lo x.hi x.n x.f x.fu

/-- An answer that says whether p; nothing is changed. -/
def AnsW (p : Prop) (w : World) (e : Ending) (w' : World) : Prop := ∃ b : Bool, e = .returned (.bool b) ∧ (b = true ↔ p) ∧ w' = w

theorem isKeyText_any (k : ByteArray) (w : World) :
    Calls Tryz.prog 105 #[.string k] w fun e w' => AnsW (KeyOk k) w e w' := by
  by_cases h1 : 1 ≤ (k.size : Int)
  · go_enter Tryz.func105, Tryz.ntmps105
    go_wp2
    refine bodyPost_ret (v := .bool (decide ((k.size : Int) ≤ 140))) (by simp [results, Tryz.results105, go_sem]) rfl ⟨_, rfl, ?_, rfl⟩
    simp [KeyOk]
    omega
  · have hd : decide (1 ≤ (k.size : Int)) = false := by simpa using h1
    have H1 : Hid (¬ 1 ≤ (k.size : Int)) := h1
    clear h1
    go_enter Tryz.func105, Tryz.ntmps105
    go_wp2
    refine bodyPost_ret (v := .bool false) (by simp [results, Tryz.results105, go_sem]) rfl ⟨_, rfl, ?_, rfl⟩
    have := H1.out
    simp [KeyOk]
    omega

set_option maxHeartbeats 1600000 in
theorem isBare_any (c s lo hi : Int) (ao : Option Addr) (n cap : Nat) (fu : Bool) (w : World) :
    Calls Tryz.prog 119 #[.agg #[.int .i64 c, .int .i64 s, .int .i64 lo, .int .i64 hi, .slice ao n cap, .bool fu]] w fun e w' => Ans (ZeroA c s lo hi n fu) w e w' := by
  have hB := fun o => below_new w o
  by_cases hc : c = 0
  rotate_left
  · have H : Hid (¬ c = 0) := hc
    go_enter Tryz.func119, Tryz.ntmps119
    go_wp2
    refine bodyPost_ret (v := .bool false) (by simp [results, Tryz.results119, go_sem]) rfl (Ans.mk _ ?_ (hB _))
    have := H.out
    simp only [ZeroA, Bool.false_eq_true, false_iff]
    omega
  subst hc
  by_cases hs : s = 0
  rotate_left
  · have H : Hid (¬ s = 0) := hs
    go_enter Tryz.func119, Tryz.ntmps119
    go_wp2
    refine bodyPost_ret (v := .bool false) (by simp [results, Tryz.results119, go_sem]) rfl (Ans.mk _ ?_ (hB _))
    have := H.out
    simp only [ZeroA, Bool.false_eq_true, false_iff]
    omega
  subst hs
  by_cases hlo : lo = 0
  rotate_left
  · have H : Hid (¬ lo = 0) := hlo
    go_enter Tryz.func119, Tryz.ntmps119
    go_wp2
    refine bodyPost_ret (v := .bool false) (by simp [results, Tryz.results119, go_sem]) rfl (Ans.mk _ ?_ (hB _))
    have := H.out
    simp only [ZeroA, Bool.false_eq_true, false_iff]
    omega
  subst hlo
  by_cases hhi : hi = 0
  rotate_left
  · have H : Hid (¬ hi = 0) := hhi
    go_enter Tryz.func119, Tryz.ntmps119
    go_wp2
    refine bodyPost_ret (v := .bool false) (by simp [results, Tryz.results119, go_sem]) rfl (Ans.mk _ ?_ (hB _))
    have := H.out
    simp only [ZeroA, Bool.false_eq_true, false_iff]
    omega
  subst hhi
  by_cases hn : (n : Int) = 0
  rotate_left
  · have H : Hid (¬ (n : Int) = 0) := hn
    go_enter Tryz.func119, Tryz.ntmps119
    go_wp2
    refine bodyPost_ret (v := .bool false) (by simp [results, Tryz.results119, go_sem]) rfl (Ans.mk _ ?_ (hB _))
    have := H.out
    simp only [ZeroA, Bool.false_eq_true, false_iff]
    omega
  obtain rfl : n = 0 := by omega
  clear hn
  cases fu
  all_goals
    go_enter Tryz.func119, Tryz.ntmps119
    go_wp2
  · exact bodyPost_ret (v := .bool true) (by simp [results, Tryz.results119, go_sem]) rfl (Ans.mk _ (by simp [ZeroA]) (hB _))
  · exact bodyPost_ret (v := .bool false) (by simp [results, Tryz.results119, go_sem]) rfl (Ans.mk _ (by simp [ZeroA]) (hB _))

set_option maxHeartbeats 1600000 in
theorem l5Zero_any (c s lo hi : Int) (ao : Option Addr) (n cap : Nat) (fu : Bool) (w : World) :
    Calls Tryz.prog 84 #[.agg #[.int .i64 c, .int .i64 s, .int .i64 lo, .int .i64 hi, .slice ao n cap, .bool fu]] w fun e w' => Ans (ZeroA c s lo hi n fu) w e w' := by
  have hB := fun o => below_new w o
  by_cases hc : c = 0
  rotate_left
  · have H : Hid (¬ c = 0) := hc
    go_enter Tryz.func84, Tryz.ntmps84
    go_wp2
    refine bodyPost_ret (v := .bool false) (by simp [results, Tryz.results84, go_sem]) rfl (Ans.mk _ ?_ (hB _))
    have := H.out
    simp only [ZeroA, Bool.false_eq_true, false_iff]
    omega
  subst hc
  by_cases hs : s = 0
  rotate_left
  · have H : Hid (¬ s = 0) := hs
    go_enter Tryz.func84, Tryz.ntmps84
    go_wp2
    refine bodyPost_ret (v := .bool false) (by simp [results, Tryz.results84, go_sem]) rfl (Ans.mk _ ?_ (hB _))
    have := H.out
    simp only [ZeroA, Bool.false_eq_true, false_iff]
    omega
  subst hs
  by_cases hlo : lo = 0
  rotate_left
  · have H : Hid (¬ lo = 0) := hlo
    go_enter Tryz.func84, Tryz.ntmps84
    go_wp2
    refine bodyPost_ret (v := .bool false) (by simp [results, Tryz.results84, go_sem]) rfl (Ans.mk _ ?_ (hB _))
    have := H.out
    simp only [ZeroA, Bool.false_eq_true, false_iff]
    omega
  subst hlo
  by_cases hhi : hi = 0
  rotate_left
  · have H : Hid (¬ hi = 0) := hhi
    go_enter Tryz.func84, Tryz.ntmps84
    go_wp2
    refine bodyPost_ret (v := .bool false) (by simp [results, Tryz.results84, go_sem]) rfl (Ans.mk _ ?_ (hB _))
    have := H.out
    simp only [ZeroA, Bool.false_eq_true, false_iff]
    omega
  subst hhi
  by_cases hn : (n : Int) = 0
  rotate_left
  · have H : Hid (¬ (n : Int) = 0) := hn
    go_enter Tryz.func84, Tryz.ntmps84
    go_wp2
    refine bodyPost_ret (v := .bool false) (by simp [results, Tryz.results84, go_sem]) rfl (Ans.mk _ ?_ (hB _))
    have := H.out
    simp only [ZeroA, Bool.false_eq_true, false_iff]
    omega
  obtain rfl : n = 0 := by omega
  clear hn
  cases fu
  all_goals
    go_enter Tryz.func84, Tryz.ntmps84
    go_wp2
  · exact bodyPost_ret (v := .bool true) (by simp [results, Tryz.results84, go_sem]) rfl (Ans.mk _ (by simp [ZeroA]) (hB _))
  · exact bodyPost_ret (v := .bool false) (by simp [results, Tryz.results84, go_sem]) rfl (Ans.mk _ (by simp [ZeroA]) (hB _))

set_option maxHeartbeats 1600000 in
theorem fitsKind_any (kind c s lo hi : Int) (ao : Option Addr) (n cap : Nat) (f : Nat → Int) (fu : Bool) (w : World) (hr : IRow w ao n f) (hn : n ≤ 1048576) (hs : -9223372036854775808 ≤ s ∧ s ≤ 9223372036854775807) :
    Calls Tryz.prog 106 #[.int .i64 kind, .agg #[.int .i64 c, .int .i64 s, .int .i64 lo, .int .i64 hi, .slice ao n cap, .bool fu]] w fun e w' => Ans (FitK kind c s lo hi n f fu) w e w' := by
  have hB := fun o => below_new w o
  by_cases k1 : kind = 1
  · subst k1
    go_enter Tryz.func106, Tryz.ntmps106
    go_wp2_with fail
    refine (goodAgg_impl c s lo hi ao n cap f fu _ (hr.keep (hB _)) hn hs).mono ?_
    rintro e w1 ⟨b1, rfl, h1, q1⟩
    have bw : Below w.heap.size w w1 := (hB _).trans (q1.mono (by simp))
    have HH : Hid (b1 = true ↔ FitK 1 c s lo hi n f fu) := by simpa [FitK, Hid] using h1
    clear h1 q1
    go_wp2
    exact bodyPost_ret (v := .bool b1) (by simp [results, Tryz.results106, go_sem]) rfl (Ans.mk _ HH.out bw)
  by_cases k3 : kind = 3
  · subst k3
    go_enter Tryz.func106, Tryz.ntmps106
    go_wp2_with fail
    refine (goodAgg_impl c s lo hi ao n cap f fu _ (hr.keep (hB _)) hn hs).mono ?_
    rintro e w1 ⟨b1, rfl, h1, q1⟩
    have bw : Below w.heap.size w w1 := (hB _).trans (q1.mono (by simp))
    have HH : Hid (b1 = true ↔ FitK 3 c s lo hi n f fu) := by simpa [FitK, Hid] using h1
    clear h1 q1
    go_wp2
    exact bodyPost_ret (v := .bool b1) (by simp [results, Tryz.results106, go_sem]) rfl (Ans.mk _ HH.out bw)
  by_cases k2 : kind = 2
  · subst k2
    go_enter Tryz.func106, Tryz.ntmps106
    go_wp2_with fail
    refine (isBare_any c s lo hi ao n cap fu _).mono ?_
    rintro e w1 ⟨b1, rfl, h1, q1⟩
    have bw : Below w.heap.size w w1 := (hB _).trans (q1.mono (by simp))
    have HH : Hid (b1 = true ↔ FitK 2 c s lo hi n f fu) := by simpa [FitK, Hid] using h1
    clear h1 q1
    go_wp2
    exact bodyPost_ret (v := .bool b1) (by simp [results, Tryz.results106, go_sem]) rfl (Ans.mk _ HH.out bw)
  have H : Hid (¬ FitK kind c s lo hi n f fu) := by simp [Hid, FitK, k1, k2, k3]
  go_enter Tryz.func106, Tryz.ntmps106
  go_wp2
  exact bodyPost_ret (v := .bool false) (by simp [results, Tryz.results106, go_sem]) rfl (Ans.mk _ (by have := H.out; simp [this]) (hB _))

set_option maxHeartbeats 1600000 in
theorem goodEntry_impl (x : Ent) (ao : Option Addr) (cap : Nat) (w : World) (hr : IRow w ao x.n x.f) (hn : x.n ≤ 1048576) (hs : -9223372036854775808 ≤ x.s ∧ x.s ≤ 9223372036854775807) :
    Calls Tryz.prog 78 #[.agg #[.string x.key, .int .i64 x.seq, .int .i64 x.kind, .int .i64 x.c, .int .i64 x.s, .int .i64 x.lo, .int .i64 x.hi, .slice ao x.n cap, .bool x.fu]] w fun e w' => Ans (GoodE x) w e w' := by
  have hB := fun o => below_new w o
  by_cases hk : KeyOk x.key
  rotate_left
  · have H : Hid (¬ GoodE x) := fun h => hk h.1
    go_enter Tryz.func78, Tryz.ntmps78
    go_wp2_with fail
    refine (isKeyText_any x.key _).mono ?_
    rintro e w1 ⟨b1, rfl, h1, rfl⟩
    obtain rfl : b1 = false := by cases b1 with | false => rfl | true => exact absurd (h1.1 rfl) hk
    clear h1 hk
    go_wp2
    exact bodyPost_ret (v := .bool false) (by simp [results, Tryz.results78, go_sem]) rfl (Ans.mk _ (by have := H.out; simp [this]) (hB _))
  by_cases h1 : 1 ≤ x.seq
  rotate_left
  · have H : Hid (¬ GoodE x) := fun h => h1 h.2.1.1
    have hd : decide (1 ≤ x.seq) = false := by simpa using h1
    go_enter Tryz.func78, Tryz.ntmps78
    go_wp2_with fail
    refine (isKeyText_any x.key _).mono ?_
    rintro e w1 ⟨b1, rfl, h1, rfl⟩
    obtain rfl := h1.2 hk
    clear h1 hk
    go_wp2
    exact bodyPost_ret (v := .bool false) (by simp [results, Tryz.results78, go_sem]) rfl (Ans.mk _ (by have := H.out; simp [this]) (hB _))
  by_cases h2 : x.seq ≤ 1000000000
  rotate_left
  · have H : Hid (¬ GoodE x) := fun h => h2 h.2.1.2
    have hd : decide (x.seq ≤ 1000000000) = false := by simpa using h2
    go_enter Tryz.func78, Tryz.ntmps78
    go_wp2_with fail
    refine (isKeyText_any x.key _).mono ?_
    rintro e w1 ⟨b1, rfl, h1, rfl⟩
    obtain rfl := h1.2 hk
    clear h1 hk
    go_wp2
    exact bodyPost_ret (v := .bool false) (by simp [results, Tryz.results78, go_sem]) rfl (Ans.mk _ (by have := H.out; simp [this]) (hB _))
  have H2 : Hid (KeyOk x.key ∧ 1 ≤ x.seq ∧ x.seq ≤ 1000000000) := ⟨hk, h1, h2⟩
  go_enter Tryz.func78, Tryz.ntmps78
  go_wp2_with fail
  refine (isKeyText_any x.key _).mono ?_
  rintro e w1 ⟨b1, rfl, h3, rfl⟩
  obtain rfl := h3.2 hk
  clear h3 hk
  go_wp2_with fail
  refine (fitsKind_any _ _ _ _ _ ao _ cap x.f _ _ (hr.keep (hB _)) hn hs).mono ?_
  rintro e w1 ⟨b1, rfl, h3, q1⟩
  have bw : Below w.heap.size w w1 := (hB _).trans (q1.mono (by simp))
  have HH : Hid (b1 = true ↔ GoodE x) := ⟨fun h => ⟨H2.out.1, H2.out.2, h3.1 h⟩, fun h => h3.2 h.2.2⟩
  clear h3 q1 H2
  go_wp2
  exact bodyPost_ret (v := .bool b1) (by simp [results, Tryz.results78, go_sem]) rfl (Ans.mk _ HH.out bw)

theorem btw_iff {lo n hi : Int} : btw lo n hi = true ↔ lo ≤ n ∧ n ≤ hi := by simp [btw]
set_option maxHeartbeats 1600000 in
theorem goodEntry_spec (x : Ent) (ao : Option Addr) (cap : Nat) (w : World) (hr : IRow w ao x.n x.f) (hn : x.n ≤ 1048576) (hs : -9223372036854775808 ≤ x.s ∧ x.s ≤ 9223372036854775807) :
    Calls Tryz.prog 54 #[.agg #[.string x.key, .int .i64 x.seq, .int .i64 x.kind, .int .i64 x.c, .int .i64 x.s, .int .i64 x.lo, .int .i64 x.hi, .slice ao x.n cap, .bool x.fu]] w fun e w' => Ans (GoodE x) w e w' := by
  have hB := fun o => below_new w o
  cases hk : btw 1 (x.key.size : Int) 140
  · have H : Hid (¬ GoodE x) := fun h => by have := btw_iff.2 h.1; rw [hk] at this; cases this
    go_enter Tryz.func54, Tryz.ntmps54
    go_wp2_with fail
    refine (l1In_any _ 1 140 _).mono ?_
    rintro e w1 ⟨rfl, rfl⟩
    go_wp2
    exact bodyPost_ret (v := .bool false) (by simp [results, Tryz.results54, go_sem]) rfl (Ans.mk _ (by have := H.out; simp [this]) (hB _))
  cases hq : btw 1 x.seq 1000000000
  · have H : Hid (¬ GoodE x) := fun h => by have := btw_iff.2 h.2.1; rw [hq] at this; cases this
    go_enter Tryz.func54, Tryz.ntmps54
    go_wp2_with fail
    refine (l1In_any _ 1 140 _).mono ?_
    rintro e w1 ⟨rfl, rfl⟩
    go_wp2_with fail
    refine (l1In_any _ 1 1000000000 _).mono ?_
    rintro e w1 ⟨rfl, rfl⟩
    go_wp2
    exact bodyPost_ret (v := .bool false) (by simp [results, Tryz.results54, go_sem]) rfl (Ans.mk _ (by have := H.out; simp [this]) (hB _))
  have H2 : Hid (KeyOk x.key ∧ 1 ≤ x.seq ∧ x.seq ≤ 1000000000) := ⟨btw_iff.1 hk, btw_iff.1 hq⟩
  obtain ⟨key, seq, kind, c, s, lo, hi, n, f, fu⟩ := x
  dsimp only at *
  by_cases k1 : kind = 1
  · subst k1
    go_enter Tryz.func54, Tryz.ntmps54
    go_wp2_with fail
    refine (l1In_any _ 1 140 _).mono ?_
    rintro e w1 ⟨rfl, rfl⟩
    go_wp2_with fail
    refine (l1In_any _ 1 1000000000 _).mono ?_
    rintro e w1 ⟨rfl, rfl⟩
    go_wp2_with fail
    refine (goodAgg_spec c s lo hi ao n cap f fu _ (hr.keep (hB _)) hn hs).mono ?_
    rintro e w1 ⟨b1, rfl, h1, q1⟩
    have bw : Below w.heap.size w w1 := (hB _).trans (q1.mono (by simp))
    have HH : Hid (b1 = true ↔ GoodE ⟨key, seq, 1, c, s, lo, hi, n, f, fu⟩) := by
      have := H2.out
      simp only [Hid, GoodE]
      rw [h1]
      simp [FitK, this]
    clear h1 q1 H2
    go_wp2
    exact bodyPost_ret (v := .bool b1) (by simp [results, Tryz.results54, go_sem]) rfl (Ans.mk _ HH.out bw)
  by_cases k3 : kind = 3
  · subst k3
    go_enter Tryz.func54, Tryz.ntmps54
    go_wp2_with fail
    refine (l1In_any _ 1 140 _).mono ?_
    rintro e w1 ⟨rfl, rfl⟩
    go_wp2_with fail
    refine (l1In_any _ 1 1000000000 _).mono ?_
    rintro e w1 ⟨rfl, rfl⟩
    go_wp2_with fail
    refine (goodAgg_spec c s lo hi ao n cap f fu _ (hr.keep (hB _)) hn hs).mono ?_
    rintro e w1 ⟨b1, rfl, h1, q1⟩
    have bw : Below w.heap.size w w1 := (hB _).trans (q1.mono (by simp))
    have HH : Hid (b1 = true ↔ GoodE ⟨key, seq, 3, c, s, lo, hi, n, f, fu⟩) := by
      have := H2.out
      simp only [Hid, GoodE]
      rw [h1]
      simp [FitK, this]
    clear h1 q1 H2
    go_wp2
    exact bodyPost_ret (v := .bool b1) (by simp [results, Tryz.results54, go_sem]) rfl (Ans.mk _ HH.out bw)
  by_cases k2 : kind = 2
  · subst k2
    go_enter Tryz.func54, Tryz.ntmps54
    go_wp2_with fail
    refine (l1In_any _ 1 140 _).mono ?_
    rintro e w1 ⟨rfl, rfl⟩
    go_wp2_with fail
    refine (l1In_any _ 1 1000000000 _).mono ?_
    rintro e w1 ⟨rfl, rfl⟩
    go_wp2_with fail
    refine (l5Zero_any c s lo hi ao n cap fu _).mono ?_
    rintro e w1 ⟨b1, rfl, h1, q1⟩
    have bw : Below w.heap.size w w1 := (hB _).trans (q1.mono (by simp))
    have HH : Hid (b1 = true ↔ GoodE ⟨key, seq, 2, c, s, lo, hi, n, f, fu⟩) := by
      have := H2.out
      simp only [Hid, GoodE]
      rw [h1]
      simp [FitK, this]
    clear h1 q1 H2
    go_wp2
    exact bodyPost_ret (v := .bool b1) (by simp [results, Tryz.results54, go_sem]) rfl (Ans.mk _ HH.out bw)
  have H : Hid (¬ GoodE ⟨key, seq, kind, c, s, lo, hi, n, f, fu⟩) := by simp [Hid, GoodE, FitK, k1, k2, k3]
  clear H2
  go_enter Tryz.func54, Tryz.ntmps54
  go_wp2_with fail
  refine (l1In_any _ 1 140 _).mono ?_
  rintro e w1 ⟨rfl, rfl⟩
  go_wp2_with fail
  refine (l1In_any _ 1 1000000000 _).mono ?_
  rintro e w1 ⟨rfl, rfl⟩
  go_wp2
  exact bodyPost_ret (v := .bool false) (by simp [results, Tryz.results54, go_sem]) rfl (Ans.mk _ (by have := H.out; simp [this]) (hB _))
end Go.Proofs.YtohjjigkfdhklaaGreat
