/- Rows of Meta: measured, copied, compared, marked, held. -/
import Derived.Test.YtapmbgmmonhdoaaGreatDoorFl
import Derived.Laws.IdiomCopy
import Derived.Deep.RegionHeld3
namespace Go.Proofs.YtapmbgmmonhdoaaGreatDoor
set_option maxRecDepth 100000
open Go.RowKit
set_option linter.unusedSimpArgs false
set_option linter.unusedVariables false

/-- What a meta holds. -/
structure Met where
  file : Int
  least : ByteArray
  most : ByteArray
  many : Int
/-- Its fields are what a machine can hold. -/
structure MB (x : Met) : Prop where
  file : -9223372036854775808 ≤ x.file ∧ x.file ≤ 9223372036854775807
  many : -9223372036854775808 ≤ x.many ∧ x.many ≤ 9223372036854775807
  least : x.least.size ≤ 9223372036854775807
  most : x.most.size ≤ 9223372036854775807
/-- One in 4 cells from off on. -/
structure MAt (w : World) (b off : Nat) (x : Met) : Prop where
  lt : b < w.heap.size
  c0 : w.cell? ⟨b, off, none⟩ = some (.int .i64 x.file)
  c1 : w.cell? ⟨b, off + 1, none⟩ = some (.string x.least)
  c2 : w.cell? ⟨b, off + 2, none⟩ = some (.string x.most)
  c3 : w.cell? ⟨b, off + 3, none⟩ = some (.int .i64 x.many)
section
variable {w w' : World} {b off : Nat} {x : Met}
theorem MAt.move (h : MAt w b off x) (lt : b < w'.heap.size) (k : ∀ j, w'.cell? ⟨b, j, none⟩ = w.cell? ⟨b, j, none⟩) : MAt w' b off x :=
  ⟨lt, (k _).trans h.c0, (k _).trans h.c1, (k _).trans h.c2, (k _).trans h.c3⟩
theorem MAt.keep (h : MAt w b off x) (hb : Below w.heap.size w w') : MAt w' b off x :=
  h.move (Nat.lt_of_lt_of_le h.lt hb.size) fun j => hb.cell (p := ⟨b, j, none⟩) h.lt
theorem MAt.others {d : Nat} (h : MAt w b off x) (ho : Others d w w') (hne : b ≠ d) : MAt w' b off x :=
  h.move (by rw [ho.size]; exact h.lt) fun j => World.cell?_of_block (w := w) (a := ⟨b, j, none⟩) (ho.block b hne)
end
theorem MAt.new (w : World) (x : Met) (T : Nat) : MAt (w.alloc (.cells #[.int .i64 x.file, .string x.least, .string x.most, .int .i64 x.many] T)) w.heap.size 0 x := by
  refine ⟨by simp, ?_, ?_, ?_, ?_⟩ <;> simp [go_sem]
/-- n of them at ao. -/
structure MRow (w : World) (ao : Option Addr) (n : Nat) (X : Nat → Met) : Prop where
  bd : ∀ i, i < n → MB (X i)
  lies : n = 0 ∨ ∃ b off, ao = some ⟨b, off, none⟩ ∧ b < w.heap.size ∧ ∀ i, i < n → MAt w b (off + i * 4) (X i)
theorem MRow.keep {w w' : World} {ao : Option Addr} {n : Nat} {X : Nat → Met} (h : MRow w ao n X) (hb : Below w.heap.size w w') : MRow w' ao n X :=
  ⟨h.bd, h.lies.elim .inl fun ⟨b, off, e, hlt, hc⟩ => .inr ⟨b, off, e, Nat.lt_of_lt_of_le hlt hb.size, fun i hi => (hc i hi).keep hb⟩⟩
theorem MRow.nil (w : World) (ao : Option Addr) (X : Nat → Met) : MRow w ao 0 X := ⟨fun i hi => by omega, .inl rfl⟩
theorem MRow.congr {w : World} {ao : Option Addr} {n : Nat} {X Y : Nat → Met} (h : MRow w ao n X) (e : ∀ i, i < n → X i = Y i) : MRow w ao n Y :=
  ⟨fun i hi => by rw [← e i hi]; exact h.bd i hi, h.lies.elim .inl fun ⟨b, off, e1, hlt, hc⟩ => .inr ⟨b, off, e1, hlt, fun i hi => by rw [← e i hi]; exact hc i hi⟩⟩

theorem Tryz.infoM : (Tryz.prog.info? 110).map (fun i => (i.zero, i.size, i.bytes)) = some (some (.agg #[.int .i64 0, .string ByteArray.empty, .string ByteArray.empty, .int .i64 0]), 4, 48) := by kernel_rfl

set_option maxHeartbeats 400000 in
theorem eqMeta_same (x : Met) (w : World) :
    Calls Tryz.prog 74 #[.agg #[.int .i64 x.file, .string x.least, .string x.most, .int .i64 x.many], .agg #[.int .i64 x.file, .string x.least, .string x.most, .int .i64 x.many]] w fun e w' => e = .returned (.bool true) ∧ Below w.heap.size w w' := by
  have hB : ∀ o p, Below w.heap.size w ((w.alloc o).alloc p) := fun o p => (below_new w o).alloc (by simp) _
  go_enter Tryz.func74, Tryz.ntmps74
  go_wp2
  go_ret
  exact ⟨rfl, hB _ _⟩

/-- The letters of the first k together. -/
def mtot (X : Nat → Met) : Nat → Nat
  | 0 => 0
  | k + 1 => mtot X k + ((X k).least.size + (X k).most.size)
theorem mtot_le {X : Nat → Met} : ∀ {n i : Nat}, i < n → (X i).least.size + (X i).most.size ≤ mtot X n
  | n + 1, i, h => by
    unfold mtot
    rcases Nat.lt_succ_iff_lt_or_eq.1 h with h | rfl
    · have := mtot_le (X := X) h; omega
    · omega

/-- n of them in block b, to be written. -/
structure MOwn (w : World) (b n : Nat) (X : Nat → Met) : Prop where
  lt : b < w.heap.size
  ent : ∀ i, i < n → MAt w b (i * 4) (X i)
  free : ∀ j, j < n * 4 → w.frozen? ⟨b, j, none⟩ = false
section
variable {w w' : World} {b n k : Nat} {X Y : Nat → Met}
theorem MOwn.row (h : MOwn w b n X) (hbd : ∀ i, i < n → MB (X i)) : MRow w (some ⟨b, 0, none⟩) n X :=
  ⟨hbd, .inr ⟨b, 0, rfl, h.lt, fun i hi => by rw [Nat.zero_add]; exact h.ent i hi⟩⟩
theorem MOwn.same (h : MOwn w b n X) (hs : w.heap.size ≤ w'.heap.size) (hb : w'.heap[b]? = w.heap[b]?) : MOwn w' b n X :=
  ⟨Nat.lt_of_lt_of_le h.lt hs, fun i hi => (h.ent i hi).move (Nat.lt_of_lt_of_le h.lt hs) fun j => World.cell?_of_block (w := w) (a := ⟨b, j, none⟩) hb, fun j hj => (World.frozen?_of_block (w := w) (a := ⟨b, j, none⟩) hb).trans (h.free j hj)⟩
theorem MOwn.keep (h : MOwn w b n X) (hb : Below w.heap.size w w') : MOwn w' b n X := h.same hb.size (hb.block b h.lt)
theorem MOwn.congr (h : MOwn w b n X) (e : ∀ i, i < n → X i = Y i) : MOwn w b n Y := ⟨h.lt, fun i hi => by rw [← e i hi]; exact h.ent i hi, h.free⟩
theorem MOwn.there (h : MOwn w b n X) (hk : k < n) (q : Nat) (hq : q < 4) : (w.cell? ⟨b, k * 4 + q, none⟩).isSome = true := by
  obtain ⟨_, a0, a1, a2, a3⟩ := h.ent k hk
  have : q = 0 ∨ q = 1 ∨ q = 2 ∨ q = 3 := by omega
  rcases this with rfl | rfl | rfl | rfl
  · rw [Nat.add_zero, a0]; rfl
  · rw [a1]; rfl
  · rw [a2]; rfl
  · rw [a3]; rfl
end
set_option maxRecDepth 10000 in
theorem MOwn.store {w : World} {b n k : Nat} {X : Nat → Met} (h : MOwn w b n X) (hk : k < n) (y : Met) :
    MOwn (w.setCells b (k * 4) [.int .i64 y.file, .string y.least, .string y.most, .int .i64 y.many]) b n (fun i => if i = k then y else X i) := by
  generalize hL : ([.int .i64 y.file, .string y.least, .string y.most, .int .i64 y.many] : List Value) = L
  have hlen : L.length = 4 := by rw [← hL]; rfl
  have hoth := setCells_others b L (k * 4) w
  have hin := World.cell?_setCells_in b L (k * 4) w (fun j hj => h.there hk j (by omega))
  have hout : ∀ j, j < k * 4 ∨ k * 4 + 4 ≤ j → (w.setCells b (k * 4) L).cell? ⟨b, j, none⟩ = w.cell? ⟨b, j, none⟩ := fun j hj => World.cell?_setCells_out b L (k * 4) w ⟨b, j, none⟩ (fun _ _ => by simp only [hlen]; exact hj)
  have hlt : b < (w.setCells b (k * 4) L).heap.size := by rw [hoth.size]; exact h.lt
  refine ⟨hlt, fun i hi => ?_, fun j hj => by rw [World.frozen?_setCells]; exact h.free j hj⟩
  by_cases e : i = k
  · subst e
    simp only [if_true]
    subst hL
    exact ⟨hlt, hin 0 (by simp), hin 1 (by simp), hin 2 (by simp), hin 3 (by simp)⟩
  · simp only [e, if_false]
    have h0 := h.ent i (by omega)
    have c : ∀ q, q < 4 → (w.setCells b (k * 4) L).cell? ⟨b, i * 4 + q, none⟩ = w.cell? ⟨b, i * 4 + q, none⟩ := fun q hq => hout _ (by omega)
    exact ⟨hlt, (c 0 (by omega)).trans h0.c0, (c 1 (by omega)).trans h0.c1, (c 2 (by omega)).trans h0.c2, (c 3 (by omega)).trans h0.c3⟩

set_option maxHeartbeats 1600000 in
theorem eqMetaS_same (ao bo : Option Addr) (n ca cb : Nat) (X : Nat → Met) (w : World) (hr : MRow w ao n X) (hs : MRow w bo n X) (hn : n ≤ 1048576) :
    Calls Tryz.prog 45 #[.slice ao n ca, .slice bo n cb] w fun e w' => e = .returned (.bool true) ∧ Below w.heap.size w w' := by
  obtain ⟨_, hl⟩ := hr
  obtain ⟨_, hm⟩ := hs
  go_enter Tryz.func45, Tryz.ntmps45
  go_wp2
  go_loopw [5] (fun i wr => ∃ k : Nat, k ≤ n ∧ i = .int .i64 k ∧ Below w.heap.size w wr) (fun i _ => n - (intOf i).toNat)
  case atStart => exact ⟨0, Nat.zero_le _, rfl, Below.refl _ _⟩
  case round =>
    obtain ⟨k, hk, rfl, hbk⟩ := hrel
    by_cases hlt : k < n
    · obtain ⟨b, off, rfl, hblt, hc⟩ := hl.resolve_left (by omega)
      obtain ⟨b', off', rfl, hblt', hc'⟩ := hm.resolve_left (by omega)
      have ea1 := (hc k hlt).keep hbk
      have eb1 := (hc' k hlt).keep hbk
      obtain ⟨_, a0, a1, a2, a3⟩ := id ea1
      obtain ⟨_, b0, b1, b2, b3⟩ := id eb1
      clear hc hc' hl hm
      go_wp2
      go_region_held3 (fun w' => w'.cell? ⟨b, off + k * 4, none⟩ = some (.int .i64 (X k).file) ∧ w'.cell? ⟨b, off + k * 4 + 1, none⟩ = some (.string (X k).least) ∧ w'.cell? ⟨b, off + k * 4 + 2, none⟩ = some (.string (X k).most) ∧ w'.cell? ⟨b, off + k * 4 + 3, none⟩ = some (.int .i64 (X k).many) ∧ w'.cell? ⟨b', off' + k * 4, none⟩ = some (.int .i64 (X k).file) ∧ w'.cell? ⟨b', off' + k * 4 + 1, none⟩ = some (.string (X k).least) ∧ w'.cell? ⟨b', off' + k * 4 + 2, none⟩ = some (.string (X k).most) ∧ w'.cell? ⟨b', off' + k * 4 + 3, none⟩ = some (.int .i64 (X k).many)) (go_keep) (first | (go_at_call 74; refine (eqMeta_same (X k) _).mono ?_; rintro e w6 ⟨rfl, hb6⟩; have hb6' := (Below.refl _ wr).drew.trans hb6; obtain ⟨_, p0, p1, p2, p3⟩ := ea1.keep hb6'; obtain ⟨_, q0, q1, q2, q3⟩ := eb1.keep hb6'; have bw6 := hbk.trans (hb6'.mono hbk.size); clear hb6 hb6'))
      go_wp2
      go_roundw
      case rel => exact ⟨k + 1, by omega, by go_num, bw6⟩
      case measure => simp [intOf]; omega
    · go_wp2
      go_ret
      exact ⟨rfl, hbk⟩

/-- The one that is marked from k on. -/
def mkM (k : Int) : Met := ⟨k, mt (k + 1), mt (k + 2), k + 3⟩

/-- Its cells. -/
def mc (x : Met) : List Value := [.int .i64 x.file, .string x.least, .string x.most, .int .i64 x.many]
theorem MAt.get {w : World} {b off : Nat} {x : Met} (h : MAt w b off x) (q : Nat) (hq : q < 4) : w.cell? ⟨b, off + q, none⟩ = (mc x)[q]? := by
  have : q = 0 ∨ q = 1 ∨ q = 2 ∨ q = 3 := by omega
  rcases this with rfl | rfl | rfl | rfl
  · exact h.c0
  · exact h.c1
  · exact h.c2
  · exact h.c3
theorem mat_of {w : World} {b off : Nat} {x : Met} (hl : b < w.heap.size) (h : ∀ q, q < 4 → w.cell? ⟨b, off + q, none⟩ = (mc x)[q]?) : MAt w b off x :=
  ⟨hl, h 0 (by omega), h 1 (by omega), h 2 (by omega), h 3 (by omega)⟩
theorem MOwn.put {w : World} {b n k : Nat} {X : Nat → Met} (h : MOwn w b n X) (hk : k < n) (q : Nat) (hq : q < 4) (v : Value) (y : Met) (hy : mc y = (mc (X k)).set q v) :
    MOwn (w.setCell ⟨b, k * 4 + q, none⟩ v) b n (fun i => if i = k then y else X i) := by
  obtain ⟨v0, hv0⟩ := Option.isSome_iff_exists.1 (h.there hk q hq)
  have hoth : Others b w (w.setCell ⟨b, k * 4 + q, none⟩ v) := Others.setCell _ _ _ _
  have hlt : b < (w.setCell ⟨b, k * 4 + q, none⟩ v).heap.size := by rw [hoth.size]; exact h.lt
  have hsame : (w.setCell ⟨b, k * 4 + q, none⟩ v).cell? ⟨b, k * 4 + q, none⟩ = some v := World.cell?_setCell_same _ _ _ hv0
  have hother : ∀ j, j ≠ k * 4 + q → (w.setCell ⟨b, k * 4 + q, none⟩ v).cell? ⟨b, j, none⟩ = w.cell? ⟨b, j, none⟩ := fun j hj => World.cell?_setCell_other _ _ _ _ (by intro hh; injection hh with _ h2 _; omega)
  refine ⟨hlt, fun i hi => mat_of hlt fun r hr => ?_, fun j hj => by simpa using h.free j hj⟩
  by_cases e : i = k
  · subst e
    simp only [if_true]
    rw [hy]
    by_cases e2 : r = q
    · subst e2
      rw [hsame, List.getElem?_set_self (by simp [mc]; omega)]
    · rw [hother _ (by omega), List.getElem?_set_ne (by omega)]
      exact (h.ent i hi).get r hr
  · simp only [e, if_false]
    rw [hother _ (by omega)]
    exact (h.ent i hi).get r hr

set_option maxRecDepth 100000 in
set_option maxHeartbeats 4000000 in
theorem markMetaS_any (b n cap k0 : Nat) (X : Nat → Met) (w : World) (h : MOwn w b n X) (hk0 : 1 ≤ k0) (hn : n ≤ 1048576) (hbd : k0 + 4 * n ≤ 16000000) :
    Calls Tryz.prog 48 #[.slice (some ⟨b, 0, none⟩) n cap, .int .i64 k0] w fun e w' => e = .returned (.int .i64 ((k0 + 4 * n : Nat) : Int)) ∧ MOwn w' b n (fun i => mkM ((k0 + 4 * i : Nat) : Int)) ∧ Only b w w' := by
  go_enter Tryz.func48, Tryz.ntmps48
  go_wp2
  go_loopw [1, 5] (fun q i wr => ∃ k kk : Nat, k ≤ n ∧ i = .int .i64 k ∧ q = .int .i64 (kk : Int) ∧ Hid (kk = k0 + 4 * k) ∧ MOwn wr b n (fun i => if i < k then mkM ((k0 + 4 * i : Nat) : Int) else X i) ∧ Only b w wr) (fun _ i _ => n - (intOf i).toNat)
  case atStart => exact ⟨0, k0, Nat.zero_le _, rfl, rfl, by simp [Hid], by simpa using h, Only.refl _ _⟩
  case round =>
    obtain ⟨k, kk, hk, rfl, rfl, HK, hC, hCO⟩ := hrel
    clear h
    by_cases hlt : k < n
    · have hkt : kk + 4 ≤ 16000000 := by have := HK.out; omega
      have hk1 : 1 ≤ kk := by have := HK.out; omega
      have hw1 : IntKind.i64.wrap ((kk : Int) + 1) = (kk : Int) + 1 := by rw [IntKind.wrap_i64] <;> omega
      have hw2 : IntKind.i64.wrap ((kk : Int) + 1 + 1) = (kk : Int) + 2 := by rw [IntKind.wrap_i64] <;> omega
      have hw3 : IntKind.i64.wrap ((kk : Int) + 2 + 1) = (kk : Int) + 3 := by rw [IntKind.wrap_i64] <;> omega
      have hw4 : IntKind.i64.wrap ((kk : Int) + 3 + 1) = (kk : Int) + 4 := by rw [IntKind.wrap_i64] <;> omega
      have e1 := hC.ent k hlt
      simp only [Nat.lt_irrefl, if_false] at e1
      obtain ⟨hb0, c0, c1, c2, c3⟩ := id e1
      have f0 := hC.free (k * 4) (by omega)
      have f1 := hC.free (k * 4 + 1) (by omega)
      have f2 := hC.free (k * 4 + 2) (by omega)
      have f3 := hC.free (k * 4 + 3) (by omega)
      have z0 : mc (if k < k then mkM ((k0 + 4 * k : Nat) : Int) else X k) = mc (X k) := by rw [if_neg (Nat.lt_irrefl _)]
      have m0 := hC.put hlt 0 (by omega) (.int .i64 (kk : Int)) { (X k) with file := (kk : Int) } (by rw [z0]; rfl)
      have om0 := hCO.trans (Only.of_others (Others.setCell _ b (k * 4 + 0) (.int .i64 (kk : Int))))
      simp only [Nat.add_zero] at m0 om0
      go_wp2_with fail
      refine (markText_any ((kk : Int) + 1) _ (by omega) (by omega)).mono ?_
      rintro e w1 ⟨rfl, hb1⟩
      have k1 := m0.keep hb1
      have e1 := k1.ent k hlt
      simp only [if_true] at e1
      obtain ⟨hb0, c0, c1, c2, c3⟩ := id e1
      have f0 := k1.free (k * 4) (by omega)
      have f1 := k1.free (k * 4 + 1) (by omega)
      have f2 := k1.free (k * 4 + 2) (by omega)
      have f3 := k1.free (k * 4 + 3) (by omega)
      have co1 : Only b w w1 := om0.trans (Only.of_below hb1)
      clear hb1
      have m1 := k1.put hlt 1 (by omega) (.string (mt ((kk : Int) + 1))) { { (X k) with file := (kk : Int) } with least := (mt ((kk : Int) + 1)) } (by rw [if_pos rfl]; rfl)
      have om1 := co1.trans (Only.of_others (Others.setCell _ b (k * 4 + 1) (.string (mt ((kk : Int) + 1)))))
      go_wp2_with fail
      refine (markText_any ((kk : Int) + 2) _ (by omega) (by omega)).mono ?_
      rintro e w2 ⟨rfl, hb2⟩
      have k2 := m1.keep hb2
      have e1 := k2.ent k hlt
      simp only [if_true] at e1
      obtain ⟨hb0, c0, c1, c2, c3⟩ := id e1
      have f0 := k2.free (k * 4) (by omega)
      have f1 := k2.free (k * 4 + 1) (by omega)
      have f2 := k2.free (k * 4 + 2) (by omega)
      have f3 := k2.free (k * 4 + 3) (by omega)
      have co2 : Only b w w2 := om1.trans (Only.of_below hb2)
      clear hb2
      have m2 := k2.put hlt 2 (by omega) (.string (mt ((kk : Int) + 2))) { { { (X k) with file := (kk : Int) } with least := (mt ((kk : Int) + 1)) } with most := (mt ((kk : Int) + 2)) } (by rw [if_pos rfl]; rfl)
      have om2 := co2.trans (Only.of_others (Others.setCell _ b (k * 4 + 2) (.string (mt ((kk : Int) + 2)))))
      have m3 := m2.put hlt 3 (by omega) (.int .i64 ((kk : Int) + 3)) { { { { (X k) with file := (kk : Int) } with least := (mt ((kk : Int) + 1)) } with most := (mt ((kk : Int) + 2)) } with many := ((kk : Int) + 3) } (by rw [if_pos rfl]; rfl)
      have om3 := om2.trans (Only.of_others (Others.setCell _ b (k * 4 + 3) (.int .i64 ((kk : Int) + 3))))
      have HK' : Hid (kk + 4 = k0 + 4 * (k + 1)) := by have := HK.out; unfold Hid; omega
      have hlast := m3.congr (Y := fun i => if i < k + 1 then mkM ((k0 + 4 * i : Nat) : Int) else X i) (fun i _ => by
        by_cases h1 : i = k
        · subst h1
          rw [if_pos rfl, if_pos (by omega), ← HK.out]
          rfl
        · by_cases h2 : i < k
          · simp [h1, h2, show i < k + 1 by omega]
          · simp [h1, h2, show ¬ i < k + 1 by omega])
      clear m0 m1 m2 m3 hC
      go_wp2
      go_roundw
      case rel => exact ⟨k + 1, kk + 4, by omega, by go_num, by go_num, HK', hlast, om3⟩
      case measure => simp [intOf]; omega
    · have e : k = n := by omega
      subst e
      go_wp2
      go_ret
      exact ⟨by rw [HK.out]; rfl, hC.congr (fun i hi => by simp [hi]), hCO⟩

set_option maxRecDepth 100000 in
set_option maxHeartbeats 4000000 in
theorem heldMetaS_yes (ao : Option Addr) (n cap k0 : Nat) (w : World) (hr : MRow w ao n (fun i => mkM ((k0 + 4 * i : Nat) : Int))) (hk0 : 1 ≤ k0) (hn : n ≤ 1048576) (hbd : k0 + 4 * n ≤ 16000000) :
    Calls Tryz.prog 50 #[.slice ao n cap, .int .i64 k0] w fun e w' => e = .returned (.int .i64 ((k0 + 4 * n : Nat) : Int)) ∧ Below w.heap.size w w' := by
  obtain ⟨_, hl⟩ := hr
  go_enter Tryz.func50, Tryz.ntmps50
  go_wp2
  go_loopw [1, 5] (fun q i wr => ∃ k kk : Nat, k ≤ n ∧ i = .int .i64 k ∧ q = .int .i64 (kk : Int) ∧ Hid (kk = k0 + 4 * k) ∧ Below w.heap.size w wr) (fun _ i _ => n - (intOf i).toNat)
  case atStart => exact ⟨0, k0, Nat.zero_le _, rfl, rfl, by simp [Hid], Below.refl _ _⟩
  case round =>
    obtain ⟨k, kk, hk, rfl, rfl, HK, hbk⟩ := hrel
    by_cases hlt : k < n
    · obtain ⟨b, off, rfl, hblt, hc⟩ := hl.resolve_left (by omega)
      have hkt : kk + 4 ≤ 16000000 := by have := HK.out; omega
      have hk1 : 1 ≤ kk := by have := HK.out; omega
      have hw1 : IntKind.i64.wrap ((kk : Int) + 1) = (kk : Int) + 1 := by rw [IntKind.wrap_i64] <;> omega
      have hw2 : IntKind.i64.wrap ((kk : Int) + 1 + 1) = (kk : Int) + 2 := by rw [IntKind.wrap_i64] <;> omega
      have hw3 : IntKind.i64.wrap ((kk : Int) + 2 + 1) = (kk : Int) + 3 := by rw [IntKind.wrap_i64] <;> omega
      have hw4 : IntKind.i64.wrap ((kk : Int) + 3 + 1) = (kk : Int) + 4 := by rw [IntKind.wrap_i64] <;> omega
      have ek := (hc k hlt).keep hbk
      rw [← HK.out] at ek
      have HK' : Hid (kk + 4 = k0 + 4 * (k + 1)) := by have := HK.out; unfold Hid; omega
      obtain ⟨_, a0, a1, a2, a3⟩ := id ek
      simp only [mkM] at a0 a1 a2 a3
      have hq0 : (0 : Int) ≤ (k : Int) := by omega
      have hq1 : (k : Int) < (n : Int) := by omega
      clear hc hl
      go_wp2
      go_region_held3 (fun w' => w'.cell? ⟨b, off + k * 4 + 1, none⟩ = some (.string (mt ((kk : Int) + 1)))) (go_keep) (first | (go_at_call 32; refine (markText_any ((kk : Int) + 1) _ (by omega) (by omega)).mono ?_; rintro e w1 ⟨rfl, hb1⟩; have hb1' := (Below.refl _ wr).drew.trans hb1; have ek1 := ek.keep hb1'; obtain ⟨_, c0, c1, c2, c3⟩ := id ek1; simp only [mkM] at c0 c1 c2 c3; have bw1 := hbk.trans (hb1'.mono hbk.size); clear hb1 hb1'))
      go_wp2
      go_region_held3 (fun w' => w'.cell? ⟨b, off + k * 4 + 2, none⟩ = some (.string (mt ((kk : Int) + 2)))) (go_keep) (first | (go_at_call 32; refine (markText_any ((kk : Int) + 2) _ (by omega) (by omega)).mono ?_; rintro e w2 ⟨rfl, hb2⟩; have hb2' := (Below.refl _ w1).drew.trans hb2; have ek2 := ek1.keep hb2'; obtain ⟨_, c0, c1, c2, c3⟩ := id ek2; simp only [mkM] at c0 c1 c2 c3; have bw2 := bw1.trans (hb2'.mono bw1.size); clear hb2 hb2'))
      go_wp2
      go_roundw
      case rel => exact ⟨k + 1, kk + 4, by omega, by go_num, by go_num, HK', bw2⟩
      case measure => simp [intOf]; omega
    · have e : k = n := by omega
      subst e
      go_wp2
      go_ret
      exact ⟨by rw [HK.out]; rfl, hbk⟩
end Go.Proofs.YtapmbgmmonhdoaaGreatDoor
