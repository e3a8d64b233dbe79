/- Rows of Add: measured, copied, compared, marked, held. -/
import Derived.Test.YtofdhgffnkhdfaaMt
import Derived.Laws.IdiomCopy
import Derived.Deep.RegionHeld3
namespace Go.Proofs.Ytofdhgffnkhdfaa
open Go.RowKit
set_option linter.unusedSimpArgs false
set_option linter.unusedVariables false

/-- What an add holds. -/
structure Adm where
  lv : Int
  m : Met
/-- Its fields are what a machine can hold. -/
structure DB (x : Adm) : Prop where
  lv : -9223372036854775808 ≤ x.lv ∧ x.lv ≤ 9223372036854775807
  m : MB x.m
/-- One in 5 cells from off on. -/
structure DAt (w : World) (b off : Nat) (x : Adm) : Prop where
  lt : b < w.heap.size
  c0 : w.cell? ⟨b, off, none⟩ = some (.int .i64 x.lv)
  c1 : w.cell? ⟨b, off + 1, none⟩ = some (.int .i64 x.m.file)
  c2 : w.cell? ⟨b, off + 2, none⟩ = some (.string x.m.least)
  c3 : w.cell? ⟨b, off + 3, none⟩ = some (.string x.m.most)
  c4 : w.cell? ⟨b, off + 4, none⟩ = some (.int .i64 x.m.many)
section
variable {w w' : World} {b off : Nat} {x : Adm}
theorem DAt.move (h : DAt w b off x) (lt : b < w'.heap.size) (k : ∀ j, w'.cell? ⟨b, j, none⟩ = w.cell? ⟨b, j, none⟩) : DAt w' b off x :=
  ⟨lt, (k _).trans h.c0, (k _).trans h.c1, (k _).trans h.c2, (k _).trans h.c3, (k _).trans h.c4⟩
theorem DAt.keep (h : DAt w b off x) (hb : Below w.heap.size w w') : DAt w' b off x :=
  h.move (Nat.lt_of_lt_of_le h.lt hb.size) fun j => hb.cell (p := ⟨b, j, none⟩) h.lt
theorem DAt.others {d : Nat} (h : DAt w b off x) (ho : Others d w w') (hne : b ≠ d) : DAt w' b off x :=
  h.move (by rw [ho.size]; exact h.lt) fun j => World.cell?_of_block (w := w) (a := ⟨b, j, none⟩) (ho.block b hne)
end
theorem DAt.new (w : World) (x : Adm) (T : Nat) : DAt (w.alloc (.cells #[.int .i64 x.lv, .int .i64 x.m.file, .string x.m.least, .string x.m.most, .int .i64 x.m.many] T)) w.heap.size 0 x := by
  refine ⟨by simp, ?_, ?_, ?_, ?_, ?_⟩ <;> simp [go_sem]
/-- n of them at ao. -/
structure DRow (w : World) (ao : Option Addr) (n : Nat) (X : Nat → Adm) : Prop where
  bd : ∀ i, i < n → DB (X i)
  lies : n = 0 ∨ ∃ b off, ao = some ⟨b, off, none⟩ ∧ b < w.heap.size ∧ ∀ i, i < n → DAt w b (off + i * 5) (X i)
theorem DRow.keep {w w' : World} {ao : Option Addr} {n : Nat} {X : Nat → Adm} (h : DRow w ao n X) (hb : Below w.heap.size w w') : DRow w' ao n X :=
  ⟨h.bd, h.lies.elim .inl fun ⟨b, off, e, hlt, hc⟩ => .inr ⟨b, off, e, Nat.lt_of_lt_of_le hlt hb.size, fun i hi => (hc i hi).keep hb⟩⟩
theorem DRow.nil (w : World) (ao : Option Addr) (X : Nat → Adm) : DRow w ao 0 X := ⟨fun i hi => by omega, .inl rfl⟩
theorem DRow.congr {w : World} {ao : Option Addr} {n : Nat} {X Y : Nat → Adm} (h : DRow w ao n X) (e : ∀ i, i < n → X i = Y i) : DRow w ao n Y :=
  ⟨fun i hi => by rw [← e i hi]; exact h.bd i hi, h.lies.elim .inl fun ⟨b, off, e1, hlt, hc⟩ => .inr ⟨b, off, e1, hlt, fun i hi => by rw [← e i hi]; exact hc i hi⟩⟩

theorem Try.infoD : (Try.prog.info? 67).map (fun i => (i.zero, i.size, i.bytes)) = some (some (.agg #[.int .i64 0, .int .i64 0, .string ByteArray.empty, .string ByteArray.empty, .int .i64 0]), 5, 56) := by kernel_rfl

set_option maxHeartbeats 400000 in
theorem szAdd_ex (x : Adm) (left : Int) (w : World) (hl : 0 ≤ left ∧ left ≤ 1048576) (hx : DB x) :
    Calls Try.prog 41 #[.agg #[.int .i64 x.lv, .int .i64 x.m.file, .string x.m.least, .string x.m.most, .int .i64 x.m.many], .int .i64 left] w fun e w' => SzX left ((x.m.least.size : Int) + x.m.most.size) w e w' := by
  have hB := fun o => below_new w o
  go_enter Try.func41, Try.ntmps41
  go_wp2_with fail
  refine (szMeta_ex x.m left _ hl hx.m).mono ?_
  rintro e w1 ⟨v, rfl, h1, h3, hb⟩
  have bw : Below w.heap.size w w1 := (hB _).trans (hb.mono (by simp))
  clear hb
  by_cases hv : v < 0
  · clear h3
    go_wp2
    go_ret
    exact ⟨-1, rfl, by omega, fun h => by omega, bw⟩
  · have h4 : Hid (v = left - ((x.m.least.size : Int) + x.m.most.size)) := h3 (by omega)
    clear h3
    go_wp2
    go_ret
    exact ⟨v, rfl, by omega, fun _ => h4.out, bw⟩
set_option maxHeartbeats 800000 in
theorem toAdd_any (x : Adm) (w : World) :
    Calls Try.prog 45 #[.agg #[.int .i64 x.lv, .int .i64 x.m.file, .string x.m.least, .string x.m.most, .int .i64 x.m.many]] w fun e w' => e = .returned (.agg #[.int .i64 x.lv, .int .i64 x.m.file, .string x.m.least, .string x.m.most, .int .i64 x.m.many]) ∧ Below w.heap.size w w' := by
  go_enter Try.func45, Try.ntmps45
  go_wp2_with fail
  refine (toMeta_any x.m _).mono ?_
  rintro e w1 ⟨rfl, hb⟩
  have b0 := hb.cell (p := ⟨w.heap.size + 1, 0, none⟩) (by simp; try omega)
  have b1 := hb.cell (p := ⟨w.heap.size + 1, 1, none⟩) (by simp; try omega)
  have b2 := hb.cell (p := ⟨w.heap.size + 1, 2, none⟩) (by simp; try omega)
  have b3 := hb.cell (p := ⟨w.heap.size + 1, 3, none⟩) (by simp; try omega)
  have b4 := hb.cell (p := ⟨w.heap.size + 1, 4, none⟩) (by simp; try omega)
  have bf : ∀ j, w1.frozen? ⟨w.heap.size + 1, j, none⟩ = false := fun j => (hb.frozen (p := ⟨w.heap.size + 1, j, none⟩) (by simp; try omega)).trans (by simp [go_sem])
  have k0 := hb.cell (p := ⟨w.heap.size + 1 + 1, 0, none⟩) (by simp; try omega)
  have k1 := hb.cell (p := ⟨w.heap.size + 1 + 1, 1, none⟩) (by simp; try omega)
  have k2 := hb.cell (p := ⟨w.heap.size + 1 + 1, 2, none⟩) (by simp; try omega)
  have k3 := hb.cell (p := ⟨w.heap.size + 1 + 1, 3, none⟩) (by simp; try omega)
  have k4 := hb.cell (p := ⟨w.heap.size + 1 + 1, 4, none⟩) (by simp; try omega)
  have kf : ∀ j, w1.frozen? ⟨w.heap.size + 1 + 1, j, none⟩ = false := fun j => (hb.frozen (p := ⟨w.heap.size + 1 + 1, j, none⟩) (by simp; try omega)).trans (by simp [go_sem])
  simp [go_sem] at b0 b1 b2 b3 b4 k0 k1 k2 k3 k4
  have bw : Below w.heap.size w w1 := by
    refine Below.trans ?_ (hb.mono (by simp; omega))
    repeat' refine Below.setCell ?_ (by first | (simp; done) | (simp; omega)) _
    first
      | exact (((Below.refl _ _).alloc (Nat.le_refl _) _).alloc (by simp) _).alloc (by simp; omega) _
      | exact ((Below.refl _ _).alloc (Nat.le_refl _) _).alloc (by simp) _
  clear hb
  go_wp2
  refine bodyPost_ret (v := .agg #[.int .i64 x.lv, .int .i64 x.m.file, .string x.m.least, .string x.m.most, .int .i64 x.m.many]) (by simp [results, Try.results45, go_sem, b0, b1, b2, b3, b4]) rfl ⟨rfl, ?_⟩
  repeat' refine Below.setCell ?_ (by first | (simp; done) | (simp; omega)) _
  exact bw
set_option maxHeartbeats 400000 in
theorem eqAdd_same (x : Adm) (w : World) :
    Calls Try.prog 57 #[.agg #[.int .i64 x.lv, .int .i64 x.m.file, .string x.m.least, .string x.m.most, .int .i64 x.m.many], .agg #[.int .i64 x.lv, .int .i64 x.m.file, .string x.m.least, .string x.m.most, .int .i64 x.m.many]] w fun e w' => e = .returned (.bool true) ∧ Below w.heap.size w w' := by
  have hB : ∀ o p, Below w.heap.size w ((w.alloc o).alloc p) := fun o p => (below_new w o).alloc (by simp) _
  go_enter Try.func57, Try.ntmps57
  go_wp2_with fail
  refine (eqMeta_same x.m _).mono ?_
  rintro e w1 ⟨rfl, hb⟩
  have hbw : Below w.heap.size w w1 := (hB _ _).trans (hb.mono (by simp; omega))
  clear hb
  go_wp2
  go_ret
  exact ⟨rfl, hbw⟩

/-- The letters of the first k together. -/
def dtot (X : Nat → Adm) : Nat → Nat
  | 0 => 0
  | k + 1 => dtot X k + ((X k).m.least.size + (X k).m.most.size)
theorem dtot_le {X : Nat → Adm} : ∀ {n i : Nat}, i < n → (X i).m.least.size + (X i).m.most.size ≤ dtot X n
  | n + 1, i, h => by
    unfold dtot
    rcases Nat.lt_succ_iff_lt_or_eq.1 h with h | rfl
    · have := dtot_le (X := X) h; omega
    · omega

set_option maxHeartbeats 800000 in
theorem szAddS_ex (ao : Option Addr) (n cap : Nat) (X : Nat → Adm) (left : Int) (w : World) (hr : DRow w ao n X) (hl : 0 ≤ left ∧ left ≤ 1048576) (hn : n ≤ 9223372036854775807) :
    Calls Try.prog 25 #[.slice ao n cap, .int .i64 left] w fun e w' => SzX left ((n + dtot X n : Nat) : Int) w e w' := by
  obtain ⟨hbd, hlies⟩ := hr
  have hw : IntKind.i64.wrap (left - (n : Int)) = left - (n : Int) := by rw [IntKind.wrap_i64] <;> omega
  by_cases h1 : left - (n : Int) < 0
  · go_enter Try.func25, Try.ntmps25
    go_wp2
    go_ret
    exact ⟨-1, rfl, by omega, fun h => by omega, Below.refl _ _⟩
  · go_enter Try.func25, Try.ntmps25
    go_wp2
    go_loopw [1, 5] (fun q i wr => ∃ (k : Nat) (l : Int), k ≤ n ∧ i = .int .i64 k ∧ q = .int .i64 l ∧ 0 ≤ l ∧ l ≤ left ∧ Hid (l + n + dtot X k = left) ∧ Below w.heap.size w wr) (fun _ i _ => n - (intOf i).toNat)
    case atStart => exact ⟨0, _, Nat.zero_le _, rfl, rfl, by omega, by omega, by simp [Hid, dtot], Below.refl _ _⟩
    case round =>
      obtain ⟨k, l, hk, rfl, rfl, hl0, hl1, HS, hbk⟩ := hrel
      by_cases hlt : k < n
      · obtain ⟨b, off, rfl, hblt, hc⟩ := hlies.resolve_left (by omega)
        obtain ⟨_, a0, a1, a2, a3, a4⟩ := (hc k hlt).keep hbk
        have hE := hbd k hlt
        clear hc hlies
        go_wp2_with fail
        refine (szAdd_ex (X k) _ _ (by omega) hE).mono ?_
        rintro e w2 ⟨v, rfl, hv1, hv3, hb2⟩
        have hbw := hbk.trans (hb2.mono hbk.size)
        by_cases hv : v < 0
        · clear hv3
          go_wp2
          go_ret
          exact ⟨-1, rfl, by omega, fun h => by omega, hbw⟩
        · have hq := hv3 (by omega)
          have hvl : v ≤ left := by omega
          have HS' : Hid (v + n + dtot X (k + 1) = left) := by
            have := HS.out
            unfold Hid dtot
            omega
          clear hv3 hq
          go_wp2
          go_roundw
          case rel => exact ⟨k + 1, v, by omega, by go_num, rfl, by omega, hvl, HS', hbw⟩
          case measure => simp [intOf]; omega
      · have e : k = n := by omega
        subst e
        go_wp2
        go_ret
        exact ⟨l, rfl, by omega, fun _ => by have := HS.out; omega, hbk⟩

/-- n of them in block b, to be written. -/
structure DOwn (w : World) (b n : Nat) (X : Nat → Adm) : Prop where
  lt : b < w.heap.size
  ent : ∀ i, i < n → DAt w b (i * 5) (X i)
  free : ∀ j, j < n * 5 → w.frozen? ⟨b, j, none⟩ = false
section
variable {w w' : World} {b n k : Nat} {X Y : Nat → Adm}
theorem DOwn.row (h : DOwn w b n X) (hbd : ∀ i, i < n → DB (X i)) : DRow w (some ⟨b, 0, none⟩) n X :=
  ⟨hbd, .inr ⟨b, 0, rfl, h.lt, fun i hi => by rw [Nat.zero_add]; exact h.ent i hi⟩⟩
theorem DOwn.same (h : DOwn w b n X) (hs : w.heap.size ≤ w'.heap.size) (hb : w'.heap[b]? = w.heap[b]?) : DOwn w' b n X :=
  ⟨Nat.lt_of_lt_of_le h.lt hs, fun i hi => (h.ent i hi).move (Nat.lt_of_lt_of_le h.lt hs) fun j => World.cell?_of_block (w := w) (a := ⟨b, j, none⟩) hb, fun j hj => (World.frozen?_of_block (w := w) (a := ⟨b, j, none⟩) hb).trans (h.free j hj)⟩
theorem DOwn.keep (h : DOwn w b n X) (hb : Below w.heap.size w w') : DOwn w' b n X := h.same hb.size (hb.block b h.lt)
theorem DOwn.congr (h : DOwn w b n X) (e : ∀ i, i < n → X i = Y i) : DOwn w b n Y := ⟨h.lt, fun i hi => by rw [← e i hi]; exact h.ent i hi, h.free⟩
theorem DOwn.there (h : DOwn w b n X) (hk : k < n) (q : Nat) (hq : q < 5) : (w.cell? ⟨b, k * 5 + q, none⟩).isSome = true := by
  obtain ⟨_, a0, a1, a2, a3, a4⟩ := h.ent k hk
  have : q = 0 ∨ q = 1 ∨ q = 2 ∨ q = 3 ∨ q = 4 := by omega
  rcases this with rfl | rfl | rfl | rfl | rfl
  · rw [Nat.add_zero, a0]; rfl
  · rw [a1]; rfl
  · rw [a2]; rfl
  · rw [a3]; rfl
  · rw [a4]; rfl
end
set_option maxRecDepth 10000 in
theorem DOwn.store {w : World} {b n k : Nat} {X : Nat → Adm} (h : DOwn w b n X) (hk : k < n) (y : Adm) :
    DOwn (w.setCells b (k * 5) [.int .i64 y.lv, .int .i64 y.m.file, .string y.m.least, .string y.m.most, .int .i64 y.m.many]) b n (fun i => if i = k then y else X i) := by
  generalize hL : ([.int .i64 y.lv, .int .i64 y.m.file, .string y.m.least, .string y.m.most, .int .i64 y.m.many] : List Value) = L
  have hlen : L.length = 5 := by rw [← hL]; rfl
  have hoth := setCells_others b L (k * 5) w
  have hin := World.cell?_setCells_in b L (k * 5) w (fun j hj => h.there hk j (by omega))
  have hout : ∀ j, j < k * 5 ∨ k * 5 + 5 ≤ j → (w.setCells b (k * 5) L).cell? ⟨b, j, none⟩ = w.cell? ⟨b, j, none⟩ := fun j hj => World.cell?_setCells_out b L (k * 5) w ⟨b, j, none⟩ (fun _ _ => by simp only [hlen]; exact hj)
  have hlt : b < (w.setCells b (k * 5) L).heap.size := by rw [hoth.size]; exact h.lt
  refine ⟨hlt, fun i hi => ?_, fun j hj => by rw [World.frozen?_setCells]; exact h.free j hj⟩
  by_cases e : i = k
  · subst e
    simp only [if_true]
    subst hL
    exact ⟨hlt, hin 0 (by simp), hin 1 (by simp), hin 2 (by simp), hin 3 (by simp), hin 4 (by simp)⟩
  · simp only [e, if_false]
    have h0 := h.ent i (by omega)
    have c : ∀ q, q < 5 → (w.setCells b (k * 5) L).cell? ⟨b, i * 5 + q, none⟩ = w.cell? ⟨b, i * 5 + q, none⟩ := fun q hq => hout _ (by omega)
    exact ⟨hlt, (c 0 (by omega)).trans h0.c0, (c 1 (by omega)).trans h0.c1, (c 2 (by omega)).trans h0.c2, (c 3 (by omega)).trans h0.c3, (c 4 (by omega)).trans h0.c4⟩

set_option maxRecDepth 10000 in
set_option maxHeartbeats 1600000 in
theorem toAddS_any (ao : Option Addr) (n cap : Nat) (X : Nat → Adm) (w : World) (hr : DRow w ao n X) (hn : n ≤ 1048576) :
    Calls Try.prog 29 #[.slice ao n cap] w fun e w' => e = .returned (.slice (some ⟨w.heap.size, 0, none⟩) n n) ∧ DOwn w' w.heap.size n X ∧ Below w.heap.size w w' := by
  obtain ⟨i0, hi, hz0, hz1, hz2⟩ := info_parts Try.infoD
  obtain ⟨hbd, hlies⟩ := hr
  go_enter Try.func29, Try.ntmps29
  go_wp2_with (at_make; refine wpList_make_full _ rfl (.tmp 6) (.tmp 6) 43 rfl w.heap.size 67 i0 (.agg #[.int .i64 0, .int .i64 0, .string ByteArray.empty, .string ByteArray.empty, .int .i64 0]) 5 Try.underlying43 hi hz0 hz1 .i64 .i64 _ _ n rfl rfl rfl rfl (by rw [hz2]; omega) (by unfold maxLen; omega) (Nat.le_refl _) ?_; intro w1 hown hgrow)
  have hb1 : Below w.heap.size w w1 := (Below.refl _ _).grown hgrow (Nat.le_refl _) (fun k h => by simp at h)
  have hlt1 : w.heap.size < w1.heap.size := by
    rcases hown.2 with ⟨h, _⟩ | ⟨g', cap', cur, h, _, hg, _⟩
    · simp at h
    · simp at h; obtain ⟨rfl, _⟩ := h
      exact (Array.getElem?_eq_some_iff.1 hg).1
  have ho : DOwn w1 w.heap.size n (fun _ => (⟨0, ⟨0, .empty, .empty, 0⟩⟩ : Adm)) := by
    refine ⟨hlt1, fun i h => ?_, fun j _ => hown.frozenAt j⟩
    have hc : ∀ q (hq : q < 5), w1.cell? ⟨w.heap.size, i * 5 + q, none⟩ = (#[.int .i64 0, .int .i64 0, .string ByteArray.empty, .string ByteArray.empty, .int .i64 0] : Array Value)[q]? := fun q hq => by
      rw [hown.cellAt (i * 5 + q) (by omega)]
      exact made_cell (d := #[.int .i64 0, .int .i64 0, .string ByteArray.empty, .string ByteArray.empty, .int .i64 0]) (k := 5) rfl h hq
    exact ⟨hlt1, hc 0 (by omega), hc 1 (by omega), hc 2 (by omega), hc 3 (by omega), hc 4 (by omega)⟩
  clear hown hgrow
  go_loopw [4] (fun i wr => ∃ k : Nat, k ≤ n ∧ i = .int .i64 k ∧ DOwn wr w.heap.size n (fun j => if j < k then X j else (⟨0, ⟨0, .empty, .empty, 0⟩⟩ : Adm)) ∧ Below w.heap.size w wr) (fun i _ => n - (intOf i).toNat)
  case atStart => exact ⟨0, Nat.zero_le _, rfl, by simpa using ho, hb1⟩
  case round =>
    obtain ⟨k, hk, rfl, hok, hbk⟩ := hrel
    by_cases hlt : k < n
    · obtain ⟨b, off, rfl, hblt, hc⟩ := hlies.resolve_left (by omega)
      obtain ⟨_, a0, a1, a2, a3, a4⟩ := (hc k hlt).keep hbk
      clear hc hlies ho
      go_wp2_with fail
      refine (toAdd_any (X k) _).mono ?_
      rintro e w2 ⟨rfl, hb2⟩
      have hok2 := hok.keep hb2
      obtain ⟨v0, hv0⟩ := Option.isSome_iff_exists.1 (hok2.there hlt 0 (by omega))
      have hf0 := hok2.free (k * 5 + 0) (by omega)
      obtain ⟨v1, hv1⟩ := Option.isSome_iff_exists.1 (hok2.there hlt 1 (by omega))
      have hf1 := hok2.free (k * 5 + 1) (by omega)
      obtain ⟨v2, hv2⟩ := Option.isSome_iff_exists.1 (hok2.there hlt 2 (by omega))
      have hf2 := hok2.free (k * 5 + 2) (by omega)
      obtain ⟨v3, hv3⟩ := Option.isSome_iff_exists.1 (hok2.there hlt 3 (by omega))
      have hf3 := hok2.free (k * 5 + 3) (by omega)
      obtain ⟨v4, hv4⟩ := Option.isSome_iff_exists.1 (hok2.there hlt 4 (by omega))
      have hf4 := hok2.free (k * 5 + 4) (by omega)
      simp only [Nat.add_zero] at hv0 hf0
      have hst := (hok2.store hlt (X k)).congr (Y := fun j => if j < k + 1 then X j else (⟨0, ⟨0, .empty, .empty, 0⟩⟩ : Adm)) (fun i _ => by by_cases h1 : i = k <;> by_cases h2 : i < k <;> simp [h1, h2] <;> omega)
      have hbw : Below w.heap.size w w2 := hbk.trans (hb2.mono hbk.size)
      have hbs : Below w.heap.size w (w2.setCells w.heap.size (k * 5) [.int .i64 (X k).lv, .int .i64 (X k).m.file, .string (X k).m.least, .string (X k).m.most, .int .i64 (X k).m.many]) := hbw.trans ((setCells_others _ _ _ _).below (Nat.le_refl _))
      clear hok hok2 hb2
      go_wp2
      go_roundw
      case rel => exact ⟨k + 1, by omega, by go_num, hst, hbs⟩
      case measure => simp [intOf]; omega
    · go_wp2
      go_ret
      have e : k = n := by omega
      subst e
      exact ⟨rfl, hok.congr (fun i hi => by simp [hi]), hbk⟩

set_option maxHeartbeats 1600000 in
theorem eqAddS_same (ao bo : Option Addr) (n ca cb : Nat) (X : Nat → Adm) (w : World) (hr : DRow w ao n X) (hs : DRow w bo n X) (hn : n ≤ 1048576) :
    Calls Try.prog 37 #[.slice ao n ca, .slice bo n cb] w fun e w' => e = .returned (.bool true) ∧ Below w.heap.size w w' := by
  obtain ⟨_, hl⟩ := hr
  obtain ⟨_, hm⟩ := hs
  go_enter Try.func37, Try.ntmps37
  go_wp2
  go_loopw [5] (fun i wr => ∃ k : Nat, k ≤ n ∧ i = .int .i64 k ∧ Below w.heap.size w wr) (fun i _ => n - (intOf i).toNat)
  case atStart => exact ⟨0, Nat.zero_le _, rfl, Below.refl _ _⟩
  case round =>
    obtain ⟨k, hk, rfl, hbk⟩ := hrel
    by_cases hlt : k < n
    · obtain ⟨b, off, rfl, hblt, hc⟩ := hl.resolve_left (by omega)
      obtain ⟨b', off', rfl, hblt', hc'⟩ := hm.resolve_left (by omega)
      have ea1 := (hc k hlt).keep hbk
      have eb1 := (hc' k hlt).keep hbk
      obtain ⟨_, a0, a1, a2, a3, a4⟩ := id ea1
      obtain ⟨_, b0, b1, b2, b3, b4⟩ := id eb1
      clear hc hc' hl hm
      go_wp2
      go_region_held3 (fun w' => w'.cell? ⟨b, off + k * 5, none⟩ = some (.int .i64 (X k).lv) ∧ w'.cell? ⟨b, off + k * 5 + 1, none⟩ = some (.int .i64 (X k).m.file) ∧ w'.cell? ⟨b, off + k * 5 + 2, none⟩ = some (.string (X k).m.least) ∧ w'.cell? ⟨b, off + k * 5 + 3, none⟩ = some (.string (X k).m.most) ∧ w'.cell? ⟨b, off + k * 5 + 4, none⟩ = some (.int .i64 (X k).m.many) ∧ w'.cell? ⟨b', off' + k * 5, none⟩ = some (.int .i64 (X k).lv) ∧ w'.cell? ⟨b', off' + k * 5 + 1, none⟩ = some (.int .i64 (X k).m.file) ∧ w'.cell? ⟨b', off' + k * 5 + 2, none⟩ = some (.string (X k).m.least) ∧ w'.cell? ⟨b', off' + k * 5 + 3, none⟩ = some (.string (X k).m.most) ∧ w'.cell? ⟨b', off' + k * 5 + 4, none⟩ = some (.int .i64 (X k).m.many)) (go_keep) (first | (go_at_call 57; refine (eqAdd_same (X k) _).mono ?_; rintro e w6 ⟨rfl, hb6⟩; have hb6' := (Below.refl _ wr).drew.trans hb6; obtain ⟨_, p0, p1, p2, p3, p4⟩ := ea1.keep hb6'; obtain ⟨_, q0, q1, q2, q3, q4⟩ := eb1.keep hb6'; have bw6 := hbk.trans (hb6'.mono hbk.size); clear hb6 hb6'))
      go_wp2
      go_roundw
      case rel => exact ⟨k + 1, by omega, by go_num, bw6⟩
      case measure => simp [intOf]; omega
    · go_wp2
      go_ret
      exact ⟨rfl, hbk⟩

/-- The one that is marked from k on. -/
def mkD (k : Int) : Adm := ⟨k, k + 1, mt (k + 2), mt (k + 3), k + 4⟩

/-- Its cells. -/
def dc (x : Adm) : List Value := [.int .i64 x.lv, .int .i64 x.m.file, .string x.m.least, .string x.m.most, .int .i64 x.m.many]
theorem DAt.get {w : World} {b off : Nat} {x : Adm} (h : DAt w b off x) (q : Nat) (hq : q < 5) : w.cell? ⟨b, off + q, none⟩ = (dc x)[q]? := by
  have : q = 0 ∨ q = 1 ∨ q = 2 ∨ q = 3 ∨ q = 4 := by omega
  rcases this with rfl | rfl | rfl | rfl | rfl
  · exact h.c0
  · exact h.c1
  · exact h.c2
  · exact h.c3
  · exact h.c4
theorem dat_of {w : World} {b off : Nat} {x : Adm} (hl : b < w.heap.size) (h : ∀ q, q < 5 → w.cell? ⟨b, off + q, none⟩ = (dc x)[q]?) : DAt w b off x :=
  ⟨hl, h 0 (by omega), h 1 (by omega), h 2 (by omega), h 3 (by omega), h 4 (by omega)⟩
theorem DOwn.put {w : World} {b n k : Nat} {X : Nat → Adm} (h : DOwn w b n X) (hk : k < n) (q : Nat) (hq : q < 5) (v : Value) (y : Adm) (hy : dc y = (dc (X k)).set q v) :
    DOwn (w.setCell ⟨b, k * 5 + q, none⟩ v) b n (fun i => if i = k then y else X i) := by
  obtain ⟨v0, hv0⟩ := Option.isSome_iff_exists.1 (h.there hk q hq)
  have hoth : Others b w (w.setCell ⟨b, k * 5 + q, none⟩ v) := Others.setCell _ _ _ _
  have hlt : b < (w.setCell ⟨b, k * 5 + q, none⟩ v).heap.size := by rw [hoth.size]; exact h.lt
  have hsame : (w.setCell ⟨b, k * 5 + q, none⟩ v).cell? ⟨b, k * 5 + q, none⟩ = some v := World.cell?_setCell_same _ _ _ hv0
  have hother : ∀ j, j ≠ k * 5 + q → (w.setCell ⟨b, k * 5 + q, none⟩ v).cell? ⟨b, j, none⟩ = w.cell? ⟨b, j, none⟩ := fun j hj => World.cell?_setCell_other _ _ _ _ (by intro hh; injection hh with _ h2 _; omega)
  refine ⟨hlt, fun i hi => dat_of hlt fun r hr => ?_, fun j hj => by simpa using h.free j hj⟩
  by_cases e : i = k
  · subst e
    simp only [if_true]
    rw [hy]
    by_cases e2 : r = q
    · subst e2
      rw [hsame, List.getElem?_set_self (by simp [dc]; omega)]
    · rw [hother _ (by omega), List.getElem?_set_ne (by omega)]
      exact (h.ent i hi).get r hr
  · simp only [e, if_false]
    rw [hother _ (by omega)]
    exact (h.ent i hi).get r hr

set_option maxRecDepth 100000 in
set_option maxHeartbeats 4000000 in
theorem markAddS_any (b n cap k0 : Nat) (X : Nat → Adm) (w : World) (h : DOwn w b n X) (hk0 : 1 ≤ k0) (hn : n ≤ 1048576) (hbd : k0 + 5 * n ≤ 16000000) :
    Calls Try.prog 21 #[.slice (some ⟨b, 0, none⟩) n cap, .int .i64 k0] w fun e w' => e = .returned (.int .i64 ((k0 + 5 * n : Nat) : Int)) ∧ DOwn w' b n (fun i => mkD ((k0 + 5 * i : Nat) : Int)) ∧ Only b w w' := by
  go_enter Try.func21, Try.ntmps21
  go_wp2
  go_loopw [1, 5] (fun q i wr => ∃ k kk : Nat, k ≤ n ∧ i = .int .i64 k ∧ q = .int .i64 (kk : Int) ∧ Hid (kk = k0 + 5 * k) ∧ DOwn wr b n (fun i => if i < k then mkD ((k0 + 5 * i : Nat) : Int) else X i) ∧ Only b w wr) (fun _ i _ => n - (intOf i).toNat)
  case atStart => exact ⟨0, k0, Nat.zero_le _, rfl, rfl, by simp [Hid], by simpa using h, Only.refl _ _⟩
  case round =>
    obtain ⟨k, kk, hk, rfl, rfl, HK, hC, hCO⟩ := hrel
    clear h
    by_cases hlt : k < n
    · have hkt : kk + 5 ≤ 16000000 := by have := HK.out; omega
      have hk1 : 1 ≤ kk := by have := HK.out; omega
      have hw1 : IntKind.i64.wrap ((kk : Int) + 1) = (kk : Int) + 1 := by rw [IntKind.wrap_i64] <;> omega
      have hw2 : IntKind.i64.wrap ((kk : Int) + 1 + 1) = (kk : Int) + 2 := by rw [IntKind.wrap_i64] <;> omega
      have hw3 : IntKind.i64.wrap ((kk : Int) + 2 + 1) = (kk : Int) + 3 := by rw [IntKind.wrap_i64] <;> omega
      have hw4 : IntKind.i64.wrap ((kk : Int) + 3 + 1) = (kk : Int) + 4 := by rw [IntKind.wrap_i64] <;> omega
      have hw5 : IntKind.i64.wrap ((kk : Int) + 4 + 1) = (kk : Int) + 5 := by rw [IntKind.wrap_i64] <;> omega
      have e1 := hC.ent k hlt
      simp only [Nat.lt_irrefl, if_false] at e1
      obtain ⟨hb0, c0, c1, c2, c3, c4⟩ := id e1
      have f0 := hC.free (k * 5) (by omega)
      have f1 := hC.free (k * 5 + 1) (by omega)
      have f2 := hC.free (k * 5 + 2) (by omega)
      have f3 := hC.free (k * 5 + 3) (by omega)
      have f4 := hC.free (k * 5 + 4) (by omega)
      have z0 : dc (if k < k then mkD ((k0 + 5 * k : Nat) : Int) else X k) = dc (X k) := by rw [if_neg (Nat.lt_irrefl _)]
      have m0 := hC.put hlt 0 (by omega) (.int .i64 (kk : Int)) { (X k) with lv := (kk : Int) } (by rw [z0]; rfl)
      have om0 := hCO.trans (Only.of_others (Others.setCell _ b (k * 5 + 0) (.int .i64 (kk : Int))))
      simp only [Nat.add_zero] at m0 om0
      have m1 := m0.put hlt 1 (by omega) (.int .i64 ((kk : Int) + 1)) { { (X k) with lv := (kk : Int) } with m := { { (X k) with lv := (kk : Int) }.m with file := ((kk : Int) + 1) } } (by rw [if_pos rfl]; rfl)
      have om1 := om0.trans (Only.of_others (Others.setCell _ b (k * 5 + 1) (.int .i64 ((kk : Int) + 1))))
      go_wp2_with fail
      refine (markText_any ((kk : Int) + 2) _ (by omega) (by omega)).mono ?_
      rintro e w2 ⟨rfl, hb2⟩
      have k2 := m1.keep hb2
      have e1 := k2.ent k hlt
      simp only [if_true] at e1
      obtain ⟨hb0, c0, c1, c2, c3, c4⟩ := id e1
      have f0 := k2.free (k * 5) (by omega)
      have f1 := k2.free (k * 5 + 1) (by omega)
      have f2 := k2.free (k * 5 + 2) (by omega)
      have f3 := k2.free (k * 5 + 3) (by omega)
      have f4 := k2.free (k * 5 + 4) (by omega)
      have co2 : Only b w w2 := om1.trans (Only.of_below hb2)
      clear hb2
      have m2 := k2.put hlt 2 (by omega) (.string (mt ((kk : Int) + 2))) { { { (X k) with lv := (kk : Int) } with m := { { (X k) with lv := (kk : Int) }.m with file := ((kk : Int) + 1) } } with m := { { { (X k) with lv := (kk : Int) } with m := { { (X k) with lv := (kk : Int) }.m with file := ((kk : Int) + 1) } }.m with least := (mt ((kk : Int) + 2)) } } (by rw [if_pos rfl]; rfl)
      have om2 := co2.trans (Only.of_others (Others.setCell _ b (k * 5 + 2) (.string (mt ((kk : Int) + 2)))))
      go_wp2_with fail
      refine (markText_any ((kk : Int) + 3) _ (by omega) (by omega)).mono ?_
      rintro e w3 ⟨rfl, hb3⟩
      have k3 := m2.keep hb3
      have e1 := k3.ent k hlt
      simp only [if_true] at e1
      obtain ⟨hb0, c0, c1, c2, c3, c4⟩ := id e1
      have f0 := k3.free (k * 5) (by omega)
      have f1 := k3.free (k * 5 + 1) (by omega)
      have f2 := k3.free (k * 5 + 2) (by omega)
      have f3 := k3.free (k * 5 + 3) (by omega)
      have f4 := k3.free (k * 5 + 4) (by omega)
      have co3 : Only b w w3 := om2.trans (Only.of_below hb3)
      clear hb3
      have m3 := k3.put hlt 3 (by omega) (.string (mt ((kk : Int) + 3))) { { { { (X k) with lv := (kk : Int) } with m := { { (X k) with lv := (kk : Int) }.m with file := ((kk : Int) + 1) } } with m := { { { (X k) with lv := (kk : Int) } with m := { { (X k) with lv := (kk : Int) }.m with file := ((kk : Int) + 1) } }.m with least := (mt ((kk : Int) + 2)) } } with m := { { { { (X k) with lv := (kk : Int) } with m := { { (X k) with lv := (kk : Int) }.m with file := ((kk : Int) + 1) } } with m := { { { (X k) with lv := (kk : Int) } with m := { { (X k) with lv := (kk : Int) }.m with file := ((kk : Int) + 1) } }.m with least := (mt ((kk : Int) + 2)) } }.m with most := (mt ((kk : Int) + 3)) } } (by rw [if_pos rfl]; rfl)
      have om3 := co3.trans (Only.of_others (Others.setCell _ b (k * 5 + 3) (.string (mt ((kk : Int) + 3)))))
      have m4 := m3.put hlt 4 (by omega) (.int .i64 ((kk : Int) + 4)) { { { { { (X k) with lv := (kk : Int) } with m := { { (X k) with lv := (kk : Int) }.m with file := ((kk : Int) + 1) } } with m := { { { (X k) with lv := (kk : Int) } with m := { { (X k) with lv := (kk : Int) }.m with file := ((kk : Int) + 1) } }.m with least := (mt ((kk : Int) + 2)) } } with m := { { { { (X k) with lv := (kk : Int) } with m := { { (X k) with lv := (kk : Int) }.m with file := ((kk : Int) + 1) } } with m := { { { (X k) with lv := (kk : Int) } with m := { { (X k) with lv := (kk : Int) }.m with file := ((kk : Int) + 1) } }.m with least := (mt ((kk : Int) + 2)) } }.m with most := (mt ((kk : Int) + 3)) } } with m := { { { { { (X k) with lv := (kk : Int) } with m := { { (X k) with lv := (kk : Int) }.m with file := ((kk : Int) + 1) } } with m := { { { (X k) with lv := (kk : Int) } with m := { { (X k) with lv := (kk : Int) }.m with file := ((kk : Int) + 1) } }.m with least := (mt ((kk : Int) + 2)) } } with m := { { { { (X k) with lv := (kk : Int) } with m := { { (X k) with lv := (kk : Int) }.m with file := ((kk : Int) + 1) } } with m := { { { (X k) with lv := (kk : Int) } with m := { { (X k) with lv := (kk : Int) }.m with file := ((kk : Int) + 1) } }.m with least := (mt ((kk : Int) + 2)) } }.m with most := (mt ((kk : Int) + 3)) } }.m with many := ((kk : Int) + 4) } } (by rw [if_pos rfl]; rfl)
      have om4 := om3.trans (Only.of_others (Others.setCell _ b (k * 5 + 4) (.int .i64 ((kk : Int) + 4))))
      have HK' : Hid (kk + 5 = k0 + 5 * (k + 1)) := by have := HK.out; unfold Hid; omega
      have hlast := m4.congr (Y := fun i => if i < k + 1 then mkD ((k0 + 5 * i : Nat) : Int) else X i) (fun i _ => by
        by_cases h1 : i = k
        · subst h1
          rw [if_pos rfl, if_pos (by omega), ← HK.out]
          rfl
        · by_cases h2 : i < k
          · simp [h1, h2, show i < k + 1 by omega]
          · simp [h1, h2, show ¬ i < k + 1 by omega])
      clear m0 m1 m2 m3 m4 hC
      go_wp2
      go_roundw
      case rel => exact ⟨k + 1, kk + 5, by omega, by go_num, by go_num, HK', hlast, om4⟩
      case measure => simp [intOf]; omega
    · have e : k = n := by omega
      subst e
      go_wp2
      go_ret
      exact ⟨by rw [HK.out]; rfl, hC.congr (fun i hi => by simp [hi]), hCO⟩

end Go.Proofs.Ytofdhgffnkhdfaa
