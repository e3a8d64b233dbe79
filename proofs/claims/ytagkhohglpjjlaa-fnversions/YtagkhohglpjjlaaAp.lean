/- Edits: measured, copied, compared, marked, held. / Levels as lists: without a file, compared, a place by Least. -/
import Derived.Test.YtagkhohglpjjlaaDp
import Derived.Test.YtagkhohglpjjlaaFo
import Derived.Test.YtagkhohglpjjlaaMp
import Derived.Test.YtagkhohglpjjlaaGt
namespace Go.Proofs.Ytagkhohglpjjlaa
open Go.RowKit
set_option linter.unusedSimpArgs false
set_option linter.unusedVariables false

/-- An edit in a box. -/
structure EX (w : World) (b : Nat) (nx lg sq : Int) (dv av : Value) : Prop where
  lt : b < w.heap.size
  c0 : w.cell? ⟨b, 0, none⟩ = some (.int .i64 nx)
  c1 : w.cell? ⟨b, 1, none⟩ = some (.int .i64 lg)
  c2 : w.cell? ⟨b, 2, none⟩ = some (.int .i64 sq)
  c3 : w.cell? ⟨b, 3, none⟩ = some dv
  c4 : w.cell? ⟨b, 4, none⟩ = some av
theorem EX.same {w w' : World} {b : Nat} {nx lg sq : Int} {dv av : Value} (h : EX w b nx lg sq dv av) (hs : w.heap.size ≤ w'.heap.size) (hb : w'.heap[b]? = w.heap[b]?) : EX w' b nx lg sq dv av :=
  have c := fun j => World.cell?_of_block (w := w) (w' := w') (a := ⟨b, j, none⟩) hb
  ⟨Nat.lt_of_lt_of_le h.lt hs, (c 0).trans h.c0, (c 1).trans h.c1, (c 2).trans h.c2, (c 3).trans h.c3, (c 4).trans h.c4⟩
theorem EX.keep {w w' : World} {b : Nat} {nx lg sq : Int} {dv av : Value} (h : EX w b nx lg sq dv av) (hb : Below w.heap.size w w') : EX w' b nx lg sq dv av := h.same hb.size (hb.block b h.lt)
theorem EX.new (w : World) (nx lg sq : Int) (dv av : Value) (T : Nat) : EX (w.alloc (.cells #[.int .i64 nx, .int .i64 lg, .int .i64 sq, dv, av] T)) w.heap.size nx lg sq dv av := by
  refine ⟨by simp, ?_, ?_, ?_, ?_, ?_⟩ <;> simp [go_sem]

section
variable (nx lg sq : Int) (da : Option Addr) (nd cd : Nat) (f : Nat → Int) (aa : Option Addr) (na ca : Nat) (Y : Nat → Adm)
/-- An edit whose lists lie in blocks from lo on and below hi, each in its own, and may be written. -/
structure EA (w : World) (lo hi : Nat) (da : Option Addr) (nd : Nat) (f : Nat → Int) (aa : Option Addr) (na : Nat) (Y : Nat → Adm) : Prop where
  top : hi ≤ w.heap.size
  bd : ∀ i, -9223372036854775808 ≤ f i ∧ f i ≤ 9223372036854775807
  dr : nd = 0 ∨ ∃ g, da = some ⟨g, 0, none⟩ ∧ lo ≤ g ∧ g < hi ∧ IOwn w g 0 nd f
  ad : na = 0 ∨ ∃ g, aa = some ⟨g, 0, none⟩ ∧ lo ≤ g ∧ g < hi ∧ DOwn w g na Y
  ne : 0 < nd → 0 < na → da ≠ aa
end
theorem IOwn.same {w w' : World} {g off n : Nat} {f : Nat → Int} (h : IOwn w g off n f) (hs : w.heap.size ≤ w'.heap.size) (hb : w'.heap[g]? = w.heap[g]?) : IOwn w' g off n f :=
  ⟨h.bd, Nat.lt_of_lt_of_le h.lt hs, fun i hi => (World.cell?_of_block (w := w) (a := ⟨g, off + i, none⟩) hb).trans (h.cell i hi), fun i hi => (World.frozen?_of_block (w := w) (a := ⟨g, off + i, none⟩) hb).trans (h.free i hi)⟩
section
variable {w w' : World} {lo hi lo' hi' nd na : Nat} {da aa : Option Addr} {f : Nat → Int} {Y : Nat → Adm}
theorem EA.same (h : EA w lo hi da nd f aa na Y) (hs : w.heap.size ≤ w'.heap.size) (hb : ∀ c, lo ≤ c → c < hi → w'.heap[c]? = w.heap[c]?) : EA w' lo hi da nd f aa na Y :=
  ⟨Nat.le_trans h.top hs, h.bd, h.dr.elim .inl fun ⟨g, e, h1, h2, h3⟩ => .inr ⟨g, e, h1, h2, h3.same hs (hb g h1 h2)⟩, h.ad.elim .inl fun ⟨g, e, h1, h2, h3⟩ => .inr ⟨g, e, h1, h2, h3.same hs (hb g h1 h2)⟩, h.ne⟩
theorem EA.keep (h : EA w lo hi da nd f aa na Y) (hb : Below w.heap.size w w') : EA w' lo hi da nd f aa na Y := h.same hb.size (fun c _ hc => hb.block c (Nat.lt_of_lt_of_le hc h.top))
theorem EA.mono (h : EA w lo hi da nd f aa na Y) (h1 : lo' ≤ lo) (h2 : hi ≤ hi') (h3 : hi' ≤ w.heap.size) : EA w lo' hi' da nd f aa na Y :=
  ⟨h3, h.bd, h.dr.elim .inl fun ⟨g, e, q1, q2, q3⟩ => .inr ⟨g, e, by omega, by omega, q3⟩, h.ad.elim .inl fun ⟨g, e, q1, q2, q3⟩ => .inr ⟨g, e, by omega, by omega, q3⟩, h.ne⟩
theorem EA.irow (h : EA w lo hi da nd f aa na Y) : IRow w da nd f := by
  rcases h.dr with h0 | ⟨g, e, _, _, h1⟩
  · exact ⟨h.bd, .inl h0⟩
  · rw [e]; exact h1.row
theorem EA.drow (h : EA w lo hi da nd f aa na Y) (hb : ∀ i, i < na → DB (Y i)) : DRow w aa na Y := by
  rcases h.ad with h0 | ⟨g, e, _, _, h1⟩
  · exact ⟨hb, .inl h0⟩
  · rw [e]; exact h1.row hb
end

section
variable (nx lg sq : Int) (da : Option Addr) (nd cd : Nat) (f : Nat → Int) (aa : Option Addr) (na ca : Nat) (Y : Nat → Adm)
end

/-- The ints that are marked from k on. -/
def mkI (k : Nat) (i : Nat) : Int := if i ≤ 4000000 then (k : Int) + i else 0
end Go.Proofs.Ytagkhohglpjjlaa
namespace Go.Proofs.Ytagkhohglpjjlaa
open Go.RowKit
set_option linter.unusedSimpArgs false
set_option linter.unusedVariables false

/-- A level without a file. -/
def wo (L : List Met) (file : Int) : List Met := L.filter fun m => m.file != file
theorem take_mL {L : List Met} {k : Nat} (h : k < L.length) : L.take (k + 1) = L.take k ++ [mL L k] := by
  rw [List.take_succ_eq_append_getElem h]; simp [mL, h]
theorem wo_len (L : List Met) (file : Int) : (wo L file).length ≤ L.length := List.length_filter_le _ _
theorem wo_take {L : List Met} {k : Nat} {file : Int} (h : k < L.length) : wo (L.take (k + 1)) file = wo (L.take k) file ++ (if (mL L k).file = file then [] else [mL L k]) := by
  rw [take_mL h]
  simp only [wo, List.filter_append]
  by_cases e : (mL L k).file = file
  · simp [e]
  · simp [e]

set_option maxHeartbeats 1600000 in
theorem levelWithout_any (ao : Option Addr) (cap : Nat) (L : List Met) (file : Int) (w : World) (hr : MRow w ao L.length (mL L)) (hn : L.length ≤ 1048576) :
    Calls Try.prog 37 #[.slice ao L.length cap, .int .i64 file] w fun e w' => ∃ v, e = .returned v ∧ OwnM w' w.heap.size v (wo L file) ∧ Below w.heap.size w w' := by
  obtain ⟨hbd, hlies⟩ := hr
  have HB : Hid (∀ i, i < L.length → MB (mL L i)) := hbd
  clear hbd
  generalize hN : L.length = N at *
  have HN : Hid (L.length = N) := hN
  clear hN
  go_enter Try.func37, Try.ntmps37
  go_wp2
  go_loopw [5, 10] (fun v i wr => ∃ k : Nat, k ≤ N ∧ i = .int .i64 k ∧ OwnM wr w.heap.size v (wo (L.take k) file) ∧ Below w.heap.size w wr) (fun _ i _ => N - (intOf i).toNat)
  case atStart => exact ⟨0, Nat.zero_le _, rfl, by simpa [wo] using ownM_nil _ _, Below.refl _ _⟩
  case round =>
    obtain ⟨k, hk, rfl, hO, hbk⟩ := hrel
    by_cases hlt : k < N
    · obtain ⟨b, off, rfl, hblt, hc⟩ := hlies.resolve_left (by omega)
      obtain ⟨_, a0, a1, a2, a3⟩ := (hc k hlt).keep hbk
      have N1 := MAt.new wr (mL L k) 52
      have B1 := below_new wr (.cells #[.int .i64 (mL L k).file, .string (mL L k).least, .string (mL L k).most, .int .i64 (mL L k).many] 52)
      have bw1 := hbk.trans (B1.mono hbk.size)
      have O1 := hO.keep B1
      have hlk : k < L.length := by have := HN.out; omega
      have HW : Hid (wo (L.take (k + 1)) file = wo (L.take k) file ++ (if (mL L k).file = file then [] else [mL L k])) := wo_take hlk
      have hMk := HB.out k hlt
      have hll : (wo (L.take k) file).length ≤ 1048576 := by
        have h1 := wo_len (L.take k) file
        rw [List.length_take] at h1
        omega
      obtain ⟨_, z0, z1, z2, z3⟩ := N1.z
      have sz1 := bw1.size
      clear hc hlies hO N1
      generalize wo (L.take k) file = W at *
      by_cases he : (mL L k).file = file
      · have heb : ((mL L k).file == file) = true := beq_iff_eq.2 he
        have hec : ((mL L k).file != file) = false := by rw [bne, heb]; rfl
        have HW2 : Hid (wo (L.take (k + 1)) file = W) := by unfold Hid; rw [HW.out, if_pos he]; simp
        clear he HW
        go_wp2
        go_roundw
        case rel => exact ⟨k + 1, by omega, by go_num, by rw [HW2.out]; exact O1, bw1⟩
        case measure => simp [intOf]; omega
      · have heb : ((mL L k).file == file) = false := beq_eq_false_iff_ne.2 he
        have hec : ((mL L k).file != file) = true := by rw [bne, heb]; rfl
        have HW2 : Hid (wo (L.take (k + 1)) file = W ++ [mL L k]) := by unfold Hid; rw [HW.out, if_neg he]
        clear he HW
        go_wp2_with (at_builtin; refine wpList_pushM rfl (.tmp 18) (.tmp 20) rfl w.heap.size _ _ W (mL L k) rfl O1 hMk rfl (by simp) hll sz1 ?_; intro v8 w8 hO8 hg8)
        have bw8 : Below w.heap.size w w8 := (O1.keep (below_new _ _)).below (bw1.alloc sz1 _) hg8 (Nat.le_refl _) (Nat.le_trans sz1 (by simp))
        go_roundw
        case rel => exact ⟨k + 1, by omega, by go_num, by rw [HW2.out]; exact hO8, bw8⟩
        case measure => simp [intOf]; omega
    · obtain rfl : k = N := by omega
      have hW : wo (L.take k) file = wo L file := by rw [← HN.out, List.take_length]
      rw [hW] at hO
      obtain ⟨so, sc, rfl, _⟩ := hO.form
      clear hW
      go_wp2
      go_ret
      exact ⟨_, rfl, hO, hbk⟩

/-- Before the first whose Least is greater. -/
def plc (L : List Met) (s : ByteArray) : Nat := (L.takeWhile fun m => leS m.least s).length
theorem plc_le (L : List Met) (s : ByteArray) : plc L s ≤ L.length := by
  unfold plc
  exact (List.takeWhile_sublist _).length_le
theorem plc_at {L : List Met} {s : ByteArray} {k : Nat} (h : k < L.length) (ha : ∀ i, i < k → leS (mL L i).least s = true) (hb : leS (mL L k).least s = false) : plc L s = k := by
  induction L generalizing k with
  | nil => simp at h
  | cons x L ih =>
    cases k with
    | zero =>
      have hb' : leS x.least s = false := hb
      simp [plc, hb']
    | succ k =>
      have h0 : leS x.least s = true := ha 0 (by omega)
      have := ih (k := k) (by simpa using h) (fun i hi => ha (i + 1) (by omega)) hb
      simp only [plc] at this ⊢
      rw [List.takeWhile_cons, if_pos h0, List.length_cons, this]
theorem plc_all {L : List Met} {s : ByteArray} (ha : ∀ i, i < L.length → leS (mL L i).least s = true) : plc L s = L.length := by
  induction L with
  | nil => rfl
  | cons x L ih =>
    have h0 : leS x.least s = true := ha 0 (by simp)
    have := ih (fun i hi => ha (i + 1) (by simpa using hi))
    simp only [plc] at this ⊢
    rw [List.takeWhile_cons, if_pos h0, List.length_cons, this, List.length_cons]

set_option maxHeartbeats 1600000 in
theorem placeByLeast_any (ao : Option Addr) (cap : Nat) (L : List Met) (s : ByteArray) (w : World) (hr : MRow w ao L.length (mL L)) (hn : L.length ≤ 1048576) :
    Calls Try.prog 39 #[.slice ao L.length cap, .string s] w fun e w' => e = .returned (.int .i64 (plc L s : Nat)) ∧ Below w.heap.size w w' := by
  obtain ⟨_, hlies⟩ := hr
  have HA : Hid (∀ k, k < L.length → (∀ i, i < k → leS (mL L i).least s = true) → leS (mL L k).least s = false → plc L s = k) := fun k h1 h2 h3 => plc_at h1 h2 h3
  have HE : Hid ((∀ i, i < L.length → leS (mL L i).least s = true) → plc L s = L.length) := plc_all
  generalize plc L s = P at *
  generalize L.length = N at *
  go_enter Try.func39, Try.ntmps39
  go_wp2
  go_loopw [9] (fun i wr => ∃ k : Nat, k ≤ N ∧ i = .int .i64 k ∧ Hid (∀ i, i < k → leS (mL L i).least s = true) ∧ Below w.heap.size w wr) (fun i _ => N - (intOf i).toNat)
  case atStart => exact ⟨0, Nat.zero_le _, rfl, fun i h => by omega, Below.refl _ _⟩
  case round =>
    obtain ⟨k, hk, rfl, HG, hbk⟩ := hrel
    by_cases hlt : k < N
    · obtain ⟨b, off, rfl, hblt, hc⟩ := hlies.resolve_left (by omega)
      obtain ⟨_, a0, a1, a2, a3⟩ := (hc k hlt).keep hbk
      have B1 := below_new wr (.cells #[.int .i64 (mL L k).file, .string (mL L k).least, .string (mL L k).most, .int .i64 (mL L k).many] 52)
      have bw1 := hbk.trans (B1.mono hbk.size)
      obtain ⟨_, z0, z1, z2, z3⟩ := (MAt.new wr (mL L k) 52).z
      clear hc hlies
      have hl : Hid (leS (mL L k).least s = (Op.bytesLess (mL L k).least.toList s.toList || (mL L k).least.toList == s.toList)) := rfl
      cases hg : leS (mL L k).least s
      · have HP : Hid (P = k) := HA.out k hlt HG.out hg
        have h5 : (Op.bytesLess (mL L k).least.toList s.toList || (mL L k).least.toList == s.toList) = false := by rw [← hl.out, hg]
        simp only [Bool.or_eq_false_iff] at h5
        obtain ⟨h6, h7⟩ := h5
        clear hl hg HG HA HE
        go_wp2
        go_ret
        exact ⟨by rw [HP.out]; rfl, bw1⟩
      · have HG2 : Hid (∀ i, i < k + 1 → leS (mL L i).least s = true) := fun i hi => by
          rcases Nat.lt_succ_iff_lt_or_eq.1 hi with h | rfl
          · exact HG.out i h
          · exact hg
        have h4 : (Op.bytesLess (mL L k).least.toList s.toList || (mL L k).least.toList == s.toList) = true := by rw [← hl.out, hg]
        have hx : (Op.bytesLess (mL L k).least.toList s.toList = true) ∨ (Op.bytesLess (mL L k).least.toList s.toList = false ∧ ((mL L k).least.toList == s.toList) = true) := by
          cases h : Op.bytesLess (mL L k).least.toList s.toList
          · rw [h] at h4; exact .inr ⟨rfl, by simpa using h4⟩
          · exact .inl rfl
        clear h4 hl hg HG
        rcases hx with h5 | ⟨h5, h6⟩
        all_goals
          go_wp2
          go_roundw
          case rel => exact ⟨k + 1, by omega, by go_num, HG2, bw1⟩
          case measure => simp [intOf]; omega
    · obtain rfl : k = N := by omega
      have HP : Hid (P = k) := HE.out HG.out
      clear HG HA HE
      go_wp2
      go_ret
      exact ⟨by rw [HP.out]; rfl, hbk⟩
end Go.Proofs.Ytagkhohglpjjlaa
