/- Marks of a key's tags, looked for; a key without tags. -/
import Derived.Test.YtddppcfkjhhmhaaMarkKey
import Derived.Test.YtddppcfkjhhmhaaReadSpec
namespace Go.Proofs.Ytddppcfkjhhmhaa
open Go.RowKit
set_option linter.unusedSimpArgs false
set_option linter.unusedVariables false

set_option maxHeartbeats 1000000 in
theorem heldTagS_yes (ao : Option Addr) (n cap : Nat) (w : World) (hr : TRow w ao n mtN mtV) (hn : n ≤ 1048576) :
    Calls Try.prog 55 #[.slice ao n cap, .int .i64 1] w fun e w' => e = .returned (.int .i64 (1 + 2 * (n : Int))) ∧ Below w.heap.size w w' := by
  obtain ⟨hl⟩ := hr
  go_enter Try.func55, Try.ntmps55
  go_wp2
  go_loopw [1, 5] (fun q i wr => ∃ k : Nat, k ≤ n ∧ i = .int .i64 k ∧ q = .int .i64 (1 + 2 * (k : Int)) ∧ Below w.heap.size w wr) (fun _ i _ => n - (intOf i).toNat)
  case atStart => exact ⟨0, by omega, rfl, rfl, Below.refl _ _⟩
  case round =>
    obtain ⟨k, hk, rfl, rfl, hbk⟩ := hrel
    by_cases hlt : k < n
    · obtain ⟨b, off, rfl, hblt, hc⟩ := hl.resolve_left (by omega)
      have hc1 : wr.cell? ⟨b, off + k * 2, none⟩ = some (.string (mtN k)) := (hbk.cell (p := ⟨b, off + k * 2, none⟩) hblt).trans (hc k hlt).1
      have hc2 : wr.cell? ⟨b, off + k * 2 + 1, none⟩ = some (.string (mtV k)) := (hbk.cell (p := ⟨b, off + k * 2 + 1, none⟩) hblt).trans (hc k hlt).2
      have hb' : b < wr.heap.size := by have := hbk.size; omega
      clear hc hl
      go_wp2
      go_region_held3 (fun w' => w'.cell? ⟨b, off + k * 2, none⟩ = some (.string (mtN k)) ∧ w'.cell? ⟨b, off + k * 2 + 1, none⟩ = some (.string (mtV k))) (go_keep) (first | (go_at_call 66; refine (markText_any _ _ (by omega) (by omega)).mono ?_; rintro e w1 ⟨rfl, hb1⟩; rw [show mt (1 + 2 * (k : Int)) = mtN k from by unfold mtN; congr 1]; have hb1' := (Below.refl _ wr).drew.trans hb1; have c1 := (hb1'.cell (p := ⟨b, off + k * 2, none⟩) hb').trans hc1; have c2 := (hb1'.cell (p := ⟨b, off + k * 2 + 1, none⟩) hb').trans hc2; have bw1 : Below w.heap.size w w1 := hbk.trans (hb1'.mono hbk.size); have hb1s : b < w1.heap.size := by have := hb1'.size; omega))
      clear hb1 hb1' hc1 hc2 hbk hb'
      go_wp2
      go_region_held3 (fun w' => w'.cell? ⟨b, off + k * 2, none⟩ = some (.string (mtN k)) ∧ w'.cell? ⟨b, off + k * 2 + 1, none⟩ = some (.string (mtV k))) (go_keep) (first | (go_at_call 66; refine (markText_any _ _ (by omega) (by omega)).mono ?_; rintro e w2 ⟨rfl, hb2⟩; rw [show mt (1 + 2 * (k : Int) + 1) = mtV k from by unfold mtV; congr 1; omega]; have hb2' := (Below.refl _ w1).drew.trans hb2; have d1 := (hb2'.cell (p := ⟨b, off + k * 2, none⟩) hb1s).trans c1; have d2 := (hb2'.cell (p := ⟨b, off + k * 2 + 1, none⟩) hb1s).trans c2; have bw2 : Below w.heap.size w w2 := bw1.trans (hb2'.mono bw1.size)))
      clear hb2 hb2' c1 c2 bw1 hb1s
      go_wp2
      go_roundw
      case rel => exact ⟨k + 1, by omega, by go_num, by go_num, bw2⟩
      case measure => simp [intOf]; omega
    · have e : k = n := by omega
      subst e
      go_wp2
      go_ret
      exact ⟨rfl, hbk⟩

theorem heldKey_yes (m : ByteArray) (st : Int) (ao : Option Addr) (n cap : Nat) (w : World) (hr : TRow w ao n mtN mtV) (hn : n ≤ 1048576) :
    Calls Try.prog 36 #[.agg #[.string m, .slice ao n cap, .int .i64 st], .int .i64 1] w fun e w' => e = .returned (.int .i64 (1 + 2 * (n : Int))) ∧ Below w.heap.size w w' := by
  have hB : Below w.heap.size w (w.alloc (.cells #[.string m, .slice ao n cap, .int .i64 st] 48)) := (Below.refl _ _).alloc (Nat.le_refl _) _
  have hd : decide (1 + 2 * (n : Int) < 0) = false := by simp; omega
  go_enter Try.func36, Try.ntmps36
  go_wp2_with fail
  refine (heldTagS_yes ao n cap _ (hr.keep hB) hn).mono ?_
  rintro e w1 ⟨rfl, hb1⟩
  go_wp2
  go_ret
  exact ⟨rfl, hB.trans (hb1.mono (by simp))⟩

theorem markTagS_none (ao : Option Addr) (cap : Nat) (w : World) :
    Calls Try.prog 51 #[.slice ao 0 cap, .int .i64 1] w fun e w' => e = .returned (.int .i64 1) ∧ w' = w := by
  go_enter Try.func51, Try.ntmps51
  go_wp2
  go_loopw [1, 5] (fun q i wr => i = .int .i64 0 ∧ q = .int .i64 1 ∧ wr = w) (fun _ _ _ => 0)
  case atStart => exact ⟨rfl, rfl, rfl⟩
  case round =>
    obtain ⟨rfl, rfl, rfl⟩ := hrel
    go_wp2
    go_ret
    exact ⟨rfl, rfl⟩
theorem markKey_none (m : ByteArray) (st : Int) (ao : Option Addr) (cap : Nat) (w : World) :
    Calls Try.prog 33 #[.agg #[.string m, .slice ao 0 cap, .int .i64 st], .int .i64 1] w fun e w' => e = .returned (.int .i64 1) ∧ Below w.heap.size w w' := by
  have hB : Below w.heap.size w (w.alloc (.cells #[.string m, .slice ao 0 cap, .int .i64 st] 48)) := (Below.refl _ _).alloc (Nat.le_refl _) _
  go_enter Try.func33, Try.ntmps33
  go_wp2_with fail
  refine (markTagS_none ao cap _).mono ?_
  rintro e w1 ⟨rfl, rfl⟩
  go_wp2
  go_ret
  exact ⟨rfl, hB⟩

/-- What markKey leaves of a key's tags. -/
theorem SV.marked {w : World} {B n cap : Nat} {nm vl : Nat → ByteArray} {ao : Option Addr} (h : SV w B (.slice ao n cap) n nm vl) (hn : n ≤ 1048576) (m : ByteArray) (st : Int) :
    Calls Try.prog 33 #[.agg #[.string m, .slice ao n cap, .int .i64 st], .int .i64 1] w fun e w' => e = .returned (.int .i64 (1 + 2 * (n : Int))) ∧ SV w' B (.slice ao n cap) n mtN mtV ∧ ∃ g, B ≤ g ∧ Thru g w w' := by
  obtain ⟨ao', cap', e, h | ⟨g, e2, hB, ho⟩⟩ := h
  · subst h
    refine (markKey_none m st ao cap w).mono ?_
    rintro e w' ⟨rfl, hb⟩
    exact ⟨rfl, ⟨ao, cap, rfl, .inl rfl⟩, B, Nat.le_refl _, Thru.of_below hb⟩
  · injection e with e1 e3 e4
    subst e1 e2
    refine (markKey_any m st g n cap w nm vl ho hn).mono ?_
    rintro e w' ⟨rfl, ho', ht⟩
    exact ⟨rfl, ⟨_, cap, rfl, .inr ⟨g, rfl, hB, ho'⟩⟩, g, hB, ht⟩
theorem SV.row' {w : World} {B n : Nat} {nm vl : Nat → ByteArray} {sv : Value} (h : SV w B sv n nm vl) : ∃ ao cap, sv = .slice ao n cap ∧ TRow w ao n nm vl := by
  obtain ⟨ao, cap, rfl, h2⟩ := id h
  exact ⟨ao, cap, rfl, h.row⟩

theorem find_ex (f : Nat → Int) (N : Nat) (x : Int) : ∀ (d q : Nat), q + d = N → ∃ j, Find f N q x j
  | 0, q, h => ⟨q, Nat.le_refl _, by omega, fun i _ _ => by omega, fun _ => by omega⟩
  | d + 1, q, h => by
    by_cases e : f q = x
    · exact ⟨q, Nat.le_refl _, by omega, fun i _ _ => by omega, fun _ => e⟩
    · obtain ⟨j, hj⟩ := find_ex f N x d (q + 1) (by omega)
      refine ⟨j, by have := hj.ge; omega, hj.le, fun i h1 h2 => ?_, hj.hit⟩
      by_cases e2 : i = q
      · subst e2; exact e
      · exact hj.no i (by omega) h2
theorem find_at (f : Nat → Int) {N : Nat} (x : Int) {q : Nat} (h : q ≤ N) : ∃ j, Find f N q x j := find_ex f N x (N - q) q (by omega)
/-- Two keys of the same bytes begin alike. -/
theorem IsKey.begin {f : Nat → Int} {N : Nat} {m m' : ByteArray} {n n' : Nat} {nm vl nm' vl' : Nat → ByteArray} {st st' : Int} (h : IsKey f N m n nm vl st) (g : IsKey f N m' n' nm' vl' st') :
    ∀ k, k ≤ n → k ≤ n' → (kpre m' nm' vl' k).length = (kpre m nm vl k).length ∧ ∀ i, i < k → nm' i = nm i ∧ vl' i = vl i
  | 0, _, _ => by
    obtain ⟨j, hj⟩ := find_at f (N := N) 0 (q := 0) (Nat.zero_le _)
    exact ⟨by rw [(h.first hj).2.2.2, (g.first hj).2.2.2], fun i hi => by omega⟩
  | k + 1, h1, h2 => by
    obtain ⟨e, hs⟩ := IsKey.begin h g k (by omega) (by omega)
    obtain ⟨a1, a2, a3⟩ := h.next k (by omega) _ rfl
    obtain ⟨b1, b2, b3⟩ := g.next k (by omega) _ e.symm
    obtain ⟨j, hj⟩ := find_at f (N := N) 1 (q := (kpre m nm vl k).length + 1) (by omega)
    obtain ⟨c1, c2, c3, c4, c5⟩ := a3 j hj
    obtain ⟨d1, d2, d3, d4, d5⟩ := b3 j hj
    obtain ⟨j2, hj2⟩ := find_at f (N := N) 0 (q := j + 1) (by omega)
    obtain ⟨e1, e2, e3, e4⟩ := c5 j2 hj2
    obtain ⟨f1, f2, f3, f4⟩ := d5 j2 hj2
    refine ⟨by rw [e4, f4], fun i hi => ?_⟩
    by_cases ei : i = k
    · subst ei; exact ⟨d4.symm.trans c4, f3.symm.trans e3⟩
    · exact hs i (by omega)
theorem IsKey.count {f : Nat → Int} {N : Nat} {m m' : ByteArray} {n n' : Nat} {nm vl nm' vl' : Nat → ByteArray} {st st' : Int} (h : IsKey f N m n nm vl st) (g : IsKey f N m' n' nm' vl' st') : ¬ n < n' := fun hlt => by
  have e := (IsKey.begin h g n (Nat.le_refl _) (by omega)).1
  have a := (h.last _ rfl).2.1
  have b := (g.next n hlt _ e.symm).2.1
  omega
/-- A key's bytes tell the key. -/
theorem IsKey.same {f : Nat → Int} {N : Nat} {m m' : ByteArray} {n n' : Nat} {nm vl nm' vl' : Nat → ByteArray} {st st' : Int} (h : IsKey f N m n nm vl st) (g : IsKey f N m' n' nm' vl' st') :
    m' = m ∧ n' = n ∧ st' = st ∧ ∀ i, i < n → nm' i = nm i ∧ vl' i = vl i := by
  have en : n' = n := by have := h.count g; have := g.count h; omega
  subst en
  obtain ⟨j, hj⟩ := find_at f (N := N) 0 (q := 0) (Nat.zero_le _)
  obtain ⟨e, hs⟩ := h.begin g n' (Nat.le_refl _) (Nat.le_refl _)
  have a := num_seg (h.last _ rfl).2.2 (goodB_sizes h.good).2.2.2
  have b := num_seg (g.last _ e.symm).2.2 (goodB_sizes g.good).2.2.2
  exact ⟨(g.first hj).2.2.1.symm.trans (h.first hj).2.2.1, rfl, b.symm.trans a, hs⟩
theorem SV.congr {w : World} {B n : Nat} {sv : Value} {nm vl nm' vl' : Nat → ByteArray} (h : SV w B sv n nm' vl') (e : ∀ i, i < n → nm' i = nm i ∧ vl' i = vl i) : SV w B sv n nm vl := by
  obtain ⟨ao, cap, e1, h | ⟨g, e2, hB, ho⟩⟩ := h
  · exact ⟨ao, cap, e1, .inl h⟩
  · exact ⟨ao, cap, e1, .inr ⟨g, e2, hB, ho.lt, fun i hi hn => by rw [← (e i hn).1, ← (e i hn).2]; exact ho.cell i hi hn, ho.there, ho.free⟩⟩
/-- What a second ReadKey answers, where the first found this key. -/
theorem ReadOut.found {f : Nat → Int} {N : Nat} {m : ByteArray} {n : Nat} {nm vl : Nat → ByteArray} {st : Int} {w w' : World} {e : Ending} (hk : IsKey f N m n nm vl st) (h : ReadOut f N w e w') :
    ∃ ao cap, e = .returned (.tuple #[.agg #[.string m, .slice ao n cap, .int .i64 st], .bool true]) ∧ SV w' w.heap.size (.slice ao n cap) n nm vl ∧ Below w.heap.size w w' := by
  rcases h with ⟨m', n', nm', vl', st', sv, rfl, hk', hsv, hb⟩ | ⟨_, hno, _⟩
  · obtain ⟨rfl, rfl, rfl, hs⟩ := hk.same hk'
    have hsv := hsv.congr hs
    obtain ⟨ao, cap, rfl, _⟩ := id hsv
    exact ⟨ao, cap, rfl, hsv, hb⟩
  · exact absurd hk (hno _ _ _ _ _)
theorem ReadOut.missed {f : Nat → Int} {N : Nat} {w w' : World} {e : Ending} (hn : ∀ m n nm vl st, ¬ IsKey f N m n nm vl st) (h : ReadOut f N w e w') :
    e = .returned (.tuple #[.agg #[.string ⟨#[]⟩, .slice none 0 0, .int .i64 0], .bool false]) ∧ Below w.heap.size w w' := by
  rcases h with ⟨m', n', nm', vl', st', sv, rfl, hk', hsv, hb⟩ | ⟨e, _, hb⟩
  · exact absurd hk' (hn _ _ _ _ _)
  · exact ⟨e, hb⟩
end Go.Proofs.Ytddppcfkjhhmhaa
