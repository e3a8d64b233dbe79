/- l5Own: entries copied, in the model. / One entry ahead of another, in the model. -/
import Derived.Test.YtmeckcaekkangaaGreatSo
import Derived.Test.YtmeckcaekkangaaGreatGdI
import Derived.Test.YtmeckcaekkangaaGreatGe
namespace Go.Proofs.YtmeckcaekkangaaGreat
set_option maxRecDepth 100000
open Go.RowKit
set_option linter.unusedSimpArgs false
set_option linter.unusedVariables false

set_option maxRecDepth 100000 in
set_option maxHeartbeats 4000000 in
theorem l5Own_any (ao : Option Addr) (n cap : Nat) (X : Nat → Ent) (w : World) (hr : ERow w ao n X) (hn : n ≤ 1048576) (hz : ESize n X) :
    Calls Tryz.prog 57 #[.slice ao n cap] w fun e w' => ∃ v V, e = .returned v ∧ OutE w' w.heap.size v n X V ∧ Below w.heap.size w w' := by
  obtain ⟨hbd, hlies⟩ := hr
  go_enter Tryz.func57, Tryz.ntmps57
  go_wp2
  go_loopw [3, 8] (fun u i wr => ∃ (k : Nat) (V : Nat → Value), k ≤ n ∧ i = .int .i64 k ∧ OutE wr w.heap.size u k X V ∧ Below w.heap.size w wr) (fun _ i _ => n - (intOf i).toNat)
  case atStart => exact ⟨0, _, Nat.zero_le _, rfl, outE_nil _ _ _, Below.refl _ _⟩
  case round =>
    obtain ⟨k, V, hk, rfl, hO, hbk⟩ := hrel
    obtain ⟨lo, lc, rfl⟩ := ownsRow_form hO.own
    by_cases hlt : k < n
    · obtain ⟨b, off, rfl, hblt, hc⟩ := hlies.resolve_left (by omega)
      obtain ⟨da, dc, ea, ir⟩ := hc k hlt
      obtain ⟨_, a0, a1, a2, a3, a4, a5, a6, a7, a8⟩ := ea.keep hbk
      have hsz := hbk.size
      have hB1 := below_new wr (.cells #[.string (X k).key, .int .i64 (X k).seq, .int .i64 (X k).kind, .int .i64 (X k).c, .int .i64 (X k).s, .int .i64 (X k).lo, .int .i64 (X k).hi, .slice da (X k).n dc, .bool (X k).fu] 48)
      have N1 := EAt.new wr (X k) da dc 48
      have hA := l4Own_any (X k) da dc _ ((ir.keep hbk).keep hB1) (hz k hlt).2
      have O1 := hO.keep hB1
      have bw1 := hbk.alloc hsz (.cells #[.string (X k).key, .int .i64 (X k).seq, .int .i64 (X k).kind, .int .i64 (X k).c, .int .i64 (X k).s, .int .i64 (X k).lo, .int .i64 (X k).hi, .slice da (X k).n dc, .bool (X k).fu] 48)
      have ltv := hO.own.lt
      have ltV := fun i hi => (hO.row i hi).own.lt
      clear hc hlies ea ir hO hB1
      go_wp2_with fail
      refine hA.mono ?_
      rintro e w2 ⟨hv, rfl, hH, hb2⟩
      obtain ⟨ho, hoc, rfl, _⟩ := hH.row
      have N2 := N1.keep hb2
      have F2 : ∀ j, w2.frozen? ⟨wr.heap.size, j, none⟩ = false := fun j => (hb2.frozen (p := ⟨wr.heap.size, j, none⟩) (by simp)).trans (by simp [go_sem])
      have O2 := O1.keep hb2
      have lth := hH.own.lt
      have s2 := hb2.size
      simp at s2
      have B2 := bw1.trans (hb2.mono (by simp; omega))
      have ot3 : Others wr.heap.size w2 ((((((w2.setCell ⟨wr.heap.size, 3, none⟩ (.int .i64 (X k).c)).setCell ⟨wr.heap.size, 4, none⟩ (.int .i64 (X k).s)).setCell ⟨wr.heap.size, 5, none⟩ (.int .i64 (X k).lo)).setCell ⟨wr.heap.size, 6, none⟩ (.int .i64 (X k).hi)).setCell ⟨wr.heap.size, 7, none⟩ (.slice ho (X k).n hoc)).setCell ⟨wr.heap.size, 8, none⟩ (.bool (X k).fu)) := (((((Others.setCell _ _ _ _).trans (Others.setCell _ _ _ _)).trans (Others.setCell _ _ _ _)).trans (Others.setCell _ _ _ _)).trans (Others.setCell _ _ _ _)).trans (Others.setCell _ _ _ _)
      have O3 := O2.kept (others_grown ot3) (fun e => by have := (ltv _ e).2; omega) (fun i hi e => by have := (ltV i hi _ e).2; omega)
      have H3 := (hH.kept (others_grown ot3) (fun k hk e => by injection hk with hk; have := (lth k e).1; simp at this; omega)).mono (show w.heap.size ≤ _ by simp; omega)
      have B3 := B2.trans (ot3.below hsz)
      have s3 := ot3.size
      have hdis : ∀ q, (Value.slice ho (X k).n hoc).ownBlock = some q → (Value.slice lo k lc).ownBlock ≠ some q ∧ ∀ i, i < k → (V i).ownBlock ≠ some q := fun q hq => by
        have h1 := (lth q hq).1
        simp at h1
        exact ⟨fun e => by have := (ltv q e).2; omega, fun i hi e => by have := (ltV i hi q e).2; omega⟩
      have b3 : w.heap.size ≤ ((((((w2.setCell ⟨wr.heap.size, 3, none⟩ (.int .i64 (X k).c)).setCell ⟨wr.heap.size, 4, none⟩ (.int .i64 (X k).s)).setCell ⟨wr.heap.size, 5, none⟩ (.int .i64 (X k).lo)).setCell ⟨wr.heap.size, 6, none⟩ (.int .i64 (X k).hi)).setCell ⟨wr.heap.size, 7, none⟩ (.slice ho (X k).n hoc)).setCell ⟨wr.heap.size, 8, none⟩ (.bool (X k).fu)).heap.size := by rw [s3]; omega
      have hgv : ∀ q, (Value.slice lo k lc).ownBlock = some q → w.heap.size ≤ q := fun q hq => (ltv q hq).1
      obtain ⟨n0, n1, n2, n3, n4, n5, n6, n7, n8, n9⟩ := N2.z
      clear hA hH hb2 O1 O2 B2 ltv ltV lth ot3 N1 N2 bw1
      go_wp2_with (at_builtin; refine wpList_pushE2 (w := ((((((w2.setCell ⟨wr.heap.size, 3, none⟩ (.int .i64 (X k).c)).setCell ⟨wr.heap.size, 4, none⟩ (.int .i64 (X k).s)).setCell ⟨wr.heap.size, 5, none⟩ (.int .i64 (X k).lo)).setCell ⟨wr.heap.size, 6, none⟩ (.int .i64 (X k).hi)).setCell ⟨wr.heap.size, 7, none⟩ (.slice ho (X k).n hoc)).setCell ⟨wr.heap.size, 8, none⟩ (.bool (X k).fu))) w2.heap.size s3 rfl (.tmp 16) (.tmp 18) rfl w.heap.size (.slice lo k lc) (.slice ho (X k).n hoc) k X V (X k) rfl O3 H3 hdis rfl (by omega) b3 rfl ?_; intro v8 w8 O8 g8)
      have B8 : Below w.heap.size w w8 := (B3.alloc b3 _).grown g8 (by simp; omega) (fun q hq => hgv q hq)
      have E8 := O8.congr (X' := X) (fun i hi => by by_cases h : i = k <;> simp [h])
      clear O8 g8
      go_roundw
      case rel => exact ⟨k + 1, _, by omega, by go_num, E8, B8⟩
      case measure => simp [intOf]; omega
    · have e : k = n := by omega
      subst e
      clear hlies
      go_wp2
      go_ret
      exact ⟨_, V, rfl, hO, hbk⟩

theorem fm9_len (n : Nat) (X : Nat → Ent) (V : Nat → Value) : ((List.range n).flatMap fun i => ecells (X i) (V i)).length = n * 9 := by
  induction n with
  | zero => rfl
  | succ n ih => rw [List.range_succ, List.flatMap_append, List.length_append, ih]; simp [ecells]; omega
theorem fm9_get (n : Nat) (X : Nat → Ent) (V : Nat → Value) {i j : Nat} (hi : i < n) (hj : j < 9) : ((List.range n).flatMap fun i => ecells (X i) (V i))[i * 9 + j]? = (ecells (X i) (V i))[j]? := by
  induction n with
  | zero => omega
  | succ n ih =>
    rw [List.range_succ, List.flatMap_append]
    by_cases h : i < n
    · rw [List.getElem?_append_left (by rw [fm9_len]; omega), ih h]
    · obtain rfl : i = n := by omega
      rw [List.getElem?_append_right (by rw [fm9_len]; omega), fm9_len, Nat.add_sub_cancel_left]
      simp
/-- Entries of a row of the call's own, as entries that are read. -/
theorem erow_of {w : World} {base : Nat} {v : Value} {n : Nat} {X : Nat → Ent} {V : Nat → Value} (h : w.ownsRow base 48 9 v n ((List.range n).flatMap fun i => ecells (X i) (V i)))
    (hrow : ∀ i, i < n → ∃ lo lc, V i = .slice lo (X i).n lc ∧ IRow w lo (X i).n (X i).f) (hbd : ∀ i, i < n → EB (X i)) : ∃ ao cap, v = .slice ao n cap ∧ ERow w ao n X := by
  rcases h.2 with ⟨rfl, h0⟩ | ⟨g, cap, cur, rfl, hbg, hg, hnc, _⟩
  · exact ⟨none, 0, by rw [h0], hbd, .inl h0⟩
  · have hlt := (Array.getElem?_eq_some_iff.1 hg).1
    refine ⟨some ⟨g, 0, none⟩, cap, rfl, hbd, .inr ⟨g, 0, rfl, hlt, fun i hi => ?_⟩⟩
    obtain ⟨lo, lc, hV, hr⟩ := hrow i hi
    have c : ∀ j, j < 9 → w.cell? ⟨g, i * 9 + j, none⟩ = (ecells (X i) (V i))[j]? := fun j hj => by rw [h.cellAt (i * 9 + j) (by omega), fm9_get n X V hi hj]
    rw [hV] at c
    refine ⟨lo, lc, ?_, hr⟩
    rw [Nat.zero_add]
    exact ⟨hlt, c 0 (by omega), c 1 (by omega), c 2 (by omega), c 3 (by omega), c 4 (by omega), c 5 (by omega), c 6 (by omega), c 7 (by omega), c 8 (by omega)⟩
theorem OutE.erow {w : World} {base : Nat} {v : Value} {n : Nat} {X : Nat → Ent} {V : Nat → Value} (h : OutE w base v n X V) (hbd : ∀ i, i < n → EB (X i)) : ∃ ao cap, v = .slice ao n cap ∧ ERow w ao n X := erow_of h.own (fun i hi => (h.row i hi).row) hbd
end Go.Proofs.YtmeckcaekkangaaGreat
namespace Go.Proofs.YtmeckcaekkangaaGreat
set_option maxRecDepth 100000
open Go.RowKit
set_option linter.unusedSimpArgs false
set_option linter.unusedVariables false


set_option maxHeartbeats 1600000 in
theorem l5Before_any (x y : Ent) (ao bo : Option Addr) (ca cb : Nat) (w : World) :
    Calls Tryz.prog 52 #[.agg #[.string x.key, .int .i64 x.seq, .int .i64 x.kind, .int .i64 x.c, .int .i64 x.s, .int .i64 x.lo, .int .i64 x.hi, .slice ao x.n ca, .bool x.fu], .agg #[.string y.key, .int .i64 y.seq, .int .i64 y.kind, .int .i64 y.c, .int .i64 y.s, .int .i64 y.lo, .int .i64 y.hi, .slice bo y.n cb, .bool y.fu]] w fun e w' => Ans (Bef x y) w e w' := by
  have hB : ∀ o p, Below w.heap.size w ((w.alloc o).alloc p) := fun o p => (below_new w o).alloc (by simp) _
  cases h1 : Op.bytesLess x.key.toList y.key.toList
  · cases h2 : (x.key.toList == y.key.toList)
    · have H : Hid (¬ Bef x y) := by
        rintro (h | ⟨h, _⟩)
        · rw [h1] at h; cases h
        · rw [h] at h2; simp at h2
      go_enter Tryz.func52, Tryz.ntmps52
      go_wp2
      exact bodyPost_ret (v := .bool false) (by simp [results, Tryz.results52, go_sem]) rfl (Ans.mk _ (by have := H.out; simp [this]) (hB _ _))
    · have H : Hid (Bef x y ↔ y.seq < x.seq) := by
        have e : x.key.toList = y.key.toList := by simpa using h2
        constructor
        · rintro (h | ⟨_, h⟩)
          · rw [h1] at h; cases h
          · exact h
        · exact fun h => .inr ⟨e, h⟩
      go_enter Tryz.func52, Tryz.ntmps52
      go_wp2
      exact bodyPost_ret (v := .bool (decide (y.seq < x.seq))) (by simp [results, Tryz.results52, go_sem]) rfl (Ans.mk _ (by have := H.out; simp [this]) (hB _ _))
  · have H : Hid (Bef x y) := .inl h1
    go_enter Tryz.func52, Tryz.ntmps52
    go_wp2
    exact bodyPost_ret (v := .bool true) (by simp [results, Tryz.results52, go_sem]) rfl (Ans.mk _ (by have := H.out; simp [this]) (hB _ _))
end Go.Proofs.YtmeckcaekkangaaGreat
