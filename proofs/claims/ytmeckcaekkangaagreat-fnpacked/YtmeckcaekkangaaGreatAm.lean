/- addEntries of many entries, in the program. -/
import Derived.Test.YtmeckcaekkangaaGreatAd
namespace Go.Proofs.YtmeckcaekkangaaGreat
set_option maxRecDepth 100000
open Go.RowKit
set_option linter.unusedSimpArgs false
set_option linter.unusedVariables false

/-- n entries and then others. -/
def catE (X : Nat → Ent) (n : Nat) (Y : Nat → Ent) : Nat → Ent := fun i => if i < n then X i else Y (i - n)

set_option maxRecDepth 100000 in
set_option maxHeartbeats 4000000 in
theorem addMany_any (lo : Option Addr) (lc base n : Nat) (X : Nat → Ent) (V : Nat → Value) (so : Option Addr) (m sc : Nat) (Y : Nat → Ent) (w0 w : World) (hO : OutE w base (.slice lo n lc) n X V) (hr : ERow w0 so m Y) (hw0 : Below w0.heap.size w0 w) (hbs : w0.heap.size ≤ base) (hz : ∀ i, i < m → (Y i).n ≤ 1048576) (hnm : n + m ≤ 1048576) (hb : base ≤ w.heap.size) :
    Calls Tryz.prog 23 #[.slice lo n lc, .slice so m sc] w fun e w' => ∃ v' V', e = .returned v' ∧ OutE w' base v' (n + m) (catE X n Y) V' ∧ Below base w w' := by
  obtain ⟨hbd, hlies⟩ := hr
  go_enter Tryz.func23, Tryz.ntmps23
  go_wp2
  go_loopw [0, 9] (fun u i wr => ∃ (k : Nat) (V' : Nat → Value), k ≤ m ∧ i = .int .i64 k ∧ OutE wr base u (n + k) (catE X n Y) V' ∧ Below base w wr) (fun _ i _ => m - (intOf i).toNat)
  case atStart => exact ⟨0, V, Nat.zero_le _, rfl, hO.congr (fun i hi => by unfold catE; rw [if_pos (by omega)]), Below.refl _ _⟩
  case round =>
    obtain ⟨k, V', hk, rfl, hOk, hBk⟩ := hrel
    obtain ⟨lo', lc', rfl⟩ := ownsRow_form hOk.own
    clear hO
    by_cases hlt : k < m
    · obtain ⟨b, off, rfl, hblt, hc⟩ := hlies.resolve_left (by omega)
      obtain ⟨da, dc, ea0, ir0⟩ := hc k hlt
      have hwk : Below w0.heap.size w0 wr := hw0.trans (hBk.mono hbs)
      have ea := ea0.keep hwk
      have ir := ir0.keep hwk
      have hbr : base ≤ wr.heap.size := Nat.le_trans hb hBk.size
      have hzk := hz k hlt
      have HC : Hid (catE X n Y (n + k) = Y k) := by unfold Hid catE; rw [if_neg (by omega)]; congr 1; omega
      generalize hx : Y k = x at *
      clear hx hc hlies ea0 ir0
      have hB1 := below_new wr (.cells #[.string x.key, .int .i64 x.seq, .int .i64 x.kind, .int .i64 x.c, .int .i64 x.s, .int .i64 x.lo, .int .i64 x.hi, .slice da x.n dc, .bool x.fu] 48)
      obtain ⟨hv, w2, hrun, hH, hb2⟩ := hist_run (wr.alloc (.cells #[.string x.key, .int .i64 x.seq, .int .i64 x.kind, .int .i64 x.c, .int .i64 x.s, .int .i64 x.lo, .int .i64 x.hi, .slice da x.n dc, .bool x.fu] 48)) da dc x (ir.keep hB1) hzk 44
      obtain ⟨ho, hoc, rfl, _⟩ := hH.row
      have N2 := (EAt.new wr x da dc 48).keep hb2
      have F2 : ∀ j, w2.frozen? ⟨wr.heap.size, j, none⟩ = false := fun j => (hb2.frozen (p := ⟨wr.heap.size, j, none⟩) (by simp)).trans (by simp [go_sem])
      have O2 := (hOk.keep hB1).keep hb2
      have ltv := hOk.own.lt
      have lth := hH.own.lt
      have ltV := fun i hi => (hOk.row i hi).own.lt
      have s2 := hb2.size
      simp at s2
      have B2 : Below base wr w2 := (hB1.mono hbr).trans (hb2.mono (by simp; omega))
      have ot3 : Others wr.heap.size w2 (w2.setCell ⟨wr.heap.size, 7, none⟩ (.slice ho x.n hoc)) := Others.setCell _ _ _ _
      have O3 : OutE (w2.setCell ⟨wr.heap.size, 7, none⟩ (.slice ho x.n hoc)) base (.slice lo' (n + k) lc') (n + k) (catE X n Y) V' := O2.kept (others_grown ot3) (fun e => by have := (ltv _ e).2; omega) (fun i hi e => by have := (ltV i hi _ e).2; omega)
      have H3 : HOwn (w2.setCell ⟨wr.heap.size, 7, none⟩ (.slice ho x.n hoc)) base (.slice ho x.n hoc) x := (hH.kept (others_grown ot3) (fun k hk e => by injection hk with hk; have := (lth k e).1; simp at this; omega)).mono (by simp; omega)
      have B3 : Below base wr (w2.setCell ⟨wr.heap.size, 7, none⟩ (.slice ho x.n hoc)) := B2.trans (ot3.below hbr)
      have s3 := ot3.size
      have hdis : ∀ q, (Value.slice ho x.n hoc).ownBlock = some q → (Value.slice lo' (n + k) lc').ownBlock ≠ some q ∧ ∀ i, i < n + k → (V' i).ownBlock ≠ some q := fun q hq => by
        have h1 := (lth q hq).1
        simp at h1
        exact ⟨fun e => by have := (ltv q e).2; omega, fun i hi e => by have := (ltV i hi q e).2; omega⟩
      obtain ⟨n0, n1, n2, n3, n4, n5, n6, n7, n8, n9⟩ := N2.z
      obtain ⟨_, a0, a1, a2, a3, a4, a5, a6, a7, a8⟩ := ea
      have b3 : base ≤ (w2.setCell ⟨wr.heap.size, 7, none⟩ (.slice ho x.n hoc)).heap.size := by rw [s3]; omega
      have hgv : ∀ q, (Value.slice lo' (n + k) lc').ownBlock = some q → base ≤ q := fun q hq => (ltv q hq).1
      have hnk : n + k ≤ 1048576 := by omega
      clear hOk hB1 hH hb2 O2 B2 ltv lth ltV ot3 N2
      have t1 : True := trivial
      have t2 : True := trivial
      go_wp2_with (first | (at_builtin; clear t1; refine wpList_append_eq _ rfl (.const (.slice none 0 0)) (.tmp 15) 44 44 rfl rfl (.slice none 0 0) (.slice da x.n dc) (.slice ho x.n hoc) rfl rfl w2 hrun ?_) | (at_builtin; clear t2; refine wpList_pushE2 (w := (w2.setCell ⟨wr.heap.size, 7, none⟩ (.slice ho x.n hoc))) w2.heap.size s3 rfl (.tmp 19) (.tmp 21) rfl base (.slice lo' (n + k) lc') (.slice ho x.n hoc) (n + k) (catE X n Y) V' x rfl O3 H3 hdis rfl hnk b3 rfl ?_; intro v8 w8 O8 g8))
      have B8 : Below base wr w8 := (B3.alloc b3 _).grown g8 (by simp; omega) (fun q hq => hgv q hq)
      have E8 := O8.congr (X' := catE X n Y) (fun i hi => by by_cases h : i = n + k <;> simp [h, HC.out])
      clear O8 g8
      go_roundw
      case rel => exact ⟨k + 1, _, by omega, by go_num, E8, hBk.trans B8⟩
      case measure => simp [intOf]; omega
    · obtain rfl : k = m := by omega
      clear hlies
      go_wp2
      refine bodyPost_ret (v := .slice lo' (n + k) lc') (by simp [results, Tryz.results23, go_sem]) rfl ⟨_, V', rfl, hOk, hBk⟩
end Go.Proofs.YtmeckcaekkangaaGreat
