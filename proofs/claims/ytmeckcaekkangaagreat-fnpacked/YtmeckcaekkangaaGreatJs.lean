/- Rows as said, in the model. -/
import Derived.Test.YtmeckcaekkangaaGreatJl
import Derived.Test.YtmeckcaekkangaaGreatGoS
import Derived.Test.YtmeckcaekkangaaGreatIL
namespace Go.Proofs.YtmeckcaekkangaaGreat
set_option maxRecDepth 100000
open Go.RowKit
set_option linter.unusedSimpArgs false
set_option linter.unusedVariables false

/-- The Seqs of the first k rows. -/
def sq (D : Nat → List Ent) (k : Nat) : List Int := (fl D k).map fun x => x.seq
theorem sq_len (D : Nat → List Ent) (k : Nat) : (sq D k).length = sm D k := by simp [sq, fl_len]
/-- Those of the first q of a row. -/
def sqR (E : List Ent) (q : Nat) : List Int := (List.range q).map fun i => (eL E i).seq
theorem sqR_succ (E : List Ent) (q : Nat) : sqR E (q + 1) = sqR E q ++ [(eL E q).seq] := by simp [sqR, List.range_succ]
theorem sqR_len (E : List Ent) (q : Nat) : (sqR E q).length = q := by simp [sqR]
theorem sqR_all (E : List Ent) : sqR E E.length = E.map fun x => x.seq := by
  apply List.ext_getElem
  · simp [sqR]
  · intro i h1 h2
    simp at h2
    simp [sqR, eL, h2]
theorem sq_succ (D : Nat → List Ent) (k : Nat) : sq D (k + 1) = sq D k ++ sqR (D k) (D k).length := by
  unfold sq
  rw [sqR_all]
  simp [fl]
theorem mem_sq {D : Nat → List Ent} {k : Nat} {x : Ent} (h : x ∈ fl D k) : ∃ i, i < (sq D k).length ∧ fi (sq D k) i = x.seq := by
  obtain ⟨i, hi, e⟩ := List.getElem_of_mem h
  refine ⟨i, by simpa [sq] using hi, ?_⟩
  simp [fi, sq, hi, e]
theorem sq_mem {D : Nat → List Ent} {k i : Nat} (h : i < (sq D k).length) : ∃ x ∈ fl D k, x.seq = fi (sq D k) i := by
  have hi : i < (fl D k).length := by simpa [sq] using h
  exact ⟨(fl D k)[i], List.getElem_mem hi, by simp [fi, sq, hi]⟩

theorem fl_front (D : Nat → List Ent) : ∀ {N k : Nat}, k ≤ N → ∃ t, fl D N = fl D k ++ t
  | 0, k, h => by
    obtain rfl : k = 0 := by omega
    exact ⟨[], rfl⟩
  | N + 1, k, h => by
    rcases Nat.lt_or_ge k (N + 1) with h1 | h1
    · obtain ⟨t, e⟩ := fl_front D (show k ≤ N by omega)
      exact ⟨t ++ D N, by show fl D N ++ D N = _; rw [e, List.append_assoc]⟩
    · obtain rfl : k = N + 1 := by omega
      exact ⟨[], by simp⟩
theorem fl_cross {D : Nat → List Ent} {N k : Nat} (h : (fl D N).Pairwise Uns) (hk : k < N) {x y : Ent} (hx : x ∈ fl D k) (hy : y ∈ D k) : x.seq ≠ y.seq := by
  obtain ⟨t, e⟩ := fl_front D (show k + 1 ≤ N from hk)
  rw [e] at h
  have h2 := (List.pairwise_append.1 h).1
  exact (List.pairwise_append.1 h2).2.2 x hx y hy
theorem eL_mem {E : List Ent} {i : Nat} (h : i < E.length) : eL E i ∈ E := by rw [eL_get h]; exact List.getElem_mem h
theorem wpList_pushI2 {w : World} {ops : Array Oper} {rest : List Oper} {o : Oper} {a : Act} {Q : Exit → Act → World → Prop} (nb : Nat) (hnb : w.heap.size = nb) (hgd : o.guard = none) (s y : Operand)
    (ho : o.op = .call { callee := .builtin .append, args := #[s, y], argTypes := #[44, 44] })
    (base : Nat) (v : Value) (L : List Int) (x : Int) (hs : a.eval s = v) (h : OwnI w base v L) (hx : -9223372036854775808 ≤ x ∧ x ≤ 9223372036854775807)
    (hy : a.eval y = .slice (some ⟨nb, 0, none⟩) 1 1) (hn : L.length ≤ 1048576) (hbase : base ≤ w.heap.size)
    (hk : ∀ v' w', OwnI w' base v' (L ++ [x]) → (w.alloc (.cells #[.int .i64 x] 3)).grownBy w' v.ownBlock → wpList Tryz.prog ops Q rest (a.put o.dst v') w') :
    wpList Tryz.prog ops Q (o :: rest) a (w.alloc (.cells #[.int .i64 x] 3)) := by
  subst hnb
  exact wpList_pushI hgd s y ho base v L x hs h hx hy hn hbase hk

set_option maxRecDepth 100000 in
set_option maxHeartbeats 8000000 in
theorem l8Rows_any (b off N cap : Nat) (D : Nat → List Ent) (w : World) (hr : LR w b off N D) (hN : N ≤ 1048576) (hs : sm D N ≤ 1048576) (hz : ∀ i, i < N → ESize (D i).length (eL (D i))) :
    Calls Tryz.prog 16 #[.slice (some ⟨b, off, none⟩) N cap] w fun e w' => Ans (RowsOk N D) w e w' := by
  by_cases h12 : 12 < N
  · have H : Hid (¬ RowsOk N D) := fun h => by have := h.1; omega
    have hd : decide ((12 : Int) < (N : Int)) = true := decide_eq_true (by omega)
    go_enter Tryz.func16, Tryz.ntmps16
    go_wp2
    go_ret
    exact Ans.mk false (by have := H.out; simp [this]) (Below.refl _ _)
  have hd12 : decide ((12 : Int) < (N : Int)) = false := decide_eq_false (by omega)
  go_enter Tryz.func16, Tryz.ntmps16
  go_wp2
  go_loopw [3, 17] (fun u i wr => ∃ k : Nat, k ≤ N ∧ i = .int .i64 k ∧ OwnI wr w.heap.size u (sq D k) ∧ Hid ((∀ i, i < k → GoodLs (D i)) ∧ (fl D k).Pairwise Uns) ∧ sm D k ≤ 300 ∧ Below w.heap.size w wr) (fun _ i _ => N - (intOf i).toNat)
  case atStart => exact ⟨0, Nat.zero_le _, rfl, ownI_nil _ _, ⟨fun i h => by omega, List.Pairwise.nil⟩, Nat.zero_le _, Below.refl _ _⟩
  case round =>
    obtain ⟨k, hk, rfl, hO, HG, h300, hbk⟩ := hrel
    by_cases hlt : k < N
    rotate_left
    · obtain rfl : k = N := by omega
      have H : Hid (RowsOk k D) := ⟨by omega, h300, HG.out.1, HG.out.2⟩
      clear HG hO
      go_wp2
      go_ret
      exact Ans.mk true (by have := H.out; simp [this]) hbk
    obtain ⟨p, c, h1, h2, h3⟩ := hr.row k hlt
    have a0 := (hbk.cell (p := ⟨b, off + k, none⟩) hr.lt).trans h1
    have hmono := sm_mono (D := D) (show k + 1 ≤ N from hlt)
    have es : sm D (k + 1) = sm D k + (D k).length := rfl
    obtain ⟨so, sc, rfl, hsc, hS⟩ := hO.form
    have HL : Hid ((sq D k).length = sm D k) := sq_len D k
    have hsl : (sq D k).length ≤ 300 := by rw [sq_len]; omega
    by_cases hlen : sm D k + (D k).length ≤ 300
    rotate_left
    · have H : Hid (¬ RowsOk N D) := fun h => by have := h.2.1; omega
      by_cases hl3 : 300 < (D k).length
      · have hd1 : decide ((300 : Int) < ((D k).length : Int)) = true := decide_eq_true (by omega)
        clear h1 h3 HG hO hS hmono es HL
        go_wp2
        go_ret
        exact Ans.mk false (by have := H.out; simp [this]) hbk
      · have hd1 : decide ((300 : Int) < ((D k).length : Int)) = false := decide_eq_false (by omega)
        have hwr : IntKind.i64.wrap (((sq D k).length : Int) + ((D k).length : Int)) = ((sq D k).length : Int) + ((D k).length : Int) := by rw [IntKind.wrap_i64]; omega
        have hd2 : decide ((300 : Int) < ((sq D k).length : Int) + ((D k).length : Int)) = true := decide_eq_true (by have := HL.out; omega)
        clear h1 h3 HG hO hS hmono es HL
        go_wp2
        go_ret
        exact Ans.mk false (by have := H.out; simp [this]) hbk
    have hd1 : decide ((300 : Int) < ((D k).length : Int)) = false := decide_eq_false (by omega)
    have hwr : IntKind.i64.wrap (((sq D k).length : Int) + ((D k).length : Int)) = ((sq D k).length : Int) + ((D k).length : Int) := by rw [IntKind.wrap_i64]; omega
    have hd2 : decide ((300 : Int) < ((sq D k).length : Int) + ((D k).length : Int)) = false := decide_eq_false (by have := HL.out; omega)
    have hgs := goodEntries_spec p (D k).length c (eL (D k)) wr (h3.keep hbk) (by omega) (hz k hlt)
    clear es hmono
    by_cases hG : GoodL (eL (D k)) (D k).length
    rotate_left
    · have H : Hid (¬ RowsOk N D) := fun h => hG (good_iff.2 (h.2.2.1 k hlt))
      clear h1 h3 HG hO hS
      go_wp2_with fail
      refine hgs.mono ?_
      rintro e w1 ⟨b1, rfl, g1, q1⟩
      obtain rfl : b1 = false := by
        cases b1
        · rfl
        · exact absurd (g1.1 rfl) hG
      have bw1 := hbk.trans (q1.mono hbk.size)
      clear g1
      go_wp2
      go_ret
      exact Ans.mk false (by have := H.out; simp [this]) bw1
    go_wp2_with fail
    refine hgs.mono ?_
    rintro e w1 ⟨b1, rfl, g1, q1⟩
    obtain rfl : b1 = true := g1.2 hG
    have bw1 := hbk.trans (q1.mono hbk.size)
    have hO1 := hO.keep q1
    have hS1 := hS.keep q1
    have HGk : Hid (GoodLs (D k)) := good_iff.1 hG
    clear g1 q1 hgs hO hS hG h1 a0
    obtain ⟨_, hSl⟩ := hS1
    obtain ⟨hEb, hEl⟩ := h3
    go_wp2
    go_loopw [39] (fun i wr => ∃ q : Nat, q ≤ (D k).length ∧ i = .int .i64 q ∧ Hid (∀ i, i < q → ∀ j, j < (sq D k).length → fi (sq D k) j ≠ (eL (D k) i).seq) ∧ Below w1.heap.size w1 wr) (fun i _ => (D k).length - (intOf i).toNat)
    case atStart => exact ⟨0, Nat.zero_le _, rfl, fun i h => by omega, Below.refl _ _⟩
    case round =>
      obtain ⟨q, hq, rfl, HQ, hb2⟩ := hrel
      have bw2 := bw1.trans (hb2.mono bw1.size)
      by_cases hql : q < (D k).length
      · obtain ⟨bx, ox, rfl, hbx, hx⟩ := hEl.resolve_left (by omega)
        obtain ⟨da, dc, ea, _⟩ := hx q hql
        obtain ⟨_, a0, a1, a2, a3, a4, a5, a6, a7, a8⟩ := ea.keep bw2
        have hbn := below_new wr (.cells #[.string (eL (D k) q).key, .int .i64 (eL (D k) q).seq, .int .i64 (eL (D k) q).kind, .int .i64 (eL (D k) q).c, .int .i64 (eL (D k) q).s, .int .i64 (eL (D k) q).lo, .int .i64 (eL (D k) q).hi, .slice da (eL (D k) q).n dc, .bool (eL (D k) q).fu] 48)
        have b3 := hb2.trans (hbn.mono hb2.size)
        have x1 := (EAt.new wr (eL (D k) q) da dc 48).z.2.2.1
        have HC : Hid (∀ r, r < (sq D k).length → fi (sq D k) r = (eL (D k) q).seq → ¬ RowsOk N D) := fun r hr2 he h => by
          obtain ⟨x, hx1, hx2⟩ := sq_mem hr2
          exact fl_cross h.2.2.2 hlt hx1 (eL_mem hql) (hx2.trans he)
        clear ea hx hEl hO1
        go_wp2
        generalize wr.alloc (.cells #[.string (eL (D k) q).key, .int .i64 (eL (D k) q).seq, .int .i64 (eL (D k) q).kind, .int .i64 (eL (D k) q).c, .int .i64 (eL (D k) q).s, .int .i64 (eL (D k) q).lo, .int .i64 (eL (D k) q).hi, .slice da (eL (D k) q).n dc, .bool (eL (D k) q).fu] 48) = w3 at *
        generalize wr.heap.size = B3 at *
        go_loopw [45] (fun i W => ∃ r : Nat, r ≤ (sq D k).length ∧ i = .int .i64 r ∧ Hid (∀ j, j < r → fi (sq D k) j ≠ (eL (D k) q).seq) ∧ W = w3) (fun i _ => (sq D k).length - (intOf i).toNat)
        case atStart => exact ⟨0, Nat.zero_le _, rfl, fun i h => by omega, rfl⟩
        case round =>
          obtain ⟨r, hr2, rfl, HR, hW⟩ := hrel
          have hW2 := hW.symm
          clear hW
          subst hW2
          by_cases hrl : r < (sq D k).length
          · obtain ⟨bs, os, rfl, hbs, hc⟩ := hSl.resolve_left (by omega)
            have c1 := (b3.cell (p := ⟨bs, os + r, none⟩) hbs).trans (hc r hrl)
            have bw3 := bw1.trans (b3.mono bw1.size)
            clear hc hSl
            by_cases he : fi (sq D k) r = (eL (D k) q).seq
            · have H : Hid (¬ RowsOk N D) := HC.out r hrl he
              have heb : (fi (sq D k) r == (eL (D k) q).seq) = true := by simp [he]
              clear he HR HQ HG HC HGk
              go_wp2
              go_ret
              exact Ans.mk false (by have := H.out; simp [this]) bw3
            · have HR2 : Hid (∀ j, j < r + 1 → fi (sq D k) j ≠ (eL (D k) q).seq) := fun j hj => by
                rcases Nat.lt_succ_iff_lt_or_eq.1 hj with h | rfl
                · exact HR.out j h
                · exact he
              have heb : (fi (sq D k) r == (eL (D k) q).seq) = false := by simpa using he
              clear he HR
              go_wp2
              go_roundw
              case rel => exact ⟨r + 1, by omega, by go_num, HR2, by first | rfl | trivial⟩
              case measure => simp [intOf]; omega
          · have HQ2 : Hid (∀ i, i < q + 1 → ∀ j, j < (sq D k).length → fi (sq D k) j ≠ (eL (D k) i).seq) := fun i hi j hj => by
              rcases Nat.lt_succ_iff_lt_or_eq.1 hi with h | rfl
              · exact HQ.out i h j hj
              · exact HR.out j (by omega)
            clear HR HQ HC
            go_wp2
            go_roundw
            case rel => exact ⟨q + 1, by omega, by go_num, HQ2, b3⟩
            case measure => simp [intOf]; omega
      · have hO2 := hO1.keep hb2
        have HP : Hid ((∀ i, i < k + 1 → GoodLs (D i)) ∧ (fl D (k + 1)).Pairwise Uns) := by
          refine ⟨fun i hi => ?_, ?_⟩
          · rcases Nat.lt_succ_iff_lt_or_eq.1 hi with h | rfl
            · exact HG.out.1 i h
            · exact HGk.out
          · unfold fl
            refine List.pairwise_append.2 ⟨HG.out.2, HGk.out.2.2, fun x hx y hy => ?_⟩
            obtain ⟨j, hj, e1⟩ := mem_sq hx
            obtain ⟨i, hi, e2⟩ := List.getElem_of_mem hy
            have := HQ.out i (by omega) j hj
            rw [e1, eL_get hi, e2] at this
            exact this
        have h301 : sm D (k + 1) ≤ 300 := hlen
        have eq0 : sq D k = sq D k ++ sqR (D k) 0 := by simp [sqR]
        have HS2 : Hid (sq D (k + 1) = sq D k ++ sqR (D k) (D k).length) := sq_succ D k
        clear HG HGk HQ hO1 hSl hb2
        go_wp2
        go_loopw [3, 57] (fun u i W => ∃ q : Nat, q ≤ (D k).length ∧ i = .int .i64 q ∧ OwnI W w.heap.size u (sq D k ++ sqR (D k) q) ∧ Below w.heap.size w W) (fun _ i _ => (D k).length - (intOf i).toNat)
        case atStart => exact ⟨0, Nat.zero_le _, rfl, by rw [← eq0]; exact hO2, bw2⟩
        case round =>
          obtain ⟨q, hq, rfl, hO3, hb3⟩ := hrel
          by_cases hql : q < (D k).length
          · obtain ⟨bx, ox, rfl, hbx, hx⟩ := hEl.resolve_left (by omega)
            obtain ⟨da, dc, ea, _⟩ := hx q hql
            obtain ⟨_, a0, a1, a2, a3, a4, a5, a6, a7, a8⟩ := ea.keep hb3
            have hbn := below_new wr (.cells #[.string (eL (D k) q).key, .int .i64 (eL (D k) q).seq, .int .i64 (eL (D k) q).kind, .int .i64 (eL (D k) q).c, .int .i64 (eL (D k) q).s, .int .i64 (eL (D k) q).lo, .int .i64 (eL (D k) q).hi, .slice da (eL (D k) q).n dc, .bool (eL (D k) q).fu] 48)
            have b4 := hb3.trans (hbn.mono hb3.size)
            have hO4 := hO3.keep hbn
            have hE := (hEb q hql).seq
            have hLn : (sq D k ++ sqR (D k) q).length ≤ 1048576 := by rw [List.length_append, sqR_len]; omega
            have HS3 : Hid ((sq D k ++ sqR (D k) q) ++ [(eL (D k) q).seq] = sq D k ++ sqR (D k) (q + 1)) := by rw [Hid, sqR_succ, List.append_assoc]
            clear ea hx hEl hO3 hO2 eq0 HS2
            generalize sq D k ++ sqR (D k) q = L at *
            have lt4 := fun k hk => (hO4.own.lt k hk).1
            go_wp2_with (at_builtin; refine wpList_pushI2 (w := wr.alloc (.cells #[.string (eL (D k) q).key, .int .i64 (eL (D k) q).seq, .int .i64 (eL (D k) q).kind, .int .i64 (eL (D k) q).c, .int .i64 (eL (D k) q).s, .int .i64 (eL (D k) q).lo, .int .i64 (eL (D k) q).hi, .slice da (eL (D k) q).n dc, .bool (eL (D k) q).fu] 48)) (wr.heap.size + 1) (by simp) rfl (.tmp 61) (.tmp 64) rfl w.heap.size _ L (eL (D k) q).seq rfl hO4 hE rfl hLn b4.size ?_; intro v8 w8 hO8 hg8)
            have b8 : Below w.heap.size w w8 := (b4.alloc b4.size _).grown hg8 (by simp; have := hb3.size; omega) (fun q hq => lt4 q hq)
            rw [HS3.out] at hO8
            go_roundw
            case rel => exact ⟨q + 1, by omega, by go_num, hO8, b8⟩
            case measure => simp [intOf]; omega
          · obtain rfl : q = (D k).length := by omega
            rw [← HS2.out] at hO3
            clear hO2 eq0 HS2
            go_wp2
            go_roundw
            case rel => exact ⟨k + 1, by omega, by go_num, hO3, HP, h301, hb3⟩
            case measure => simp [intOf]; omega
end Go.Proofs.YtmeckcaekkangaaGreat
