/- Texts parted at a mark, in the program (by runes) and in the model (by bytes). -/
import Derived.Test.YtpddodjecbcmlaaDoorSp
import Derived.Laws.Strings
import Derived.Laws.Strings2
import Derived.Laws.Strings3
import Derived.Laws.Runes
namespace Go.Proofs.YtpddodjecbcmlaaDoor
open Go.RowKit
set_option linter.unusedSimpArgs false
set_option linter.unusedVariables false

/-- What a parting leaves: the parts in a row of the call's own. -/
def PtO (b : UInt8) (s : ByteArray) (w : World) (e : Ending) (w' : World) : Prop :=
  ∃ ao cap, e = .returned (.slice ao (spB b s).length cap) ∧ StL w' w.heap.size (.slice ao (spB b s).length cap) (spB b s) ∧ Below w.heap.size w w'

/-- A text's walk: the iterator, the parts so far. -/
structure PI (w wr : World) (s : ByteArray) (v : Value) (D : List ByteArray) (pos : Nat) : Prop where
  it : wr.heap[w.heap.size]? = some (.stringIter s pos)
  row : StL wr (w.heap.size + 1) v D
  bel : Below w.heap.size w wr
theorem PI.next {w wr : World} {s : ByteArray} {v : Value} {D : List ByteArray} {pos : Nat} (h : PI w wr s v D pos) (p' : Nat) : PI w (wr.iterAt w.heap.size s p') s v D p' := by
  have hlt : w.heap.size < wr.heap.size := (Array.getElem?_eq_some_iff.1 h.it).1
  refine ⟨Lib.iterAt_heap _ _ _ _ _ h.it, ?_, Lib.below_iterAt h.bel (Nat.le_refl _) _ _⟩
  refine ownsRow_kept (row := some w.heap.size) h.row ⟨rfl, rfl, rfl, by rw [Lib.iterAt_size]; exact Nat.le_refl _, fun k hk hne => Lib.iterAt_other _ _ _ _ _ (fun e => hne (by rw [e]))⟩ (fun k hk e => ?_)
  injection hk with hk
  have := (World.ownsRow.lt h.row k e).1
  omega
theorem PI.push {w wr : World} {s : ByteArray} {va : Option Addr} {vc : Nat} {D : List ByteArray} {pos : Nat} (h : PI w wr s (.slice va D.length vc) D pos) (hl : D.length ≤ 4194304) (x : ByteArray) (ty : TypeId) :
    ∃ ao' c' w', (Builtin.append_ #[53, 53] ty #[.slice va D.length vc, .slice (some ⟨wr.heap.size, 0, none⟩) 1 1]).run Tryd.prog (wr.alloc (.cells #[.string x] 9)) = .ok (.slice ao' (D.length + 1) c') w' ∧ PI w w' s (.slice ao' (D ++ [x]).length c') (D ++ [x]) pos := by
  have hlt : w.heap.size < wr.heap.size := (Array.getElem?_eq_some_iff.1 h.it).1
  have bn : Below wr.heap.size wr (wr.alloc (.cells #[.string x] 9)) := (Below.refl _ _).alloc (Nat.le_refl _) _
  obtain ⟨ao', c', w', hrun, h1, hg, hat⟩ := stL_push (w := wr.alloc (.cells #[.string x] 9)) (ownsRow_keep h.row bn) wr.heap.size 1 x (by simp [go_sem]) (by omega) (by simp; omega) ty
  have hne : ∀ k, (Value.slice va D.length vc).ownBlock = some k → w.heap.size < k := fun k e => by have := (World.ownsRow.lt h.row k e).1; omega
  refine ⟨ao', c', w', hrun, ?_, by rw [List.length_append]; exact h1, ?_⟩
  · rw [hg.block w.heap.size (by simp; omega) (fun e => by have := hne _ e.symm; omega), bn.block _ hlt]
    exact h.it
  · exact (h.bel.trans (bn.mono (by omega))).grown hg (by simp; omega) (fun k e => by have := hne k e; omega)
structure PS (w wr : World) (b : UInt8) (s : ByteArray) (v : Value) (D : List ByteArray) (i pos : Nat) : Prop where
  pi : PI w wr s v D pos
  part : Part b s D i
  nob : NoB b s i pos
  le : i ≤ pos
  le2 : pos ≤ s.size

/-- An append by its run's equation. -/
theorem wpList_append_run' {P : Program} (w : World) {ops : Array Oper} {rest : List Oper} {o : Oper} {a : Act} {Q : Exit → Act → World → Prop}
    (hg : o.guard = none) (s x : Operand) (t ty : TypeId) (hop : o.op = .call { callee := .builtin .append, args := #[s, x], argTypes := #[t, t] }) (hty : o.type = ty) (u v r : Value) (hs : a.eval s = u) (hx : a.eval x = v) (w' : World)
    (hrun : (Builtin.append_ #[t, t] ty #[u, v]).run P w = .ok r w') (hK : wpList P ops Q rest (a.put o.dst r) w') : wpList P ops Q (o :: rest) a w := by
  refine wpList_plain hg fun K' hK' => ?_
  subst hty
  unfold Oper.wp execOp
  simp only [hop, resolve, invoke, builtin, Sem.run_bind, Sem.run_pure, Result.andThen_ok, List.map_toArray, List.map_cons, List.map_nil, hs, hx, hrun]
  exact hK' _ _ hK

theorem iterPos_of {w : World} {k : Nat} {s : ByteArray} {p : Nat} (h : w.heap[k]? = some (.stringIter s p)) : w.iterPos k = p := by simp [World.iterPos, h]
theorem enc_one {b : UInt8} (hb : b.toNat < 128) : (Utf8.encode (b.toNat : Int)).size = 1 := by
  have h1 : Utf8.valid (b.toNat : Int) = true := by
    simp [Utf8.valid]
    omega
  simp [Utf8.encode, h1, hb]
  rfl

set_option maxHeartbeats 1000000 in
set_option maxRecDepth 100000 in
theorem partsOf_any (s : ByteArray) (b : UInt8) (hb : b.toNat < 128) (w : World) (hs : s.size ≤ 1048576) :
    Calls Tryd.prog 23 #[.string s, .int .i32 (b.toNat : Int)] w fun e w' => PtO b s w e w' := by
  go_enter Tryd.func23, Tryd.ntmps23
  go_wp2
  go_loopw [5, 6] (fun v q wr => ∃ (va : Option Addr) (vc : Nat) (D : List ByteArray) (i pos : Nat), v = .slice va D.length vc ∧ q = .int .i64 (i : Int) ∧ PS w wr b s (.slice va D.length vc) D i pos) (fun _ _ wr => s.size - wr.iterPos w.heap.size)
  case atStart => exact ⟨none, 0, [], 0, 0, rfl, rfl, ⟨⟨World.iter_heap w s 0, stL_nil _ _, (Below.refl _ _).alloc (Nat.le_refl _) _⟩, Part.start b s, NoB.start b s 0, Nat.le_refl _, by omega⟩⟩
  case round =>
    obtain ⟨va, vc, D, i, pos, rfl, rfl, hP⟩ := hrel
    have hle := hP.le
    have hle2 := hP.le2
    have hD := hP.part.len
    by_cases hp : pos < s.size
    · by_cases hm : s[pos] = b
      · have hn := fun ty => Lib.run_next_ascii_at (P := Tryd.prog) wr w.heap.size s pos ty hP.pi.it hp (by rw [hm]; exact hb)
        rw [hm] at hn
        obtain ⟨ao', c', w2, hrun, P2⟩ := (hP.pi.next (pos + 1)).push (by omega) (s.extract i pos) 53
        have hpart := hP.part.cut hP.nob hle hp hm
        have hen := enc_one hb
        go_wp2_with (at_builtin; refine wpList_append_run' _ rfl (.tmp 18) (.tmp 23) 53 53 rfl rfl _ _ _ rfl rfl w2 hrun ?_)
        go_roundw
        case rel => exact ⟨ao', c', _, pos + 1, pos + 1, by rw [List.length_append]; rfl, by go_num, ⟨P2, hpart, NoB.start _ _ _, Nat.le_refl _, hp⟩⟩
        case measure => rw [iterPos_of P2.it, iterPos_of hP.pi.it]; omega
      · have hx : (((Utf8.decode s pos).1 : Int) == (b.toNat : Int)) = false ∧ NoB b s i (pos + (Utf8.decode s pos).2) ∧ 1 ≤ (Utf8.decode s pos).2 ∧ pos + (Utf8.decode s pos).2 ≤ s.size := by
          by_cases ha : (s[pos]'hp).toNat < 128
          · rw [decode_ascii s pos hp ha]
            refine ⟨?_, hP.nob.one hp hm, Nat.le_refl _, hp⟩
            have : (s[pos]'hp).toNat ≠ b.toNat := fun e => hm (UInt8.toNat_inj.1 e)
            simp; omega
          · have h1 := decode_high s pos hp (by omega)
            have h2 := decode_wide s pos hp (by omega)
            refine ⟨by simp; omega, fun k hk h3 h4 => ?_, h1.2, h2.1⟩
            by_cases h5 : k < pos
            · exact hP.nob k hk h3 h5
            · have h6 := h2.2 k hk (by omega) h4
              intro e
              rw [e] at h6
              omega
        obtain ⟨hx1, hx2, hx3, hx4⟩ := hx
        have hn := fun ty => Lib.run_next_any_at (P := Tryd.prog) wr w.heap.size s pos ty hP.pi.it hp
        have P1 := hP.pi.next (pos + (Utf8.decode s pos).2)
        generalize Utf8.decode s pos = rr at *
        go_wp2
        go_roundw
        case rel => exact ⟨va, vc, D, i, _, rfl, rfl, ⟨P1, hP.part, hx2, by omega, hx4⟩⟩
        case measure => rw [iterPos_of P1.it, iterPos_of hP.pi.it]; omega
    · have e : pos = s.size := by omega
      subst e
      have hn := fun ty => Lib.run_next_end_at (P := Tryd.prog) wr w.heap.size s s.size ty hP.pi.it hp
      obtain ⟨ao', c', w2, hrun, P2⟩ := hP.pi.push (by omega) (s.extract i s.size) 53
      have hlast : D ++ [s.extract i s.size] = spB b s := hP.part.last hP.nob
      go_wp2_with (at_builtin; refine wpList_append_run' _ rfl (.tmp 30) (.tmp 34) 53 53 rfl rfl _ _ _ rfl rfl w2 hrun ?_)
      have e : D.length + 1 = (spB b s).length := by rw [← hlast, List.length_append]; rfl
      rw [hlast] at P2
      exact bodyPost_ret (v := .slice ao' (D.length + 1) c') (by simp [results, Tryd.results23, go_sem]) rfl ⟨ao', c', by rw [e], ownsRow_mono P2.row (by omega), P2.bel⟩
end Go.Proofs.YtpddodjecbcmlaaDoor
