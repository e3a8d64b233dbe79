/- Texts parted at a mark, in the program (by runes) and in the model (by bytes). -/
import Derived.Test.YtpddodjecbcmlaaSp
import Derived.Laws.Strings
import Derived.Laws.Strings2
import Derived.Laws.Strings3
import Derived.Laws.Runes
namespace Go.Proofs.Ytpddodjecbcmlaa
open Go.RowKit
set_option linter.unusedSimpArgs false
set_option linter.unusedVariables false

/-- What a parting leaves: the parts in a row of the call's own. -/
def PtO (b : UInt8) (s : ByteArray) (w : World) (e : Ending) (w' : World) : Prop :=
  ∃ ao cap, e = .returned (.slice ao (spB b s).length cap) ∧ StL w' w.heap.size (.slice ao (spB b s).length cap) (spB b s) ∧ Below w.heap.size w w'

/-- A text's walk: the iterator, the parts so far. -/
structure PI (w wr : World) (s : ByteArray) (v : Value) (D : List ByteArray) (pos : Nat) : Prop where
  it : wr.heap[w.heap.size]? = some (.stringIter s pos)
  row : StL wr (w.heap.size + 1) v D
  bel : Below w.heap.size w wr
theorem PI.next {w wr : World} {s : ByteArray} {v : Value} {D : List ByteArray} {pos : Nat} (h : PI w wr s v D pos) (p' : Nat) : PI w (wr.iterAt w.heap.size s p') s v D p' := by
  have hlt : w.heap.size < wr.heap.size := (Array.getElem?_eq_some_iff.1 h.it).1
  refine ⟨Lib.iterAt_heap _ _ _ _ _ h.it, ?_, Lib.below_iterAt h.bel (Nat.le_refl _) _ _⟩
  refine ownsRow_kept (row := some w.heap.size) h.row ⟨rfl, rfl, rfl, by rw [Lib.iterAt_size]; exact Nat.le_refl _, fun k hk hne => Lib.iterAt_other _ _ _ _ _ (fun e => hne (by rw [e]))⟩ (fun k hk e => ?_)
  injection hk with hk
  have := (World.ownsRow.lt h.row k e).1
  omega
theorem PI.push {w wr : World} {s : ByteArray} {va : Option Addr} {vc : Nat} {D : List ByteArray} {pos : Nat} (h : PI w wr s (.slice va D.length vc) D pos) (hl : D.length ≤ 4194304) (x : ByteArray) (ty : TypeId) :
    ∃ ao' c' w', (Builtin.append_ #[74, 74] ty #[.slice va D.length vc, .slice (some ⟨wr.heap.size, 0, none⟩) 1 1]).run Try.prog (wr.alloc (.cells #[.string x] 9)) = .ok (.slice ao' (D.length + 1) c') w' ∧ PI w w' s (.slice ao' (D ++ [x]).length c') (D ++ [x]) pos := by
  have hlt : w.heap.size < wr.heap.size := (Array.getElem?_eq_some_iff.1 h.it).1
  have bn : Below wr.heap.size wr (wr.alloc (.cells #[.string x] 9)) := (Below.refl _ _).alloc (Nat.le_refl _) _
  obtain ⟨ao', c', w', hrun, h1, hg, hat⟩ := stL_push (w := wr.alloc (.cells #[.string x] 9)) (ownsRow_keep h.row bn) wr.heap.size 1 x (by simp [go_sem]) (by omega) (by simp; omega) ty
  have hne : ∀ k, (Value.slice va D.length vc).ownBlock = some k → w.heap.size < k := fun k e => by have := (World.ownsRow.lt h.row k e).1; omega
  refine ⟨ao', c', w', hrun, ?_, by rw [List.length_append]; exact h1, ?_⟩
  · rw [hg.block w.heap.size (by simp; omega) (fun e => by have := hne _ e.symm; omega), bn.block _ hlt]
    exact h.it
  · exact (h.bel.trans (bn.mono (by omega))).grown hg (by simp; omega) (fun k e => by have := hne k e; omega)
structure PS (w wr : World) (b : UInt8) (s : ByteArray) (v : Value) (D : List ByteArray) (i pos : Nat) : Prop where
  pi : PI w wr s v D pos
  part : Part b s D i
  nob : NoB b s i pos
  le : i ≤ pos
  le2 : pos ≤ s.size

/-- An append by its run's equation. -/
theorem wpList_append_run' {P : Program} (w : World) {ops : Array Oper} {rest : List Oper} {o : Oper} {a : Act} {Q : Exit → Act → World → Prop}
    (hg : o.guard = none) (s x : Operand) (t ty : TypeId) (hop : o.op = .call { callee := .builtin .append, args := #[s, x], argTypes := #[t, t] }) (hty : o.type = ty) (u v r : Value) (hs : a.eval s = u) (hx : a.eval x = v) (w' : World)
    (hrun : (Builtin.append_ #[t, t] ty #[u, v]).run P w = .ok r w') (hK : wpList P ops Q rest (a.put o.dst r) w') : wpList P ops Q (o :: rest) a w := by
  refine wpList_plain hg fun K' hK' => ?_
  subst hty
  unfold Oper.wp execOp
  simp only [hop, resolve, invoke, builtin, Sem.run_bind, Sem.run_pure, Result.andThen_ok, List.map_toArray, List.map_cons, List.map_nil, hs, hx, hrun]
  exact hK' _ _ hK

theorem iterPos_of {w : World} {k : Nat} {s : ByteArray} {p : Nat} (h : w.heap[k]? = some (.stringIter s p)) : w.iterPos k = p := by simp [World.iterPos, h]
theorem enc_one {b : UInt8} (hb : b.toNat < 128) : (Utf8.encode (b.toNat : Int)).size = 1 := by
  have h1 : Utf8.valid (b.toNat : Int) = true := by
    simp [Utf8.valid]
    omega
  simp [Utf8.encode, h1, hb]
  rfl

set_option maxHeartbeats 1000000 in
theorem partsOf_any (s : ByteArray) (b : UInt8) (hb : b.toNat < 128) (w : World) (hs : s.size ≤ 1048576) :
    Calls Try.prog 41 #[.string s, .int .i32 (b.toNat : Int)] w fun e w' => PtO b s w e w' := by
  go_enter Try.func41, Try.ntmps41
  go_wp2
  go_loopw [5, 6] (fun v q wr => ∃ (va : Option Addr) (vc : Nat) (D : List ByteArray) (i pos : Nat), v = .slice va D.length vc ∧ q = .int .i64 (i : Int) ∧ PS w wr b s (.slice va D.length vc) D i pos) (fun _ _ wr => s.size - wr.iterPos w.heap.size)
  case atStart => exact ⟨none, 0, [], 0, 0, rfl, rfl, ⟨⟨World.iter_heap w s 0, stL_nil _ _, (Below.refl _ _).alloc (Nat.le_refl _) _⟩, Part.start b s, NoB.start b s 0, Nat.le_refl _, by omega⟩⟩
  case round =>
    obtain ⟨va, vc, D, i, pos, rfl, rfl, hP⟩ := hrel
    have hle := hP.le
    have hle2 := hP.le2
    have hD := hP.part.len
    by_cases hp : pos < s.size
    · by_cases hm : s[pos] = b
      · have hn := fun ty => Lib.run_next_ascii_at (P := Try.prog) wr w.heap.size s pos ty hP.pi.it hp (by rw [hm]; exact hb)
        rw [hm] at hn
        obtain ⟨ao', c', w2, hrun, P2⟩ := (hP.pi.next (pos + 1)).push (by omega) (s.extract i pos) 74
        have hpart := hP.part.cut hP.nob hle hp hm
        have hen := enc_one hb
        go_wp2_with (at_builtin; refine wpList_append_run' _ rfl (.tmp 18) (.tmp 23) 74 74 rfl rfl _ _ _ rfl rfl w2 hrun ?_)
        go_roundw
        case rel => exact ⟨ao', c', _, pos + 1, pos + 1, by rw [List.length_append]; rfl, by go_num, ⟨P2, hpart, NoB.start _ _ _, Nat.le_refl _, hp⟩⟩
        case measure => rw [iterPos_of P2.it, iterPos_of hP.pi.it]; omega
      · have hx : (((Utf8.decode s pos).1 : Int) == (b.toNat : Int)) = false ∧ NoB b s i (pos + (Utf8.decode s pos).2) ∧ 1 ≤ (Utf8.decode s pos).2 ∧ pos + (Utf8.decode s pos).2 ≤ s.size := by
          by_cases ha : (s[pos]'hp).toNat < 128
          · rw [decode_ascii s pos hp ha]
            refine ⟨?_, hP.nob.one hp hm, Nat.le_refl _, hp⟩
            have : (s[pos]'hp).toNat ≠ b.toNat := fun e => hm (UInt8.toNat_inj.1 e)
            simp; omega
          · have h1 := decode_high s pos hp (by omega)
            have h2 := decode_wide s pos hp (by omega)
            refine ⟨by simp; omega, fun k hk h3 h4 => ?_, h1.2, h2.1⟩
            by_cases h5 : k < pos
            · exact hP.nob k hk h3 h5
            · have h6 := h2.2 k hk (by omega) h4
              intro e
              rw [e] at h6
              omega
        obtain ⟨hx1, hx2, hx3, hx4⟩ := hx
        have hn := fun ty => Lib.run_next_any_at (P := Try.prog) wr w.heap.size s pos ty hP.pi.it hp
        have P1 := hP.pi.next (pos + (Utf8.decode s pos).2)
        generalize Utf8.decode s pos = rr at *
        go_wp2
        go_roundw
        case rel => exact ⟨va, vc, D, i, _, rfl, rfl, ⟨P1, hP.part, hx2, by omega, hx4⟩⟩
        case measure => rw [iterPos_of P1.it, iterPos_of hP.pi.it]; omega
    · have e : pos = s.size := by omega
      subst e
      have hn := fun ty => Lib.run_next_end_at (P := Try.prog) wr w.heap.size s s.size ty hP.pi.it hp
      obtain ⟨ao', c', w2, hrun, P2⟩ := hP.pi.push (by omega) (s.extract i s.size) 74
      have hlast : D ++ [s.extract i s.size] = spB b s := hP.part.last hP.nob
      go_wp2_with (at_builtin; refine wpList_append_run' _ rfl (.tmp 30) (.tmp 34) 74 74 rfl rfl _ _ _ rfl rfl w2 hrun ?_)
      have e : D.length + 1 = (spB b s).length := by rw [← hlast, List.length_append]; rfl
      rw [hlast] at P2
      exact bodyPost_ret (v := .slice ao' (D.length + 1) c') (by simp [results, Try.results41, go_sem]) rfl ⟨ao', c', by rw [e], ownsRow_mono P2.row (by omega), P2.bel⟩
set_option maxHeartbeats 1000000 in
theorem l12Split_any (s : ByteArray) (b : UInt8) (w : World) (hs : s.size ≤ 1048576) :
    Calls Try.prog 55 #[.string s, .int .u8 (b.toNat : Int)] w fun e w' => PtO b s w e w' := by
  go_enter Try.func55, Try.ntmps55
  go_wp2
  go_loopw [5, 6, 7] (fun v q p wr => ∃ (va : Option Addr) (vc : Nat) (D : List ByteArray) (i pos : Nat), v = .slice va D.length vc ∧ q = .int .i64 (i : Int) ∧ p = .int .i64 (pos : Int) ∧ StL wr w.heap.size (.slice va D.length vc) D ∧ Below w.heap.size w wr ∧ i ≤ pos ∧ D.length ≤ s.size + 1 ∧ ((pos ≤ s.size ∧ Part b s D i ∧ NoB b s i pos) ∨ (pos = s.size + 1 ∧ D = spB b s))) (fun _ _ p _ => s.size + 1 - (intOf p).toNat)
  case atStart => exact ⟨none, 0, [], 0, 0, rfl, rfl, rfl, stL_nil _ _, Below.refl _ _, Nat.le_refl _, by simp, .inl ⟨by omega, Part.start b s, NoB.start b s 0⟩⟩
  case round =>
    obtain ⟨va, vc, D, i, pos, rfl, rfl, rfl, hR, hbk, hle, hDl, hcase⟩ := hrel
    have bn : Below wr.heap.size wr (wr.alloc (.cells #[.string (s.extract i pos)] 9)) := (Below.refl _ _).alloc (Nat.le_refl _) _
    have hsz := hbk.size
    rcases hcase with ⟨hp, hpart, hnob⟩ | ⟨rfl, rfl⟩
    · obtain ⟨ao', c', w2, hrun, h1, hg, hat⟩ := stL_push (w := wr.alloc (.cells #[.string (s.extract i pos)] 9)) (ownsRow_keep hR bn) wr.heap.size 1 (s.extract i pos) (by simp [go_sem]) (by omega) (by simp; omega) 74
      have hb2 : Below w.heap.size w w2 := (hbk.trans (bn.mono (by omega))).grown hg (by simp; omega) (fun k e => by have := (World.ownsRow.lt hR k e).1; omega)
      have hDp := hpart.len
      by_cases hlt : pos < s.size
      · have hpe : ((pos : Int) == (s.size : Int)) = false := by simp; omega
        by_cases hm : s[pos] = b
        · have hpc := hpart.cut hnob hle hlt hm
          have hmm : ((s[pos]'hlt).toNat == b.toNat) = true := by rw [hm]; simp
          go_wp2_with (at_builtin; refine wpList_append_run' _ rfl (.tmp 25) (.tmp 30) 74 74 rfl rfl _ _ _ rfl rfl w2 hrun ?_)
          go_roundw
          case rel => exact ⟨ao', c', _, pos + 1, pos + 1, by rw [List.length_append]; rfl, by go_num, by go_num, by rw [List.length_append]; exact h1, hb2, Nat.le_refl _, by rw [List.length_append]; simp only [List.length_cons, List.length_nil]; omega, .inl ⟨hlt, hpc, NoB.start _ _ _⟩⟩
          case measure => simp [intOf]; omega
        · have hmm : ((s[pos]'hlt).toNat == b.toNat) = false := by
            have : (s[pos]'hlt).toNat ≠ b.toNat := fun e => hm (UInt8.toNat_inj.1 e)
            simp; omega
          go_wp2
          go_roundw
          case rel => exact ⟨va, vc, D, i, pos + 1, rfl, rfl, by go_num, hR, hbk, by omega, hDl, .inl ⟨hlt, hpart, hnob.one hlt hm⟩⟩
          case measure => simp [intOf]; omega
      · have e : pos = s.size := by omega
        subst e
        have hlast : D ++ [s.extract i s.size] = spB b s := hpart.last hnob
        go_wp2_with (at_builtin; refine wpList_append_run' _ rfl (.tmp 25) (.tmp 30) 74 74 rfl rfl _ _ _ rfl rfl w2 hrun ?_)
        go_roundw
        case rel => exact ⟨ao', c', _, s.size + 1, s.size + 1, by rw [List.length_append]; rfl, by go_num, by go_num, by rw [List.length_append]; exact h1, hb2, Nat.le_refl _, by rw [List.length_append]; simp only [List.length_cons, List.length_nil]; omega, .inr ⟨rfl, hlast⟩⟩
        case measure => simp [intOf]
    · go_wp2
      exact bodyPost_ret (v := .slice va (spB b s).length vc) (by simp [results, Try.results55, go_sem]) rfl ⟨va, vc, rfl, hR, hbk⟩
end Go.Proofs.Ytpddodjecbcmlaa
