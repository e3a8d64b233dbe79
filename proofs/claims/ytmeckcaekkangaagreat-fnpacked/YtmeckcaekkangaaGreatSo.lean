/- Good entries, in the program. / EntriesOf, in the program. / Entries copied with lists of their own, in the model. -/
import Derived.Test.YtmeckcaekkangaaGreatAu
import Derived.Test.YtmeckcaekkangaaGreatSeqN
import Derived.Test.YtmeckcaekkangaaGreatEnS
import Derived.Test.YtmeckcaekkangaaGreatRep
namespace Go.Proofs.YtmeckcaekkangaaGreat
set_option maxRecDepth 100000
open Go.RowKit
set_option linter.unusedSimpArgs false
set_option linter.unusedVariables false

/-- Good entries, in the document's words. -/
def GoodL (X : Nat → Ent) (n : Nat) : Prop := (∀ i, i < n → GoodE (X i)) ∧ RiseE X n ∧ NoTwo X n
set_option maxHeartbeats 2000000 in
theorem goodEntries_impl (ao : Option Addr) (n cap : Nat) (X : Nat → Ent) (w : World) (hr : ERow w ao n X) (hn : n ≤ 1048576) (hz : ESize n X) :
    Calls Tryz.prog 9 #[.slice ao n cap] w fun e w' => Ans (GoodL X n) w e w' := by
  have hr0 := hr
  obtain ⟨hbd, hlies⟩ := hr
  go_enter Tryz.func9, Tryz.ntmps9
  go_wp2
  go_loopw [7] (fun i wr => ∃ k : Nat, k ≤ n ∧ i = .int .i64 k ∧ Hid (∀ i, i < k → GoodE (X i)) ∧ Below w.heap.size w wr) (fun i _ => n - (intOf i).toNat)
  case atStart => exact ⟨0, Nat.zero_le _, rfl, fun i h => by omega, Below.refl _ _⟩
  case round =>
    obtain ⟨k, hk, rfl, hG, hbk⟩ := hrel
    by_cases hlt : k < n
    · obtain ⟨b, off, rfl, hblt, hc⟩ := hlies.resolve_left (by omega)
      obtain ⟨da, dc, ea, ir⟩ := hc k hlt
      obtain ⟨_, a0, a1, a2, a3, a4, a5, a6, a7, a8⟩ := ea.keep hbk
      have irk := (ir.keep hbk).keep (below_new wr (.cells #[.string (X k).key, .int .i64 (X k).seq, .int .i64 (X k).kind, .int .i64 (X k).c, .int .i64 (X k).s, .int .i64 (X k).lo, .int .i64 (X k).hi, .slice da (X k).n dc, .bool (X k).fu] 48))
      have bwk := hbk.alloc hbk.size (.cells #[.string (X k).key, .int .i64 (X k).seq, .int .i64 (X k).kind, .int .i64 (X k).c, .int .i64 (X k).s, .int .i64 (X k).lo, .int .i64 (X k).hi, .slice da (X k).n dc, .bool (X k).fu] 48)
      have hcall := fun W h => goodEntry_impl (X k) da dc W h (hz k hlt).2 (hbd k hlt).s
      clear hc hlies ea ir
      go_wp2_with fail
      refine (hcall _ irk).mono ?_
      rintro e w1 ⟨b1, rfl, h1, q1⟩
      have bw1 : Below w.heap.size w w1 := bwk.trans (q1.mono bwk.size)
      clear q1 hcall bwk irk
      cases b1
      · have H : Hid (¬ GoodL X n) := fun h => by
          have := h1.2 (h.1 k hlt)
          cases this
        clear h1
        go_wp2
        go_ret
        exact Ans.mk false (by have := H.out; simp [this]) bw1
      · have H : Hid (∀ i, i < k + 1 → GoodE (X i)) := fun i hi => by
          rcases Nat.lt_succ_iff_lt_or_eq.1 hi with h | h
          · exact hG.out i h
          · subst h; exact h1.1 rfl
        clear h1
        go_wp2
        go_roundw
        case rel => exact ⟨k + 1, by omega, by go_num, H, bw1⟩
        case measure => simp [intOf]; omega
    · have e : k = n := by omega
      subst e
      clear hlies hlt
      go_wp2_with fail
      refine (waysOf_any ao k cap _ hn).mono ?_
      rintro e w1 ⟨g, rfl, hg, ho, hb1⟩
      have bw1 := hbk.trans (hb1.mono hbk.size)
      clear hb1 ho hg
      go_wp2_with fail
      refine (rising_any ao k cap X _ _ (hr0.keep bw1) hn).mono ?_
      rintro e w2 ⟨b2, rfl, h2, q2⟩
      have bw2 := bw1.trans (q2.mono bw1.size)
      clear q2 bw1
      cases b2
      · have H : Hid (¬ GoodL X k) := fun h => by
          have := h2.2 h.2.1
          cases this
        clear h2
        go_wp2
        refine bodyPost_ret (v := .bool false) (by simp [results, Tryz.results9, go_sem]) rfl (Ans.mk _ (by have := H.out; simp [this]) bw2)
      · have hri : Hid (RiseE X k) := h2.1 rfl
        clear h2
        go_wp2_with fail
        refine (noSeqTwice_any ao k cap X _ (hr0.keep bw2) hn).mono ?_
        rintro e w3 ⟨b3, rfl, h3, q3⟩
        have bw3 := bw2.trans (q3.mono bw2.size)
        have H : Hid (b3 = true ↔ GoodL X k) := ⟨fun h => ⟨hG.out, hri.out, h3.1 h⟩, fun h => h3.2 h.2.2⟩
        clear q3 bw2 h3
        go_wp2
        exact bodyPost_ret (v := .bool b3) (by simp [results, Tryz.results9, go_sem]) rfl (Ans.mk _ H.out bw3)
end Go.Proofs.YtmeckcaekkangaaGreat
namespace Go.Proofs.YtmeckcaekkangaaGreat
set_option maxRecDepth 100000
open Go.RowKit
set_option linter.unusedSimpArgs false
set_option linter.unusedVariables false

def dE : Ent := ⟨.empty, 0, 0, 0, 0, 0, 0, 0, fun _ => 0, false⟩
def eL (E : List Ent) (i : Nat) : Ent := E.getD i dE
theorem eL_push (E : List Ent) (x : Ent) : ∀ i, i < E.length + 1 → (if i = E.length then x else eL E i) = eL (E ++ [x]) i := by
  intro i hi
  unfold eL
  by_cases h : i = E.length
  · subst h; simp
  · rw [if_neg h]
    simp [List.getD, List.getElem?_append_left (show i < E.length from by omega)]
/-- Those of a key among the first k. -/
def fX (X : Nat → Ent) (key : ByteArray) : Nat → List Ent
  | 0 => []
  | k + 1 => if ((X k).key.toList == key.toList) = true then fX X key k ++ [X k] else fX X key k
theorem fX_len (X : Nat → Ent) (key : ByteArray) : ∀ k, (fX X key k).length ≤ k
  | 0 => by simp [fX]
  | k + 1 => by
    have := fX_len X key k
    unfold fX
    split
    · simp; omega
    · omega
/-- An answer of entries of the call's own. -/
def EoA (E : List Ent) (c : Bool) (w : World) (e : Ending) (w' : World) : Prop :=
  ∃ v V, e = .returned (.tuple #[v, .bool c]) ∧ OutE w' w.heap.size v E.length (eL E) V ∧ Below w.heap.size w w'
/-- What EntriesOf leaves. -/
def EoO (good : Prop) (E : List Ent) (w : World) (e : Ending) (w' : World) : Prop := (¬ good ∧ EoA [] false w e w') ∨ (good ∧ EoA E true w e w')

end Go.Proofs.YtmeckcaekkangaaGreat
namespace Go.Proofs.YtmeckcaekkangaaGreat
set_option maxRecDepth 100000
open Go.RowKit
set_option linter.unusedSimpArgs false
set_option linter.unusedVariables false

/-- A list copied by an append to an empty slice in a block of its own. -/
theorem hist_run0 (w : World) (B0 : Nat) (hB0 : w.heap[B0]? = some (.cells #[] 3 (0, 0))) (ao : Option Addr) (hc : Nat) (x : Ent) (hr : IRow w ao x.n x.f) (hn : x.n ≤ 1048576) (ty : TypeId) :
    ∃ hv w', (Builtin.append_ #[44, 44] ty #[.slice (some ⟨B0, 0, none⟩) 0 0, .slice ao x.n hc]).run Tryz.prog w = .ok hv w' ∧ HOwn w' B0 hv x ∧ Below B0 w w' ∧ w.grownBy w' (some B0) := by
  obtain ⟨i0, hi, hz0, hz1, hz2⟩ := info_parts Tryz.infoInt
  have hlt0 : B0 < w.heap.size := (Array.getElem?_eq_some_iff.1 hB0).1
  have hown0 : w.ownsRow B0 3 1 (.slice (some ⟨B0, 0, none⟩) 0 0) 0 [] := ⟨rfl, .inr ⟨B0, 0, #[], rfl, Nat.le_refl _, hB0, Nat.le_refl _, Nat.zero_le _, rfl, rfl⟩⟩
  by_cases h0 : x.n = 0
  · refine ⟨.slice (some ⟨B0, 0, none⟩) 0 0, w, ?_, ⟨hr.bd, ?_⟩, Below.refl _ _, World.grownBy.refl _ _⟩
    · rw [h0]
      cases ao <;> simp [Builtin.append_, run_underlying Tryz.underlying44, sizeOf, typeInfo, hi, Builtin.lenOf, Builtin.firstCells, loadCells, loadCellsFrom, storeCells]
    · rw [h0]; exact hown0
  · obtain ⟨b, off, rfl, hlt, hcl⟩ := hr.lies.resolve_left h0
    obtain ⟨v', w', hrun, hown, hg, _, _⟩ := run_append_own_at (P := Tryz.prog) w B0 44 ty 3 i0 (.int .i64 0) 1 8 Tryz.underlying44 hi hz0 hz1 hz2 rfl (by decide) (.slice (some ⟨B0, 0, none⟩) 0 0) 0 [] hown0 ⟨b, off, none⟩ x.n hc (icells x.f x.n) (by simp [icells])
      (fun j u hu => by
        have hj : j < x.n := by
          have := (List.getElem?_eq_some_iff.1 hu).1
          simpa [icells] using this
        have e : u = .int .i64 (x.f j) := by simpa [icells, hj] using hu.symm
        subst e
        rw [show (⟨b, off, none⟩ : Addr).add j = ⟨b, off + j, none⟩ from by unfold Addr.add; split <;> simp_all]
        exact hcl j hj)
      (fun u hu => by simp only [icells, List.mem_map] at hu; obtain ⟨i, _, rfl⟩ := hu; rfl) (by unfold maxLen; omega) (by omega) (Nat.le_of_lt hlt0)
    refine ⟨v', w', hrun, ⟨hr.bd, by simpa using hown⟩, (Below.refl _ _).grown hg (Nat.le_of_lt hlt0) (fun k hk => by simp [Value.ownBlock] at hk; omega), hg⟩

/-- What a copy of an agg leaves. -/
def OwnO (x : Ent) (w : World) (e : Ending) (w' : World) : Prop :=
  ∃ hv, e = .returned (.agg #[.int .i64 x.c, .int .i64 x.s, .int .i64 x.lo, .int .i64 x.hi, hv, .bool x.fu]) ∧ HOwn w' w.heap.size hv x ∧ Below w.heap.size w w'

theorem HOwn.others {w w' : World} {base c : Nat} {hv : Value} {x : Ent} (h : HOwn w base hv x) (ho : Others c w w') (hc : c < base) : HOwn w' base hv x :=
  h.kept (others_grown ho) (fun k hk e => by injection hk with hk; have := (h.own.lt k e).1; omega)

set_option maxRecDepth 100000 in
set_option maxHeartbeats 2000000 in
theorem l4Own_any (x : Ent) (ao : Option Addr) (hc : Nat) (w : World) (hr : IRow w ao x.n x.f) (hn : x.n ≤ 1048576) :
    Calls Tryz.prog 76 #[.agg #[.int .i64 x.c, .int .i64 x.s, .int .i64 x.lo, .int .i64 x.hi, .slice ao x.n hc, .bool x.fu]] w fun e w' => OwnO x w e w' := by
  have hB3 : Below w.heap.size w (((w.alloc (.cells #[.int .i64 x.c, .int .i64 x.s, .int .i64 x.lo, .int .i64 x.hi, .slice ao x.n hc, .bool x.fu] 46)).alloc (.cells #[.int .i64 0, .int .i64 0, .int .i64 0, .int .i64 0, .slice none 0 0, .bool false] 46)).alloc (.cells #[] 3)) := (((Below.refl _ _).alloc (Nat.le_refl _) _).alloc (by simp) _).alloc (by simp; omega) _
  obtain ⟨hv, w4, hrun, hH, hb4, hg4⟩ := hist_run0 (((w.alloc (.cells #[.int .i64 x.c, .int .i64 x.s, .int .i64 x.lo, .int .i64 x.hi, .slice ao x.n hc, .bool x.fu] 46)).alloc (.cells #[.int .i64 0, .int .i64 0, .int .i64 0, .int .i64 0, .slice none 0 0, .bool false] 46)).alloc (.cells #[] 3)) (w.heap.size + 1 + 1) (by have := heap_alloc_new ((w.alloc (.cells #[.int .i64 x.c, .int .i64 x.s, .int .i64 x.lo, .int .i64 x.hi, .slice ao x.n hc, .bool x.fu] 46)).alloc (.cells #[.int .i64 0, .int .i64 0, .int .i64 0, .int .i64 0, .slice none 0 0, .bool false] 46)) (.cells #[] 3); simpa using this) ao hc x (hr.keep hB3) hn 44
  obtain ⟨lo, lc, rfl, _⟩ := hH.row
  have b0 := hb4.cell (p := ⟨w.heap.size, 0, none⟩) (by simp; try omega)
  have b1 := hb4.cell (p := ⟨w.heap.size, 1, none⟩) (by simp; try omega)
  have b2 := hb4.cell (p := ⟨w.heap.size, 2, none⟩) (by simp; try omega)
  have b3 := hb4.cell (p := ⟨w.heap.size, 3, none⟩) (by simp; try omega)
  have b4 := hb4.cell (p := ⟨w.heap.size, 4, none⟩) (by simp; try omega)
  have b5 := hb4.cell (p := ⟨w.heap.size, 5, none⟩) (by simp; try omega)
  have bf : ∀ j, w4.frozen? ⟨w.heap.size, j, none⟩ = false := fun j => (hb4.frozen (p := ⟨w.heap.size, j, none⟩) (by simp; try omega)).trans (by simp [go_sem])
  have k0 := hb4.cell (p := ⟨w.heap.size + 1, 0, none⟩) (by simp; try omega)
  have k1 := hb4.cell (p := ⟨w.heap.size + 1, 1, none⟩) (by simp; try omega)
  have k2 := hb4.cell (p := ⟨w.heap.size + 1, 2, none⟩) (by simp; try omega)
  have k3 := hb4.cell (p := ⟨w.heap.size + 1, 3, none⟩) (by simp; try omega)
  have k4 := hb4.cell (p := ⟨w.heap.size + 1, 4, none⟩) (by simp; try omega)
  have k5 := hb4.cell (p := ⟨w.heap.size + 1, 5, none⟩) (by simp; try omega)
  have kf : ∀ j, w4.frozen? ⟨w.heap.size + 1, j, none⟩ = false := fun j => (hb4.frozen (p := ⟨w.heap.size + 1, j, none⟩) (by simp; try omega)).trans (by simp [go_sem])
  simp [go_sem] at b0 b1 b2 b3 b4 b5 k0 k1 k2 k3 k4 k5
  have bw4 : Below w.heap.size w w4 := hB3.trans (hb4.mono (by omega))
  have s4 := hb4.size
  simp at s4
  clear hB3 hb4 hg4
  go_enter Tryz.func76, Tryz.ntmps76
  go_wp2_with (at_builtin; refine wpList_append_eq _ rfl (.tmp 3) (.tmp 5) 44 44 rfl rfl (.slice (some ⟨w.heap.size + 1 + 1, 0, none⟩) 0 0) (.slice ao x.n hc) (.slice lo x.n lc) rfl rfl w4 hrun ?_)
  refine bodyPost_ret (v := .agg #[.int .i64 x.c, .int .i64 x.s, .int .i64 x.lo, .int .i64 x.hi, .slice lo x.n lc, .bool x.fu]) (by simp [results, Tryz.results76, go_sem, k0, k1, k2, k3, k4, k5]) rfl ⟨_, rfl, ?_, ?_⟩
  · refine HOwn.mono (base := w.heap.size + 1 + 1) ?_ (by omega)
    repeat' refine HOwn.others ?_ (Others.setCell _ _ _ _) (by omega)
    exact hH
  · repeat' refine Below.setCell ?_ (by first | (simp; done) | (simp; omega)) _
    exact bw4
end Go.Proofs.YtmeckcaekkangaaGreat
