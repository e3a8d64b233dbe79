/- EntriesOf, in the program. / Entries copied with lists of their own, in the model. -/
import Derived.Test.YtiigpmhaicfocaaZa
import Derived.Test.YtiigpmhaicfocaaGoI
namespace Go.Proofs.Ytiigpmhaicfocaa
open Go.RowKit
set_option linter.unusedSimpArgs false
set_option linter.unusedVariables false

def dE : Ent := ⟨.empty, 0, 0, 0, 0, 0, 0, 0, fun _ => 0, false⟩
def eL (E : List Ent) (i : Nat) : Ent := E.getD i dE
theorem eL_push (E : List Ent) (x : Ent) : ∀ i, i < E.length + 1 → (if i = E.length then x else eL E i) = eL (E ++ [x]) i := by
  intro i hi
  unfold eL
  by_cases h : i = E.length
  · subst h; simp
  · rw [if_neg h]
    simp [List.getD, List.getElem?_append_left (show i < E.length from by omega)]
/-- Those of a key among the first k. -/
def fX (X : Nat → Ent) (key : ByteArray) : Nat → List Ent
  | 0 => []
  | k + 1 => if ((X k).key.toList == key.toList) = true then fX X key k ++ [X k] else fX X key k
theorem fX_len (X : Nat → Ent) (key : ByteArray) : ∀ k, (fX X key k).length ≤ k
  | 0 => by simp [fX]
  | k + 1 => by
    have := fX_len X key k
    unfold fX
    split
    · simp; omega
    · omega
/-- An answer of entries of the call's own. -/
def EoA (E : List Ent) (c : Bool) (w : World) (e : Ending) (w' : World) : Prop :=
  ∃ v V, e = .returned (.tuple #[v, .bool c]) ∧ OutE w' w.heap.size v E.length (eL E) V ∧ Below w.heap.size w w'
/-- What EntriesOf leaves. -/
def EoO (good : Prop) (E : List Ent) (w : World) (e : Ending) (w' : World) : Prop := (¬ good ∧ EoA [] false w e w') ∨ (good ∧ EoA E true w e w')

set_option maxRecDepth 100000 in
set_option maxHeartbeats 4000000 in
theorem entriesOf_impl (ao : Option Addr) (n cap : Nat) (X : Nat → Ent) (key : ByteArray) (w : World) (hr : ERow w ao n X) (hn : n ≤ 1048576) (hz : ESize n X) :
    Calls Try.prog 8 #[.slice ao n cap, .string key] w fun e w' => EoO (GoodL X n) (fX X key n) w e w' := by
  go_enter Try.func8, Try.ntmps8
  go_wp2_with fail
  refine (goodEntries_impl ao n cap X _ hr hn hz).mono ?_
  rintro e w1 ⟨b1, rfl, h1, bw1⟩
  cases b1
  · have H : Hid (¬ GoodL X n) := fun h => by
      have := h1.2 h
      cases this
    clear h1
    go_wp2
    refine bodyPost_ret (v := .tuple #[.slice none 0 0, .bool false]) (by simp [results, Try.results8, go_sem]) rfl (.inl ⟨H.out, _, _, rfl, outE_nil _ _ _, bw1⟩)
  · have HG : Hid (GoodL X n) := h1.1 rfl
    clear h1
    obtain ⟨hbd, hlies⟩ := hr
    go_wp2
    go_loopw [6, 14] (fun u i wr => ∃ (k : Nat) (V : Nat → Value), k ≤ n ∧ i = .int .i64 k ∧ OutE wr w.heap.size u (fX X key k).length (eL (fX X key k)) V ∧ Below w.heap.size w wr) (fun _ i _ => n - (intOf i).toNat)
    case atStart => exact ⟨0, _, Nat.zero_le _, rfl, outE_nil _ _ _, bw1⟩
    case round =>
      obtain ⟨k, V, hk, rfl, hO, hbk⟩ := hrel
      obtain ⟨lo, lc, rfl⟩ := ownsRow_form hO.own
      have hl := fX_len X key k
      by_cases hlt : k < n
      · obtain ⟨b, off, rfl, hblt, hc⟩ := hlies.resolve_left (by omega)
        obtain ⟨da, dc, ea, ir⟩ := hc k hlt
        obtain ⟨_, a0, a1, a2, a3, a4, a5, a6, a7, a8⟩ := ea.keep hbk
        have hsz := hbk.size
        have hzk := (hz k hlt).2
        have irk := ir.keep hbk
        clear hc hlies ea ir
        cases hq : (X k).key.toList == key.toList
        · have HF : Hid (fX X key (k + 1) = fX X key k) := by simp [Hid, fX, hq]
          have bwn := hbk.alloc hsz (.cells #[.string (X k).key, .int .i64 (X k).seq, .int .i64 (X k).kind, .int .i64 (X k).c, .int .i64 (X k).s, .int .i64 (X k).lo, .int .i64 (X k).hi, .slice da (X k).n dc, .bool (X k).fu] 28)
          have On := hO.keep (below_new wr (.cells #[.string (X k).key, .int .i64 (X k).seq, .int .i64 (X k).kind, .int .i64 (X k).c, .int .i64 (X k).s, .int .i64 (X k).lo, .int .i64 (X k).hi, .slice da (X k).n dc, .bool (X k).fu] 28))
          clear hO irk
          go_wp2
          go_roundw
          case rel => exact ⟨k + 1, V, by omega, by go_num, by rw [HF.out]; exact On, bwn⟩
          case measure => simp [intOf]; omega
        · have HF : Hid (fX X key (k + 1) = fX X key k ++ [X k]) := by simp [Hid, fX, hq]
          have hB2 : Below wr.heap.size wr ((wr.alloc (.cells #[.string (X k).key, .int .i64 (X k).seq, .int .i64 (X k).kind, .int .i64 (X k).c, .int .i64 (X k).s, .int .i64 (X k).lo, .int .i64 (X k).hi, .slice da (X k).n dc, .bool (X k).fu] 28)).alloc (.cells #[.string (X k).key, .int .i64 (X k).seq, .int .i64 (X k).kind, .int .i64 (X k).c, .int .i64 (X k).s, .int .i64 (X k).lo, .int .i64 (X k).hi, .slice da (X k).n dc, .bool (X k).fu] 28)) := (below_new wr _).alloc (by simp) _
          have N2 := EAt.new (wr.alloc (.cells #[.string (X k).key, .int .i64 (X k).seq, .int .i64 (X k).kind, .int .i64 (X k).c, .int .i64 (X k).s, .int .i64 (X k).lo, .int .i64 (X k).hi, .slice da (X k).n dc, .bool (X k).fu] 28)) (X k) da dc 28
          simp only [World.size_alloc] at N2
          have O2 := hO.keep hB2
          have hA := addOne_any lo lc w.heap.size (fX X key k).length (eL (fX X key k)) V (wr.heap.size + 1) 0 1 (X k) da dc _ O2 N2 (irk.keep hB2) hzk (by omega) (by simp; omega)
          have bw2 := hbk.trans (hB2.mono hsz)
          clear N2 O2 hO irk hB2
          go_wp2_with fail
          refine hA.mono ?_
          rintro e w3 ⟨v3, V3, rfl, O3, q3⟩
          have bw3 := bw2.trans q3
          have E3 : OutE w3 w.heap.size v3 (fX X key (k + 1)).length (eL (fX X key (k + 1))) V3 := by
            rw [HF.out, List.length_append, List.length_singleton]
            exact O3.congr (eL_push _ _)
          clear hA q3 O3 bw2
          go_wp2
          go_roundw
          case rel => exact ⟨k + 1, V3, by omega, by go_num, E3, bw3⟩
          case measure => simp [intOf]; omega
      · have e : k = n := by omega
        subst e
        clear hlies
        go_wp2
        exact bodyPost_ret (v := .tuple #[.slice lo (fX X key k).length lc, .bool true]) (by simp [results, Try.results8, go_sem]) rfl (.inr ⟨HG.out, _, _, rfl, hO, hbk⟩)
end Go.Proofs.Ytiigpmhaicfocaa
namespace Go.Proofs.Ytiigpmhaicfocaa
open Go.RowKit
set_option linter.unusedSimpArgs false
set_option linter.unusedVariables false

/-- A list copied by an append to an empty slice in a block of its own. -/
theorem hist_run0 (w : World) (B0 : Nat) (hB0 : w.heap[B0]? = some (.cells #[] 3 (0, 0))) (ao : Option Addr) (hc : Nat) (x : Ent) (hr : IRow w ao x.n x.f) (hn : x.n ≤ 1048576) (ty : TypeId) :
    ∃ hv w', (Builtin.append_ #[24, 24] ty #[.slice (some ⟨B0, 0, none⟩) 0 0, .slice ao x.n hc]).run Try.prog w = .ok hv w' ∧ HOwn w' B0 hv x ∧ Below B0 w w' ∧ w.grownBy w' (some B0) := by
  obtain ⟨i0, hi, hz0, hz1, hz2⟩ := info_parts Try.infoInt
  have hlt0 : B0 < w.heap.size := (Array.getElem?_eq_some_iff.1 hB0).1
  have hown0 : w.ownsRow B0 3 1 (.slice (some ⟨B0, 0, none⟩) 0 0) 0 [] := ⟨rfl, .inr ⟨B0, 0, #[], rfl, Nat.le_refl _, hB0, Nat.le_refl _, Nat.zero_le _, rfl, rfl⟩⟩
  by_cases h0 : x.n = 0
  · refine ⟨.slice (some ⟨B0, 0, none⟩) 0 0, w, ?_, ⟨hr.bd, ?_⟩, Below.refl _ _, World.grownBy.refl _ _⟩
    · rw [h0]
      cases ao <;> simp [Builtin.append_, run_underlying Try.underlying24, sizeOf, typeInfo, hi, Builtin.lenOf, Builtin.firstCells, loadCells, loadCellsFrom, storeCells]
    · rw [h0]; exact hown0
  · obtain ⟨b, off, rfl, hlt, hcl⟩ := hr.lies.resolve_left h0
    obtain ⟨v', w', hrun, hown, hg, _, _⟩ := run_append_own_at (P := Try.prog) w B0 24 ty 3 i0 (.int .i64 0) 1 8 Try.underlying24 hi hz0 hz1 hz2 rfl (by decide) (.slice (some ⟨B0, 0, none⟩) 0 0) 0 [] hown0 ⟨b, off, none⟩ x.n hc (icells x.f x.n) (by simp [icells])
      (fun j u hu => by
        have hj : j < x.n := by
          have := (List.getElem?_eq_some_iff.1 hu).1
          simpa [icells] using this
        have e : u = .int .i64 (x.f j) := by simpa [icells, hj] using hu.symm
        subst e
        rw [show (⟨b, off, none⟩ : Addr).add j = ⟨b, off + j, none⟩ from by unfold Addr.add; split <;> simp_all]
        exact hcl j hj)
      (fun u hu => by simp only [icells, List.mem_map] at hu; obtain ⟨i, _, rfl⟩ := hu; rfl) (by unfold maxLen; omega) (by omega) (Nat.le_of_lt hlt0)
    refine ⟨v', w', hrun, ⟨hr.bd, by simpa using hown⟩, (Below.refl _ _).grown hg (Nat.le_of_lt hlt0) (fun k hk => by simp [Value.ownBlock] at hk; omega), hg⟩

/-- What a copy of an agg leaves. -/
def OwnO (x : Ent) (w : World) (e : Ending) (w' : World) : Prop :=
  ∃ hv, e = .returned (.agg #[.int .i64 x.c, .int .i64 x.s, .int .i64 x.lo, .int .i64 x.hi, hv, .bool x.fu]) ∧ HOwn w' w.heap.size hv x ∧ Below w.heap.size w w'

theorem HOwn.others {w w' : World} {base c : Nat} {hv : Value} {x : Ent} (h : HOwn w base hv x) (ho : Others c w w') (hc : c < base) : HOwn w' base hv x :=
  h.kept (others_grown ho) (fun k hk e => by injection hk with hk; have := (h.own.lt k e).1; omega)

set_option maxRecDepth 100000 in
set_option maxHeartbeats 2000000 in
theorem l4Own_any (x : Ent) (ao : Option Addr) (hc : Nat) (w : World) (hr : IRow w ao x.n x.f) (hn : x.n ≤ 1048576) :
    Calls Try.prog 50 #[.agg #[.int .i64 x.c, .int .i64 x.s, .int .i64 x.lo, .int .i64 x.hi, .slice ao x.n hc, .bool x.fu]] w fun e w' => OwnO x w e w' := by
  have hB3 : Below w.heap.size w (((w.alloc (.cells #[.int .i64 x.c, .int .i64 x.s, .int .i64 x.lo, .int .i64 x.hi, .slice ao x.n hc, .bool x.fu] 26)).alloc (.cells #[.int .i64 0, .int .i64 0, .int .i64 0, .int .i64 0, .slice none 0 0, .bool false] 26)).alloc (.cells #[] 3)) := (((Below.refl _ _).alloc (Nat.le_refl _) _).alloc (by simp) _).alloc (by simp; omega) _
  obtain ⟨hv, w4, hrun, hH, hb4, hg4⟩ := hist_run0 (((w.alloc (.cells #[.int .i64 x.c, .int .i64 x.s, .int .i64 x.lo, .int .i64 x.hi, .slice ao x.n hc, .bool x.fu] 26)).alloc (.cells #[.int .i64 0, .int .i64 0, .int .i64 0, .int .i64 0, .slice none 0 0, .bool false] 26)).alloc (.cells #[] 3)) (w.heap.size + 1 + 1) (by have := heap_alloc_new ((w.alloc (.cells #[.int .i64 x.c, .int .i64 x.s, .int .i64 x.lo, .int .i64 x.hi, .slice ao x.n hc, .bool x.fu] 26)).alloc (.cells #[.int .i64 0, .int .i64 0, .int .i64 0, .int .i64 0, .slice none 0 0, .bool false] 26)) (.cells #[] 3); simpa using this) ao hc x (hr.keep hB3) hn 24
  obtain ⟨lo, lc, rfl, _⟩ := hH.row
  have b0 := hb4.cell (p := ⟨w.heap.size, 0, none⟩) (by simp; try omega)
  have b1 := hb4.cell (p := ⟨w.heap.size, 1, none⟩) (by simp; try omega)
  have b2 := hb4.cell (p := ⟨w.heap.size, 2, none⟩) (by simp; try omega)
  have b3 := hb4.cell (p := ⟨w.heap.size, 3, none⟩) (by simp; try omega)
  have b4 := hb4.cell (p := ⟨w.heap.size, 4, none⟩) (by simp; try omega)
  have b5 := hb4.cell (p := ⟨w.heap.size, 5, none⟩) (by simp; try omega)
  have bf : ∀ j, w4.frozen? ⟨w.heap.size, j, none⟩ = false := fun j => (hb4.frozen (p := ⟨w.heap.size, j, none⟩) (by simp; try omega)).trans (by simp [go_sem])
  have k0 := hb4.cell (p := ⟨w.heap.size + 1, 0, none⟩) (by simp; try omega)
  have k1 := hb4.cell (p := ⟨w.heap.size + 1, 1, none⟩) (by simp; try omega)
  have k2 := hb4.cell (p := ⟨w.heap.size + 1, 2, none⟩) (by simp; try omega)
  have k3 := hb4.cell (p := ⟨w.heap.size + 1, 3, none⟩) (by simp; try omega)
  have k4 := hb4.cell (p := ⟨w.heap.size + 1, 4, none⟩) (by simp; try omega)
  have k5 := hb4.cell (p := ⟨w.heap.size + 1, 5, none⟩) (by simp; try omega)
  have kf : ∀ j, w4.frozen? ⟨w.heap.size + 1, j, none⟩ = false := fun j => (hb4.frozen (p := ⟨w.heap.size + 1, j, none⟩) (by simp; try omega)).trans (by simp [go_sem])
  simp [go_sem] at b0 b1 b2 b3 b4 b5 k0 k1 k2 k3 k4 k5
  have bw4 : Below w.heap.size w w4 := hB3.trans (hb4.mono (by omega))
  have s4 := hb4.size
  simp at s4
  clear hB3 hb4 hg4
  go_enter Try.func50, Try.ntmps50
  go_wp2_with (at_builtin; refine wpList_append_eq _ rfl (.tmp 3) (.tmp 5) 24 24 rfl rfl (.slice (some ⟨w.heap.size + 1 + 1, 0, none⟩) 0 0) (.slice ao x.n hc) (.slice lo x.n lc) rfl rfl w4 hrun ?_)
  refine bodyPost_ret (v := .agg #[.int .i64 x.c, .int .i64 x.s, .int .i64 x.lo, .int .i64 x.hi, .slice lo x.n lc, .bool x.fu]) (by simp [results, Try.results50, go_sem, k0, k1, k2, k3, k4, k5]) rfl ⟨_, rfl, ?_, ?_⟩
  · refine HOwn.mono (base := w.heap.size + 1 + 1) ?_ (by omega)
    repeat' refine HOwn.others ?_ (Others.setCell _ _ _ _) (by omega)
    exact hH
  · repeat' refine Below.setCell ?_ (by first | (simp; done) | (simp; omega)) _
    exact bw4
end Go.Proofs.Ytiigpmhaicfocaa
