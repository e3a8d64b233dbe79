/- EntriesOf, in the program. / Entries copied with lists of their own, in the model. / l5Own: entries copied, in the model. / EntriesOf, in the model. -/
import Derived.Test.YtohjjigkfdhklaaGreatAd
import Derived.Test.YtohjjigkfdhklaaGreatGoI
import Derived.Test.YtohjjigkfdhklaaGreatGoS
namespace Go.Proofs.YtohjjigkfdhklaaGreat
set_option maxRecDepth 100000
open Go.RowKit
set_option linter.unusedSimpArgs false
set_option linter.unusedVariables false

def dE : Ent := ⟨.empty, 0, 0, 0, 0, 0, 0, 0, fun _ => 0, false⟩
def eL (E : List Ent) (i : Nat) : Ent := E.getD i dE
theorem eL_push (E : List Ent) (x : Ent) : ∀ i, i < E.length + 1 → (if i = E.length then x else eL E i) = eL (E ++ [x]) i := by
  intro i hi
  unfold eL
  by_cases h : i = E.length
  · subst h; simp
  · rw [if_neg h]
    simp [List.getD, List.getElem?_append_left (show i < E.length from by omega)]
/-- Those of a key among the first k. -/
def fX (X : Nat → Ent) (key : ByteArray) : Nat → List Ent
  | 0 => []
  | k + 1 => if ((X k).key.toList == key.toList) = true then fX X key k ++ [X k] else fX X key k
theorem fX_len (X : Nat → Ent) (key : ByteArray) : ∀ k, (fX X key k).length ≤ k
  | 0 => by simp [fX]
  | k + 1 => by
    have := fX_len X key k
    unfold fX
    split
    · simp; omega
    · omega
/-- An answer of entries of the call's own. -/
def EoA (E : List Ent) (c : Bool) (w : World) (e : Ending) (w' : World) : Prop :=
  ∃ v V, e = .returned (.tuple #[v, .bool c]) ∧ OutE w' w.heap.size v E.length (eL E) V ∧ Below w.heap.size w w'
/-- What EntriesOf leaves. -/
def EoO (good : Prop) (E : List Ent) (w : World) (e : Ending) (w' : World) : Prop := (¬ good ∧ EoA [] false w e w') ∨ (good ∧ EoA E true w e w')

set_option maxRecDepth 100000 in
set_option maxHeartbeats 4000000 in
theorem entriesOf_impl (ao : Option Addr) (n cap : Nat) (X : Nat → Ent) (key : ByteArray) (w : World) (hr : ERow w ao n X) (hn : n ≤ 1048576) (hz : ESize n X) :
    Calls Tryz.prog 68 #[.slice ao n cap, .string key] w fun e w' => EoO (GoodL X n) (fX X key n) w e w' := by
  go_enter Tryz.func68, Tryz.ntmps68
  go_wp2_with fail
  refine (goodEntries_impl ao n cap X _ hr hn hz).mono ?_
  rintro e w1 ⟨b1, rfl, h1, bw1⟩
  cases b1
  · have H : Hid (¬ GoodL X n) := fun h => by
      have := h1.2 h
      cases this
    clear h1
    go_wp2
    refine bodyPost_ret (v := .tuple #[.slice none 0 0, .bool false]) (by simp [results, Tryz.results68, go_sem]) rfl (.inl ⟨H.out, _, _, rfl, outE_nil _ _ _, bw1⟩)
  · have HG : Hid (GoodL X n) := h1.1 rfl
    clear h1
    obtain ⟨hbd, hlies⟩ := hr
    go_wp2
    go_loopw [6, 14] (fun u i wr => ∃ (k : Nat) (V : Nat → Value), k ≤ n ∧ i = .int .i64 k ∧ OutE wr w.heap.size u (fX X key k).length (eL (fX X key k)) V ∧ Below w.heap.size w wr) (fun _ i _ => n - (intOf i).toNat)
    case atStart => exact ⟨0, _, Nat.zero_le _, rfl, outE_nil _ _ _, bw1⟩
    case round =>
      obtain ⟨k, V, hk, rfl, hO, hbk⟩ := hrel
      obtain ⟨lo, lc, rfl⟩ := ownsRow_form hO.own
      have hl := fX_len X key k
      by_cases hlt : k < n
      · obtain ⟨b, off, rfl, hblt, hc⟩ := hlies.resolve_left (by omega)
        obtain ⟨da, dc, ea, ir⟩ := hc k hlt
        obtain ⟨_, a0, a1, a2, a3, a4, a5, a6, a7, a8⟩ := ea.keep hbk
        have hsz := hbk.size
        have hzk := (hz k hlt).2
        have irk := ir.keep hbk
        clear hc hlies ea ir
        cases hq : (X k).key.toList == key.toList
        · have HF : Hid (fX X key (k + 1) = fX X key k) := by simp [Hid, fX, hq]
          have bwn := hbk.alloc hsz (.cells #[.string (X k).key, .int .i64 (X k).seq, .int .i64 (X k).kind, .int .i64 (X k).c, .int .i64 (X k).s, .int .i64 (X k).lo, .int .i64 (X k).hi, .slice da (X k).n dc, .bool (X k).fu] 35)
          have On := hO.keep (below_new wr (.cells #[.string (X k).key, .int .i64 (X k).seq, .int .i64 (X k).kind, .int .i64 (X k).c, .int .i64 (X k).s, .int .i64 (X k).lo, .int .i64 (X k).hi, .slice da (X k).n dc, .bool (X k).fu] 35))
          clear hO irk
          go_wp2
          go_roundw
          case rel => exact ⟨k + 1, V, by omega, by go_num, by rw [HF.out]; exact On, bwn⟩
          case measure => simp [intOf]; omega
        · have HF : Hid (fX X key (k + 1) = fX X key k ++ [X k]) := by simp [Hid, fX, hq]
          have hB2 : Below wr.heap.size wr ((wr.alloc (.cells #[.string (X k).key, .int .i64 (X k).seq, .int .i64 (X k).kind, .int .i64 (X k).c, .int .i64 (X k).s, .int .i64 (X k).lo, .int .i64 (X k).hi, .slice da (X k).n dc, .bool (X k).fu] 35)).alloc (.cells #[.string (X k).key, .int .i64 (X k).seq, .int .i64 (X k).kind, .int .i64 (X k).c, .int .i64 (X k).s, .int .i64 (X k).lo, .int .i64 (X k).hi, .slice da (X k).n dc, .bool (X k).fu] 35)) := (below_new wr _).alloc (by simp) _
          have N2 := EAt.new (wr.alloc (.cells #[.string (X k).key, .int .i64 (X k).seq, .int .i64 (X k).kind, .int .i64 (X k).c, .int .i64 (X k).s, .int .i64 (X k).lo, .int .i64 (X k).hi, .slice da (X k).n dc, .bool (X k).fu] 35)) (X k) da dc 35
          simp only [World.size_alloc] at N2
          have O2 := hO.keep hB2
          have hA := addOne_any lo lc w.heap.size (fX X key k).length (eL (fX X key k)) V (wr.heap.size + 1) 0 1 (X k) da dc _ O2 N2 (irk.keep hB2) hzk (by omega) (by simp; omega)
          have bw2 := hbk.trans (hB2.mono hsz)
          clear N2 O2 hO irk hB2
          go_wp2_with fail
          refine hA.mono ?_
          rintro e w3 ⟨v3, V3, rfl, O3, q3⟩
          have bw3 := bw2.trans q3
          have E3 : OutE w3 w.heap.size v3 (fX X key (k + 1)).length (eL (fX X key (k + 1))) V3 := by
            rw [HF.out, List.length_append, List.length_singleton]
            exact O3.congr (eL_push _ _)
          clear hA q3 O3 bw2
          go_wp2
          go_roundw
          case rel => exact ⟨k + 1, V3, by omega, by go_num, E3, bw3⟩
          case measure => simp [intOf]; omega
      · have e : k = n := by omega
        subst e
        clear hlies
        go_wp2
        exact bodyPost_ret (v := .tuple #[.slice lo (fX X key k).length lc, .bool true]) (by simp [results, Tryz.results68, go_sem]) rfl (.inr ⟨HG.out, _, _, rfl, hO, hbk⟩)
end Go.Proofs.YtohjjigkfdhklaaGreat
namespace Go.Proofs.YtohjjigkfdhklaaGreat
set_option maxRecDepth 100000
open Go.RowKit
set_option linter.unusedSimpArgs false
set_option linter.unusedVariables false

/-- A list copied by an append to an empty slice in a block of its own. -/
theorem hist_run0 (w : World) (B0 : Nat) (hB0 : w.heap[B0]? = some (.cells #[] 3 (0, 0))) (ao : Option Addr) (hc : Nat) (x : Ent) (hr : IRow w ao x.n x.f) (hn : x.n ≤ 1048576) (ty : TypeId) :
    ∃ hv w', (Builtin.append_ #[31, 31] ty #[.slice (some ⟨B0, 0, none⟩) 0 0, .slice ao x.n hc]).run Tryz.prog w = .ok hv w' ∧ HOwn w' B0 hv x ∧ Below B0 w w' ∧ w.grownBy w' (some B0) := by
  obtain ⟨i0, hi, hz0, hz1, hz2⟩ := info_parts Tryz.infoInt
  have hlt0 : B0 < w.heap.size := (Array.getElem?_eq_some_iff.1 hB0).1
  have hown0 : w.ownsRow B0 3 1 (.slice (some ⟨B0, 0, none⟩) 0 0) 0 [] := ⟨rfl, .inr ⟨B0, 0, #[], rfl, Nat.le_refl _, hB0, Nat.le_refl _, Nat.zero_le _, rfl, rfl⟩⟩
  by_cases h0 : x.n = 0
  · refine ⟨.slice (some ⟨B0, 0, none⟩) 0 0, w, ?_, ⟨hr.bd, ?_⟩, Below.refl _ _, World.grownBy.refl _ _⟩
    · rw [h0]
      cases ao <;> simp [Builtin.append_, run_underlying Tryz.underlying31, sizeOf, typeInfo, hi, Builtin.lenOf, Builtin.firstCells, loadCells, loadCellsFrom, storeCells]
    · rw [h0]; exact hown0
  · obtain ⟨b, off, rfl, hlt, hcl⟩ := hr.lies.resolve_left h0
    obtain ⟨v', w', hrun, hown, hg, _, _⟩ := run_append_own_at (P := Tryz.prog) w B0 31 ty 3 i0 (.int .i64 0) 1 8 Tryz.underlying31 hi hz0 hz1 hz2 rfl (by decide) (.slice (some ⟨B0, 0, none⟩) 0 0) 0 [] hown0 ⟨b, off, none⟩ x.n hc (icells x.f x.n) (by simp [icells])
      (fun j u hu => by
        have hj : j < x.n := by
          have := (List.getElem?_eq_some_iff.1 hu).1
          simpa [icells] using this
        have e : u = .int .i64 (x.f j) := by simpa [icells, hj] using hu.symm
        subst e
        rw [show (⟨b, off, none⟩ : Addr).add j = ⟨b, off + j, none⟩ from by unfold Addr.add; split <;> simp_all]
        exact hcl j hj)
      (fun u hu => by simp only [icells, List.mem_map] at hu; obtain ⟨i, _, rfl⟩ := hu; rfl) (by unfold maxLen; omega) (by omega) (Nat.le_of_lt hlt0)
    refine ⟨v', w', hrun, ⟨hr.bd, by simpa using hown⟩, (Below.refl _ _).grown hg (Nat.le_of_lt hlt0) (fun k hk => by simp [Value.ownBlock] at hk; omega), hg⟩

/-- What a copy of an agg leaves. -/
def OwnO (x : Ent) (w : World) (e : Ending) (w' : World) : Prop :=
  ∃ hv, e = .returned (.agg #[.int .i64 x.c, .int .i64 x.s, .int .i64 x.lo, .int .i64 x.hi, hv, .bool x.fu]) ∧ HOwn w' w.heap.size hv x ∧ Below w.heap.size w w'

theorem HOwn.others {w w' : World} {base c : Nat} {hv : Value} {x : Ent} (h : HOwn w base hv x) (ho : Others c w w') (hc : c < base) : HOwn w' base hv x :=
  h.kept (others_grown ho) (fun k hk e => by injection hk with hk; have := (h.own.lt k e).1; omega)

set_option maxRecDepth 100000 in
set_option maxHeartbeats 2000000 in
theorem l4Own_any (x : Ent) (ao : Option Addr) (hc : Nat) (w : World) (hr : IRow w ao x.n x.f) (hn : x.n ≤ 1048576) :
    Calls Tryz.prog 69 #[.agg #[.int .i64 x.c, .int .i64 x.s, .int .i64 x.lo, .int .i64 x.hi, .slice ao x.n hc, .bool x.fu]] w fun e w' => OwnO x w e w' := by
  have hB3 : Below w.heap.size w (((w.alloc (.cells #[.int .i64 x.c, .int .i64 x.s, .int .i64 x.lo, .int .i64 x.hi, .slice ao x.n hc, .bool x.fu] 33)).alloc (.cells #[.int .i64 0, .int .i64 0, .int .i64 0, .int .i64 0, .slice none 0 0, .bool false] 33)).alloc (.cells #[] 3)) := (((Below.refl _ _).alloc (Nat.le_refl _) _).alloc (by simp) _).alloc (by simp; omega) _
  obtain ⟨hv, w4, hrun, hH, hb4, hg4⟩ := hist_run0 (((w.alloc (.cells #[.int .i64 x.c, .int .i64 x.s, .int .i64 x.lo, .int .i64 x.hi, .slice ao x.n hc, .bool x.fu] 33)).alloc (.cells #[.int .i64 0, .int .i64 0, .int .i64 0, .int .i64 0, .slice none 0 0, .bool false] 33)).alloc (.cells #[] 3)) (w.heap.size + 1 + 1) (by have := heap_alloc_new ((w.alloc (.cells #[.int .i64 x.c, .int .i64 x.s, .int .i64 x.lo, .int .i64 x.hi, .slice ao x.n hc, .bool x.fu] 33)).alloc (.cells #[.int .i64 0, .int .i64 0, .int .i64 0, .int .i64 0, .slice none 0 0, .bool false] 33)) (.cells #[] 3); simpa using this) ao hc x (hr.keep hB3) hn 31
  obtain ⟨lo, lc, rfl, _⟩ := hH.row
  have b0 := hb4.cell (p := ⟨w.heap.size, 0, none⟩) (by simp; try omega)
  have b1 := hb4.cell (p := ⟨w.heap.size, 1, none⟩) (by simp; try omega)
  have b2 := hb4.cell (p := ⟨w.heap.size, 2, none⟩) (by simp; try omega)
  have b3 := hb4.cell (p := ⟨w.heap.size, 3, none⟩) (by simp; try omega)
  have b4 := hb4.cell (p := ⟨w.heap.size, 4, none⟩) (by simp; try omega)
  have b5 := hb4.cell (p := ⟨w.heap.size, 5, none⟩) (by simp; try omega)
  have bf : ∀ j, w4.frozen? ⟨w.heap.size, j, none⟩ = false := fun j => (hb4.frozen (p := ⟨w.heap.size, j, none⟩) (by simp; try omega)).trans (by simp [go_sem])
  have k0 := hb4.cell (p := ⟨w.heap.size + 1, 0, none⟩) (by simp; try omega)
  have k1 := hb4.cell (p := ⟨w.heap.size + 1, 1, none⟩) (by simp; try omega)
  have k2 := hb4.cell (p := ⟨w.heap.size + 1, 2, none⟩) (by simp; try omega)
  have k3 := hb4.cell (p := ⟨w.heap.size + 1, 3, none⟩) (by simp; try omega)
  have k4 := hb4.cell (p := ⟨w.heap.size + 1, 4, none⟩) (by simp; try omega)
  have k5 := hb4.cell (p := ⟨w.heap.size + 1, 5, none⟩) (by simp; try omega)
  have kf : ∀ j, w4.frozen? ⟨w.heap.size + 1, j, none⟩ = false := fun j => (hb4.frozen (p := ⟨w.heap.size + 1, j, none⟩) (by simp; try omega)).trans (by simp [go_sem])
  simp [go_sem] at b0 b1 b2 b3 b4 b5 k0 k1 k2 k3 k4 k5
  have bw4 : Below w.heap.size w w4 := hB3.trans (hb4.mono (by omega))
  have s4 := hb4.size
  simp at s4
  clear hB3 hb4 hg4
  go_enter Tryz.func69, Tryz.ntmps69
  go_wp2_with (at_builtin; refine wpList_append_eq _ rfl (.tmp 3) (.tmp 5) 31 31 rfl rfl (.slice (some ⟨w.heap.size + 1 + 1, 0, none⟩) 0 0) (.slice ao x.n hc) (.slice lo x.n lc) rfl rfl w4 hrun ?_)
  refine bodyPost_ret (v := .agg #[.int .i64 x.c, .int .i64 x.s, .int .i64 x.lo, .int .i64 x.hi, .slice lo x.n lc, .bool x.fu]) (by simp [results, Tryz.results69, go_sem, k0, k1, k2, k3, k4, k5]) rfl ⟨_, rfl, ?_, ?_⟩
  · refine HOwn.mono (base := w.heap.size + 1 + 1) ?_ (by omega)
    repeat' refine HOwn.others ?_ (Others.setCell _ _ _ _) (by omega)
    exact hH
  · repeat' refine Below.setCell ?_ (by first | (simp; done) | (simp; omega)) _
    exact bw4
end Go.Proofs.YtohjjigkfdhklaaGreat
namespace Go.Proofs.YtohjjigkfdhklaaGreat
set_option maxRecDepth 100000
open Go.RowKit
set_option linter.unusedSimpArgs false
set_option linter.unusedVariables false

set_option maxRecDepth 100000 in
set_option maxHeartbeats 4000000 in
theorem l5Own_any (ao : Option Addr) (n cap : Nat) (X : Nat → Ent) (w : World) (hr : ERow w ao n X) (hn : n ≤ 1048576) (hz : ESize n X) :
    Calls Tryz.prog 34 #[.slice ao n cap] w fun e w' => ∃ v V, e = .returned v ∧ OutE w' w.heap.size v n X V ∧ Below w.heap.size w w' := by
  obtain ⟨hbd, hlies⟩ := hr
  go_enter Tryz.func34, Tryz.ntmps34
  go_wp2
  go_loopw [3, 8] (fun u i wr => ∃ (k : Nat) (V : Nat → Value), k ≤ n ∧ i = .int .i64 k ∧ OutE wr w.heap.size u k X V ∧ Below w.heap.size w wr) (fun _ i _ => n - (intOf i).toNat)
  case atStart => exact ⟨0, _, Nat.zero_le _, rfl, outE_nil _ _ _, Below.refl _ _⟩
  case round =>
    obtain ⟨k, V, hk, rfl, hO, hbk⟩ := hrel
    obtain ⟨lo, lc, rfl⟩ := ownsRow_form hO.own
    by_cases hlt : k < n
    · obtain ⟨b, off, rfl, hblt, hc⟩ := hlies.resolve_left (by omega)
      obtain ⟨da, dc, ea, ir⟩ := hc k hlt
      obtain ⟨_, a0, a1, a2, a3, a4, a5, a6, a7, a8⟩ := ea.keep hbk
      have hsz := hbk.size
      have hB1 := below_new wr (.cells #[.string (X k).key, .int .i64 (X k).seq, .int .i64 (X k).kind, .int .i64 (X k).c, .int .i64 (X k).s, .int .i64 (X k).lo, .int .i64 (X k).hi, .slice da (X k).n dc, .bool (X k).fu] 35)
      have N1 := EAt.new wr (X k) da dc 35
      have hA := l4Own_any (X k) da dc _ ((ir.keep hbk).keep hB1) (hz k hlt).2
      have O1 := hO.keep hB1
      have bw1 := hbk.alloc hsz (.cells #[.string (X k).key, .int .i64 (X k).seq, .int .i64 (X k).kind, .int .i64 (X k).c, .int .i64 (X k).s, .int .i64 (X k).lo, .int .i64 (X k).hi, .slice da (X k).n dc, .bool (X k).fu] 35)
      have ltv := hO.own.lt
      have ltV := fun i hi => (hO.row i hi).own.lt
      clear hc hlies ea ir hO hB1
      go_wp2_with fail
      refine hA.mono ?_
      rintro e w2 ⟨hv, rfl, hH, hb2⟩
      obtain ⟨ho, hoc, rfl, _⟩ := hH.row
      have N2 := N1.keep hb2
      have F2 : ∀ j, w2.frozen? ⟨wr.heap.size, j, none⟩ = false := fun j => (hb2.frozen (p := ⟨wr.heap.size, j, none⟩) (by simp)).trans (by simp [go_sem])
      have O2 := O1.keep hb2
      have lth := hH.own.lt
      have s2 := hb2.size
      simp at s2
      have B2 := bw1.trans (hb2.mono (by simp; omega))
      have ot3 : Others wr.heap.size w2 ((((((w2.setCell ⟨wr.heap.size, 3, none⟩ (.int .i64 (X k).c)).setCell ⟨wr.heap.size, 4, none⟩ (.int .i64 (X k).s)).setCell ⟨wr.heap.size, 5, none⟩ (.int .i64 (X k).lo)).setCell ⟨wr.heap.size, 6, none⟩ (.int .i64 (X k).hi)).setCell ⟨wr.heap.size, 7, none⟩ (.slice ho (X k).n hoc)).setCell ⟨wr.heap.size, 8, none⟩ (.bool (X k).fu)) := (((((Others.setCell _ _ _ _).trans (Others.setCell _ _ _ _)).trans (Others.setCell _ _ _ _)).trans (Others.setCell _ _ _ _)).trans (Others.setCell _ _ _ _)).trans (Others.setCell _ _ _ _)
      have O3 := O2.kept (others_grown ot3) (fun e => by have := (ltv _ e).2; omega) (fun i hi e => by have := (ltV i hi _ e).2; omega)
      have H3 := (hH.kept (others_grown ot3) (fun k hk e => by injection hk with hk; have := (lth k e).1; simp at this; omega)).mono (show w.heap.size ≤ _ by simp; omega)
      have B3 := B2.trans (ot3.below hsz)
      have s3 := ot3.size
      have hdis : ∀ q, (Value.slice ho (X k).n hoc).ownBlock = some q → (Value.slice lo k lc).ownBlock ≠ some q ∧ ∀ i, i < k → (V i).ownBlock ≠ some q := fun q hq => by
        have h1 := (lth q hq).1
        simp at h1
        exact ⟨fun e => by have := (ltv q e).2; omega, fun i hi e => by have := (ltV i hi q e).2; omega⟩
      have b3 : w.heap.size ≤ ((((((w2.setCell ⟨wr.heap.size, 3, none⟩ (.int .i64 (X k).c)).setCell ⟨wr.heap.size, 4, none⟩ (.int .i64 (X k).s)).setCell ⟨wr.heap.size, 5, none⟩ (.int .i64 (X k).lo)).setCell ⟨wr.heap.size, 6, none⟩ (.int .i64 (X k).hi)).setCell ⟨wr.heap.size, 7, none⟩ (.slice ho (X k).n hoc)).setCell ⟨wr.heap.size, 8, none⟩ (.bool (X k).fu)).heap.size := by rw [s3]; omega
      have hgv : ∀ q, (Value.slice lo k lc).ownBlock = some q → w.heap.size ≤ q := fun q hq => (ltv q hq).1
      obtain ⟨n0, n1, n2, n3, n4, n5, n6, n7, n8, n9⟩ := N2.z
      clear hA hH hb2 O1 O2 B2 ltv ltV lth ot3 N1 N2 bw1
      go_wp2_with (at_builtin; refine wpList_pushE2 (w := ((((((w2.setCell ⟨wr.heap.size, 3, none⟩ (.int .i64 (X k).c)).setCell ⟨wr.heap.size, 4, none⟩ (.int .i64 (X k).s)).setCell ⟨wr.heap.size, 5, none⟩ (.int .i64 (X k).lo)).setCell ⟨wr.heap.size, 6, none⟩ (.int .i64 (X k).hi)).setCell ⟨wr.heap.size, 7, none⟩ (.slice ho (X k).n hoc)).setCell ⟨wr.heap.size, 8, none⟩ (.bool (X k).fu))) w2.heap.size s3 rfl (.tmp 16) (.tmp 18) rfl w.heap.size (.slice lo k lc) (.slice ho (X k).n hoc) k X V (X k) rfl O3 H3 hdis rfl (by omega) b3 rfl ?_; intro v8 w8 O8 g8)
      have B8 : Below w.heap.size w w8 := (B3.alloc b3 _).grown g8 (by simp; omega) (fun q hq => hgv q hq)
      have E8 := O8.congr (X' := X) (fun i hi => by by_cases h : i = k <;> simp [h])
      clear O8 g8
      go_roundw
      case rel => exact ⟨k + 1, _, by omega, by go_num, E8, B8⟩
      case measure => simp [intOf]; omega
    · have e : k = n := by omega
      subst e
      clear hlies
      go_wp2
      go_ret
      exact ⟨_, V, rfl, hO, hbk⟩

theorem fm9_len (n : Nat) (X : Nat → Ent) (V : Nat → Value) : ((List.range n).flatMap fun i => ecells (X i) (V i)).length = n * 9 := by
  induction n with
  | zero => rfl
  | succ n ih => rw [List.range_succ, List.flatMap_append, List.length_append, ih]; simp [ecells]; omega
theorem fm9_get (n : Nat) (X : Nat → Ent) (V : Nat → Value) {i j : Nat} (hi : i < n) (hj : j < 9) : ((List.range n).flatMap fun i => ecells (X i) (V i))[i * 9 + j]? = (ecells (X i) (V i))[j]? := by
  induction n with
  | zero => omega
  | succ n ih =>
    rw [List.range_succ, List.flatMap_append]
    by_cases h : i < n
    · rw [List.getElem?_append_left (by rw [fm9_len]; omega), ih h]
    · obtain rfl : i = n := by omega
      rw [List.getElem?_append_right (by rw [fm9_len]; omega), fm9_len, Nat.add_sub_cancel_left]
      simp
/-- Entries of a row of the call's own, as entries that are read. -/
theorem erow_of {w : World} {base : Nat} {v : Value} {n : Nat} {X : Nat → Ent} {V : Nat → Value} (h : w.ownsRow base 35 9 v n ((List.range n).flatMap fun i => ecells (X i) (V i)))
    (hrow : ∀ i, i < n → ∃ lo lc, V i = .slice lo (X i).n lc ∧ IRow w lo (X i).n (X i).f) (hbd : ∀ i, i < n → EB (X i)) : ∃ ao cap, v = .slice ao n cap ∧ ERow w ao n X := by
  rcases h.2 with ⟨rfl, h0⟩ | ⟨g, cap, cur, rfl, hbg, hg, hnc, _⟩
  · exact ⟨none, 0, by rw [h0], hbd, .inl h0⟩
  · have hlt := (Array.getElem?_eq_some_iff.1 hg).1
    refine ⟨some ⟨g, 0, none⟩, cap, rfl, hbd, .inr ⟨g, 0, rfl, hlt, fun i hi => ?_⟩⟩
    obtain ⟨lo, lc, hV, hr⟩ := hrow i hi
    have c : ∀ j, j < 9 → w.cell? ⟨g, i * 9 + j, none⟩ = (ecells (X i) (V i))[j]? := fun j hj => by rw [h.cellAt (i * 9 + j) (by omega), fm9_get n X V hi hj]
    rw [hV] at c
    refine ⟨lo, lc, ?_, hr⟩
    rw [Nat.zero_add]
    exact ⟨hlt, c 0 (by omega), c 1 (by omega), c 2 (by omega), c 3 (by omega), c 4 (by omega), c 5 (by omega), c 6 (by omega), c 7 (by omega), c 8 (by omega)⟩
theorem OutE.erow {w : World} {base : Nat} {v : Value} {n : Nat} {X : Nat → Ent} {V : Nat → Value} (h : OutE w base v n X V) (hbd : ∀ i, i < n → EB (X i)) : ∃ ao cap, v = .slice ao n cap ∧ ERow w ao n X := erow_of h.own (fun i hi => (h.row i hi).row) hbd
end Go.Proofs.YtohjjigkfdhklaaGreat
namespace Go.Proofs.YtohjjigkfdhklaaGreat
set_option maxRecDepth 100000
open Go.RowKit
set_option linter.unusedSimpArgs false
set_option linter.unusedVariables false

theorem fX_all {X : Nat → Ent} {key : ByteArray} {P : Ent → Prop} : ∀ {k : Nat}, (∀ i, i < k → P (X i)) → ∀ i, i < (fX X key k).length → P (eL (fX X key k) i)
  | 0, _, i, hi => by simp [fX] at hi
  | k + 1, h, i, hi => by
    have ih := fX_all (X := X) (key := key) (P := P) (k := k) (fun i hi => h i (by omega))
    unfold fX at hi ⊢
    split at hi
    · rename_i hq
      rw [if_pos hq]
      rw [List.length_append, List.length_singleton] at hi
      rw [← eL_push _ _ i hi]
      split
      · exact h k (by omega)
      · exact ih i (by omega)
    · rename_i hq
      rw [if_neg hq]
      exact ih i hi

set_option maxRecDepth 100000 in
set_option maxHeartbeats 4000000 in
theorem l5Of_any (ao : Option Addr) (n cap : Nat) (X : Nat → Ent) (key : ByteArray) (w : World) (hr : ERow w ao n X) (hn : n ≤ 1048576) :
    Calls Tryz.prog 35 #[.slice ao n cap, .string key] w fun e w' => ∃ lo lc, e = .returned (.slice lo (fX X key n).length lc) ∧ ERow w' lo (fX X key n).length (eL (fX X key n)) ∧ Below w.heap.size w w' := by
  obtain ⟨i0, hi, hz0, hz1, hz2⟩ := info_parts Tryz.infoEnt
  obtain ⟨hbd, hlies⟩ := hr
  go_enter Tryz.func35, Tryz.ntmps35
  go_wp2
  go_loopw [5, 10] (fun u i wr => ∃ (k : Nat) (V : Nat → Value), k ≤ n ∧ i = .int .i64 k ∧ wr.ownsRow w.heap.size 35 9 u (fX X key k).length ((List.range (fX X key k).length).flatMap fun i => ecells (eL (fX X key k) i) (V i)) ∧ Hid (∀ i, i < (fX X key k).length → ∃ lo lc, V i = .slice lo (eL (fX X key k) i).n lc ∧ IRow w lo (eL (fX X key k) i).n (eL (fX X key k) i).f) ∧ Below w.heap.size w wr) (fun _ i _ => n - (intOf i).toNat)
  case atStart => exact ⟨0, fun _ => .slice none 0 0, Nat.zero_le _, rfl, World.ownsRow_nil _ _ _ _, fun i hi => by simp [fX] at hi, Below.refl _ _⟩
  case round =>
    obtain ⟨k, V, hk, rfl, hO, hV, hbk⟩ := hrel
    have hl := fX_len X key k
    by_cases hlt : k < n
    · obtain ⟨lo, lc, rfl⟩ := ownsRow_form hO
      obtain ⟨b, off, rfl, hblt, hc⟩ := hlies.resolve_left (by omega)
      obtain ⟨da, dc, ea, ir⟩ := hc k hlt
      obtain ⟨_, a0, a1, a2, a3, a4, a5, a6, a7, a8⟩ := ea.keep hbk
      have hsz := hbk.size
      clear hc hlies ea
      cases hq : (X k).key.toList == key.toList
      · have HF : Hid (fX X key (k + 1) = fX X key k) := by simp [Hid, fX, hq]
        have bwn := hbk.alloc hsz (.cells #[.string (X k).key, .int .i64 (X k).seq, .int .i64 (X k).kind, .int .i64 (X k).c, .int .i64 (X k).s, .int .i64 (X k).lo, .int .i64 (X k).hi, .slice da (X k).n dc, .bool (X k).fu] 35)
        have On := ownsRow_keep hO (below_new wr (.cells #[.string (X k).key, .int .i64 (X k).seq, .int .i64 (X k).kind, .int .i64 (X k).c, .int .i64 (X k).s, .int .i64 (X k).lo, .int .i64 (X k).hi, .slice da (X k).n dc, .bool (X k).fu] 35))
        clear hO
        go_wp2
        go_roundw
        case rel => exact ⟨k + 1, V, by omega, by go_num, by rw [HF.out]; exact On, by rw [HF.out]; exact hV, bwn⟩
        case measure => simp [intOf]; omega
      · have HF : Hid (fX X key (k + 1) = fX X key k ++ [X k]) := by simp [Hid, fX, hq]
        have hB2 : Below wr.heap.size wr ((wr.alloc (.cells #[.string (X k).key, .int .i64 (X k).seq, .int .i64 (X k).kind, .int .i64 (X k).c, .int .i64 (X k).s, .int .i64 (X k).lo, .int .i64 (X k).hi, .slice da (X k).n dc, .bool (X k).fu] 35)).alloc (.cells #[.string (X k).key, .int .i64 (X k).seq, .int .i64 (X k).kind, .int .i64 (X k).c, .int .i64 (X k).s, .int .i64 (X k).lo, .int .i64 (X k).hi, .slice da (X k).n dc, .bool (X k).fu] 35)) := (below_new wr _).alloc (by simp) _
        have O2 := ownsRow_keep hO hB2
        have bw2 := hbk.trans (hB2.mono hsz)
        have hnew := nine_new (wr.alloc (.cells #[.string (X k).key, .int .i64 (X k).seq, .int .i64 (X k).kind, .int .i64 (X k).c, .int .i64 (X k).s, .int .i64 (X k).lo, .int .i64 (X k).hi, .slice da (X k).n dc, .bool (X k).fu] 35)) (X k) (.slice da (X k).n dc) 35
        simp only [World.size_alloc] at hnew
        have ltv := hO.lt
        clear hO hB2
        go_wp2_with (at_builtin; refine wpList_append_own (w := ((wr.alloc (.cells #[.string (X k).key, .int .i64 (X k).seq, .int .i64 (X k).kind, .int .i64 (X k).c, .int .i64 (X k).s, .int .i64 (X k).lo, .int .i64 (X k).hi, .slice da (X k).n dc, .bool (X k).fu] 35)).alloc (.cells #[.string (X k).key, .int .i64 (X k).seq, .int .i64 (X k).kind, .int .i64 (X k).c, .int .i64 (X k).s, .int .i64 (X k).lo, .int .i64 (X k).hi, .slice da (X k).n dc, .bool (X k).fu] 35))) rfl (.tmp 18) (.tmp 20) 23 rfl w.heap.size 35 i0 _ 9 96 Tryz.underlying23 hi hz0 hz1 hz2 rfl (by decide) (.slice lo (fX X key k).length lc) (fX X key k).length ((List.range (fX X key k).length).flatMap fun i => ecells (eL (fX X key k) i) (V i)) rfl O2 ⟨wr.heap.size + 1, 0, none⟩ 1 1 (ecells (X k) (.slice da (X k).n dc)) rfl rfl hnew (fun u hu => by simp only [ecells, List.mem_cons, List.not_mem_nil, or_false] at hu; rcases hu with rfl | rfl | rfl | rfl | rfl | rfl | rfl | rfl | rfl <;> rfl) (by unfold maxLen; omega) (by omega) (by simp; omega) ?_; intro v8 w8 O8 g8 _)
        have B8 : Below w.heap.size w w8 := bw2.grown g8 (by simp; omega) (fun q hq => (ltv q hq).1)
        have E8 : w8.ownsRow w.heap.size 35 9 v8 (fX X key (k + 1)).length ((List.range (fX X key (k + 1)).length).flatMap fun i => ecells (eL (fX X key (k + 1)) i) (if i = (fX X key k).length then .slice da (X k).n dc else V i)) := by
          rw [HF.out, List.length_append, List.length_singleton, List.range_succ, List.flatMap_append]
          have e1 : ((List.range (fX X key k).length).flatMap fun i => ecells (eL (fX X key k ++ [X k]) i) (if i = (fX X key k).length then .slice da (X k).n dc else V i)) = ((List.range (fX X key k).length).flatMap fun i => ecells (eL (fX X key k) i) (V i)) := by
            unfold List.flatMap
            congr 1
            refine List.map_congr_left fun i hi => ?_
            have := List.mem_range.1 hi
            rw [← eL_push _ _ i (by omega), if_neg (by omega), if_neg (by omega)]
          rw [e1]
          have e2 : (List.flatMap (fun i => ecells (eL (fX X key k ++ [X k]) i) (if i = (fX X key k).length then Value.slice da (X k).n dc else V i)) [(fX X key k).length]) = ecells (X k) (.slice da (X k).n dc) := by
            simp only [List.flatMap_cons, List.flatMap_nil, List.append_nil, if_true]
            rw [← eL_push _ _ _ (by omega), if_pos rfl]
          rw [e2]
          exact O8
        have V8 : Hid (∀ i, i < (fX X key (k + 1)).length → ∃ lo lc, (if i = (fX X key k).length then Value.slice da (X k).n dc else V i) = .slice lo (eL (fX X key (k + 1)) i).n lc ∧ IRow w lo (eL (fX X key (k + 1)) i).n (eL (fX X key (k + 1)) i).f) := fun i hi => by
          rw [HF.out] at hi ⊢
          rw [List.length_append, List.length_singleton] at hi
          rw [← eL_push _ _ i hi]
          split
          · exact ⟨da, dc, rfl, ir⟩
          · exact hV.out i (by omega)
        clear O8 g8 O2 hV ltv
        go_roundw
        case rel => exact ⟨k + 1, _, by omega, by go_num, E8, V8, B8⟩
        case measure => simp [intOf]; omega
    · have e : k = n := by omega
      subst e
      clear hlies
      obtain ⟨lo, lc, rfl, hE⟩ := erow_of hO (fun i hi => by obtain ⟨p, q, h1, h2⟩ := hV.out i hi; exact ⟨p, q, h1, h2.keep hbk⟩) (fX_all hbd)
      clear hO hV
      go_wp2
      go_ret
      exact ⟨lo, lc, rfl, hE, hbk⟩

set_option maxHeartbeats 2000000 in
theorem entriesOf_spec (ao : Option Addr) (n cap : Nat) (X : Nat → Ent) (key : ByteArray) (w : World) (hr : ERow w ao n X) (hn : n ≤ 1048576) (hz : ESize n X) :
    Calls Tryz.prog 12 #[.slice ao n cap, .string key] w fun e w' => EoO (GoodL X n) (fX X key n) w e w' := by
  have hl := fX_len X key n
  go_enter Tryz.func12, Tryz.ntmps12
  go_wp2_with fail
  refine (goodEntries_spec ao n cap X _ hr hn hz).mono ?_
  rintro e w1 ⟨b1, rfl, h1, bw1⟩
  cases b1
  · have H : Hid (¬ GoodL X n) := fun h => by
      have := h1.2 h
      cases this
    clear h1
    go_wp2
    refine bodyPost_ret (v := .tuple #[.slice none 0 0, .bool false]) (by simp [results, Tryz.results12, go_sem]) rfl (.inl ⟨H.out, _, _, rfl, outE_nil _ _ _, bw1⟩)
  · have HG : Hid (GoodL X n) := h1.1 rfl
    clear h1
    go_wp2_with fail
    refine (l5Of_any ao n cap X key _ (hr.keep bw1) hn).mono ?_
    rintro e w2 ⟨lo, lc, rfl, hE, hb2⟩
    have bw2 := bw1.trans (hb2.mono bw1.size)
    clear hb2
    go_wp2_with fail
    refine (l5Own_any lo _ lc _ _ hE (by omega) (fX_all (P := fun x => x.key.size ≤ 1048576 ∧ x.n ≤ 1048576) hz)).mono ?_
    rintro e w3 ⟨v, V, rfl, hO, hb3⟩
    have bw3 := bw2.trans (hb3.mono bw2.size)
    have O3 : OutE w3 w.heap.size v (fX X key n).length (eL (fX X key n)) V := ⟨ownsRow_mono hO.own bw2.size, fun i hi => (hO.row i hi).mono bw2.size, hO.dis, hO.apart⟩
    obtain ⟨go, gc, rfl⟩ := ownsRow_form O3.own
    clear hO hb3
    go_wp2
    exact bodyPost_ret (v := .tuple #[.slice go (fX X key n).length gc, .bool true]) (by simp [results, Tryz.results12, go_sem]) rfl (.inr ⟨HG.out, _, _, rfl, O3, bw3⟩)
end Go.Proofs.YtohjjigkfdhklaaGreat
