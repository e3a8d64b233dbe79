/- sync: what it leaves; both texts of SyncFile. / Rows of files put together; an entry struck from the map. -/
import Derived.Test.YtiojjihonmonkaaDoorReadLaw
import Derived.Maps.AppendAt
namespace Go.Proofs.YtiojjihonmonkaaDoor
open Go.RowKit
open Go.ChangeMaps (setBlock)
set_option linter.unusedSimpArgs false
set_option linter.unusedVariables false

/-- A method that refuses leaves all files. -/
theorem mout_same {c : Int} {n bm : Nat} {F : Nat → Fil} {S : Nat → Value} {G : Nat → Nat} {w w' : World} {e : Ending} {E : Value} (he : e = .returned E) (hE : ErrC E c) (hEf : E = .nilIface ∨ ∃ t v, E = .iface t v) (hb : Below w.heap.size w w') (hK : ∀ i, i < n → fileOk F i = true) (hbd : ∀ i, i < n → ∀ j, 0 ≤ (F i).f j ∧ (F i).f j ≤ 255) (hn : n ≤ 1048576) (hM : w.heap[bm]? = some (.map (ents F S n) n)) (hD : DOwn w (bm + 2) n F S G) : MOut c n F n F G bm w e w' := by
  have hlt : bm < w.heap.size := (Array.getElem?_eq_some_iff.1 hM).1
  exact ⟨E, lOf F S n, n, (lOf F S n).map (·.1), G, he, hE, hEf, mhas_of hK (hD.keep hb).len ((hb.block bm hlt).trans hM), by rw [lOf_len]; exact hn, List.Perm.refl _, rising_of hK, zown_of (hD.keep hb) hbd, hb.mono (Nat.le_of_lt hlt), fun k hk _ _ => hb.block k hk⟩

end Go.Proofs.YtiojjihonmonkaaDoor
namespace Go.Proofs.YtiojjihonmonkaaDoor
open Go.RowKit
open Go.ChangeMaps (setBlock)
set_option linter.unusedSimpArgs false
set_option linter.unusedVariables false

/-- A row of files put behind a row of the call's own. -/
theorem app_run (w : World) (base : Nat) (p : Option Addr) (c : Nat) (xs ys : List FT) (N M : Nat) (hN : xs.length = N) (hMl : ys.length = M) (ad : Addr) (sc : Nat) (hown : w.ownsRow base 35 3 (.slice p N c) N (xs.flatMap fenc))
    (hsrc : ∀ j u, (ys.flatMap fenc)[j]? = some u → w.cell? (ad.add j) = some u) (hl : N + M ≤ 1048577) (hb : base ≤ w.heap.size) :
    ∃ p' c' w', (∀ ty, (Builtin.append_ #[23, 23] ty #[.slice p N c, .slice (some ad) M sc]).run Tryd.prog w = .ok (.slice p' (N + M) c') w') ∧
      w'.ownsRow base 35 3 (.slice p' (N + M) c') (N + M) ((xs ++ ys).flatMap fenc) ∧ w.grownBy w' (Value.slice p N c).ownBlock ∧ ∀ b, some b = (Value.slice p' (N + M) c').ownBlock → some b = (Value.slice p N c).ownBlock ∨ b = w.heap.size := by
  obtain ⟨i0, hi, hz0, hz1, hz2⟩ := info_parts Tryd.infoFile
  obtain ⟨v', w', hrun, hown', hgrow, _, hat⟩ := run_append_own_at (P := Tryd.prog) w base 23 0 35 i0 (.agg #[.string ByteArray.empty, .slice none 0 0, .int .i64 0]) 3 48 Tryd.underlying23 hi hz0 hz1 hz2 rfl (by decide) (.slice p N c) N (xs.flatMap fenc) hown ad M sc (ys.flatMap fenc) (by rw [fenc_len, hMl]) hsrc
    (fun u hu => by obtain ⟨x, _, hx⟩ := List.mem_flatMap.1 hu; exact fenc_one x u hx) (by unfold maxLen; omega) (by omega) hb
  obtain ⟨p', c', rfl⟩ := row_slice hown'
  refine ⟨p', c', w', fun ty => hrun, by rw [List.flatMap_append]; exact hown', hgrow, fun b hb => ?_⟩
  rcases hat with h | h
  · exact .inl (by rw [hb, h])
  · rw [h] at hb
    exact .inr (Option.some.inj hb)

theorem erase_map {α β : Type} (f : α → β) : ∀ (l : List α) (j : Nat), (l.map f).eraseIdx j = (l.eraseIdx j).map f
  | [], _ => rfl
  | _ :: _, 0 => rfl
  | a :: l, j + 1 => by simp [erase_map f l j]
theorem run_delete {P : Program} {mty kt et : TypeId} {w : World} {L : List (FT × Nat)} {bm clock j : Nat} {p : FT × Nat} (hm : P.underlying mty = some (.map kt et)) (hd : P.underlying kt = some .string) (hM : MHas w bm L clock) (hj : L[j]? = some p) (t2 ty : TypeId) :
    (Builtin.delete_ #[mty, t2] ty #[.map (some bm), .string p.1.1]).run P w = .ok (.tuple #[]) (setBlock w bm (.map (esOf (L.eraseIdx j)) clock)) := by
  have hk : MapKept.IsKey .string (.string p.1.1) := by simp [MapKept.IsKey]
  obtain ⟨v, h1⟩ := find_at (P := P) hM hj rfl
  have hes : (esOf L).eraseIdxIfInBounds j = esOf (L.eraseIdx j) := by
    apply Array.ext'
    simp [esOf, erase_map]
  simp [Builtin.delete_, run_underlying hm, MapKept.run_getObj_map hM.map, MapKept.run_checkKey hd hk, MapKept.run_findKey hd h1, MapKept.run_setObj_map _ hM.map, Result.andThen, setBlock, hes]
theorem MHas.del {w wX : World} {L : List (FT × Nat)} {bm clock j : Nat} (hM : MHas w bm L clock) (hlt : bm < wX.heap.size) : MHas (setBlock wX bm (.map (esOf (L.eraseIdx j)) clock)) bm (L.eraseIdx j) clock := by
  refine ⟨heap_setBlock _ _ _ hlt, ?_, fun q hq => hM.old q ((List.eraseIdx_sublist L j).subset hq), ?_⟩
  · exact ((List.eraseIdx_sublist L j).map _).nodup hM.born
  · exact ((List.eraseIdx_sublist L j).map _).nodup hM.names
theorem wpList_delete_run {P : Program} (w : World) {ops : Array Oper} {rest : List Oper} {o : Oper} {a : Act} {Q : Exit → Act → World → Prop}
    (hg : o.guard = none) (s x : Operand) (t t2 : TypeId) (hop : o.op = .call { callee := .builtin .delete, args := #[s, x], argTypes := #[t, t2] }) (u v r : Value) (hs : a.eval s = u) (hx : a.eval x = v) (w' : World)
    (hrun : ∀ ty, (Builtin.delete_ #[t, t2] ty #[u, v]).run P w = .ok r w') (hK : wpList P ops Q rest (a.put o.dst r) w') : wpList P ops Q (o :: rest) a w := by
  refine wpList_plain hg fun K' hK' => ?_
  unfold Oper.wp execOp
  simp only [hop, resolve, invoke, builtin, Sem.run_bind, Sem.run_pure, Result.andThen_ok, List.map_toArray, List.map_cons, List.map_nil, hs, hx, hrun]
  exact hK' _ _ hK
end Go.Proofs.YtiojjihonmonkaaDoor
