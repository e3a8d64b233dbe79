/- Words read as tags, in the program. -/
import Derived.Test.YtpddodjecbcmlaaDoorNr
import Derived.Test.YtpddodjecbcmlaaDoorOh
namespace Go.Proofs.YtpddodjecbcmlaaDoor
open Go.RowKit
set_option linter.unusedSimpArgs false
set_option linter.unusedVariables false

/-- A word's two sides. -/
def side (x : ByteArray) : ByteArray × ByteArray := ((spB 61 x).getD 0 ⟨#[]⟩, (spB 61 x).getD 1 ⟨#[]⟩)
def Two (x : ByteArray) : Prop := (spB 61 x).length = 2
/-- The tags that some words are. -/
def tagsW (W : List ByteArray) : List (ByteArray × ByteArray) := W.map side
theorem tagsW_len (W : List ByteArray) : (tagsW W).length = W.length := by simp [tagsW]
/-- What tagsOf leaves. -/
def TwO (W : List ByteArray) (w : World) (e : Ending) (w' : World) : Prop :=
  Below w.heap.size w w' ∧ ((¬ (∀ x ∈ W, Two x) ∧ e = .returned (.tuple #[.slice none 0 0, .bool false])) ∨
    ((∀ x ∈ W, Two x) ∧ ∃ va vc, e = .returned (.tuple #[.slice va W.length vc, .bool true]) ∧ TgL w' w.heap.size (.slice va W.length vc) (tagsW W)))
theorem step_append_tx {P : Program} {w : World} {ops : Array Oper} {o : Oper} {a : Act} {K : Act → World → Prop} {Q : Exit → Act → World → Prop} {E : Prop} (hgd : o.guard = none) (s x : Operand) (t ty : TypeId)
    (ho : o.op = .call { callee := .builtin .append, args := #[s, x], argTypes := #[t, t] }) (hty : o.type = ty) (u v r : Value) (hs : a.eval s = u) (hx : a.eval x = v) (w' : World) (hrun : (Builtin.append_ #[t, t] ty #[u, v]).run P w = .ok r w') (h : K (a.put o.dst r) w') :
    if Region.wanted o (yielded ops a.tmps) = true then Oper.wp P o a w K Q else E := by
  have hw : Region.wanted o (yielded ops a.tmps) = true := by simp [Region.wanted, hgd]
  rw [if_pos hw]
  subst hty
  unfold Oper.wp execOp
  simp only [ho, resolve, invoke, builtin, Sem.run_bind, Sem.run_pure, Result.andThen_ok, List.map_toArray, List.map_cons, List.map_nil, hs, hx, hrun]
  exact h

set_option maxHeartbeats 2000000 in
set_option maxRecDepth 100000 in
theorem tagsOf_any (wo : Option Addr) (cap : Nat) (W : List ByteArray) (w : World) (hW : W.length = 0 ∨ ∃ g off, wo = some ⟨g, off, none⟩ ∧ g < w.heap.size ∧ ∀ i (hi : i < W.length), w.cell? ⟨g, off + i, none⟩ = some (.string W[i])) (hn : W.length ≤ 1048577) (hz : ∀ x ∈ W, x.size ≤ 1048576) :
    Calls Tryd.prog 25 #[.slice wo W.length cap] w fun e w' => TwO W w e w' := by
  go_enter Tryd.func25, Tryd.ntmps25
  go_wp2
  go_loopw [4, 10] (fun v i wr => ∃ (k : Nat) (va : Option Addr) (vc : Nat), k ≤ W.length ∧ i = .int .i64 (k : Int) ∧ v = .slice va k vc ∧ TgL wr w.heap.size (.slice va k vc) (tagsW (W.take k)) ∧ Hid (∀ x ∈ W.take k, Two x) ∧ Below w.heap.size w wr) (fun _ i _ => W.length - (intOf i).toNat)
  case atStart => exact ⟨0, none, 0, by omega, rfl, rfl, tgL_nil _ _, fun x hx => by simp at hx, Below.refl _ _⟩
  case round =>
    obtain ⟨k, va, vc, hk, rfl, rfl, hT, HK, hbk⟩ := hrel
    have hsz := hbk.size
    by_cases hlt : k < W.length
    · obtain ⟨g, off, rfl, hg, hW⟩ := hW.resolve_left (by omega)
      have hc : wr.cell? ⟨g, off + k, none⟩ = some (.string W[k]) := (hbk.cell (p := ⟨g, off + k, none⟩) hg).trans (hW k hlt)
      have hx := hz W[k] (List.getElem_mem hlt)
      have hmem := List.getElem_mem hlt
      have et : W.take (k + 1) = W.take k ++ [W[k]] := by rw [List.take_succ_eq_append_getElem hlt]
      generalize W[k] = x at *
      clear hW
      go_wp2_with fail
      refine (partsOf_any x 61 (by decide) _ hx).mono ?_
      rintro e w1 ⟨ao, c, rfl, hS, q1⟩
      have hb1 : Below w.heap.size w w1 := hbk.trans (q1.mono hsz)
      have T1 := ownsRow_keep hT q1
      by_cases h2 : (spB 61 x).length = 2
      · have d2 : (((spB 61 x).length : Int) == 2) = true := by rw [h2]; rfl
        have d2' : (((spB 61 x).length : Int) != 2) = false := by rw [h2]; rfl
        obtain ⟨g2, cap2, e2, hg2, hlt2, hcap2, hcell⟩ := hS.at (by omega)
        injection e2 with e2 _ e3
        subst e2 e3
        rw [h2]
        have s0 : w1.cell? ⟨g2, 0, none⟩ = some (.string (side x).1) := by rw [hcell 0 (by omega)]; simp [side, List.getD_eq_getElem?_getD, h2]
        have s1 : w1.cell? ⟨g2, 1, none⟩ = some (.string (side x).2) := by rw [hcell 1 (by omega)]; simp [side, List.getD_eq_getElem?_getD, h2]
        have HX : Hid (∀ y ∈ W.take (k + 1), Two y) := fun y hy => by
          rw [et] at hy
          rcases List.mem_append.1 hy with h | h
          · exact HK.out y h
          · rw [List.mem_singleton.1 h]; exact h2
        have el : (tagsW (W.take k)).length = k := by rw [tagsW_len, List.length_take]; omega
        have e2 : tagsW (W.take (k + 1)) = tagsW (W.take k) ++ [((side x).1, (side x).2)] := by rw [et]; simp [tagsW]
        clear hcell hS
        generalize side x = ab at *
        go_wp2
        refine wp_region_w (fun w' : World => w'.cell? ⟨g2, 0, none⟩ = some (.string ab.1) ∧ w'.cell? ⟨g2, 1, none⟩ = some (.string ab.2)) (fun _ => true) (by kernel_rfl) ?_
        change wpW _ _ _ _ _ _ 11 _ _ w1.drew
        have hS0 := (⟨s0, s1⟩ : (fun w' : World => w'.cell? ⟨g2, 0, none⟩ = some (.string ab.1) ∧ w'.cell? ⟨g2, 1, none⟩ = some (.string ab.2)) w1.drew)
        refine wpW_take 0 _ (.slice va k vc) rfl (by kernel_rfl) (by kernel_rfl) (by kernel_rfl) (fun _ _ _ h => h) (by kernel_rfl) (.inl ⟨rfl, fun w' hS' => by obtain ⟨s0, s1⟩ := hS'; go_simp⟩) hS0 ?_
        refine wpW_take 1 _ (.slice (some ⟨g2, 0, none⟩) 2 c) rfl (by kernel_rfl) (by kernel_rfl) (by kernel_rfl) (fun _ _ _ h => h) (by kernel_rfl) (.inl ⟨rfl, fun w' hS' => by obtain ⟨s0, s1⟩ := hS'; go_simp⟩) hS0 ?_
        refine wpW_take 2 _ (.pointer (some ⟨g2, 0, none⟩)) rfl (by kernel_rfl) (by kernel_rfl) (by kernel_rfl) (fun _ _ _ h => h) (by kernel_rfl) (.inl ⟨rfl, fun w' hS' => by obtain ⟨s0, s1⟩ := hS'; go_simp⟩) hS0 ?_
        refine wpW_take 3 _ (.string ab.1) rfl (by kernel_rfl) (by kernel_rfl) (by kernel_rfl) (fun _ _ _ h => h) (by kernel_rfl) (.inl ⟨rfl, fun w' hS' => by obtain ⟨s0, s1⟩ := hS'; go_simp⟩) hS0 ?_
        simp only [Act.put, List.getElem_toArray, List.getElem_cons_succ, List.getElem_cons_zero, List.setIfInBounds_toArray, List.set_cons_zero, List.set_cons_succ]
        refine wpW_take 4 _ (.slice (some ⟨g2, 0, none⟩) 2 c) rfl (by kernel_rfl) (by kernel_rfl) (by kernel_rfl) (fun _ _ _ h => h) (by kernel_rfl) (.inl ⟨rfl, fun w' hS' => by obtain ⟨s0, s1⟩ := hS'; go_simp⟩) hS0 ?_
        refine wpW_take 5 _ (.pointer (some ⟨g2, 1, none⟩)) rfl (by kernel_rfl) (by kernel_rfl) (by kernel_rfl) (fun _ _ _ h => h) (by kernel_rfl) (.inl ⟨rfl, fun w' hS' => by obtain ⟨s0, s1⟩ := hS'; go_simp⟩) hS0 ?_
        refine wpW_take 6 _ (.string ab.2) rfl (by kernel_rfl) (by kernel_rfl) (by kernel_rfl) (fun _ _ _ h => h) (by kernel_rfl) (.inl ⟨rfl, fun w' hS' => by obtain ⟨s0, s1⟩ := hS'; go_simp⟩) hS0 ?_
        refine wpW_take 7 _ (.agg #[.string ab.1, .string ab.2]) rfl (by kernel_rfl) (by kernel_rfl) (by kernel_rfl) (fun _ _ _ h => h) (by kernel_rfl) (.inl ⟨rfl, fun w' hS' => by obtain ⟨s0, s1⟩ := hS'; go_simp⟩) hS0 ?_
        simp only [Act.put, List.getElem_toArray, List.getElem_cons_succ, List.getElem_cons_zero, List.setIfInBounds_toArray, List.set_cons_zero, List.set_cons_succ]
        have bn : Below w1.heap.size w1 (w1.drew.alloc (.cells #[.string ab.1, .string ab.2] 50)) := (Below.refl _ w1).drew.alloc (Nat.le_refl _) _
        have hT2 : TgL (w1.drew.alloc (.cells #[.string ab.1, .string ab.2] 50)) w.heap.size (.slice va k vc) (tagsW (W.take k)) := ownsRow_keep T1 bn
        obtain ⟨ao', c', w2, hrun, h1, hgr, hat⟩ := tgL_push (w := w1.drew.alloc (.cells #[.string ab.1, .string ab.2] 50)) hT2 w1.drew.heap.size 1 ab.1 ab.2 (by simp [go_sem]) (by simp [go_sem]) (by omega) (by have := hb1.size; simp; omega) 23
        rw [el] at hrun h1
        have hb2 : Below w.heap.size w w2 := (hb1.trans (bn.mono hb1.size)).grown hgr (by have := hb1.size; simp; omega) (fun j e => by have := (World.ownsRow.lt hT j e).1; omega)
        refine wpW_one 8 _ rfl (by kernel_rfl) (step_val rfl (.slice (some ⟨w1.drew.heap.size, 0, none⟩) 1 1) (w' := w1.drew.alloc (.cells #[.string ab.1, .string ab.2] 50)) (by go_simp) ?_)
        have c0 := fun j => bn.cell (p := ⟨g2, j, none⟩) hlt2
        refine ⟨fun _ => ⟨(c0 0).trans s0, (c0 1).trans s1⟩, ?_⟩
        simp only [Act.put, List.getElem_toArray, List.getElem_cons_succ, List.getElem_cons_zero, List.setIfInBounds_toArray, List.set_cons_zero, List.set_cons_succ]
        have hne : g2 < w.heap.size ∨ w.heap.size ≤ g2 := by omega
        have hg2b : (some g2 : Option Nat) ≠ (Value.slice va k vc).ownBlock := fun e => by have := (World.ownsRow.lt hT g2 e.symm).2; omega
        have c2 := fun j => World.cell?_of_block (w := w1.drew.alloc (.cells #[.string ab.1, .string ab.2] 50)) (a := ⟨g2, j, none⟩) (hgr.block g2 (by simp; omega) hg2b)
        refine wpW_one 9 _ rfl (by kernel_rfl) (step_append_tx rfl (.tmp 19) (.tmp 27) 23 23 rfl rfl (.slice va k vc) (.slice (some ⟨w1.drew.heap.size, 0, none⟩) 1 1) (.slice ao' (k + 1) c') (by simp [Act.eval, Act.put]) (by simp [Act.eval, Act.put]) w2 hrun ?_)
        refine ⟨fun _ => ⟨((c2 0).trans (c0 0)).trans s0, ((c2 1).trans (c0 1)).trans s1⟩, ?_⟩
        simp only [Act.put, List.getElem_toArray, List.getElem_cons_succ, List.getElem_cons_zero, List.setIfInBounds_toArray, List.set_cons_zero, List.set_cons_succ]
        refine wpW_one 10 _ rfl (by kernel_rfl) (step_val rfl (.slice ao' (k + 1) c') (w' := w2) (by go_simp) ?_)
        refine ⟨fun _ => ⟨((c2 0).trans (c0 0)).trans s0, ((c2 1).trans (c0 1)).trans s1⟩, ?_⟩
        refine wpW_done (by kernel_rfl) ?_
        try simp only [Act.put, List.getElem_toArray, List.getElem_cons_succ, List.getElem_cons_zero, List.setIfInBounds_toArray, List.set_cons_zero, List.set_cons_succ]
        go_wp2
        go_roundw
        case rel => exact ⟨k + 1, ao', c', by omega, by go_num, rfl, by rw [e2]; exact h1, HX, hb2⟩
        case measure => simp [intOf]; omega
      · have d2' : (((spB 61 x).length : Int) != 2) = true := by simp; omega
        have HX : Hid (¬ ∀ y ∈ W, Two y) := fun h => h2 (h x hmem)
        go_wp2
        exact bodyPost_ret (v := .tuple #[.slice none 0 0, .bool false]) (by simp [results, Tryd.results25, go_sem]) rfl ⟨hb1, .inl ⟨HX.out, rfl⟩⟩
    · have e : k = W.length := by omega
      subst e
      rw [List.take_of_length_le (Nat.le_refl _)] at hT HK
      go_wp2
      exact bodyPost_ret (v := .tuple #[.slice va W.length vc, .bool true]) (by simp [results, Tryd.results25, go_sem]) rfl ⟨hbk, .inr ⟨HK.out, va, vc, rfl, hT⟩⟩
end Go.Proofs.YtpddodjecbcmlaaDoor
