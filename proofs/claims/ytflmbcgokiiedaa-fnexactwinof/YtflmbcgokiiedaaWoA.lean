/- What the law of WinOf holds in memory. -/
import Derived.Test.YtflmbcgokiiedaaWo2
namespace Go.Proofs.Ytflmbcgokiiedaa
open Go.RowKit
set_option linter.unusedSimpArgs false
set_option linter.unusedVariables false

theorem BdAt.rng {w w' : World} {b lo hi : Nat} {z h mk : Int} {sv : Value} (H : BdAt w b z h mk sv) (hr : Rng lo hi w w') (hb : b < lo ∨ hi ≤ b) : BdAt w' b z h mk sv :=
  have k : ∀ j, w'.cell? ⟨b, j, none⟩ = w.cell? ⟨b, j, none⟩ := fun j => World.cell?_of_block (w := w) (a := ⟨b, j, none⟩) (hr.block b H.lt hb)
  ⟨Nat.lt_of_lt_of_le H.lt hr.size, (k _).trans H.c0, (k _).trans H.c1, (k _).trans H.c2, (k _).trans H.c3⟩
theorem BA.rng {w w' : World} {base top lo hi n : Nat} {v : Value} {X : Nat → Wn} (h : BA w base top v n X) (hr : Rng lo hi w w') (hd : top ≤ lo ∨ hi ≤ base) : BA w' base top v n X :=
  h.same hr.size (fun c h1 h2 => hr.block c (by have := h.1; omega) (by omega))
theorem KAt.rng {w w' : World} {b lo hi : Nat} {m : ByteArray} {sv : Value} {st : Int} (H : KAt w b m sv st) (hr : Rng lo hi w w') (hb : b < lo ∨ hi ≤ b) : KAt w' b m sv st :=
  have k : ∀ j, w'.cell? ⟨b, j, none⟩ = w.cell? ⟨b, j, none⟩ := fun j => World.cell?_of_block (w := w) (a := ⟨b, j, none⟩) (hr.block b H.lt hb)
  ⟨Nat.lt_of_lt_of_le H.lt hr.size, (k _).trans H.c0, (k _).trans H.c1, (k _).trans H.c2⟩
theorem WiAt.rng {w w' : World} {b off lo hi : Nat} {x : Wn} {a0 a1 : Option Addr} {k0 k1 : Nat} (H : WiAt w b off x a0 a1 k0 k1) (hr : Rng lo hi w w') (hb : b < lo ∨ hi ≤ b) : WiAt w' b off x a0 a1 k0 k1 :=
  H.move (Nat.lt_of_lt_of_le H.lt hr.size) fun j => World.cell?_of_block (w := w) (a := ⟨b, j, none⟩) (hr.block b H.lt hb)
theorem TOwn.rng {w w' : World} {b lo hi n k : Nat} {nm vl : Nat → ByteArray} (H : TOwn w b n k nm vl) (hr : Rng lo hi w w') (hb : b < lo ∨ hi ≤ b) : TOwn w' b n k nm vl :=
  H.blk (hr.block b H.lt hb) hr.size
theorem markKey_k (m : ByteArray) (st : Int) (g n cap k0 : Nat) (w : World) (nm vl : Nat → ByteArray) (ho : TOwn w g n n nm vl) (hn : n ≤ 1048576) (hk1 : 1 ≤ k0) (hk2 : k0 ≤ 8796093022208) :
    Calls Try.prog 27 #[.agg #[.string m, .slice (some ⟨g, 0, none⟩) n cap, .int .i64 st], .int .i64 k0] w fun e w' => e = .returned (.int .i64 ((k0 : Int) + 2 * (n : Int))) ∧ Thru g w w' := by
  have bn := (Below.refl w.heap.size w).alloc (Nat.le_refl _) (.cells #[.string m, .slice (some ⟨g, 0, none⟩) n cap, .int .i64 st] 49)
  go_enter Try.func27, Try.ntmps27
  go_wp2_with fail
  refine (markTagS_any g n cap k0 _ nm vl (ho.keep bn) hn hk1 hk2).mono ?_
  rintro e w1 ⟨rfl, o1, t1⟩
  go_wp2
  go_ret
  exact ⟨rfl, (Thru.of_below bn).trans t1⟩

/-- The cells of no window. -/
structure WZ (w : World) (B : Nat) : Prop where
  at' : WiAt w B 0 wn0 none none 0 0
  fz : ∀ j, w.frozen? ⟨B, j, none⟩ = false
theorem WZ.new (w : World) (T : Nat) : WZ (w.alloc (.cells #[.string ⟨#[]⟩, .slice none 0 0, .int .i64 0, .int .i64 0, .int .i64 0, .int .i64 0, .int .i64 0, .slice none 0 0, .bool false, .int .i64 0, .bool false] T)) w.heap.size :=
  ⟨WiAt.new w wn0 none none 0 0 T, fun j => by simp [go_sem]⟩
theorem WZ.keep {w w' : World} {B : Nat} (h : WZ w B) (hb : Below w.heap.size w w') : WZ w' B :=
  ⟨h.at'.keep hb, fun j => (hb.frozen (p := ⟨B, j, none⟩) h.at'.lt).trans (h.fz j)⟩
/-- All eleven cells of a window laid. -/
def layW (w : World) (B : Nat) (x : Wn) (a0 a1 : Option Addr) (c0 c1 : Nat) : World :=
  ((((((((((w.setCell ⟨B, 0, none⟩ (.string x.m)).setCell ⟨B, 1, none⟩ (.slice a0 x.tn c0)).setCell ⟨B, 2, none⟩ (.int .i64 x.st)).setCell ⟨B, 3, none⟩ (.int .i64 x.c)).setCell ⟨B, 4, none⟩ (.int .i64 x.s)).setCell ⟨B, 5, none⟩ (.int .i64 x.lo)).setCell ⟨B, 6, none⟩ (.int .i64 x.hi)).setCell ⟨B, 7, none⟩ (.slice a1 x.n c1)).setCell ⟨B, 8, none⟩ (.bool x.fu)).setCell ⟨B, 9, none⟩ (.int .i64 x.ver)).setCell ⟨B, 10, none⟩ (.bool x.di)
theorem layW_size (w : World) (B : Nat) (x : Wn) (a0 a1 : Option Addr) (c0 c1 : Nat) : (layW w B x a0 a1 c0 c1).heap.size = w.heap.size := by simp [layW]
theorem layW_blk (w : World) (B : Nat) (x : Wn) (a0 a1 : Option Addr) (c0 c1 k : Nat) (h : k ≠ B) : (layW w B x a0 a1 c0 c1).heap[k]? = w.heap[k]? := by
  unfold layW
  repeat rw [set_blk _ _ _ _ _ h]
theorem layW_below {C : Nat} {u w : World} {B : Nat} (hb : Below C u w) (hB : C ≤ B) (x : Wn) (a0 a1 : Option Addr) (c0 c1 : Nat) : Below C u (layW w B x a0 a1 c0 c1) := by
  unfold layW
  repeat' refine Below.setCell ?_ hB _
  exact hb
theorem WZ.put {w : World} {B : Nat} (h : WZ w B) (x : Wn) (a0 a1 : Option Addr) (c0 c1 : Nat) : WiAt (layW w B x a0 a1 c0 c1) B 0 x a0 a1 c0 c1 := by
  obtain ⟨⟨lt, h0, h1, h2, h3, h4, h5, h6, h7, h8, h9, h10⟩, fz⟩ := h
  simp only [Nat.zero_add] at h1 h2 h3 h4 h5 h6 h7 h8 h9 h10
  unfold layW
  refine ⟨by simp; exact lt, ?_, ?_, ?_, ?_, ?_, ?_, ?_, ?_, ?_, ?_, ?_⟩ <;> simp [go_sem, h0, h1, h2, h3, h4, h5, h6, h7, h8, h9, h10]
/-- A window that was answered and lies in a box. -/
structure BoxW (w2 w : World) (B : Nat) (x : Wn) (a0 a1 : Option Addr) (c0 c1 : Nat) : Prop where
  at' : WiAt w B 0 x a0 a1 c0 c1
  wa : WA w w2.heap.size w.heap.size x a0 a1
  bl : Below w2.heap.size w2 w
  ge : w2.heap.size ≤ B
theorem BoxW.last {w2 w : World} {x : Wn} {a0 a1 : Option Addr} {c0 c1 lo : Nat} (hW : WA w lo w.heap.size x a0 a1) (hlo : w2.heap.size ≤ lo) (hb : Below w2.heap.size w2 w) (T : Nat) :
    BoxW w2 (w.alloc (.cells #[.string x.m, .slice a0 x.tn c0, .int .i64 x.st, .int .i64 x.c, .int .i64 x.s, .int .i64 x.lo, .int .i64 x.hi, .slice a1 x.n c1, .bool x.fu, .int .i64 x.ver, .bool x.di] T)) w.heap.size x a0 a1 c0 c1 :=
  have bn := below_new w (.cells #[.string x.m, .slice a0 x.tn c0, .int .i64 x.st, .int .i64 x.c, .int .i64 x.s, .int .i64 x.lo, .int .i64 x.hi, .slice a1 x.n c1, .bool x.fu, .int .i64 x.ver, .bool x.di] T)
  ⟨WiAt.new w x a0 a1 c0 c1 T, (hW.keep bn).mono hlo bn.size (Nat.le_refl _), hb.trans (bn.mono hb.size), hb.size⟩
theorem BoxW.early {w2 w : World} {B : Nat} {x : Wn} {a0 a1 : Option Addr} {c0 c1 lo hi : Nat} (Z : WZ w B) (hW : WA w lo hi x a0 a1) (hlo : w2.heap.size ≤ lo) (hB : B < lo ∨ hi ≤ B) (hB2 : w2.heap.size ≤ B) (hb : Below w2.heap.size w2 w) :
    BoxW w2 (layW w B x a0 a1 c0 c1) B x a0 a1 c0 c1 := by
  refine ⟨Z.put x a0 a1 c0 c1, ?_, layW_below hb hB2 _ _ _ _ _, hB2⟩
  have := hW.same (w' := layW w B x a0 a1 c0 c1) (by rw [layW_size]; exact Nat.le_refl _) (fun k h1 h2 => layW_blk _ _ _ _ _ _ _ _ (by omega))
  exact this.mono hlo (by rw [layW_size]; exact hW.tp) (Nat.le_refl _)

section
variable {P : Program} {ops : Array Oper} {Q : Exit → Act → World → Prop} {md : Region.Mode} {S : World → Prop} {W : Nat → Bool}
/-- The only two that may come up. -/
theorem wpW_two (i j : Nat) (oi oj : Oper) {f : Nat} {L : Array Bool} {a : Act} {w : World} (hi : ops[i]? = some oi) (hj : ops[j]? = some oj) (hr : Region.ready md ops L = [i, j])
    (h1 : if Region.wanted oi (yielded ops a.tmps) = true then Oper.wp P oi a w (fun a' w' => (W i = true → S w') ∧ wpW P md ops Q S W f (L.setIfInBounds i true) a' w') Q else False)
    (h2 : if Region.wanted oj (yielded ops a.tmps) = true then Oper.wp P oj a w (fun a' w' => (W j = true → S w') ∧ wpW P md ops Q S W f (L.setIfInBounds j true) a' w') Q else False) : wpW P md ops Q S W (f + 1) L a w := by
  refine ⟨fun h0 => (by rw [hr] at h0; cases h0), fun q hq => ?_⟩
  rw [hr] at hq
  have hq' : q = i ∨ q = j := by simpa using hq
  rcases hq' with rfl | rfl
  · unfold wpOp
    rw [hi]
    dsimp only
    by_cases hw : Region.wanted oi (yielded ops a.tmps) = true
    · rw [if_pos hw] at h1 ⊢
      exact .inl h1
    · rw [if_neg hw] at h1
      exact h1.elim
  · unfold wpOp
    rw [hj]
    dsimp only
    by_cases hw : Region.wanted oj (yielded ops a.tmps) = true
    · rw [if_pos hw] at h2 ⊢
      exact .inl h2
    · rw [if_neg hw] at h2
      exact h2.elim
end
section
variable {w : World} {ops : Array Oper} {o : Oper} {a : Act} {K : Act → World → Prop} {Q : Exit → Act → World → Prop} {E : Prop}
/-- A call of one argument in a region that draws. -/
theorem step_call1 (hgd : o.guard = none) (k f ty : Nat) (ho : o.op = .call { callee := .value (.func f), args := #[.tmp k], argTypes := #[ty] }) (l : Array Value) (hx : a.eval (.tmp k) = .agg l) (hcf : ∀ (args : Array Value) (w : World), Sem.run Try.prog (callFunc f args) w = .ok (.enter f args) w) {post : Ending → World → Prop} (hc : Calls Try.prog f #[.agg l] w post)
    (h : ∀ e w', post e w' → ∃ v', e = .returned v' ∧ K (a.put o.dst v') w') :
    if Region.wanted o (yielded ops a.tmps) = true then Oper.wp Try.prog o a w K Q else E := by
  have hw : Region.wanted o (yielded ops a.tmps) = true := by simp [Region.wanted, hgd]
  rw [if_pos hw]
  have hx' : a.tmps.getD k undef = .agg l := hx
  unfold Oper.wp execOp
  simp only [ho, resolve, Act.eval, hx']
  go_simp
  refine hc.mono ?_
  intro e w' hp
  obtain ⟨v', rfl, hK⟩ := h e w' hp
  exact hK
/-- A call of two arguments in a region that draws. -/
theorem step_call2 (hgd : o.guard = none) (k k2 f ty ty2 : Nat) (ho : o.op = .call { callee := .value (.func f), args := #[.tmp k, .tmp k2], argTypes := #[ty, ty2] }) (l l2 : Array Value) (hx : a.eval (.tmp k) = .agg l) (hx2 : a.eval (.tmp k2) = .agg l2) (hcf : ∀ (args : Array Value) (w : World), Sem.run Try.prog (callFunc f args) w = .ok (.enter f args) w) {post : Ending → World → Prop} (hc : Calls Try.prog f #[.agg l, .agg l2] w post)
    (h : ∀ e w', post e w' → ∃ v', e = .returned v' ∧ K (a.put o.dst v') w') :
    if Region.wanted o (yielded ops a.tmps) = true then Oper.wp Try.prog o a w K Q else E := by
  have hw : Region.wanted o (yielded ops a.tmps) = true := by simp [Region.wanted, hgd]
  rw [if_pos hw]
  have hx' : a.tmps.getD k undef = .agg l := hx
  have hx2' : a.tmps.getD k2 undef = .agg l2 := hx2
  unfold Oper.wp execOp
  simp only [ho, resolve, Act.eval, hx', hx2', List.map_toArray, List.map_cons, List.map_nil]
  go_simp
  refine hc.mono ?_
  intro e w' hp
  obtain ⟨v', rfl, hK⟩ := h e w' hp
  exact hK
theorem cf_toBoard (args : Array Value) (w : World) : Sem.run Try.prog (callFunc 8 args) w = .ok (.enter 8 args) w := by go_simp
theorem cf_toKey (args : Array Value) (w : World) : Sem.run Try.prog (callFunc 23 args) w = .ok (.enter 23 args) w := by go_simp
theorem cf_sWinOf (args : Array Value) (w : World) : Sem.run Try.prog (callFunc 22 args) w = .ok (.enter 22 args) w := by go_simp
theorem cf_iWinOf (args : Array Value) (w : World) : Sem.run Try.prog (callFunc 24 args) w = .ok (.enter 24 args) w := by go_simp
/-- A truth assigned in a region that draws. -/
theorem step_assignB (hgd : o.guard = none) (k : Nat) (ho : o.op = .assign (.tmp k)) (b : Bool) (hx : a.eval (.tmp k) = .bool b) (h : K (a.put o.dst (.bool b)) w) :
    if Region.wanted o (yielded ops a.tmps) = true then Oper.wp Try.prog o a w K Q else E := by
  have hw : Region.wanted o (yielded ops a.tmps) = true := by simp [Region.wanted, hgd]
  rw [if_pos hw]
  have hx' : a.tmps.getD k undef = .bool b := hx
  unfold Oper.wp execOp
  simp only [ho, Act.eval, hx']
  go_simp
  exact h
/-- A window's box made in a region that draws. -/
theorem step_allocW (hgd : o.guard = none) (ho : o.op = .alloc 54)
    (h : K (a.put o.dst (.pointer (some ⟨w.heap.size, 0, none⟩))) (w.alloc (.cells #[.string ⟨#[]⟩, .slice none 0 0, .int .i64 0, .int .i64 0, .int .i64 0, .int .i64 0, .int .i64 0, .slice none 0 0, .bool false, .int .i64 0, .bool false] 54))) :
    if Region.wanted o (yielded ops a.tmps) = true then Oper.wp Try.prog o a w K Q else E := by
  have hw : Region.wanted o (yielded ops a.tmps) = true := by simp [Region.wanted, hgd]
  rw [if_pos hw]
  unfold Oper.wp execOp
  simp only [ho]
  go_simp
  exact h
/-- A window stored in a region that draws. -/
theorem step_storeW (hgd : o.guard = none) (k j : Nat) (ho : o.op = .store 54 (.tmp k) (.tmp j)) (B : Nat) (x : Wn) (a0 a1 : Option Addr) (c0 c1 : Nat) (hx : a.eval (.tmp k) = .pointer (some ⟨B, 0, none⟩)) (hv : a.eval (.tmp j) = .agg #[.string x.m, .slice a0 x.tn c0, .int .i64 x.st, .int .i64 x.c, .int .i64 x.s, .int .i64 x.lo, .int .i64 x.hi, .slice a1 x.n c1, .bool x.fu, .int .i64 x.ver, .bool x.di]) (Z : WZ w B)
    (h : K (a.put o.dst undef) (layW w B x a0 a1 c0 c1)) :
    if Region.wanted o (yielded ops a.tmps) = true then Oper.wp Try.prog o a w K Q else E := by
  have hw : Region.wanted o (yielded ops a.tmps) = true := by simp [Region.wanted, hgd]
  rw [if_pos hw]
  have hx' : a.tmps.getD k undef = .pointer (some ⟨B, 0, none⟩) := hx
  have hv' : a.tmps.getD j undef = .agg #[.string x.m, .slice a0 x.tn c0, .int .i64 x.st, .int .i64 x.c, .int .i64 x.s, .int .i64 x.lo, .int .i64 x.hi, .slice a1 x.n c1, .bool x.fu, .int .i64 x.ver, .bool x.di] := hv
  obtain ⟨⟨lt, h0, h1, h2, h3, h4, h5, h6, h7, h8, h9, h10⟩, fz⟩ := Z
  simp only [Nat.zero_add] at h1 h2 h3 h4 h5 h6 h7 h8 h9 h10
  unfold layW at h
  unfold Oper.wp execOp
  simp only [ho, Act.eval, hx', hv']
  go_simp
  exact h
end
end Go.Proofs.Ytflmbcgokiiedaa
