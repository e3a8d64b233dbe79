/- A drawn event. / A board that is being drawn. -/
import Derived.Test.YtpggmgmdcccmeaaEv
import Derived.Test.YtpggmgmdcccmeaaAeS
import Derived.Test.YtpggmgmdcccmeaaAeA
import Derived.Test.YtpggmgmdcccmeaaTdA
namespace Go.Proofs.Ytpggmgmdcccmeaa
open Go.RowKit
set_option linter.unusedSimpArgs false
set_option linter.unusedVariables false

theorem BdAt.grown {w w' : World} {b : Nat} {z h mk : Int} {sv : Value} {row : Option Nat} (H : BdAt w b z h mk sv) (hg : w.grownBy w' row) (hne : row ≠ some b) : BdAt w' b z h mk sv :=
  have k : ∀ j, w'.cell? ⟨b, j, none⟩ = w.cell? ⟨b, j, none⟩ := fun j => World.cell?_of_block (w := w) (a := ⟨b, j, none⟩) (hg.block b H.lt (fun e => hne e.symm))
  ⟨Nat.lt_of_lt_of_le H.lt hg.size, (k _).trans H.c0, (k _).trans H.c1, (k _).trans H.c2, (k _).trans H.c3⟩
theorem KAt.grown {w w' : World} {b : Nat} {m : ByteArray} {sv : Value} {st : Int} {row : Option Nat} (H : KAt w b m sv st) (hg : w.grownBy w' row) (hne : row ≠ some b) : KAt w' b m sv st :=
  have k : ∀ j, w'.cell? ⟨b, j, none⟩ = w.cell? ⟨b, j, none⟩ := fun j => World.cell?_of_block (w := w) (a := ⟨b, j, none⟩) (hg.block b H.lt (fun e => hne e.symm))
  ⟨Nat.lt_of_lt_of_le H.lt hg.size, (k _).trans H.c0, (k _).trans H.c1, (k _).trans H.c2⟩
theorem fz_grown {w w' : World} {b : Nat} {row : Option Nat} (H : ∀ j, w.frozen? ⟨b, j, none⟩ = false) (hl : b < w.heap.size) (hg : w.grownBy w' row) (hne : row ≠ some b) : ∀ j, w'.frozen? ⟨b, j, none⟩ = false :=
  fun j => (World.frozen?_of_block (w := w) (a := ⟨b, j, none⟩) (hg.block b hl (fun e => hne e.symm))).trans (H j)
/-- An event that is being drawn. -/
structure EV (w W : World) (CB : Nat) (ao : Option Addr) (n cap : Nat) (f : Nat → Int) (A kb : Nat) (m : ByteArray) (va : Option Addr) (vc : Nat) (T : List (ByteArray × ByteArray)) (st : Int) : Prop where
  cs : CS w W CB ao n cap f A
  r : KAt W w.heap.size ⟨#[]⟩ (.slice none 0 0) 0
  rf : ∀ j, W.frozen? ⟨w.heap.size, j, none⟩ = false
  k : KAt W kb m (.slice va T.length vc) st
  kf : ∀ j, W.frozen? ⟨kb, j, none⟩ = false
  tg : TgL W (w.heap.size + 1) (.slice va T.length vc) T
  tk : ∀ q, (Value.slice va T.length vc).ownBlock = some q → q < kb
  hk : w.heap.size < kb
section
variable {w W W' : World} {CB : Nat} {ao : Option Addr} {n cap : Nat} {f : Nat → Int} {A A' kb : Nat} {m : ByteArray} {va : Option Addr} {vc : Nat} {T : List (ByteArray × ByteArray)} {st : Int}
theorem EV.draw (h : EV w W CB ao n cap f A kb m va vc T st) (k : CS W W' CB ao n cap f A') : EV w W' CB ao n cap f A' kb m va vc T st := by
  have hl := h.cs.lt
  have h1 := h.hk
  exact ⟨h.cs.trans k, h.r.grown k.gr (by intro e; injection e with e; omega), fz_grown h.rf h.r.lt k.gr (by intro e; injection e with e; omega), h.k.grown k.gr (by intro e; injection e with e; omega), fz_grown h.kf h.k.lt k.gr (by intro e; injection e with e; omega), ownsRow_kept h.tg k.gr (fun q e hh => by injection e with e; have := (World.ownsRow.lt h.tg q hh).1; omega), h.tk, h1⟩
theorem EV.keep (h : EV w W CB ao n cap f A kb m va vc T st) (hb : Below W.heap.size W W') : EV w W' CB ao n cap f A kb m va vc T st :=
  ⟨h.cs.keep hb, h.r.keep hb, fun j => (hb.frozen (p := ⟨w.heap.size, j, none⟩) h.r.lt).trans (h.rf j), h.k.keep hb, fun j => (hb.frozen (p := ⟨kb, j, none⟩) h.k.lt).trans (h.kf j), ownsRow_keep h.tg hb, h.tk, h.hk⟩
theorem EV.start (h : EV w W CB ao n cap f A kb m va vc T st) (st' : Int) : EV w (W.setCell ⟨kb, 2, none⟩ (.int .i64 st')) CB ao n cap f A kb m va vc T st' := by
  have ho := Others.setCell W kb 2 (.int .i64 st')
  have h1 := h.hk
  have k : ∀ j, (W.setCell ⟨kb, 2, none⟩ (.int .i64 st')).cell? ⟨w.heap.size, j, none⟩ = W.cell? ⟨w.heap.size, j, none⟩ := fun j => World.cell?_of_block (w := W) (a := ⟨w.heap.size, j, none⟩) (ho.block w.heap.size (by omega))
  exact ⟨h.cs.others ho (by omega), ⟨by rw [ho.size]; exact h.r.lt, (k _).trans h.r.c0, (k _).trans h.r.c1, (k _).trans h.r.c2⟩, fun j => (frozen_set _ _ _ _).trans (h.rf j), ⟨by rw [ho.size]; exact h.k.lt, (World.cell?_setCell_other _ _ _ _ (adr_ne (by decide))).trans h.k.c0, (World.cell?_setCell_other _ _ _ _ (adr_ne (by decide))).trans h.k.c1, World.cell?_setCell_same _ _ _ h.k.c2⟩, fun j => (frozen_set _ _ _ _).trans (h.kf j), ownsRow_others h.tg ho (fun hh => by have := h.tk _ hh; omega), h.tk, h1⟩
end
section
variable {w : World} {ops : Array Oper} {o : Oper} {a : Act} {K : Act → World → Prop} {Q : Exit → Act → World → Prop} {E : Prop}
/-- A key stored in a region that draws. -/
theorem step_stK (hgd : o.guard = none) (k j : Nat) (ho : o.op = .store 32 (.tmp k) (.tmp j)) (B : Nat) (m0 m : ByteArray) (s0 : Value) (va : Option Addr) (l vc : Nat) (st0 st : Int) (hx : a.eval (.tmp k) = .pointer (some ⟨B, 0, none⟩)) (hv : a.eval (.tmp j) = .agg #[.string m, .slice va l vc, .int .i64 st]) (hK0 : KAt w B m0 s0 st0) (hf : ∀ j, w.frozen? ⟨B, j, none⟩ = false)
    (hK : K (a.put o.dst undef) (((w.setCell ⟨B, 0, none⟩ (.string m)).setCell ⟨B, 1, none⟩ (.slice va l vc)).setCell ⟨B, 2, none⟩ (.int .i64 st))) :
    if Region.wanted o (yielded ops a.tmps) = true then Oper.wp Try.prog o a w K Q else E := by
  have hw : Region.wanted o (yielded ops a.tmps) = true := by simp [Region.wanted, hgd]
  rw [if_pos hw]
  have hx' : a.tmps.getD k undef = .pointer (some ⟨B, 0, none⟩) := hx
  have hv' : a.tmps.getD j undef = .agg #[.string m, .slice va l vc, .int .i64 st] := hv
  obtain ⟨lt, h0, h1, h2⟩ := hK0
  unfold Oper.wp execOp
  simp only [ho, Act.eval, hx', hv']
  go_simp
  exact hK
theorem step_asI (hgd : o.guard = none) (k : Nat) (ho : o.op = .assign (.tmp k)) (b : Int) (hx : a.eval (.tmp k) = .int .i64 b) (h : K (a.put o.dst (.int .i64 b)) w) :
    if Region.wanted o (yielded ops a.tmps) = true then Oper.wp Try.prog o a w K Q else E := by
  have hw : Region.wanted o (yielded ops a.tmps) = true := by simp [Region.wanted, hgd]
  rw [if_pos hw]
  have hx' : a.tmps.getD k undef = .int .i64 b := hx
  unfold Oper.wp execOp
  simp only [ho, Act.eval, hx']
  go_simp
  exact h
end
theorem cf_value (args : Array Value) (w : World) : Sem.run Try.prog (callFunc 56 args) w = .ok (.enter 56 args) w := by go_simp
/-- What a drawn event is. -/
def EvO (CB : Nat) (ao : Option Addr) (n cap : Nat) (f : Nat → Int) (A : Nat) (w : World) (e : Ending) (w' : World) : Prop :=
  ∃ (m : ByteArray) (va : Option Addr) (vc : Nat) (T : List (ByteArray × ByteArray)) (st t v : Int), e = .returned (.tuple #[.agg #[.string m, .slice va T.length vc, .int .i64 st], .int .i64 t, .int .i64 v]) ∧ TgL w' w.heap.size (.slice va T.length vc) T ∧ m.size ≤ 20 ∧ T.length ≤ 3 ∧ TSz T ∧ CS w w' CB ao n cap f A
set_option maxRecDepth 100000 in
set_option maxHeartbeats 4000000 in
theorem event_s {w : World} {CB : Nat} {ao : Option Addr} {n cap : Nat} {f : Nat → Int} {A : Nat} (h : CS w w CB ao n cap f A) (hA : A ≤ 50000) :
    Calls Try.prog 28 #[.pointer (some ⟨CB, 0, none⟩)] w fun e w' => EvO CB ao n cap f (A + 30) w e w' := by
  have b0 := below_new w (.cells #[.string ⟨#[]⟩, .slice none 0 0, .int .i64 0] 32)
  have R0 := KAt.new w ⟨#[]⟩ (.slice none 0 0) 0 32
  have Rf : ∀ j, (w.alloc (.cells #[.string ⟨#[]⟩, .slice none 0 0, .int .i64 0] 32)).frozen? ⟨w.heap.size, j, none⟩ = false := fun j => by simp [go_sem]
  have K0 := h.keep b0
  have hlt := h.lt
  go_enter Try.func28, Try.ntmps28
  go_wp2_with fail
  generalize w.alloc (.cells #[.string ⟨#[]⟩, .slice none 0 0, .int .i64 0] 32) = w0 at b0 R0 Rf K0 ⊢
  refine (key_s K0.self (by omega)).mono ?_
  rintro e w1 ⟨m, va, vc, T, st, rfl, hT, hm, hl, hz, hst, K1⟩
  have hR0 := R0.lt
  have hR1 : KAt w1 w.heap.size ⟨#[]⟩ (.slice none 0 0) 0 := R0.grown K1.gr (by intro e; injection e with e; omega)
  have hRf1 := fz_grown Rf R0.lt K1.gr (by intro e; injection e with e; omega)
  have hT1 : TgL w1 (w.heap.size + 1) (.slice va T.length vc) T := ownsRow_mono hT (by omega)
  have tk : ∀ q, (Value.slice va T.length vc).ownBlock = some q → q < w1.heap.size := fun q hq => (World.ownsRow.lt hT q hq).2
  have K1 := K0.trans K1
  have b2 := below_new w1 (.cells #[.string m, .slice va T.length vc, .int .i64 st] 32)
  have V2 : EV w (w1.alloc (.cells #[.string m, .slice va T.length vc, .int .i64 st] 32)) CB ao n cap f (A + 20) w1.heap.size m va vc T st := ⟨K1.keep b2, hR1.keep b2, fun j => (b2.frozen (p := ⟨w.heap.size, j, none⟩) hR1.lt).trans (hRf1 j), KAt.new w1 m (.slice va T.length vc) st 32, fun j => by simp [go_sem], ownsRow_keep hT1 b2, tk, hR1.lt⟩
  have SZ : Hid (m.size ≤ 20 ∧ T.length ≤ 3 ∧ TSz T) := ⟨hm, hl, hz⟩
  clear hm hl hz hst hT hT1 tk K1 K0 b0 b2 R0 Rf hR1 hRf1
  go_wp2_with fail
  generalize w1.alloc (.cells #[.string m, .slice va T.length vc, .int .i64 st] 32) = w2 at V2 ⊢
  generalize w1.heap.size = kb at V2 ⊢
  refine (one_s 30 (by omega) V2.cs.self (by omega)).mono ?_
  rintro e w3 ⟨b, rfl, K3⟩
  have V3 := V2.draw K3
  clear V2 K3
  cases b
  · have V4 := V3.start 0
    obtain ⟨_, c0, c1, c2⟩ := id V3.k
    have cf := V3.kf
    clear V3
    go_wp2_with fail
    generalize w3.setCell ⟨kb, 2, none⟩ (.int .i64 0) = w4 at V4 ⊢
    clear c0 c1 c2 cf
    refine (pick_s 80 (by omega) V4.cs.self (by omega)).mono ?_
    rintro e w5 ⟨t, rfl, _, _, K5⟩
    have V5 := V4.draw K5
    clear V4 K5
    go_wp2_with fail
    refine (one_s 20 (by omega) V5.cs.self (by omega)).mono ?_
    rintro e w6 ⟨b, rfl, K6⟩
    have V6 := V5.draw K6
    clear V5 K6
    cases b
    · skip
      go_wp2
      have Vd := V6.keep (Below.refl _ w6).drew
      clear V6
      obtain ⟨u0, hu0⟩ : ∃ u, u = w6.drew := ⟨_, rfl⟩
      rw [← hu0] at Vd
      obtain ⟨_, y0, y1, y2⟩ := id Vd.k
      refine wp_region_w (fun w' : World => w'.cell? ⟨kb, 0, none⟩ = some (.string m) ∧ w'.cell? ⟨kb, 1, none⟩ = some (.slice va T.length vc) ∧ w'.cell? ⟨kb, 2, none⟩ = some (.int .i64 0)) (fun _ => true) (by kernel_rfl) ?_
      change wpW _ _ _ _ _ _ 7 _ _ w6.drew
      rw [← hu0]
      clear hu0
      have hS0 : (fun w' : World => w'.cell? ⟨kb, 0, none⟩ = some (.string m) ∧ w'.cell? ⟨kb, 1, none⟩ = some (.slice va T.length vc) ∧ w'.cell? ⟨kb, 2, none⟩ = some (.int .i64 0)) u0 := ⟨y0, y1, y2⟩
      refine wpW_take 0 _ (.agg #[.string m, .slice va T.length vc, .int .i64 0]) rfl (by kernel_rfl) (by kernel_rfl) (by kernel_rfl) (fun _ _ _ h => h) (by kernel_rfl) (.inl ⟨rfl, fun w' hS' => by obtain ⟨s0, s1, s2⟩ := hS'; go_simp⟩) hS0 ?_
      refine wpW_take 1 _ (.int .i64 t) rfl (by kernel_rfl) (by kernel_rfl) (by kernel_rfl) (fun _ _ _ h => h) (by kernel_rfl) (.inl ⟨rfl, fun w' hS' => by obtain ⟨s0, s1, s2⟩ := hS'; go_simp⟩) hS0 ?_
      refine wpW_take 2 _ (.pointer (some ⟨CB, 0, none⟩)) rfl (by kernel_rfl) (by kernel_rfl) (by kernel_rfl) (fun _ _ _ h => h) (by kernel_rfl) (.inl ⟨rfl, fun w' hS' => by obtain ⟨s0, s1, s2⟩ := hS'; go_simp⟩) hS0 ?_
      simp only [Act.put, List.getElem_toArray, List.getElem_cons_succ, List.getElem_cons_zero, List.setIfInBounds_toArray, List.set_cons_zero, List.set_cons_succ]
      refine wpW_one 3 _ rfl (by kernel_rfl) (step_c1 rfl 22 56 _ rfl _ (by simp [Act.eval, Act.put]) cf_value (value_s Vd.cs.self (by omega)) ?_)
      rintro e u1 ⟨v, rfl, K1⟩
      refine ⟨_, rfl, ?_⟩
      have V1 := Vd.draw K1
      have hkb := V1.hk
      have hS1 : (fun w' : World => w'.cell? ⟨kb, 0, none⟩ = some (.string m) ∧ w'.cell? ⟨kb, 1, none⟩ = some (.slice va T.length vc) ∧ w'.cell? ⟨kb, 2, none⟩ = some (.int .i64 0)) u1 := ⟨V1.k.c0, V1.k.c1, V1.k.c2⟩
      refine ⟨fun _ => hS1, ?_⟩
      simp only [Act.put, List.getElem_toArray, List.getElem_cons_succ, List.getElem_cons_zero, List.setIfInBounds_toArray, List.set_cons_zero, List.set_cons_succ]
      refine wpW_one 4 _ rfl (by kernel_rfl) (step_stK rfl 2 20 rfl w.heap.size _ m _ va T.length vc _ 0 (by simp [Act.eval, Act.put]) (by simp [Act.eval, Act.put]) V1.r V1.rf ?_)
      have oth : Others w.heap.size u1 (((u1.setCell ⟨w.heap.size, 0, none⟩ (.string m)).setCell ⟨w.heap.size, 1, none⟩ (.slice va T.length vc)).setCell ⟨w.heap.size, 2, none⟩ (.int .i64 0)) := ((Others.setCell _ _ _ _).trans (Others.setCell _ _ _ _)).trans (Others.setCell _ _ _ _)
      obtain ⟨_, r0, r1, r2⟩ := id V1.r
      have x0 : (((u1.setCell ⟨w.heap.size, 0, none⟩ (.string m)).setCell ⟨w.heap.size, 1, none⟩ (.slice va T.length vc)).setCell ⟨w.heap.size, 2, none⟩ (.int .i64 0)).cell? ⟨w.heap.size, 0, none⟩ = some (.string m) := by simp [go_sem, r0, r1, r2]
      have x1 : (((u1.setCell ⟨w.heap.size, 0, none⟩ (.string m)).setCell ⟨w.heap.size, 1, none⟩ (.slice va T.length vc)).setCell ⟨w.heap.size, 2, none⟩ (.int .i64 0)).cell? ⟨w.heap.size, 1, none⟩ = some (.slice va T.length vc) := by simp [go_sem, r0, r1, r2]
      have x2 : (((u1.setCell ⟨w.heap.size, 0, none⟩ (.string m)).setCell ⟨w.heap.size, 1, none⟩ (.slice va T.length vc)).setCell ⟨w.heap.size, 2, none⟩ (.int .i64 0)).cell? ⟨w.heap.size, 2, none⟩ = some (.int .i64 0) := by simp [go_sem, r0, r1, r2]
      generalize ((u1.setCell ⟨w.heap.size, 0, none⟩ (.string m)).setCell ⟨w.heap.size, 1, none⟩ (.slice va T.length vc)).setCell ⟨w.heap.size, 2, none⟩ (.int .i64 0) = u2 at oth x0 x1 x2 ⊢
      have kk : ∀ j, u2.cell? ⟨kb, j, none⟩ = u1.cell? ⟨kb, j, none⟩ := fun j => World.cell?_of_block (w := u1) (a := ⟨kb, j, none⟩) (oth.block kb (by omega))
      have hS2 : (fun w' : World => w'.cell? ⟨kb, 0, none⟩ = some (.string m) ∧ w'.cell? ⟨kb, 1, none⟩ = some (.slice va T.length vc) ∧ w'.cell? ⟨kb, 2, none⟩ = some (.int .i64 0)) u2 := ⟨(kk _).trans hS1.1, (kk _).trans hS1.2.1, (kk _).trans hS1.2.2⟩
      refine ⟨fun _ => hS2, ?_⟩
      simp only [Act.put, List.getElem_toArray, List.getElem_cons_succ, List.getElem_cons_zero, List.setIfInBounds_toArray, List.set_cons_zero, List.set_cons_succ]
      refine wpW_one 5 _ rfl (by kernel_rfl) (step_asI rfl 21 rfl t (by simp [Act.eval, Act.put]) ?_)
      refine ⟨fun _ => hS2, ?_⟩
      simp only [Act.put, List.getElem_toArray, List.getElem_cons_succ, List.getElem_cons_zero, List.setIfInBounds_toArray, List.set_cons_zero, List.set_cons_succ]
      refine wpW_one 6 _ rfl (by kernel_rfl) (step_asI rfl 23 rfl v (by simp [Act.eval, Act.put]) ?_)
      refine ⟨fun _ => hS2, ?_⟩
      refine wpW_done (by kernel_rfl) ?_
      simp only [Act.put, List.getElem_toArray, List.getElem_cons_succ, List.getElem_cons_zero, List.setIfInBounds_toArray, List.set_cons_zero, List.set_cons_succ]
      have hcs := V1.cs.others oth (Nat.le_refl _)
      have htg := ownsRow_mono (ownsRow_others V1.tg oth (fun hh => by have := (World.ownsRow.lt V1.tg _ hh).1; omega)) (base' := w.heap.size) (by omega)
      clear hS0 hS1 hS2 V1 Vd K1 y0 y1 y2 r0 r1 r2 kk oth
      go_wp2
      exact bodyPost_ret (v := .tuple #[.agg #[.string m, .slice va T.length vc, .int .i64 0], .int .i64 t, .int .i64 v]) (by simp [results, Try.results28, go_sem, x0, x1, x2]) rfl ⟨m, va, vc, T, 0, t, v, rfl, htg, SZ.out.1, SZ.out.2.1, SZ.out.2.2, hcs.mono (by omega)⟩
    · have b7 := below_new w6 (.cells #[.int .i64 (-1), .int .i64 1000000000, .int .i64 1000000001] 3)
      have L7 : LiAt (w6.alloc (.cells #[.int .i64 (-1), .int .i64 1000000000, .int .i64 1000000001] 3)) w6.heap.size [-1, 1000000000, 1000000001] := LiAt.new w6 [-1, 1000000000, 1000000001] 3
      have hl6 := V6.cs.ltw
      have V7 := V6.keep b7
      clear V6 b7
      go_wp2_with fail
      refine (among_s [-1, 1000000000, 1000000001] (by decide) w6.heap.size L7 (by omega) V7.cs.self (by omega)).mono ?_
      rintro e w8 ⟨t', _, rfl, K8⟩
      have V8 := V7.draw K8
      clear V7 K8 L7
      go_wp2
      have Vd := V8.keep (Below.refl _ w8).drew
      clear V8
      obtain ⟨u0, hu0⟩ : ∃ u, u = w8.drew := ⟨_, rfl⟩
      rw [← hu0] at Vd
      obtain ⟨_, y0, y1, y2⟩ := id Vd.k
      refine wp_region_w (fun w' : World => w'.cell? ⟨kb, 0, none⟩ = some (.string m) ∧ w'.cell? ⟨kb, 1, none⟩ = some (.slice va T.length vc) ∧ w'.cell? ⟨kb, 2, none⟩ = some (.int .i64 0)) (fun _ => true) (by kernel_rfl) ?_
      change wpW _ _ _ _ _ _ 7 _ _ w8.drew
      rw [← hu0]
      clear hu0
      have hS0 : (fun w' : World => w'.cell? ⟨kb, 0, none⟩ = some (.string m) ∧ w'.cell? ⟨kb, 1, none⟩ = some (.slice va T.length vc) ∧ w'.cell? ⟨kb, 2, none⟩ = some (.int .i64 0)) u0 := ⟨y0, y1, y2⟩
      refine wpW_take 0 _ (.agg #[.string m, .slice va T.length vc, .int .i64 0]) rfl (by kernel_rfl) (by kernel_rfl) (by kernel_rfl) (fun _ _ _ h => h) (by kernel_rfl) (.inl ⟨rfl, fun w' hS' => by obtain ⟨s0, s1, s2⟩ := hS'; go_simp⟩) hS0 ?_
      refine wpW_take 1 _ (.int .i64 t') rfl (by kernel_rfl) (by kernel_rfl) (by kernel_rfl) (fun _ _ _ h => h) (by kernel_rfl) (.inl ⟨rfl, fun w' hS' => by obtain ⟨s0, s1, s2⟩ := hS'; go_simp⟩) hS0 ?_
      refine wpW_take 2 _ (.pointer (some ⟨CB, 0, none⟩)) rfl (by kernel_rfl) (by kernel_rfl) (by kernel_rfl) (fun _ _ _ h => h) (by kernel_rfl) (.inl ⟨rfl, fun w' hS' => by obtain ⟨s0, s1, s2⟩ := hS'; go_simp⟩) hS0 ?_
      simp only [Act.put, List.getElem_toArray, List.getElem_cons_succ, List.getElem_cons_zero, List.setIfInBounds_toArray, List.set_cons_zero, List.set_cons_succ]
      refine wpW_one 3 _ rfl (by kernel_rfl) (step_c1 rfl 22 56 _ rfl _ (by simp [Act.eval, Act.put]) cf_value (value_s Vd.cs.self (by omega)) ?_)
      rintro e u1 ⟨v, rfl, K1⟩
      refine ⟨_, rfl, ?_⟩
      have V1 := Vd.draw K1
      have hkb := V1.hk
      have hS1 : (fun w' : World => w'.cell? ⟨kb, 0, none⟩ = some (.string m) ∧ w'.cell? ⟨kb, 1, none⟩ = some (.slice va T.length vc) ∧ w'.cell? ⟨kb, 2, none⟩ = some (.int .i64 0)) u1 := ⟨V1.k.c0, V1.k.c1, V1.k.c2⟩
      refine ⟨fun _ => hS1, ?_⟩
      simp only [Act.put, List.getElem_toArray, List.getElem_cons_succ, List.getElem_cons_zero, List.setIfInBounds_toArray, List.set_cons_zero, List.set_cons_succ]
      refine wpW_one 4 _ rfl (by kernel_rfl) (step_stK rfl 2 20 rfl w.heap.size _ m _ va T.length vc _ 0 (by simp [Act.eval, Act.put]) (by simp [Act.eval, Act.put]) V1.r V1.rf ?_)
      have oth : Others w.heap.size u1 (((u1.setCell ⟨w.heap.size, 0, none⟩ (.string m)).setCell ⟨w.heap.size, 1, none⟩ (.slice va T.length vc)).setCell ⟨w.heap.size, 2, none⟩ (.int .i64 0)) := ((Others.setCell _ _ _ _).trans (Others.setCell _ _ _ _)).trans (Others.setCell _ _ _ _)
      obtain ⟨_, r0, r1, r2⟩ := id V1.r
      have x0 : (((u1.setCell ⟨w.heap.size, 0, none⟩ (.string m)).setCell ⟨w.heap.size, 1, none⟩ (.slice va T.length vc)).setCell ⟨w.heap.size, 2, none⟩ (.int .i64 0)).cell? ⟨w.heap.size, 0, none⟩ = some (.string m) := by simp [go_sem, r0, r1, r2]
      have x1 : (((u1.setCell ⟨w.heap.size, 0, none⟩ (.string m)).setCell ⟨w.heap.size, 1, none⟩ (.slice va T.length vc)).setCell ⟨w.heap.size, 2, none⟩ (.int .i64 0)).cell? ⟨w.heap.size, 1, none⟩ = some (.slice va T.length vc) := by simp [go_sem, r0, r1, r2]
      have x2 : (((u1.setCell ⟨w.heap.size, 0, none⟩ (.string m)).setCell ⟨w.heap.size, 1, none⟩ (.slice va T.length vc)).setCell ⟨w.heap.size, 2, none⟩ (.int .i64 0)).cell? ⟨w.heap.size, 2, none⟩ = some (.int .i64 0) := by simp [go_sem, r0, r1, r2]
      generalize ((u1.setCell ⟨w.heap.size, 0, none⟩ (.string m)).setCell ⟨w.heap.size, 1, none⟩ (.slice va T.length vc)).setCell ⟨w.heap.size, 2, none⟩ (.int .i64 0) = u2 at oth x0 x1 x2 ⊢
      have kk : ∀ j, u2.cell? ⟨kb, j, none⟩ = u1.cell? ⟨kb, j, none⟩ := fun j => World.cell?_of_block (w := u1) (a := ⟨kb, j, none⟩) (oth.block kb (by omega))
      have hS2 : (fun w' : World => w'.cell? ⟨kb, 0, none⟩ = some (.string m) ∧ w'.cell? ⟨kb, 1, none⟩ = some (.slice va T.length vc) ∧ w'.cell? ⟨kb, 2, none⟩ = some (.int .i64 0)) u2 := ⟨(kk _).trans hS1.1, (kk _).trans hS1.2.1, (kk _).trans hS1.2.2⟩
      refine ⟨fun _ => hS2, ?_⟩
      simp only [Act.put, List.getElem_toArray, List.getElem_cons_succ, List.getElem_cons_zero, List.setIfInBounds_toArray, List.set_cons_zero, List.set_cons_succ]
      refine wpW_one 5 _ rfl (by kernel_rfl) (step_asI rfl 21 rfl t' (by simp [Act.eval, Act.put]) ?_)
      refine ⟨fun _ => hS2, ?_⟩
      simp only [Act.put, List.getElem_toArray, List.getElem_cons_succ, List.getElem_cons_zero, List.setIfInBounds_toArray, List.set_cons_zero, List.set_cons_succ]
      refine wpW_one 6 _ rfl (by kernel_rfl) (step_asI rfl 23 rfl v (by simp [Act.eval, Act.put]) ?_)
      refine ⟨fun _ => hS2, ?_⟩
      refine wpW_done (by kernel_rfl) ?_
      simp only [Act.put, List.getElem_toArray, List.getElem_cons_succ, List.getElem_cons_zero, List.setIfInBounds_toArray, List.set_cons_zero, List.set_cons_succ]
      have hcs := V1.cs.others oth (Nat.le_refl _)
      have htg := ownsRow_mono (ownsRow_others V1.tg oth (fun hh => by have := (World.ownsRow.lt V1.tg _ hh).1; omega)) (base' := w.heap.size) (by omega)
      clear hS0 hS1 hS2 V1 Vd K1 y0 y1 y2 r0 r1 r2 kk oth
      go_wp2
      exact bodyPost_ret (v := .tuple #[.agg #[.string m, .slice va T.length vc, .int .i64 0], .int .i64 t', .int .i64 v]) (by simp [results, Try.results28, go_sem, x0, x1, x2]) rfl ⟨m, va, vc, T, 0, t', v, rfl, htg, SZ.out.1, SZ.out.2.1, SZ.out.2.2, hcs.mono (by omega)⟩
  · have V4 := V3
    clear V3
    go_wp2_with fail
    refine (pick_s 80 (by omega) V4.cs.self (by omega)).mono ?_
    rintro e w5 ⟨t, rfl, _, _, K5⟩
    have V5 := V4.draw K5
    clear V4 K5
    go_wp2_with fail
    refine (one_s 20 (by omega) V5.cs.self (by omega)).mono ?_
    rintro e w6 ⟨b, rfl, K6⟩
    have V6 := V5.draw K6
    clear V5 K6
    cases b
    · skip
      go_wp2
      have Vd := V6.keep (Below.refl _ w6).drew
      clear V6
      obtain ⟨u0, hu0⟩ : ∃ u, u = w6.drew := ⟨_, rfl⟩
      rw [← hu0] at Vd
      obtain ⟨_, y0, y1, y2⟩ := id Vd.k
      refine wp_region_w (fun w' : World => w'.cell? ⟨kb, 0, none⟩ = some (.string m) ∧ w'.cell? ⟨kb, 1, none⟩ = some (.slice va T.length vc) ∧ w'.cell? ⟨kb, 2, none⟩ = some (.int .i64 st)) (fun _ => true) (by kernel_rfl) ?_
      change wpW _ _ _ _ _ _ 7 _ _ w6.drew
      rw [← hu0]
      clear hu0
      have hS0 : (fun w' : World => w'.cell? ⟨kb, 0, none⟩ = some (.string m) ∧ w'.cell? ⟨kb, 1, none⟩ = some (.slice va T.length vc) ∧ w'.cell? ⟨kb, 2, none⟩ = some (.int .i64 st)) u0 := ⟨y0, y1, y2⟩
      refine wpW_take 0 _ (.agg #[.string m, .slice va T.length vc, .int .i64 st]) rfl (by kernel_rfl) (by kernel_rfl) (by kernel_rfl) (fun _ _ _ h => h) (by kernel_rfl) (.inl ⟨rfl, fun w' hS' => by obtain ⟨s0, s1, s2⟩ := hS'; go_simp⟩) hS0 ?_
      refine wpW_take 1 _ (.int .i64 t) rfl (by kernel_rfl) (by kernel_rfl) (by kernel_rfl) (fun _ _ _ h => h) (by kernel_rfl) (.inl ⟨rfl, fun w' hS' => by obtain ⟨s0, s1, s2⟩ := hS'; go_simp⟩) hS0 ?_
      refine wpW_take 2 _ (.pointer (some ⟨CB, 0, none⟩)) rfl (by kernel_rfl) (by kernel_rfl) (by kernel_rfl) (fun _ _ _ h => h) (by kernel_rfl) (.inl ⟨rfl, fun w' hS' => by obtain ⟨s0, s1, s2⟩ := hS'; go_simp⟩) hS0 ?_
      simp only [Act.put, List.getElem_toArray, List.getElem_cons_succ, List.getElem_cons_zero, List.setIfInBounds_toArray, List.set_cons_zero, List.set_cons_succ]
      refine wpW_one 3 _ rfl (by kernel_rfl) (step_c1 rfl 22 56 _ rfl _ (by simp [Act.eval, Act.put]) cf_value (value_s Vd.cs.self (by omega)) ?_)
      rintro e u1 ⟨v, rfl, K1⟩
      refine ⟨_, rfl, ?_⟩
      have V1 := Vd.draw K1
      have hkb := V1.hk
      have hS1 : (fun w' : World => w'.cell? ⟨kb, 0, none⟩ = some (.string m) ∧ w'.cell? ⟨kb, 1, none⟩ = some (.slice va T.length vc) ∧ w'.cell? ⟨kb, 2, none⟩ = some (.int .i64 st)) u1 := ⟨V1.k.c0, V1.k.c1, V1.k.c2⟩
      refine ⟨fun _ => hS1, ?_⟩
      simp only [Act.put, List.getElem_toArray, List.getElem_cons_succ, List.getElem_cons_zero, List.setIfInBounds_toArray, List.set_cons_zero, List.set_cons_succ]
      refine wpW_one 4 _ rfl (by kernel_rfl) (step_stK rfl 2 20 rfl w.heap.size _ m _ va T.length vc _ st (by simp [Act.eval, Act.put]) (by simp [Act.eval, Act.put]) V1.r V1.rf ?_)
      have oth : Others w.heap.size u1 (((u1.setCell ⟨w.heap.size, 0, none⟩ (.string m)).setCell ⟨w.heap.size, 1, none⟩ (.slice va T.length vc)).setCell ⟨w.heap.size, 2, none⟩ (.int .i64 st)) := ((Others.setCell _ _ _ _).trans (Others.setCell _ _ _ _)).trans (Others.setCell _ _ _ _)
      obtain ⟨_, r0, r1, r2⟩ := id V1.r
      have x0 : (((u1.setCell ⟨w.heap.size, 0, none⟩ (.string m)).setCell ⟨w.heap.size, 1, none⟩ (.slice va T.length vc)).setCell ⟨w.heap.size, 2, none⟩ (.int .i64 st)).cell? ⟨w.heap.size, 0, none⟩ = some (.string m) := by simp [go_sem, r0, r1, r2]
      have x1 : (((u1.setCell ⟨w.heap.size, 0, none⟩ (.string m)).setCell ⟨w.heap.size, 1, none⟩ (.slice va T.length vc)).setCell ⟨w.heap.size, 2, none⟩ (.int .i64 st)).cell? ⟨w.heap.size, 1, none⟩ = some (.slice va T.length vc) := by simp [go_sem, r0, r1, r2]
      have x2 : (((u1.setCell ⟨w.heap.size, 0, none⟩ (.string m)).setCell ⟨w.heap.size, 1, none⟩ (.slice va T.length vc)).setCell ⟨w.heap.size, 2, none⟩ (.int .i64 st)).cell? ⟨w.heap.size, 2, none⟩ = some (.int .i64 st) := by simp [go_sem, r0, r1, r2]
      generalize ((u1.setCell ⟨w.heap.size, 0, none⟩ (.string m)).setCell ⟨w.heap.size, 1, none⟩ (.slice va T.length vc)).setCell ⟨w.heap.size, 2, none⟩ (.int .i64 st) = u2 at oth x0 x1 x2 ⊢
      have kk : ∀ j, u2.cell? ⟨kb, j, none⟩ = u1.cell? ⟨kb, j, none⟩ := fun j => World.cell?_of_block (w := u1) (a := ⟨kb, j, none⟩) (oth.block kb (by omega))
      have hS2 : (fun w' : World => w'.cell? ⟨kb, 0, none⟩ = some (.string m) ∧ w'.cell? ⟨kb, 1, none⟩ = some (.slice va T.length vc) ∧ w'.cell? ⟨kb, 2, none⟩ = some (.int .i64 st)) u2 := ⟨(kk _).trans hS1.1, (kk _).trans hS1.2.1, (kk _).trans hS1.2.2⟩
      refine ⟨fun _ => hS2, ?_⟩
      simp only [Act.put, List.getElem_toArray, List.getElem_cons_succ, List.getElem_cons_zero, List.setIfInBounds_toArray, List.set_cons_zero, List.set_cons_succ]
      refine wpW_one 5 _ rfl (by kernel_rfl) (step_asI rfl 21 rfl t (by simp [Act.eval, Act.put]) ?_)
      refine ⟨fun _ => hS2, ?_⟩
      simp only [Act.put, List.getElem_toArray, List.getElem_cons_succ, List.getElem_cons_zero, List.setIfInBounds_toArray, List.set_cons_zero, List.set_cons_succ]
      refine wpW_one 6 _ rfl (by kernel_rfl) (step_asI rfl 23 rfl v (by simp [Act.eval, Act.put]) ?_)
      refine ⟨fun _ => hS2, ?_⟩
      refine wpW_done (by kernel_rfl) ?_
      simp only [Act.put, List.getElem_toArray, List.getElem_cons_succ, List.getElem_cons_zero, List.setIfInBounds_toArray, List.set_cons_zero, List.set_cons_succ]
      have hcs := V1.cs.others oth (Nat.le_refl _)
      have htg := ownsRow_mono (ownsRow_others V1.tg oth (fun hh => by have := (World.ownsRow.lt V1.tg _ hh).1; omega)) (base' := w.heap.size) (by omega)
      clear hS0 hS1 hS2 V1 Vd K1 y0 y1 y2 r0 r1 r2 kk oth
      go_wp2
      exact bodyPost_ret (v := .tuple #[.agg #[.string m, .slice va T.length vc, .int .i64 st], .int .i64 t, .int .i64 v]) (by simp [results, Try.results28, go_sem, x0, x1, x2]) rfl ⟨m, va, vc, T, st, t, v, rfl, htg, SZ.out.1, SZ.out.2.1, SZ.out.2.2, hcs.mono (by omega)⟩
    · have b7 := below_new w6 (.cells #[.int .i64 (-1), .int .i64 1000000000, .int .i64 1000000001] 3)
      have L7 : LiAt (w6.alloc (.cells #[.int .i64 (-1), .int .i64 1000000000, .int .i64 1000000001] 3)) w6.heap.size [-1, 1000000000, 1000000001] := LiAt.new w6 [-1, 1000000000, 1000000001] 3
      have hl6 := V6.cs.ltw
      have V7 := V6.keep b7
      clear V6 b7
      go_wp2_with fail
      refine (among_s [-1, 1000000000, 1000000001] (by decide) w6.heap.size L7 (by omega) V7.cs.self (by omega)).mono ?_
      rintro e w8 ⟨t', _, rfl, K8⟩
      have V8 := V7.draw K8
      clear V7 K8 L7
      go_wp2
      have Vd := V8.keep (Below.refl _ w8).drew
      clear V8
      obtain ⟨u0, hu0⟩ : ∃ u, u = w8.drew := ⟨_, rfl⟩
      rw [← hu0] at Vd
      obtain ⟨_, y0, y1, y2⟩ := id Vd.k
      refine wp_region_w (fun w' : World => w'.cell? ⟨kb, 0, none⟩ = some (.string m) ∧ w'.cell? ⟨kb, 1, none⟩ = some (.slice va T.length vc) ∧ w'.cell? ⟨kb, 2, none⟩ = some (.int .i64 st)) (fun _ => true) (by kernel_rfl) ?_
      change wpW _ _ _ _ _ _ 7 _ _ w8.drew
      rw [← hu0]
      clear hu0
      have hS0 : (fun w' : World => w'.cell? ⟨kb, 0, none⟩ = some (.string m) ∧ w'.cell? ⟨kb, 1, none⟩ = some (.slice va T.length vc) ∧ w'.cell? ⟨kb, 2, none⟩ = some (.int .i64 st)) u0 := ⟨y0, y1, y2⟩
      refine wpW_take 0 _ (.agg #[.string m, .slice va T.length vc, .int .i64 st]) rfl (by kernel_rfl) (by kernel_rfl) (by kernel_rfl) (fun _ _ _ h => h) (by kernel_rfl) (.inl ⟨rfl, fun w' hS' => by obtain ⟨s0, s1, s2⟩ := hS'; go_simp⟩) hS0 ?_
      refine wpW_take 1 _ (.int .i64 t') rfl (by kernel_rfl) (by kernel_rfl) (by kernel_rfl) (fun _ _ _ h => h) (by kernel_rfl) (.inl ⟨rfl, fun w' hS' => by obtain ⟨s0, s1, s2⟩ := hS'; go_simp⟩) hS0 ?_
      refine wpW_take 2 _ (.pointer (some ⟨CB, 0, none⟩)) rfl (by kernel_rfl) (by kernel_rfl) (by kernel_rfl) (fun _ _ _ h => h) (by kernel_rfl) (.inl ⟨rfl, fun w' hS' => by obtain ⟨s0, s1, s2⟩ := hS'; go_simp⟩) hS0 ?_
      simp only [Act.put, List.getElem_toArray, List.getElem_cons_succ, List.getElem_cons_zero, List.setIfInBounds_toArray, List.set_cons_zero, List.set_cons_succ]
      refine wpW_one 3 _ rfl (by kernel_rfl) (step_c1 rfl 22 56 _ rfl _ (by simp [Act.eval, Act.put]) cf_value (value_s Vd.cs.self (by omega)) ?_)
      rintro e u1 ⟨v, rfl, K1⟩
      refine ⟨_, rfl, ?_⟩
      have V1 := Vd.draw K1
      have hkb := V1.hk
      have hS1 : (fun w' : World => w'.cell? ⟨kb, 0, none⟩ = some (.string m) ∧ w'.cell? ⟨kb, 1, none⟩ = some (.slice va T.length vc) ∧ w'.cell? ⟨kb, 2, none⟩ = some (.int .i64 st)) u1 := ⟨V1.k.c0, V1.k.c1, V1.k.c2⟩
      refine ⟨fun _ => hS1, ?_⟩
      simp only [Act.put, List.getElem_toArray, List.getElem_cons_succ, List.getElem_cons_zero, List.setIfInBounds_toArray, List.set_cons_zero, List.set_cons_succ]
      refine wpW_one 4 _ rfl (by kernel_rfl) (step_stK rfl 2 20 rfl w.heap.size _ m _ va T.length vc _ st (by simp [Act.eval, Act.put]) (by simp [Act.eval, Act.put]) V1.r V1.rf ?_)
      have oth : Others w.heap.size u1 (((u1.setCell ⟨w.heap.size, 0, none⟩ (.string m)).setCell ⟨w.heap.size, 1, none⟩ (.slice va T.length vc)).setCell ⟨w.heap.size, 2, none⟩ (.int .i64 st)) := ((Others.setCell _ _ _ _).trans (Others.setCell _ _ _ _)).trans (Others.setCell _ _ _ _)
      obtain ⟨_, r0, r1, r2⟩ := id V1.r
      have x0 : (((u1.setCell ⟨w.heap.size, 0, none⟩ (.string m)).setCell ⟨w.heap.size, 1, none⟩ (.slice va T.length vc)).setCell ⟨w.heap.size, 2, none⟩ (.int .i64 st)).cell? ⟨w.heap.size, 0, none⟩ = some (.string m) := by simp [go_sem, r0, r1, r2]
      have x1 : (((u1.setCell ⟨w.heap.size, 0, none⟩ (.string m)).setCell ⟨w.heap.size, 1, none⟩ (.slice va T.length vc)).setCell ⟨w.heap.size, 2, none⟩ (.int .i64 st)).cell? ⟨w.heap.size, 1, none⟩ = some (.slice va T.length vc) := by simp [go_sem, r0, r1, r2]
      have x2 : (((u1.setCell ⟨w.heap.size, 0, none⟩ (.string m)).setCell ⟨w.heap.size, 1, none⟩ (.slice va T.length vc)).setCell ⟨w.heap.size, 2, none⟩ (.int .i64 st)).cell? ⟨w.heap.size, 2, none⟩ = some (.int .i64 st) := by simp [go_sem, r0, r1, r2]
      generalize ((u1.setCell ⟨w.heap.size, 0, none⟩ (.string m)).setCell ⟨w.heap.size, 1, none⟩ (.slice va T.length vc)).setCell ⟨w.heap.size, 2, none⟩ (.int .i64 st) = u2 at oth x0 x1 x2 ⊢
      have kk : ∀ j, u2.cell? ⟨kb, j, none⟩ = u1.cell? ⟨kb, j, none⟩ := fun j => World.cell?_of_block (w := u1) (a := ⟨kb, j, none⟩) (oth.block kb (by omega))
      have hS2 : (fun w' : World => w'.cell? ⟨kb, 0, none⟩ = some (.string m) ∧ w'.cell? ⟨kb, 1, none⟩ = some (.slice va T.length vc) ∧ w'.cell? ⟨kb, 2, none⟩ = some (.int .i64 st)) u2 := ⟨(kk _).trans hS1.1, (kk _).trans hS1.2.1, (kk _).trans hS1.2.2⟩
      refine ⟨fun _ => hS2, ?_⟩
      simp only [Act.put, List.getElem_toArray, List.getElem_cons_succ, List.getElem_cons_zero, List.setIfInBounds_toArray, List.set_cons_zero, List.set_cons_succ]
      refine wpW_one 5 _ rfl (by kernel_rfl) (step_asI rfl 21 rfl t' (by simp [Act.eval, Act.put]) ?_)
      refine ⟨fun _ => hS2, ?_⟩
      simp only [Act.put, List.getElem_toArray, List.getElem_cons_succ, List.getElem_cons_zero, List.setIfInBounds_toArray, List.set_cons_zero, List.set_cons_succ]
      refine wpW_one 6 _ rfl (by kernel_rfl) (step_asI rfl 23 rfl v (by simp [Act.eval, Act.put]) ?_)
      refine ⟨fun _ => hS2, ?_⟩
      refine wpW_done (by kernel_rfl) ?_
      simp only [Act.put, List.getElem_toArray, List.getElem_cons_succ, List.getElem_cons_zero, List.setIfInBounds_toArray, List.set_cons_zero, List.set_cons_succ]
      have hcs := V1.cs.others oth (Nat.le_refl _)
      have htg := ownsRow_mono (ownsRow_others V1.tg oth (fun hh => by have := (World.ownsRow.lt V1.tg _ hh).1; omega)) (base' := w.heap.size) (by omega)
      clear hS0 hS1 hS2 V1 Vd K1 y0 y1 y2 r0 r1 r2 kk oth
      go_wp2
      exact bodyPost_ret (v := .tuple #[.agg #[.string m, .slice va T.length vc, .int .i64 st], .int .i64 t', .int .i64 v]) (by simp [results, Try.results28, go_sem, x0, x1, x2]) rfl ⟨m, va, vc, T, st, t', v, rfl, htg, SZ.out.1, SZ.out.2.1, SZ.out.2.2, hcs.mono (by omega)⟩
end Go.Proofs.Ytpggmgmdcccmeaa
namespace Go.Proofs.Ytpggmgmdcccmeaa
open Go.RowKit
set_option linter.unusedSimpArgs false
set_option linter.unusedVariables false

theorem BA.grown {w w' : World} {base top n : Nat} {v : Value} {X : Nat → Wn} {row : Option Nat} (h : BA w base top v n X) (hg : w.grownBy w' row) (hr : ∀ k, row = some k → k < base ∨ top ≤ k) : BA w' base top v n X :=
  h.same hg.size (fun c h1 h2 => hg.block c (by have := h.1; omega) (fun e => by have := hr c e.symm; omega))
/-- A board in the box B and no answer in the box R; the cursor. -/
structure BW (w0 W : World) (CB : Nat) (ao : Option Addr) (n cap : Nat) (f : Nat → Int) (A R B top : Nat) (z h mk : Int) (va : Option Addr) (m vc : Nat) (X : Nat → Wn) : Prop where
  cs : CS w0 W CB ao n cap f A
  b : BdAt W B z h mk (.slice va m vc)
  bf : ∀ j, W.frozen? ⟨B, j, none⟩ = false
  r : BdAt W R 0 0 0 (.slice none 0 0)
  rf : ∀ j, W.frozen? ⟨R, j, none⟩ = false
  ba : BA W (B + 1) top (.slice va m vc) m X
  ok : WOk m X
  hR : w0.heap.size ≤ R
  hB : R < B
section
variable {w0 W W' : World} {CB : Nat} {ao : Option Addr} {n cap : Nat} {f : Nat → Int} {A A' R B top xb : Nat} {z h mk z' h' mk' : Int} {va va' : Option Addr} {m vc m' vc' : Nat} {X X' : Nat → Wn}
theorem BW.row (H : BW w0 W CB ao n cap f A R B top z h mk va m vc X) : WiRow W va m X := (H.ba.row H.ok.bd H.ok.fb).2
theorem BW.grow {row : Option Nat} (H : BW w0 W CB ao n cap f A R B top z h mk va m vc X) (hg : W.grownBy W' row) (hr : ∀ k, row = some k → top ≤ k ∧ B < k ∨ k < w0.heap.size) (hc : CS w0 W' CB ao n cap f A') : BW w0 W' CB ao n cap f A' R B top z h mk va m vc X := by
  have h1 := H.hR
  have h2 := H.hB
  exact ⟨hc, H.b.grown hg (by intro e; have := hr B e; omega), fz_grown H.bf H.b.lt hg (by intro e; have := hr B e; omega), H.r.grown hg (by intro e; have := hr R e; omega), fz_grown H.rf H.r.lt hg (by intro e; have := hr R e; omega), H.ba.grown hg (fun k e => by have := hr k e; omega), H.ok, h1, h2⟩
theorem BW.draw (H : BW w0 W CB ao n cap f A R B top z h mk va m vc X) (k : CS W W' CB ao n cap f A') : BW w0 W' CB ao n cap f A' R B top z h mk va m vc X :=
  H.grow k.gr (fun q e => by injection e with e; have := H.cs.lt; omega) (H.cs.trans k)
theorem BW.keep (H : BW w0 W CB ao n cap f A R B top z h mk va m vc X) (hb : Below W.heap.size W W') : BW w0 W' CB ao n cap f A R B top z h mk va m vc X :=
  H.grow (row := none) (grown_of_below hb none) (fun q e => by cases e) (H.cs.keep hb)
theorem BW.oth {d : Nat} (H : BW w0 W CB ao n cap f A R B top z h mk va m vc X) (ho : Others d W W') (hd : top ≤ d ∧ B < d) : BW w0 W' CB ao n cap f A R B top z h mk va m vc X :=
  H.grow (row := some d) (others_grown ho) (fun q e => by injection e with e; omega) (H.cs.others ho (by have := H.hR; have := H.hB; omega))
theorem BW.mono (H : BW w0 W CB ao n cap f A R B top z h mk va m vc X) (hA : A ≤ A') : BW w0 W CB ao n cap f A' R B top z h mk va m vc X := ⟨H.cs.mono hA, H.b, H.bf, H.r, H.rf, H.ba, H.ok, H.hR, H.hB⟩
/-- Another board in the box B. -/
theorem BW.put {lo hi : Nat} (H : BW w0 W CB ao n cap f A R B top z h mk va m vc X) (hA : BA W lo hi (.slice va' m' vc') m' X') (hlo : B + 1 ≤ lo) (hok : WOk m' X') : BW w0 (setBd W B z' h' mk' (.slice va' m' vc')) CB ao n cap f A R B hi z' h' mk' va' m' vc' X' := by
  have ho := setBd_oth W B z' h' mk' (.slice va' m' vc')
  have h1 := H.hR
  have h2 := H.hB
  have hh := hA.1
  exact ⟨H.cs.others ho (by omega), setBd_at H.b _ _ _ _, fun j => by simp [setBd, go_sem, H.bf], H.r.others ho (by omega), fz_oth H.rf ho (by omega), (hA.same (by rw [ho.size]; exact Nat.le_refl _) (fun c h1 h2 => ho.block c (by omega))).mono hlo (Nat.le_refl _) (by rw [ho.size]; exact hh), hok, h1, h2⟩
/-- The board's size written. -/
theorem BW.set0 (H : BW w0 W CB ao n cap f A R B top z h mk va m vc X) (z' : Int) : BW w0 (W.setCell ⟨B, 0, none⟩ (.int .i64 z')) CB ao n cap f A R B top z' h mk va m vc X := by
  have ho := Others.setCell W B 0 (.int .i64 z')
  have h1 := H.hR
  have h2 := H.hB
  exact ⟨H.cs.others ho (by omega), ⟨by rw [ho.size]; exact H.b.lt, World.cell?_setCell_same _ _ _ H.b.c0, (World.cell?_setCell_other _ _ _ _ (adr_ne (by decide))).trans H.b.c1, (World.cell?_setCell_other _ _ _ _ (adr_ne (by decide))).trans H.b.c2, (World.cell?_setCell_other _ _ _ _ (adr_ne (by decide))).trans H.b.c3⟩, fun j => (frozen_set _ _ _ _).trans (H.bf j), H.r.others ho (by omega), fz_oth H.rf ho (by omega), H.ba.same (by rw [ho.size]; exact Nat.le_refl _) (fun c h1 h2 => ho.block c (by omega)), H.ok, h1, h2⟩
/-- The board's mark written. -/
theorem BW.set2 (H : BW w0 W CB ao n cap f A R B top z h mk va m vc X) (mk' : Int) : BW w0 (W.setCell ⟨B, 2, none⟩ (.int .i64 mk')) CB ao n cap f A R B top z h mk' va m vc X := by
  have ho := Others.setCell W B 2 (.int .i64 mk')
  have h1 := H.hR
  have h2 := H.hB
  exact ⟨H.cs.others ho (by omega), ⟨by rw [ho.size]; exact H.b.lt, (World.cell?_setCell_other _ _ _ _ (adr_ne (by decide))).trans H.b.c0, (World.cell?_setCell_other _ _ _ _ (adr_ne (by decide))).trans H.b.c1, World.cell?_setCell_same _ _ _ H.b.c2, (World.cell?_setCell_other _ _ _ _ (adr_ne (by decide))).trans H.b.c3⟩, fun j => (frozen_set _ _ _ _).trans (H.bf j), H.r.others ho (by omega), fz_oth H.rf ho (by omega), H.ba.same (by rw [ho.size]; exact Nat.le_refl _) (fun c h1 h2 => ho.block c (by omega)), H.ok, h1, h2⟩
end
/-- A board and what was made of it, in the box xb. -/
structure BX (w0 W : World) (CB : Nat) (ao : Option Addr) (n cap : Nat) (f : Nat → Int) (A R B top xb : Nat) (z h mk : Int) (va : Option Addr) (m vc : Nat) (X : Nat → Wn) (z' h' mk' : Int) (va' : Option Addr) (m' vc' : Nat) (X' : Nat → Wn) (lo hi : Nat) : Prop where
  w : BW w0 W CB ao n cap f A R B top z h mk va m vc X
  x : BdAt W xb z' h' mk' (.slice va' m' vc')
  ba : BA W lo hi (.slice va' m' vc') m' X'
  ok : WOk m' X'
  lo : B + 1 ≤ lo
section
variable {w : World} {ops : Array Oper} {o : Oper} {a : Act} {K : Act → World → Prop} {Q : Exit → Act → World → Prop} {E : Prop}
/-- A call of a pointer and a constant. -/
theorem step_cK (hgd : o.guard = none) (k f ty ty2 : Nat) (c : Value) (ho : o.op = .call { callee := .value (.func f), args := #[.tmp k, .const c], argTypes := #[ty, ty2] }) (l : Value) (hx : a.eval (.tmp k) = l) (hcf : ∀ (args : Array Value) (w : World), Sem.run Try.prog (callFunc f args) w = .ok (.enter f args) w) {post : Ending → World → Prop} (hc : Calls Try.prog f #[l, c] w post)
    (h : ∀ e w', post e w' → ∃ v', e = .returned v' ∧ K (a.put o.dst v') w') :
    if Region.wanted o (yielded ops a.tmps) = true then Oper.wp Try.prog o a w K Q else E := by
  have hw : Region.wanted o (yielded ops a.tmps) = true := by simp [Region.wanted, hgd]
  rw [if_pos hw]
  have hx' : a.tmps.getD k undef = l := hx
  unfold Oper.wp execOp
  simp only [ho, resolve, Act.eval, hx', List.map_toArray, List.map_cons, List.map_nil]
  go_simp
  refine hc.mono ?_
  intro e w' hp
  obtain ⟨v', rfl, hK⟩ := h e w' hp
  exact hK
/-- A board stored in a region that draws. -/
theorem step_stB (hgd : o.guard = none) (k j : Nat) (ho : o.op = .store 25 (.tmp k) (.tmp j)) (B : Nat) (z0 h0 mk0 : Int) (sv0 : Value) (z h mk : Int) (va : Option Addr) (n vc : Nat) (hx : a.eval (.tmp k) = .pointer (some ⟨B, 0, none⟩)) (hv : a.eval (.tmp j) = .agg #[.int .i64 z, .int .i64 h, .int .i64 mk, .slice va n vc]) (Z : BdAt w B z0 h0 mk0 sv0) (hf : ∀ j, w.frozen? ⟨B, j, none⟩ = false)
    (hK : K (a.put o.dst undef) (setBd w B z h mk (.slice va n vc))) :
    if Region.wanted o (yielded ops a.tmps) = true then Oper.wp Try.prog o a w K Q else E := by
  have hw : Region.wanted o (yielded ops a.tmps) = true := by simp [Region.wanted, hgd]
  rw [if_pos hw]
  have hx' : a.tmps.getD k undef = .pointer (some ⟨B, 0, none⟩) := hx
  have hv' : a.tmps.getD j undef = .agg #[.int .i64 z, .int .i64 h, .int .i64 mk, .slice va n vc] := hv
  obtain ⟨lt, h0, h1, h2, h3⟩ := Z
  unfold setBd at hK
  unfold Oper.wp execOp
  simp only [ho, Act.eval, hx', hv']
  go_simp
  exact hK
end
theorem cf_pick (args : Array Value) (w : World) : Sem.run Try.prog (callFunc 53 args) w = .ok (.enter 53 args) w := by go_simp
theorem cf_sRm (args : Array Value) (w : World) : Sem.run Try.prog (callFunc 54 args) w = .ok (.enter 54 args) w := by go_simp
/-- RaiseMark in the model, whatever the board. -/
theorem rm_spec (z h mk t : Int) (n : Nat) (X : Nat → Wn) (hok : WOk n X) : ∃ (z' h' mk' : Int) (n' : Nat) (c : Int), WOk n' X ∧ ∀ (ao : Option Addr) (cap : Nat) (w : World), WiRow w ao n X → Calls Try.prog 54 #[.agg #[.int .i64 z, .int .i64 h, .int .i64 mk, .slice ao n cap], .int .i64 t] w fun e w' => BAns z' h' mk' n' X c w e w' := by
  by_cases hG : GBd z h mk n X
  · by_cases hk : RmOk mk t
    · exact ⟨z, h, t, n, 0, hok, fun ao cap w hr => (raiseMark_spec_good z h mk t ao n cap X w hr hok.few hok.sz hG).mono (fun _ _ hh => hh.1 hk)⟩
    · exact ⟨z, h, mk, n, 1, hok, fun ao cap w hr => (raiseMark_spec_good z h mk t ao n cap X w hr hok.few hok.sz hG).mono (fun _ _ hh => hh.2 hk)⟩
  · exact ⟨0, 0, 0, 0, 1, ⟨Nat.zero_le _, fun i hi => by omega, fun i hi => by omega, fun i hi => by omega⟩, fun ao cap w hr => raiseMark_spec_bad z h mk t ao n cap X w hr hok.few hok.sz hG⟩
end Go.Proofs.Ytpggmgmdcccmeaa
