/- A meta, drawn. -/
import Derived.Test.YtagkhohglpjjlaaDv
import Derived.Test.YtagkhohglpjjlaaOh
import Derived.Test.YtagkhohglpjjlaaMp
import Derived.Deep.CutBlock
import Derived.Deep.CutRange
import Derived.Deep.DeepCutAuto
namespace Go.Proofs.Ytagkhohglpjjlaa
open Go.RowKit
set_option linter.unusedSimpArgs false
set_option linter.unusedVariables false

theorem froz_grown {w w' : World} {b CB : Nat} (h : ∀ j, w.frozen? ⟨b, j, none⟩ = false) (hlt : b < w.heap.size) (g : w.grownBy w' (some CB)) (hne : b ≠ CB) : ∀ j, w'.frozen? ⟨b, j, none⟩ = false :=
  fun j => (World.frozen?_of_block (w := w) (a := ⟨b, j, none⟩) (g.block b hlt (fun e => hne (Option.some.inj e)))).trans (h j)
theorem froz_keep {w w' : World} {b : Nat} (h : ∀ j, w.frozen? ⟨b, j, none⟩ = false) (hlt : b < w.heap.size) (hb : Below w.heap.size w w') : ∀ j, w'.frozen? ⟨b, j, none⟩ = false :=
  fun j => (hb.frozen (p := ⟨b, j, none⟩) hlt).trans (h j)
theorem mat_grown {w w' : World} {b off CB : Nat} {x : Met} (h : MAt w b off x) (g : w.grownBy w' (some CB)) (hne : b ≠ CB) : MAt w' b off x :=
  h.move (Nat.lt_of_lt_of_le h.lt g.size) fun j => World.cell?_of_block (w := w) (a := ⟨b, j, none⟩) (g.block b h.lt (fun e => hne (Option.some.inj e)))
theorem step_storeS {w : World} {ops : Array Oper} {o : Oper} {a : Act} {K : Act → World → Prop} {Q : Exit → Act → World → Prop} {E : Prop} (hgd : o.guard = none) (k j : Nat)
    (ho : o.op = .store 9 (.tmp k) (.tmp j)) (b q : Nat) (s : ByteArray) (u : Value) (hx : a.eval (.tmp k) = .pointer (some ⟨b, q, none⟩)) (hv : a.eval (.tmp j) = .string s) (hc : w.cell? ⟨b, q, none⟩ = some u) (hf : w.frozen? ⟨b, q, none⟩ = false) (h : K (a.put o.dst undef) (w.setCell ⟨b, q, none⟩ (.string s))) :
    if Region.wanted o (yielded ops a.tmps) = true then Oper.wp Try.prog o a w K Q else E := by
  have hw : Region.wanted o (yielded ops a.tmps) = true := by simp [Region.wanted, hgd]
  rw [if_pos hw]
  have hx' : a.tmps.getD k undef = .pointer (some ⟨b, q, none⟩) := hx
  have hv' : a.tmps.getD j undef = .string s := hv
  unfold Oper.wp execOp
  simp only [ho, Act.eval, hx', hv']
  go_simp
  exact h
def zM : Met := ⟨0, ⟨#[]⟩, ⟨#[]⟩, 0⟩
/-- What is told of a drawn meta. -/
def Mm (x : Met) : Prop := (-9223372036854775808 ≤ x.file ∧ x.file ≤ 9223372036854775807) ∧ (-9223372036854775808 ≤ x.many ∧ x.many ≤ 9223372036854775807) ∧ x.least.size ≤ 20 ∧ x.most.size ≤ 20
theorem Mm.mb {x : Met} (h : Mm x) : MB x := ⟨h.1, h.2.1, by have := h.2.2.1; omega, by have := h.2.2.2; omega⟩
/-- A meta at work. -/
structure MW (w w' : World) (R D CB : Nat) (ao : Option Addr) (n cap : Nat) (f : Nat → Int) (A : Nat) (x : Met) : Prop where
  C : CS w w' CB ao n cap f A
  RA : MAt w' R 0 zM
  RF : ∀ j, w'.frozen? ⟨R, j, none⟩ = false
  DA : MAt w' D 0 x
  DF : ∀ j, w'.frozen? ⟨D, j, none⟩ = false
  ne : w.heap.size ≤ R ∧ w.heap.size ≤ D ∧ R ≠ D
  bd : Mm x
section
variable {w w' w'' : World} {R D CB : Nat} {ao : Option Addr} {n cap : Nat} {f : Nat → Int} {A A' : Nat} {x : Met}
theorem MW.draw (h : MW w w' R D CB ao n cap f A x) (k : CS w' w'' CB ao n cap f A') : MW w w'' R D CB ao n cap f A' x := by
  have hl := h.C.lt
  have hn := h.ne
  exact ⟨h.C.trans k, mat_grown h.RA k.gr (by omega), froz_grown h.RF h.RA.lt k.gr (by omega), mat_grown h.DA k.gr (by omega), froz_grown h.DF h.DA.lt k.gr (by omega), hn, h.bd⟩
theorem MW.keep (h : MW w w' R D CB ao n cap f A x) (hb : Below w'.heap.size w' w'') : MW w w'' R D CB ao n cap f A x :=
  ⟨h.C.keep hb, h.RA.keep hb, froz_keep h.RF h.RA.lt hb, h.DA.keep hb, froz_keep h.DF h.DA.lt hb, h.ne, h.bd⟩
theorem MW.mono (h : MW w w' R D CB ao n cap f A x) (hA : A ≤ A') : MW w w' R D CB ao n cap f A' x := ⟨h.C.mono hA, h.RA, h.RF, h.DA, h.DF, h.ne, h.bd⟩
theorem MW.set (h : MW w w' R D CB ao n cap f A x) (j : Nat) (v : Value) (y : Met) (hy : MAt (w'.setCell ⟨D, j, none⟩ v) D 0 y) (hb : Mm y) : MW w (w'.setCell ⟨D, j, none⟩ v) R D CB ao n cap f A y := by
  have ot : Others D w' (w'.setCell ⟨D, j, none⟩ v) := Others.setCell _ _ _ _
  have hn := h.ne
  exact ⟨h.C.others ot (by omega), h.RA.others ot (by omega), fun j => (World.frozen?_of_block (w := w') (a := ⟨R, j, none⟩) (ot.block R (by omega))).trans (h.RF j), hy, fun j => by simp only [World.frozen?_setCell]; exact h.DF j, hn, hb⟩
theorem MW.set1 (h : MW w w' R D CB ao n cap f A x) (s : ByteArray) (hs : s.size ≤ 20) : MW w (w'.setCell ⟨D, 1, none⟩ (.string s)) R D CB ao n cap f A { x with least := s } := by
  obtain ⟨l, c0, c1, c2, c3⟩ := h.DA
  simp only [Nat.zero_add] at c1 c2 c3
  refine h.set 1 _ _ ⟨by simpa using l, ?_, ?_, ?_, ?_⟩ ⟨h.bd.1, h.bd.2.1, hs, h.bd.2.2.2⟩ <;> simp [go_sem, c0, c1, c2, c3]
theorem MW.set2 (h : MW w w' R D CB ao n cap f A x) (s : ByteArray) (hs : s.size ≤ 20) : MW w (w'.setCell ⟨D, 2, none⟩ (.string s)) R D CB ao n cap f A { x with most := s } := by
  obtain ⟨l, c0, c1, c2, c3⟩ := h.DA
  simp only [Nat.zero_add] at c1 c2 c3
  refine h.set 2 _ _ ⟨by simpa using l, ?_, ?_, ?_, ?_⟩ ⟨h.bd.1, h.bd.2.1, h.bd.2.2.1, hs⟩ <;> simp [go_sem, c0, c1, c2, c3]
theorem MW.set3 (h : MW w w' R D CB ao n cap f A x) (v : Int) (hv : -9223372036854775808 ≤ v ∧ v ≤ 9223372036854775807) : MW w (w'.setCell ⟨D, 3, none⟩ (.int .i64 v)) R D CB ao n cap f A { x with many := v } := by
  obtain ⟨l, c0, c1, c2, c3⟩ := h.DA
  simp only [Nat.zero_add] at c1 c2 c3
  refine h.set 3 _ _ ⟨by simpa using l, ?_, ?_, ?_, ?_⟩ ⟨h.bd.1, hv, h.bd.2.2⟩ <;> simp [go_sem, c0, c1, c2, c3]
end
set_option maxRecDepth 100000 in
set_option maxHeartbeats 8000000 in
theorem meta_any {w : World} {CB : Nat} {ao : Option Addr} {n cap : Nat} {f : Nat → Int} {A : Nat} (file : Int) (hfl : -9223372036854775808 ≤ file ∧ file ≤ 9223372036854775807) (h : CS w w CB ao n cap f A) (hA : A ≤ 90000) :
    Calls Try.prog 33 #[.pointer (some ⟨CB, 0, none⟩), .int .i64 file] w fun e w' => ∃ x : Met, e = .returned (.agg #[.int .i64 x.file, .string x.least, .string x.most, .int .i64 x.many]) ∧ Mm x ∧ CS w w' CB ao n cap f (A + 6) := by
  have hB := below_new w (.cells #[.int .i64 0, .string ⟨#[]⟩, .string ⟨#[]⟩, .int .i64 0] 52)
  have RA0 : MAt (w.alloc (.cells #[.int .i64 0, .string ⟨#[]⟩, .string ⟨#[]⟩, .int .i64 0] 52)) w.heap.size 0 zM := MAt.new w zM 52
  have RF0 : ∀ j, (w.alloc (.cells #[.int .i64 0, .string ⟨#[]⟩, .string ⟨#[]⟩, .int .i64 0] 52)).frozen? ⟨w.heap.size, j, none⟩ = false := fun j => by simp [go_sem]
  have sz0 : (w.alloc (.cells #[.int .i64 0, .string ⟨#[]⟩, .string ⟨#[]⟩, .int .i64 0] 52)).heap.size = w.heap.size + 1 := by simp
  have C0 := h.keep hB
  have hl0 := h.lt
  go_enter Try.func33, Try.ntmps33
  go_wp2_with fail
  generalize w.alloc (.cells #[.int .i64 0, .string ⟨#[]⟩, .string ⟨#[]⟩, .int .i64 0] 52) = w0 at hB RA0 RF0 sz0 C0 ⊢
  refine (keyText_s C0.self (by omega)).mono ?_
  rintro e w1 ⟨s1, hs1, rfl, K1⟩
  have C1 := C0.trans K1
  have RA1 := mat_grown RA0 K1.gr (by omega)
  have RF1 := froz_grown RF0 RA0.lt K1.gr (by omega)
  have z1 := K1.gr.size
  clear K1 C0 RA0 RF0
  go_wp2_with fail
  refine (pick_s 9 (by omega) C1.self (by omega)).mono ?_
  rintro e w2 ⟨x2, rfl, x20, x21, K2⟩
  have C2 := C1.trans K2
  have RA2 := mat_grown RA1 K2.gr (by omega)
  have RF2 := froz_grown RF1 RA1.lt K2.gr (by omega)
  have z2 := K2.gr.size
  have hwx : IntKind.i64.wrap (1 + x2) = 1 + x2 := by rw [IntKind.wrap_i64] <;> omega
  clear K2 C1 RA1 RF1
  have b3 := below_new w2 (.cells #[.int .i64 file, .string s1, .string ⟨#[]⟩, .int .i64 (1 + x2)] 52)
  have DF3 : ∀ j, (w2.alloc (.cells #[.int .i64 file, .string s1, .string ⟨#[]⟩, .int .i64 (1 + x2)] 52)).frozen? ⟨w2.heap.size, j, none⟩ = false := fun j => by simp [go_sem]
  have G3 : MW w (w2.alloc (.cells #[.int .i64 file, .string s1, .string ⟨#[]⟩, .int .i64 (1 + x2)] 52)) w.heap.size w2.heap.size CB ao n cap f (A + 2) ⟨file, s1, ⟨#[]⟩, 1 + x2⟩ :=
    ⟨C2.keep b3, RA2.keep b3, froz_keep RF2 RA2.lt b3, MAt.new w2 ⟨file, s1, ⟨#[]⟩, 1 + x2⟩ 52, DF3, by omega, hfl, by show -9223372036854775808 ≤ 1 + x2 ∧ 1 + x2 ≤ 9223372036854775807; omega, by show s1.size ≤ 20; omega, by show (⟨#[]⟩ : ByteArray).size ≤ 20; decide⟩
  clear b3 DF3 C2 RA2 RF2
  go_upto_region 2 with fail
  generalize w2.alloc (.cells #[.int .i64 file, .string s1, .string ⟨#[]⟩, .int .i64 (1 + x2)] 52) = w3 at G3 ⊢
  generalize w2.heap.size = D at *
  generalize hR : w.heap.size = R at *
  go_cut [5] from 13 to 19 (fun s5 wx => s5 = .pointer (some ⟨D, 0, none⟩) ∧ ∃ x, MW w wx R D CB ao n cap f (A + 3) x)
  case first =>
    have Gd := G3.keep (Below.refl _ w3).drew
    clear G3
    have hS0 := Gd.DA.c1
    simp only [Nat.zero_add] at hS0
    have hlc := Gd.C.ltw
    refine wp_region_w (fun W : World => W.cell? ⟨D, 1, none⟩ = some (.string s1)) (fun _ => true) (by kernel_rfl) ?_
    change wpW _ _ _ _ _ _ 8 _ _ w3.drew
    generalize w3.drew = W0 at Gd hS0 hlc ⊢
    refine wpW_take 0 _ (.pointer (some ⟨D, 1, none⟩)) rfl (by kernel_rfl) (by kernel_rfl) (by kernel_rfl) (fun _ _ _ h => h) (by kernel_rfl) (.inl ⟨rfl, fun w' hS' => by go_simp⟩) hS0 ?_
    simp only [Act.put, List.getElem_toArray, List.getElem_cons_succ, List.getElem_cons_zero, List.setIfInBounds_toArray, List.set_cons_zero, List.set_cons_succ]
    refine wpW_take 1 _ (.string s1) rfl (by kernel_rfl) (by kernel_rfl) (by kernel_rfl) (fun _ _ _ h => h) (by kernel_rfl) (.inl ⟨rfl, fun w' hS' => by have hz := hS'; go_simp⟩) hS0 ?_
    simp only [Act.put, List.getElem_toArray, List.getElem_cons_succ, List.getElem_cons_zero, List.setIfInBounds_toArray, List.set_cons_zero, List.set_cons_succ]
    refine wpW_take 2 _ (.pointer (some ⟨CB, 0, none⟩)) rfl (by kernel_rfl) (by kernel_rfl) (by kernel_rfl) (fun _ _ _ h => h) (by kernel_rfl) (.inl ⟨rfl, fun w' hS' => by go_simp⟩) hS0 ?_
    simp only [Act.put, List.getElem_toArray, List.getElem_cons_succ, List.getElem_cons_zero, List.setIfInBounds_toArray, List.set_cons_zero, List.set_cons_succ]
    have bl := below_new W0 (.cells #[.string ⟨#[]⟩, .string ⟨#[120]⟩, .string ⟨#[122, 122]⟩] 9)
    have L1 : LsAt (W0.alloc (.cells #[.string ⟨#[]⟩, .string ⟨#[120]⟩, .string ⟨#[122, 122]⟩] 9)) W0.heap.size [(⟨#[]⟩ : ByteArray), ⟨#[120]⟩, ⟨#[122, 122]⟩] := LsAt.new W0 [(⟨#[]⟩ : ByteArray), ⟨#[120]⟩, ⟨#[122, 122]⟩] 9
    have GL := Gd.keep bl
    have c1 := GL.DA.c1
    simp only [Nat.zero_add] at c1
    refine wpW_one 3 _ rfl (by kernel_rfl) (step_val rfl (.slice (some ⟨W0.heap.size, 0, none⟩) 3 3) (w' := W0.alloc (.cells #[.string ⟨#[]⟩, .string ⟨#[120]⟩, .string ⟨#[122, 122]⟩] 9)) (by go_simp) ?_)
    refine ⟨fun _ => c1, ?_⟩
    simp only [Act.put, List.getElem_toArray, List.getElem_cons_succ, List.getElem_cons_zero, List.setIfInBounds_toArray, List.set_cons_zero, List.set_cons_succ]
    refine wpW_one 4 _ rfl (by kernel_rfl) (step_call rfl 55 #[.pointer (some ⟨CB, 0, none⟩), .slice (some ⟨W0.heap.size, 0, none⟩) 3 3] _ (by go_simp) (of_s [(⟨#[]⟩ : ByteArray), ⟨#[120]⟩, ⟨#[122, 122]⟩] 3 (by decide) (by decide) W0.heap.size L1 (by omega) GL.C.self (by omega)) ?_)
    rintro e w9 ⟨s9, hs9, rfl, K9⟩
    have G9 := GL.draw K9
    have hss : (s1 ++ s9).size ≤ 20 := by rw [ByteArray.size_append]; omega
    have H9 := G9.set2 (s1 ++ s9) hss
    have hsz : s1.size + s9.size ≤ 9223372036854775807 := by omega
    have f9 := G9.DF 2
    have c9 := G9.DA.c1
    have d9 := G9.DA.c2
    simp only [Nat.zero_add] at c9 d9
    refine ⟨_, rfl, fun _ => c9, ?_⟩
    simp only [Act.put, List.getElem_toArray, List.getElem_cons_succ, List.getElem_cons_zero, List.setIfInBounds_toArray, List.set_cons_zero, List.set_cons_succ]
    refine wpW_one 5 _ rfl (by kernel_rfl) (step_val rfl (.string (s1 ++ s9)) (w' := w9) (by go_simp) ?_)
    refine ⟨fun _ => c9, ?_⟩
    simp only [Act.put, List.getElem_toArray, List.getElem_cons_succ, List.getElem_cons_zero, List.setIfInBounds_toArray, List.set_cons_zero, List.set_cons_succ]
    refine wpW_one 6 _ rfl (by kernel_rfl) (step_val rfl (.pointer (some ⟨D, 2, none⟩)) (w' := w9) (by go_simp) ?_)
    refine ⟨fun _ => c9, ?_⟩
    simp only [Act.put, List.getElem_toArray, List.getElem_cons_succ, List.getElem_cons_zero, List.setIfInBounds_toArray, List.set_cons_zero, List.set_cons_succ]
    have c9' := H9.DA.c1
    simp only [Nat.zero_add] at c9'
    refine wpW_one 7 _ rfl (by kernel_rfl) (step_storeS rfl 19 18 rfl D 2 (s1 ++ s9) _ rfl rfl d9 f9 ?_)
    refine ⟨fun _ => c9', ?_⟩
    refine wpW_done (by kernel_rfl) ?_
    simp only [Act.put, List.getElem_toArray, List.getElem_cons_succ, List.getElem_cons_zero, List.setIfInBounds_toArray, List.set_cons_zero, List.set_cons_succ]
    clear G9 GL bl L1 K9 Gd
    go_wp2
    go_meet
    exact ⟨rfl, _, H9⟩
  case rest =>
    obtain ⟨rfl, x, G4⟩ := hcut
    clear G3
    go_wp2_with fail
    refine (pick_s 60 (by omega) G4.C.self (by omega)).mono ?_
    rintro e w7 ⟨x7, rfl, x70, x71, K7⟩
    have G7 := G4.draw K7
    clear G4 K7
    have hlc := G7.C.ltw
    go_upto_block 0 with fail
    go_cut [5] from 22 to 33 (fun s5 wx => s5 = .pointer (some ⟨D, 0, none⟩) ∧ ∃ x, MW w wx R D CB ao n cap f (A + 5) x)
    case first =>
      by_cases c0 : x7 = 0
      · subst c0
        have b8 := below_new w7 (.cells #[.string ⟨#[]⟩, .string ⟨#[122, 122, 122, 122]⟩] 9)
        have L8 : LsAt (w7.alloc (.cells #[.string ⟨#[]⟩, .string ⟨#[122, 122, 122, 122]⟩] 9)) w7.heap.size [(⟨#[]⟩ : ByteArray), ⟨#[122, 122, 122, 122]⟩] := LsAt.new w7 [(⟨#[]⟩ : ByteArray), ⟨#[122, 122, 122, 122]⟩] 9
        have G8 := G7.keep b8
        clear G7 b8
        go_wp2_with fail
        refine (of_s [(⟨#[]⟩ : ByteArray), ⟨#[122, 122, 122, 122]⟩] 4 (by decide) (by decide) w7.heap.size L8 (by omega) G8.C.self (by omega)).mono ?_
        rintro e w9 ⟨s9, hs9, rfl, K9⟩
        have G9 := G8.draw K9
        have GX := G9.set1 s9 (by omega)
        obtain ⟨_, q0, q1, q2, q3⟩ := id G9.DA
        simp only [Nat.zero_add] at q1 q2 q3
        have qf := G9.DF 1
        clear G8 G9 K9 L8
        go_wp2
        go_meet
        exact ⟨rfl, _, GX⟩
      have e0 : (x7 == 0) = false := by simp [c0]
      by_cases c1 : x7 = 1
      · subst c1
        have b8 := below_new w7 (.cells #[.int .i64 0, .int .i64 100, .int .i64 101] 3)
        have L8 : LiAt (w7.alloc (.cells #[.int .i64 0, .int .i64 100, .int .i64 101] 3)) w7.heap.size [0, 100, 101] := LiAt.new w7 [0, 100, 101] 3
        have G8 := G7.keep b8
        clear G7 b8
        go_wp2_with fail
        refine (among_s [0, 100, 101] (by decide) w7.heap.size L8 (by omega) G8.C.self (by omega)).mono ?_
        rintro e w9 ⟨v9, hv9, rfl, K9⟩
        have G9 := G8.draw K9
        have hvb : -9223372036854775808 ≤ v9 ∧ v9 ≤ 9223372036854775807 := by
          simp only [List.mem_cons, List.not_mem_nil, or_false] at hv9
          rcases hv9 with rfl | rfl | rfl <;> omega
        have GX := G9.set3 v9 hvb
        obtain ⟨_, q0, q1, q2, q3⟩ := id G9.DA
        simp only [Nat.zero_add] at q1 q2 q3
        have qf := G9.DF 3
        clear G8 G9 K9 L8 hv9
        go_wp2
        go_meet
        exact ⟨rfl, _, GX⟩
      have e1 : (x7 == 1) = false := by simp [c1]
      go_wp2
      go_meet
      exact ⟨rfl, _, G7.mono (by omega)⟩
    case rest =>
      obtain ⟨rfl, x', G8⟩ := hcut
      clear G7
      obtain ⟨_, r0, r1, r2, r3⟩ := id G8.RA
      obtain ⟨_, d0, d1, d2, d3⟩ := id G8.DA
      simp only [Nat.zero_add] at r1 r2 r3 d1 d2 d3
      have rf := G8.RF
      go_wp2
      have hne' := G8.ne
      refine bodyPost_ret (v := .agg #[.int .i64 x'.file, .string x'.least, .string x'.most, .int .i64 x'.many]) (by simp [results, Try.results33, go_sem, r0, r1, r2, r3]) rfl ⟨x', rfl, G8.bd, ?_⟩
      repeat' refine CS.others ?_ (Others.setCell _ _ _ _) (by omega)
      exact G8.C.mono (by omega)
end Go.Proofs.Ytagkhohglpjjlaa
