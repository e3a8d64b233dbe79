/- The model's cursor draws a key: the walk (made by dkey.py). -/
import Derived.Test.YtpggmgmdcccmeaaDl
import Derived.Test.YtpggmgmdcccmeaaOp
import Derived.Deep.CutRange
import Derived.Deep.DeepCutAuto
namespace Go.Proofs.Ytpggmgmdcccmeaa
open Go.RowKit
set_option linter.unusedSimpArgs false
set_option linter.unusedVariables false

theorem step_storeT {w : World} {ops : Array Oper} {o : Oper} {a : Act} {K : Act → World → Prop} {Q : Exit → Act → World → Prop} {E : Prop} (hgd : o.guard = none) (k j : Nat)
    (ho : o.op = .store 30 (.tmp k) (.tmp j)) (b q : Nat) (va : Option Addr) (n c : Nat) (u : Value) (hx : a.eval (.tmp k) = .pointer (some ⟨b, q, none⟩)) (hv : a.eval (.tmp j) = .slice va n c) (hc : w.cell? ⟨b, q, none⟩ = some u) (hf : w.frozen? ⟨b, q, none⟩ = false) (h : K (a.put o.dst undef) (w.setCell ⟨b, q, none⟩ (.slice va n c))) :
    if Region.wanted o (yielded ops a.tmps) = true then Oper.wp Try.prog o a w K Q else E := by
  have hw : Region.wanted o (yielded ops a.tmps) = true := by simp [Region.wanted, hgd]
  rw [if_pos hw]
  have hx' : a.tmps.getD k undef = .pointer (some ⟨b, q, none⟩) := hx
  have hv' : a.tmps.getD j undef = .slice va n c := hv
  unfold Oper.wp execOp
  simp only [ho, Act.eval, hx', hv']
  go_simp
  exact h

def TSz (T : List (ByteArray × ByteArray)) : Prop := ∀ p ∈ T, p.1.size ≤ 20 ∧ p.2.size ≤ 20
theorem sz_push {T : List (ByteArray × ByteArray)} {x y : ByteArray} (h : TSz T) (hp : x.size ≤ 20 ∧ y.size ≤ 20) : TSz (T ++ [(x, y)]) := by
  intro p hp'
  rcases List.mem_append.1 hp' with h1 | h1
  · exact h p h1
  · rw [List.mem_singleton.1 h1]; exact hp
/-- Some key is being drawn. -/
def DS (w0 w : World) (CB r kb : Nat) (ao : Option Addr) (n cap : Nat) (f : Nat → Int) (A k : Nat) : Prop :=
  ∃ (a : Nat) (m : ByteArray) (ua : Option Addr) (uc : Nat) (T : List (ByteArray × ByteArray)) (st : Int), KS w0 w CB r kb ao n cap f a m (.slice ua T.length uc) T st ∧ a ≤ A ∧ m.size ≤ 20 ∧ T.length ≤ k ∧ TSz T ∧ (-1 ≤ st ∧ st ≤ 1000000001)
theorem DS.mk' {w0 w : World} {CB r kb : Nat} {ao : Option Addr} {n cap : Nat} {f : Nat → Int} {A k a : Nat} {m : ByteArray} {ua : Option Addr} {uc l : Nat} {T : List (ByteArray × ByteArray)} {st : Int} (h : KS w0 w CB r kb ao n cap f a m (.slice ua l uc) T st) (ha : a ≤ A) (hm : m.size ≤ 20) (hT : T.length ≤ k) (hT2 : TSz T) (hst : -1 ≤ st ∧ st ≤ 1000000001) : DS w0 w CB r kb ao n cap f A k := by
  obtain ⟨e, _⟩ := TgL.row h.tg
  subst e
  exact ⟨a, m, ua, uc, T, st, h, ha, hm, hT, hT2, hst⟩
theorem grown_trans {a b c : World} {row : Option Nat} (h : a.grownBy b row) (k : b.grownBy c row) : a.grownBy c row :=
  ⟨k.os.trans h.os, k.tape.trans h.tape, k.output.trans h.output, Nat.le_trans h.size k.size, fun i hi hne => (k.block i (Nat.lt_of_lt_of_le hi h.size) hne).trans (h.block i hi hne)⟩
theorem KS.start {w wA w3 : World} {CB : Nat} {ao : Option Addr} {n cap : Nat} {f : Nat → Int} {a : Nat} {sd : Int} {m : ByteArray} {st : Int} {x0 x1 x2 : Value} (hlt : CB < w.heap.size) (hB : Cb w CB ao n f) (bA : Below w.heap.size w wA) (hr : w.heap.size < wA.heap.size) (h0 : wA.cell? ⟨w.heap.size, 0, none⟩ = some x0) (h1 : wA.cell? ⟨w.heap.size, 1, none⟩ = some x1) (h2 : wA.cell? ⟨w.heap.size, 2, none⟩ = some x2) (hf : ∀ j, wA.frozen? ⟨w.heap.size, j, none⟩ = false)
    (g : wA.grownBy w3 (some CB)) (hC : Cu w3 CB (.slice ao n cap) a sd) : KS w (w3.alloc (.cells #[.string m, .slice none 0 0, .int .i64 st] 32)) CB w.heap.size w3.heap.size ao n cap f a m (.slice none 0 0) [] st := by
  have b3 := below_new_tg w3 (.cells #[.string m, .slice none 0 0, .int .i64 st] 32)
  have s3 := g.size
  have n3 : (some w.heap.size : Option Nat) ≠ some CB := fun e => by injection e with e; omega
  refine ⟨⟨sd, hC.keep b3⟩, hB, hlt, Nat.le_refl _, by omega, KAt.new w3 m _ st _, fun j => by simp [go_sem], ⟨x0, x1, x2, (b3.cell (p := ⟨w.heap.size, 0, none⟩) (by show w.heap.size < _; omega)).trans (g.cell h0 n3), (b3.cell (p := ⟨w.heap.size, 1, none⟩) (by show w.heap.size < _; omega)).trans (g.cell h1 n3), (b3.cell (p := ⟨w.heap.size, 2, none⟩) (by show w.heap.size < _; omega)).trans (g.cell h2 n3)⟩, fun j => ?_, tgL_nil _ _, grown_trans (grown_trans (grown_of_below bA _) g) (grown_of_below b3 _)⟩
  rw [b3.frozen (p := ⟨w.heap.size, j, none⟩) (by show w.heap.size < _; omega), frozen_grown (p := ⟨w.heap.size, j, none⟩) g hr n3]
  exact hf j
theorem KS.fin {w0 w : World} {CB r kb : Nat} {ao : Option Addr} {n cap : Nat} {f : Nat → Int} {a : Nat} {m : ByteArray} {v : Value} {T : List (ByteArray × ByteArray)} {st : Int} (h : KS w0 w CB r kb ao n cap f a m v T st) (x y z : Value) :
    TgL (((w.setCell ⟨r, 0, none⟩ x).setCell ⟨r, 1, none⟩ y).setCell ⟨r, 2, none⟩ z) w0.heap.size v T ∧ (∃ sd, Cu (((w.setCell ⟨r, 0, none⟩ x).setCell ⟨r, 1, none⟩ y).setCell ⟨r, 2, none⟩ z) CB (.slice ao n cap) a sd) ∧ w0.grownBy (((w.setCell ⟨r, 0, none⟩ x).setCell ⟨r, 1, none⟩ y).setCell ⟨r, 2, none⟩ z) (some CB) := by
  have ho : Others r w (((w.setCell ⟨r, 0, none⟩ x).setCell ⟨r, 1, none⟩ y).setCell ⟨r, 2, none⟩ z) := ((Others.setCell w r 0 x).trans (Others.setCell _ r 1 y)).trans (Others.setCell _ r 2 z)
  have h1 := h.o1
  have h2 := h.o2
  have h3 := h.o3
  obtain ⟨sd, hc⟩ := h.cur
  have hcc : ∀ i, (((w.setCell ⟨r, 0, none⟩ x).setCell ⟨r, 1, none⟩ y).setCell ⟨r, 2, none⟩ z).cell? ⟨CB, i, none⟩ = w.cell? ⟨CB, i, none⟩ := fun i => World.cell?_of_block (w := w) (a := ⟨CB, i, none⟩) (ho.block CB (by omega))
  refine ⟨ownsRow_mono (ownsRow_others h.tg ho (fun e => ?_)) (by omega), ⟨sd, ⟨by rw [ho.size]; exact hc.lt, (hcc 0).trans hc.c0, (hcc 1).trans hc.c1, (hcc 2).trans hc.c2, fun i => ?_, hc.sb⟩⟩, ho.os.trans h.gr.os, ho.tape.trans h.gr.tape, ho.output.trans h.gr.output, by rw [ho.size]; exact h.gr.size, fun i hi hne => (ho.block i (by omega)).trans (h.gr.block i hi hne)⟩
  · have := (World.ownsRow.lt h.tg r e).1
    omega
  · rw [World.frozen?_of_block (w := w) (a := ⟨CB, i, none⟩) (ho.block CB (by omega))]; exact hc.fz i
/-- What a drawn key is. -/
def DkO (CB : Nat) (cv : Value) (A : Nat) (w : World) (e : Ending) (w' : World) : Prop :=
  ∃ (m : ByteArray) (va : Option Addr) (vc : Nat) (T : List (ByteArray × ByteArray)) (st : Int), e = .returned (.agg #[.string m, .slice va T.length vc, .int .i64 st]) ∧ TgL w' w.heap.size (.slice va T.length vc) T ∧ m.size ≤ 20 ∧ T.length ≤ 3 ∧ TSz T ∧ (-1 ≤ st ∧ st ≤ 1000000001) ∧ (∃ a sd, a ≤ A ∧ Cu w' CB cv a sd) ∧ w.grownBy w' (some CB)

set_option maxHeartbeats 1600000 in
set_option maxRecDepth 100000 in
theorem key_any (CB : Nat) (ao : Option Addr) (n cap a0 : Nat) (f : Nat → Int) (sd : Int) (w : World) (hC : Cu w CB (.slice ao n cap) a0 sd) (hB : Cb w CB ao n f) (hn : n ≤ 1048576) (ha : a0 ≤ 100000) :
    Calls Try.prog 55 #[.pointer (some ⟨CB, 0, none⟩)] w fun e w' => DkO CB (.slice ao n cap) (a0 + 20) w e w' := by
  have b1 := (below_new_tg w (.cells #[.string ⟨#[]⟩, .slice none 0 0, .int .i64 0] 32))
  have b2 := (b1.alloc (by simp) (.cells #[.string ⟨#[99, 112, 117]⟩, .string ⟨#[109, 101, 109]⟩, .string ⟨#[109]⟩, .string ⟨#[99, 112]⟩] 9))
  have C1 := hC.keep b2
  have B1 := hB.keep b2
  have L1 : LsAt ((w.alloc (.cells #[.string ⟨#[]⟩, .slice none 0 0, .int .i64 0] 32)).alloc (.cells #[.string ⟨#[99, 112, 117]⟩, .string ⟨#[109, 101, 109]⟩, .string ⟨#[109]⟩, .string ⟨#[99, 112]⟩] 9)) (w.heap.size + 1) [(⟨#[99, 112, 117]⟩ : ByteArray), (⟨#[109, 101, 109]⟩ : ByteArray), (⟨#[109]⟩ : ByteArray), (⟨#[99, 112]⟩ : ByteArray)] := by have := LsAt.new (w.alloc (.cells #[.string ⟨#[]⟩, .slice none 0 0, .int .i64 0] 32)) [(⟨#[99, 112, 117]⟩ : ByteArray), (⟨#[109, 101, 109]⟩ : ByteArray), (⟨#[109]⟩ : ByteArray), (⟨#[99, 112]⟩ : ByteArray)] 9; rwa [World.size_alloc] at this
  have hlt := hC.lt
  have r0 : ∀ j, (w.alloc (.cells #[.string ⟨#[]⟩, .slice none 0 0, .int .i64 0] 32)).frozen? ⟨w.heap.size, j, none⟩ = false := fun j => by simp [go_sem]
  go_enter Try.func55, Try.ntmps55
  go_wp2_with fail
  refine (of_list [(⟨#[99, 112, 117]⟩ : ByteArray), (⟨#[109, 101, 109]⟩ : ByteArray), (⟨#[109]⟩ : ByteArray), (⟨#[99, 112]⟩ : ByteArray)] 20 (by decide) (by decide) (w.heap.size + 1) CB ao n cap a0 f sd _ C1 B1 hn (by omega) L1 (by omega)).mono ?_
  rintro e w2 ⟨m, hm, rfl, ⟨sd2, C2⟩, g2⟩
  have B2 := B1.grown g2
  go_wp2_with fail
  refine (pick_any 6 (by omega) CB ao n cap _ f sd2 _ C2 B2 hn (by omega)).mono ?_
  rintro e w3 ⟨x, rfl, x0, x1, ⟨sd3, C3⟩, g3⟩
  have hx : IntKind.i64.wrap (10 * x) = 10 * x := by rw [IntKind.wrap_i64] <;> omega
  have K4 := KS.start (m := m) (st := 10 * x) hlt hB b2 (by simp; omega) (x0 := .string ⟨#[]⟩) (x1 := .slice none 0 0) (x2 := .int .i64 0) (by simp [go_sem]) (by simp [go_sem]) (by simp [go_sem]) (fun j => by simp [go_sem]) (grown_trans g2 g3) C3
  clear g2 g3 C3 C2 B2 B1 C1 L1 b1 b2 r0
  obtain ⟨k0l, k00, k01, k02⟩ := id K4.box
  obtain ⟨sd4, C4⟩ := K4.cur
  go_wp2_with fail
  obtain ⟨kb, hkb⟩ : ∃ kb, w3.heap.size = kb := ⟨_, rfl⟩
  rw [hkb] at K4 ⊢
  obtain ⟨w4, hw4⟩ : ∃ w4, w3.alloc (.cells #[.string m, .slice none 0 0, .int .i64 (10 * x)] 32) = w4 := ⟨_, rfl⟩
  rw [hw4] at K4 C4 ⊢
  clear hw4 k0l k00 k01 k02 hkb
  refine (one_any 2 (by omega) CB ao n cap _ f sd4 _ C4 K4.cb hn (by omega)).mono ?_
  rintro e w5 ⟨c1, rfl, C5, g5⟩
  have K5 := K4.grown g5 C5
  clear C4 K4 C5 g5
  go_upto_if 12 with fail
  go_cut [0, 2, 3] from 13 (fun s0 s2 s3 wx => s0 = .pointer (some ⟨CB, 0, none⟩) ∧ s2 = .pointer (some ⟨w.heap.size, 0, none⟩) ∧ s3 = .pointer (some ⟨kb, 0, none⟩) ∧ DS w wx CB w.heap.size kb ao n cap f (a0 + 10) 1)
  case first =>
    cases c1
    · go_wp2
      go_meet
      exact ⟨rfl, rfl, rfl, DS.mk' (l := 0) K5 (by omega) hm (by simp) (fun p hp => by cases hp) (by omega)⟩
    · have hst : -1 ≤ 10 * x ∧ 10 * x ≤ 1000000001 := by omega
      obtain ⟨T, hTe⟩ : ∃ T : List (ByteArray × ByteArray), [] = T := ⟨_, rfl⟩
      have hT : T.length ≤ 0 := by rw [← hTe]; simp
      have hT2 : TSz T := by rw [← hTe]; intro p hp; cases hp
      obtain ⟨ua, uc, hua⟩ : ∃ (ua : Option Addr) (uc : Nat), Value.slice none 0 0 = .slice ua T.length uc := ⟨none, 0, by rw [← hTe]; rfl⟩
      rw [hTe, hua] at K5
      clear hTe hua
      have Kc := K5
      obtain ⟨k0l, k00, k01, k02⟩ := id K5.box
      go_wp2
      refine wp_region_w (fun w' => w'.cell? ⟨kb, 1, none⟩ = some (.slice ua T.length uc)) (fun j => j != 12) (by kernel_rfl) ?_
      change wpW _ _ _ _ _ _ 13 _ _ w5.drew
      have K0 := Kc.keep (Below.refl _ w5).drew
      have hS0 : (fun w' => w'.cell? ⟨kb, 1, none⟩ = some (.slice ua T.length uc)) w5.drew := K0.box.c1
      refine wpW_take 0 _ (.pointer (some ⟨kb, 1, none⟩)) rfl (by kernel_rfl) (by kernel_rfl) (by kernel_rfl) (fun _ _ _ h => h) (by kernel_rfl) (.inl ⟨rfl, fun w' hS' => by go_simp⟩) hS0 ?_
      refine wpW_take 1 _ (.slice ua T.length uc) rfl (by kernel_rfl) (by kernel_rfl) (by kernel_rfl) (fun _ _ _ h => h) (by kernel_rfl) (.inl ⟨rfl, fun w' hS' => by go_simp⟩) hS0 ?_
      refine wpW_take 2 _ (.pointer (some ⟨CB, 0, none⟩)) rfl (by kernel_rfl) (by kernel_rfl) (by kernel_rfl) (fun _ _ _ h => h) (by kernel_rfl) (.inl ⟨rfl, fun w' hS' => by go_simp⟩) hS0 ?_
      refine wpW_take 5 _ (.pointer (some ⟨CB, 0, none⟩)) rfl (by kernel_rfl) (by kernel_rfl) (by kernel_rfl) (fun _ _ _ h => h) (by kernel_rfl) (.inl ⟨rfl, fun w' hS' => by go_simp⟩) hS0 ?_
      simp only [Act.put, List.getElem_toArray, List.getElem_cons_succ, List.getElem_cons_zero, List.setIfInBounds_toArray, List.set_cons_zero, List.set_cons_succ]
      refine wpW_two 3 6 _ _ rfl rfl (by kernel_rfl) ?_ ?_
      · refine step_val rfl (.slice (some ⟨w5.drew.heap.size, 0, none⟩) 3 3) (w' := (w5.drew.alloc (.cells #[.string ⟨#[97]⟩, .string ⟨#[97, 98]⟩, .string ⟨#[104, 111, 115, 116]⟩] 9))) (by go_simp) ?_
        have K23x := K0.keep (below_new_tg w5.drew (.cells #[.string ⟨#[97]⟩, .string ⟨#[97, 98]⟩, .string ⟨#[104, 111, 115, 116]⟩] 9))
        have L24x : LsAt (w5.drew.alloc (.cells #[.string ⟨#[97]⟩, .string ⟨#[97, 98]⟩, .string ⟨#[104, 111, 115, 116]⟩] 9)) w5.drew.heap.size [(⟨#[97]⟩ : ByteArray), (⟨#[97, 98]⟩ : ByteArray), (⟨#[104, 111, 115, 116]⟩ : ByteArray)] := LsAt.new w5.drew [(⟨#[97]⟩ : ByteArray), (⟨#[97, 98]⟩ : ByteArray), (⟨#[104, 111, 115, 116]⟩ : ByteArray)] 9
        refine ⟨fun _ => K23x.box.c1, ?_⟩
        simp only [Act.put, List.getElem_toArray, List.getElem_cons_succ, List.getElem_cons_zero, List.setIfInBounds_toArray, List.set_cons_zero, List.set_cons_succ]
        refine wpW_two 4 6 _ _ rfl rfl (by kernel_rfl) ?_ ?_
        · obtain ⟨sd31x, c30x⟩ := K23x.cur
          have ne32x : w5.drew.heap.size ≠ CB := by have e1 := K0.gr.size; have e2 := K23x.o1; intro e; (try simp at e1); (try simp at e); omega
          refine step_call rfl 73 #[.pointer (some ⟨CB, 0, none⟩), .slice (some ⟨w5.drew.heap.size, 0, none⟩) 3 3] _ (by go_simp) (of_list [(⟨#[97]⟩ : ByteArray), (⟨#[97, 98]⟩ : ByteArray), (⟨#[104, 111, 115, 116]⟩ : ByteArray)] 20 (by decide) (by decide) _ CB ao n cap _ f sd31x _ c30x K23x.cb hn (by omega) L24x ne32x) ?_
          rintro e u25x ⟨s26x, z27x, rfl, c30x, g28x⟩
          have K29x := K23x.grown g28x c30x
          refine ⟨_, rfl, fun _ => K29x.box.c1, ?_⟩
          simp only [Act.put, List.getElem_toArray, List.getElem_cons_succ, List.getElem_cons_zero, List.setIfInBounds_toArray, List.set_cons_zero, List.set_cons_succ]
          refine wpW_one 6 _ rfl (by kernel_rfl) (step_val rfl (.slice (some ⟨u25x.heap.size, 0, none⟩) 3 3) (w' := (u25x.alloc (.cells #[.string ⟨#[120]⟩, .string ⟨#[120, 121]⟩, .string ⟨#[122]⟩] 9))) (by go_simp) ?_)
          have K33x := K29x.keep (below_new_tg u25x (.cells #[.string ⟨#[120]⟩, .string ⟨#[120, 121]⟩, .string ⟨#[122]⟩] 9))
          have L34x : LsAt (u25x.alloc (.cells #[.string ⟨#[120]⟩, .string ⟨#[120, 121]⟩, .string ⟨#[122]⟩] 9)) u25x.heap.size [(⟨#[120]⟩ : ByteArray), (⟨#[120, 121]⟩ : ByteArray), (⟨#[122]⟩ : ByteArray)] := LsAt.new u25x [(⟨#[120]⟩ : ByteArray), (⟨#[120, 121]⟩ : ByteArray), (⟨#[122]⟩ : ByteArray)] 9
          refine ⟨fun _ => K33x.box.c1, ?_⟩
          simp only [Act.put, List.getElem_toArray, List.getElem_cons_succ, List.getElem_cons_zero, List.setIfInBounds_toArray, List.set_cons_zero, List.set_cons_succ]
          obtain ⟨sd41x, c40x⟩ := K33x.cur
          have ne42x : u25x.heap.size ≠ CB := by have e1 := K29x.gr.size; have e2 := K33x.o1; intro e; (try simp at e1); (try simp at e); omega
          refine wpW_one 7 _ rfl (by kernel_rfl) (step_call rfl 73 #[.pointer (some ⟨CB, 0, none⟩), .slice (some ⟨u25x.heap.size, 0, none⟩) 3 3] _ (by go_simp) (of_list [(⟨#[120]⟩ : ByteArray), (⟨#[120, 121]⟩ : ByteArray), (⟨#[122]⟩ : ByteArray)] 20 (by decide) (by decide) _ CB ao n cap _ f sd41x _ c40x K33x.cb hn (by omega) L34x ne42x) ?_)
          rintro e u35x ⟨s36x, z37x, rfl, c40x, g38x⟩
          have K39x := K33x.grown g38x c40x
          refine ⟨_, rfl, fun _ => K39x.box.c1, ?_⟩
          simp only [Act.put, List.getElem_toArray, List.getElem_cons_succ, List.getElem_cons_zero, List.setIfInBounds_toArray, List.set_cons_zero, List.set_cons_succ]
          refine wpW_take 8 _ (.agg #[.string s26x, .string s36x]) rfl (by kernel_rfl) (by kernel_rfl) (by kernel_rfl) (fun _ _ _ h => h) (by kernel_rfl) (.inl ⟨rfl, fun w' hS' => by go_simp⟩) K39x.box.c1 ?_
          simp only [Act.put, List.getElem_toArray, List.getElem_cons_succ, List.getElem_cons_zero, List.setIfInBounds_toArray, List.set_cons_zero, List.set_cons_succ]
          refine wpW_one 9 _ rfl (by kernel_rfl) (step_val rfl (.slice (some ⟨u35x.heap.size, 0, none⟩) 1 1) (w' := (u35x.alloc (.cells #[.string s26x, .string s36x] 92))) (by go_simp) ?_)
          refine ⟨fun _ => (K39x.keep (below_new_tg u35x (.cells #[.string s26x, .string s36x] 92))).box.c1, ?_⟩
          simp only [Act.put, List.getElem_toArray, List.getElem_cons_succ, List.getElem_cons_zero, List.setIfInBounds_toArray, List.set_cons_zero, List.set_cons_succ]
          obtain ⟨va, vc, wq, hrun, hc1, hfz, K43x⟩ := K39x.push (by omega) s26x s36x 30
          refine wpW_one 10 _ rfl (by kernel_rfl) (step_append_ty rfl (.tmp 14) (.tmp 22) 30 30 rfl rfl (.slice ua T.length uc) (.slice (some ⟨u35x.heap.size, 0, none⟩) 1 1) (.slice va (T.length + 1) vc) (by simp [Act.eval, Act.put]) (by simp [Act.eval, Act.put]) wq hrun ?_)
          refine ⟨fun _ => hc1, ?_⟩
          simp only [Act.put, List.getElem_toArray, List.getElem_cons_succ, List.getElem_cons_zero, List.setIfInBounds_toArray, List.set_cons_zero, List.set_cons_succ]
          refine wpW_take 11 _ (.pointer (some ⟨kb, 1, none⟩)) rfl (by kernel_rfl) (by kernel_rfl) (by kernel_rfl) (fun _ _ _ h => h) (by kernel_rfl) (.inl ⟨rfl, fun w' hS' => by go_simp⟩) hc1 ?_
          simp only [Act.put, List.getElem_toArray, List.getElem_cons_succ, List.getElem_cons_zero, List.setIfInBounds_toArray, List.set_cons_zero, List.set_cons_succ]
          refine wpW_one 12 _ rfl (by kernel_rfl) (step_storeT rfl 24 23 rfl kb 1 va (T.length + 1) vc (.slice ua T.length uc) (by simp [Act.eval, Act.put]) (by simp [Act.eval, Act.put]) hc1 hfz ?_)
          refine ⟨fun h => (by cases h), ?_⟩
          refine wpW_done (by kernel_rfl) ?_
          try simp only [Act.put, List.getElem_toArray, List.getElem_cons_succ, List.getElem_cons_zero, List.setIfInBounds_toArray, List.set_cons_zero, List.set_cons_succ]
          go_wp2
          go_meet
          exact ⟨rfl, rfl, rfl, DS.mk' K43x (by omega) hm (by rw [List.length_append]; simp only [List.length_cons, List.length_nil]; omega) (sz_push hT2 ⟨z27x, z37x⟩) hst⟩
        · refine step_val rfl (.slice (some ⟨(w5.drew.alloc (.cells #[.string ⟨#[97]⟩, .string ⟨#[97, 98]⟩, .string ⟨#[104, 111, 115, 116]⟩] 9)).heap.size, 0, none⟩) 3 3) (w' := ((w5.drew.alloc (.cells #[.string ⟨#[97]⟩, .string ⟨#[97, 98]⟩, .string ⟨#[104, 111, 115, 116]⟩] 9)).alloc (.cells #[.string ⟨#[120]⟩, .string ⟨#[120, 121]⟩, .string ⟨#[122]⟩] 9))) (by go_simp) ?_
          have K44x := K23x.keep (below_new_tg (w5.drew.alloc (.cells #[.string ⟨#[97]⟩, .string ⟨#[97, 98]⟩, .string ⟨#[104, 111, 115, 116]⟩] 9)) (.cells #[.string ⟨#[120]⟩, .string ⟨#[120, 121]⟩, .string ⟨#[122]⟩] 9))
          have L45x : LsAt ((w5.drew.alloc (.cells #[.string ⟨#[97]⟩, .string ⟨#[97, 98]⟩, .string ⟨#[104, 111, 115, 116]⟩] 9)).alloc (.cells #[.string ⟨#[120]⟩, .string ⟨#[120, 121]⟩, .string ⟨#[122]⟩] 9)) (w5.drew.alloc (.cells #[.string ⟨#[97]⟩, .string ⟨#[97, 98]⟩, .string ⟨#[104, 111, 115, 116]⟩] 9)).heap.size [(⟨#[120]⟩ : ByteArray), (⟨#[120, 121]⟩ : ByteArray), (⟨#[122]⟩ : ByteArray)] := LsAt.new (w5.drew.alloc (.cells #[.string ⟨#[97]⟩, .string ⟨#[97, 98]⟩, .string ⟨#[104, 111, 115, 116]⟩] 9)) [(⟨#[120]⟩ : ByteArray), (⟨#[120, 121]⟩ : ByteArray), (⟨#[122]⟩ : ByteArray)] 9
          have L46x := L24x.keep (below_new_tg (w5.drew.alloc (.cells #[.string ⟨#[97]⟩, .string ⟨#[97, 98]⟩, .string ⟨#[104, 111, 115, 116]⟩] 9)) (.cells #[.string ⟨#[120]⟩, .string ⟨#[120, 121]⟩, .string ⟨#[122]⟩] 9))
          refine ⟨fun _ => K44x.box.c1, ?_⟩
          simp only [Act.put, List.getElem_toArray, List.getElem_cons_succ, List.getElem_cons_zero, List.setIfInBounds_toArray, List.set_cons_zero, List.set_cons_succ]
          obtain ⟨sd53x, c52x⟩ := K44x.cur
          have ne54x : w5.drew.heap.size ≠ CB := by have e1 := K0.gr.size; have e2 := K44x.o1; intro e; (try simp at e1); (try simp at e); omega
          refine wpW_one 4 _ rfl (by kernel_rfl) (step_call rfl 73 #[.pointer (some ⟨CB, 0, none⟩), .slice (some ⟨w5.drew.heap.size, 0, none⟩) 3 3] _ (by go_simp) (of_list [(⟨#[97]⟩ : ByteArray), (⟨#[97, 98]⟩ : ByteArray), (⟨#[104, 111, 115, 116]⟩ : ByteArray)] 20 (by decide) (by decide) _ CB ao n cap _ f sd53x _ c52x K44x.cb hn (by omega) L46x ne54x) ?_)
          rintro e u47x ⟨s48x, z49x, rfl, c52x, g50x⟩
          have K51x := K44x.grown g50x c52x
          have ne56x : (w5.drew.alloc (.cells #[.string ⟨#[97]⟩, .string ⟨#[97, 98]⟩, .string ⟨#[104, 111, 115, 116]⟩] 9)).heap.size ≠ CB := by have e1 := K23x.gr.size; have e2 := K44x.o1; intro e; (try simp at e1); (try simp at e); omega
          have L55x := L45x.grown g50x ne56x
          refine ⟨_, rfl, fun _ => K51x.box.c1, ?_⟩
          simp only [Act.put, List.getElem_toArray, List.getElem_cons_succ, List.getElem_cons_zero, List.setIfInBounds_toArray, List.set_cons_zero, List.set_cons_succ]
          obtain ⟨sd63x, c62x⟩ := K51x.cur
          have ne64x : (w5.drew.alloc (.cells #[.string ⟨#[97]⟩, .string ⟨#[97, 98]⟩, .string ⟨#[104, 111, 115, 116]⟩] 9)).heap.size ≠ CB := by have e1 := K23x.gr.size; have e2 := K51x.o1; intro e; (try simp at e1); (try simp at e); omega
          refine wpW_one 7 _ rfl (by kernel_rfl) (step_call rfl 73 #[.pointer (some ⟨CB, 0, none⟩), .slice (some ⟨(w5.drew.alloc (.cells #[.string ⟨#[97]⟩, .string ⟨#[97, 98]⟩, .string ⟨#[104, 111, 115, 116]⟩] 9)).heap.size, 0, none⟩) 3 3] _ (by go_simp) (of_list [(⟨#[120]⟩ : ByteArray), (⟨#[120, 121]⟩ : ByteArray), (⟨#[122]⟩ : ByteArray)] 20 (by decide) (by decide) _ CB ao n cap _ f sd63x _ c62x K51x.cb hn (by omega) L55x ne64x) ?_)
          rintro e u57x ⟨s58x, z59x, rfl, c62x, g60x⟩
          have K61x := K51x.grown g60x c62x
          refine ⟨_, rfl, fun _ => K61x.box.c1, ?_⟩
          simp only [Act.put, List.getElem_toArray, List.getElem_cons_succ, List.getElem_cons_zero, List.setIfInBounds_toArray, List.set_cons_zero, List.set_cons_succ]
          refine wpW_take 8 _ (.agg #[.string s48x, .string s58x]) rfl (by kernel_rfl) (by kernel_rfl) (by kernel_rfl) (fun _ _ _ h => h) (by kernel_rfl) (.inl ⟨rfl, fun w' hS' => by go_simp⟩) K61x.box.c1 ?_
          simp only [Act.put, List.getElem_toArray, List.getElem_cons_succ, List.getElem_cons_zero, List.setIfInBounds_toArray, List.set_cons_zero, List.set_cons_succ]
          refine wpW_one 9 _ rfl (by kernel_rfl) (step_val rfl (.slice (some ⟨u57x.heap.size, 0, none⟩) 1 1) (w' := (u57x.alloc (.cells #[.string s48x, .string s58x] 92))) (by go_simp) ?_)
          refine ⟨fun _ => (K61x.keep (below_new_tg u57x (.cells #[.string s48x, .string s58x] 92))).box.c1, ?_⟩
          simp only [Act.put, List.getElem_toArray, List.getElem_cons_succ, List.getElem_cons_zero, List.setIfInBounds_toArray, List.set_cons_zero, List.set_cons_succ]
          obtain ⟨va, vc, wq, hrun, hc1, hfz, K65x⟩ := K61x.push (by omega) s48x s58x 30
          refine wpW_one 10 _ rfl (by kernel_rfl) (step_append_ty rfl (.tmp 14) (.tmp 22) 30 30 rfl rfl (.slice ua T.length uc) (.slice (some ⟨u57x.heap.size, 0, none⟩) 1 1) (.slice va (T.length + 1) vc) (by simp [Act.eval, Act.put]) (by simp [Act.eval, Act.put]) wq hrun ?_)
          refine ⟨fun _ => hc1, ?_⟩
          simp only [Act.put, List.getElem_toArray, List.getElem_cons_succ, List.getElem_cons_zero, List.setIfInBounds_toArray, List.set_cons_zero, List.set_cons_succ]
          refine wpW_take 11 _ (.pointer (some ⟨kb, 1, none⟩)) rfl (by kernel_rfl) (by kernel_rfl) (by kernel_rfl) (fun _ _ _ h => h) (by kernel_rfl) (.inl ⟨rfl, fun w' hS' => by go_simp⟩) hc1 ?_
          simp only [Act.put, List.getElem_toArray, List.getElem_cons_succ, List.getElem_cons_zero, List.setIfInBounds_toArray, List.set_cons_zero, List.set_cons_succ]
          refine wpW_one 12 _ rfl (by kernel_rfl) (step_storeT rfl 24 23 rfl kb 1 va (T.length + 1) vc (.slice ua T.length uc) (by simp [Act.eval, Act.put]) (by simp [Act.eval, Act.put]) hc1 hfz ?_)
          refine ⟨fun h => (by cases h), ?_⟩
          refine wpW_done (by kernel_rfl) ?_
          try simp only [Act.put, List.getElem_toArray, List.getElem_cons_succ, List.getElem_cons_zero, List.setIfInBounds_toArray, List.set_cons_zero, List.set_cons_succ]
          go_wp2
          go_meet
          exact ⟨rfl, rfl, rfl, DS.mk' K65x (by omega) hm (by rw [List.length_append]; simp only [List.length_cons, List.length_nil]; omega) (sz_push hT2 ⟨z49x, z59x⟩) hst⟩
      · refine step_val rfl (.slice (some ⟨w5.drew.heap.size, 0, none⟩) 3 3) (w' := (w5.drew.alloc (.cells #[.string ⟨#[120]⟩, .string ⟨#[120, 121]⟩, .string ⟨#[122]⟩] 9))) (by go_simp) ?_
        have K66x := K0.keep (below_new_tg w5.drew (.cells #[.string ⟨#[120]⟩, .string ⟨#[120, 121]⟩, .string ⟨#[122]⟩] 9))
        have L67x : LsAt (w5.drew.alloc (.cells #[.string ⟨#[120]⟩, .string ⟨#[120, 121]⟩, .string ⟨#[122]⟩] 9)) w5.drew.heap.size [(⟨#[120]⟩ : ByteArray), (⟨#[120, 121]⟩ : ByteArray), (⟨#[122]⟩ : ByteArray)] := LsAt.new w5.drew [(⟨#[120]⟩ : ByteArray), (⟨#[120, 121]⟩ : ByteArray), (⟨#[122]⟩ : ByteArray)] 9
        refine ⟨fun _ => K66x.box.c1, ?_⟩
        simp only [Act.put, List.getElem_toArray, List.getElem_cons_succ, List.getElem_cons_zero, List.setIfInBounds_toArray, List.set_cons_zero, List.set_cons_succ]
        refine wpW_one 3 _ rfl (by kernel_rfl) (step_val rfl (.slice (some ⟨(w5.drew.alloc (.cells #[.string ⟨#[120]⟩, .string ⟨#[120, 121]⟩, .string ⟨#[122]⟩] 9)).heap.size, 0, none⟩) 3 3) (w' := ((w5.drew.alloc (.cells #[.string ⟨#[120]⟩, .string ⟨#[120, 121]⟩, .string ⟨#[122]⟩] 9)).alloc (.cells #[.string ⟨#[97]⟩, .string ⟨#[97, 98]⟩, .string ⟨#[104, 111, 115, 116]⟩] 9))) (by go_simp) ?_)
        have K68x := K66x.keep (below_new_tg (w5.drew.alloc (.cells #[.string ⟨#[120]⟩, .string ⟨#[120, 121]⟩, .string ⟨#[122]⟩] 9)) (.cells #[.string ⟨#[97]⟩, .string ⟨#[97, 98]⟩, .string ⟨#[104, 111, 115, 116]⟩] 9))
        have L69x : LsAt ((w5.drew.alloc (.cells #[.string ⟨#[120]⟩, .string ⟨#[120, 121]⟩, .string ⟨#[122]⟩] 9)).alloc (.cells #[.string ⟨#[97]⟩, .string ⟨#[97, 98]⟩, .string ⟨#[104, 111, 115, 116]⟩] 9)) (w5.drew.alloc (.cells #[.string ⟨#[120]⟩, .string ⟨#[120, 121]⟩, .string ⟨#[122]⟩] 9)).heap.size [(⟨#[97]⟩ : ByteArray), (⟨#[97, 98]⟩ : ByteArray), (⟨#[104, 111, 115, 116]⟩ : ByteArray)] := LsAt.new (w5.drew.alloc (.cells #[.string ⟨#[120]⟩, .string ⟨#[120, 121]⟩, .string ⟨#[122]⟩] 9)) [(⟨#[97]⟩ : ByteArray), (⟨#[97, 98]⟩ : ByteArray), (⟨#[104, 111, 115, 116]⟩ : ByteArray)] 9
        have L70x := L67x.keep (below_new_tg (w5.drew.alloc (.cells #[.string ⟨#[120]⟩, .string ⟨#[120, 121]⟩, .string ⟨#[122]⟩] 9)) (.cells #[.string ⟨#[97]⟩, .string ⟨#[97, 98]⟩, .string ⟨#[104, 111, 115, 116]⟩] 9))
        refine ⟨fun _ => K68x.box.c1, ?_⟩
        simp only [Act.put, List.getElem_toArray, List.getElem_cons_succ, List.getElem_cons_zero, List.setIfInBounds_toArray, List.set_cons_zero, List.set_cons_succ]
        obtain ⟨sd77x, c76x⟩ := K68x.cur
        have ne78x : (w5.drew.alloc (.cells #[.string ⟨#[120]⟩, .string ⟨#[120, 121]⟩, .string ⟨#[122]⟩] 9)).heap.size ≠ CB := by have e1 := K66x.gr.size; have e2 := K68x.o1; intro e; (try simp at e1); (try simp at e); omega
        refine wpW_one 4 _ rfl (by kernel_rfl) (step_call rfl 73 #[.pointer (some ⟨CB, 0, none⟩), .slice (some ⟨(w5.drew.alloc (.cells #[.string ⟨#[120]⟩, .string ⟨#[120, 121]⟩, .string ⟨#[122]⟩] 9)).heap.size, 0, none⟩) 3 3] _ (by go_simp) (of_list [(⟨#[97]⟩ : ByteArray), (⟨#[97, 98]⟩ : ByteArray), (⟨#[104, 111, 115, 116]⟩ : ByteArray)] 20 (by decide) (by decide) _ CB ao n cap _ f sd77x _ c76x K68x.cb hn (by omega) L69x ne78x) ?_)
        rintro e u71x ⟨s72x, z73x, rfl, c76x, g74x⟩
        have K75x := K68x.grown g74x c76x
        have ne80x : w5.drew.heap.size ≠ CB := by have e1 := K0.gr.size; have e2 := K68x.o1; intro e; (try simp at e1); (try simp at e); omega
        have L79x := L70x.grown g74x ne80x
        refine ⟨_, rfl, fun _ => K75x.box.c1, ?_⟩
        simp only [Act.put, List.getElem_toArray, List.getElem_cons_succ, List.getElem_cons_zero, List.setIfInBounds_toArray, List.set_cons_zero, List.set_cons_succ]
        obtain ⟨sd87x, c86x⟩ := K75x.cur
        have ne88x : w5.drew.heap.size ≠ CB := by have e1 := K0.gr.size; have e2 := K75x.o1; intro e; (try simp at e1); (try simp at e); omega
        refine wpW_one 7 _ rfl (by kernel_rfl) (step_call rfl 73 #[.pointer (some ⟨CB, 0, none⟩), .slice (some ⟨w5.drew.heap.size, 0, none⟩) 3 3] _ (by go_simp) (of_list [(⟨#[120]⟩ : ByteArray), (⟨#[120, 121]⟩ : ByteArray), (⟨#[122]⟩ : ByteArray)] 20 (by decide) (by decide) _ CB ao n cap _ f sd87x _ c86x K75x.cb hn (by omega) L79x ne88x) ?_)
        rintro e u81x ⟨s82x, z83x, rfl, c86x, g84x⟩
        have K85x := K75x.grown g84x c86x
        refine ⟨_, rfl, fun _ => K85x.box.c1, ?_⟩
        simp only [Act.put, List.getElem_toArray, List.getElem_cons_succ, List.getElem_cons_zero, List.setIfInBounds_toArray, List.set_cons_zero, List.set_cons_succ]
        refine wpW_take 8 _ (.agg #[.string s72x, .string s82x]) rfl (by kernel_rfl) (by kernel_rfl) (by kernel_rfl) (fun _ _ _ h => h) (by kernel_rfl) (.inl ⟨rfl, fun w' hS' => by go_simp⟩) K85x.box.c1 ?_
        simp only [Act.put, List.getElem_toArray, List.getElem_cons_succ, List.getElem_cons_zero, List.setIfInBounds_toArray, List.set_cons_zero, List.set_cons_succ]
        refine wpW_one 9 _ rfl (by kernel_rfl) (step_val rfl (.slice (some ⟨u81x.heap.size, 0, none⟩) 1 1) (w' := (u81x.alloc (.cells #[.string s72x, .string s82x] 92))) (by go_simp) ?_)
        refine ⟨fun _ => (K85x.keep (below_new_tg u81x (.cells #[.string s72x, .string s82x] 92))).box.c1, ?_⟩
        simp only [Act.put, List.getElem_toArray, List.getElem_cons_succ, List.getElem_cons_zero, List.setIfInBounds_toArray, List.set_cons_zero, List.set_cons_succ]
        obtain ⟨va, vc, wq, hrun, hc1, hfz, K89x⟩ := K85x.push (by omega) s72x s82x 30
        refine wpW_one 10 _ rfl (by kernel_rfl) (step_append_ty rfl (.tmp 14) (.tmp 22) 30 30 rfl rfl (.slice ua T.length uc) (.slice (some ⟨u81x.heap.size, 0, none⟩) 1 1) (.slice va (T.length + 1) vc) (by simp [Act.eval, Act.put]) (by simp [Act.eval, Act.put]) wq hrun ?_)
        refine ⟨fun _ => hc1, ?_⟩
        simp only [Act.put, List.getElem_toArray, List.getElem_cons_succ, List.getElem_cons_zero, List.setIfInBounds_toArray, List.set_cons_zero, List.set_cons_succ]
        refine wpW_take 11 _ (.pointer (some ⟨kb, 1, none⟩)) rfl (by kernel_rfl) (by kernel_rfl) (by kernel_rfl) (fun _ _ _ h => h) (by kernel_rfl) (.inl ⟨rfl, fun w' hS' => by go_simp⟩) hc1 ?_
        simp only [Act.put, List.getElem_toArray, List.getElem_cons_succ, List.getElem_cons_zero, List.setIfInBounds_toArray, List.set_cons_zero, List.set_cons_succ]
        refine wpW_one 12 _ rfl (by kernel_rfl) (step_storeT rfl 24 23 rfl kb 1 va (T.length + 1) vc (.slice ua T.length uc) (by simp [Act.eval, Act.put]) (by simp [Act.eval, Act.put]) hc1 hfz ?_)
        refine ⟨fun h => (by cases h), ?_⟩
        refine wpW_done (by kernel_rfl) ?_
        try simp only [Act.put, List.getElem_toArray, List.getElem_cons_succ, List.getElem_cons_zero, List.setIfInBounds_toArray, List.set_cons_zero, List.set_cons_succ]
        go_wp2
        go_meet
        exact ⟨rfl, rfl, rfl, DS.mk' K89x (by omega) hm (by rw [List.length_append]; simp only [List.length_cons, List.length_nil]; omega) (sz_push hT2 ⟨z73x, z83x⟩) hst⟩
  case rest =>
    obtain ⟨rfl, rfl, rfl, a5, m5, ua, uc, T, st, K5, ha5, hm, hT, hT2, hst⟩ := hcut
    obtain ⟨sd5, C5⟩ := K5.cur
    go_wp2_with fail
    refine (one_any 3 (by omega) CB ao n cap _ f sd5 _ C5 K5.cb hn (by omega)).mono ?_
    rintro e w6 ⟨c2, rfl, C6, g6⟩
    have K6 := K5.grown g6 C6
    clear C5 K5 C6 g6
    go_upto_if 26 with fail
    go_cut [0, 2, 3] from 27 (fun s0 s2 s3 wx => s0 = .pointer (some ⟨CB, 0, none⟩) ∧ s2 = .pointer (some ⟨w.heap.size, 0, none⟩) ∧ s3 = .pointer (some ⟨kb, 0, none⟩) ∧ DS w wx CB w.heap.size kb ao n cap f (a0 + 13) 2)
    case first =>
      cases c2
      · go_wp2
        go_meet
        exact ⟨rfl, rfl, rfl, DS.mk' K6 (by omega) hm (by omega) hT2 hst⟩
      · have Kc := K6
        obtain ⟨k0l, k00, k01, k02⟩ := id K6.box
        go_wp2
        refine wp_region_w (fun w' => w'.cell? ⟨kb, 1, none⟩ = some (.slice ua T.length uc)) (fun j => j != 9) (by kernel_rfl) ?_
        change wpW _ _ _ _ _ _ 10 _ _ w6.drew
        have K0 := Kc.keep (Below.refl _ w6).drew
        have hS0 : (fun w' => w'.cell? ⟨kb, 1, none⟩ = some (.slice ua T.length uc)) w6.drew := K0.box.c1
        refine wpW_take 0 _ (.pointer (some ⟨kb, 1, none⟩)) rfl (by kernel_rfl) (by kernel_rfl) (by kernel_rfl) (fun _ _ _ h => h) (by kernel_rfl) (.inl ⟨rfl, fun w' hS' => by go_simp⟩) hS0 ?_
        refine wpW_take 1 _ (.slice ua T.length uc) rfl (by kernel_rfl) (by kernel_rfl) (by kernel_rfl) (fun _ _ _ h => h) (by kernel_rfl) (.inl ⟨rfl, fun w' hS' => by go_simp⟩) hS0 ?_
        refine wpW_take 2 _ (.pointer (some ⟨CB, 0, none⟩)) rfl (by kernel_rfl) (by kernel_rfl) (by kernel_rfl) (fun _ _ _ h => h) (by kernel_rfl) (.inl ⟨rfl, fun w' hS' => by go_simp⟩) hS0 ?_
        simp only [Act.put, List.getElem_toArray, List.getElem_cons_succ, List.getElem_cons_zero, List.setIfInBounds_toArray, List.set_cons_zero, List.set_cons_succ]
        refine wpW_one 3 _ rfl (by kernel_rfl) (step_val rfl (.slice (some ⟨w6.drew.heap.size, 0, none⟩) 2 2) (w' := (w6.drew.alloc (.cells #[.string ⟨#[101]⟩, .string ⟨#[119]⟩] 9))) (by go_simp) ?_)
        have K1x := K0.keep (below_new_tg w6.drew (.cells #[.string ⟨#[101]⟩, .string ⟨#[119]⟩] 9))
        have L2x : LsAt (w6.drew.alloc (.cells #[.string ⟨#[101]⟩, .string ⟨#[119]⟩] 9)) w6.drew.heap.size [(⟨#[101]⟩ : ByteArray), (⟨#[119]⟩ : ByteArray)] := LsAt.new w6.drew [(⟨#[101]⟩ : ByteArray), (⟨#[119]⟩ : ByteArray)] 9
        refine ⟨fun _ => K1x.box.c1, ?_⟩
        simp only [Act.put, List.getElem_toArray, List.getElem_cons_succ, List.getElem_cons_zero, List.setIfInBounds_toArray, List.set_cons_zero, List.set_cons_succ]
        obtain ⟨sd9x, c8x⟩ := K1x.cur
        have ne10x : w6.drew.heap.size ≠ CB := by have e1 := K0.gr.size; have e2 := K1x.o1; intro e; (try simp at e1); (try simp at e); omega
        refine wpW_one 4 _ rfl (by kernel_rfl) (step_call rfl 73 #[.pointer (some ⟨CB, 0, none⟩), .slice (some ⟨w6.drew.heap.size, 0, none⟩) 2 2] _ (by go_simp) (of_list [(⟨#[101]⟩ : ByteArray), (⟨#[119]⟩ : ByteArray)] 20 (by decide) (by decide) _ CB ao n cap _ f sd9x _ c8x K1x.cb hn (by omega) L2x ne10x) ?_)
        rintro e u3x ⟨s4x, z5x, rfl, c8x, g6x⟩
        have K7x := K1x.grown g6x c8x
        refine ⟨_, rfl, fun _ => K7x.box.c1, ?_⟩
        simp only [Act.put, List.getElem_toArray, List.getElem_cons_succ, List.getElem_cons_zero, List.setIfInBounds_toArray, List.set_cons_zero, List.set_cons_succ]
        refine wpW_take 5 _ (.agg #[.string ⟨#[122, 111, 110, 101]⟩, .string s4x]) rfl (by kernel_rfl) (by kernel_rfl) (by kernel_rfl) (fun _ _ _ h => h) (by kernel_rfl) (.inl ⟨rfl, fun w' hS' => by go_simp⟩) K7x.box.c1 ?_
        simp only [Act.put, List.getElem_toArray, List.getElem_cons_succ, List.getElem_cons_zero, List.setIfInBounds_toArray, List.set_cons_zero, List.set_cons_succ]
        refine wpW_one 6 _ rfl (by kernel_rfl) (step_val rfl (.slice (some ⟨u3x.heap.size, 0, none⟩) 1 1) (w' := (u3x.alloc (.cells #[.string ⟨#[122, 111, 110, 101]⟩, .string s4x] 92))) (by go_simp) ?_)
        refine ⟨fun _ => (K7x.keep (below_new_tg u3x (.cells #[.string ⟨#[122, 111, 110, 101]⟩, .string s4x] 92))).box.c1, ?_⟩
        simp only [Act.put, List.getElem_toArray, List.getElem_cons_succ, List.getElem_cons_zero, List.setIfInBounds_toArray, List.set_cons_zero, List.set_cons_succ]
        obtain ⟨va, vc, wq, hrun, hc1, hfz, K11x⟩ := K7x.push (by omega) ⟨#[122, 111, 110, 101]⟩ s4x 30
        refine wpW_one 7 _ rfl (by kernel_rfl) (step_append_ty rfl (.tmp 28) (.tmp 33) 30 30 rfl rfl (.slice ua T.length uc) (.slice (some ⟨u3x.heap.size, 0, none⟩) 1 1) (.slice va (T.length + 1) vc) (by simp [Act.eval, Act.put]) (by simp [Act.eval, Act.put]) wq hrun ?_)
        refine ⟨fun _ => hc1, ?_⟩
        simp only [Act.put, List.getElem_toArray, List.getElem_cons_succ, List.getElem_cons_zero, List.setIfInBounds_toArray, List.set_cons_zero, List.set_cons_succ]
        refine wpW_take 8 _ (.pointer (some ⟨kb, 1, none⟩)) rfl (by kernel_rfl) (by kernel_rfl) (by kernel_rfl) (fun _ _ _ h => h) (by kernel_rfl) (.inl ⟨rfl, fun w' hS' => by go_simp⟩) hc1 ?_
        simp only [Act.put, List.getElem_toArray, List.getElem_cons_succ, List.getElem_cons_zero, List.setIfInBounds_toArray, List.set_cons_zero, List.set_cons_succ]
        refine wpW_one 9 _ rfl (by kernel_rfl) (step_storeT rfl 35 34 rfl kb 1 va (T.length + 1) vc (.slice ua T.length uc) (by simp [Act.eval, Act.put]) (by simp [Act.eval, Act.put]) hc1 hfz ?_)
        refine ⟨fun h => (by cases h), ?_⟩
        refine wpW_done (by kernel_rfl) ?_
        try simp only [Act.put, List.getElem_toArray, List.getElem_cons_succ, List.getElem_cons_zero, List.setIfInBounds_toArray, List.set_cons_zero, List.set_cons_succ]
        go_wp2
        go_meet
        exact ⟨rfl, rfl, rfl, DS.mk' K11x (by omega) hm (by rw [List.length_append]; simp only [List.length_cons, List.length_nil]; omega) (sz_push hT2 ⟨by decide, z5x⟩) hst⟩
    case rest =>
      obtain ⟨rfl, rfl, rfl, a6, m6, ua, uc, T, st, K6, ha6, hm, hT, hT2, hst⟩ := hcut
      obtain ⟨sd6, C6⟩ := K6.cur
      go_wp2_with fail
      refine (pick_any 60 (by omega) CB ao n cap _ f sd6 _ C6 K6.cb hn (by omega)).mono ?_
      rintro e w7 ⟨y, rfl, y0, y1, C7, g7⟩
      have K7 := K6.grown g7 C7
      clear C6 K6 C7 g7
      by_cases e0 : y = 0
      · subst e0
        have LK := K7.keep (below_new_tg w7 (.cells #[.string ⟨#[]⟩, .string ⟨#[97, 49]⟩, .string ⟨#[97, 98, 99, 100, 101, 102, 103, 104, 105, 106, 107, 108, 109]⟩] 9))
        obtain ⟨sd7, C7⟩ := LK.cur
        have L1 : LsAt (w7.alloc (.cells #[.string ⟨#[]⟩, .string ⟨#[97, 49]⟩, .string ⟨#[97, 98, 99, 100, 101, 102, 103, 104, 105, 106, 107, 108, 109]⟩] 9)) w7.heap.size [(⟨#[]⟩ : ByteArray), (⟨#[97, 49]⟩ : ByteArray), (⟨#[97, 98, 99, 100, 101, 102, 103, 104, 105, 106, 107, 108, 109]⟩ : ByteArray)] := LsAt.new w7 [(⟨#[]⟩ : ByteArray), (⟨#[97, 49]⟩ : ByteArray), (⟨#[97, 98, 99, 100, 101, 102, 103, 104, 105, 106, 107, 108, 109]⟩ : ByteArray)] 9
        have hne : w7.heap.size ≠ CB := by have h1 := K7.gr.size; have h2 := K7.o1; omega
        go_wp2_with fail
        refine (of_list [(⟨#[]⟩ : ByteArray), (⟨#[97, 49]⟩ : ByteArray), (⟨#[97, 98, 99, 100, 101, 102, 103, 104, 105, 106, 107, 108, 109]⟩ : ByteArray)] 20 (by decide) (by decide) w7.heap.size CB ao n cap _ f sd7 _ C7 LK.cb hn (by omega) L1 hne).mono ?_
        rintro e w8 ⟨s8, z8, rfl, C8, g8⟩
        have K8 := LK.grown g8 C8
        obtain ⟨_, j00, j01, j02⟩ := id K8.box
        have jz := K8.fz 0
        have K9 := K8.set 0 (.string s8) (K8.box.set0 s8) K8.tg
        clear LK K7 C7 L1 C8 g8 hne
        obtain ⟨_, k00, k01, k02⟩ := id K9.box
        have kz := K9.fz
        have rz := K9.rz
        obtain ⟨x0, x1, x2, q0, q1, q2⟩ := K9.rs
        obtain ⟨F1, F2, F3⟩ := K9.fin (.string s8) (.slice ua T.length uc) (.int .i64 st)
        have hrk : w.heap.size ≠ kb := by have := K9.o3; omega
        have rz0 := rz 0
        have rz1 := rz 1
        have rz2 := rz 2
        go_wp2
        exact bodyPost_ret (v := .agg #[.string s8, .slice ua T.length uc, .int .i64 st]) (by simp [results, Try.results55, go_sem, q0, q1, q2]) rfl ⟨_, _, _, _, _, rfl, F1, z8, by omega, hT2, hst, F2.elim fun sd h => ⟨_, sd, by omega, h⟩, F3⟩
      · by_cases e1 : y = 1
        · subst e1
          have Kc := K7
          obtain ⟨k0l, k00, k01, k02⟩ := id K7.box
          go_wp2
          refine wp_region_w (fun w' => w'.cell? ⟨kb, 1, none⟩ = some (.slice ua T.length uc)) (fun j => j != 9) (by kernel_rfl) ?_
          change wpW _ _ _ _ _ _ 10 _ _ w7.drew
          have K0 := Kc.keep (Below.refl _ w7).drew
          have hS0 : (fun w' => w'.cell? ⟨kb, 1, none⟩ = some (.slice ua T.length uc)) w7.drew := K0.box.c1
          refine wpW_take 0 _ (.pointer (some ⟨kb, 1, none⟩)) rfl (by kernel_rfl) (by kernel_rfl) (by kernel_rfl) (fun _ _ _ h => h) (by kernel_rfl) (.inl ⟨rfl, fun w' hS' => by go_simp⟩) hS0 ?_
          refine wpW_take 1 _ (.slice ua T.length uc) rfl (by kernel_rfl) (by kernel_rfl) (by kernel_rfl) (fun _ _ _ h => h) (by kernel_rfl) (.inl ⟨rfl, fun w' hS' => by go_simp⟩) hS0 ?_
          refine wpW_take 2 _ (.pointer (some ⟨CB, 0, none⟩)) rfl (by kernel_rfl) (by kernel_rfl) (by kernel_rfl) (fun _ _ _ h => h) (by kernel_rfl) (.inl ⟨rfl, fun w' hS' => by go_simp⟩) hS0 ?_
          simp only [Act.put, List.getElem_toArray, List.getElem_cons_succ, List.getElem_cons_zero, List.setIfInBounds_toArray, List.set_cons_zero, List.set_cons_succ]
          refine wpW_one 3 _ rfl (by kernel_rfl) (step_val rfl (.slice (some ⟨w7.drew.heap.size, 0, none⟩) 3 3) (w' := (w7.drew.alloc (.cells #[.string ⟨#[97]⟩, .string ⟨#[122, 122]⟩, .string ⟨#[]⟩] 9))) (by go_simp) ?_)
          have K12x := K0.keep (below_new_tg w7.drew (.cells #[.string ⟨#[97]⟩, .string ⟨#[122, 122]⟩, .string ⟨#[]⟩] 9))
          have L13x : LsAt (w7.drew.alloc (.cells #[.string ⟨#[97]⟩, .string ⟨#[122, 122]⟩, .string ⟨#[]⟩] 9)) w7.drew.heap.size [(⟨#[97]⟩ : ByteArray), (⟨#[122, 122]⟩ : ByteArray), (⟨#[]⟩ : ByteArray)] := LsAt.new w7.drew [(⟨#[97]⟩ : ByteArray), (⟨#[122, 122]⟩ : ByteArray), (⟨#[]⟩ : ByteArray)] 9
          refine ⟨fun _ => K12x.box.c1, ?_⟩
          simp only [Act.put, List.getElem_toArray, List.getElem_cons_succ, List.getElem_cons_zero, List.setIfInBounds_toArray, List.set_cons_zero, List.set_cons_succ]
          obtain ⟨sd20x, c19x⟩ := K12x.cur
          have ne21x : w7.drew.heap.size ≠ CB := by have e1 := K0.gr.size; have e2 := K12x.o1; intro e; (try simp at e1); (try simp at e); omega
          refine wpW_one 4 _ rfl (by kernel_rfl) (step_call rfl 73 #[.pointer (some ⟨CB, 0, none⟩), .slice (some ⟨w7.drew.heap.size, 0, none⟩) 3 3] _ (by go_simp) (of_list [(⟨#[97]⟩ : ByteArray), (⟨#[122, 122]⟩ : ByteArray), (⟨#[]⟩ : ByteArray)] 20 (by decide) (by decide) _ CB ao n cap _ f sd20x _ c19x K12x.cb hn (by omega) L13x ne21x) ?_)
          rintro e u14x ⟨s15x, z16x, rfl, c19x, g17x⟩
          have K18x := K12x.grown g17x c19x
          refine ⟨_, rfl, fun _ => K18x.box.c1, ?_⟩
          simp only [Act.put, List.getElem_toArray, List.getElem_cons_succ, List.getElem_cons_zero, List.setIfInBounds_toArray, List.set_cons_zero, List.set_cons_succ]
          refine wpW_take 5 _ (.agg #[.string s15x, .string ⟨#[118]⟩]) rfl (by kernel_rfl) (by kernel_rfl) (by kernel_rfl) (fun _ _ _ h => h) (by kernel_rfl) (.inl ⟨rfl, fun w' hS' => by go_simp⟩) K18x.box.c1 ?_
          simp only [Act.put, List.getElem_toArray, List.getElem_cons_succ, List.getElem_cons_zero, List.setIfInBounds_toArray, List.set_cons_zero, List.set_cons_succ]
          refine wpW_one 6 _ rfl (by kernel_rfl) (step_val rfl (.slice (some ⟨u14x.heap.size, 0, none⟩) 1 1) (w' := (u14x.alloc (.cells #[.string s15x, .string ⟨#[118]⟩] 92))) (by go_simp) ?_)
          refine ⟨fun _ => (K18x.keep (below_new_tg u14x (.cells #[.string s15x, .string ⟨#[118]⟩] 92))).box.c1, ?_⟩
          simp only [Act.put, List.getElem_toArray, List.getElem_cons_succ, List.getElem_cons_zero, List.setIfInBounds_toArray, List.set_cons_zero, List.set_cons_succ]
          obtain ⟨va, vc, wq, hrun, hc1, hfz, K22x⟩ := K18x.push (by omega) s15x ⟨#[118]⟩ 30
          refine wpW_one 7 _ rfl (by kernel_rfl) (step_append_ty rfl (.tmp 47) (.tmp 52) 30 30 rfl rfl (.slice ua T.length uc) (.slice (some ⟨u14x.heap.size, 0, none⟩) 1 1) (.slice va (T.length + 1) vc) (by simp [Act.eval, Act.put]) (by simp [Act.eval, Act.put]) wq hrun ?_)
          refine ⟨fun _ => hc1, ?_⟩
          simp only [Act.put, List.getElem_toArray, List.getElem_cons_succ, List.getElem_cons_zero, List.setIfInBounds_toArray, List.set_cons_zero, List.set_cons_succ]
          refine wpW_take 8 _ (.pointer (some ⟨kb, 1, none⟩)) rfl (by kernel_rfl) (by kernel_rfl) (by kernel_rfl) (fun _ _ _ h => h) (by kernel_rfl) (.inl ⟨rfl, fun w' hS' => by go_simp⟩) hc1 ?_
          simp only [Act.put, List.getElem_toArray, List.getElem_cons_succ, List.getElem_cons_zero, List.setIfInBounds_toArray, List.set_cons_zero, List.set_cons_succ]
          refine wpW_one 9 _ rfl (by kernel_rfl) (step_storeT rfl 54 53 rfl kb 1 va (T.length + 1) vc (.slice ua T.length uc) (by simp [Act.eval, Act.put]) (by simp [Act.eval, Act.put]) hc1 hfz ?_)
          refine ⟨fun h => (by cases h), ?_⟩
          refine wpW_done (by kernel_rfl) ?_
          try simp only [Act.put, List.getElem_toArray, List.getElem_cons_succ, List.getElem_cons_zero, List.setIfInBounds_toArray, List.set_cons_zero, List.set_cons_succ]
          obtain ⟨_, k00, k01, k02⟩ := id K22x.box
          have kz := K22x.fz
          have rz := K22x.rz
          obtain ⟨x0, x1, x2, q0, q1, q2⟩ := K22x.rs
          obtain ⟨F1, F2, F3⟩ := K22x.fin (.string m6) (.slice va (T.length + 1) vc) (.int .i64 st)
          have hrk : w.heap.size ≠ kb := by have := K22x.o3; omega
          have rz0 := rz 0
          have rz1 := rz 1
          have rz2 := rz 2
          go_wp2
          exact bodyPost_ret (v := .agg #[.string m6, .slice va (T.length + 1) vc, .int .i64 st]) (by simp [results, Try.results55, go_sem, q0, q1, q2]) rfl ⟨m6, va, vc, (T ++ [(s15x, (⟨#[118]⟩ : ByteArray))]), st, by rw [List.length_append]; rfl, by rw [List.length_append]; exact F1, hm, by rw [List.length_append]; simp only [List.length_cons, List.length_nil]; omega, sz_push hT2 ⟨z16x, by decide⟩, hst, F2.elim fun sd h => ⟨_, sd, by omega, h⟩, F3⟩
        · by_cases e2 : y = 2
          · subst e2
            have LK := K7.keep (below_new_tg w7 (.cells #[.int .i64 (-1), .int .i64 1000000000, .int .i64 1000000001] 3))
            obtain ⟨sd7, C7⟩ := LK.cur
            have hne : w7.heap.size ≠ CB := by have h1 := K7.gr.size; have h2 := K7.o1; omega
            have hl : ∀ i, i < 3 → (w7.alloc (.cells #[.int .i64 (-1), .int .i64 1000000000, .int .i64 1000000001] 3)).cell? ⟨w7.heap.size, i, none⟩ = some (.int .i64 (([-1, 1000000000, 1000000001] : List Int).getD i 0)) := by
              intro i hi
              rcases i with _ | _ | _ | i <;> first | (simp [go_sem]; done) | omega
            go_wp2_with fail
            refine (among_any 3 (by omega) w7.heap.size (fun i => ([-1, 1000000000, 1000000001] : List Int).getD i 0) CB ao n cap _ f sd7 _ C7 LK.cb hn (by omega) (by simp) hne hl).mono ?_
            rintro e w8 ⟨i8, hi8, rfl, C8, g8⟩
            have K8 := LK.grown g8 C8
            obtain ⟨z8, hz8⟩ : ∃ z8 : Int, ([-1, 1000000000, 1000000001] : List Int).getD i8 0 = z8 := ⟨_, rfl⟩
            have hst8 : -1 ≤ z8 ∧ z8 ≤ 1000000001 := by rw [← hz8]; rcases i8 with _ | _ | _ | i8 <;> first | (simp; done) | omega
            simp only [hz8]
            clear hz8
            obtain ⟨_, j00, j01, j02⟩ := id K8.box
            have jz := K8.fz 2
            have K9 := K8.set 2 (.int .i64 z8) (K8.box.set2 z8) K8.tg
            clear LK K7 C7 hl C8 g8 hne
            obtain ⟨_, k00, k01, k02⟩ := id K9.box
            have kz := K9.fz
            have rz := K9.rz
            obtain ⟨x0, x1, x2, q0, q1, q2⟩ := K9.rs
            obtain ⟨F1, F2, F3⟩ := K9.fin (.string m6) (.slice ua T.length uc) (.int .i64 z8)
            have hrk : w.heap.size ≠ kb := by have := K9.o3; omega
            have rz0 := rz 0
            have rz1 := rz 1
            have rz2 := rz 2
            go_wp2
            exact bodyPost_ret (v := .agg #[.string m6, .slice ua T.length uc, .int .i64 z8]) (by simp [results, Try.results55, go_sem, q0, q1, q2]) rfl ⟨_, _, _, _, _, rfl, F1, hm, by omega, hT2, hst8, F2.elim fun sd h => ⟨_, sd, by omega, h⟩, F3⟩
          · have f0 : (y == 0) = false := by simp [e0]
            have f1 : (y == 1) = false := by simp [e1]
            have f2 : (y == 2) = false := by simp [e2]
            obtain ⟨_, k00, k01, k02⟩ := id K7.box
            have kz := K7.fz
            have rz := K7.rz
            obtain ⟨x0, x1, x2, q0, q1, q2⟩ := K7.rs
            obtain ⟨F1, F2, F3⟩ := K7.fin (.string m6) (.slice ua T.length uc) (.int .i64 st)
            have hrk : w.heap.size ≠ kb := by have := K7.o3; omega
            have rz0 := rz 0
            have rz1 := rz 1
            have rz2 := rz 2
            go_wp2
            exact bodyPost_ret (v := .agg #[.string m6, .slice ua T.length uc, .int .i64 st]) (by simp [results, Try.results55, go_sem, q0, q1, q2]) rfl ⟨_, _, _, _, _, rfl, F1, hm, by omega, hT2, hst, F2.elim fun sd h => ⟨_, sd, by omega, h⟩, F3⟩
end Go.Proofs.Ytpggmgmdcccmeaa
