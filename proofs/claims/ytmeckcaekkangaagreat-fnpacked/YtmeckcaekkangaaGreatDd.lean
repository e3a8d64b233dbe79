/- An agg, drawn: the walk. -/
import Derived.Test.YtmeckcaekkangaaGreatDc
import Derived.Deep.CutRange
import Derived.Deep.DeepCutAuto
namespace Go.Proofs.YtmeckcaekkangaaGreat
set_option maxRecDepth 100000
open Go.RowKit
set_option linter.unusedSimpArgs false
set_option linter.unusedVariables false

/-- A drawn agg. -/
def AgO (CB : Nat) (ao : Option Addr) (n cap : Nat) (f : Nat → Int) (A : Nat) (w : World) (e : Ending) (w' : World) : Prop :=
  ∃ (y : Ent) (g off gc : Nat), e = .returned (.agg #[.int .i64 y.c, .int .i64 y.s, .int .i64 y.lo, .int .i64 y.hi, .slice (some ⟨g, off, none⟩) y.n gc, .bool y.fu]) ∧ IRow w' (some ⟨g, off, none⟩) y.n y.f ∧ w.heap.size ≤ g ∧ y.n ≤ 8 ∧ (-9223372036854775808 ≤ y.s ∧ y.s ≤ 9223372036854775807) ∧ CS w w' CB ao n cap f (A + 20)
theorem irow_tail {w : World} {g : Nat} {f : Nat → Int} (h : IOwn w g 0 8 f) : IRow w (some ⟨g, 1, none⟩) 7 (fun i => f (i + 1)) :=
  ⟨fun i => h.bd _, .inr ⟨g, 1, rfl, h.lt, fun i hi => by
    have := h.cell (i + 1) (by omega)
    rw [show 1 + i = 0 + (i + 1) by omega]
    exact this⟩⟩

set_option maxRecDepth 100000 in
set_option maxHeartbeats 8000000 in
theorem agg_any {w : World} {CB : Nat} {ao : Option Addr} {n cap : Nat} {f : Nat → Int} {A : Nat} (h : CS w w CB ao n cap f A) (hA : A ≤ 100000) :
    Calls Tryz.prog 47 #[.pointer (some ⟨CB, 0, none⟩)] w fun e w' => AgO CB ao n cap f A w e w' := by
  have hB := below_new w (.cells #[.int .i64 0, .int .i64 0, .int .i64 0, .int .i64 0, .slice none 0 0, .bool false] 46)
  have RA0 := AAt.new w 0 0 0 0 (.slice none 0 0) false 46
  have RF0 : ∀ j, (w.alloc (.cells #[.int .i64 0, .int .i64 0, .int .i64 0, .int .i64 0, .slice none 0 0, .bool false] 46)).frozen? ⟨w.heap.size, j, none⟩ = false := fun j => by simp [go_sem]
  have sz0 : (w.alloc (.cells #[.int .i64 0, .int .i64 0, .int .i64 0, .int .i64 0, .slice none 0 0, .bool false] 46)).heap.size = w.heap.size + 1 := by simp
  have C0 := h.keep hB
  go_enter Tryz.func47, Tryz.ntmps47
  go_wp2_with fail
  generalize w.alloc (.cells #[.int .i64 0, .int .i64 0, .int .i64 0, .int .i64 0, .slice none 0 0, .bool false] 46) = w0 at hB RA0 RF0 sz0 C0 ⊢
  refine (l4Zero_any _).mono ?_
  rintro e w1 ⟨g, rfl, hg, H1, b1⟩
  have C1 := C0.keep b1
  have RA1 := RA0.keep b1
  have RF1 := froz_keep RF0 RA0.lt b1
  have s1 := b1.size
  have b2 := below_new w1 (.cells #[.int .i64 0, .int .i64 0, .int .i64 0, .int .i64 0, .slice (some ⟨g, 0, none⟩) 8 8, .bool false] 46)
  have DA2 := AAt.new w1 0 0 0 0 (.slice (some ⟨g, 0, none⟩) 8 8) false 46
  have DF2 : ∀ j, (w1.alloc (.cells #[.int .i64 0, .int .i64 0, .int .i64 0, .int .i64 0, .slice (some ⟨g, 0, none⟩) 8 8, .bool false] 46)).frozen? ⟨w1.heap.size, j, none⟩ = false := fun j => by simp [go_sem]
  have G2 : AW w (w1.alloc (.cells #[.int .i64 0, .int .i64 0, .int .i64 0, .int .i64 0, .slice (some ⟨g, 0, none⟩) 8 8, .bool false] 46)) w.heap.size w1.heap.size CB ao n cap f A dZ g 8 := by
    have hgl := H1.lt
    exact ⟨C1.keep b2, RA1.keep b2, froz_keep RF1 RA1.lt b2, DA2, DF2, H1.keep b2, by omega⟩
  clear C1 RA1 RF1 b2 DA2 DF2 C0 RA0 RF0 b1 H1
  go_wp2_with fail
  generalize w1.alloc (.cells #[.int .i64 0, .int .i64 0, .int .i64 0, .int .i64 0, .slice (some ⟨g, 0, none⟩) 8 8, .bool false] 46) = w2 at G2 ⊢
  refine (pick_s 5 (by omega) G2.C.self (by omega)).mono ?_
  rintro e w3 ⟨x, rfl, x0, x1, K3⟩
  have G3 := G2.draw K3
  obtain ⟨k0, rfl⟩ := Int.eq_ofNat_of_zero_le x0
  clear G2 K3
  generalize w1.heap.size = D at *
  generalize hR : w.heap.size = R at *
  go_wp2
  go_loopw [4] (fun q wr => ∃ (k B : Nat) (y : Ent) (g gc : Nat), q = .int .i64 k ∧ k ≤ 4 ∧ B + 2 * k ≤ A + 9 ∧ AI y ∧ AW w wr R D CB ao n cap f B y g gc) (fun q _ => (intOf q).toNat)
  case atStart => exact ⟨k0, A + 1, dZ, g, 8, by go_num, by omega, by omega, ai_zero, G3⟩
  case round =>
    clear G3
    obtain ⟨k, B, y, g, gc, rfl, hk, hBk, hAI, G⟩ := hrel
    have hn8 : y.n = 8 := by have := congrArg Ent.n hAI.can; exact this.symm
    by_cases hk0 : k = 0
    · subst hk0
      go_upto_region 6 with fail
      go_cut [23] from 17 to 22 (fun s23 wx => ∃ c : Bool, s23 = .bool c ∧ AW w wx R D CB ao n cap f (B + 1) y g gc)
      case first =>
        go_wp2_with fail
        refine (one_s 30 (by omega) G.C.self (by omega)).mono ?_
        rintro e w4 ⟨b4, rfl, K4⟩
        have G4 := G.draw K4
        clear G K4
        cases b4
        · go_wp2
          go_meet
          exact ⟨false, rfl, G4⟩
        · obtain ⟨_, y0, y1, y2, y3, y4, y5⟩ := id G4.DA
          cases hc : decide ((0 : Int) < y.c)
          · go_wp2
            go_meet
            exact ⟨false, by first | rfl | simp [hc], G4⟩
          · go_wp2
            go_meet
            exact ⟨true, by first | rfl | simp [hc], G4⟩
      case rest =>
        obtain ⟨c4, rfl, G4⟩ := hcut
        clear G
        go_upto_if 23 with fail
        go_cut [3] from 24 to 39 (fun s3 wx => s3 = .pointer (some ⟨D, 0, none⟩) ∧ ∃ y2 : Ent, (y2.s = y.s ∧ y2.n = 8) ∧ AW w wx R D CB ao n cap f (B + 1) y2 g gc)
        case first =>
          cases c4
          · go_wp2
            go_meet
            exact ⟨rfl, y, ⟨rfl, hn8⟩, G4⟩
          · have hyc := hAI.c
            have hyf := hAI.f 3
            obtain ⟨_, y0, y1, y2, y3, y4, y5⟩ := id G4.DA
            have z0 := G4.H.cell 3 (by omega)
            have z1 := G4.H.free 3 (by omega)
            simp only [Nat.zero_add] at z0 z1
            have hw1 : IntKind.i64.wrap (1000000000 - y.c) = 1000000000 - y.c := by rw [IntKind.wrap_i64] <;> omega
            have hw2 : IntKind.i64.wrap (y.f 3 + (1000000000 - y.c)) = y.f 3 + (1000000000 - y.c) := by rw [IntKind.wrap_i64] <;> omega
            have G5 := (G4.setH (y.f 3 + (1000000000 - y.c)) (by omega)).keep (Below.refl _ _).drew
            have f5 := G5.DF
            go_wp2
            go_region
            all_goals
              clear y0 y1 y2 y3 y4 y5 z0 z1 G4
              generalize (wc.setCell ⟨g, 3, none⟩ (.int .i64 (y.f 3 + (1000000000 - y.c)))).drew = w5 at G5 f5 ⊢
              have G6 := G5.set0 1000000000
              obtain ⟨_, y0, y1, y2, y3, y4, y5⟩ := id G5.DA
              obtain ⟨_, q0, q1, q2, q3, q4, q5⟩ := id G6.DA
              have hgA := goodAgg_spec 1000000000 y.s y.lo y.hi (some ⟨g, 0, none⟩) 8 gc _ y.fu _ G6.H.row (by omega) hAI.s
              clear G5
              go_wp2_with fail
              refine hgA.mono ?_
              rintro e w6 ⟨b6, rfl, _, q6⟩
              have G7 := G6.keep q6
              clear G6 hgA q6 y0 y1 y2 y3 y4 y5 q0 q1 q2 q3 q4 q5 f5
              cases b6
              · obtain ⟨_, y0, y1, y2, y3, y4, y5⟩ := id G7.DA
                have z0 := G7.H.cell 3 (by omega)
                have z1 := G7.H.free 3 (by omega)
                simp only [Nat.zero_add] at z0 z1
                obtain ⟨v3, z3⟩ : ∃ v3 : Int, w6.cell? ⟨g, 3, none⟩ = some (.int .i64 v3) := ⟨_, z0⟩
                clear z0
                have G8 := G7.setH 0 (by omega)
                clear G7
                go_wp2
                · rename_i h9
                  rw [z1] at h9
                  cases h9
                · go_meet
                  exact ⟨rfl, ⟨y.key, y.seq, y.kind, 1000000000, y.s, y.lo, y.hi, y.n, _, y.fu⟩, ⟨rfl, hn8⟩, G8⟩
              · go_wp2
                go_meet
                exact ⟨rfl, ⟨y.key, y.seq, y.kind, 1000000000, y.s, y.lo, y.hi, y.n, _, y.fu⟩, ⟨rfl, hn8⟩, G7⟩
        case rest =>
          obtain ⟨rfl, y2, ⟨hs2, hn2⟩, G4'⟩ := hcut
          clear G4
          have hs5 : -9223372036854775808 ≤ y2.s ∧ y2.s ≤ 9223372036854775807 := by rw [hs2]; exact hAI.s
          clear hs2 hAI
          go_wp2_with fail
          refine (pick_s 60 (by omega) G4'.C.self (by omega)).mono ?_
          rintro e w5 ⟨x5, rfl, x50, x51, K5⟩
          have G5 := G4'.draw K5
          clear G4' K5
          obtain ⟨_, y0, y1, y2', y3, y4, y5⟩ := id G5.DA
          obtain ⟨_, r0, r1, r2, r3, r4, r5⟩ := id G5.RA
          have rf := G5.RF
          have df := G5.DF
          have hne := G5.ne
          have hDl := G5.DA.lt
          by_cases c0 : x5 = 0
          · subst c0
            have hgc : (1 : Nat) ≤ gc := by omega
            go_wp2
            refine bodyPost_ret (v := .agg #[.int .i64 y2.c, .int .i64 y2.s, .int .i64 y2.lo, .int .i64 y2.hi, .slice (some ⟨g, 1, none⟩) 7 (gc - 1), .bool y2.fu]) (by simp [results, Tryz.results47, go_sem, r0, r1, r2, r3, r4, r5]) rfl ⟨⟨y2.key, y2.seq, y2.kind, y2.c, y2.s, y2.lo, y2.hi, 7, fun i => y2.f (i + 1), y2.fu⟩, g, 1, gc - 1, rfl, ?_, by omega, by first | exact Nat.le_refl _ | (show 7 ≤ 8; omega), hs5, ?_⟩
            · refine irow_tail ?_
              repeat' refine iown_others ?_ (Others.setCell _ _ _ _) (by omega)
              exact G5.H
            · repeat' refine CS.others ?_ (Others.setCell _ _ _ _) (by omega)
              exact G5.C.mono (by omega)
          have e0 : (x5 == 0) = false := by simp [c0]
          by_cases c1 : x5 = 1
          · subst c1
            obtain ⟨z, hz⟩ : ∃ z, IntKind.i64.wrap (y2.hi + 1) = z := ⟨_, rfl⟩
            have hz2 : wrap64 (y2.hi + 1) = z := by rw [← hz, IntWalk.i64_left]
            go_wp2
            refine bodyPost_ret (v := .agg #[.int .i64 y2.c, .int .i64 y2.s, .int .i64 z, .int .i64 y2.hi, .slice (some ⟨g, 0, none⟩) 8 gc, .bool y2.fu]) (by simp [results, Tryz.results47, go_sem, r0, r1, r2, r3, r4, r5]) rfl ⟨⟨y2.key, y2.seq, y2.kind, y2.c, y2.s, z, y2.hi, 8, y2.f, y2.fu⟩, g, 0, gc, rfl, ?_, by omega, by first | exact Nat.le_refl _ | (show 7 ≤ 8; omega), hs5, ?_⟩
            · refine IOwn.row ?_
              repeat' refine iown_others ?_ (Others.setCell _ _ _ _) (by omega)
              exact G5.H
            · repeat' refine CS.others ?_ (Others.setCell _ _ _ _) (by omega)
              exact G5.C.mono (by omega)
          have e1 : (x5 == 1) = false := by simp [c1]
          by_cases c2 : x5 = 2
          · subst c2
            go_wp2
            refine bodyPost_ret (v := .agg #[.int .i64 y2.c, .int .i64 y2.s, .int .i64 y2.lo, .int .i64 y2.hi, .slice (some ⟨g, 0, none⟩) 8 gc, .bool true]) (by simp [results, Tryz.results47, go_sem, r0, r1, r2, r3, r4, r5]) rfl ⟨⟨y2.key, y2.seq, y2.kind, y2.c, y2.s, y2.lo, y2.hi, 8, y2.f, true⟩, g, 0, gc, rfl, ?_, by omega, by first | exact Nat.le_refl _ | (show 7 ≤ 8; omega), hs5, ?_⟩
            · refine IOwn.row ?_
              repeat' refine iown_others ?_ (Others.setCell _ _ _ _) (by omega)
              exact G5.H
            · repeat' refine CS.others ?_ (Others.setCell _ _ _ _) (by omega)
              exact G5.C.mono (by omega)
          have e2 : (x5 == 2) = false := by simp [c2]
          by_cases c3 : x5 = 3
          · subst c3
            obtain ⟨z, hz⟩ : ∃ z, IntKind.i64.wrap (y2.c + 1) = z := ⟨_, rfl⟩
            have hz2 : wrap64 (y2.c + 1) = z := by rw [← hz, IntWalk.i64_left]
            go_wp2
            refine bodyPost_ret (v := .agg #[.int .i64 z, .int .i64 y2.s, .int .i64 y2.lo, .int .i64 y2.hi, .slice (some ⟨g, 0, none⟩) 8 gc, .bool y2.fu]) (by simp [results, Tryz.results47, go_sem, r0, r1, r2, r3, r4, r5]) rfl ⟨⟨y2.key, y2.seq, y2.kind, z, y2.s, y2.lo, y2.hi, 8, y2.f, y2.fu⟩, g, 0, gc, rfl, ?_, by omega, by first | exact Nat.le_refl _ | (show 7 ≤ 8; omega), hs5, ?_⟩
            · refine IOwn.row ?_
              repeat' refine iown_others ?_ (Others.setCell _ _ _ _) (by omega)
              exact G5.H
            · repeat' refine CS.others ?_ (Others.setCell _ _ _ _) (by omega)
              exact G5.C.mono (by omega)
          have e3 : (x5 == 3) = false := by simp [c3]
          go_wp2
          refine bodyPost_ret (v := .agg #[.int .i64 y2.c, .int .i64 y2.s, .int .i64 y2.lo, .int .i64 y2.hi, .slice (some ⟨g, 0, none⟩) 8 gc, .bool y2.fu]) (by simp [results, Tryz.results47, go_sem, r0, r1, r2, r3, r4, r5]) rfl ⟨⟨y2.key, y2.seq, y2.kind, y2.c, y2.s, y2.lo, y2.hi, 8, y2.f, y2.fu⟩, g, 0, gc, rfl, ?_, by omega, by first | exact Nat.le_refl _ | (show 7 ≤ 8; omega), hs5, ?_⟩
          · refine IOwn.row ?_
            repeat' refine iown_others ?_ (Others.setCell _ _ _ _) (by omega)
            exact G5.H
          · repeat' refine CS.others ?_ (Others.setCell _ _ _ _) (by omega)
            exact G5.C.mono (by omega)
    · have hkp : (0 : Int) < (k : Int) := by omega
      have hkd : decide ((0 : Int) < (k : Int)) = true := decide_eq_true hkp
      have Gd := G.keep (Below.refl _ wr).drew
      clear G
      obtain ⟨_, y0, y1, y2, y3, y4, y5⟩ := id Gd.DA
      go_wp2
      refine wp_region_w (fun W : World => W.cell? ⟨D, 0, none⟩ = some (.int .i64 y.c) ∧ W.cell? ⟨D, 1, none⟩ = some (.int .i64 y.s) ∧ W.cell? ⟨D, 2, none⟩ = some (.int .i64 y.lo) ∧ W.cell? ⟨D, 3, none⟩ = some (.int .i64 y.hi) ∧ W.cell? ⟨D, 4, none⟩ = some (.slice (some ⟨g, 0, none⟩) 8 gc) ∧ W.cell? ⟨D, 5, none⟩ = some (.bool y.fu)) (fun j => j != 5) (by kernel_rfl) ?_
      change wpW _ _ _ _ _ _ 6 _ _ wr.drew
      refine wpW_take 0 _ (.agg #[.int .i64 y.c, .int .i64 y.s, .int .i64 y.lo, .int .i64 y.hi, .slice (some ⟨g, 0, none⟩) 8 gc, .bool y.fu]) rfl (by kernel_rfl) (by kernel_rfl) (by kernel_rfl) (fun _ _ _ h => h) (by kernel_rfl) (.inl ⟨rfl, fun w' hS' => by obtain ⟨s0, s1, s2, s3, s4, s5⟩ := hS'; go_simp⟩) ⟨y0, y1, y2, y3, y4, y5⟩ ?_
      simp only [Act.put, List.getElem_toArray, List.getElem_cons_succ, List.getElem_cons_zero, List.setIfInBounds_toArray, List.set_cons_zero, List.set_cons_succ]
      refine wpW_take 1 _ (.pointer (some ⟨CB, 0, none⟩)) rfl (by kernel_rfl) (by kernel_rfl) (by kernel_rfl) (fun _ _ _ h => h) (by kernel_rfl) (.inl ⟨rfl, fun w' hS' => by go_simp⟩) ⟨y0, y1, y2, y3, y4, y5⟩ ?_
      simp only [Act.put, List.getElem_toArray, List.getElem_cons_succ, List.getElem_cons_zero, List.setIfInBounds_toArray, List.set_cons_zero, List.set_cons_succ]
      refine wpW_one 2 _ rfl (by kernel_rfl) (step_call rfl 71 #[.pointer (some ⟨CB, 0, none⟩)] _ (by go_simp) (value_s Gd.C.self (by omega)) ?_)
      rintro e w6 ⟨v, hv, rfl, K6⟩
      have G6 := Gd.draw K6
      clear Gd K6 y0 y1 y2 y3 y4 y5
      obtain ⟨_, y0, y1, y2, y3, y4, y5⟩ := id G6.DA
      refine ⟨_, rfl, fun _ => ⟨y0, y1, y2, y3, y4, y5⟩, ?_⟩
      simp only [Act.put, List.getElem_toArray, List.getElem_cons_succ, List.getElem_cons_zero, List.setIfInBounds_toArray, List.set_cons_zero, List.set_cons_succ]
      refine wpW_one 3 _ rfl (by kernel_rfl) (step_call rfl 70 #[.int .i64 v] _ (by go_simp) (l4Of_any v _ hv) ?_)
      rintro e w7 ⟨k7, g7, hk7, rfl, hg7, H7, b7⟩
      have G7 := G6.keep b7
      clear G6 b7 y0 y1 y2 y3 y4 y5
      obtain ⟨_, y0, y1, y2, y3, y4, y5⟩ := id G7.DA
      refine ⟨_, rfl, fun _ => ⟨y0, y1, y2, y3, y4, y5⟩, ?_⟩
      simp only [Act.put, List.getElem_toArray, List.getElem_cons_succ, List.getElem_cons_zero, List.setIfInBounds_toArray, List.set_cons_zero, List.set_cons_succ]
      have hj := l4Join_any y (ofV v k7) (some ⟨g, 0, none⟩) (some ⟨g7, 0, none⟩) gc 8 w7 (by rw [hn8]; exact G7.H.row) H7.row hAI (ga_ofV hv hk7)
      rw [hn8] at hj
      refine wpW_one 4 _ rfl (by kernel_rfl) (step_call rfl 69 #[.agg #[.int .i64 y.c, .int .i64 y.s, .int .i64 y.lo, .int .i64 y.hi, .slice (some ⟨g, 0, none⟩) 8 gc, .bool y.fu], .agg #[.int .i64 1, .int .i64 v, .int .i64 v, .int .i64 v, .slice (some ⟨g7, 0, none⟩) 8 8, .bool false]] _ (by go_simp) hj ?_)
      rintro e w8 ⟨g8, cap8, rfl, hg8, H8, b8⟩
      have hAJ : AI (jn y (ofV v k7)) := ai_jn hAI (ga_ofV hv hk7)
      generalize jn y (ofV v k7) = z at *
      have hRl := G7.RA.lt
      have hDl := G7.DA.lt
      have hne := G7.ne
      have G8 := G7.keep b8
      have G9 := G8.put (y' := z) (g' := g8) (gc' := cap8) H8 (by omega)
      have f8 := G8.DF
      clear G7 b8 y0 y1 y2 y3 y4 y5 hj H7 H8
      obtain ⟨_, y0, y1, y2, y3, y4, y5⟩ := id G8.DA
      refine ⟨_, rfl, fun _ => ⟨y0, y1, y2, y3, y4, y5⟩, ?_⟩
      simp only [Act.put, List.getElem_toArray, List.getElem_cons_succ, List.getElem_cons_zero, List.setIfInBounds_toArray, List.set_cons_zero, List.set_cons_succ]
      refine wpW_one 5 _ rfl (by kernel_rfl) (step_storeV rfl 3 16 rfl D z.c z.s z.lo z.hi _ z.fu _ _ _ _ _ (some ⟨g8, 0, none⟩) 8 cap8 rfl rfl y0 y1 y2 y3 y4 y5 f8 ?_)
      refine ⟨fun h => absurd h (by decide), ?_⟩
      refine wpW_done (by kernel_rfl) ?_
      simp only [Act.put, List.getElem_toArray, List.getElem_cons_succ, List.getElem_cons_zero, List.setIfInBounds_toArray, List.set_cons_zero, List.set_cons_succ]
      clear G8 f8 y0 y1 y2 y3 y4 y5
      generalize ((((((w8.setCell ⟨D, 0, none⟩ (.int .i64 z.c)).setCell ⟨D, 1, none⟩ (.int .i64 z.s)).setCell ⟨D, 2, none⟩ (.int .i64 z.lo)).setCell ⟨D, 3, none⟩ (.int .i64 z.hi)).setCell ⟨D, 4, none⟩ (.slice (some ⟨g8, 0, none⟩) 8 cap8)).setCell ⟨D, 5, none⟩ (.bool z.fu)) = w9 at G9 ⊢
      go_wp2
      go_roundw
      case rel => exact ⟨k - 1, B + 2, z, g8, cap8, by go_num, by omega, by omega, hAJ, G9⟩
      case measure => simp [intOf]; omega
end Go.Proofs.YtmeckcaekkangaaGreat
