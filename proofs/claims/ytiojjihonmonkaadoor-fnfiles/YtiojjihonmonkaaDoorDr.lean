/- The model's files, drawn. -/
import Derived.Test.YtiojjihonmonkaaDoorDx
import Derived.Laws.BytesArg
import Derived.Deep.RegionHeld3
import Derived.Deep.CutBlock
import Derived.Deep.DeepCutAuto
namespace Go.Proofs.YtiojjihonmonkaaDoor
open Go.RowKit
set_option linter.unusedSimpArgs false
set_option linter.unusedVariables false
section
variable {w : World} {CB : Nat} {ao : Option Addr} {n cap : Nat} {f : Nat → Int} {A : Nat}

/-- Drawn files. -/
def FOut (w : World) (CB : Nat) (ao : Option Addr) (n cap : Nat) (f : Nat → Int) (A : Nat) (e : Ending) (w' : World) : Prop :=
  ∃ (Q : Int) (p : Option Addr) (m c : Nat) (F : Nat → Fil), e = .returned (.agg #[.int .i64 Q, .slice p m c]) ∧ (-1 ≤ Q ∧ Q ≤ 60001) ∧ Dw m F ∧ SRow w' w.heap.size (.slice p m c) m F ∧ CS w w' CB ao n cap f (A + 600)

set_option maxRecDepth 100000 in
set_option maxHeartbeats 8000000 in
theorem files_any (h : CS w w CB ao n cap f A) (hA : A ≤ 1000) :
    Calls Tryd.prog 9 #[.pointer (some ⟨CB, 0, none⟩)] w fun e w' => FOut w CB ao n cap f A e w' := by
  have b1 := below_new w (.cells #[.int .i64 0, .slice none 0 0] 25)
  have R1 := QAt.new w 0 (.slice none 0 0) 25
  have RF1 : ∀ j, (w.alloc (.cells #[.int .i64 0, .slice none 0 0] 25)).frozen? ⟨w.heap.size, j, none⟩ = false := fun j => by simp [go_sem]
  have C1 := h.keep b1
  have hcb := h.lt
  go_enter Tryd.func9, Tryd.ntmps9
  go_wp2_with fail
  generalize w.alloc (.cells #[.int .i64 0, .slice none 0 0] 25) = w1 at *
  refine (pick_s 100 (by omega) C1.self (by omega)).mono ?_
  rintro e w2 ⟨x, rfl, x0, x1, K2⟩
  have hw2 : IntKind.i64.wrap (20 + x) = 20 + x := by rw [IntKind.wrap_i64] <;> omega
  have C2 := C1.trans K2
  have R2 := qat_grown R1 K2.gr (by omega)
  have RF2 := fz_grown RF1 R1.lt K2.gr (by omega)
  have b3 := below_new w2 (.cells #[.int .i64 (20 + x), .slice none 0 0] 25)
  have H3 : FS w (w2.alloc (.cells #[.int .i64 (20 + x), .slice none 0 0] 25)) CB ao n cap f (A + 1) w2.heap.size (20 + x) none 0 0 :=
    ⟨C2.keep b3, R2.lt, QAt.new w2 (20 + x) (.slice none 0 0) 25, fun j => by simp [go_sem], R2.keep b3, fun j => (b3.frozen (p := ⟨w.heap.size, j, none⟩) R2.lt).trans (RF2 j), ⟨fun _ => ⟨⟨#[]⟩, 0, fun _ => 0, 0⟩, ⟨fun i hi => by omega, fun i hi => by omega, by omega⟩, [], rfl, World.ownsRow_nil _ _ _ _, fun i x hx => by simp at hx⟩, by omega⟩
  clear R1 RF1 C1 K2 C2 R2 RF2 b3 b1
  go_wp2_with fail
  generalize w2.alloc (.cells #[.int .i64 (20 + x), .slice none 0 0] 25) = w3 at *
  generalize hfbd : w2.heap.size = fb at *
  generalize 20 + x = Q0 at *
  clear hfbd x0 x1 hw2
  refine (one_s 4 (by omega) H3.cs.self (by omega)).mono ?_
  rintro e w4 ⟨b, rfl, K4⟩
  have H4 := H3.draw K4
  clear H3 K4
  go_upto_if 14 with fail
  go_cut [] from 15 to 15 (fun wx => ∃ Q, FS w wx CB ao n cap f (A + 2) fb Q none 0 0)
  case first =>
    obtain ⟨_, q0, q1⟩ := id H4.q
    have qf := H4.qf
    cases b
    · go_wp2
      go_meet
      exact ⟨Q0, H4⟩
    · go_wp2
      go_meet
      exact ⟨60000, H4.setQ 60000 (by omega)⟩
  case rest =>
    obtain ⟨Q, H5⟩ := hcut
    clear H4
    have HQ := H5.qb
    go_wp2_with fail
    refine (pick_s 12 (by omega) H5.cs.self (by omega)).mono ?_
    rintro e w6 ⟨x, rfl, x0, x1, K6⟩
    have H6 := H5.draw K6
    obtain ⟨q, rfl⟩ := Int.eq_ofNat_of_zero_le x0
    have hq12 : q < 12 := by omega
    clear H5 K6 x0 x1
    go_upto_block 0 with fail
    go_cut [] from 18 to 64 (fun wx => ∃ p m c, m ≤ 40 ∧ FS w wx CB ao n cap f (A + 250) fb Q p m c)
    case first =>
      go_wp2_with fail
      go_loopw [4] (fun i wr => ∃ (k : Nat) (p : Option Addr) (m c : Nat), k ≤ q ∧ i = .int .i64 k ∧ m ≤ 40 ∧ FS w wr CB ao n cap f (A + 3 + (q - k) * 20) fb Q p m c) (fun i _ => (intOf i).toNat)
      case atStart => exact ⟨q, none, 0, 0, Nat.le_refl _, rfl, by omega, H6.mono (by omega)⟩
      case round =>
        obtain ⟨k, p, m, c, hk, rfl, hm, H⟩ := hrel
        clear H6
        by_cases hk0 : 0 < k
        · go_wp2_with fail
          refine (fileName_s H.cs.self (by omega)).mono ?_
          rintro e w2 ⟨s, hs, rfl, K2⟩
          have H2 := H.draw K2
          generalize hA2 : A + 3 + (q - k) * 20 + 1 = A2 at *
          have b3 := below_new w2 (.cells #[.int .i64 Q, .slice p m c] 25)
          have S3 := H2.cs.self.keep b3
          have X3 := QAt.new w2 Q (.slice p m c) 25
          have XF3 : ∀ j, (w2.alloc (.cells #[.int .i64 Q, .slice p m c] 25)).frozen? ⟨w2.heap.size, j, none⟩ = false := fun j => by simp [go_sem]
          obtain ⟨lq, q0, q1⟩ := id H2.q
          have hcb2 := H2.cs.ltw
          have hfl2 := H2.lt
          clear H K2 b3
          go_wp2_with fail
          generalize w2.alloc (.cells #[.int .i64 Q, .slice p m c] 25) = w3 at *
          refine (pick_s 6 (by omega) S3.self (by omega)).mono ?_
          rintro e w4 ⟨y, rfl, y0, y1, K4⟩
          have S4 := S3.trans K4
          have X4 := qat_grown X3 K4.gr (by omega)
          have XF4 := fz_grown XF3 X3.lt K4.gr (by omega)
          have H4 := H2.draw S4
          have hz4 := S4.gr.size
          have hxl := X4.lt
          clear S3 X3 XF3 K4 q0 q1
          go_upto_block 2 with fail
          go_cut [7] from 27 to 61 (fun s7 wx => SwO w2 wx CB ao n cap f (A2 + 14) fb w2.heap.size Q s7)
          case first =>
            obtain ⟨F, hD, hS⟩ := H4.s
            obtain ⟨_, q0, q1⟩ := id H4.q
            have hy : y = 0 ∨ y = 1 ∨ y = 2 ∨ y = 3 ∨ y = 4 ∨ y = 5 := by omega
            clear y0 y1
            rcases hy with rfl | rfl | rfl | rfl | rfl | rfl
            · go_wp2_with fail
              refine (createFile_step Q m F s (by omega) (by omega) hD w4 p c hS.row).mono ?_
              rintro e w5 ⟨Q', cd, m', ao', cap', rfl, b5, hok⟩
              have X5 := X4.keep b5
              have XF5 : ∀ j, w5.frozen? ⟨w2.heap.size, j, none⟩ = false := fun j => (b5.frozen (p := ⟨w2.heap.size, j, none⟩) X4.lt).trans (XF4 j)
              have hdone := sw_done (Q := Q) (fb := fb) (A := A2 + 14) S4 X4 (Nat.le_refl _) (by omega) (by omega) b5 hok
              clear q0 q1
              obtain ⟨_, v0, v1⟩ := X5
              go_wp2
              go_meet
              exact hdone
            · go_wp2_with fail
              refine (createFile_step Q m F s (by omega) (by omega) hD w4 p c hS.row).mono ?_
              rintro e w5 ⟨Q', cd, m', ao', cap', rfl, b5, hok⟩
              have X5 := X4.keep b5
              have XF5 : ∀ j, w5.frozen? ⟨w2.heap.size, j, none⟩ = false := fun j => (b5.frozen (p := ⟨w2.heap.size, j, none⟩) X4.lt).trans (XF4 j)
              have hdone := sw_done (Q := Q) (fb := fb) (A := A2 + 14) S4 X4 (Nat.le_refl _) (by omega) (by omega) b5 hok
              clear q0 q1
              obtain ⟨_, v0, v1⟩ := X5
              go_wp2
              go_meet
              exact hdone
            · go_wp2_with fail
              refine (syncFile_step Q m F s (by omega) (by omega) hD w4 p c hS.row).mono ?_
              rintro e w5 ⟨Q', cd, m', ao', cap', rfl, b5, hok⟩
              have X5 := X4.keep b5
              have XF5 : ∀ j, w5.frozen? ⟨w2.heap.size, j, none⟩ = false := fun j => (b5.frozen (p := ⟨w2.heap.size, j, none⟩) X4.lt).trans (XF4 j)
              have hdone := sw_done (Q := Q) (fb := fb) (A := A2 + 14) S4 X4 (Nat.le_refl _) (by omega) (by omega) b5 hok
              clear q0 q1
              obtain ⟨_, v0, v1⟩ := X5
              go_wp2
              go_meet
              exact hdone
            · go_wp2_with fail
              refine (one_s 3 (by omega) H4.cs.self (by omega)).mono ?_
              rintro e w7 ⟨b3, rfl, K7⟩
              have S7 := S4.trans K7
              have X7 := qat_grown X4 K7.gr (by omega)
              have XF7 := fz_grown XF4 X4.lt K7.gr (by omega)
              have H7 := H4.draw K7
              have z7 := K7.gr.size
              clear q0 q1 hS hD
              obtain ⟨F, hD, hS⟩ := H7.s
              obtain ⟨_, q0, q1⟩ := id H7.q
              cases b3
              · go_wp2
                go_meet
                exact sw_same S7 X7 (by omega) H7 hm
              · go_wp2_with fail
                refine (removeFile_step Q m F s (by omega) (by omega) hD w7 p c hS.row).mono ?_
                rintro e w5 ⟨Q', cd, m', ao', cap', rfl, b5, hok⟩
                have X5 := X7.keep b5
                have XF5 : ∀ j, w5.frozen? ⟨w2.heap.size, j, none⟩ = false := fun j => (b5.frozen (p := ⟨w2.heap.size, j, none⟩) X7.lt).trans (XF7 j)
                have hdone := sw_done (Q := Q) (fb := fb) (A := A2 + 14) S7 X7 (Nat.le_refl _) (by omega) (by omega) b5 hok
                clear q0 q1
                obtain ⟨_, v0, v1⟩ := X5
                go_wp2
                go_meet
                exact hdone
            · go_upto_region 11 with fail
              refine wp_region_w (fun W : World => W.cell? ⟨fb, 0, none⟩ = some (.int .i64 Q) ∧ W.cell? ⟨fb, 1, none⟩ = some (.slice p m c)) (fun _ => true) (by kernel_rfl) ?_
              change wpW _ _ _ _ _ _ 10 _ _ w4.drew
              have bd := (Below.refl w4.heap.size w4).drew
              have Sd := S4.keep bd
              have Xd := X4.keep bd
              have XFd : ∀ j, w4.drew.frozen? ⟨w2.heap.size, j, none⟩ = false := XF4
              have Hd := H4.keep bd
              have zd : w4.drew.heap.size = w4.heap.size := rfl
              clear q0 q1
              obtain ⟨_, q0, q1⟩ := id Hd.q
              generalize w4.drew = W4 at *
              refine wpW_take 0 _ (.agg #[.int .i64 Q, .slice p m c]) rfl (by kernel_rfl) (by kernel_rfl) (by kernel_rfl) (fun _ _ _ h => h) (by kernel_rfl) (.inl ⟨rfl, fun w' hS' => by obtain ⟨s0, s1⟩ := hS'; go_simp⟩) ⟨q0, q1⟩ ?_
              simp only [Act.put, List.getElem_toArray, List.getElem_cons_succ, List.getElem_cons_zero, List.setIfInBounds_toArray, List.set_cons_zero, List.set_cons_succ]
              refine wpW_take 1 _ (.string s) rfl (by kernel_rfl) (by kernel_rfl) (by kernel_rfl) (fun _ _ _ h => h) (by kernel_rfl) (.inl ⟨rfl, fun w' hS' => by go_simp⟩) ⟨q0, q1⟩ ?_
              simp only [Act.put, List.getElem_toArray, List.getElem_cons_succ, List.getElem_cons_zero, List.setIfInBounds_toArray, List.set_cons_zero, List.set_cons_succ]
              refine wpW_take 2 _ (.pointer (some ⟨CB, 0, none⟩)) rfl (by kernel_rfl) (by kernel_rfl) (by kernel_rfl) (fun _ _ _ h => h) (by kernel_rfl) (.inl ⟨rfl, fun w' hS' => by go_simp⟩) ⟨q0, q1⟩ ?_
              simp only [Act.put, List.getElem_toArray, List.getElem_cons_succ, List.getElem_cons_zero, List.setIfInBounds_toArray, List.set_cons_zero, List.set_cons_succ]
              refine wpW_one 3 _ rfl (by kernel_rfl) (step_call rfl 26 #[.pointer (some ⟨CB, 0, none⟩), .int .i64 9] _ (by go_simp) (bytes9_s Hd.cs.self (by omega)) ?_)
              rintro e w5 ⟨v, L, rfl, hL, hO, K5⟩
              obtain ⟨ad, bc, rfl, hB⟩ := bao_of hO
              have S5 := Sd.trans K5
              have X5 := qat_grown Xd K5.gr (by omega)
              have XF5 := fz_grown XFd Xd.lt K5.gr (by omega)
              have H5 := Hd.draw K5
              have z5 := K5.gr.size
              clear q0 q1 hS hD
              obtain ⟨_, q0, q1⟩ := id H5.q
              obtain ⟨F, hD, hS⟩ := H5.s
              refine ⟨_, rfl, fun _ => ⟨q0, q1⟩, ?_⟩
              simp only [Act.put, List.getElem_toArray, List.getElem_cons_succ, List.getElem_cons_zero, List.setIfInBounds_toArray, List.set_cons_zero, List.set_cons_succ]
              refine wpW_one 4 _ rfl (by kernel_rfl) (step_call rfl 25 #[.agg #[.int .i64 Q, .slice p m c], .string s, .slice ad L.length bc] _ (by go_simp) (appendFile_step Q m F s (by omega) (by omega) hD w5 p c hS.row ad L.length bc (fl L) (by omega) hO.bd.fl hB) ?_)
              rintro e w6 ⟨Q', cd, m', ao', cap', rfl, b6, hok⟩
              have X6 := X5.keep b6
              have XF6 : ∀ j, w6.frozen? ⟨w2.heap.size, j, none⟩ = false := fun j => (b6.frozen (p := ⟨w2.heap.size, j, none⟩) X5.lt).trans (XF5 j)
              have H6 := H5.keep b6
              have hdone := sw_done (Q := Q) (fb := fb) (A := A2 + 14) S5 X5 (Nat.le_refl _) (by omega) (by omega) b6 hok
              clear q0 q1
              obtain ⟨_, q0, q1⟩ := id H6.q
              refine ⟨_, rfl, fun _ => ⟨q0, q1⟩, ?_⟩
              simp only [Act.put, List.getElem_toArray, List.getElem_cons_succ, List.getElem_cons_zero, List.setIfInBounds_toArray, List.set_cons_zero, List.set_cons_succ]
              refine wpW_take 5 _ (.tuple #[.agg #[.int .i64 Q', .slice ao' m' cap'], .int .i64 cd]) rfl (by kernel_rfl) (by kernel_rfl) (by kernel_rfl) (fun _ _ _ h => h) (by kernel_rfl) (.inl ⟨rfl, fun w' hS' => by go_simp⟩) ⟨q0, q1⟩ ?_
              simp only [Act.put, List.getElem_toArray, List.getElem_cons_succ, List.getElem_cons_zero, List.setIfInBounds_toArray, List.set_cons_zero, List.set_cons_succ]
              refine wpW_take 6 _ (.agg #[.int .i64 Q', .slice ao' m' cap']) rfl (by kernel_rfl) (by kernel_rfl) (by kernel_rfl) (fun _ _ _ h => h) (by kernel_rfl) (.inl ⟨rfl, fun w' hS' => by go_simp⟩) ⟨q0, q1⟩ ?_
              simp only [Act.put, List.getElem_toArray, List.getElem_cons_succ, List.getElem_cons_zero, List.setIfInBounds_toArray, List.set_cons_zero, List.set_cons_succ]
              refine wpW_take 7 _ (.int .i64 cd) rfl (by kernel_rfl) (by kernel_rfl) (by kernel_rfl) (fun _ _ _ h => h) (by kernel_rfl) (.inl ⟨rfl, fun w' hS' => by go_simp⟩) ⟨q0, q1⟩ ?_
              simp only [Act.put, List.getElem_toArray, List.getElem_cons_succ, List.getElem_cons_zero, List.setIfInBounds_toArray, List.set_cons_zero, List.set_cons_succ]
              refine wpW_one 8 _ rfl (by kernel_rfl) (step_storeQ rfl 6 33 rfl w2.heap.size Q (.slice p m c) Q' ao' m' cap' rfl rfl X6 XF6 ?_)
              have H8 := (qat_others H6.q (oth2 w6 w2.heap.size (.int .i64 Q') (.slice ao' m' cap')) (by omega))
              clear q0 q1
              obtain ⟨_, q0, q1⟩ := id H8
              refine ⟨fun _ => ⟨q0, q1⟩, ?_⟩
              simp only [Act.put, List.getElem_toArray, List.getElem_cons_succ, List.getElem_cons_zero, List.setIfInBounds_toArray, List.set_cons_zero, List.set_cons_succ]
              refine wpW_one 9 _ rfl (by kernel_rfl) (step_val rfl (.int .i64 cd) (w' := (w6.setCell ⟨w2.heap.size, 0, none⟩ (.int .i64 Q')).setCell ⟨w2.heap.size, 1, none⟩ (.slice ao' m' cap')) (by go_simp) ?_)
              refine ⟨fun _ => ⟨q0, q1⟩, ?_⟩
              refine wpW_done (by kernel_rfl) ?_
              simp only [Act.put, List.getElem_toArray, List.getElem_cons_succ, List.getElem_cons_zero, List.setIfInBounds_toArray, List.set_cons_zero, List.set_cons_succ]
              clear q0 q1
              go_wp2
              go_meet
              exact hdone
            · go_upto_region 11 with fail
              refine wp_region_w (fun W : World => W.cell? ⟨fb, 0, none⟩ = some (.int .i64 Q) ∧ W.cell? ⟨fb, 1, none⟩ = some (.slice p m c)) (fun _ => true) (by kernel_rfl) ?_
              change wpW _ _ _ _ _ _ 10 _ _ w4.drew
              have bd := (Below.refl w4.heap.size w4).drew
              have Sd := S4.keep bd
              have Xd := X4.keep bd
              have XFd : ∀ j, w4.drew.frozen? ⟨w2.heap.size, j, none⟩ = false := XF4
              have Hd := H4.keep bd
              have zd : w4.drew.heap.size = w4.heap.size := rfl
              clear q0 q1
              obtain ⟨_, q0, q1⟩ := id Hd.q
              generalize w4.drew = W4 at *
              refine wpW_take 0 _ (.agg #[.int .i64 Q, .slice p m c]) rfl (by kernel_rfl) (by kernel_rfl) (by kernel_rfl) (fun _ _ _ h => h) (by kernel_rfl) (.inl ⟨rfl, fun w' hS' => by obtain ⟨s0, s1⟩ := hS'; go_simp⟩) ⟨q0, q1⟩ ?_
              simp only [Act.put, List.getElem_toArray, List.getElem_cons_succ, List.getElem_cons_zero, List.setIfInBounds_toArray, List.set_cons_zero, List.set_cons_succ]
              refine wpW_take 1 _ (.string s) rfl (by kernel_rfl) (by kernel_rfl) (by kernel_rfl) (fun _ _ _ h => h) (by kernel_rfl) (.inl ⟨rfl, fun w' hS' => by go_simp⟩) ⟨q0, q1⟩ ?_
              simp only [Act.put, List.getElem_toArray, List.getElem_cons_succ, List.getElem_cons_zero, List.setIfInBounds_toArray, List.set_cons_zero, List.set_cons_succ]
              refine wpW_take 2 _ (.pointer (some ⟨CB, 0, none⟩)) rfl (by kernel_rfl) (by kernel_rfl) (by kernel_rfl) (fun _ _ _ h => h) (by kernel_rfl) (.inl ⟨rfl, fun w' hS' => by go_simp⟩) ⟨q0, q1⟩ ?_
              simp only [Act.put, List.getElem_toArray, List.getElem_cons_succ, List.getElem_cons_zero, List.setIfInBounds_toArray, List.set_cons_zero, List.set_cons_succ]
              refine wpW_one 3 _ rfl (by kernel_rfl) (step_call rfl 26 #[.pointer (some ⟨CB, 0, none⟩), .int .i64 9] _ (by go_simp) (bytes9_s Hd.cs.self (by omega)) ?_)
              rintro e w5 ⟨v, L, rfl, hL, hO, K5⟩
              obtain ⟨ad, bc, rfl, hB⟩ := bao_of hO
              have S5 := Sd.trans K5
              have X5 := qat_grown Xd K5.gr (by omega)
              have XF5 := fz_grown XFd Xd.lt K5.gr (by omega)
              have H5 := Hd.draw K5
              have z5 := K5.gr.size
              clear q0 q1 hS hD
              obtain ⟨_, q0, q1⟩ := id H5.q
              obtain ⟨F, hD, hS⟩ := H5.s
              refine ⟨_, rfl, fun _ => ⟨q0, q1⟩, ?_⟩
              simp only [Act.put, List.getElem_toArray, List.getElem_cons_succ, List.getElem_cons_zero, List.setIfInBounds_toArray, List.set_cons_zero, List.set_cons_succ]
              refine wpW_one 4 _ rfl (by kernel_rfl) (step_call rfl 25 #[.agg #[.int .i64 Q, .slice p m c], .string s, .slice ad L.length bc] _ (by go_simp) (appendFile_step Q m F s (by omega) (by omega) hD w5 p c hS.row ad L.length bc (fl L) (by omega) hO.bd.fl hB) ?_)
              rintro e w6 ⟨Q', cd, m', ao', cap', rfl, b6, hok⟩
              have X6 := X5.keep b6
              have XF6 : ∀ j, w6.frozen? ⟨w2.heap.size, j, none⟩ = false := fun j => (b6.frozen (p := ⟨w2.heap.size, j, none⟩) X5.lt).trans (XF5 j)
              have H6 := H5.keep b6
              have hdone := sw_done (Q := Q) (fb := fb) (A := A2 + 14) S5 X5 (Nat.le_refl _) (by omega) (by omega) b6 hok
              clear q0 q1
              obtain ⟨_, q0, q1⟩ := id H6.q
              refine ⟨_, rfl, fun _ => ⟨q0, q1⟩, ?_⟩
              simp only [Act.put, List.getElem_toArray, List.getElem_cons_succ, List.getElem_cons_zero, List.setIfInBounds_toArray, List.set_cons_zero, List.set_cons_succ]
              refine wpW_take 5 _ (.tuple #[.agg #[.int .i64 Q', .slice ao' m' cap'], .int .i64 cd]) rfl (by kernel_rfl) (by kernel_rfl) (by kernel_rfl) (fun _ _ _ h => h) (by kernel_rfl) (.inl ⟨rfl, fun w' hS' => by go_simp⟩) ⟨q0, q1⟩ ?_
              simp only [Act.put, List.getElem_toArray, List.getElem_cons_succ, List.getElem_cons_zero, List.setIfInBounds_toArray, List.set_cons_zero, List.set_cons_succ]
              refine wpW_take 6 _ (.agg #[.int .i64 Q', .slice ao' m' cap']) rfl (by kernel_rfl) (by kernel_rfl) (by kernel_rfl) (fun _ _ _ h => h) (by kernel_rfl) (.inl ⟨rfl, fun w' hS' => by go_simp⟩) ⟨q0, q1⟩ ?_
              simp only [Act.put, List.getElem_toArray, List.getElem_cons_succ, List.getElem_cons_zero, List.setIfInBounds_toArray, List.set_cons_zero, List.set_cons_succ]
              refine wpW_take 7 _ (.int .i64 cd) rfl (by kernel_rfl) (by kernel_rfl) (by kernel_rfl) (fun _ _ _ h => h) (by kernel_rfl) (.inl ⟨rfl, fun w' hS' => by go_simp⟩) ⟨q0, q1⟩ ?_
              simp only [Act.put, List.getElem_toArray, List.getElem_cons_succ, List.getElem_cons_zero, List.setIfInBounds_toArray, List.set_cons_zero, List.set_cons_succ]
              refine wpW_one 8 _ rfl (by kernel_rfl) (step_storeQ rfl 6 33 rfl w2.heap.size Q (.slice p m c) Q' ao' m' cap' rfl rfl X6 XF6 ?_)
              have H8 := (qat_others H6.q (oth2 w6 w2.heap.size (.int .i64 Q') (.slice ao' m' cap')) (by omega))
              clear q0 q1
              obtain ⟨_, q0, q1⟩ := id H8
              refine ⟨fun _ => ⟨q0, q1⟩, ?_⟩
              simp only [Act.put, List.getElem_toArray, List.getElem_cons_succ, List.getElem_cons_zero, List.setIfInBounds_toArray, List.set_cons_zero, List.set_cons_succ]
              refine wpW_one 9 _ rfl (by kernel_rfl) (step_val rfl (.int .i64 cd) (w' := (w6.setCell ⟨w2.heap.size, 0, none⟩ (.int .i64 Q')).setCell ⟨w2.heap.size, 1, none⟩ (.slice ao' m' cap')) (by go_simp) ?_)
              refine ⟨fun _ => ⟨q0, q1⟩, ?_⟩
              refine wpW_done (by kernel_rfl) ?_
              simp only [Act.put, List.getElem_toArray, List.getElem_cons_succ, List.getElem_cons_zero, List.setIfInBounds_toArray, List.set_cons_zero, List.set_cons_succ]
              clear q0 q1
              go_wp2
              go_meet
              exact hdone
          case rest =>
            obtain ⟨Qx, px, mx, cx, cd, rfl, S5, X5, hok⟩ := hcut
            have H5 := H2.draw S5
            obtain ⟨_, q0, q1⟩ := id H5.q
            obtain ⟨_, v0, v1⟩ := id X5
            have qf := H5.qf
            by_cases hc0 : cd = 0
            · obtain ⟨rfl, hmx, hs5⟩ := hok hc0
              subst hc0
              have H6 := H5.setQ Qx H5.qb
              have o6 := oth1 wc fb 0 (.int .i64 Qx)
              have H7 := H6.setF px mx cx (by obtain ⟨F', hD', hS'⟩ := hs5; exact ⟨F', hD', srow_others hS' o6 (by omega)⟩)
              clear hok H6 S5 X5 H2
              go_wp2
              go_roundw
              case rel => exact ⟨k - 1, px, mx, cx, by omega, by go_num, hmx, H7.mono (by omega)⟩
              case measure => simp [intOf]; omega
            · have hcb : (cd == 0) = false := by simp [hc0]
              clear hok S5 X5 H2 v0 v1 q0 q1
              go_wp2
              go_roundw
              case rel => exact ⟨k - 1, p, m, c, by omega, by go_num, hm, H5.mono (by omega)⟩
              case measure => simp [intOf]; omega
        · obtain rfl : k = 0 := by omega
          go_wp2
          go_meet
          exact ⟨p, m, c, hm, H.mono (by omega)⟩
    case rest =>
      obtain ⟨p, m, c, hm, H7⟩ := hcut
      clear H6
      go_wp2_with fail
      refine (pick_s 40 (by omega) H7.cs.self (by omega)).mono ?_
      rintro e w8 ⟨z, rfl, z0, z1, K8⟩
      have H8 := H7.draw K8
      have hfl := H8.lt
      have hl8 := H8.q.lt
      clear H7 K8
      go_upto_block 3 with fail
      go_cut [] from 67 to 113 (fun wx => ∃ Q p m c, m ≤ 41 ∧ FS w wx CB ao n cap f (A + 400) fb Q p m c)
      case first =>
        by_cases e0 : z = 0
        · subst e0
          have bA := below_new w8 (.cells #[.int .i64 (-1), .int .i64 0, .int .i64 60001] 3)
          have HA8 := H8.keep bA
          have LA : LiAt (w8.alloc (.cells #[.int .i64 (-1), .int .i64 0, .int .i64 60001] 3)) w8.heap.size [-1, 0, 60001] := LiAt.new w8 [-1, 0, 60001] 3
          go_wp2_with fail
          generalize w8.alloc (.cells #[.int .i64 (-1), .int .i64 0, .int .i64 60001] 3) = wa at *
          refine (among_s [-1, 0, 60001] (by decide) w8.heap.size LA (by omega) HA8.cs.self (by omega)).mono ?_
          rintro e w9 ⟨Qn, hQn, rfl, K9⟩
          have hQb : -1 ≤ Qn ∧ Qn ≤ 60001 := by simp at hQn; omega
          have H9 := (HA8.draw K9).setQ Qn hQb
          obtain ⟨_, q0, q1⟩ := id (HA8.draw K9).q
          have qf := (HA8.draw K9).qf
          clear LA HA8 H8 K9 hQn bA
          go_wp2
          go_meet
          exact ⟨Qn, p, m, c, by omega, H9.mono (by omega)⟩
        · have n0 : (z == 0) = false := by simp [e0]
          by_cases e1 : z = 1
          · subst e1
            go_upto_region 26 with fail
            refine wp_region_w (fun W : World => W.cell? ⟨fb, 0, none⟩ = some (.int .i64 Q) ∧ W.cell? ⟨fb, 1, none⟩ = some (.slice p m c)) (fun j => j != 11) (by kernel_rfl) ?_
            change wpW _ _ _ _ _ _ 12 _ _ w8.drew
            have Hd := H8.keep (Below.refl w8.heap.size w8).drew
            have zd : w8.drew.heap.size = w8.heap.size := rfl
            obtain ⟨_, q0, q1⟩ := id Hd.q
            generalize w8.drew = W8 at *
            refine wpW_take 0 _ (.pointer (some ⟨fb, 1, none⟩)) rfl (by kernel_rfl) (by kernel_rfl) (by kernel_rfl) (fun _ _ _ h => h) (by kernel_rfl) (.inl ⟨rfl, fun w' hS' => by go_simp⟩) ⟨q0, q1⟩ ?_
            simp only [Act.put, List.getElem_toArray, List.getElem_cons_succ, List.getElem_cons_zero, List.setIfInBounds_toArray, List.set_cons_zero, List.set_cons_succ]
            refine wpW_take 1 _ (.slice p m c) rfl (by kernel_rfl) (by kernel_rfl) (by kernel_rfl) (fun _ _ _ h => h) (by kernel_rfl) (.inl ⟨rfl, fun w' hS' => by obtain ⟨s0, s1⟩ := hS'; go_simp⟩) ⟨q0, q1⟩ ?_
            simp only [Act.put, List.getElem_toArray, List.getElem_cons_succ, List.getElem_cons_zero, List.setIfInBounds_toArray, List.set_cons_zero, List.set_cons_succ]
            refine wpW_take 2 _ (.pointer (some ⟨CB, 0, none⟩)) rfl (by kernel_rfl) (by kernel_rfl) (by kernel_rfl) (fun _ _ _ h => h) (by kernel_rfl) (.inl ⟨rfl, fun w' hS' => by go_simp⟩) ⟨q0, q1⟩ ?_
            simp only [Act.put, List.getElem_toArray, List.getElem_cons_succ, List.getElem_cons_zero, List.setIfInBounds_toArray, List.set_cons_zero, List.set_cons_succ]
            refine wpW_take 5 _ (.pointer (some ⟨CB, 0, none⟩)) rfl (by kernel_rfl) (by kernel_rfl) (by kernel_rfl) (fun _ _ _ h => h) (by kernel_rfl) (.inl ⟨rfl, fun w' hS' => by go_simp⟩) ⟨q0, q1⟩ ?_
            simp only [Act.put, List.getElem_toArray, List.getElem_cons_succ, List.getElem_cons_zero, List.setIfInBounds_toArray, List.set_cons_zero, List.set_cons_succ]
            have bA := below_new W8 (.cells #[.string ⟨#[]⟩, .string ⟨#[90]⟩, .string ⟨#[122, 122]⟩] 9)
            have LA : LsAt (W8.alloc (.cells #[.string ⟨#[]⟩, .string ⟨#[90]⟩, .string ⟨#[122, 122]⟩] 9)) W8.heap.size [(⟨#[]⟩ : ByteArray), ⟨#[90]⟩, ⟨#[122, 122]⟩] := LsAt.new W8 [(⟨#[]⟩ : ByteArray), ⟨#[90]⟩, ⟨#[122, 122]⟩] 9
            have HA := Hd.keep bA
            refine wpW_one 3 _ rfl (by kernel_rfl) (step_val rfl (.slice (some ⟨W8.heap.size, 0, none⟩) 3 3) (w' := W8.alloc (.cells #[.string ⟨#[]⟩, .string ⟨#[90]⟩, .string ⟨#[122, 122]⟩] 9)) (by go_simp) ?_)
            clear q0 q1
            obtain ⟨_, q0, q1⟩ := id HA.q
            refine ⟨fun _ => ⟨q0, q1⟩, ?_⟩
            simp only [Act.put, List.getElem_toArray, List.getElem_cons_succ, List.getElem_cons_zero, List.setIfInBounds_toArray, List.set_cons_zero, List.set_cons_succ]
            generalize W8.alloc (.cells #[.string ⟨#[]⟩, .string ⟨#[90]⟩, .string ⟨#[122, 122]⟩] 9) = wa at *
            refine wpW_one 4 _ rfl (by kernel_rfl) (step_call rfl 28 #[.pointer (some ⟨CB, 0, none⟩), .slice (some ⟨W8.heap.size, 0, none⟩) 3 3] _ (by go_simp) (of_s [(⟨#[]⟩ : ByteArray), ⟨#[90]⟩, ⟨#[122, 122]⟩] 2 (by decide) (by decide) W8.heap.size LA (by omega) HA.cs.self (by omega)) ?_)
            rintro e w9 ⟨s, hs, rfl, K9⟩
            have H9 := HA.draw K9
            clear q0 q1
            obtain ⟨_, q0, q1⟩ := id H9.q
            refine ⟨_, rfl, fun _ => ⟨q0, q1⟩, ?_⟩
            simp only [Act.put, List.getElem_toArray, List.getElem_cons_succ, List.getElem_cons_zero, List.setIfInBounds_toArray, List.set_cons_zero, List.set_cons_succ]
            refine wpW_one 6 _ rfl (by kernel_rfl) (step_call rfl 10 #[.pointer (some ⟨CB, 0, none⟩), .int .i64 2] _ (by go_simp) (pick_s 2 (by omega) H9.cs.self (by omega)) ?_)
            rintro e wd ⟨y, rfl, y0, y1, Kd⟩
            have HD := H9.draw Kd
            clear q0 q1
            obtain ⟨_, q0, q1⟩ := id HD.q
            refine ⟨_, rfl, fun _ => ⟨q0, q1⟩, ?_⟩
            simp only [Act.put, List.getElem_toArray, List.getElem_cons_succ, List.getElem_cons_zero, List.setIfInBounds_toArray, List.set_cons_zero, List.set_cons_succ]
            refine wpW_take 7 _ (.agg #[.string s, .slice none 0 0, .int .i64 y]) rfl (by kernel_rfl) (by kernel_rfl) (by kernel_rfl) (fun _ _ _ h => h) (by kernel_rfl) (.inl ⟨rfl, fun w' hS' => by go_simp⟩) ⟨q0, q1⟩ ?_
            simp only [Act.put, List.getElem_toArray, List.getElem_cons_succ, List.getElem_cons_zero, List.setIfInBounds_toArray, List.set_cons_zero, List.set_cons_succ]
            have bE := below_new wd (.cells #[.string s, .slice none 0 0, .int .i64 y] 35)
            have HE := HD.keep bE
            have e0 : (wd.alloc (.cells #[.string s, .slice none 0 0, .int .i64 y] 35)).cell? ⟨wd.heap.size, 0, none⟩ = some (.string s) := by simp [go_sem]
            have e1 : (wd.alloc (.cells #[.string s, .slice none 0 0, .int .i64 y] 35)).cell? ⟨wd.heap.size, 1, none⟩ = some (.slice none 0 0) := by simp [go_sem]
            have e2 : (wd.alloc (.cells #[.string s, .slice none 0 0, .int .i64 y] 35)).cell? ⟨wd.heap.size, 2, none⟩ = some (.int .i64 y) := by simp [go_sem]
            refine wpW_one 8 _ rfl (by kernel_rfl) (step_val rfl (.slice (some ⟨wd.heap.size, 0, none⟩) 1 1) (w' := wd.alloc (.cells #[.string s, .slice none 0 0, .int .i64 y] 35)) (by go_simp) ?_)
            clear q0 q1
            obtain ⟨_, q0, q1⟩ := id HE.q
            refine ⟨fun _ => ⟨q0, q1⟩, ?_⟩
            simp only [Act.put, List.getElem_toArray, List.getElem_cons_succ, List.getElem_cons_zero, List.setIfInBounds_toArray, List.set_cons_zero, List.set_cons_succ]
            generalize wd.alloc (.cells #[.string s, .slice none 0 0, .int .i64 y] 35) = we at *
            obtain ⟨p', c', wf, hrun, Qf, QFf, HF⟩ := HE.push hm s (by omega) y wd.heap.size e0 e1 e2
            refine wpW_one 9 _ rfl (by kernel_rfl) (step_append_run rfl (.tmp 76) (.tmp 83) 23 rfl (.slice p m c) (.slice (some ⟨wd.heap.size, 0, none⟩) 1 1) (.slice p' (m + 1) c') rfl rfl wf hrun ?_)
            clear q0 q1
            obtain ⟨_, q0, q1⟩ := id Qf
            refine ⟨fun _ => ⟨q0, q1⟩, ?_⟩
            simp only [Act.put, List.getElem_toArray, List.getElem_cons_succ, List.getElem_cons_zero, List.setIfInBounds_toArray, List.set_cons_zero, List.set_cons_succ]
            refine wpW_take 10 _ (.pointer (some ⟨fb, 1, none⟩)) rfl (by kernel_rfl) (by kernel_rfl) (by kernel_rfl) (fun _ _ _ h => h) (by kernel_rfl) (.inl ⟨rfl, fun w' hS' => by go_simp⟩) ⟨q0, q1⟩ ?_
            simp only [Act.put, List.getElem_toArray, List.getElem_cons_succ, List.getElem_cons_zero, List.setIfInBounds_toArray, List.set_cons_zero, List.set_cons_succ]
            refine wpW_one 11 _ rfl (by kernel_rfl) (step_storeL rfl 85 84 rfl fb Q (.slice p m c) p' (m + 1) c' rfl rfl Qf QFf ?_)
            refine ⟨fun h => absurd h (by decide), ?_⟩
            refine wpW_done (by kernel_rfl) ?_
            simp only [Act.put, List.getElem_toArray, List.getElem_cons_succ, List.getElem_cons_zero, List.setIfInBounds_toArray, List.set_cons_zero, List.set_cons_succ]
            clear q0 q1 Qf QFf hrun HE HD H9 HA Hd H8
            go_wp2
            go_meet
            exact ⟨Q, p', m + 1, c', by omega, HF.mono (by omega)⟩
          · have n1 : (z == 1) = false := by simp [e1]
            by_cases e2 : z = 2
            · subst e2
              go_wp2_with fail
              go_loopw [8] (fun i wr => ∃ (k : Nat) (p : Option Addr) (m2 c : Nat), i = .int .i64 k ∧ m2 = m + k ∧ m2 ≤ 41 ∧ FS w wr CB ao n cap f (A + 251 + k) fb Q p m2 c) (fun i _ => 42 - (intOf i).toNat)
              case atStart => exact ⟨0, p, m, c, rfl, by omega, by omega, H8.mono (by omega)⟩
              case round =>
                obtain ⟨k, p, m2, c, rfl, hm2, hm3, Hk⟩ := hrel
                clear H8
                go_upto_region 29 with fail
                have hk41 : k ≤ 41 := by omega
                have HM : Hid (m2 = m + k) := hm2
                clear hm2
                go_cut [94] from 88 to 94 (fun s94 wx => ∃ bb : Bool, s94 = .bool bb ∧ (bb = true → m2 ≤ 40) ∧ FS w wx CB ao n cap f (A + 251 + k + 1) fb Q p m2 c)
                case first =>
                  refine wp_region_w (fun W : World => W.cell? ⟨fb, 0, none⟩ = some (.int .i64 Q) ∧ W.cell? ⟨fb, 1, none⟩ = some (.slice p m2 c)) (fun _ => true) (by kernel_rfl) ?_
                  change wpW _ _ _ _ _ _ 7 _ _ wr.drew
                  have Hd := Hk.keep (Below.refl wr.heap.size wr).drew
                  obtain ⟨_, q0, q1⟩ := id Hd.q
                  generalize wr.drew = W8 at *
                  refine wpW_take 0 _ (.pointer (some ⟨fb, 1, none⟩)) rfl (by kernel_rfl) (by kernel_rfl) (by kernel_rfl) (fun _ _ _ h => h) (by kernel_rfl) (.inl ⟨rfl, fun w' hS' => by go_simp⟩) ⟨q0, q1⟩ ?_
                  simp only [Act.put, List.getElem_toArray, List.getElem_cons_succ, List.getElem_cons_zero, List.setIfInBounds_toArray, List.set_cons_zero, List.set_cons_succ]
                  refine wpW_take 1 _ (.slice p m2 c) rfl (by kernel_rfl) (by kernel_rfl) (by kernel_rfl) (fun _ _ _ h => h) (by kernel_rfl) (.inl ⟨rfl, fun w' hS' => by obtain ⟨s0, s1⟩ := hS'; go_simp⟩) ⟨q0, q1⟩ ?_
                  simp only [Act.put, List.getElem_toArray, List.getElem_cons_succ, List.getElem_cons_zero, List.setIfInBounds_toArray, List.set_cons_zero, List.set_cons_succ]
                  refine wpW_take 2 _ (.int .i64 (m2 : Int)) rfl (by kernel_rfl) (by kernel_rfl) (by kernel_rfl) (fun _ _ _ h => h) (by kernel_rfl) (.inl ⟨rfl, fun w' hS' => by go_simp⟩) ⟨q0, q1⟩ ?_
                  simp only [Act.put, List.getElem_toArray, List.getElem_cons_succ, List.getElem_cons_zero, List.setIfInBounds_toArray, List.set_cons_zero, List.set_cons_succ]
                  refine wpW_take 3 _ (.pointer (some ⟨CB, 0, none⟩)) rfl (by kernel_rfl) (by kernel_rfl) (by kernel_rfl) (fun _ _ _ h => h) (by kernel_rfl) (.inl ⟨rfl, fun w' hS' => by go_simp⟩) ⟨q0, q1⟩ ?_
                  simp only [Act.put, List.getElem_toArray, List.getElem_cons_succ, List.getElem_cons_zero, List.setIfInBounds_toArray, List.set_cons_zero, List.set_cons_succ]
                  refine wpW_one 4 _ rfl (by kernel_rfl) (step_call rfl 10 #[.pointer (some ⟨CB, 0, none⟩), .int .i64 2] _ (by go_simp) (pick_s 2 (by omega) Hd.cs.self (by omega)) ?_)
                  rintro e w9 ⟨y, rfl, y0, y1, K9⟩
                  have H9 := Hd.draw K9
                  have hw9 : IntKind.i64.wrap (40 + y) = 40 + y := by rw [IntKind.wrap_i64] <;> omega
                  clear q0 q1
                  obtain ⟨_, q0, q1⟩ := id H9.q
                  refine ⟨_, rfl, fun _ => ⟨q0, q1⟩, ?_⟩
                  simp only [Act.put, List.getElem_toArray, List.getElem_cons_succ, List.getElem_cons_zero, List.setIfInBounds_toArray, List.set_cons_zero, List.set_cons_succ]
                  refine wpW_take 5 _ (.int .i64 (40 + y)) rfl (by kernel_rfl) (by kernel_rfl) (by kernel_rfl) (fun _ _ _ h => h) (by kernel_rfl) (.inl ⟨rfl, fun w' hS' => by go_simp⟩) ⟨q0, q1⟩ ?_
                  simp only [Act.put, List.getElem_toArray, List.getElem_cons_succ, List.getElem_cons_zero, List.setIfInBounds_toArray, List.set_cons_zero, List.set_cons_succ]
                  refine wpW_take 6 _ (.bool (decide ((m2 : Int) < 40 + y))) rfl (by kernel_rfl) (by kernel_rfl) (by kernel_rfl) (fun _ _ _ h => h) (by kernel_rfl) (.inl ⟨rfl, fun w' hS' => by go_simp⟩) ⟨q0, q1⟩ ?_
                  simp only [Act.put, List.getElem_toArray, List.getElem_cons_succ, List.getElem_cons_zero, List.setIfInBounds_toArray, List.set_cons_zero, List.set_cons_succ]
                  refine wpW_done (by kernel_rfl) ?_
                  clear q0 q1
                  go_wp2
                  go_meet
                  exact ⟨_, rfl, fun h => by have := of_decide_eq_true h; omega, H9⟩
                case rest =>
                  obtain ⟨bb, rfl, hbb, H9⟩ := hcut
                  cases bb
                  · go_wp2
                    go_meet
                    exact ⟨Q, p, m2, c, by omega, H9.mono (by omega)⟩
                  · have hm40 := hbb rfl
                    obtain ⟨_, q0, q1⟩ := id H9.q
                    have qf := H9.qf
                    have t1 : Int.tdiv (k : Int) 10 = ((k / 10 : Nat) : Int) := by rw [Int.tdiv_eq_ediv_of_nonneg (by omega)]; omega
                    have t2 : Int.tmod (k : Int) 10 = ((k % 10 : Nat) : Int) := by rw [Int.tmod_eq_emod_of_nonneg (by omega)]; omega
                    have hu : k / 10 ≤ 4 := by omega
                    have hv : k % 10 ≤ 9 := by omega
                    generalize hku : k / 10 = u at *
                    generalize hkv : k % 10 = v at *
                    clear hku hkv
                    have w1u : IntKind.i64.wrap ((u : Nat) : Int) = ((u : Nat) : Int) := by rw [IntKind.wrap_i64] <;> omega
                    have w1v : IntKind.i64.wrap ((v : Nat) : Int) = ((v : Nat) : Int) := by rw [IntKind.wrap_i64] <;> omega
                    have w2u : IntKind.i64.wrap (97 + (u : Int)) = 97 + (u : Int) := by rw [IntKind.wrap_i64] <;> omega
                    have w2v : IntKind.i64.wrap (48 + (v : Int)) = 48 + (v : Int) := by rw [IntKind.wrap_i64] <;> omega
                    have w3u : (97 + (u : Int)) % 256 = 97 + (u : Int) := by omega
                    have w3v : (48 + (v : Int)) % 256 = 48 + (v : Int) := by omega
                    have bB := below_new wc (.cells #[.int .u8 (97 + (u : Int)), .int .u8 (48 + (v : Int))] 5)
                    have cv : (convert 22 9 (.slice (some ⟨wc.heap.size, 0, none⟩) 2 2)).run Tryd.prog (wc.alloc (.cells #[.int .u8 (97 + (u : Int)), .int .u8 (48 + (v : Int))] 5)) = .ok (.string (strOfNums [97 + (u : Int), 48 + (v : Int)])) (wc.alloc (.cells #[.int .u8 (97 + (u : Int)), .int .u8 (48 + (v : Int))] 5)) := run_convert_bytes_arg (P := Tryd.prog) _ 22 5 Tryd.underlying22 Tryd.underlying5 wc.heap.size 0 2 2 [97 + (u : Int), 48 + (v : Int)] rfl (fun i hi => by
                      match i, hi with
                      | 0, _ => simp [go_sem]
                      | 1, _ => simp [go_sem]) 9 Tryd.underlying9
                    have hSz : (strOfNums [97 + (u : Int), 48 + (v : Int)]).size ≤ 2 := by rw [strOfNums_size]; simp
                    have HB := H9.keep bB
                    generalize strOfNums [97 + (u : Int), 48 + (v : Int)] = S at *
                    have hSz2 : ((⟨#[122, 45]⟩ : ByteArray) ++ S).size ≤ 1048576 := by simp [ByteArray.size_append]; have : (⟨#[122, 45]⟩ : ByteArray).size = 2 := rfl; omega
                    have bE := below_new (wc.alloc (.cells #[.int .u8 (97 + (u : Int)), .int .u8 (48 + (v : Int))] 5)) (.cells #[.string (⟨#[122, 45]⟩ ++ S), .slice none 0 0, .int .i64 0] 35)
                    have HE := HB.keep bE
                    have sE : (wc.alloc (.cells #[.int .u8 (97 + (u : Int)), .int .u8 (48 + (v : Int))] 5)).heap.size = wc.heap.size + 1 := by simp
                    have e0 : ((wc.alloc (.cells #[.int .u8 (97 + (u : Int)), .int .u8 (48 + (v : Int))] 5)).alloc (.cells #[.string (⟨#[122, 45]⟩ ++ S), .slice none 0 0, .int .i64 0] 35)).cell? ⟨wc.heap.size + 1, 0, none⟩ = some (.string (⟨#[122, 45]⟩ ++ S)) := by simp [go_sem]
                    have e1 : ((wc.alloc (.cells #[.int .u8 (97 + (u : Int)), .int .u8 (48 + (v : Int))] 5)).alloc (.cells #[.string (⟨#[122, 45]⟩ ++ S), .slice none 0 0, .int .i64 0] 35)).cell? ⟨wc.heap.size + 1, 1, none⟩ = some (.slice none 0 0) := by simp [go_sem]
                    have e2 : ((wc.alloc (.cells #[.int .u8 (97 + (u : Int)), .int .u8 (48 + (v : Int))] 5)).alloc (.cells #[.string (⟨#[122, 45]⟩ ++ S), .slice none 0 0, .int .i64 0] 35)).cell? ⟨wc.heap.size + 1, 2, none⟩ = some (.int .i64 0) := by simp [go_sem]
                    obtain ⟨p', c', wf, hrun, Qf, QFf, HF⟩ := HE.push hm40 (⟨#[122, 45]⟩ ++ S) hSz2 0 (wc.heap.size + 1) e0 e1 e2
                    obtain ⟨_, r0, r1⟩ := id Qf
                    clear HB HE e0 e1 e2 bB bE H9 Hk hbb sE
                    go_wp2_with (at_builtin; refine wpList_append_run _ rfl (.tmp 98) (.tmp 111) 23 rfl (.slice p m2 c) (.slice (some ⟨wc.heap.size + 1, 0, none⟩) 1 1) (.slice p' (m2 + 1) c') rfl rfl wf hrun ?_)
                    go_roundw
                    case rel => exact ⟨k + 1, p', m2 + 1, c', by go_num, by have := HM.out; omega, by omega, HF.mono (by omega)⟩
                    case measure => simp [intOf]; omega
            · have n2 : (z == 2) = false := by simp [e2]
              go_wp2
              go_meet
              exact ⟨Q, p, m, c, by omega, H8.mono (by omega)⟩
      case rest =>
        obtain ⟨Q, p, m, c, hm, H9⟩ := hcut
        clear H8
        obtain ⟨_, q0, q1⟩ := id H9.q
        obtain ⟨_, r0, r1⟩ := id H9.r
        have rf := H9.rf
        obtain ⟨F, hD, hS⟩ := H9.s
        have o := oth2 wc w.heap.size (.int .i64 Q) (.slice p m c)
        have hS2 := (srow_others hS o (by omega)).base (show w.heap.size ≤ fb + 1 by omega)
        have hC2 := (H9.cs.others o (Nat.le_refl _)).mono (show A + 400 ≤ A + 600 by omega)
        have hqb := H9.qb
        clear H9 hS
        go_wp2
        refine bodyPost_ret (v := .agg #[.int .i64 Q, .slice p m c]) (by simp [results, Tryd.results9, go_sem, r0, r1]) rfl ⟨Q, p, m, c, F, rfl, hqb, hD, hS2, hC2⟩
end
end Go.Proofs.YtiojjihonmonkaaDoor
