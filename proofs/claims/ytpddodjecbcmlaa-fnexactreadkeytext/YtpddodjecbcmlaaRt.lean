/- ReadKeyText, in the model (made by rkt.py). -/
import Derived.Test.YtpddodjecbcmlaaRs
namespace Go.Proofs.Ytpddodjecbcmlaa
open Go.RowKit
set_option linter.unusedSimpArgs false
set_option linter.unusedVariables false

theorem step_storeX {w : World} {ops : Array Oper} {o : Oper} {a : Act} {K : Act → World → Prop} {Q : Exit → Act → World → Prop} {E : Prop} (hgd : o.guard = none) (k j : Nat)
    (ho : o.op = .store 35 (.tmp k) (.tmp j)) (b q : Nat) (va : Option Addr) (n c : Nat) (u : Value) (hx : a.eval (.tmp k) = .pointer (some ⟨b, q, none⟩)) (hv : a.eval (.tmp j) = .slice va n c) (hc : w.cell? ⟨b, q, none⟩ = some u) (hf : w.frozen? ⟨b, q, none⟩ = false) (h : K (a.put o.dst undef) (w.setCell ⟨b, q, none⟩ (.slice va n c))) :
    if Region.wanted o (yielded ops a.tmps) = true then Oper.wp Try.prog o a w K Q else E := by
  have hw : Region.wanted o (yielded ops a.tmps) = true := by simp [Region.wanted, hgd]
  rw [if_pos hw]
  have hx' : a.tmps.getD k undef = .pointer (some ⟨b, q, none⟩) := hx
  have hv' : a.tmps.getD j undef = .slice va n c := hv
  unfold Oper.wp execOp
  simp only [ho, Act.eval, hx', hv']
  go_simp
  exact h
/-- The metric behind k words. -/
def mK (s : ByteArray) (k : Nat) : ByteArray := if k = 0 then ⟨#[]⟩ else km s
/-- The tags behind k words. -/
def tK (s : ByteArray) (k : Nat) : List (ByteArray × ByteArray) := tagsW ((wd s).tail.take (k - 1))

set_option maxHeartbeats 1600000 in
theorem l12ReadKey_any (s : ByteArray) (w : World) (hs : s.size ≤ 1048576) :
    Calls Try.prog 40 #[.string s] w fun e w' => RkO s w e w' := by
  have bw0 : Below w.heap.size w (w.alloc (.cells #[.string ⟨#[]⟩, .slice none 0 0, .int .i64 0] 37)) := (Below.refl _ _).alloc (Nat.le_refl _) _
  have K0 := KAt.new w ⟨#[]⟩ (.slice none 0 0) 0 37
  have fz0 : ∀ j, (w.alloc (.cells #[.string ⟨#[]⟩, .slice none 0 0, .int .i64 0] 37)).frozen? ⟨w.heap.size, j, none⟩ = false := fun j => by simp [go_sem]
  go_enter Try.func40, Try.ntmps40
  go_wp2_with fail
  refine (l12Split_any s 64 _ (by omega)).mono ?_
  rintro e w1 ⟨ao, c, rfl, hS, q1⟩
  have bw1 : Below w.heap.size w w1 := bw0.trans (q1.mono (by simp))
  have K1 := K0.keep q1
  have fz1 : ∀ j, w1.frozen? ⟨w.heap.size, j, none⟩ = false := fun j => (q1.frozen (p := ⟨w.heap.size, j, none⟩) (by simp)).trans (fz0 j)
  clear K0 fz0 bw0
  by_cases h2 : (spB 64 s).length = 2
  · obtain ⟨g1, cap1, e1, hg1, hlt1, hcap1, hcell1⟩ := hS.at (by omega)
    injection e1 with e1 _ _
    subst e1
    have c0 : w1.cell? ⟨g1, 0, none⟩ = some (.string (h0 s)) := by rw [hcell1 0 (by omega)]; simp [h0, List.getD_eq_getElem?_getD, h2]
    have c1 : w1.cell? ⟨g1, 1, none⟩ = some (.string (h1 s)) := by rw [hcell1 1 (by omega)]; simp [h1, List.getD_eq_getElem?_getD, h2]
    have z := half_size h2
    have H2 : Hid ((spB 64 s).length = 2) := h2
    rw [h2]
    clear hcell1 hS h2
    go_wp2_with fail
    refine (l12Number_any (h1 s) _ (by omega)).mono ?_
    rintro e w2 ⟨rfl, e2⟩
    subst e2
    have hnb := numI_bd (h1 s)
    obtain ⟨N, hN⟩ : ∃ N : Int, numI (h1 s) = N := ⟨_, rfl⟩
    have HN : Hid (numI (h1 s) = N) := hN
    rw [hN] at hnb ⊢
    clear hN
    have bnk := (Below.refl w2.heap.size w2).alloc (Nat.le_refl _) (.cells #[.string ⟨#[]⟩, .slice none 0 0, .int .i64 N] 37)
    have X2 := KAt.new w2 ⟨#[]⟩ (.slice none 0 0) N 37
    have xz2 : ∀ j, (w2.alloc (.cells #[.string ⟨#[]⟩, .slice none 0 0, .int .i64 N] 37)).frozen? ⟨w2.heap.size, j, none⟩ = false := fun j => by simp [go_sem]
    have d0 := (bnk.cell (p := ⟨g1, 0, none⟩) hlt1).trans c0
    go_wp2_with fail
    refine (l12Split_any (h0 s) 44 _ (by omega)).mono ?_
    rintro e w3 ⟨bo, c3, rfl, hS3, q3⟩
    have q23 : Below w2.heap.size w2 w3 := bnk.trans (q3.mono (by simp))
    have bw3 : Below w.heap.size w w3 := bw1.trans (q23.mono bw1.size)
    have K3 := K1.keep q23
    have fz3 : ∀ j, w3.frozen? ⟨w.heap.size, j, none⟩ = false := fun j => (q23.frozen (p := ⟨w.heap.size, j, none⟩) K1.lt).trans (fz1 j)
    have X3 := X2.keep q3
    have xz3 : ∀ j, w3.frozen? ⟨w2.heap.size, j, none⟩ = false := fun j => (q3.frozen (p := ⟨w2.heap.size, j, none⟩) (by simp)).trans (xz2 j)
    have hwp := wd_pos s
    have hwd : spB 44 (h0 s) = wd s := rfl
    rw [hwd] at hS3 ⊢
    have wl : (wd s).length ≤ 1048576 := by
      have e3 := spB_total 44 (h0 s)
      rw [hwd] at e3
      omega
    obtain ⟨g3, cap3, e3, hg3, hlt3, hcap3, hcell3⟩ := hS3.at hwp
    injection e3 with e3 _ e4
    subst e3 e4
    have hg3' : w2.heap.size < g3 := by simp at hg3; omega
    have hk3 : w2.heap.size < w3.heap.size := X3.lt
    have hrk : w.heap.size < w2.heap.size := K1.lt
    have wz : ∀ x ∈ (wd s), x.size ≤ 1048576 := fun x hx => by have := spB_size 44 (h0 s) x hx; omega
    have el : (wd s).tail.length = (wd s).length - 1 := List.length_tail
    have R3 : RS w3 w3 w2.heap.size (mK s 0) (.slice none (tK s 0).length 0) (tK s 0) N := ⟨hk3, X3, xz3, tgL_nil _ _, ⟨rfl, rfl, rfl, Nat.le_refl _, fun _ _ _ => rfl⟩⟩
    obtain ⟨_, k0, k1, k2⟩ := id K3
    have hcw : Hid (∀ i (hi : i < (wd s).length), w3.cell? ⟨g3, i, none⟩ = some (.string (wd s)[i])) := hcell3
    clear K1 fz1 c0 c1 d0 hS3 q1 bw1 q3 hwd X2 xz2 X3 xz3 bnk hcell3 q23
    go_wp2
    go_loopw [25] (fun i wr => ∃ (k : Nat) (va : Option Addr) (vc : Nat), k ≤ (wd s).length ∧ i = .int .i64 (k : Int) ∧ RS w3 wr w2.heap.size (mK s k) (.slice va (tK s k).length vc) (tK s k) N ∧ Hid (∀ x ∈ (wd s).tail.take (k - 1), Two x)) (fun i _ => (wd s).length - (intOf i).toNat)
    case atStart => exact ⟨0, none, 0, by omega, rfl, R3, fun x hx => by simp at hx⟩
    case round =>
      obtain ⟨k, va, vc, hk, rfl, R0, HK⟩ := hrel
      clear R3
      obtain ⟨_, b0, b1, b2⟩ := id R0.box
      have bz := R0.fz 0
      have rr : ∀ j, wr.cell? ⟨w.heap.size, j, none⟩ = w3.cell? ⟨w.heap.size, j, none⟩ := fun j => R0.cell (by omega) (by omega)
      have rf : ∀ j, wr.frozen? ⟨w.heap.size, j, none⟩ = false := fun j => (R0.frozen (by omega) (by omega)).trans (fz3 j)
      have r0 := (rr 0).trans k0
      have r1 := (rr 1).trans k1
      have r2 := (rr 2).trans k2
      have bwr : Below w.heap.size w wr := R0.below bw3 (by omega) bw3.size
      by_cases hlt : k < (wd s).length
      · have hx : wr.cell? ⟨g3, k, none⟩ = some (.string (wd s)[k]) := (R0.cell hlt3 (by omega)).trans (hcw.out k hlt)
        have hxz := wz _ (List.getElem_mem hlt)
        by_cases hk0 : k = 0
        · subst hk0
          have e0 : (wd s)[0] = km s := by simp [km, List.getD_eq_getElem?_getD, List.getElem?_eq_getElem hlt]
          rw [e0] at hx hxz
          have R1 := R0.set0 (km s)
          have HX : Hid (∀ x ∈ (wd s).tail.take (0 + 1 - 1), Two x) := fun x hx => by simp at hx
          clear rr rf
          go_wp2
          go_roundw
          case rel => exact ⟨0 + 1, va, vc, by omega, by go_num, R1, HX⟩
          case measure => simp [intOf]; omega
        · have hk1 : ((k : Int) == 0) = false := by simp; omega
          have hi : k - 1 < (wd s).tail.length := by omega
          have e0 : (wd s)[k] = (wd s).tail[k - 1] := by rw [List.getElem_tail]; congr 1; omega
          have et : (wd s).tail.take (k + 1 - 1) = (wd s).tail.take (k - 1) ++ [(wd s)[k]] := by rw [e0, show k + 1 - 1 = (k - 1) + 1 by omega, List.take_succ_eq_append_getElem hi]
          have hmem : (wd s)[k] ∈ (wd s).tail := by rw [e0]; exact List.getElem_mem hi
          have e5' : tK s (k + 1) = tK s k ++ [((side (wd s)[k]).1, (side (wd s)[k]).2)] := by unfold tK; rw [et]; simp [tagsW]
          have em : mK s (k + 1) = mK s k := by simp [mK, hk0]
          have hTl : (tK s k).length ≤ 1048576 := by unfold tK; rw [tagsW_len, List.length_take]; omega
          generalize (wd s)[k] = x at *
          obtain ⟨T, hTe⟩ : ∃ T, tK s k = T := ⟨_, rfl⟩
          rw [hTe] at R0 hTl e5'
          have HT : Hid (tK s k = T) := hTe
          clear hTe e0 b1
          obtain ⟨_, b0, b1, b2⟩ := id R0.box
          go_wp2_with fail
          refine (l12Split_any x 61 _ hxz).mono ?_
          rintro e w4 ⟨ao4, c4, rfl, hS4, q4⟩
          have R4 := R0.keep q4
          have bw4 : Below w.heap.size w w4 := bwr.trans (q4.mono bwr.size)
          by_cases h4 : (spB 61 x).length = 2
          · obtain ⟨g4, cap4, e4, hg4, hlt4, hcap4, hcell4⟩ := hS4.at (by omega)
            injection e4 with e4 _ e6
            subst e4 e6
            have a0 : w4.cell? ⟨g4, 0, none⟩ = some (.string (side x).1) := by rw [hcell4 0 (by omega)]; simp [side, List.getD_eq_getElem?_getD, h4]
            have a1 : w4.cell? ⟨g4, 1, none⟩ = some (.string (side x).2) := by rw [hcell4 1 (by omega)]; simp [side, List.getD_eq_getElem?_getD, h4]
            have HX : Hid (∀ y ∈ (wd s).tail.take (k + 1 - 1), Two y) := fun y hy => by
              rw [et] at hy
              rcases List.mem_append.1 hy with h | h
              · exact HK.out y h
              · rw [List.mem_singleton.1 h]; exact h4
            rw [h4]
            clear hcell4 hS4 rr rf
            generalize side x = ab at *
            go_wp2
            refine wp_region_w (fun w' : World => w'.cell? ⟨w2.heap.size, 1, none⟩ = some (.slice va T.length vc) ∧ w'.cell? ⟨g4, 0, none⟩ = some (.string ab.1) ∧ w'.cell? ⟨g4, 1, none⟩ = some (.string ab.2)) (fun j => j != 12) (by kernel_rfl) ?_
            change wpW _ _ _ _ _ _ 13 _ _ w4.drew
            have R5 := R4.keep (Below.refl _ w4).drew
            have hS0 := (⟨R5.box.c1, a0, a1⟩ : (fun w' : World => w'.cell? ⟨w2.heap.size, 1, none⟩ = some (.slice va T.length vc) ∧ w'.cell? ⟨g4, 0, none⟩ = some (.string ab.1) ∧ w'.cell? ⟨g4, 1, none⟩ = some (.string ab.2)) w4.drew)
            refine wpW_take 0 _ (.pointer (some ⟨w2.heap.size, 1, none⟩)) rfl (by kernel_rfl) (by kernel_rfl) (by kernel_rfl) (fun _ _ _ h => h) (by kernel_rfl) (.inl ⟨rfl, fun w' hS' => by obtain ⟨s0, s1, s2⟩ := hS'; go_simp⟩) hS0 ?_
            refine wpW_take 1 _ (.slice va T.length vc) rfl (by kernel_rfl) (by kernel_rfl) (by kernel_rfl) (fun _ _ _ h => h) (by kernel_rfl) (.inl ⟨rfl, fun w' hS' => by obtain ⟨s0, s1, s2⟩ := hS'; go_simp⟩) hS0 ?_
            refine wpW_take 2 _ (.slice (some ⟨g4, 0, none⟩) 2 c4) rfl (by kernel_rfl) (by kernel_rfl) (by kernel_rfl) (fun _ _ _ h => h) (by kernel_rfl) (.inl ⟨rfl, fun w' hS' => by obtain ⟨s0, s1, s2⟩ := hS'; go_simp⟩) hS0 ?_
            refine wpW_take 3 _ (.pointer (some ⟨g4, 0, none⟩)) rfl (by kernel_rfl) (by kernel_rfl) (by kernel_rfl) (fun _ _ _ h => h) (by kernel_rfl) (.inl ⟨rfl, fun w' hS' => by obtain ⟨s0, s1, s2⟩ := hS'; go_simp⟩) hS0 ?_
            simp only [Act.put, List.getElem_toArray, List.getElem_cons_succ, List.getElem_cons_zero, List.setIfInBounds_toArray, List.set_cons_zero, List.set_cons_succ]
            refine wpW_take 4 _ (.string ab.1) rfl (by kernel_rfl) (by kernel_rfl) (by kernel_rfl) (fun _ _ _ h => h) (by kernel_rfl) (.inl ⟨rfl, fun w' hS' => by obtain ⟨s0, s1, s2⟩ := hS'; go_simp⟩) hS0 ?_
            refine wpW_take 5 _ (.slice (some ⟨g4, 0, none⟩) 2 c4) rfl (by kernel_rfl) (by kernel_rfl) (by kernel_rfl) (fun _ _ _ h => h) (by kernel_rfl) (.inl ⟨rfl, fun w' hS' => by obtain ⟨s0, s1, s2⟩ := hS'; go_simp⟩) hS0 ?_
            refine wpW_take 6 _ (.pointer (some ⟨g4, 1, none⟩)) rfl (by kernel_rfl) (by kernel_rfl) (by kernel_rfl) (fun _ _ _ h => h) (by kernel_rfl) (.inl ⟨rfl, fun w' hS' => by obtain ⟨s0, s1, s2⟩ := hS'; go_simp⟩) hS0 ?_
            simp only [Act.put, List.getElem_toArray, List.getElem_cons_succ, List.getElem_cons_zero, List.setIfInBounds_toArray, List.set_cons_zero, List.set_cons_succ]
            refine wpW_take 7 _ (.string ab.2) rfl (by kernel_rfl) (by kernel_rfl) (by kernel_rfl) (fun _ _ _ h => h) (by kernel_rfl) (.inl ⟨rfl, fun w' hS' => by obtain ⟨s0, s1, s2⟩ := hS'; go_simp⟩) hS0 ?_
            refine wpW_take 8 _ (.agg #[.string ab.1, .string ab.2]) rfl (by kernel_rfl) (by kernel_rfl) (by kernel_rfl) (fun _ _ _ h => h) (by kernel_rfl) (.inl ⟨rfl, fun w' hS' => by obtain ⟨s0, s1, s2⟩ := hS'; go_simp⟩) hS0 ?_
            simp only [Act.put, List.getElem_toArray, List.getElem_cons_succ, List.getElem_cons_zero, List.setIfInBounds_toArray, List.set_cons_zero, List.set_cons_succ]
            obtain ⟨vb, vd, wq, hrun, hc1, hfz, hbl, R6⟩ := R5.push (by omega) ab.1 ab.2 35
            have bn : Below w4.heap.size w4 (w4.drew.alloc (.cells #[.string ab.1, .string ab.2] 64)) := (Below.refl _ w4).drew.alloc (Nat.le_refl _) _
            refine wpW_one 9 _ rfl (by kernel_rfl) (step_val rfl (.slice (some ⟨w4.drew.heap.size, 0, none⟩) 1 1) (w' := w4.drew.alloc (.cells #[.string ab.1, .string ab.2] 64)) (by go_simp) ?_)
            refine ⟨fun _ => ⟨(R5.keep ((Below.refl w4.drew.heap.size w4.drew).alloc (Nat.le_refl _) (.cells #[.string ab.1, .string ab.2] 64))).box.c1, (bn.cell (p := ⟨g4, 0, none⟩) hlt4).trans a0, (bn.cell (p := ⟨g4, 1, none⟩) hlt4).trans a1⟩, ?_⟩
            simp only [Act.put, List.getElem_toArray, List.getElem_cons_succ, List.getElem_cons_zero, List.setIfInBounds_toArray, List.set_cons_zero, List.set_cons_succ]
            have hng : (Value.slice va T.length vc).ownBlock ≠ some g4 := fun e => by have := (World.ownsRow.lt R0.tg g4 e).2; omega
            have hcq := fun j => World.cell?_of_block (w := w4.drew) (w' := wq) (a := ⟨g4, j, none⟩) (hbl g4 (by show g4 < w4.heap.size; omega) hng)
            refine wpW_one 10 _ rfl (by kernel_rfl) (step_append_tx rfl (.tmp 41) (.tmp 49) 35 35 rfl rfl (.slice va T.length vc) (.slice (some ⟨w4.drew.heap.size, 0, none⟩) 1 1) (.slice vb (T.length + 1) vd) (by simp [Act.eval, Act.put]) (by simp [Act.eval, Act.put]) wq hrun ?_)
            have hSq := (⟨hc1, (hcq 0).trans a0, (hcq 1).trans a1⟩ : (fun w' : World => w'.cell? ⟨w2.heap.size, 1, none⟩ = some (.slice va T.length vc) ∧ w'.cell? ⟨g4, 0, none⟩ = some (.string ab.1) ∧ w'.cell? ⟨g4, 1, none⟩ = some (.string ab.2)) wq)
            refine ⟨fun _ => hSq, ?_⟩
            simp only [Act.put, List.getElem_toArray, List.getElem_cons_succ, List.getElem_cons_zero, List.setIfInBounds_toArray, List.set_cons_zero, List.set_cons_succ]
            refine wpW_take 11 _ (.pointer (some ⟨w2.heap.size, 1, none⟩)) rfl (by kernel_rfl) (by kernel_rfl) (by kernel_rfl) (fun _ _ _ h => h) (by kernel_rfl) (.inl ⟨rfl, fun w' hS' => by obtain ⟨s0, s1, s2⟩ := hS'; go_simp⟩) hSq ?_
            simp only [Act.put, List.getElem_toArray, List.getElem_cons_succ, List.getElem_cons_zero, List.setIfInBounds_toArray, List.set_cons_zero, List.set_cons_succ]
            refine wpW_one 12 _ rfl (by kernel_rfl) (step_storeX rfl 51 50 rfl w2.heap.size 1 vb (T.length + 1) vd (.slice va T.length vc) (by simp [Act.eval, Act.put]) (by simp [Act.eval, Act.put]) hc1 hfz ?_)
            refine ⟨fun h => (by cases h), ?_⟩
            refine wpW_done (by kernel_rfl) ?_
            try simp only [Act.put, List.getElem_toArray, List.getElem_cons_succ, List.getElem_cons_zero, List.setIfInBounds_toArray, List.set_cons_zero, List.set_cons_succ]
            go_wp2
            go_roundw
            case rel => exact ⟨k + 1, vb, vd, by omega, by go_num, by rw [em, e5']; exact R6, HX⟩
            case measure => simp [intOf]; omega
          · have d4 : (((spB 61 x).length : Int) != 2) = true := by simp; omega
            have H : Hid (¬ KP s) := fun h => h4 (h.2.1 x hmem)
            have r0 := (q4.cell (p := ⟨w.heap.size, 0, none⟩) (by have := R0.gr.size; show w.heap.size < _; omega)).trans r0
            have r1 := (q4.cell (p := ⟨w.heap.size, 1, none⟩) (by have := R0.gr.size; show w.heap.size < _; omega)).trans r1
            have r2 := (q4.cell (p := ⟨w.heap.size, 2, none⟩) (by have := R0.gr.size; show w.heap.size < _; omega)).trans r2
            have rf4 : ∀ j, w4.frozen? ⟨w.heap.size, j, none⟩ = false := fun j => (q4.frozen (p := ⟨w.heap.size, j, none⟩) (by have := R0.gr.size; show w.heap.size < _; omega)).trans (rf j)
            have f0 := rf4 0
            have f1 := rf4 1
            have f2 := rf4 2
            clear rr rf
            go_wp2
            refine bodyPost_ret (v := .tuple #[.agg #[.string ⟨#[]⟩, .slice none 0 0, .int .i64 0], .bool false]) (by simp [results, Try.results40, go_sem, r0, r1, r2]) rfl ⟨?_, .inl ⟨H.out, rfl⟩⟩
            repeat' refine Below.setCell ?_ (by first | exact Nat.le_refl _ | (simp; done) | (simp; omega)) _
            exact bw4
      · have e : k = (wd s).length := by omega
        subst e
        have et : (wd s).tail.take ((wd s).length - 1) = (wd s).tail := List.take_of_length_le (by omega)
        have em : mK s (wd s).length = km s := by simp only [mK]; rw [if_neg (by omega)]
        have eT : tK s (wd s).length = kt s := by unfold tK kt; rw [et]
        rw [et] at HK
        rw [em, eT] at R0
        have hmz : (km s).size ≤ 1048576 := wz _ (by rw [wd_form s]; exact List.mem_cons_self ..)
        have hkl : (kt s).length ≤ 1048576 := by unfold kt; rw [tagsW_len]; omega
        have hts : TSize (kt s).length (nmL (kt s)) (vlL (kt s)) 1048576 := of_tsz (fun p hp => by
          obtain ⟨x, hx, rfl⟩ := List.mem_map.1 hp
          have h3 := side_size (HK.out x hx)
          have h4 := wz x (List.mem_of_mem_tail hx)
          omega)
        obtain ⟨G, hG⟩ : ∃ G, goodB (km s) (kt s).length (nmL (kt s)) (vlL (kt s)) N = G := ⟨_, rfl⟩
        have HG : Hid (goodB (km s) (kt s).length (nmL (kt s)) (vlL (kt s)) N = G) := hG
        clear em eT b0 b1 b2
        obtain ⟨_, b0, b1, b2⟩ := id R0.box
        go_wp2_with fail
        refine (goodKey_spec (km s) N va (kt s).length vc (nmL (kt s)) (vlL (kt s)) _ (TgL.row R0.tg).2 hmz hkl hts).mono ?_
        rintro e w6 ⟨rfl, q6⟩
        rw [hG]
        clear hG
        have R6 := R0.keep q6
        have bw6 := bwr.trans (q6.mono bwr.size)
        have r0 := (q6.cell (p := ⟨w.heap.size, 0, none⟩) (by have := R0.gr.size; show w.heap.size < _; omega)).trans r0
        have r1 := (q6.cell (p := ⟨w.heap.size, 1, none⟩) (by have := R0.gr.size; show w.heap.size < _; omega)).trans r1
        have r2 := (q6.cell (p := ⟨w.heap.size, 2, none⟩) (by have := R0.gr.size; show w.heap.size < _; omega)).trans r2
        have rf6 : ∀ j, w6.frozen? ⟨w.heap.size, j, none⟩ = false := fun j => (q6.frozen (p := ⟨w.heap.size, j, none⟩) (by have := R0.gr.size; show w.heap.size < _; omega)).trans (rf j)
        have f0 := rf6 0
        have f1 := rf6 1
        have f2 := rf6 2
        have hrk2 : w.heap.size ≠ w2.heap.size := by omega
        clear rr rf q6
        cases G
        · have H : Hid (¬ KP s) := fun h => by have e := HG.out; have h2 := h.2.2; rw [HN.out] at h2; rw [h2] at e; cases e
          go_wp2
          refine bodyPost_ret (v := .tuple #[.agg #[.string ⟨#[]⟩, .slice none 0 0, .int .i64 0], .bool false]) (by simp [results, Try.results40, go_sem, r0, r1, r2]) rfl ⟨?_, .inl ⟨H.out, rfl⟩⟩
          repeat' refine Below.setCell ?_ (by first | exact Nat.le_refl _ | (simp; done) | (simp; omega)) _
          exact bw6
        · have H : Hid (KP s) := ⟨H2.out, HK.out, by rw [HN.out]; exact HG.out⟩
          have hne : (Value.slice va (kt s).length vc).ownBlock ≠ some w.heap.size := fun e => by have := (World.ownsRow.lt R6.tg _ e).1; omega
          have T6 := R6.tg
          have hw3 := bw3.size
          obtain ⟨_, b0, b1, b2⟩ := id R6.box
          go_wp2
          refine bodyPost_ret (v := .tuple #[.agg #[.string (km s), .slice va (kt s).length vc, .int .i64 N], .bool true]) (by simp [results, Try.results40, go_sem, r0, r1, r2]) rfl ⟨?_, .inr ⟨H.out, va, vc, by rw [HN.out], ownsRow_mono ?_ hw3⟩⟩
          · repeat' refine Below.setCell ?_ (by first | exact Nat.le_refl _ | (simp; done) | (simp; omega)) _
            exact bw6
          · repeat' refine ownsRow_others ?_ (Others.setCell _ _ _ _) hne
            exact T6
  · have d2 : (((spB 64 s).length : Int) != 2) = true := by simp; omega
    have H : Hid (¬ KP s) := fun h => h2 h.1
    obtain ⟨_, r0, r1, r2⟩ := id K1
    have f0 := fz1 0
    have f1 := fz1 1
    have f2 := fz1 2
    go_wp2
    refine bodyPost_ret (v := .tuple #[.agg #[.string ⟨#[]⟩, .slice none 0 0, .int .i64 0], .bool false]) (by simp [results, Try.results40, go_sem, r0, r1, r2]) rfl ⟨?_, .inl ⟨H.out, rfl⟩⟩
    repeat' refine Below.setCell ?_ (by first | exact Nat.le_refl _ | (simp; done) | (simp; omega)) _
    exact bw1
end Go.Proofs.Ytpddodjecbcmlaa
