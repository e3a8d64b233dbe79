/- ReadKeyText, in the program (made by rki.py). -/
import Derived.Test.YtpddodjecbcmlaaRk
namespace Go.Proofs.Ytpddodjecbcmlaa
open Go.RowKit
set_option linter.unusedSimpArgs false
set_option linter.unusedVariables false

set_option maxHeartbeats 1600000 in
theorem readKeyText_impl (s : ByteArray) (w : World) (hs : s.size ≤ 1048576) :
    Calls Try.prog 20 #[.string s] w fun e w' => RkO s w e w' := by
  have bw0 : Below w.heap.size w (w.alloc (.cells #[.string ⟨#[]⟩, .slice none 0 0, .int .i64 0] 37)) := (Below.refl _ _).alloc (Nat.le_refl _) _
  have K0 := KAt.new w ⟨#[]⟩ (.slice none 0 0) 0 37
  have fz0 : ∀ j, (w.alloc (.cells #[.string ⟨#[]⟩, .slice none 0 0, .int .i64 0] 37)).frozen? ⟨w.heap.size, j, none⟩ = false := fun j => by simp [go_sem]
  by_cases h127 : 127 < s.size
  · have d0 : decide ((127 : Int) < (s.size : Int)) = true := by simp; omega
    have H : Hid (¬ KP s) := fun h => by have := h.size; omega
    go_enter Try.func20, Try.ntmps20
    obtain ⟨_, r0, r1, r2⟩ := id K0
    have f0 := fz0 0
    have f1 := fz0 1
    have f2 := fz0 2
    go_wp2
    refine bodyPost_ret (v := .tuple #[.agg #[.string ⟨#[]⟩, .slice none 0 0, .int .i64 0], .bool false]) (by simp [results, Try.results20, go_sem, r0, r1, r2]) rfl ⟨?_, .inl ⟨H.out, rfl⟩⟩
    repeat' refine Below.setCell ?_ (by first | exact Nat.le_refl _ | (simp; done) | (simp; omega)) _
    first | exact bw0 | (exact bw0.alloc bw0.size _)
  · have d0 : decide ((127 : Int) < (s.size : Int)) = false := by simp; omega
    go_enter Try.func20, Try.ntmps20
    go_wp2_with fail
    refine (partsOf_any s 64 (by decide) _ (by omega)).mono ?_
    rintro e w1 ⟨ao, c, rfl, hS, q1⟩
    have bw1 : Below w.heap.size w w1 := bw0.trans (q1.mono (by simp))
    have K1 := K0.keep q1
    have fz1 : ∀ j, w1.frozen? ⟨w.heap.size, j, none⟩ = false := fun j => (q1.frozen (p := ⟨w.heap.size, j, none⟩) (by simp)).trans (fz0 j)
    clear K0 fz0 bw0
    by_cases h2 : (spB 64 s).length = 2
    · obtain ⟨g1, cap1, e1, hg1, hlt1, hcap1, hcell1⟩ := hS.at (by omega)
      injection e1 with e1 _ _
      subst e1
      have c0 : w1.cell? ⟨g1, 0, none⟩ = some (.string (h0 s)) := by rw [hcell1 0 (by omega)]; simp [h0, List.getD_eq_getElem?_getD, h2]
      have c1 : w1.cell? ⟨g1, 1, none⟩ = some (.string (h1 s)) := by rw [hcell1 1 (by omega)]; simp [h1, List.getD_eq_getElem?_getD, h2]
      have z := half_size h2
      have H2 : Hid ((spB 64 s).length = 2) := h2
      rw [h2]
      clear hcell1 hS h2
      go_wp2_with fail
      refine (readNumber_any (h1 s) _ (by omega)).mono ?_
      rintro e w2 ⟨rfl, q2⟩
      obtain ⟨N, hN⟩ : ∃ N : Int, (@ite Int (NumP (h1 s)) (numPD (h1 s)) (dgs (h1 s) (h1 s).size) 0) = N := ⟨_, rfl⟩
      obtain ⟨B, hB⟩ : ∃ B : Bool, @decide (NumP (h1 s)) (numPD (h1 s)) = B := ⟨_, rfl⟩
      have HN : Hid ((@ite Int (NumP (h1 s)) (numPD (h1 s)) (dgs (h1 s) (h1 s).size) 0) = N) := hN
      have HB : Hid (@decide (NumP (h1 s)) (numPD (h1 s)) = B) := hB
      rw [hN, hB]
      clear hN hB
      have d1 := (q2.cell (p := ⟨g1, 0, none⟩) hlt1).trans c0
      have bw2 : Below w.heap.size w w2 := bw1.trans (q2.mono bw1.size)
      have K2 := K1.keep q2
      have fz2 : ∀ j, w2.frozen? ⟨w.heap.size, j, none⟩ = false := fun j => (q2.frozen (p := ⟨w.heap.size, j, none⟩) K1.lt).trans (fz1 j)
      go_wp2_with fail
      refine (partsOf_any (h0 s) 44 (by decide) _ (by omega)).mono ?_
      rintro e w3 ⟨bo, c3, rfl, hS3, q3⟩
      have bw3 : Below w.heap.size w w3 := bw2.trans (q3.mono bw2.size)
      have K3 := K2.keep q3
      have fz3 : ∀ j, w3.frozen? ⟨w.heap.size, j, none⟩ = false := fun j => (q3.frozen (p := ⟨w.heap.size, j, none⟩) K2.lt).trans (fz2 j)
      have hwp := wd_pos s
      have hwd : spB 44 (h0 s) = wd s := rfl
      rw [hwd] at hS3 ⊢
      have wl : (wd s).length ≤ 1048576 := by
        have e3 := spB_total 44 (h0 s)
        rw [hwd] at e3
        omega
      obtain ⟨g3, cap3, e3, hg3, hlt3, hcap3, hcell3⟩ := hS3.at hwp
      injection e3 with e3 _ e4
      subst e3 e4
      have m0 : w3.cell? ⟨g3, 0, none⟩ = some (.string (km s)) := by
        have hw0 : 0 < (wd s).length := hwp
        rw [hcell3 0 hwp]; simp [km, List.getD_eq_getElem?_getD, List.getElem?_eq_getElem hw0]
      have wz : ∀ x ∈ (wd s), x.size ≤ 1048576 := fun x hx => by have := spB_size 44 (h0 s) x hx; omega
      have el : (wd s).tail.length = (wd s).length - 1 := List.length_tail
      have ek : (wd s).tail.length = (kt s).length := (tagsW_len _).symm
      have hmz : (km s).size ≤ 1048576 := wz _ (by rw [wd_form s]; exact List.mem_cons_self ..)
      clear K1 K2 fz1 fz2 c0 c1 d1 hS3 q1 q2 bw1 bw2 q3 hwd
      by_cases hc3 : c3 = 1
      · subst hc3
        have hT := tagsOf_any (some ⟨g3, 0, none⟩) 0 (wd s).tail w3 (.inl (by omega)) (by omega) (fun x hx => wz x (List.mem_of_mem_tail hx))
        rw [show (wd s).tail.length = 0 by omega] at hT
        go_wp2_with fail
        refine hT.mono ?_
        clear hT
        rintro e w4 ⟨q4, hcase⟩
        have bw4 : Below w.heap.size w w4 := bw3.trans (q4.mono bw3.size)
        have K4 := K3.keep q4
        have fz4 : ∀ j, w4.frozen? ⟨w.heap.size, j, none⟩ = false := fun j => (q4.frozen (p := ⟨w.heap.size, j, none⟩) K3.lt).trans (fz3 j)
        have m4 := (q4.cell (p := ⟨g3, 0, none⟩) hlt3).trans m0
        have s3 := bw3.size
        have s4 := q4.size
        have k3l := K3.lt
        clear K3 fz3 m0 q4 hcell3
        rcases hcase with ⟨hno, rfl⟩ | ⟨hyes, va, vc, rfl, TG⟩
        · have H : Hid (¬ KP s) := fun h => hno h.2.1
          clear hno
          have bn := (Below.refl w4.heap.size w4).alloc (Nat.le_refl _) (.cells #[.string (km s), .slice none 0 0, .int .i64 N] 37)
          have K5 := K4.keep bn
          have fz5 : ∀ j, (w4.alloc (.cells #[.string (km s), .slice none 0 0, .int .i64 N] 37)).frozen? ⟨w.heap.size, j, none⟩ = false := fun j => (bn.frozen (p := ⟨w.heap.size, j, none⟩) K4.lt).trans (fz4 j)
          have bw5 := bw4.trans (bn.mono bw4.size)
          cases B
          · obtain ⟨_, r0, r1, r2⟩ := id K5
            have f0 := fz5 0
            have f1 := fz5 1
            have f2 := fz5 2
            go_wp2
            refine bodyPost_ret (v := .tuple #[.agg #[.string ⟨#[]⟩, .slice none 0 0, .int .i64 0], .bool false]) (by simp [results, Try.results20, go_sem, r0, r1, r2]) rfl ⟨?_, .inl ⟨H.out, rfl⟩⟩
            repeat' refine Below.setCell ?_ (by first | exact Nat.le_refl _ | (simp; done) | (simp; omega)) _
            exact bw5
          · obtain ⟨_, r0, r1, r2⟩ := id K5
            have f0 := fz5 0
            have f1 := fz5 1
            have f2 := fz5 2
            go_wp2
            refine bodyPost_ret (v := .tuple #[.agg #[.string ⟨#[]⟩, .slice none 0 0, .int .i64 0], .bool false]) (by simp [results, Try.results20, go_sem, r0, r1, r2]) rfl ⟨?_, .inl ⟨H.out, rfl⟩⟩
            repeat' refine Below.setCell ?_ (by first | exact Nat.le_refl _ | (simp; done) | (simp; omega)) _
            exact bw5
        · have HY : Hid (∀ x ∈ (wd s).tail, Two x) := hyes
          clear hyes
          rw [ek] at TG ⊢
          have TG' : TgL w4 w3.heap.size (.slice va (kt s).length vc) (kt s) := TG
          have bn := (Below.refl w4.heap.size w4).alloc (Nat.le_refl _) (.cells #[.string (km s), .slice va (kt s).length vc, .int .i64 N] 37)
          have K5 := K4.keep bn
          have fz5 : ∀ j, (w4.alloc (.cells #[.string (km s), .slice va (kt s).length vc, .int .i64 N] 37)).frozen? ⟨w.heap.size, j, none⟩ = false := fun j => (bn.frozen (p := ⟨w.heap.size, j, none⟩) K4.lt).trans (fz4 j)
          have bw5 := bw4.trans (bn.mono bw4.size)
          cases B
          · have H : Hid (¬ KP s) := fun h => by have e := HB.out; have h2 := h.num; simp [h2] at e
            obtain ⟨_, r0, r1, r2⟩ := id K5
            have f0 := fz5 0
            have f1 := fz5 1
            have f2 := fz5 2
            go_wp2
            refine bodyPost_ret (v := .tuple #[.agg #[.string ⟨#[]⟩, .slice none 0 0, .int .i64 0], .bool false]) (by simp [results, Try.results20, go_sem, r0, r1, r2]) rfl ⟨?_, .inl ⟨H.out, rfl⟩⟩
            repeat' refine Below.setCell ?_ (by first | exact Nat.le_refl _ | (simp; done) | (simp; omega)) _
            exact bw5
          · have hnum : NumP (h1 s) := @of_decide_eq_true _ (numPD (h1 s)) HB.out
            have eN : N = numI (h1 s) := by rw [← HN.out, if_pos hnum, numI_yes hnum]
            subst eN
            have X5 := KAt.new w4 (km s) (.slice va (kt s).length vc) (numI (h1 s)) 37
            have T5 := ownsRow_keep TG' bn
            obtain ⟨_, y0, y1, y2⟩ := id X5
            obtain ⟨G, hG⟩ : ∃ G, goodB (km s) (kt s).length (nmL (kt s)) (vlL (kt s)) (numI (h1 s)) = G := ⟨_, rfl⟩
            have HG : Hid (goodB (km s) (kt s).length (nmL (kt s)) (vlL (kt s)) (numI (h1 s)) = G) := hG
            have hts : TSize (kt s).length (nmL (kt s)) (vlL (kt s)) 1048576 := of_tsz (fun p hp => by
              obtain ⟨x, hx, rfl⟩ := List.mem_map.1 hp
              have h3 := side_size (HY.out x hx)
              have h4 := wz x (List.mem_of_mem_tail hx)
              omega)
            go_wp2_with fail
            refine (goodKey_impl (km s) (numI (h1 s)) va (kt s).length vc (nmL (kt s)) (vlL (kt s)) _ (TgL.row T5).2 hmz (by omega) hts).mono ?_
            rintro e w6 ⟨rfl, q6⟩
            rw [hG]
            clear hG
            have bw6 := bw5.trans (q6.mono bw5.size)
            have K6 := K5.keep q6
            have X6 := X5.keep q6
            have T6 := ownsRow_keep T5 q6
            have fz6 : ∀ j, w6.frozen? ⟨w.heap.size, j, none⟩ = false := fun j => (q6.frozen (p := ⟨w.heap.size, j, none⟩) K5.lt).trans (fz5 j)
            clear K5 X5 T5 fz5 q6 y0 y1 y2
            cases G
            · have H : Hid (¬ KP s) := fun h => by have e := HG.out; have h2 := h.2.2; rw [h2] at e; cases e
              obtain ⟨_, r0, r1, r2⟩ := id K6
              have f0 := fz6 0
              have f1 := fz6 1
              have f2 := fz6 2
              go_wp2
              refine bodyPost_ret (v := .tuple #[.agg #[.string ⟨#[]⟩, .slice none 0 0, .int .i64 0], .bool false]) (by simp [results, Try.results20, go_sem, r0, r1, r2]) rfl ⟨?_, .inl ⟨H.out, rfl⟩⟩
              repeat' refine Below.setCell ?_ (by first | exact Nat.le_refl _ | (simp; done) | (simp; omega)) _
              first | exact bw6 | (exact bw6.alloc bw6.size _)
            · have H : Hid (KP s) := ⟨H2.out, HY.out, HG.out⟩
              obtain ⟨_, r0, r1, r2⟩ := id K6
              obtain ⟨_, y0, y1, y2⟩ := id X6
              have f0 := fz6 0
              have f1 := fz6 1
              have f2 := fz6 2
              have hrk : w.heap.size ≠ w4.heap.size := by have := K4.lt; omega
              have hne : (Value.slice va (kt s).length vc).ownBlock ≠ some w.heap.size := fun e => by have := (World.ownsRow.lt TG' _ e).1; omega
              go_wp2
              refine bodyPost_ret (v := .tuple #[.agg #[.string (km s), .slice va (kt s).length vc, .int .i64 (numI (h1 s))], .bool true]) (by simp [results, Try.results20, go_sem, r0, r1, r2]) rfl ⟨?_, .inr ⟨H.out, va, vc, rfl, ownsRow_mono ?_ s3⟩⟩
              · repeat' refine Below.setCell ?_ (by first | exact Nat.le_refl _ | (simp; done) | (simp; omega)) _
                exact bw6
              · repeat' refine ownsRow_others ?_ (Others.setCell _ _ _ _) hne
                exact T6
      · have hT := tagsOf_any (some ⟨g3, 1, none⟩) (c3 - 1) (wd s).tail w3 (.inr ⟨g3, 1, rfl, hlt3, fun i hi => by rw [show 1 + i = i + 1 by omega, hcell3 (i + 1) (by omega)]; simp⟩) (by omega) (fun x hx => wz x (List.mem_of_mem_tail hx))
        rw [el] at hT
        go_wp2_with fail
        refine hT.mono ?_
        clear hT
        rintro e w4 ⟨q4, hcase⟩
        have bw4 : Below w.heap.size w w4 := bw3.trans (q4.mono bw3.size)
        have K4 := K3.keep q4
        have fz4 : ∀ j, w4.frozen? ⟨w.heap.size, j, none⟩ = false := fun j => (q4.frozen (p := ⟨w.heap.size, j, none⟩) K3.lt).trans (fz3 j)
        have m4 := (q4.cell (p := ⟨g3, 0, none⟩) hlt3).trans m0
        have s3 := bw3.size
        have s4 := q4.size
        have k3l := K3.lt
        clear K3 fz3 m0 q4 hcell3
        rcases hcase with ⟨hno, rfl⟩ | ⟨hyes, va, vc, rfl, TG⟩
        · have H : Hid (¬ KP s) := fun h => hno h.2.1
          clear hno
          have bn := (Below.refl w4.heap.size w4).alloc (Nat.le_refl _) (.cells #[.string (km s), .slice none 0 0, .int .i64 N] 37)
          have K5 := K4.keep bn
          have fz5 : ∀ j, (w4.alloc (.cells #[.string (km s), .slice none 0 0, .int .i64 N] 37)).frozen? ⟨w.heap.size, j, none⟩ = false := fun j => (bn.frozen (p := ⟨w.heap.size, j, none⟩) K4.lt).trans (fz4 j)
          have bw5 := bw4.trans (bn.mono bw4.size)
          cases B
          · obtain ⟨_, r0, r1, r2⟩ := id K5
            have f0 := fz5 0
            have f1 := fz5 1
            have f2 := fz5 2
            go_wp2
            refine bodyPost_ret (v := .tuple #[.agg #[.string ⟨#[]⟩, .slice none 0 0, .int .i64 0], .bool false]) (by simp [results, Try.results20, go_sem, r0, r1, r2]) rfl ⟨?_, .inl ⟨H.out, rfl⟩⟩
            repeat' refine Below.setCell ?_ (by first | exact Nat.le_refl _ | (simp; done) | (simp; omega)) _
            exact bw5
          · obtain ⟨_, r0, r1, r2⟩ := id K5
            have f0 := fz5 0
            have f1 := fz5 1
            have f2 := fz5 2
            go_wp2
            refine bodyPost_ret (v := .tuple #[.agg #[.string ⟨#[]⟩, .slice none 0 0, .int .i64 0], .bool false]) (by simp [results, Try.results20, go_sem, r0, r1, r2]) rfl ⟨?_, .inl ⟨H.out, rfl⟩⟩
            repeat' refine Below.setCell ?_ (by first | exact Nat.le_refl _ | (simp; done) | (simp; omega)) _
            exact bw5
        · have HY : Hid (∀ x ∈ (wd s).tail, Two x) := hyes
          clear hyes
          rw [ek] at TG ⊢
          have TG' : TgL w4 w3.heap.size (.slice va (kt s).length vc) (kt s) := TG
          have bn := (Below.refl w4.heap.size w4).alloc (Nat.le_refl _) (.cells #[.string (km s), .slice va (kt s).length vc, .int .i64 N] 37)
          have K5 := K4.keep bn
          have fz5 : ∀ j, (w4.alloc (.cells #[.string (km s), .slice va (kt s).length vc, .int .i64 N] 37)).frozen? ⟨w.heap.size, j, none⟩ = false := fun j => (bn.frozen (p := ⟨w.heap.size, j, none⟩) K4.lt).trans (fz4 j)
          have bw5 := bw4.trans (bn.mono bw4.size)
          cases B
          · have H : Hid (¬ KP s) := fun h => by have e := HB.out; have h2 := h.num; simp [h2] at e
            obtain ⟨_, r0, r1, r2⟩ := id K5
            have f0 := fz5 0
            have f1 := fz5 1
            have f2 := fz5 2
            go_wp2
            refine bodyPost_ret (v := .tuple #[.agg #[.string ⟨#[]⟩, .slice none 0 0, .int .i64 0], .bool false]) (by simp [results, Try.results20, go_sem, r0, r1, r2]) rfl ⟨?_, .inl ⟨H.out, rfl⟩⟩
            repeat' refine Below.setCell ?_ (by first | exact Nat.le_refl _ | (simp; done) | (simp; omega)) _
            exact bw5
          · have hnum : NumP (h1 s) := @of_decide_eq_true _ (numPD (h1 s)) HB.out
            have eN : N = numI (h1 s) := by rw [← HN.out, if_pos hnum, numI_yes hnum]
            subst eN
            have X5 := KAt.new w4 (km s) (.slice va (kt s).length vc) (numI (h1 s)) 37
            have T5 := ownsRow_keep TG' bn
            obtain ⟨_, y0, y1, y2⟩ := id X5
            obtain ⟨G, hG⟩ : ∃ G, goodB (km s) (kt s).length (nmL (kt s)) (vlL (kt s)) (numI (h1 s)) = G := ⟨_, rfl⟩
            have HG : Hid (goodB (km s) (kt s).length (nmL (kt s)) (vlL (kt s)) (numI (h1 s)) = G) := hG
            have hts : TSize (kt s).length (nmL (kt s)) (vlL (kt s)) 1048576 := of_tsz (fun p hp => by
              obtain ⟨x, hx, rfl⟩ := List.mem_map.1 hp
              have h3 := side_size (HY.out x hx)
              have h4 := wz x (List.mem_of_mem_tail hx)
              omega)
            go_wp2_with fail
            refine (goodKey_impl (km s) (numI (h1 s)) va (kt s).length vc (nmL (kt s)) (vlL (kt s)) _ (TgL.row T5).2 hmz (by omega) hts).mono ?_
            rintro e w6 ⟨rfl, q6⟩
            rw [hG]
            clear hG
            have bw6 := bw5.trans (q6.mono bw5.size)
            have K6 := K5.keep q6
            have X6 := X5.keep q6
            have T6 := ownsRow_keep T5 q6
            have fz6 : ∀ j, w6.frozen? ⟨w.heap.size, j, none⟩ = false := fun j => (q6.frozen (p := ⟨w.heap.size, j, none⟩) K5.lt).trans (fz5 j)
            clear K5 X5 T5 fz5 q6 y0 y1 y2
            cases G
            · have H : Hid (¬ KP s) := fun h => by have e := HG.out; have h2 := h.2.2; rw [h2] at e; cases e
              obtain ⟨_, r0, r1, r2⟩ := id K6
              have f0 := fz6 0
              have f1 := fz6 1
              have f2 := fz6 2
              go_wp2
              refine bodyPost_ret (v := .tuple #[.agg #[.string ⟨#[]⟩, .slice none 0 0, .int .i64 0], .bool false]) (by simp [results, Try.results20, go_sem, r0, r1, r2]) rfl ⟨?_, .inl ⟨H.out, rfl⟩⟩
              repeat' refine Below.setCell ?_ (by first | exact Nat.le_refl _ | (simp; done) | (simp; omega)) _
              first | exact bw6 | (exact bw6.alloc bw6.size _)
            · have H : Hid (KP s) := ⟨H2.out, HY.out, HG.out⟩
              obtain ⟨_, r0, r1, r2⟩ := id K6
              obtain ⟨_, y0, y1, y2⟩ := id X6
              have f0 := fz6 0
              have f1 := fz6 1
              have f2 := fz6 2
              have hrk : w.heap.size ≠ w4.heap.size := by have := K4.lt; omega
              have hne : (Value.slice va (kt s).length vc).ownBlock ≠ some w.heap.size := fun e => by have := (World.ownsRow.lt TG' _ e).1; omega
              go_wp2
              refine bodyPost_ret (v := .tuple #[.agg #[.string (km s), .slice va (kt s).length vc, .int .i64 (numI (h1 s))], .bool true]) (by simp [results, Try.results20, go_sem, r0, r1, r2]) rfl ⟨?_, .inr ⟨H.out, va, vc, rfl, ownsRow_mono ?_ s3⟩⟩
              · repeat' refine Below.setCell ?_ (by first | exact Nat.le_refl _ | (simp; done) | (simp; omega)) _
                exact bw6
              · repeat' refine ownsRow_others ?_ (Others.setCell _ _ _ _) hne
                exact T6
    · have d2 : (((spB 64 s).length : Int) != 2) = true := by simp; omega
      have H : Hid (¬ KP s) := fun h => h2 h.1
      obtain ⟨_, r0, r1, r2⟩ := id K1
      have f0 := fz1 0
      have f1 := fz1 1
      have f2 := fz1 2
      go_wp2
      refine bodyPost_ret (v := .tuple #[.agg #[.string ⟨#[]⟩, .slice none 0 0, .int .i64 0], .bool false]) (by simp [results, Try.results20, go_sem, r0, r1, r2]) rfl ⟨?_, .inl ⟨H.out, rfl⟩⟩
      repeat' refine Below.setCell ?_ (by first | exact Nat.le_refl _ | (simp; done) | (simp; omega)) _
      first | exact bw1 | (exact bw1.alloc bw1.size _)
end Go.Proofs.Ytpddodjecbcmlaa
