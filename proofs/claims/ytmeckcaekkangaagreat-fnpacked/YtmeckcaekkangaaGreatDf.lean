/- An entry, drawn: the walk. -/
import Derived.Test.YtmeckcaekkangaaGreatDe
import Derived.Deep.CutBlock
namespace Go.Proofs.YtmeckcaekkangaaGreat
set_option maxRecDepth 100000
open Go.RowKit
set_option linter.unusedSimpArgs false
set_option linter.unusedVariables false

/-- A drawn entry. -/
def EnO (CB : Nat) (ao : Option Addr) (n cap : Nat) (f : Nat → Int) (A : Nat) (w : World) (e : Ending) (w' : World) : Prop :=
  ∃ (x : Ent) (xo : Option Addr) (xc : Nat), e = .returned (.agg #[.string x.key, .int .i64 x.seq, .int .i64 x.kind, .int .i64 x.c, .int .i64 x.s, .int .i64 x.lo, .int .i64 x.hi, .slice xo x.n xc, .bool x.fu]) ∧ HR w' w.heap.size xo x.n x.f ∧ (EB x ∧ x.key.size ≤ 200 ∧ x.n ≤ 8) ∧ CS w w' CB ao n cap f (A + 30)
theorem nz_sizes : ∀ i, i < [(⟨#[]⟩ : ByteArray), nul 140, nul 141].length → ([(⟨#[]⟩ : ByteArray), nul 140, nul 141].getD i ⟨#[]⟩).size ≤ 200 := by
  intro i hi
  have h1 := nul_size 140
  have h2 := nul_size 141
  have : i = 0 ∨ i = 1 ∨ i = 2 := by simp at hi; omega
  rcases this with rfl | rfl | rfl
  · show (⟨#[]⟩ : ByteArray).size ≤ 200
    decide
  · show (nul 140).size ≤ 200
    omega
  · show (nul 141).size ≤ 200
    omega

set_option maxRecDepth 100000 in
set_option maxHeartbeats 16000000 in
theorem entry_any {w : World} {CB : Nat} {ao : Option Addr} {n cap : Nat} {f : Nat → Int} {A : Nat} (h : CS w w CB ao n cap f A) (hA : A ≤ 90000) :
    Calls Tryz.prog 25 #[.pointer (some ⟨CB, 0, none⟩)] w fun e w' => EnO CB ao n cap f A w e w' := by
  have hnz := nz_sizes
  have hB := below_new w (.cells #[.string ⟨#[]⟩, .int .i64 0, .int .i64 0, .int .i64 0, .int .i64 0, .int .i64 0, .int .i64 0, .slice none 0 0, .bool false] 48)
  have RA0 : EAt (w.alloc (.cells #[.string ⟨#[]⟩, .int .i64 0, .int .i64 0, .int .i64 0, .int .i64 0, .int .i64 0, .int .i64 0, .slice none 0 0, .bool false] 48)) w.heap.size 0 zE none 0 := EAt.new w zE none 0 48
  have RF0 : ∀ j, (w.alloc (.cells #[.string ⟨#[]⟩, .int .i64 0, .int .i64 0, .int .i64 0, .int .i64 0, .int .i64 0, .int .i64 0, .slice none 0 0, .bool false] 48)).frozen? ⟨w.heap.size, j, none⟩ = false := fun j => by simp [go_sem]
  have sz0 : (w.alloc (.cells #[.string ⟨#[]⟩, .int .i64 0, .int .i64 0, .int .i64 0, .int .i64 0, .int .i64 0, .int .i64 0, .slice none 0 0, .bool false] 48)).heap.size = w.heap.size + 1 := by simp
  have C0 := h.keep hB
  have hl0 := h.lt
  go_enter Tryz.func25, Tryz.ntmps25
  go_wp2_with fail
  generalize w.alloc (.cells #[.string ⟨#[]⟩, .int .i64 0, .int .i64 0, .int .i64 0, .int .i64 0, .int .i64 0, .int .i64 0, .slice none 0 0, .bool false] 48) = w0 at hB RA0 RF0 sz0 C0 ⊢
  refine (keyText_s C0.self (by omega)).mono ?_
  rintro e w1 ⟨s1, hs1, rfl, K1⟩
  have C1 := C0.trans K1
  have RA1 := eat_grown RA0 K1.gr (by omega)
  have RF1 := froz_grown RF0 RA0.lt K1.gr (by omega)
  have z1 := K1.gr.size
  clear K1 C0 RA0 RF0
  go_wp2_with fail
  refine (pick_s 40 (by omega) C1.self (by omega)).mono ?_
  rintro e w2 ⟨x2, rfl, x20, x21, K2⟩
  have C2 := C1.trans K2
  have RA2 := eat_grown RA1 K2.gr (by omega)
  have RF2 := froz_grown RF1 RA1.lt K2.gr (by omega)
  have z2 := K2.gr.size
  have hwx : IntKind.i64.wrap (1 + x2) = 1 + x2 := by rw [IntKind.wrap_i64] <;> omega
  clear K2 C1 RA1 RF1
  have b3 := below_new w2 (.cells #[.int .i64 1, .int .i64 2, .int .i64 3, .int .i64 3] 3)
  have L3 : LiAt (w2.alloc (.cells #[.int .i64 1, .int .i64 2, .int .i64 3, .int .i64 3] 3)) w2.heap.size [1, 2, 3, 3] := LiAt.new w2 [1, 2, 3, 3] 3
  have C3 := C2.keep b3
  have RA3 := RA2.keep b3
  have RF3 := froz_keep RF2 RA2.lt b3
  have sz3 : (w2.alloc (.cells #[.int .i64 1, .int .i64 2, .int .i64 3, .int .i64 3] 3)).heap.size = w2.heap.size + 1 := by simp
  clear C2 RA2 RF2 b3
  go_wp2_with fail
  generalize w2.alloc (.cells #[.int .i64 1, .int .i64 2, .int .i64 3, .int .i64 3] 3) = w3 at L3 C3 RA3 RF3 sz3 ⊢
  refine (among_s [1, 2, 3, 3] (by decide) w2.heap.size L3 (by omega) C3.self (by omega)).mono ?_
  rintro e w4 ⟨x4, hx4, rfl, K4⟩
  have C4 := C3.trans K4
  have RA4 := eat_grown RA3 K4.gr (by omega)
  have RF4 := froz_grown RF3 RA3.lt K4.gr (by omega)
  have z4 := K4.gr.size
  clear K4 C3 RA3 RF3 L3 hx4
  obtain ⟨E0, hE0⟩ : ∃ E0 : Ent, E0 = ⟨s1, 1 + x2, x4, 0, 0, 0, 0, 0, fun _ => 0, false⟩ := ⟨_, rfl⟩
  have b5 := below_new w4 (.cells #[.string s1, .int .i64 (1 + x2), .int .i64 x4, .int .i64 0, .int .i64 0, .int .i64 0, .int .i64 0, .slice none 0 0, .bool false] 48)
  have DF5 : ∀ j, (w4.alloc (.cells #[.string s1, .int .i64 (1 + x2), .int .i64 x4, .int .i64 0, .int .i64 0, .int .i64 0, .int .i64 0, .slice none 0 0, .bool false] 48)).frozen? ⟨w4.heap.size, j, none⟩ = false := fun j => by simp [go_sem]
  have G5 : EW w (w4.alloc (.cells #[.string s1, .int .i64 (1 + x2), .int .i64 x4, .int .i64 0, .int .i64 0, .int .i64 0, .int .i64 0, .slice none 0 0, .bool false] 48)) w.heap.size w4.heap.size CB ao n cap f (A + 3) ⟨s1, 1 + x2, x4, 0, 0, 0, 0, 0, fun _ => 0, false⟩ none 0 := by
    refine ⟨C4.keep b5, RA4.keep b5, froz_keep RF4 RA4.lt b5, EAt.new w4 ⟨s1, 1 + x2, x4, 0, 0, 0, 0, 0, fun _ => 0, false⟩ none 0 48, DF5, HR.none (fun _ => by show -9223372036854775808 ≤ (0 : Int) ∧ (0 : Int) ≤ 9223372036854775807; omega), (fun g off e => by cases e), by omega, ⟨⟨by show -9223372036854775808 ≤ 1 + x2 ∧ 1 + x2 ≤ 9223372036854775807; omega, by show -9223372036854775808 ≤ (0 : Int) ∧ (0 : Int) ≤ 9223372036854775807; omega, by show s1.size ≤ _; omega, by show 0 ≤ _; omega⟩, by show s1.size ≤ 200; omega, by show 0 ≤ 8; omega⟩⟩
  clear b5 DF5 C4 RA4 RF4 E0 hE0
  go_upto_if 15 with fail
  generalize w4.alloc (.cells #[.string s1, .int .i64 (1 + x2), .int .i64 x4, .int .i64 0, .int .i64 0, .int .i64 0, .int .i64 0, .slice none 0 0, .bool false] 48) = w5 at G5 ⊢
  generalize w4.heap.size = D at *
  generalize hR : w.heap.size = R at *
  go_cut [3] from 15 to 18 (fun s3 wx => s3 = .pointer (some ⟨D, 0, none⟩) ∧ ∃ x xo xc, EW w wx R D CB ao n cap f (A + 23) x xo xc)
  case first =>
    cases hk : (x4 != 2)
    · go_wp2
      go_meet
      exact ⟨rfl, _, _, _, ⟨G5.C.mono (by omega), G5.RA, G5.RF, G5.DA, G5.DF, G5.H, G5.far, G5.ne, G5.bd⟩⟩
    · go_wp2_with fail
      refine (agg_any G5.C.self (by omega)).mono ?_
      rintro e w6 ⟨y6, g6, o6, c6, rfl, r6, hg6, hn6, hs6, K6⟩
      have hne := G5.ne
      have hDl := G5.DA.lt
      have hRl := G5.RA.lt
      have hws := G5.C.gr.size
      have G6 := G5.draw K6
      have G7 := G6.setA y6 g6 o6 c6 ⟨r6, fun g off e _ => by injection e with e; injection e with e1 _ _; omega⟩ (by omega) hn6 hs6
      obtain ⟨_, d0, d1, d2, d3, d4, d5, d6, d7, d8⟩ := id G6.DA
      simp only [Nat.zero_add] at d1 d2 d3 d4 d5 d6 d7 d8
      have df := G6.DF
      clear G5 K6 G6
      go_wp2
      go_meet
      exact ⟨rfl, _, _, _, ⟨G7.C.mono (by omega), G7.RA, G7.RF, G7.DA, G7.DF, G7.H, G7.far, G7.ne, G7.bd⟩⟩
  case rest =>
    obtain ⟨rfl, x, xo, xc, G6⟩ := hcut
    clear G5
    go_wp2_with fail
    refine (pick_s 60 (by omega) G6.C.self (by omega)).mono ?_
    rintro e w7 ⟨x7, rfl, x70, x71, K7⟩
    have G7 := G6.draw K7
    clear G6 K7
    have hlc := G7.C.ltw
    have hne := G7.ne
    go_upto_block 0 with fail
    go_cut [3] from 21 to 42 (fun s3 wx => s3 = .pointer (some ⟨D, 0, none⟩) ∧ ∃ x xo xc, EW w wx R D CB ao n cap f (A + 25) x xo xc)
    case first =>
      by_cases c0 : x7 = 0
      · subst c0
        have GW0 := G7.keep (Below.refl _ w7).drew
        clear G7 hlc
        go_wp2
        refine wp_region_w (fun _ : World => True) (fun _ => true) (by kernel_rfl) ?_
        change wpW _ _ _ _ _ _ 9 _ _ w7.drew
        generalize w7.drew = W0 at GW0 ⊢
        refine wpW_take 0 _ (.pointer (some ⟨CB, 0, none⟩)) rfl (by kernel_rfl) (by kernel_rfl) (by kernel_rfl) (fun _ _ _ h => h) (by kernel_rfl) (.inl ⟨rfl, fun w' hS' => by go_simp⟩) trivial ?_
        simp only [Act.put, List.getElem_toArray, List.getElem_cons_succ, List.getElem_cons_zero, List.setIfInBounds_toArray, List.set_cons_zero, List.set_cons_succ]
        refine wpW_two 1 3 _ _ rfl rfl (by kernel_rfl) (step_make rfl 140 (by omega) rfl ?_) (step_make rfl 141 (by omega) rfl ?_)
        · intro W1 Z140_1 bq1
          have GW1 := GW0.keep bq1
          refine ⟨fun _ => trivial, ?_⟩
          simp only [Act.put, List.getElem_toArray, List.getElem_cons_succ, List.getElem_cons_zero, List.setIfInBounds_toArray, List.set_cons_zero, List.set_cons_succ]
          clear bq1 GW0
          refine wpW_two 2 3 _ _ rfl rfl (by kernel_rfl) (step_conv rfl 24 140 _ rfl rfl Z140_1 ?_) (step_make rfl 141 (by omega) rfl ?_)
          · refine ⟨fun _ => trivial, ?_⟩
            simp only [Act.put, List.getElem_toArray, List.getElem_cons_succ, List.getElem_cons_zero, List.setIfInBounds_toArray, List.set_cons_zero, List.set_cons_succ]
            refine wpW_one 3 _ rfl (by kernel_rfl) (step_make rfl 141 (by omega) rfl ?_)
            intro W3 Z141_3 bq3
            have GW3 := GW1.keep bq3
            have Z140_3 := Z140_1.keep bq3
            refine ⟨fun _ => trivial, ?_⟩
            simp only [Act.put, List.getElem_toArray, List.getElem_cons_succ, List.getElem_cons_zero, List.setIfInBounds_toArray, List.set_cons_zero, List.set_cons_succ]
            clear bq3 GW1
            refine wpW_one 4 _ rfl (by kernel_rfl) (step_conv rfl 26 141 _ rfl rfl Z141_3 ?_)
            refine ⟨fun _ => trivial, ?_⟩
            simp only [Act.put, List.getElem_toArray, List.getElem_cons_succ, List.getElem_cons_zero, List.setIfInBounds_toArray, List.set_cons_zero, List.set_cons_succ]
            have bl := below_new W3 (.cells #[.string ⟨#[]⟩, .string (nul 140), .string (nul 141)] 9)
            have L1 : LsAt (W3.alloc (.cells #[.string ⟨#[]⟩, .string (nul 140), .string (nul 141)] 9)) W3.heap.size [(⟨#[]⟩ : ByteArray), nul 140, nul 141] := LsAt.new W3 [(⟨#[]⟩ : ByteArray), nul 140, nul 141] 9
            have GL := GW3.keep bl
            have hlc := GW3.C.ltw
            refine wpW_one 5 _ rfl (by kernel_rfl) (step_val rfl (.slice (some ⟨W3.heap.size, 0, none⟩) 3 3) (w' := W3.alloc (.cells #[.string ⟨#[]⟩, .string (nul 140), .string (nul 141)] 9)) (by go_simp) ?_)
            refine ⟨fun _ => trivial, ?_⟩
            simp only [Act.put, List.getElem_toArray, List.getElem_cons_succ, List.getElem_cons_zero, List.setIfInBounds_toArray, List.set_cons_zero, List.set_cons_succ]
            refine wpW_one 6 _ rfl (by kernel_rfl) (step_call rfl 48 #[.pointer (some ⟨CB, 0, none⟩), .slice (some ⟨W3.heap.size, 0, none⟩) 3 3] _ (by go_simp) (of_s [(⟨#[]⟩ : ByteArray), nul 140, nul 141] 200 (by decide) hnz W3.heap.size L1 (by omega) GL.C.self (by omega)) ?_)
            rintro e w9 ⟨s9, hs9, rfl, K9⟩
            have G9 := GL.draw K9
            have H9 := G9.set0 s9 hs9
            have f9 := G9.DF 0
            have c9 := G9.DA.c0
            refine ⟨_, rfl, fun _ => trivial, ?_⟩
            simp only [Act.put, List.getElem_toArray, List.getElem_cons_succ, List.getElem_cons_zero, List.setIfInBounds_toArray, List.set_cons_zero, List.set_cons_succ]
            refine wpW_one 7 _ rfl (by kernel_rfl) (step_val rfl (.pointer (some ⟨D, 0, none⟩)) (w' := w9) (by go_simp) ?_)
            refine ⟨fun _ => trivial, ?_⟩
            simp only [Act.put, List.getElem_toArray, List.getElem_cons_succ, List.getElem_cons_zero, List.setIfInBounds_toArray, List.set_cons_zero, List.set_cons_succ]
            refine wpW_one 8 _ rfl (by kernel_rfl) (step_storeS rfl 30 29 rfl D 0 s9 _ rfl rfl c9 f9 ?_)
            refine ⟨fun _ => trivial, ?_⟩
            refine wpW_done (by kernel_rfl) ?_
            simp only [Act.put, List.getElem_toArray, List.getElem_cons_succ, List.getElem_cons_zero, List.setIfInBounds_toArray, List.set_cons_zero, List.set_cons_succ]
            clear G9 GL bl L1 K9
            go_wp2
            go_meet
            exact ⟨rfl, _, _, _, H9⟩
          · intro W6 Z141_6 bq6
            have GW6 := GW1.keep bq6
            have Z140_6 := Z140_1.keep bq6
            refine ⟨fun _ => trivial, ?_⟩
            simp only [Act.put, List.getElem_toArray, List.getElem_cons_succ, List.getElem_cons_zero, List.setIfInBounds_toArray, List.set_cons_zero, List.set_cons_succ]
            clear bq6 GW1
            refine wpW_two 2 4 _ _ rfl rfl (by kernel_rfl) (step_conv rfl 24 140 _ rfl rfl Z140_6 ?_) (step_conv rfl 26 141 _ rfl rfl Z141_6 ?_)
            · refine ⟨fun _ => trivial, ?_⟩
              simp only [Act.put, List.getElem_toArray, List.getElem_cons_succ, List.getElem_cons_zero, List.setIfInBounds_toArray, List.set_cons_zero, List.set_cons_succ]
              refine wpW_one 4 _ rfl (by kernel_rfl) (step_conv rfl 26 141 _ rfl rfl Z141_6 ?_)
              refine ⟨fun _ => trivial, ?_⟩
              simp only [Act.put, List.getElem_toArray, List.getElem_cons_succ, List.getElem_cons_zero, List.setIfInBounds_toArray, List.set_cons_zero, List.set_cons_succ]
              have bl := below_new W6 (.cells #[.string ⟨#[]⟩, .string (nul 140), .string (nul 141)] 9)
              have L1 : LsAt (W6.alloc (.cells #[.string ⟨#[]⟩, .string (nul 140), .string (nul 141)] 9)) W6.heap.size [(⟨#[]⟩ : ByteArray), nul 140, nul 141] := LsAt.new W6 [(⟨#[]⟩ : ByteArray), nul 140, nul 141] 9
              have GL := GW6.keep bl
              have hlc := GW6.C.ltw
              refine wpW_one 5 _ rfl (by kernel_rfl) (step_val rfl (.slice (some ⟨W6.heap.size, 0, none⟩) 3 3) (w' := W6.alloc (.cells #[.string ⟨#[]⟩, .string (nul 140), .string (nul 141)] 9)) (by go_simp) ?_)
              refine ⟨fun _ => trivial, ?_⟩
              simp only [Act.put, List.getElem_toArray, List.getElem_cons_succ, List.getElem_cons_zero, List.setIfInBounds_toArray, List.set_cons_zero, List.set_cons_succ]
              refine wpW_one 6 _ rfl (by kernel_rfl) (step_call rfl 48 #[.pointer (some ⟨CB, 0, none⟩), .slice (some ⟨W6.heap.size, 0, none⟩) 3 3] _ (by go_simp) (of_s [(⟨#[]⟩ : ByteArray), nul 140, nul 141] 200 (by decide) hnz W6.heap.size L1 (by omega) GL.C.self (by omega)) ?_)
              rintro e w9 ⟨s9, hs9, rfl, K9⟩
              have G9 := GL.draw K9
              have H9 := G9.set0 s9 hs9
              have f9 := G9.DF 0
              have c9 := G9.DA.c0
              refine ⟨_, rfl, fun _ => trivial, ?_⟩
              simp only [Act.put, List.getElem_toArray, List.getElem_cons_succ, List.getElem_cons_zero, List.setIfInBounds_toArray, List.set_cons_zero, List.set_cons_succ]
              refine wpW_one 7 _ rfl (by kernel_rfl) (step_val rfl (.pointer (some ⟨D, 0, none⟩)) (w' := w9) (by go_simp) ?_)
              refine ⟨fun _ => trivial, ?_⟩
              simp only [Act.put, List.getElem_toArray, List.getElem_cons_succ, List.getElem_cons_zero, List.setIfInBounds_toArray, List.set_cons_zero, List.set_cons_succ]
              refine wpW_one 8 _ rfl (by kernel_rfl) (step_storeS rfl 30 29 rfl D 0 s9 _ rfl rfl c9 f9 ?_)
              refine ⟨fun _ => trivial, ?_⟩
              refine wpW_done (by kernel_rfl) ?_
              simp only [Act.put, List.getElem_toArray, List.getElem_cons_succ, List.getElem_cons_zero, List.setIfInBounds_toArray, List.set_cons_zero, List.set_cons_succ]
              clear G9 GL bl L1 K9
              go_wp2
              go_meet
              exact ⟨rfl, _, _, _, H9⟩
            · refine ⟨fun _ => trivial, ?_⟩
              simp only [Act.put, List.getElem_toArray, List.getElem_cons_succ, List.getElem_cons_zero, List.setIfInBounds_toArray, List.set_cons_zero, List.set_cons_succ]
              refine wpW_one 2 _ rfl (by kernel_rfl) (step_conv rfl 24 140 _ rfl rfl Z140_6 ?_)
              refine ⟨fun _ => trivial, ?_⟩
              simp only [Act.put, List.getElem_toArray, List.getElem_cons_succ, List.getElem_cons_zero, List.setIfInBounds_toArray, List.set_cons_zero, List.set_cons_succ]
              have bl := below_new W6 (.cells #[.string ⟨#[]⟩, .string (nul 140), .string (nul 141)] 9)
              have L1 : LsAt (W6.alloc (.cells #[.string ⟨#[]⟩, .string (nul 140), .string (nul 141)] 9)) W6.heap.size [(⟨#[]⟩ : ByteArray), nul 140, nul 141] := LsAt.new W6 [(⟨#[]⟩ : ByteArray), nul 140, nul 141] 9
              have GL := GW6.keep bl
              have hlc := GW6.C.ltw
              refine wpW_one 5 _ rfl (by kernel_rfl) (step_val rfl (.slice (some ⟨W6.heap.size, 0, none⟩) 3 3) (w' := W6.alloc (.cells #[.string ⟨#[]⟩, .string (nul 140), .string (nul 141)] 9)) (by go_simp) ?_)
              refine ⟨fun _ => trivial, ?_⟩
              simp only [Act.put, List.getElem_toArray, List.getElem_cons_succ, List.getElem_cons_zero, List.setIfInBounds_toArray, List.set_cons_zero, List.set_cons_succ]
              refine wpW_one 6 _ rfl (by kernel_rfl) (step_call rfl 48 #[.pointer (some ⟨CB, 0, none⟩), .slice (some ⟨W6.heap.size, 0, none⟩) 3 3] _ (by go_simp) (of_s [(⟨#[]⟩ : ByteArray), nul 140, nul 141] 200 (by decide) hnz W6.heap.size L1 (by omega) GL.C.self (by omega)) ?_)
              rintro e w9 ⟨s9, hs9, rfl, K9⟩
              have G9 := GL.draw K9
              have H9 := G9.set0 s9 hs9
              have f9 := G9.DF 0
              have c9 := G9.DA.c0
              refine ⟨_, rfl, fun _ => trivial, ?_⟩
              simp only [Act.put, List.getElem_toArray, List.getElem_cons_succ, List.getElem_cons_zero, List.setIfInBounds_toArray, List.set_cons_zero, List.set_cons_succ]
              refine wpW_one 7 _ rfl (by kernel_rfl) (step_val rfl (.pointer (some ⟨D, 0, none⟩)) (w' := w9) (by go_simp) ?_)
              refine ⟨fun _ => trivial, ?_⟩
              simp only [Act.put, List.getElem_toArray, List.getElem_cons_succ, List.getElem_cons_zero, List.setIfInBounds_toArray, List.set_cons_zero, List.set_cons_succ]
              refine wpW_one 8 _ rfl (by kernel_rfl) (step_storeS rfl 30 29 rfl D 0 s9 _ rfl rfl c9 f9 ?_)
              refine ⟨fun _ => trivial, ?_⟩
              refine wpW_done (by kernel_rfl) ?_
              simp only [Act.put, List.getElem_toArray, List.getElem_cons_succ, List.getElem_cons_zero, List.setIfInBounds_toArray, List.set_cons_zero, List.set_cons_succ]
              clear G9 GL bl L1 K9
              go_wp2
              go_meet
              exact ⟨rfl, _, _, _, H9⟩
        · intro W13 Z141_13 bq13
          have GW13 := GW0.keep bq13
          refine ⟨fun _ => trivial, ?_⟩
          simp only [Act.put, List.getElem_toArray, List.getElem_cons_succ, List.getElem_cons_zero, List.setIfInBounds_toArray, List.set_cons_zero, List.set_cons_succ]
          clear bq13 GW0
          refine wpW_two 1 4 _ _ rfl rfl (by kernel_rfl) (step_make rfl 140 (by omega) rfl ?_) (step_conv rfl 26 141 _ rfl rfl Z141_13 ?_)
          · intro W14 Z140_14 bq14
            have GW14 := GW13.keep bq14
            have Z141_14 := Z141_13.keep bq14
            refine ⟨fun _ => trivial, ?_⟩
            simp only [Act.put, List.getElem_toArray, List.getElem_cons_succ, List.getElem_cons_zero, List.setIfInBounds_toArray, List.set_cons_zero, List.set_cons_succ]
            clear bq14 GW13
            refine wpW_two 2 4 _ _ rfl rfl (by kernel_rfl) (step_conv rfl 24 140 _ rfl rfl Z140_14 ?_) (step_conv rfl 26 141 _ rfl rfl Z141_14 ?_)
            · refine ⟨fun _ => trivial, ?_⟩
              simp only [Act.put, List.getElem_toArray, List.getElem_cons_succ, List.getElem_cons_zero, List.setIfInBounds_toArray, List.set_cons_zero, List.set_cons_succ]
              refine wpW_one 4 _ rfl (by kernel_rfl) (step_conv rfl 26 141 _ rfl rfl Z141_14 ?_)
              refine ⟨fun _ => trivial, ?_⟩
              simp only [Act.put, List.getElem_toArray, List.getElem_cons_succ, List.getElem_cons_zero, List.setIfInBounds_toArray, List.set_cons_zero, List.set_cons_succ]
              have bl := below_new W14 (.cells #[.string ⟨#[]⟩, .string (nul 140), .string (nul 141)] 9)
              have L1 : LsAt (W14.alloc (.cells #[.string ⟨#[]⟩, .string (nul 140), .string (nul 141)] 9)) W14.heap.size [(⟨#[]⟩ : ByteArray), nul 140, nul 141] := LsAt.new W14 [(⟨#[]⟩ : ByteArray), nul 140, nul 141] 9
              have GL := GW14.keep bl
              have hlc := GW14.C.ltw
              refine wpW_one 5 _ rfl (by kernel_rfl) (step_val rfl (.slice (some ⟨W14.heap.size, 0, none⟩) 3 3) (w' := W14.alloc (.cells #[.string ⟨#[]⟩, .string (nul 140), .string (nul 141)] 9)) (by go_simp) ?_)
              refine ⟨fun _ => trivial, ?_⟩
              simp only [Act.put, List.getElem_toArray, List.getElem_cons_succ, List.getElem_cons_zero, List.setIfInBounds_toArray, List.set_cons_zero, List.set_cons_succ]
              refine wpW_one 6 _ rfl (by kernel_rfl) (step_call rfl 48 #[.pointer (some ⟨CB, 0, none⟩), .slice (some ⟨W14.heap.size, 0, none⟩) 3 3] _ (by go_simp) (of_s [(⟨#[]⟩ : ByteArray), nul 140, nul 141] 200 (by decide) hnz W14.heap.size L1 (by omega) GL.C.self (by omega)) ?_)
              rintro e w9 ⟨s9, hs9, rfl, K9⟩
              have G9 := GL.draw K9
              have H9 := G9.set0 s9 hs9
              have f9 := G9.DF 0
              have c9 := G9.DA.c0
              refine ⟨_, rfl, fun _ => trivial, ?_⟩
              simp only [Act.put, List.getElem_toArray, List.getElem_cons_succ, List.getElem_cons_zero, List.setIfInBounds_toArray, List.set_cons_zero, List.set_cons_succ]
              refine wpW_one 7 _ rfl (by kernel_rfl) (step_val rfl (.pointer (some ⟨D, 0, none⟩)) (w' := w9) (by go_simp) ?_)
              refine ⟨fun _ => trivial, ?_⟩
              simp only [Act.put, List.getElem_toArray, List.getElem_cons_succ, List.getElem_cons_zero, List.setIfInBounds_toArray, List.set_cons_zero, List.set_cons_succ]
              refine wpW_one 8 _ rfl (by kernel_rfl) (step_storeS rfl 30 29 rfl D 0 s9 _ rfl rfl c9 f9 ?_)
              refine ⟨fun _ => trivial, ?_⟩
              refine wpW_done (by kernel_rfl) ?_
              simp only [Act.put, List.getElem_toArray, List.getElem_cons_succ, List.getElem_cons_zero, List.setIfInBounds_toArray, List.set_cons_zero, List.set_cons_succ]
              clear G9 GL bl L1 K9
              go_wp2
              go_meet
              exact ⟨rfl, _, _, _, H9⟩
            · refine ⟨fun _ => trivial, ?_⟩
              simp only [Act.put, List.getElem_toArray, List.getElem_cons_succ, List.getElem_cons_zero, List.setIfInBounds_toArray, List.set_cons_zero, List.set_cons_succ]
              refine wpW_one 2 _ rfl (by kernel_rfl) (step_conv rfl 24 140 _ rfl rfl Z140_14 ?_)
              refine ⟨fun _ => trivial, ?_⟩
              simp only [Act.put, List.getElem_toArray, List.getElem_cons_succ, List.getElem_cons_zero, List.setIfInBounds_toArray, List.set_cons_zero, List.set_cons_succ]
              have bl := below_new W14 (.cells #[.string ⟨#[]⟩, .string (nul 140), .string (nul 141)] 9)
              have L1 : LsAt (W14.alloc (.cells #[.string ⟨#[]⟩, .string (nul 140), .string (nul 141)] 9)) W14.heap.size [(⟨#[]⟩ : ByteArray), nul 140, nul 141] := LsAt.new W14 [(⟨#[]⟩ : ByteArray), nul 140, nul 141] 9
              have GL := GW14.keep bl
              have hlc := GW14.C.ltw
              refine wpW_one 5 _ rfl (by kernel_rfl) (step_val rfl (.slice (some ⟨W14.heap.size, 0, none⟩) 3 3) (w' := W14.alloc (.cells #[.string ⟨#[]⟩, .string (nul 140), .string (nul 141)] 9)) (by go_simp) ?_)
              refine ⟨fun _ => trivial, ?_⟩
              simp only [Act.put, List.getElem_toArray, List.getElem_cons_succ, List.getElem_cons_zero, List.setIfInBounds_toArray, List.set_cons_zero, List.set_cons_succ]
              refine wpW_one 6 _ rfl (by kernel_rfl) (step_call rfl 48 #[.pointer (some ⟨CB, 0, none⟩), .slice (some ⟨W14.heap.size, 0, none⟩) 3 3] _ (by go_simp) (of_s [(⟨#[]⟩ : ByteArray), nul 140, nul 141] 200 (by decide) hnz W14.heap.size L1 (by omega) GL.C.self (by omega)) ?_)
              rintro e w9 ⟨s9, hs9, rfl, K9⟩
              have G9 := GL.draw K9
              have H9 := G9.set0 s9 hs9
              have f9 := G9.DF 0
              have c9 := G9.DA.c0
              refine ⟨_, rfl, fun _ => trivial, ?_⟩
              simp only [Act.put, List.getElem_toArray, List.getElem_cons_succ, List.getElem_cons_zero, List.setIfInBounds_toArray, List.set_cons_zero, List.set_cons_succ]
              refine wpW_one 7 _ rfl (by kernel_rfl) (step_val rfl (.pointer (some ⟨D, 0, none⟩)) (w' := w9) (by go_simp) ?_)
              refine ⟨fun _ => trivial, ?_⟩
              simp only [Act.put, List.getElem_toArray, List.getElem_cons_succ, List.getElem_cons_zero, List.setIfInBounds_toArray, List.set_cons_zero, List.set_cons_succ]
              refine wpW_one 8 _ rfl (by kernel_rfl) (step_storeS rfl 30 29 rfl D 0 s9 _ rfl rfl c9 f9 ?_)
              refine ⟨fun _ => trivial, ?_⟩
              refine wpW_done (by kernel_rfl) ?_
              simp only [Act.put, List.getElem_toArray, List.getElem_cons_succ, List.getElem_cons_zero, List.setIfInBounds_toArray, List.set_cons_zero, List.set_cons_succ]
              clear G9 GL bl L1 K9
              go_wp2
              go_meet
              exact ⟨rfl, _, _, _, H9⟩
          · refine ⟨fun _ => trivial, ?_⟩
            simp only [Act.put, List.getElem_toArray, List.getElem_cons_succ, List.getElem_cons_zero, List.setIfInBounds_toArray, List.set_cons_zero, List.set_cons_succ]
            refine wpW_one 1 _ rfl (by kernel_rfl) (step_make rfl 140 (by omega) rfl ?_)
            intro W22 Z140_22 bq22
            have GW22 := GW13.keep bq22
            have Z141_22 := Z141_13.keep bq22
            refine ⟨fun _ => trivial, ?_⟩
            simp only [Act.put, List.getElem_toArray, List.getElem_cons_succ, List.getElem_cons_zero, List.setIfInBounds_toArray, List.set_cons_zero, List.set_cons_succ]
            clear bq22 GW13
            refine wpW_one 2 _ rfl (by kernel_rfl) (step_conv rfl 24 140 _ rfl rfl Z140_22 ?_)
            refine ⟨fun _ => trivial, ?_⟩
            simp only [Act.put, List.getElem_toArray, List.getElem_cons_succ, List.getElem_cons_zero, List.setIfInBounds_toArray, List.set_cons_zero, List.set_cons_succ]
            have bl := below_new W22 (.cells #[.string ⟨#[]⟩, .string (nul 140), .string (nul 141)] 9)
            have L1 : LsAt (W22.alloc (.cells #[.string ⟨#[]⟩, .string (nul 140), .string (nul 141)] 9)) W22.heap.size [(⟨#[]⟩ : ByteArray), nul 140, nul 141] := LsAt.new W22 [(⟨#[]⟩ : ByteArray), nul 140, nul 141] 9
            have GL := GW22.keep bl
            have hlc := GW22.C.ltw
            refine wpW_one 5 _ rfl (by kernel_rfl) (step_val rfl (.slice (some ⟨W22.heap.size, 0, none⟩) 3 3) (w' := W22.alloc (.cells #[.string ⟨#[]⟩, .string (nul 140), .string (nul 141)] 9)) (by go_simp) ?_)
            refine ⟨fun _ => trivial, ?_⟩
            simp only [Act.put, List.getElem_toArray, List.getElem_cons_succ, List.getElem_cons_zero, List.setIfInBounds_toArray, List.set_cons_zero, List.set_cons_succ]
            refine wpW_one 6 _ rfl (by kernel_rfl) (step_call rfl 48 #[.pointer (some ⟨CB, 0, none⟩), .slice (some ⟨W22.heap.size, 0, none⟩) 3 3] _ (by go_simp) (of_s [(⟨#[]⟩ : ByteArray), nul 140, nul 141] 200 (by decide) hnz W22.heap.size L1 (by omega) GL.C.self (by omega)) ?_)
            rintro e w9 ⟨s9, hs9, rfl, K9⟩
            have G9 := GL.draw K9
            have H9 := G9.set0 s9 hs9
            have f9 := G9.DF 0
            have c9 := G9.DA.c0
            refine ⟨_, rfl, fun _ => trivial, ?_⟩
            simp only [Act.put, List.getElem_toArray, List.getElem_cons_succ, List.getElem_cons_zero, List.setIfInBounds_toArray, List.set_cons_zero, List.set_cons_succ]
            refine wpW_one 7 _ rfl (by kernel_rfl) (step_val rfl (.pointer (some ⟨D, 0, none⟩)) (w' := w9) (by go_simp) ?_)
            refine ⟨fun _ => trivial, ?_⟩
            simp only [Act.put, List.getElem_toArray, List.getElem_cons_succ, List.getElem_cons_zero, List.setIfInBounds_toArray, List.set_cons_zero, List.set_cons_succ]
            refine wpW_one 8 _ rfl (by kernel_rfl) (step_storeS rfl 30 29 rfl D 0 s9 _ rfl rfl c9 f9 ?_)
            refine ⟨fun _ => trivial, ?_⟩
            refine wpW_done (by kernel_rfl) ?_
            simp only [Act.put, List.getElem_toArray, List.getElem_cons_succ, List.getElem_cons_zero, List.setIfInBounds_toArray, List.set_cons_zero, List.set_cons_succ]
            clear G9 GL bl L1 K9
            go_wp2
            go_meet
            exact ⟨rfl, _, _, _, H9⟩
      have e0 : (x7 == 0) = false := by simp [c0]
      by_cases c1 : x7 = 1
      · subst c1
        have b8 := below_new w7 (.cells #[.int .i64 0, .int .i64 1000000000, .int .i64 1000000001] 3)
        have L8 : LiAt (w7.alloc (.cells #[.int .i64 0, .int .i64 1000000000, .int .i64 1000000001] 3)) w7.heap.size [0, 1000000000, 1000000001] := LiAt.new w7 [0, 1000000000, 1000000001] 3
        have G8 := G7.keep b8
        clear G7 b8
        go_wp2_with fail
        refine (among_s [0, 1000000000, 1000000001] (by decide) w7.heap.size L8 (by omega) G8.C.self (by omega)).mono ?_
        rintro e w9 ⟨v9, hv9, rfl, K9⟩
        have G9 := G8.draw K9
        have hvb : -9223372036854775808 ≤ v9 ∧ v9 ≤ 9223372036854775807 := by
          simp only [List.mem_cons, List.not_mem_nil, or_false] at hv9
          rcases hv9 with rfl | rfl | rfl <;> omega
        have GX := G9.set1 v9 hvb
        obtain ⟨_, q0, q1, q2, q3, q4, q5, q6, q7, q8⟩ := id G9.DA
        simp only [Nat.zero_add] at q1 q2 q3 q4 q5 q6 q7 q8
        have qf := G9.DF 1
        clear G8 G9 K9 L8 hv9
        go_wp2
        go_meet
        exact ⟨rfl, _, _, _, GX⟩
      have e1 : (x7 == 1) = false := by simp [c1]
      by_cases c2 : x7 = 2
      · subst c2
        have b8 := below_new w7 (.cells #[.int .i64 0, .int .i64 4] 3)
        have L8 : LiAt (w7.alloc (.cells #[.int .i64 0, .int .i64 4] 3)) w7.heap.size [0, 4] := LiAt.new w7 [0, 4] 3
        have G8 := G7.keep b8
        clear G7 b8
        go_wp2_with fail
        refine (among_s [0, 4] (by decide) w7.heap.size L8 (by omega) G8.C.self (by omega)).mono ?_
        rintro e w9 ⟨v9, hv9, rfl, K9⟩
        have G9 := G8.draw K9
        have GX := G9.set2 v9
        obtain ⟨_, q0, q1, q2, q3, q4, q5, q6, q7, q8⟩ := id G9.DA
        simp only [Nat.zero_add] at q1 q2 q3 q4 q5 q6 q7 q8
        have qf := G9.DF 2
        clear G8 G9 K9 L8 hv9
        go_wp2
        go_meet
        exact ⟨rfl, _, _, _, GX⟩
      have e2 : (x7 == 2) = false := by simp [c2]
      go_wp2
      go_meet
      exact ⟨rfl, _, _, _, ⟨G7.C.mono (by omega), G7.RA, G7.RF, G7.DA, G7.DF, G7.H, G7.far, G7.ne, G7.bd⟩⟩
    case rest =>
      obtain ⟨rfl, x', xo', xc', G8⟩ := hcut
      clear G7
      obtain ⟨_, r0, r1, r2, r3, r4, r5, r6, r7, r8⟩ := id G8.RA
      obtain ⟨_, d0, d1, d2, d3, d4, d5, d6, d7, d8⟩ := id G8.DA
      simp only [Nat.zero_add] at r1 r2 r3 r4 r5 r6 r7 r8 d1 d2 d3 d4 d5 d6 d7 d8
      have rf := G8.RF
      go_wp2
      have hne' := G8.ne
      refine bodyPost_ret (v := .agg #[.string x'.key, .int .i64 x'.seq, .int .i64 x'.kind, .int .i64 x'.c, .int .i64 x'.s, .int .i64 x'.lo, .int .i64 x'.hi, .slice xo' x'.n xc', .bool x'.fu]) (by simp [results, Tryz.results25, go_sem, r0, r1, r2, r3, r4, r5, r6, r7, r8]) rfl ⟨x', xo', xc', rfl, ?_, G8.bd, ?_⟩
      · have og : ∀ (W : World) (i : Nat) (v : Value), HR W R xo' x'.n x'.f → HR (W.setCell ⟨R, i, none⟩ v) R xo' x'.n x'.f := fun W i v hh => hh.grown (grown_set W R i v) (fun g off e h0 e2 => by injection e2 with e2; exact (G8.far g off e h0).2 e2.symm)
        rw [hR]
        exact og _ _ _ (og _ _ _ (og _ _ _ (og _ _ _ (og _ _ _ (og _ _ _ (og _ _ _ (og _ _ _ (og _ _ _ (hR ▸ G8.H)))))))))
      · repeat' refine CS.others ?_ (Others.setCell _ _ _ _) (by omega)
        exact G8.C.mono (by omega)
end Go.Proofs.YtmeckcaekkangaaGreat
