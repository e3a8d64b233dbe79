/- The blocks kept near, in the model. -/
import Derived.Test.YtjcmjoipicaoeaaKb
import Derived.Test.YtjcmjoipicaoeaaIn
import Derived.Deep.RegionLaw
import Derived.Deep.AppendLies
namespace Go.Proofs.Ytjcmjoipicaoeaa
open Go.RowKit
set_option linter.unusedSimpArgs false
set_option linter.unusedVariables false

theorem step_append_run {P : Program} {w : World} {ops : Array Oper} {o : Oper} {a : Act} {K : Act → World → Prop} {Q : Exit → Act → World → Prop} {E : Prop} (hgd : o.guard = none) (s x : Operand) (t : TypeId)
    (ho : o.op = .call { callee := .builtin .append, args := #[s, x], argTypes := #[t, t] }) (u v r : Value) (hs : a.eval s = u) (hx : a.eval x = v) (w' : World) (hrun : ∀ ty, (Builtin.append_ #[t, t] ty #[u, v]).run P w = .ok r w') (h : K (a.put o.dst r) w') :
    if Region.wanted o (yielded ops a.tmps) = true then Oper.wp P o a w K Q else E := by
  have hw : Region.wanted o (yielded ops a.tmps) = true := by simp [Region.wanted, hgd]
  rw [if_pos hw]
  unfold Oper.wp execOp
  simp only [ho, resolve, invoke, builtin, Sem.run_bind, Sem.run_pure, Result.andThen_ok, List.map_toArray, List.map_cons, List.map_nil, hs, hx, hrun]
  exact h

/-- Ints put behind an empty slice in block B0. -/
theorem copyEI_run (w : World) (B0 : Nat) (hB0 : w.heap[B0]? = some (.cells #[] 3 (0, 0))) (b off dc : Nat) (L : List Int) (hL : Ib L) (hlt : b < w.heap.size) (hcl : ∀ i, i < L.length → w.cell? ⟨b, off + i, none⟩ = some (.int .i64 (fi L i))) (hn : L.length ≤ 1048576) (h0 : 0 < L.length) :
    ∃ g c w', (∀ ty, (Builtin.append_ #[52, 52] ty #[.slice (some ⟨B0, 0, none⟩) 0 0, .slice (some ⟨b, off, none⟩) L.length dc]).run Try.prog w = .ok (.slice g L.length c) w') ∧ IV w' B0 w'.heap.size g L ∧ w.grownBy w' (some B0) := by
  obtain ⟨i0, hi, hz0, hz1, hz2⟩ := info_parts Try.infoInt
  have hB0lt : B0 < w.heap.size := (Array.getElem?_eq_some_iff.1 hB0).1
  obtain ⟨g, cap, w', hrun, hown, hgrow, hat, hlt'⟩ := run_append_lies (P := Try.prog) w 52 0 B0 3 i0 (.int .i64 0) 1 8 Try.underlying52 hi hz0 hz1 hz2 rfl (by decide) (.slice (some ⟨B0, 0, none⟩) 0 0) 0 [] ⟨rfl, .inr ⟨B0, 0, #[], rfl, Nat.le_refl _, hB0, Nat.le_refl _, Nat.zero_le _, rfl, rfl⟩⟩ ⟨b, off, none⟩ L.length dc (vi L) (by simp [vi])
    (fun j u hu => by
      have hj : j < L.length := by
        have := (List.getElem?_eq_some_iff.1 hu).1
        simpa [vi] using this
      rw [vi_get hj] at hu
      rw [show (⟨b, off, none⟩ : Addr).add j = ⟨b, off + j, none⟩ from by unfold Addr.add; split <;> simp_all]
      rw [hcl j hj, hu])
    (fun u hu => by simp only [vi, List.mem_map] at hu; obtain ⟨i, _, rfl⟩ := hu; rfl) (by omega) (by unfold maxLen; omega) (by omega) (by omega) w.heap.size rfl
  rw [Nat.zero_add] at hrun hown
  rw [List.nil_append] at hown
  have hO : IOwn w' g 0 L.length (fi L) := by
    refine ⟨hL.fi, hlt', fun i hi => ?_, fun i _ => by simpa using hown.frozenAt i⟩
    rw [Nat.zero_add, hown.cellAt i (by omega), vi_get hi]
  have hgB : B0 ≤ g := by
    rcases hat with h | h
    · simp [Value.ownBlock] at h; omega
    · omega
  exact ⟨_, cap, w', fun ty => hrun, ⟨hL, Nat.le_refl _, .inr ⟨g, 0, rfl, hgB, hlt', hO⟩⟩, hgrow⟩

set_option maxRecDepth 100000 in
set_option maxHeartbeats 4000000 in
theorem keepBlock_spec (b n : Nat) (f : Nat → Int) (M c : Int) (w : World) (hr : IOwn w b 0 n f) (hn : n ≤ 1048576) (hc : -9223372036854775808 ≤ c ∧ c ≤ 9223372036854775807) :
    Calls Try.prog 35 #[.slice (some ⟨b, 0, none⟩) n n, .int .i64 M, .int .i64 c] w fun e w' => KBO f n M c w e w' := by
  by_cases h12 : 1 ≤ M ∧ M ≤ 50
  case neg =>
    have H12 : Hid (¬ (1 ≤ M ∧ M ≤ 50)) := h12
    clear h12
    go_enter Try.func35, Try.ntmps35
    go_wp2_with fail
    refine (l1In_no M 1 50 _ H12.out).mono ?_
    rintro e w1 ⟨rfl, rfl⟩
    go_wp2
    exact bodyPost_ret (v := .tuple #[.slice none 0 0, .int .i64 0, .bool false]) (by simp [results, Try.results35, go_sem]) rfl (kbo_no (fun h => H12.out h.1) (Below.refl _ _))
  by_cases h3 : (n : Int) ≤ M
  case neg =>
    have d3 : decide (M < (n : Int)) = true := by simp; omega
    go_enter Try.func35, Try.ntmps35
    go_wp2_with fail
    refine (l1In_yes M 1 50 _ h12.1 h12.2).mono ?_
    rintro e w1 ⟨rfl, rfl⟩
    go_wp2
    exact bodyPost_ret (v := .tuple #[.slice none 0 0, .int .i64 0, .bool false]) (by simp [results, Try.results35, go_sem]) rfl (kbo_no (fun h => by have := h.2.1; omega) (Below.refl _ _))
  have d3 : decide (M < (n : Int)) = false := by simp; omega
  have hbd := hr.bd
  have hblt := hr.lt
  have hbc : ∀ i, i < n → w.cell? ⟨b, i, none⟩ = some (.int .i64 (f i)) := fun i hi => by have := hr.cell i hi; rwa [Nat.zero_add] at this
  clear hr
  go_enter Try.func35, Try.ntmps35
  go_wp2_with fail
  refine (l1In_yes M 1 50 _ h12.1 h12.2).mono ?_
  rintro e w1 ⟨rfl, hw⟩
  have hw2 := hw.symm
  clear hw
  subst hw2
  go_wp2
  go_loopw [9, 25] (fun v i wr => ∃ k : Nat, k ≤ n ∧ i = .int .i64 k ∧ OwnI wr w.heap.size v (kF f c k) ∧ Hid (Unl f k) ∧ Below w.heap.size w wr) (fun _ i _ => n - (intOf i).toNat)
  case atStart => exact ⟨0, Nat.zero_le _, rfl, ownI_nil _ _, fun i j h1 h2 => by omega, Below.refl _ _⟩
  case round =>
    obtain ⟨k, hk, rfl, ho, HU, hbk⟩ := hrel
    have hl := kF_len f c k
    have hsz := hbk.size
    by_cases hlt : k < n
    · have c1 : wr.cell? ⟨b, k, none⟩ = some (.int .i64 (f k)) := (hbk.cell (p := ⟨b, k, none⟩) hblt).trans (hbc k hlt)
      have hfk := hbd k
      have hkn : (k : Int) ≤ n := by omega
      go_wp2
      go_loopw [34] (fun i ws => ∃ j : Nat, j ≤ k ∧ i = .int .i64 j ∧ Hid (∀ i, i < j → f i ≠ f k) ∧ ws = wr) (fun i _ => k - (intOf i).toNat)
      case atStart => exact ⟨0, Nat.zero_le _, rfl, fun i h => by omega, rfl⟩
      case round =>
        obtain ⟨j, hj, rfl, HJ, hws⟩ := hrel
        have hws2 := hws.symm
        clear hws
        subst hws2
        by_cases hjk : j < k
        · have c2 : wr.cell? ⟨b, j, none⟩ = some (.int .i64 (f j)) := (hbk.cell (p := ⟨b, j, none⟩) hblt).trans (hbc j (by omega))
          clear hbc
          by_cases hq : f j = f k
          · have dq : (f j == f k) = true := by simp [hq]
            have HN : Hid (¬ KG f n M) := fun h => h.2.2 j k hjk hlt hq
            clear hq
            go_wp2
            exact bodyPost_ret (v := .tuple #[.slice none 0 0, .int .i64 0, .bool false]) (by simp [results, Try.results35, go_sem]) rfl (kbo_no HN.out hbk)
          · have dq : (f j == f k) = false := by simp [hq]
            have HJ2 : Hid (∀ i, i < j + 1 → f i ≠ f k) := fun i hi => by
              rcases Nat.lt_succ_iff_lt_or_eq.1 hi with h | rfl
              · exact HJ.out i h
              · exact hq
            clear hq
            go_wp2
            go_roundw
            case rel => exact ⟨j + 1, by omega, by go_num, HJ2, by first | rfl | trivial⟩
            case measure => simp [intOf]; omega
        · obtain rfl : j = k := by omega
          have HU2 : Hid (Unl f (j + 1)) := fun i i2 h1 h2 => by
            rcases Nat.lt_succ_iff_lt_or_eq.1 h2 with h | rfl
            · exact HU.out i i2 h1 h
            · exact HJ.out i h1
          clear hbc
          by_cases hq : f j = c
          · have HQ : Hid (kF f c (j + 1) = kF f c j) := by unfold Hid; rw [kF, if_pos hq]
            have dq : (f j != c) = false := by simp [hq]
            clear hq
            go_wp2
            go_roundw
            case rel => exact ⟨j + 1, by omega, by go_num, by rw [HQ.out]; exact ho, HU2, hbk⟩
            case measure => simp [intOf]; omega
          · have HQ : Hid (kF f c (j + 1) = kF f c j ++ [f j]) := by unfold Hid; rw [kF, if_neg hq]
            have dq : (f j != c) = true := by simp [hq]
            clear hq
            go_wp2_with (at_builtin; refine wpList_pushI rfl (.tmp 45) (.tmp 47) rfl w.heap.size _ (kF f c j) (f j) rfl ho hfk rfl (by omega) hsz ?_; intro v8 w8 hO8 hg8; have bw8 : Below w.heap.size w w8 := (ho.keep (below_new wr _)).below (hbk.alloc hsz _) hg8 (Nat.le_refl _) (by simp; omega))
            rw [← HQ.out] at hO8
            go_roundw
            case rel => exact ⟨j + 1, by omega, by go_num, hO8, HU2, bw8⟩
            case measure => simp [intOf]; omega
    · obtain rfl : k = n := by omega
      have HG : Hid (KG f k M) := ⟨h12, h3, HU.out⟩
      obtain ⟨L, hL⟩ : ∃ L, kF f c k ++ [c] = L := ⟨_, rfl⟩
      have HL : Hid (kF f c k ++ [c] = L) := hL
      have hLl : L.length = (kF f c k).length + 1 := by rw [← hL]; simp
      have hL1 : 1 ≤ L.length := by omega
      have hL2 : L.length ≤ k + 1 := by omega
      clear hL hLl hbc
      by_cases hM : M < (L.length : Int)
      · have dM : decide (M < (L.length : Int)) = true := by simpa using hM
        have hL3 : 2 ≤ L.length := by omega
        go_wp2_with (at_builtin; refine wpList_pushI rfl (.tmp 50) (.tmp 52) rfl w.heap.size _ (kF f c k) c rfl ho hc rfl (by omega) hsz ?_; intro v8 w8 hO8 hg8; rw [HL.out] at hO8; have bw8 : Below w.heap.size w w8 := (ho.keep (below_new wr _)).below (hbk.alloc hsz _) hg8 (Nat.le_refl _) (by simp; omega); obtain ⟨g, cp, rfl, hg, hcp, hOw⟩ := hO8.own' (by omega); have cc : ¬ cp = 1 := (by omega); have q0 := hOw.cell 0 (by omega); have qp : 0 < L.length := (by omega); have qi : (1 : Int) ≤ (L.length : Int) := (by omega); simp only [Nat.add_zero] at q0)
        have hlg := hOw.lt
        have s8 := bw8.size
        have bE : Below w8.heap.size w8 (w8.drew.alloc (.cells #[] 3)) := (Below.refl _ w8).drew.alloc (Nat.le_refl _) _
        have hdl : (L.drop 1).length = L.length - 1 := List.length_drop
        obtain ⟨g9, c9, w9, hrun, V9, G9⟩ := copyEI_run (w8.drew.alloc (.cells #[] 3)) w8.heap.size (heap_alloc_new w8.drew _) g 1 (cp - 1) (L.drop 1) (hO8.bd.drop 1) (by simp; omega) (fun i hi => by
          rw [hdl] at hi
          rw [fi_drop, show 1 + i = 0 + (i + 1) by omega]
          exact (hOw.keep bE).cell (i + 1) (by omega)) (by omega) (by omega)
        rw [hdl] at hrun
        have K9 : ∀ q, q < w8.heap.size → w9.heap[q]? = w8.heap[q]? := fun q hq => (G9.block q (by simp; omega) (fun e => by injection e with e; omega)).trans (bE.block q hq)
        have e0 : (w8.drew.alloc (.cells #[] 3)).cell? ⟨g, 0, none⟩ = some (.int .i64 (fi L 0)) := (bE.cell (p := ⟨g, 0, none⟩) hlg).trans q0
        have e9 : w9.cell? ⟨g, 0, none⟩ = some (.int .i64 (fi L 0)) := (World.cell?_of_block (w := w8) (a := ⟨g, 0, none⟩) (K9 g hlg)).trans q0
        have S9 := G9.size
        simp at S9
        have HF : Hid (KO (L.drop 1) (fi L 0) true w (.returned (.tuple #[.slice g9 (L.length - 1) c9, .int .i64 (fi L 0), .bool true])) w9) := ⟨g9, c9, by rw [hdl], ⟨V9.bd, Nat.le_refl _, V9.is.elim .inl fun ⟨g', off, e, h1, h2, ho⟩ => .inr ⟨g', off, e, by omega, h2, ho⟩⟩, ⟨(G9.os.trans bE.os).trans bw8.os, (G9.tape.trans bE.tape).trans bw8.tape, (G9.output.trans bE.output).trans bw8.output, by omega, fun q hq => (K9 q (by omega)).trans (bw8.block q hq)⟩⟩
        clear V9 G9 K9 bE hOw hO8 hg8 hdl S9
        go_region_law (refine step_append_run (by rfl) (.tmp 58) (.tmp 60) 52 (by rfl) (.slice (some ⟨w8.heap.size, 0, none⟩) 0 0) (.slice (some ⟨g, 1, none⟩) (L.length - 1) (cp - 1)) (.slice g9 (L.length - 1) c9) (by simp [Act.eval, Act.put]) (by simp [Act.eval, Act.put]) w9 hrun ?_)
        all_goals
          go_wp2
          refine bodyPost_ret (v := .tuple #[.slice g9 (L.length - 1) c9, .int .i64 (fi L 0), .bool true]) (by simp [results, Try.results35, go_sem]) rfl ⟨fun h => absurd HG.out h, fun _ _ => ?_, fun _ h => absurd (by rw [HL.out]; exact hM) h⟩
          rw [HL.out]
          exact HF.out
      · have dM : decide (M < (L.length : Int)) = false := by simpa using hM
        go_wp2_with (at_builtin; refine wpList_pushI rfl (.tmp 50) (.tmp 52) rfl w.heap.size _ (kF f c k) c rfl ho hc rfl (by omega) hsz ?_; intro v8 w8 hO8 hg8; rw [HL.out] at hO8; have bw8 : Below w.heap.size w w8 := (ho.keep (below_new wr _)).below (hbk.alloc hsz _) hg8 (Nat.le_refl _) (by simp; omega); obtain ⟨ao, cp, rfl, hcp, V8⟩ := iv_of hO8)
        refine bodyPost_ret (v := .tuple #[.slice ao L.length cp, .int .i64 (-1), .bool true]) (by simp [results, Try.results35, go_sem]) rfl ⟨fun h => absurd HG.out h, fun _ h => absurd h (by rw [HL.out]; omega), fun _ _ => ?_⟩
        rw [HL.out]
        exact ⟨ao, cp, rfl, V8, bw8⟩
end Go.Proofs.Ytjcmjoipicaoeaa
