/- A drawn board (made by mkbo.py). -/
import Derived.Test.YtpggmgmdcccmeaaBw
namespace Go.Proofs.Ytpggmgmdcccmeaa
open Go.RowKit
set_option linter.unusedSimpArgs false
set_option linter.unusedVariables false

/-- What a drawn board is. -/
def BdO (CB : Nat) (ao : Option Addr) (n cap : Nat) (f : Nat → Int) (A : Nat) (w : World) (e : Ending) (w' : World) : Prop :=
  ∃ (z hz mk : Int) (va : Option Addr) (m vc : Nat) (X : Nat → Wn), e = .returned (.agg #[.int .i64 z, .int .i64 hz, .int .i64 mk, .slice va m vc]) ∧ BA w' w.heap.size w'.heap.size (.slice va m vc) m X ∧ WOk m X ∧ CS w w' CB ao n cap f A
def wn00 : Wn := ⟨.empty, 0, fun _ => .empty, fun _ => .empty, 0, 0, 0, 0, 0, 0, fun _ => 0, false, 0, false⟩
theorem tsz_w {T : List (ByteArray × ByteArray)} (h : TSz T) {z : Nat} (hz : 20 ≤ z) : TSize T.length (nmL T) (vlL T) z := fun i hi => by
  have e : T.getD i (⟨#[]⟩, ⟨#[]⟩) ∈ T := by
    have e : T.getD i (⟨#[]⟩, ⟨#[]⟩) = T[i] := by simp [hi]
    rw [e]; exact List.getElem_mem hi
  have := h _ e
  exact ⟨Nat.le_trans this.1 hz, Nat.le_trans this.2 hz⟩
section
variable {w : World} {ops : Array Oper} {o : Oper} {a : Act} {K : Act → World → Prop} {Q : Exit → Act → World → Prop} {E : Prop}
theorem step_bI3 (hgd : o.guard = none) (x y t : Int) (ho : o.op = .buildSlice 33 3 #[(0, .const (.int .i64 x)), (1, .const (.int .i64 y)), (2, .const (.int .i64 t))]) (h : K (a.put o.dst (.slice (some ⟨w.heap.size, 0, none⟩) 3 3)) (w.alloc (.cells #[.int .i64 x, .int .i64 y, .int .i64 t] 3))) :
    if Region.wanted o (yielded ops a.tmps) = true then Oper.wp Try.prog o a w K Q else E := by
  have hw : Region.wanted o (yielded ops a.tmps) = true := by simp [Region.wanted, hgd]
  rw [if_pos hw]
  unfold Oper.wp execOp
  simp only [ho, Act.eval, List.map_toArray, List.map_cons, List.map_nil]
  go_simp
  exact h
theorem step_idx0 (hgd : o.guard = none) (k : Nat) (ho : o.op = .indexAddr 23 (.tmp k) (.const (.int .i64 0))) (b n c : Nat) (hx : a.eval (.tmp k) = .slice (some ⟨b, 0, none⟩) n c) (hi : 0 < n) (h : K (a.put o.dst (.pointer (some ⟨b, 0, none⟩))) w) :
    if Region.wanted o (yielded ops a.tmps) = true then Oper.wp Try.prog o a w K Q else E := by
  have hw : Region.wanted o (yielded ops a.tmps) = true := by simp [Region.wanted, hgd]
  rw [if_pos hw]
  have hx' : a.tmps.getD k undef = .slice (some ⟨b, 0, none⟩) n c := hx
  have hi' : (0 : Int) < (n : Int) := by omega
  unfold Oper.wp execOp
  simp only [ho, Act.eval, hx']
  go_simp
  exact h
theorem step_fVer (hgd : o.guard = none) (k : Nat) (ho : o.op = .fieldAddr 39 (.tmp k) 2) (b q : Nat) (hx : a.eval (.tmp k) = .pointer (some ⟨b, q, none⟩)) (h : K (a.put o.dst (.pointer (some ⟨b, q + 9, none⟩))) w) :
    if Region.wanted o (yielded ops a.tmps) = true then Oper.wp Try.prog o a w K Q else E := by
  have hw : Region.wanted o (yielded ops a.tmps) = true := by simp [Region.wanted, hgd]
  rw [if_pos hw]
  have hx' : a.tmps.getD k undef = .pointer (some ⟨b, q, none⟩) := hx
  unfold Oper.wp execOp
  simp only [ho, Act.eval, hx']
  go_simp
  exact h
theorem step_stI (hgd : o.guard = none) (k j : Nat) (ho : o.op = .store 3 (.tmp k) (.tmp j)) (b q : Nat) (x : Int) (u : Value) (hx : a.eval (.tmp k) = .pointer (some ⟨b, q, none⟩)) (hv : a.eval (.tmp j) = .int .i64 x) (hc : w.cell? ⟨b, q, none⟩ = some u) (hf : w.frozen? ⟨b, q, none⟩ = false) (h : K (a.put o.dst undef) (w.setCell ⟨b, q, none⟩ (.int .i64 x))) :
    if Region.wanted o (yielded ops a.tmps) = true then Oper.wp Try.prog o a w K Q else E := by
  have hw : Region.wanted o (yielded ops a.tmps) = true := by simp [Region.wanted, hgd]
  rw [if_pos hw]
  have hx' : a.tmps.getD k undef = .pointer (some ⟨b, q, none⟩) := hx
  have hv' : a.tmps.getD j undef = .int .i64 x := hv
  unfold Oper.wp execOp
  simp only [ho, Act.eval, hx', hv']
  go_simp
  exact h
theorem cf_among (args : Array Value) (w : World) : Sem.run Try.prog (callFunc 52 args) w = .ok (.enter 52 args) w := by go_simp
end
/-- The version of the first window written. -/
theorem BA.ver {w : World} {base top gv n vc : Nat} {X : Nat → Wn} (h : BA w base top (.slice (some ⟨gv, 0, none⟩) n vc) n X) (hq : 0 < n) (v : Int) :
    (∃ u, w.cell? ⟨gv, 9, none⟩ = some (.int .i64 u)) ∧ w.frozen? ⟨gv, 9, none⟩ = false ∧ base ≤ gv ∧ gv < top ∧ BA (w.setCell ⟨gv, 9, none⟩ (.int .i64 v)) base top (.slice (some ⟨gv, 0, none⟩) n vc) n (upWi X 0 ((X 0).w_ver v)) := by
  rcases h.2 with ⟨h0, _⟩ | ⟨g, cap, A0, A1, K0, K1, G, e, h1, h2, h3, h4, h5⟩
  · omega
  · obtain rfl := slice_same e
    have h3' := h3
    rw [← upWi_same X 0] at h3'
    have c9 := (h3.ent 0 hq).c9
    simp only [Nat.zero_mul, Nat.zero_add] at c9
    have h6 := h3'.set9 hq v
    simp only [Nat.zero_mul, Nat.zero_add] at h6
    refine ⟨⟨_, c9⟩, h3.free 9 (by omega), h1, h2, by simpa using h.1, .inr ⟨gv, cap, A0, A1, K0, K1, G, e, h1, h2, h6, fun i hi hp => h4 i hi ?_, fun i hi hp => h5 i hi ?_⟩⟩
    · by_cases e' : i = 0
      · subst e'; rw [upWi_at] at hp; exact hp
      · rw [upWi_ne _ _ _ e'] at hp; exact hp
    · by_cases e' : i = 0
      · subst e'; rw [upWi_at] at hp; exact hp
      · rw [upWi_ne _ _ _ e'] at hp; exact hp
theorem WOk.ver {m : Nat} {X : Nat → Wn} (h : WOk m X) (v : Int) (hv : 0 ≤ v ∧ v ≤ 2000000) : WOk m (upWi X 0 ((X 0).w_ver v)) := by
  refine ⟨h.few, fun i hi => ?_, fun i hi => ?_, fun i hi => ?_⟩
  · by_cases e : i = 0
    · subst e; rw [upWi_at]; have hb := h.bd 0 hi; exact ⟨hb.st, hb.c, hb.s, by show -9223372036854775808 ≤ v ∧ v ≤ 9223372036854775807; omega, hb.m, hb.tn, hb.ts, hb.n⟩
    · rw [upWi_ne _ _ _ e]; exact h.bd i hi
  · by_cases e : i = 0
    · subst e; rw [upWi_at]; exact h.fb 0 hi
    · rw [upWi_ne _ _ _ e]; exact h.fb i hi
  · by_cases e : i = 0
    · subst e; rw [upWi_at]; have hs := h.sz 0 hi; exact ⟨hs.m, hs.tn, hs.ts, hs.n⟩
    · rw [upWi_ne _ _ _ e]; exact h.sz i hi
set_option maxRecDepth 100000 in
set_option maxHeartbeats 16000000 in
theorem board_s {w : World} {CB : Nat} {ao : Option Addr} {n cap : Nat} {f : Nat → Int} {A : Nat} (h : CS w w CB ao n cap f A) (hA : A ≤ 1000) :
    Calls Try.prog 27 #[.pointer (some ⟨CB, 0, none⟩)] w fun e w' => BdO CB ao n cap f (A + 3000) w e w' := by
  have b0 := below_new w (.cells #[.int .i64 0, .int .i64 0, .int .i64 0, .slice none 0 0] 25)
  have R0 := BdAt.new w 0 0 0 (.slice none 0 0) 25
  have Rf : ∀ j, (w.alloc (.cells #[.int .i64 0, .int .i64 0, .int .i64 0, .slice none 0 0] 25)).frozen? ⟨w.heap.size, j, none⟩ = false := fun j => by simp [go_sem]
  have K0 := h.keep b0
  have hlt := h.lt
  have sw0 : (w.alloc (.cells #[.int .i64 0, .int .i64 0, .int .i64 0, .slice none 0 0] 25)).heap.size = w.heap.size + 1 := by simp
  have bL := below_new (w.alloc (.cells #[.int .i64 0, .int .i64 0, .int .i64 0, .slice none 0 0] 25)) (.cells #[.int .i64 1, .int .i64 5, .int .i64 10] 3)
  have LL := LiAt.new (w.alloc (.cells #[.int .i64 0, .int .i64 0, .int .i64 0, .slice none 0 0] 25)) [1, 5, 10] 3
  have K0L := K0.keep bL
  have R0L := R0.keep bL
  have RfL := fun j => (bL.frozen (p := ⟨w.heap.size, j, none⟩) R0.lt).trans (Rf j)
  rw [sw0] at LL
  go_enter Try.func27, Try.ntmps27
  go_wp2_with fail
  refine (among_s [1, 5, 10] (by decide) (w.heap.size + 1) LL (by omega) K0L.self (by omega)).mono ?_
  rintro e w1 ⟨z, zm, rfl, K1⟩
  have R1 := R0L.grown K1.gr (by intro e; injection e with e; omega)
  have Rf1 := fz_grown RfL R0L.lt K1.gr (by intro e; injection e with e; omega)
  have C1 := K0L.trans K1
  clear b0 R0 Rf K0 bL LL K0L R0L RfL K1 h sw0
  go_wp2_with fail
  refine (pick_s 40 (by omega) C1.self (by omega)).mono ?_
  rintro e w2 ⟨hz, rfl, _, _, K2⟩
  have R2 := R1.grown K2.gr (by intro e; injection e with e; omega)
  have Rf2 := fz_grown Rf1 R1.lt K2.gr (by intro e; injection e with e; omega)
  have C2 := C1.trans K2
  clear R1 Rf1 C1 K2
  go_wp2_with fail
  refine (pick_s 5 (by omega) C2.self (by omega)).mono ?_
  rintro e w3 ⟨mk, rfl, _, _, K3⟩
  have R3 := R2.grown K3.gr (by intro e; injection e with e; omega)
  have Rf3 := fz_grown Rf2 R2.lt K3.gr (by intro e; injection e with e; omega)
  have C3 := C2.trans K3
  clear R2 Rf2 C2 K3
  have b4 := below_new w3 (.cells #[.int .i64 z, .int .i64 hz, .int .i64 mk, .slice none 0 0] 25)
  have H4 : BW w (w3.alloc (.cells #[.int .i64 z, .int .i64 hz, .int .i64 mk, .slice none 0 0] 25)) CB ao n cap f (A + 1 + 1 + 1) w.heap.size w3.heap.size (w3.heap.size + 1) z hz mk none 0 0 (fun _ => wn00) := ⟨C3.keep b4, BdAt.new w3 z hz mk (.slice none 0 0) 25, fun j => by simp [go_sem], R3.keep b4, fun j => (b4.frozen (p := ⟨w.heap.size, j, none⟩) R3.lt).trans (Rf3 j), ⟨by simp, .inl ⟨rfl, none, 0, rfl⟩⟩, ⟨Nat.zero_le _, fun i hi => by omega, fun i hi => by omega, fun i hi => by omega⟩, Nat.le_refl _, R3.lt⟩
  clear b4 R3 Rf3 C3
  go_wp2_with fail
  generalize w3.alloc (.cells #[.int .i64 z, .int .i64 hz, .int .i64 mk, .slice none 0 0] 25) = w4 at H4 ⊢
  generalize w3.heap.size = B at H4 ⊢
  refine (pick_s 9 (by omega) H4.cs.self (by omega)).mono ?_
  rintro e w5 ⟨N, rfl, N0, N9, K5⟩
  have H5 := H4.draw K5
  clear H4 K5
  go_wp2_with fail
  refine (one_s 30 (by omega) H5.cs.self (by omega)).mono ?_
  rintro e w6 ⟨bb, rfl, K6⟩
  have H6 := (H5.draw K6).mono (A' := A + 100 + 40 * 0) (by omega)
  clear H5 K6
  cases bb
  · skip
    go_wp2
    go_loopw [5] (fun i wr => ∃ k : Nat, (k : Int) ≤ N ∧ i = .int .i64 k ∧ ∃ z hz mk va m vc X top, BW w wr CB ao n cap f (A + 100 + 40 * k) w.heap.size B top z hz mk va m vc X) (fun i _ => ((N) - intOf i).toNat)
    case atStart => exact ⟨0, by omega, rfl, _, _, _, _, _, _, _, _, H6⟩
    case round =>
      clear H6
      obtain ⟨k, hk, rfl, z, hz, mk, va, m, vc, X, top, H⟩ := hrel
      by_cases hlt : (k : Int) < N
      · obtain ⟨_, c0, c1, c2, c3⟩ := id H.b
        have bX := below_new wr (.cells #[.int .i64 z, .int .i64 hz, .int .i64 mk, .slice va m vc] 25)
        have H1 := H.keep bX
        have XH1 := BdAt.new wr z hz mk (.slice va m vc) 25
        have XF1 : ∀ j, (wr.alloc (.cells #[.int .i64 z, .int .i64 hz, .int .i64 mk, .slice va m vc] 25)).frozen? ⟨wr.heap.size, j, none⟩ = false := fun j => by simp [go_sem]
        have htx : top ≤ wr.heap.size ∧ B < wr.heap.size := ⟨H.ba.1, H.b.lt⟩
        clear H bX
        go_wp2_with fail
        generalize wr.alloc (.cells #[.int .i64 z, .int .i64 hz, .int .i64 mk, .slice va m vc] 25) = w1 at H1 XH1 XF1 ⊢
        generalize wr.heap.size = xb at XH1 XF1 htx ⊢
        clear c0 c1 c2 c3
        refine (pick_s 7 (by omega) H1.cs.self (by omega)).mono ?_
        rintro e w2 ⟨p, rfl, p0, p7, K2⟩
        have H2 := H1.draw K2
        have XH2 := XH1.grown K2.gr (by intro e; injection e with e; have := H1.cs.lt; have := H1.hR; have := H1.hB; omega)
        have XF2 := fz_grown XF1 XH1.lt K2.gr (by intro e; injection e with e; have := H1.cs.lt; have := H1.hR; have := H1.hB; omega)
        clear H1 XH1 XF1 K2
        by_cases e0 : p = 0
        · skip
          subst e0
          obtain ⟨_, c0, c1, c2, c3⟩ := id H2.b
          go_wp2
          have Hd := H2.keep (Below.refl _ w2).drew
          have XHd := XH2.keep (Below.refl _ w2).drew
          have XFd : ∀ j, w2.drew.frozen? ⟨xb, j, none⟩ = false := XF2
          clear H2 XH2 XF2 c0 c1 c2 c3
          obtain ⟨u0, hu0⟩ : ∃ u, u = w2.drew := ⟨_, rfl⟩
          rw [← hu0] at Hd XHd XFd
          refine wp_region_w (fun w' : World => w'.cell? ⟨B, 0, none⟩ = some (.int .i64 z) ∧ w'.cell? ⟨B, 1, none⟩ = some (.int .i64 hz) ∧ w'.cell? ⟨B, 2, none⟩ = some (.int .i64 mk) ∧ w'.cell? ⟨B, 3, none⟩ = some (.slice va m vc)) (fun _ => true) (by kernel_rfl) ?_
          change wpW _ _ _ _ _ _ 12 _ _ w2.drew
          rw [← hu0]
          clear hu0
          have hS0 : (fun w' : World => w'.cell? ⟨B, 0, none⟩ = some (.int .i64 z) ∧ w'.cell? ⟨B, 1, none⟩ = some (.int .i64 hz) ∧ w'.cell? ⟨B, 2, none⟩ = some (.int .i64 mk) ∧ w'.cell? ⟨B, 3, none⟩ = some (.slice va m vc)) u0 := ⟨Hd.b.c0, Hd.b.c1, Hd.b.c2, Hd.b.c3⟩
          refine wpW_take 0 _ (.agg #[.int .i64 z, .int .i64 hz, .int .i64 mk, .slice va m vc]) rfl (by kernel_rfl) (by kernel_rfl) (by kernel_rfl) (fun _ _ _ h => h) (by kernel_rfl) (.inl ⟨rfl, fun w' hS' => by obtain ⟨s0, s1, s2, s3⟩ := hS'; go_simp⟩) hS0 ?_
          refine wpW_take 1 _ (.pointer (some ⟨B, 2, none⟩)) rfl (by kernel_rfl) (by kernel_rfl) (by kernel_rfl) (fun _ _ _ h => h) (by kernel_rfl) (.inl ⟨rfl, fun w' hS' => by obtain ⟨s0, s1, s2, s3⟩ := hS'; go_simp⟩) hS0 ?_
          refine wpW_take 2 _ (.int .i64 mk) rfl (by kernel_rfl) (by kernel_rfl) (by kernel_rfl) (fun _ _ _ h => h) (by kernel_rfl) (.inl ⟨rfl, fun w' hS' => by obtain ⟨s0, s1, s2, s3⟩ := hS'; go_simp⟩) hS0 ?_
          refine wpW_take 3 _ (.pointer (some ⟨CB, 0, none⟩)) rfl (by kernel_rfl) (by kernel_rfl) (by kernel_rfl) (fun _ _ _ h => h) (by kernel_rfl) (.inl ⟨rfl, fun w' hS' => by obtain ⟨s0, s1, s2, s3⟩ := hS'; go_simp⟩) hS0 ?_
          simp only [Act.put, List.getElem_toArray, List.getElem_cons_succ, List.getElem_cons_zero, List.setIfInBounds_toArray, List.set_cons_zero, List.set_cons_succ]
          refine wpW_one 4 _ rfl (by kernel_rfl) (step_cK rfl 54 53 _ _ (.int .i64 20) rfl _ (by simp [Act.eval, Act.put]) cf_pick (pick_s 20 (by omega) Hd.cs.self (by omega)) ?_)
          rintro e u1 ⟨px, rfl, _, _, K1⟩
          refine ⟨_, rfl, ?_⟩
          have H1 := Hd.draw K1
          have XH1 := XHd.grown K1.gr (by intro e; injection e with e; have := Hd.cs.lt; have := Hd.hR; have := Hd.hB; omega)
          have XF1 := fz_grown XFd XHd.lt K1.gr (by intro e; injection e with e; have := Hd.cs.lt; have := Hd.hR; have := Hd.hB; omega)
          clear Hd XHd XFd K1
          have hS1 : (fun w' : World => w'.cell? ⟨B, 0, none⟩ = some (.int .i64 z) ∧ w'.cell? ⟨B, 1, none⟩ = some (.int .i64 hz) ∧ w'.cell? ⟨B, 2, none⟩ = some (.int .i64 mk) ∧ w'.cell? ⟨B, 3, none⟩ = some (.slice va m vc)) u1 := ⟨H1.b.c0, H1.b.c1, H1.b.c2, H1.b.c3⟩
          refine ⟨fun _ => hS1, ?_⟩
          simp only [Act.put, List.getElem_toArray, List.getElem_cons_succ, List.getElem_cons_zero, List.setIfInBounds_toArray, List.set_cons_zero, List.set_cons_succ]
          refine wpW_take 5 _ (.int .i64 (IntKind.i64.wrap (mk + px))) rfl (by kernel_rfl) (by kernel_rfl) (by kernel_rfl) (fun _ _ _ h => h) (by kernel_rfl) (.inl ⟨rfl, fun w' hS' => by obtain ⟨s0, s1, s2, s3⟩ := hS'; go_simp⟩) hS1 ?_
          obtain ⟨z', h', mk', m', c, Okb, hRM⟩ := rm_spec z hz mk (IntKind.i64.wrap (mk + px)) m X H1.ok
          simp only [Act.put, List.getElem_toArray, List.getElem_cons_succ, List.getElem_cons_zero, List.setIfInBounds_toArray, List.set_cons_zero, List.set_cons_succ]
          refine wpW_one 6 _ rfl (by kernel_rfl) (step_c2 rfl 51 56 54 _ _ rfl _ _ (by simp [Act.eval, Act.put]) (by simp [Act.eval, Act.put]) cf_sRm (hRM va vc u1 H1.row) ?_)
          rintro e u ⟨v', rfl, BA', qu⟩
          obtain ⟨va', vc', rfl⟩ := BA'.form
          refine ⟨_, rfl, ?_⟩
          have H1u := H1.keep qu
          have hSu : (fun w' : World => w'.cell? ⟨B, 0, none⟩ = some (.int .i64 z) ∧ w'.cell? ⟨B, 1, none⟩ = some (.int .i64 hz) ∧ w'.cell? ⟨B, 2, none⟩ = some (.int .i64 mk) ∧ w'.cell? ⟨B, 3, none⟩ = some (.slice va m vc)) u := ⟨H1u.b.c0, H1u.b.c1, H1u.b.c2, H1u.b.c3⟩
          refine ⟨fun _ => hSu, ?_⟩
          simp only [Act.put, List.getElem_toArray, List.getElem_cons_succ, List.getElem_cons_zero, List.setIfInBounds_toArray, List.set_cons_zero, List.set_cons_succ]
          refine wpW_take 7 _ (.tuple #[.agg #[.int .i64 z', .int .i64 h', .int .i64 mk', .slice va' m' vc'], .int .i64 c]) rfl (by kernel_rfl) (by kernel_rfl) (by kernel_rfl) (fun _ _ _ h => h) (by kernel_rfl) (.inl ⟨rfl, fun w' hS' => by obtain ⟨s0, s1, s2, s3⟩ := hS'; go_simp⟩) hSu ?_
          refine wpW_take 8 _ (.agg #[.int .i64 z', .int .i64 h', .int .i64 mk', .slice va' m' vc']) rfl (by kernel_rfl) (by kernel_rfl) (by kernel_rfl) (fun _ _ _ h => h) (by kernel_rfl) (.inl ⟨rfl, fun w' hS' => by obtain ⟨s0, s1, s2, s3⟩ := hS'; go_simp⟩) hSu ?_
          refine wpW_take 9 _ (.int .i64 c) rfl (by kernel_rfl) (by kernel_rfl) (by kernel_rfl) (fun _ _ _ h => h) (by kernel_rfl) (.inl ⟨rfl, fun w' hS' => by obtain ⟨s0, s1, s2, s3⟩ := hS'; go_simp⟩) hSu ?_
          simp only [Act.put, List.getElem_toArray, List.getElem_cons_succ, List.getElem_cons_zero, List.setIfInBounds_toArray, List.set_cons_zero, List.set_cons_succ]
          have sx1 := XH1.lt
          have su := qu.size
          refine wpW_one 10 _ rfl (by kernel_rfl) (step_stB rfl 6 58 rfl xb _ _ _ _ z' h' mk' va' m' vc' (by simp [Act.eval, Act.put]) (by simp [Act.eval, Act.put]) (XH1.keep qu) (fun j => (qu.frozen (p := ⟨xb, j, none⟩) sx1).trans (XF1 j)) ?_)
          have Hb := (H1.keep qu).oth (setBd_oth u xb z' h' mk' (.slice va' m' vc')) (by omega)
          have Xb := setBd_at (XH1.keep qu) z' h' mk' (.slice va' m' vc')
          have Ab := BA'.same (w' := setBd u xb z' h' mk' (.slice va' m' vc')) (by rw [(setBd_oth u xb z' h' mk' (.slice va' m' vc')).size]; exact Nat.le_refl _) (fun c h1 h2 => (setBd_oth u xb z' h' mk' (.slice va' m' vc')).block c (by omega))
          have hSb : (fun w' : World => w'.cell? ⟨B, 0, none⟩ = some (.int .i64 z) ∧ w'.cell? ⟨B, 1, none⟩ = some (.int .i64 hz) ∧ w'.cell? ⟨B, 2, none⟩ = some (.int .i64 mk) ∧ w'.cell? ⟨B, 3, none⟩ = some (.slice va m vc)) (setBd u xb z' h' mk' (.slice va' m' vc')) := ⟨Hb.b.c0, Hb.b.c1, Hb.b.c2, Hb.b.c3⟩
          refine ⟨fun _ => hSb, ?_⟩
          generalize setBd u xb z' h' mk' (.slice va' m' vc') = u5 at Hb Xb Ab hSb ⊢
          simp only [Act.put, List.getElem_toArray, List.getElem_cons_succ, List.getElem_cons_zero, List.setIfInBounds_toArray, List.set_cons_zero, List.set_cons_succ]
          refine wpW_one 11 _ rfl (by kernel_rfl) (step_asI rfl 59 rfl c (by simp [Act.eval, Act.put]) ?_)
          refine ⟨fun _ => hSb, ?_⟩
          refine wpW_done (by kernel_rfl) ?_
          simp only [Act.put, List.getElem_toArray, List.getElem_cons_succ, List.getElem_cons_zero, List.setIfInBounds_toArray, List.set_cons_zero, List.set_cons_succ]
          have hlo : B + 1 ≤ u1.heap.size := by have := H1.b.lt; omega
          obtain ⟨X', hX'⟩ : ∃ X', X' = X := ⟨_, rfl⟩
          rw [← hX'] at Ab Okb
          clear hS0 hS1 hSu hSb H1 H1u XH1 XF1 hRM BA' qu hX'
          by_cases hc : c = 0
          · subst hc
            obtain ⟨_, x0, x1, x2, x3⟩ := id Xb
            obtain ⟨_, c0, c1, c2, c3⟩ := id Hb.b
            have cf := Hb.bf
            have HN : BW w (setBd u5 B z' h' mk' (.slice va' m' vc')) CB ao n cap f (A + 100 + 40 * (k + 1)) w.heap.size B u.heap.size z' h' mk' va' m' vc' X' := (Hb.put Ab hlo Okb).mono (by omega)
            clear Hb Ab Xb
            go_wp2
            go_roundw
            case rel => exact ⟨k + 1, by omega, by go_num, _, _, _, _, _, _, _, _, HN⟩
            case measure => simp [intOf]; omega
          · have hcb : (c == 0) = false := beq_eq_false_iff_ne.2 hc
            have HN := Hb.mono (A' := A + 100 + 40 * (k + 1)) (by omega)
            clear Hb Ab Xb
            go_wp2
            go_roundw
            case rel => exact ⟨k + 1, by omega, by go_num, _, _, _, _, _, _, _, _, HN⟩
            case measure => simp [intOf]; omega
        have n0 : (p == 0) = false := beq_eq_false_iff_ne.2 e0
        by_cases e1 : p = 1
        · skip
          subst e1
          obtain ⟨_, c0, c1, c2, c3⟩ := id H2.b
          obtain ⟨z', h', mk', m', X', mT, TT, c, TO, hTD, _⟩ := td_out z hz mk m X H2.ok.few H2.ok.bd H2.ok.fb H2.ok.sz
          have Okb : WOk m' X' := ⟨TO.n1, TO.b1, TO.f1, TO.z1⟩
          have hrow := H2.row
          go_wp2_with fail
          refine (hTD va vc w2 hrow).mono ?_
          rintro e u ⟨v', tv, s, rfl, hs, BA', TA', qu⟩
          obtain ⟨va', vc', rfl⟩ := BA'.form
          obtain ⟨ta, tc, rfl⟩ := TA'.form
          have sx1 := XH2.lt
          have su := qu.size
          have Hb := (H2.keep qu).oth (setBd_oth u xb z' h' mk' (.slice va' m' vc')) (by omega)
          have Xb := setBd_at (XH2.keep qu) z' h' mk' (.slice va' m' vc')
          have Ab := BA'.same (w' := setBd u xb z' h' mk' (.slice va' m' vc')) (by rw [(setBd_oth u xb z' h' mk' (.slice va' m' vc')).size]; exact Nat.le_refl _) (fun c h1 h2 => (setBd_oth u xb z' h' mk' (.slice va' m' vc')).block c (by omega))
          have hlo : B + 1 ≤ w2.heap.size := by have := H2.b.lt; omega
          have hBx : ¬ B = xb := by omega
          have hxB : ¬ xb = B := by omega
          obtain ⟨_, x0, x1, x2, x3⟩ := XH2.keep qu
          have xf : ∀ j, u.frozen? ⟨xb, j, none⟩ = false := fun j => (qu.frozen (p := ⟨xb, j, none⟩) sx1).trans (XF2 j)
          obtain ⟨_, b0, b1, b2, b3⟩ := (H2.keep qu).b
          have bf := (H2.keep qu).bf
          clear hTD BA' TA' H2 XH2 XF2 hrow c0 c1 c2 c3 TO
          by_cases hc : c = 0
          · subst hc
            have HN : BW w (setBd (setBd u xb z' h' mk' (.slice va' m' vc')) B z' h' mk' (.slice va' m' vc')) CB ao n cap f (A + 100 + 40 * (k + 1)) w.heap.size B s z' h' mk' va' m' vc' X' := (Hb.put Ab hlo Okb).mono (by omega)
            clear Hb Ab Xb
            go_wp2
            go_roundw
            case rel => exact ⟨k + 1, by omega, by go_num, _, _, _, _, _, _, _, _, HN⟩
            case measure => simp [intOf]; omega
          · have hcb : (c == 0) = false := beq_eq_false_iff_ne.2 hc
            have HN : BW w (setBd u xb z' h' mk' (.slice va' m' vc')) CB ao n cap f (A + 100 + 40 * (k + 1)) w.heap.size B top z hz mk va m vc X := Hb.mono (by omega)
            clear Hb Ab Xb
            go_wp2
            go_roundw
            case rel => exact ⟨k + 1, by omega, by go_num, _, _, _, _, _, _, _, _, HN⟩
            case measure => simp [intOf]; omega
        have n1 : (p == 1) = false := beq_eq_false_iff_ne.2 e1
        have hBl := H2.b.lt
        go_wp2_with fail
        refine (event_s H2.cs.self (by omega)).mono ?_
        rintro e w3 ⟨km, ka, kc, T, st, t, v, rfl, hT, hm, hl, hts, K3⟩
        have hCx : CB ≠ xb := by have := H2.cs.lt; have := H2.hR; have := H2.hB; omega
        have H3 := H2.draw K3
        have XH3 := XH2.grown K3.gr (by intro e; injection e with e; omega)
        have XF3 := fz_grown XF2 XH2.lt K3.gr (by intro e; injection e with e; omega)
        have bK := below_new w3 (.cells #[.string km, .slice ka T.length kc, .int .i64 st] 32)
        have H4 := H3.keep bK
        have XH4 := XH3.keep bK
        have XF4 : ∀ j, (w3.alloc (.cells #[.string km, .slice ka T.length kc, .int .i64 st] 32)).frozen? ⟨xb, j, none⟩ = false := fun j => (bK.frozen (p := ⟨xb, j, none⟩) XH3.lt).trans (XF3 j)
        have KB := KAt.new w3 km (.slice ka T.length kc) st 32
        have TR := (TgL.row (show TgL (w3.alloc (.cells #[.string km, .slice ka T.length kc, .int .i64 st] 32)) w2.heap.size (.slice ka T.length kc) T from ownsRow_keep hT bK)).2
        have KZ : Hid (KSz ⟨km, T.length, nmL T, vlL T, st, 0, 0, 0, 0, 0, fun _ => 0, false, 0, false⟩) := ⟨by show km.size ≤ 1048576; omega, by show T.length ≤ 1048576; omega, tsz_w hts (by omega)⟩
        clear H2 H3 XH2 XH3 XF2 XF3 K3 bK hT hm hl hts
        obtain ⟨_, b0, b1, b2, b3⟩ := id H4.b
        obtain ⟨_, k0, k1, k2⟩ := id KB
        go_wp2_with fail
        generalize w3.alloc (.cells #[.string km, .slice ka T.length kc, .int .i64 st] 32) = w4 at H4 XH4 XF4 TR KB ⊢
        generalize wrap64 (t + (k : Int) / 8) = tt
        clear b0 b1 b2 b3 k0 k1 k2 KB
        obtain ⟨z', h', mk', m', X', c, Okb, hAE, _⟩ := ae_out z hz mk tt v m X ⟨km, T.length, nmL T, vlL T, st, 0, 0, 0, 0, 0, fun _ => 0, false, 0, false⟩ KZ.out H4.ok.few H4.ok.bd H4.ok.fb H4.ok.sz
        refine (hAE va ka vc kc w4 H4.row TR).mono ?_
        rintro e u ⟨v', rfl, BA', qu⟩
        obtain ⟨va', vc', rfl⟩ := BA'.form
        have sx1 := XH4.lt
        have su := qu.size
        have Hb := (H4.keep qu).oth (setBd_oth u xb z' h' mk' (.slice va' m' vc')) (by omega)
        have Ab := BA'.same (w' := setBd u xb z' h' mk' (.slice va' m' vc')) (by rw [(setBd_oth u xb z' h' mk' (.slice va' m' vc')).size]; exact Nat.le_refl _) (fun c h1 h2 => (setBd_oth u xb z' h' mk' (.slice va' m' vc')).block c (by omega))
        have hlo : B + 1 ≤ w4.heap.size := by have := H4.b.lt; omega
        have hBx : ¬ B = xb := by omega
        have hxB : ¬ xb = B := by omega
        obtain ⟨_, x0, x1, x2, x3⟩ := XH4.keep qu
        have xf : ∀ j, u.frozen? ⟨xb, j, none⟩ = false := fun j => (qu.frozen (p := ⟨xb, j, none⟩) sx1).trans (XF4 j)
        obtain ⟨_, b0, b1, b2, b3⟩ := (H4.keep qu).b
        have bf := (H4.keep qu).bf
        clear hAE BA' H4 XH4 XF4 TR
        by_cases hc : c = 0
        · subst hc
          have HN : BW w (setBd (setBd u xb z' h' mk' (.slice va' m' vc')) B z' h' mk' (.slice va' m' vc')) CB ao n cap f (A + 100 + 40 * (k + 1)) w.heap.size B u.heap.size z' h' mk' va' m' vc' X' := (Hb.put Ab hlo Okb).mono (by omega)
          clear Hb Ab
          go_wp2
          go_roundw
          case rel => exact ⟨k + 1, by omega, by go_num, _, _, _, _, _, _, _, _, HN⟩
          case measure => simp [intOf]; omega
        · have hcb : (c == 0) = false := beq_eq_false_iff_ne.2 hc
          have HN : BW w (setBd u xb z' h' mk' (.slice va' m' vc')) CB ao n cap f (A + 100 + 40 * (k + 1)) w.heap.size B top z hz mk va m vc X := Hb.mono (by omega)
          clear Hb Ab
          go_wp2
          go_roundw
          case rel => exact ⟨k + 1, by omega, by go_num, _, _, _, _, _, _, _, _, HN⟩
          case measure => simp [intOf]; omega
      · skip
        -- the loop is over
        go_wp2_with fail
        refine (pick_s 40 (by omega) H.cs.self (by omega)).mono ?_
        rintro e w1 ⟨p, rfl, p0, p40, K1⟩
        have H1 := H.draw K1
        clear H K1
        by_cases e0 : p = 0
        · subst e0
          have bL := below_new w1 (.cells #[.int .i64 0, .int .i64 3, .int .i64 100000, .int .i64 100001] 3)
          have LL : LiAt (w1.alloc (.cells #[.int .i64 0, .int .i64 3, .int .i64 100000, .int .i64 100001] 3)) w1.heap.size [0, 3, 100000, 100001] := LiAt.new w1 [0, 3, 100000, 100001] 3
          have hlw := H1.cs.ltw
          have H1L := H1.keep bL
          clear H1 bL
          go_wp2_with fail
          refine (among_s [0, 3, 100000, 100001] (by decide) w1.heap.size LL (by omega) H1L.cs.self (by omega)).mono ?_
          rintro e w2 ⟨zz, zzm, rfl, K2⟩
          have H2 := H1L.draw K2
          clear H1L K2 LL
          have H3 := H2.set0 zz
          obtain ⟨_, c0, c1, c2, c3⟩ := id H2.b
          have cf := H2.bf
          obtain ⟨_, r0, r1, r2, r3⟩ := id H3.r
          have rf := H3.rf
          have hRB := H3.hB
          obtain ⟨_, q0, q1, q2, q3⟩ := id H3.b
          go_wp2
          have ho := setBd_oth (w2.setCell ⟨B, 0, none⟩ (.int .i64 zz)) w.heap.size zz hz mk (.slice va m vc)
          refine bodyPost_ret (v := .agg #[.int .i64 zz, .int .i64 hz, .int .i64 mk, .slice va m vc]) (by simp [results, Try.results27, go_sem, r0, r1, r2, r3]) rfl ⟨zz, hz, mk, va, m, vc, X, rfl, ?_, H3.ok, ?_⟩
          · have hb := (H3.ba.same (w' := setBd (w2.setCell ⟨B, 0, none⟩ (.int .i64 zz)) w.heap.size zz hz mk (.slice va m vc)) (by rw [ho.size]; exact Nat.le_refl _) (fun c h1 h2 => ho.block c (by omega)))
            exact hb.mono (by omega) hb.1 (Nat.le_refl _)
          · exact (H3.cs.others ho (Nat.le_refl _)).mono (by omega)
        have n0 : (p == 0) = false := beq_eq_false_iff_ne.2 e0
        by_cases e1 : p = 1
        · subst e1
          have bL := below_new w1 (.cells #[.int .i64 (-1), .int .i64 1000000000, .int .i64 1000000001] 3)
          have LL : LiAt (w1.alloc (.cells #[.int .i64 (-1), .int .i64 1000000000, .int .i64 1000000001] 3)) w1.heap.size [-1, 1000000000, 1000000001] := LiAt.new w1 [-1, 1000000000, 1000000001] 3
          have hlw := H1.cs.ltw
          have H1L := H1.keep bL
          clear H1 bL
          go_wp2_with fail
          refine (among_s [-1, 1000000000, 1000000001] (by decide) w1.heap.size LL (by omega) H1L.cs.self (by omega)).mono ?_
          rintro e w2 ⟨mm, mmm, rfl, K2⟩
          have H2 := H1L.draw K2
          clear H1L K2 LL
          have H3 := H2.set2 mm
          obtain ⟨_, c0, c1, c2, c3⟩ := id H2.b
          have cf := H2.bf
          obtain ⟨_, r0, r1, r2, r3⟩ := id H3.r
          have rf := H3.rf
          have hRB := H3.hB
          obtain ⟨_, q0, q1, q2, q3⟩ := id H3.b
          go_wp2
          have ho := setBd_oth (w2.setCell ⟨B, 2, none⟩ (.int .i64 mm)) w.heap.size z hz mm (.slice va m vc)
          refine bodyPost_ret (v := .agg #[.int .i64 z, .int .i64 hz, .int .i64 mm, .slice va m vc]) (by simp [results, Try.results27, go_sem, r0, r1, r2, r3]) rfl ⟨z, hz, mm, va, m, vc, X, rfl, ?_, H3.ok, ?_⟩
          · have hb := (H3.ba.same (w' := setBd (w2.setCell ⟨B, 2, none⟩ (.int .i64 mm)) w.heap.size z hz mm (.slice va m vc)) (by rw [ho.size]; exact Nat.le_refl _) (fun c h1 h2 => ho.block c (by omega)))
            exact hb.mono (by omega) hb.1 (Nat.le_refl _)
          · exact (H3.cs.others ho (Nat.le_refl _)).mono (by omega)
        have n1 : (p == 1) = false := beq_eq_false_iff_ne.2 e1
        by_cases e2 : p = 2
        · subst e2
          by_cases hm : 0 < m
          · obtain ⟨gv, capv, _, _, _, _, _, ev, _⟩ := H1.ba.2.resolve_left (fun hh => by omega)
            have eva := slice_form ev
            subst eva
            clear ev
            obtain ⟨_, c0, c1, c2, c3⟩ := id H1.b
            have hmi : (0 : Int) < (m : Int) := by omega
            go_wp2
            have Hd := H1.keep (Below.refl _ w1).drew
            clear H1 c0 c1 c2 c3
            obtain ⟨u0, hu0⟩ : ∃ u, u = w1.drew := ⟨_, rfl⟩
            rw [← hu0] at Hd
            refine wp_region_w (fun w' : World => w'.cell? ⟨B, 3, none⟩ = some (.slice (some ⟨gv, 0, none⟩) m vc)) (fun j => j != 7) (by kernel_rfl) ?_
            change wpW _ _ _ _ _ _ 8 _ _ w1.drew
            rw [← hu0]
            clear hu0
            have hS0 : (fun w' : World => w'.cell? ⟨B, 3, none⟩ = some (.slice (some ⟨gv, 0, none⟩) m vc)) u0 := Hd.b.c3
            refine wpW_take 0 _ (.pointer (some ⟨B, 3, none⟩)) rfl (by kernel_rfl) (by kernel_rfl) (by kernel_rfl) (fun _ _ _ h => h) (by kernel_rfl) (.inl ⟨rfl, fun w' hS' => by have s0 := hS'; go_simp⟩) hS0 ?_
            refine wpW_take 1 _ (.slice (some ⟨gv, 0, none⟩) m vc) rfl (by kernel_rfl) (by kernel_rfl) (by kernel_rfl) (fun _ _ _ h => h) (by kernel_rfl) (.inl ⟨rfl, fun w' hS' => by have s0 := hS'; go_simp⟩) hS0 ?_
            refine wpW_take 2 _ (.pointer (some ⟨CB, 0, none⟩)) rfl (by kernel_rfl) (by kernel_rfl) (by kernel_rfl) (fun _ _ _ h => h) (by kernel_rfl) (.inl ⟨rfl, fun w' hS' => by have s0 := hS'; go_simp⟩) hS0 ?_
            simp only [Act.put, List.getElem_toArray, List.getElem_cons_succ, List.getElem_cons_zero, List.setIfInBounds_toArray, List.set_cons_zero, List.set_cons_succ]
            have bI := below_new u0 (.cells #[.int .i64 0, .int .i64 1000000, .int .i64 1000001] 3)
            have LI := LiAt.new u0 [0, 1000000, 1000001] 3
            have hlw := Hd.cs.ltw
            refine wpW_one 3 _ rfl (by kernel_rfl) (step_bI3 rfl 0 1000000 1000001 rfl ?_)
            have H1 := Hd.keep bI
            refine ⟨fun _ => H1.b.c3, ?_⟩
            clear Hd
            change wpW _ _ _ _ _ _ _ _ _ (u0.alloc (.cells ([0, 1000000, 1000001].map (Value.int .i64)).toArray 3))
            change BW w (u0.alloc (.cells ([0, 1000000, 1000001].map (Value.int .i64)).toArray 3)) CB ao n cap f _ _ _ _ _ _ _ _ _ _ _ at H1
            generalize u0.alloc (.cells ([0, 1000000, 1000001].map (Value.int .i64)).toArray 3) = u1 at H1 LI ⊢
            simp only [Act.put, List.getElem_toArray, List.getElem_cons_succ, List.getElem_cons_zero, List.setIfInBounds_toArray, List.set_cons_zero, List.set_cons_succ]
            refine wpW_one 4 _ rfl (by kernel_rfl) (step_c2 rfl 93 94 52 _ _ rfl _ _ (by simp [Act.eval, Act.put]) (by simp [Act.eval, Act.put]) cf_among (among_s [0, 1000000, 1000001] (by decide) u0.heap.size LI (by omega) H1.cs.self (by omega)) ?_)
            rintro e u2 ⟨vx, vm, rfl, K2⟩
            refine ⟨_, rfl, ?_⟩
            have H2 := H1.draw K2
            clear H1 K2 LI
            refine ⟨fun _ => H2.b.c3, ?_⟩
            simp only [Act.put, List.getElem_toArray, List.getElem_cons_succ, List.getElem_cons_zero, List.setIfInBounds_toArray, List.set_cons_zero, List.set_cons_succ]
            refine wpW_one 5 _ rfl (by kernel_rfl) (step_idx0 rfl 92 rfl gv m vc (by simp [Act.eval, Act.put]) hm ?_)
            refine ⟨fun _ => H2.b.c3, ?_⟩
            simp only [Act.put, List.getElem_toArray, List.getElem_cons_succ, List.getElem_cons_zero, List.setIfInBounds_toArray, List.set_cons_zero, List.set_cons_succ]
            refine wpW_one 6 _ rfl (by kernel_rfl) (step_fVer rfl 96 rfl gv 0 (by simp [Act.eval, Act.put]) ?_)
            refine ⟨fun _ => H2.b.c3, ?_⟩
            simp only [Act.put, List.getElem_toArray, List.getElem_cons_succ, List.getElem_cons_zero, List.setIfInBounds_toArray, List.set_cons_zero, List.set_cons_succ]
            obtain ⟨⟨uo, hc9⟩, hf9, hg1, hg2, hA9⟩ := H2.ba.ver hm vx
            refine wpW_one 7 _ rfl (by kernel_rfl) (step_stI rfl 97 95 rfl gv 9 vx _ (by simp [Act.eval, Act.put]) (by simp [Act.eval, Act.put]) hc9 hf9 ?_)
            refine ⟨fun h => absurd h (by decide), ?_⟩
            refine wpW_done (by kernel_rfl) ?_
            simp only [Act.put, List.getElem_toArray, List.getElem_cons_succ, List.getElem_cons_zero, List.setIfInBounds_toArray, List.set_cons_zero, List.set_cons_succ]
            have hvx : 0 ≤ vx ∧ vx ≤ 2000000 := by simp at vm; omega
            have ho := Others.setCell u2 gv 9 (.int .i64 vx)
            have hRB := H2.hB
            have H3 : BW w (u2.setCell ⟨gv, 9, none⟩ (.int .i64 vx)) CB ao n cap f _ w.heap.size B top z hz mk (some ⟨gv, 0, none⟩) m vc (upWi X 0 ((X 0).w_ver vx)) := ⟨H2.cs.others ho (by have := H2.hR; omega), H2.b.others ho (by omega), fz_oth H2.bf ho (by omega), H2.r.others ho (by omega), fz_oth H2.rf ho (by omega), hA9, H2.ok.ver vx hvx, H2.hR, H2.hB⟩
            generalize u2.setCell ⟨gv, 9, none⟩ (.int .i64 vx) = u3 at H3 ⊢
            clear H2 hA9 ho hc9 hf9
            obtain ⟨_, c0, c1, c2, c3⟩ := id H3.b
            obtain ⟨_, r0, r1, r2, r3⟩ := id H3.r
            have rf := H3.rf
            have hRB := H3.hB
            have hF := H3
            clear H3
            go_wp2
            refine bodyPost_ret (v := .agg #[.int .i64 z, .int .i64 hz, .int .i64 mk, .slice (some ⟨gv, 0, none⟩) m vc]) (by simp [results, Try.results27, go_sem, r0, r1, r2, r3]) rfl ⟨z, hz, mk, (some ⟨gv, 0, none⟩), m, vc, (upWi X 0 ((X 0).w_ver vx)), rfl, ?_, hF.ok, ?_⟩
            · have ho := setBd_oth u3 w.heap.size z hz mk (.slice (some ⟨gv, 0, none⟩) m vc)
              have hb := (hF.ba.same (w' := setBd u3 w.heap.size z hz mk (.slice (some ⟨gv, 0, none⟩) m vc)) (by rw [ho.size]; exact Nat.le_refl _) (fun c h1 h2 => ho.block c (by omega)))
              exact hb.mono (by omega) hb.1 (Nat.le_refl _)
            · exact (hF.cs.others (setBd_oth u3 w.heap.size z hz mk (.slice (some ⟨gv, 0, none⟩) m vc)) (Nat.le_refl _)).mono (by omega)
          · obtain rfl : m = 0 := by omega
            obtain ⟨_, c0, c1, c2, c3⟩ := id H1.b
            obtain ⟨_, r0, r1, r2, r3⟩ := id H1.r
            have rf := H1.rf
            have hRB := H1.hB
            have hF := H1
            clear H1
            go_wp2
            refine bodyPost_ret (v := .agg #[.int .i64 z, .int .i64 hz, .int .i64 mk, .slice va 0 vc]) (by simp [results, Try.results27, go_sem, r0, r1, r2, r3]) rfl ⟨z, hz, mk, va, 0, vc, X, rfl, ?_, hF.ok, ?_⟩
            · have ho := setBd_oth w1 w.heap.size z hz mk (.slice va 0 vc)
              have hb := (hF.ba.same (w' := setBd w1 w.heap.size z hz mk (.slice va 0 vc)) (by rw [ho.size]; exact Nat.le_refl _) (fun c h1 h2 => ho.block c (by omega)))
              exact hb.mono (by omega) hb.1 (Nat.le_refl _)
            · exact (hF.cs.others (setBd_oth w1 w.heap.size z hz mk (.slice va 0 vc)) (Nat.le_refl _)).mono (by omega)
        have n2 : (p == 2) = false := beq_eq_false_iff_ne.2 e2
        obtain ⟨_, c0, c1, c2, c3⟩ := id H1.b
        obtain ⟨_, r0, r1, r2, r3⟩ := id H1.r
        have rf := H1.rf
        have hRB := H1.hB
        have hF := H1
        clear H1
        go_wp2
        refine bodyPost_ret (v := .agg #[.int .i64 z, .int .i64 hz, .int .i64 mk, .slice va m vc]) (by simp [results, Try.results27, go_sem, r0, r1, r2, r3]) rfl ⟨z, hz, mk, va, m, vc, X, rfl, ?_, hF.ok, ?_⟩
        · have ho := setBd_oth w1 w.heap.size z hz mk (.slice va m vc)
          have hb := (hF.ba.same (w' := setBd w1 w.heap.size z hz mk (.slice va m vc)) (by rw [ho.size]; exact Nat.le_refl _) (fun c h1 h2 => ho.block c (by omega)))
          exact hb.mono (by omega) hb.1 (Nat.le_refl _)
        · exact (hF.cs.others (setBd_oth w1 w.heap.size z hz mk (.slice va m vc)) (Nat.le_refl _)).mono (by omega)
  · skip
    go_wp2
    go_loopw [5] (fun i wr => ∃ k : Nat, (k : Int) ≤ 50 ∧ i = .int .i64 k ∧ ∃ z hz mk va m vc X top, BW w wr CB ao n cap f (A + 100 + 40 * k) w.heap.size B top z hz mk va m vc X) (fun i _ => ((50) - intOf i).toNat)
    case atStart => exact ⟨0, by omega, rfl, _, _, _, _, _, _, _, _, H6⟩
    case round =>
      clear H6
      obtain ⟨k, hk, rfl, z, hz, mk, va, m, vc, X, top, H⟩ := hrel
      by_cases hlt : (k : Int) < 50
      · obtain ⟨_, c0, c1, c2, c3⟩ := id H.b
        have bX := below_new wr (.cells #[.int .i64 z, .int .i64 hz, .int .i64 mk, .slice va m vc] 25)
        have H1 := H.keep bX
        have XH1 := BdAt.new wr z hz mk (.slice va m vc) 25
        have XF1 : ∀ j, (wr.alloc (.cells #[.int .i64 z, .int .i64 hz, .int .i64 mk, .slice va m vc] 25)).frozen? ⟨wr.heap.size, j, none⟩ = false := fun j => by simp [go_sem]
        have htx : top ≤ wr.heap.size ∧ B < wr.heap.size := ⟨H.ba.1, H.b.lt⟩
        clear H bX
        go_wp2_with fail
        generalize wr.alloc (.cells #[.int .i64 z, .int .i64 hz, .int .i64 mk, .slice va m vc] 25) = w1 at H1 XH1 XF1 ⊢
        generalize wr.heap.size = xb at XH1 XF1 htx ⊢
        clear c0 c1 c2 c3
        refine (pick_s 7 (by omega) H1.cs.self (by omega)).mono ?_
        rintro e w2 ⟨p, rfl, p0, p7, K2⟩
        have H2 := H1.draw K2
        have XH2 := XH1.grown K2.gr (by intro e; injection e with e; have := H1.cs.lt; have := H1.hR; have := H1.hB; omega)
        have XF2 := fz_grown XF1 XH1.lt K2.gr (by intro e; injection e with e; have := H1.cs.lt; have := H1.hR; have := H1.hB; omega)
        clear H1 XH1 XF1 K2
        by_cases e0 : p = 0
        · skip
          subst e0
          obtain ⟨_, c0, c1, c2, c3⟩ := id H2.b
          go_wp2
          have Hd := H2.keep (Below.refl _ w2).drew
          have XHd := XH2.keep (Below.refl _ w2).drew
          have XFd : ∀ j, w2.drew.frozen? ⟨xb, j, none⟩ = false := XF2
          clear H2 XH2 XF2 c0 c1 c2 c3
          obtain ⟨u0, hu0⟩ : ∃ u, u = w2.drew := ⟨_, rfl⟩
          rw [← hu0] at Hd XHd XFd
          refine wp_region_w (fun w' : World => w'.cell? ⟨B, 0, none⟩ = some (.int .i64 z) ∧ w'.cell? ⟨B, 1, none⟩ = some (.int .i64 hz) ∧ w'.cell? ⟨B, 2, none⟩ = some (.int .i64 mk) ∧ w'.cell? ⟨B, 3, none⟩ = some (.slice va m vc)) (fun _ => true) (by kernel_rfl) ?_
          change wpW _ _ _ _ _ _ 12 _ _ w2.drew
          rw [← hu0]
          clear hu0
          have hS0 : (fun w' : World => w'.cell? ⟨B, 0, none⟩ = some (.int .i64 z) ∧ w'.cell? ⟨B, 1, none⟩ = some (.int .i64 hz) ∧ w'.cell? ⟨B, 2, none⟩ = some (.int .i64 mk) ∧ w'.cell? ⟨B, 3, none⟩ = some (.slice va m vc)) u0 := ⟨Hd.b.c0, Hd.b.c1, Hd.b.c2, Hd.b.c3⟩
          refine wpW_take 0 _ (.agg #[.int .i64 z, .int .i64 hz, .int .i64 mk, .slice va m vc]) rfl (by kernel_rfl) (by kernel_rfl) (by kernel_rfl) (fun _ _ _ h => h) (by kernel_rfl) (.inl ⟨rfl, fun w' hS' => by obtain ⟨s0, s1, s2, s3⟩ := hS'; go_simp⟩) hS0 ?_
          refine wpW_take 1 _ (.pointer (some ⟨B, 2, none⟩)) rfl (by kernel_rfl) (by kernel_rfl) (by kernel_rfl) (fun _ _ _ h => h) (by kernel_rfl) (.inl ⟨rfl, fun w' hS' => by obtain ⟨s0, s1, s2, s3⟩ := hS'; go_simp⟩) hS0 ?_
          refine wpW_take 2 _ (.int .i64 mk) rfl (by kernel_rfl) (by kernel_rfl) (by kernel_rfl) (fun _ _ _ h => h) (by kernel_rfl) (.inl ⟨rfl, fun w' hS' => by obtain ⟨s0, s1, s2, s3⟩ := hS'; go_simp⟩) hS0 ?_
          refine wpW_take 3 _ (.pointer (some ⟨CB, 0, none⟩)) rfl (by kernel_rfl) (by kernel_rfl) (by kernel_rfl) (fun _ _ _ h => h) (by kernel_rfl) (.inl ⟨rfl, fun w' hS' => by obtain ⟨s0, s1, s2, s3⟩ := hS'; go_simp⟩) hS0 ?_
          simp only [Act.put, List.getElem_toArray, List.getElem_cons_succ, List.getElem_cons_zero, List.setIfInBounds_toArray, List.set_cons_zero, List.set_cons_succ]
          refine wpW_one 4 _ rfl (by kernel_rfl) (step_cK rfl 54 53 _ _ (.int .i64 20) rfl _ (by simp [Act.eval, Act.put]) cf_pick (pick_s 20 (by omega) Hd.cs.self (by omega)) ?_)
          rintro e u1 ⟨px, rfl, _, _, K1⟩
          refine ⟨_, rfl, ?_⟩
          have H1 := Hd.draw K1
          have XH1 := XHd.grown K1.gr (by intro e; injection e with e; have := Hd.cs.lt; have := Hd.hR; have := Hd.hB; omega)
          have XF1 := fz_grown XFd XHd.lt K1.gr (by intro e; injection e with e; have := Hd.cs.lt; have := Hd.hR; have := Hd.hB; omega)
          clear Hd XHd XFd K1
          have hS1 : (fun w' : World => w'.cell? ⟨B, 0, none⟩ = some (.int .i64 z) ∧ w'.cell? ⟨B, 1, none⟩ = some (.int .i64 hz) ∧ w'.cell? ⟨B, 2, none⟩ = some (.int .i64 mk) ∧ w'.cell? ⟨B, 3, none⟩ = some (.slice va m vc)) u1 := ⟨H1.b.c0, H1.b.c1, H1.b.c2, H1.b.c3⟩
          refine ⟨fun _ => hS1, ?_⟩
          simp only [Act.put, List.getElem_toArray, List.getElem_cons_succ, List.getElem_cons_zero, List.setIfInBounds_toArray, List.set_cons_zero, List.set_cons_succ]
          refine wpW_take 5 _ (.int .i64 (IntKind.i64.wrap (mk + px))) rfl (by kernel_rfl) (by kernel_rfl) (by kernel_rfl) (fun _ _ _ h => h) (by kernel_rfl) (.inl ⟨rfl, fun w' hS' => by obtain ⟨s0, s1, s2, s3⟩ := hS'; go_simp⟩) hS1 ?_
          obtain ⟨z', h', mk', m', c, Okb, hRM⟩ := rm_spec z hz mk (IntKind.i64.wrap (mk + px)) m X H1.ok
          simp only [Act.put, List.getElem_toArray, List.getElem_cons_succ, List.getElem_cons_zero, List.setIfInBounds_toArray, List.set_cons_zero, List.set_cons_succ]
          refine wpW_one 6 _ rfl (by kernel_rfl) (step_c2 rfl 51 56 54 _ _ rfl _ _ (by simp [Act.eval, Act.put]) (by simp [Act.eval, Act.put]) cf_sRm (hRM va vc u1 H1.row) ?_)
          rintro e u ⟨v', rfl, BA', qu⟩
          obtain ⟨va', vc', rfl⟩ := BA'.form
          refine ⟨_, rfl, ?_⟩
          have H1u := H1.keep qu
          have hSu : (fun w' : World => w'.cell? ⟨B, 0, none⟩ = some (.int .i64 z) ∧ w'.cell? ⟨B, 1, none⟩ = some (.int .i64 hz) ∧ w'.cell? ⟨B, 2, none⟩ = some (.int .i64 mk) ∧ w'.cell? ⟨B, 3, none⟩ = some (.slice va m vc)) u := ⟨H1u.b.c0, H1u.b.c1, H1u.b.c2, H1u.b.c3⟩
          refine ⟨fun _ => hSu, ?_⟩
          simp only [Act.put, List.getElem_toArray, List.getElem_cons_succ, List.getElem_cons_zero, List.setIfInBounds_toArray, List.set_cons_zero, List.set_cons_succ]
          refine wpW_take 7 _ (.tuple #[.agg #[.int .i64 z', .int .i64 h', .int .i64 mk', .slice va' m' vc'], .int .i64 c]) rfl (by kernel_rfl) (by kernel_rfl) (by kernel_rfl) (fun _ _ _ h => h) (by kernel_rfl) (.inl ⟨rfl, fun w' hS' => by obtain ⟨s0, s1, s2, s3⟩ := hS'; go_simp⟩) hSu ?_
          refine wpW_take 8 _ (.agg #[.int .i64 z', .int .i64 h', .int .i64 mk', .slice va' m' vc']) rfl (by kernel_rfl) (by kernel_rfl) (by kernel_rfl) (fun _ _ _ h => h) (by kernel_rfl) (.inl ⟨rfl, fun w' hS' => by obtain ⟨s0, s1, s2, s3⟩ := hS'; go_simp⟩) hSu ?_
          refine wpW_take 9 _ (.int .i64 c) rfl (by kernel_rfl) (by kernel_rfl) (by kernel_rfl) (fun _ _ _ h => h) (by kernel_rfl) (.inl ⟨rfl, fun w' hS' => by obtain ⟨s0, s1, s2, s3⟩ := hS'; go_simp⟩) hSu ?_
          simp only [Act.put, List.getElem_toArray, List.getElem_cons_succ, List.getElem_cons_zero, List.setIfInBounds_toArray, List.set_cons_zero, List.set_cons_succ]
          have sx1 := XH1.lt
          have su := qu.size
          refine wpW_one 10 _ rfl (by kernel_rfl) (step_stB rfl 6 58 rfl xb _ _ _ _ z' h' mk' va' m' vc' (by simp [Act.eval, Act.put]) (by simp [Act.eval, Act.put]) (XH1.keep qu) (fun j => (qu.frozen (p := ⟨xb, j, none⟩) sx1).trans (XF1 j)) ?_)
          have Hb := (H1.keep qu).oth (setBd_oth u xb z' h' mk' (.slice va' m' vc')) (by omega)
          have Xb := setBd_at (XH1.keep qu) z' h' mk' (.slice va' m' vc')
          have Ab := BA'.same (w' := setBd u xb z' h' mk' (.slice va' m' vc')) (by rw [(setBd_oth u xb z' h' mk' (.slice va' m' vc')).size]; exact Nat.le_refl _) (fun c h1 h2 => (setBd_oth u xb z' h' mk' (.slice va' m' vc')).block c (by omega))
          have hSb : (fun w' : World => w'.cell? ⟨B, 0, none⟩ = some (.int .i64 z) ∧ w'.cell? ⟨B, 1, none⟩ = some (.int .i64 hz) ∧ w'.cell? ⟨B, 2, none⟩ = some (.int .i64 mk) ∧ w'.cell? ⟨B, 3, none⟩ = some (.slice va m vc)) (setBd u xb z' h' mk' (.slice va' m' vc')) := ⟨Hb.b.c0, Hb.b.c1, Hb.b.c2, Hb.b.c3⟩
          refine ⟨fun _ => hSb, ?_⟩
          generalize setBd u xb z' h' mk' (.slice va' m' vc') = u5 at Hb Xb Ab hSb ⊢
          simp only [Act.put, List.getElem_toArray, List.getElem_cons_succ, List.getElem_cons_zero, List.setIfInBounds_toArray, List.set_cons_zero, List.set_cons_succ]
          refine wpW_one 11 _ rfl (by kernel_rfl) (step_asI rfl 59 rfl c (by simp [Act.eval, Act.put]) ?_)
          refine ⟨fun _ => hSb, ?_⟩
          refine wpW_done (by kernel_rfl) ?_
          simp only [Act.put, List.getElem_toArray, List.getElem_cons_succ, List.getElem_cons_zero, List.setIfInBounds_toArray, List.set_cons_zero, List.set_cons_succ]
          have hlo : B + 1 ≤ u1.heap.size := by have := H1.b.lt; omega
          obtain ⟨X', hX'⟩ : ∃ X', X' = X := ⟨_, rfl⟩
          rw [← hX'] at Ab Okb
          clear hS0 hS1 hSu hSb H1 H1u XH1 XF1 hRM BA' qu hX'
          by_cases hc : c = 0
          · subst hc
            obtain ⟨_, x0, x1, x2, x3⟩ := id Xb
            obtain ⟨_, c0, c1, c2, c3⟩ := id Hb.b
            have cf := Hb.bf
            have HN : BW w (setBd u5 B z' h' mk' (.slice va' m' vc')) CB ao n cap f (A + 100 + 40 * (k + 1)) w.heap.size B u.heap.size z' h' mk' va' m' vc' X' := (Hb.put Ab hlo Okb).mono (by omega)
            clear Hb Ab Xb
            go_wp2
            go_roundw
            case rel => exact ⟨k + 1, by omega, by go_num, _, _, _, _, _, _, _, _, HN⟩
            case measure => simp [intOf]; omega
          · have hcb : (c == 0) = false := beq_eq_false_iff_ne.2 hc
            have HN := Hb.mono (A' := A + 100 + 40 * (k + 1)) (by omega)
            clear Hb Ab Xb
            go_wp2
            go_roundw
            case rel => exact ⟨k + 1, by omega, by go_num, _, _, _, _, _, _, _, _, HN⟩
            case measure => simp [intOf]; omega
        have n0 : (p == 0) = false := beq_eq_false_iff_ne.2 e0
        by_cases e1 : p = 1
        · skip
          subst e1
          obtain ⟨_, c0, c1, c2, c3⟩ := id H2.b
          obtain ⟨z', h', mk', m', X', mT, TT, c, TO, hTD, _⟩ := td_out z hz mk m X H2.ok.few H2.ok.bd H2.ok.fb H2.ok.sz
          have Okb : WOk m' X' := ⟨TO.n1, TO.b1, TO.f1, TO.z1⟩
          have hrow := H2.row
          go_wp2_with fail
          refine (hTD va vc w2 hrow).mono ?_
          rintro e u ⟨v', tv, s, rfl, hs, BA', TA', qu⟩
          obtain ⟨va', vc', rfl⟩ := BA'.form
          obtain ⟨ta, tc, rfl⟩ := TA'.form
          have sx1 := XH2.lt
          have su := qu.size
          have Hb := (H2.keep qu).oth (setBd_oth u xb z' h' mk' (.slice va' m' vc')) (by omega)
          have Xb := setBd_at (XH2.keep qu) z' h' mk' (.slice va' m' vc')
          have Ab := BA'.same (w' := setBd u xb z' h' mk' (.slice va' m' vc')) (by rw [(setBd_oth u xb z' h' mk' (.slice va' m' vc')).size]; exact Nat.le_refl _) (fun c h1 h2 => (setBd_oth u xb z' h' mk' (.slice va' m' vc')).block c (by omega))
          have hlo : B + 1 ≤ w2.heap.size := by have := H2.b.lt; omega
          have hBx : ¬ B = xb := by omega
          have hxB : ¬ xb = B := by omega
          obtain ⟨_, x0, x1, x2, x3⟩ := XH2.keep qu
          have xf : ∀ j, u.frozen? ⟨xb, j, none⟩ = false := fun j => (qu.frozen (p := ⟨xb, j, none⟩) sx1).trans (XF2 j)
          obtain ⟨_, b0, b1, b2, b3⟩ := (H2.keep qu).b
          have bf := (H2.keep qu).bf
          clear hTD BA' TA' H2 XH2 XF2 hrow c0 c1 c2 c3 TO
          by_cases hc : c = 0
          · subst hc
            have HN : BW w (setBd (setBd u xb z' h' mk' (.slice va' m' vc')) B z' h' mk' (.slice va' m' vc')) CB ao n cap f (A + 100 + 40 * (k + 1)) w.heap.size B s z' h' mk' va' m' vc' X' := (Hb.put Ab hlo Okb).mono (by omega)
            clear Hb Ab Xb
            go_wp2
            go_roundw
            case rel => exact ⟨k + 1, by omega, by go_num, _, _, _, _, _, _, _, _, HN⟩
            case measure => simp [intOf]; omega
          · have hcb : (c == 0) = false := beq_eq_false_iff_ne.2 hc
            have HN : BW w (setBd u xb z' h' mk' (.slice va' m' vc')) CB ao n cap f (A + 100 + 40 * (k + 1)) w.heap.size B top z hz mk va m vc X := Hb.mono (by omega)
            clear Hb Ab Xb
            go_wp2
            go_roundw
            case rel => exact ⟨k + 1, by omega, by go_num, _, _, _, _, _, _, _, _, HN⟩
            case measure => simp [intOf]; omega
        have n1 : (p == 1) = false := beq_eq_false_iff_ne.2 e1
        have hBl := H2.b.lt
        go_wp2_with fail
        refine (event_s H2.cs.self (by omega)).mono ?_
        rintro e w3 ⟨km, ka, kc, T, st, t, v, rfl, hT, hm, hl, hts, K3⟩
        have hCx : CB ≠ xb := by have := H2.cs.lt; have := H2.hR; have := H2.hB; omega
        have H3 := H2.draw K3
        have XH3 := XH2.grown K3.gr (by intro e; injection e with e; omega)
        have XF3 := fz_grown XF2 XH2.lt K3.gr (by intro e; injection e with e; omega)
        have bK := below_new w3 (.cells #[.string km, .slice ka T.length kc, .int .i64 st] 32)
        have H4 := H3.keep bK
        have XH4 := XH3.keep bK
        have XF4 : ∀ j, (w3.alloc (.cells #[.string km, .slice ka T.length kc, .int .i64 st] 32)).frozen? ⟨xb, j, none⟩ = false := fun j => (bK.frozen (p := ⟨xb, j, none⟩) XH3.lt).trans (XF3 j)
        have KB := KAt.new w3 km (.slice ka T.length kc) st 32
        have TR := (TgL.row (show TgL (w3.alloc (.cells #[.string km, .slice ka T.length kc, .int .i64 st] 32)) w2.heap.size (.slice ka T.length kc) T from ownsRow_keep hT bK)).2
        have KZ : Hid (KSz ⟨km, T.length, nmL T, vlL T, st, 0, 0, 0, 0, 0, fun _ => 0, false, 0, false⟩) := ⟨by show km.size ≤ 1048576; omega, by show T.length ≤ 1048576; omega, tsz_w hts (by omega)⟩
        clear H2 H3 XH2 XH3 XF2 XF3 K3 bK hT hm hl hts
        obtain ⟨_, b0, b1, b2, b3⟩ := id H4.b
        obtain ⟨_, k0, k1, k2⟩ := id KB
        go_wp2_with fail
        generalize w3.alloc (.cells #[.string km, .slice ka T.length kc, .int .i64 st] 32) = w4 at H4 XH4 XF4 TR KB ⊢
        generalize wrap64 (t + (k : Int) / 8) = tt
        clear b0 b1 b2 b3 k0 k1 k2 KB
        obtain ⟨z', h', mk', m', X', c, Okb, hAE, _⟩ := ae_out z hz mk tt v m X ⟨km, T.length, nmL T, vlL T, st, 0, 0, 0, 0, 0, fun _ => 0, false, 0, false⟩ KZ.out H4.ok.few H4.ok.bd H4.ok.fb H4.ok.sz
        refine (hAE va ka vc kc w4 H4.row TR).mono ?_
        rintro e u ⟨v', rfl, BA', qu⟩
        obtain ⟨va', vc', rfl⟩ := BA'.form
        have sx1 := XH4.lt
        have su := qu.size
        have Hb := (H4.keep qu).oth (setBd_oth u xb z' h' mk' (.slice va' m' vc')) (by omega)
        have Ab := BA'.same (w' := setBd u xb z' h' mk' (.slice va' m' vc')) (by rw [(setBd_oth u xb z' h' mk' (.slice va' m' vc')).size]; exact Nat.le_refl _) (fun c h1 h2 => (setBd_oth u xb z' h' mk' (.slice va' m' vc')).block c (by omega))
        have hlo : B + 1 ≤ w4.heap.size := by have := H4.b.lt; omega
        have hBx : ¬ B = xb := by omega
        have hxB : ¬ xb = B := by omega
        obtain ⟨_, x0, x1, x2, x3⟩ := XH4.keep qu
        have xf : ∀ j, u.frozen? ⟨xb, j, none⟩ = false := fun j => (qu.frozen (p := ⟨xb, j, none⟩) sx1).trans (XF4 j)
        obtain ⟨_, b0, b1, b2, b3⟩ := (H4.keep qu).b
        have bf := (H4.keep qu).bf
        clear hAE BA' H4 XH4 XF4 TR
        by_cases hc : c = 0
        · subst hc
          have HN : BW w (setBd (setBd u xb z' h' mk' (.slice va' m' vc')) B z' h' mk' (.slice va' m' vc')) CB ao n cap f (A + 100 + 40 * (k + 1)) w.heap.size B u.heap.size z' h' mk' va' m' vc' X' := (Hb.put Ab hlo Okb).mono (by omega)
          clear Hb Ab
          go_wp2
          go_roundw
          case rel => exact ⟨k + 1, by omega, by go_num, _, _, _, _, _, _, _, _, HN⟩
          case measure => simp [intOf]; omega
        · have hcb : (c == 0) = false := beq_eq_false_iff_ne.2 hc
          have HN : BW w (setBd u xb z' h' mk' (.slice va' m' vc')) CB ao n cap f (A + 100 + 40 * (k + 1)) w.heap.size B top z hz mk va m vc X := Hb.mono (by omega)
          clear Hb Ab
          go_wp2
          go_roundw
          case rel => exact ⟨k + 1, by omega, by go_num, _, _, _, _, _, _, _, _, HN⟩
          case measure => simp [intOf]; omega
      · skip
        -- the loop is over
        go_wp2_with fail
        refine (pick_s 40 (by omega) H.cs.self (by omega)).mono ?_
        rintro e w1 ⟨p, rfl, p0, p40, K1⟩
        have H1 := H.draw K1
        clear H K1
        by_cases e0 : p = 0
        · subst e0
          have bL := below_new w1 (.cells #[.int .i64 0, .int .i64 3, .int .i64 100000, .int .i64 100001] 3)
          have LL : LiAt (w1.alloc (.cells #[.int .i64 0, .int .i64 3, .int .i64 100000, .int .i64 100001] 3)) w1.heap.size [0, 3, 100000, 100001] := LiAt.new w1 [0, 3, 100000, 100001] 3
          have hlw := H1.cs.ltw
          have H1L := H1.keep bL
          clear H1 bL
          go_wp2_with fail
          refine (among_s [0, 3, 100000, 100001] (by decide) w1.heap.size LL (by omega) H1L.cs.self (by omega)).mono ?_
          rintro e w2 ⟨zz, zzm, rfl, K2⟩
          have H2 := H1L.draw K2
          clear H1L K2 LL
          have H3 := H2.set0 zz
          obtain ⟨_, c0, c1, c2, c3⟩ := id H2.b
          have cf := H2.bf
          obtain ⟨_, r0, r1, r2, r3⟩ := id H3.r
          have rf := H3.rf
          have hRB := H3.hB
          obtain ⟨_, q0, q1, q2, q3⟩ := id H3.b
          go_wp2
          have ho := setBd_oth (w2.setCell ⟨B, 0, none⟩ (.int .i64 zz)) w.heap.size zz hz mk (.slice va m vc)
          refine bodyPost_ret (v := .agg #[.int .i64 zz, .int .i64 hz, .int .i64 mk, .slice va m vc]) (by simp [results, Try.results27, go_sem, r0, r1, r2, r3]) rfl ⟨zz, hz, mk, va, m, vc, X, rfl, ?_, H3.ok, ?_⟩
          · have hb := (H3.ba.same (w' := setBd (w2.setCell ⟨B, 0, none⟩ (.int .i64 zz)) w.heap.size zz hz mk (.slice va m vc)) (by rw [ho.size]; exact Nat.le_refl _) (fun c h1 h2 => ho.block c (by omega)))
            exact hb.mono (by omega) hb.1 (Nat.le_refl _)
          · exact (H3.cs.others ho (Nat.le_refl _)).mono (by omega)
        have n0 : (p == 0) = false := beq_eq_false_iff_ne.2 e0
        by_cases e1 : p = 1
        · subst e1
          have bL := below_new w1 (.cells #[.int .i64 (-1), .int .i64 1000000000, .int .i64 1000000001] 3)
          have LL : LiAt (w1.alloc (.cells #[.int .i64 (-1), .int .i64 1000000000, .int .i64 1000000001] 3)) w1.heap.size [-1, 1000000000, 1000000001] := LiAt.new w1 [-1, 1000000000, 1000000001] 3
          have hlw := H1.cs.ltw
          have H1L := H1.keep bL
          clear H1 bL
          go_wp2_with fail
          refine (among_s [-1, 1000000000, 1000000001] (by decide) w1.heap.size LL (by omega) H1L.cs.self (by omega)).mono ?_
          rintro e w2 ⟨mm, mmm, rfl, K2⟩
          have H2 := H1L.draw K2
          clear H1L K2 LL
          have H3 := H2.set2 mm
          obtain ⟨_, c0, c1, c2, c3⟩ := id H2.b
          have cf := H2.bf
          obtain ⟨_, r0, r1, r2, r3⟩ := id H3.r
          have rf := H3.rf
          have hRB := H3.hB
          obtain ⟨_, q0, q1, q2, q3⟩ := id H3.b
          go_wp2
          have ho := setBd_oth (w2.setCell ⟨B, 2, none⟩ (.int .i64 mm)) w.heap.size z hz mm (.slice va m vc)
          refine bodyPost_ret (v := .agg #[.int .i64 z, .int .i64 hz, .int .i64 mm, .slice va m vc]) (by simp [results, Try.results27, go_sem, r0, r1, r2, r3]) rfl ⟨z, hz, mm, va, m, vc, X, rfl, ?_, H3.ok, ?_⟩
          · have hb := (H3.ba.same (w' := setBd (w2.setCell ⟨B, 2, none⟩ (.int .i64 mm)) w.heap.size z hz mm (.slice va m vc)) (by rw [ho.size]; exact Nat.le_refl _) (fun c h1 h2 => ho.block c (by omega)))
            exact hb.mono (by omega) hb.1 (Nat.le_refl _)
          · exact (H3.cs.others ho (Nat.le_refl _)).mono (by omega)
        have n1 : (p == 1) = false := beq_eq_false_iff_ne.2 e1
        by_cases e2 : p = 2
        · subst e2
          by_cases hm : 0 < m
          · obtain ⟨gv, capv, _, _, _, _, _, ev, _⟩ := H1.ba.2.resolve_left (fun hh => by omega)
            have eva := slice_form ev
            subst eva
            clear ev
            obtain ⟨_, c0, c1, c2, c3⟩ := id H1.b
            have hmi : (0 : Int) < (m : Int) := by omega
            go_wp2
            have Hd := H1.keep (Below.refl _ w1).drew
            clear H1 c0 c1 c2 c3
            obtain ⟨u0, hu0⟩ : ∃ u, u = w1.drew := ⟨_, rfl⟩
            rw [← hu0] at Hd
            refine wp_region_w (fun w' : World => w'.cell? ⟨B, 3, none⟩ = some (.slice (some ⟨gv, 0, none⟩) m vc)) (fun j => j != 7) (by kernel_rfl) ?_
            change wpW _ _ _ _ _ _ 8 _ _ w1.drew
            rw [← hu0]
            clear hu0
            have hS0 : (fun w' : World => w'.cell? ⟨B, 3, none⟩ = some (.slice (some ⟨gv, 0, none⟩) m vc)) u0 := Hd.b.c3
            refine wpW_take 0 _ (.pointer (some ⟨B, 3, none⟩)) rfl (by kernel_rfl) (by kernel_rfl) (by kernel_rfl) (fun _ _ _ h => h) (by kernel_rfl) (.inl ⟨rfl, fun w' hS' => by have s0 := hS'; go_simp⟩) hS0 ?_
            refine wpW_take 1 _ (.slice (some ⟨gv, 0, none⟩) m vc) rfl (by kernel_rfl) (by kernel_rfl) (by kernel_rfl) (fun _ _ _ h => h) (by kernel_rfl) (.inl ⟨rfl, fun w' hS' => by have s0 := hS'; go_simp⟩) hS0 ?_
            refine wpW_take 2 _ (.pointer (some ⟨CB, 0, none⟩)) rfl (by kernel_rfl) (by kernel_rfl) (by kernel_rfl) (fun _ _ _ h => h) (by kernel_rfl) (.inl ⟨rfl, fun w' hS' => by have s0 := hS'; go_simp⟩) hS0 ?_
            simp only [Act.put, List.getElem_toArray, List.getElem_cons_succ, List.getElem_cons_zero, List.setIfInBounds_toArray, List.set_cons_zero, List.set_cons_succ]
            have bI := below_new u0 (.cells #[.int .i64 0, .int .i64 1000000, .int .i64 1000001] 3)
            have LI := LiAt.new u0 [0, 1000000, 1000001] 3
            have hlw := Hd.cs.ltw
            refine wpW_one 3 _ rfl (by kernel_rfl) (step_bI3 rfl 0 1000000 1000001 rfl ?_)
            have H1 := Hd.keep bI
            refine ⟨fun _ => H1.b.c3, ?_⟩
            clear Hd
            change wpW _ _ _ _ _ _ _ _ _ (u0.alloc (.cells ([0, 1000000, 1000001].map (Value.int .i64)).toArray 3))
            change BW w (u0.alloc (.cells ([0, 1000000, 1000001].map (Value.int .i64)).toArray 3)) CB ao n cap f _ _ _ _ _ _ _ _ _ _ _ at H1
            generalize u0.alloc (.cells ([0, 1000000, 1000001].map (Value.int .i64)).toArray 3) = u1 at H1 LI ⊢
            simp only [Act.put, List.getElem_toArray, List.getElem_cons_succ, List.getElem_cons_zero, List.setIfInBounds_toArray, List.set_cons_zero, List.set_cons_succ]
            refine wpW_one 4 _ rfl (by kernel_rfl) (step_c2 rfl 93 94 52 _ _ rfl _ _ (by simp [Act.eval, Act.put]) (by simp [Act.eval, Act.put]) cf_among (among_s [0, 1000000, 1000001] (by decide) u0.heap.size LI (by omega) H1.cs.self (by omega)) ?_)
            rintro e u2 ⟨vx, vm, rfl, K2⟩
            refine ⟨_, rfl, ?_⟩
            have H2 := H1.draw K2
            clear H1 K2 LI
            refine ⟨fun _ => H2.b.c3, ?_⟩
            simp only [Act.put, List.getElem_toArray, List.getElem_cons_succ, List.getElem_cons_zero, List.setIfInBounds_toArray, List.set_cons_zero, List.set_cons_succ]
            refine wpW_one 5 _ rfl (by kernel_rfl) (step_idx0 rfl 92 rfl gv m vc (by simp [Act.eval, Act.put]) hm ?_)
            refine ⟨fun _ => H2.b.c3, ?_⟩
            simp only [Act.put, List.getElem_toArray, List.getElem_cons_succ, List.getElem_cons_zero, List.setIfInBounds_toArray, List.set_cons_zero, List.set_cons_succ]
            refine wpW_one 6 _ rfl (by kernel_rfl) (step_fVer rfl 96 rfl gv 0 (by simp [Act.eval, Act.put]) ?_)
            refine ⟨fun _ => H2.b.c3, ?_⟩
            simp only [Act.put, List.getElem_toArray, List.getElem_cons_succ, List.getElem_cons_zero, List.setIfInBounds_toArray, List.set_cons_zero, List.set_cons_succ]
            obtain ⟨⟨uo, hc9⟩, hf9, hg1, hg2, hA9⟩ := H2.ba.ver hm vx
            refine wpW_one 7 _ rfl (by kernel_rfl) (step_stI rfl 97 95 rfl gv 9 vx _ (by simp [Act.eval, Act.put]) (by simp [Act.eval, Act.put]) hc9 hf9 ?_)
            refine ⟨fun h => absurd h (by decide), ?_⟩
            refine wpW_done (by kernel_rfl) ?_
            simp only [Act.put, List.getElem_toArray, List.getElem_cons_succ, List.getElem_cons_zero, List.setIfInBounds_toArray, List.set_cons_zero, List.set_cons_succ]
            have hvx : 0 ≤ vx ∧ vx ≤ 2000000 := by simp at vm; omega
            have ho := Others.setCell u2 gv 9 (.int .i64 vx)
            have hRB := H2.hB
            have H3 : BW w (u2.setCell ⟨gv, 9, none⟩ (.int .i64 vx)) CB ao n cap f _ w.heap.size B top z hz mk (some ⟨gv, 0, none⟩) m vc (upWi X 0 ((X 0).w_ver vx)) := ⟨H2.cs.others ho (by have := H2.hR; omega), H2.b.others ho (by omega), fz_oth H2.bf ho (by omega), H2.r.others ho (by omega), fz_oth H2.rf ho (by omega), hA9, H2.ok.ver vx hvx, H2.hR, H2.hB⟩
            generalize u2.setCell ⟨gv, 9, none⟩ (.int .i64 vx) = u3 at H3 ⊢
            clear H2 hA9 ho hc9 hf9
            obtain ⟨_, c0, c1, c2, c3⟩ := id H3.b
            obtain ⟨_, r0, r1, r2, r3⟩ := id H3.r
            have rf := H3.rf
            have hRB := H3.hB
            have hF := H3
            clear H3
            go_wp2
            refine bodyPost_ret (v := .agg #[.int .i64 z, .int .i64 hz, .int .i64 mk, .slice (some ⟨gv, 0, none⟩) m vc]) (by simp [results, Try.results27, go_sem, r0, r1, r2, r3]) rfl ⟨z, hz, mk, (some ⟨gv, 0, none⟩), m, vc, (upWi X 0 ((X 0).w_ver vx)), rfl, ?_, hF.ok, ?_⟩
            · have ho := setBd_oth u3 w.heap.size z hz mk (.slice (some ⟨gv, 0, none⟩) m vc)
              have hb := (hF.ba.same (w' := setBd u3 w.heap.size z hz mk (.slice (some ⟨gv, 0, none⟩) m vc)) (by rw [ho.size]; exact Nat.le_refl _) (fun c h1 h2 => ho.block c (by omega)))
              exact hb.mono (by omega) hb.1 (Nat.le_refl _)
            · exact (hF.cs.others (setBd_oth u3 w.heap.size z hz mk (.slice (some ⟨gv, 0, none⟩) m vc)) (Nat.le_refl _)).mono (by omega)
          · obtain rfl : m = 0 := by omega
            obtain ⟨_, c0, c1, c2, c3⟩ := id H1.b
            obtain ⟨_, r0, r1, r2, r3⟩ := id H1.r
            have rf := H1.rf
            have hRB := H1.hB
            have hF := H1
            clear H1
            go_wp2
            refine bodyPost_ret (v := .agg #[.int .i64 z, .int .i64 hz, .int .i64 mk, .slice va 0 vc]) (by simp [results, Try.results27, go_sem, r0, r1, r2, r3]) rfl ⟨z, hz, mk, va, 0, vc, X, rfl, ?_, hF.ok, ?_⟩
            · have ho := setBd_oth w1 w.heap.size z hz mk (.slice va 0 vc)
              have hb := (hF.ba.same (w' := setBd w1 w.heap.size z hz mk (.slice va 0 vc)) (by rw [ho.size]; exact Nat.le_refl _) (fun c h1 h2 => ho.block c (by omega)))
              exact hb.mono (by omega) hb.1 (Nat.le_refl _)
            · exact (hF.cs.others (setBd_oth w1 w.heap.size z hz mk (.slice va 0 vc)) (Nat.le_refl _)).mono (by omega)
        have n2 : (p == 2) = false := beq_eq_false_iff_ne.2 e2
        obtain ⟨_, c0, c1, c2, c3⟩ := id H1.b
        obtain ⟨_, r0, r1, r2, r3⟩ := id H1.r
        have rf := H1.rf
        have hRB := H1.hB
        have hF := H1
        clear H1
        go_wp2
        refine bodyPost_ret (v := .agg #[.int .i64 z, .int .i64 hz, .int .i64 mk, .slice va m vc]) (by simp [results, Try.results27, go_sem, r0, r1, r2, r3]) rfl ⟨z, hz, mk, va, m, vc, X, rfl, ?_, hF.ok, ?_⟩
        · have ho := setBd_oth w1 w.heap.size z hz mk (.slice va m vc)
          have hb := (hF.ba.same (w' := setBd w1 w.heap.size z hz mk (.slice va m vc)) (by rw [ho.size]; exact Nat.le_refl _) (fun c h1 h2 => ho.block c (by omega)))
          exact hb.mono (by omega) hb.1 (Nat.le_refl _)
        · exact (hF.cs.others (setBd_oth w1 w.heap.size z hz mk (.slice va m vc)) (Nat.le_refl _)).mono (by omega)
end Go.Proofs.Ytpggmgmdcccmeaa
