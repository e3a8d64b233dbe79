/- The reader of edits in the program: how many, a text, a meta. -/
import Derived.Test.YtagkhohglpjjlaaBr
import Derived.Test.YtagkhohglpjjlaaGe9
import Derived.Deep.RegionWith
namespace Go.Proofs.Ytagkhohglpjjlaa
open Go.RowKit
set_option linter.unusedSimpArgs false
set_option linter.unusedVariables false

/-- A text at place q, and the place behind it. -/
def pTx (f : Nat → Int) (n q : Nat) : Option (ByteArray × Nat) :=
  match rdNum f n q with
  | none => none
  | some (u, q1) => if q1 + u.toNat ≤ n then some (strOfNums (segL f q1 u.toNat), q1 + u.toNat) else none
/-- A meta at place q. -/
def pMe (f : Nat → Int) (n q : Nat) : Option (Met × Nat) :=
  match rdNum f n q with
  | none => none
  | some (a, q1) => match rdNum f n q1 with
    | none => none
    | some (b, q2) => match pTx f n q2 with
      | none => none
      | some (c, q3) => match pTx f n q3 with
        | none => none
        | some (d, q4) => some (⟨a, c, d, b⟩, q4)
/-- So many at most. -/
def pMn (f : Nat → Int) (n q : Nat) : Option (Nat × Nat) :=
  match rdNum f n q with
  | none => none
  | some (u, q1) => if u ≤ 24 then some (u.toNat, q1) else none

theorem strOf_size (L : List Int) : (strOfNums L).size = L.length := by
  unfold strOfNums
  show ((L.map _).toArray).size = _
  simp

section
variable (f : Nat → Int) (B bb bo n cap q : Nat) (t : Bool)
/-- What is read: a number of things. -/
def MnU (w : World) (e : Ending) (w' : World) : Prop :=
  ∃ (u q' : Nat) (t' : Bool), e = .returned (.int .i64 (u : Int)) ∧ u ≤ 24 ∧ q' ≤ n ∧ BR w' B (some ⟨bb, bo, none⟩) n cap q' t' ∧ Mid B (B + 1) w w' ∧
    ((t' = false ∧ t = false ∧ pMn f n q = some (u, q')) ∨ (t' = true ∧ (t = true ∨ pMn f n q = none)))
def TxU (w : World) (e : Ending) (w' : World) : Prop :=
  ∃ (x : ByteArray) (q' : Nat) (t' : Bool), e = .returned (.string x) ∧ x.size ≤ 1048576 ∧ q' ≤ n ∧ BR w' B (some ⟨bb, bo, none⟩) n cap q' t' ∧ Mid B (B + 1) w w' ∧
    ((t' = false ∧ t = false ∧ pTx f n q = some (x, q')) ∨ (t' = true ∧ (t = true ∨ pTx f n q = none)))
def MeU (w : World) (e : Ending) (w' : World) : Prop :=
  ∃ (x : Met) (q' : Nat) (t' : Bool), e = .returned (.agg #[.int .i64 x.file, .string x.least, .string x.most, .int .i64 x.many]) ∧ MB x ∧ q' ≤ n ∧ BR w' B (some ⟨bb, bo, none⟩) n cap q' t' ∧ Mid B (B + 1) w w' ∧
    ((t' = false ∧ t = false ∧ pMe f n q = some (x, q')) ∨ (t' = true ∧ (t = true ∨ pMe f n q = none)))

set_option maxHeartbeats 1600000 in
theorem many_u (w : World) (hB : BR w B (some ⟨bb, bo, none⟩) n cap q t) (hr : Row w (some ⟨bb, bo, none⟩) n f) (hn : n ≤ 1048576) (hcap : n ≤ cap) (hq : q ≤ n) :
    Calls Try.prog 51 #[.pointer (some ⟨B, 0, none⟩), .int .i64 24] w fun e w' => MnU f B bb bo n cap q t w e w' := by
  have hcall := number_u f B bb bo n cap q t w hB hr hn hcap hq
  have HP : Hid (pMn f n q = match rdNum f n q with
    | none => none
    | some (u, q1) => if u ≤ 24 then some (u.toNat, q1) else none) := rfl
  generalize pMn f n q = PM at HP
  go_enter Try.func51, Try.ntmps51
  go_wp2_with fail
  refine hcall.mono ?_
  rintro e w1 ⟨u, q1, t1, rfl, hu, hq1, B1, M1, D1⟩
  clear hcall
  by_cases h24 : 24 < u
  · have hd : decide ((24 : Int) < (u : Int)) = true := decide_eq_true (by omega)
    have hpn : Hid (pMn f n q = none ∨ t = true ∨ t1 = true) := by
      rcases D1 with ⟨_, _, h⟩ | ⟨h, _⟩
      · left
        unfold pMn
        rw [h]
        simp only
        rw [if_neg (by omega)]
      · exact .inr (.inr h)
    have hB2 := B1.set2 true
    have M2 := M1.trans (Mid.of_others (Others.setCell w1 B 2 (.bool true)) (Nat.le_refl _) (Nat.lt_succ_self _))
    have H : Hid (t = true ∨ pMn f n q = none) := by
      rcases D1 with ⟨_, _, h⟩ | ⟨_, h | h⟩
      · right
        unfold pMn
        rw [h]
        simp only
        rw [if_neg (by omega)]
      · exact .inl h
      · right
        unfold pMn
        rw [h]
    obtain ⟨_, c0, c1, c2, fz⟩ := B1
    have f2 := fz 2
    clear fz D1 HP hpn
    go_wp2
    go_ret
    exact ⟨0, q1, true, rfl, by omega, hq1, hB2, M2, .inr ⟨rfl, H.out⟩⟩
  · have hd : decide ((24 : Int) < (u : Int)) = false := decide_eq_false (by omega)
    have H : Hid ((t1 = false ∧ t = false ∧ pMn f n q = some (u, q1)) ∨ (t1 = true ∧ (t = true ∨ pMn f n q = none))) := by
      rcases D1 with ⟨h1, h2, h⟩ | ⟨h1, h | h⟩
      · left
        refine ⟨h1, h2, ?_⟩
        unfold pMn
        rw [h]
        simp only
        rw [if_pos (by omega)]
        rfl
      · exact .inr ⟨h1, .inl h⟩
      · refine .inr ⟨h1, .inr ?_⟩
        unfold pMn
        rw [h]
    clear D1 HP
    go_wp2
    go_ret
    exact ⟨u, q1, t1, rfl, by omega, hq1, B1, M1, H.out⟩

set_option maxHeartbeats 1600000 in
theorem text_u (w : World) (hB : BR w B (some ⟨bb, bo, none⟩) n cap q t) (hr : Row w (some ⟨bb, bo, none⟩) n f) (hne : bb ≠ B) (hn : n ≤ 1048576) (hcap : n ≤ cap) (hq : q ≤ n) :
    Calls Try.prog 63 #[.pointer (some ⟨B, 0, none⟩)] w fun e w' => TxU f B bb bo n cap q t w e w' := by
  have hcall := number_u f B bb bo n cap q t w.drew (hB.keep (Below.refl _ _).drew) (hr.keep (Below.refl _ _).drew) hn hcap hq
  have hrow : ∀ {W W' : World}, Row W (some ⟨bb, bo, none⟩) n f → Mid B (B + 1) W W' → Row W' (some ⟨bb, bo, none⟩) n f := fun h M => M.row h (fun b o e _ => by injection e with e; injection e with e1 e2; omega)
  have M0 : Mid B (B + 1) w w.drew := Mid.of_below (Below.refl _ w).drew
  go_enter Try.func63, Try.ntmps63
  go_wp2
  go_region_with (first | (go_at_call 27; refine hcall.mono ?_; rintro e w1 ⟨u, q1, t1, rfl, hu, hq1, B1, M1, D1⟩; have r1 := hrow (hr.keep (Below.refl _ w).drew) M1; have N1 := M0.trans M1; clear hcall M1) | (go_at_call 69; refine (take_u f B bb bo n cap q1 t1 u (by omega) w1 B1 r1 hne hn hcap hq1).mono ?_; rintro e w2 ⟨A, k, c, q2, t2, rfl, R2, hq2, B2, M2, D2⟩; have hseg := segL_len f q1 k; have hcv := conv_row w2 A c (segL f q1 k) R2; rw [hseg] at hcv; have N2 := N1.trans M2; clear M2 r1 B1))
  have hsz : (strOfNums (segL f q1 k)).size ≤ 1048576 := by
    rw [strOf_size, hseg]
    rcases D2 with ⟨_, _, h1, h2, _⟩ | ⟨_, h, _⟩ <;> omega
  have H : Hid ((t2 = false ∧ t = false ∧ pTx f n q = some (strOfNums (segL f q1 k), q2)) ∨ (t2 = true ∧ (t = true ∨ pTx f n q = none))) := by
    rcases D2 with ⟨h1, h2, h3, rfl, rfl⟩ | ⟨h1, _, h3⟩
    · rcases D1 with ⟨g1, g2, g3⟩ | ⟨g1, _⟩
      · left
        refine ⟨h1, g2, ?_⟩
        unfold pTx
        rw [g3]
        simp only [Int.toNat_natCast]
        rw [if_pos h3]
      · rw [g1] at h2; cases h2
    · refine .inr ⟨h1, ?_⟩
      rcases D1 with ⟨g1, g2, g3⟩ | ⟨g1, g2 | g2⟩
      · rcases h3 with h3 | h3
        · rw [g1] at h3; cases h3
        · right
          unfold pTx
          rw [g3]
          simp only [Int.toNat_natCast]
          rw [if_neg h3]
      · exact .inl g2
      · right
        unfold pTx
        rw [g2]
  clear D1 D2 hcv hseg R2
  go_wp2
  go_ret
  exact ⟨_, q2, t2, rfl, hsz, hq2, B2, N2, H.out⟩

set_option maxRecDepth 10000 in
set_option maxHeartbeats 3200000 in
theorem meta_u (w : World) (hB : BR w B (some ⟨bb, bo, none⟩) n cap q t) (hr : Row w (some ⟨bb, bo, none⟩) n f) (hbb : bb < w.heap.size) (hne : bb ≠ B) (hn : n ≤ 1048576) (hcap : n ≤ cap) (hq : q ≤ n) :
    Calls Try.prog 52 #[.pointer (some ⟨B, 0, none⟩)] w fun e w' => MeU f B bb bo n cap q t w e w' := by
  have hBl := hB.lt
  have bn0 := below_new w (.cells #[.int .i64 0, .string ⟨#[]⟩, .string ⟨#[]⟩, .int .i64 0] 52)
  have V0 := MAt.new w ⟨0, ⟨#[]⟩, ⟨#[]⟩, 0⟩ 52
  have F0 : ∀ j, (w.alloc (.cells #[.int .i64 0, .string ⟨#[]⟩, .string ⟨#[]⟩, .int .i64 0] 52)).frozen? ⟨w.heap.size, j, none⟩ = false := fun j => by simp [go_sem]
  have B0 := hB.keep bn0
  have r0 := hr.keep bn0
  have s0 : w.heap.size < (w.alloc (.cells #[.int .i64 0, .string ⟨#[]⟩, .string ⟨#[]⟩, .int .i64 0] 52)).heap.size := by simp
  have N0 : Mid B (B + 1) w (w.alloc (.cells #[.int .i64 0, .string ⟨#[]⟩, .string ⟨#[]⟩, .int .i64 0] 52)) := Mid.of_below bn0
  have hrow : ∀ {W W' : World}, Row W (some ⟨bb, bo, none⟩) n f → Mid B (B + 1) W W' → Row W' (some ⟨bb, bo, none⟩) n f := fun h M => M.row h (fun b o e _ => by injection e with e; injection e with e1 e2; omega)
  have hVm : ∀ {W W' : World} {x : Met}, MAt W w.heap.size 0 x → Mid B (B + 1) W W' → MAt W' w.heap.size 0 x := fun h M => h.move (Nat.lt_of_lt_of_le h.lt M.size) (fun j => M.cell h.lt (by omega))
  have hFm : ∀ {W W' : World}, w.heap.size < W.heap.size → (∀ j, W.frozen? ⟨w.heap.size, j, none⟩ = false) → Mid B (B + 1) W W' → ∀ j, W'.frozen? ⟨w.heap.size, j, none⟩ = false := fun hl h M j => (M.frozen hl (by omega)).trans (h j)
  have tok : True := trivial
  go_enter Try.func52, Try.ntmps52
  go_wp2
  generalize w.alloc (.cells #[.int .i64 0, .string ⟨#[]⟩, .string ⟨#[]⟩, .int .i64 0] 52) = w0 at *
  have MD : Mid B (B + 1) w0 w0.drew := Mid.of_below (Below.refl _ w0).drew
  go_region_with (first | (go_at_call 27; clear tok; refine (number_u f B bb bo n cap q t w0.drew (B0.keep (Below.refl _ _).drew) (r0.keep (Below.refl _ _).drew) hn hcap hq).mono ?_; rintro e w1 ⟨u1, q1, t1, rfl, hu1, hq1, B1, M1, D1⟩; have r1 := hrow (r0.keep (Below.refl _ w0).drew) M1; have L1 := MD.trans M1; clear M1 MD) | (go_at_call 27; refine (number_u f B bb bo n cap q1 t1 w1 B1 r1 hn hcap hq1).mono ?_; rintro e w2 ⟨u2, q2, t2, rfl, hu2, hq2, B2, M2, D2⟩; have r2 := hrow r1 M2; have L2 := L1.trans M2; clear M2 L1 r1 B1))
  have V2 := hVm V0 L2
  have F2 := hFm s0 F0 L2
  have N2 := N0.trans L2
  have s2 := V2.lt
  clear L2 V0 F0 N0 bn0 B0 r0
  go_wp2_with fail
  refine (text_u f B bb bo n cap q2 t2 w2 B2 r2 hne hn hcap hq2).mono ?_
  rintro e w3 ⟨x3, q3, t3, rfl, hx3, hq3, B3, M3, D3⟩
  have r3 := hrow r2 M3
  have V3 := hVm V2 M3
  have F3 := hFm s2 F2 M3
  have N3 := N2.trans M3
  have s3 := V3.lt
  clear M3 V2 F2 N2 B2 r2
  go_wp2_with fail
  refine (text_u f B bb bo n cap q3 t3 w3 B3 r3 hne hn hcap hq3).mono ?_
  rintro e w4 ⟨x4, q4, t4, rfl, hx4, hq4, B4, M4, D4⟩
  have V4 := hVm V3 M4
  have F4 := hFm s3 F3 M4
  have N4 := N3.trans M4
  have H : Hid ((t4 = false ∧ t = false ∧ pMe f n q = some (⟨(u1 : Int), x3, x4, (u2 : Int)⟩, q4)) ∨ (t4 = true ∧ (t = true ∨ pMe f n q = none))) := by
    have key : ∀ g, rdNum f n q = g → (g = none → pMe f n q = none) := fun g hg e => by unfold pMe; rw [hg, e]
    rcases D4 with ⟨a1, a2, a3⟩ | ⟨a1, a2⟩
    · rcases D3 with ⟨b1, b2, b3⟩ | ⟨b1, _⟩
      · rcases D2 with ⟨c1, c2, c3⟩ | ⟨c1, _⟩
        · rcases D1 with ⟨d1, d2, d3⟩ | ⟨d1, _⟩
          · left
            refine ⟨a1, d2, ?_⟩
            unfold pMe
            rw [d3]
            simp only
            rw [c3]
            simp only
            rw [b3]
            simp only
            rw [a3]
          · rw [d1] at c2; cases c2
        · rw [c1] at b2; cases b2
      · rw [b1] at a2; cases a2
    · refine .inr ⟨a1, ?_⟩
      rcases D1 with ⟨d1, d2, d3⟩ | ⟨d1, d2 | d2⟩
      · rcases D2 with ⟨c1, c2, c3⟩ | ⟨c1, c2 | c2⟩
        · rcases D3 with ⟨b1, b2, b3⟩ | ⟨b1, b2 | b2⟩
          · rcases a2 with a2 | a2
            · rw [b1] at a2; cases a2
            · right; unfold pMe; rw [d3]; simp only; rw [c3]; simp only; rw [b3]; simp only; rw [a2]
          · rw [c1] at b2; cases b2
          · right; unfold pMe; rw [d3]; simp only; rw [c3]; simp only; rw [b2]
        · rw [d1] at c2; cases c2
        · right; unfold pMe; rw [d3]; simp only; rw [c2]
      · exact .inl d2
      · right; unfold pMe; rw [d2]
  obtain ⟨_, z0, z1, z2, z3⟩ := id V4
  simp only [Nat.zero_add] at z0 z1 z2 z3
  have f0 := F4 0
  have f1 := F4 1
  have f2 := F4 2
  have f3 := F4 3
  clear D1 D2 D3 D4 F3 M4 V3 N3 B3 r3 hFm hVm hrow F4
  go_wp2
  refine bodyPost_ret (v := .agg #[.int .i64 (u1 : Int), .string x3, .string x4, .int .i64 (u2 : Int)]) (by simp [results, Try.results52, go_sem, z0, z1, z2, z3]) rfl ⟨⟨(u1 : Int), x3, x4, (u2 : Int)⟩, q4, t4, rfl, ⟨⟨by show _ ≤ (u1 : Int); omega, hu1⟩, ⟨by show _ ≤ (u2 : Int); omega, hu2⟩, by show x3.size ≤ _; omega, by show x4.size ≤ _; omega⟩, hq4, ?_, ?_, H.out⟩
  · have hoth : ∀ W, w4.heap.size = W.heap.size → W.heap[B]? = w4.heap[B]? → BR W B (some ⟨bb, bo, none⟩) n cap q4 t4 := fun W hs hb =>
      have c := fun j => World.cell?_of_block (w := w4) (w' := W) (a := ⟨B, j, none⟩) hb
      ⟨by have := B4.lt; omega, (c 0).trans B4.c0, (c 1).trans B4.c1, (c 2).trans B4.c2, fun j => (World.frozen?_of_block (w := w4) (w' := W) (a := ⟨B, j, none⟩) hb).trans (B4.fz j)⟩
    refine hoth _ (by simp) ?_
    repeat' refine (Below.heap_setCell _ _ _ _ (by first | omega | (dsimp only; omega))).trans ?_
    rfl
  · have hmid : ∀ W, W.os = w4.os → W.tape = w4.tape → W.output = w4.output → W.heap.size = w4.heap.size → (∀ c, c < w.heap.size → W.heap[c]? = w4.heap[c]?) → Mid B (B + 1) w W := fun W h1 h2 h3 h4 h5 =>
      ⟨h1.trans N4.os, h2.trans N4.tape, h3.trans N4.output, by rw [h4]; exact N4.size, fun k hk hne => (h5 k hk).trans (N4.block k hk hne)⟩
    refine hmid _ rfl rfl rfl (by simp) fun c hc => ?_
    repeat' refine (Below.heap_setCell _ _ _ _ (by first | omega | (dsimp only; omega))).trans ?_
    rfl
end
end Go.Proofs.Ytagkhohglpjjlaa
