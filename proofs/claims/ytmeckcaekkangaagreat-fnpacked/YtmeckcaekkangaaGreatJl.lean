/- The least front of rows, in the program. -/
import Derived.Test.YtmeckcaekkangaaGreatRr
import Derived.Test.YtmeckcaekkangaaGreatMg
import Derived.BigQuiet
namespace Go.Proofs.YtmeckcaekkangaaGreat
set_option maxRecDepth 100000
open Go.RowKit
set_option linter.unusedSimpArgs false
set_option linter.unusedVariables false

/-- The first n as a list. -/
def lX (X : Nat → Ent) (n : Nat) : List Ent := (List.range n).map X
theorem lX_len (X : Nat → Ent) (n : Nat) : (lX X n).length = n := by simp [lX]
theorem lX_at {X : Nat → Ent} {n i : Nat} (h : i < n) : eL (lX X n) i = X i := by simp [eL, lX, h]
def dR (R : Nat → Nat → Ent) (M : Nat → Nat) : Nat → List Ent := fun i => lX (R i) (M i)
theorem ERow.congr {w : World} {ao : Option Addr} {n : Nat} {X X' : Nat → Ent} (h : ERow w ao n X) (e : ∀ i, i < n → X i = X' i) : ERow w ao n X' :=
  ⟨fun i hi => by rw [← e i hi]; exact h.bd i hi, h.lies.elim .inl fun ⟨b, off, e1, hlt, hc⟩ => .inr ⟨b, off, e1, hlt, fun i hi => by rw [← e i hi]; exact hc i hi⟩⟩
theorem sm_dR (R : Nat → Nat → Ent) (M : Nat → Nat) : ∀ N, sm (dR R M) N ≤ totR R M N
  | 0 => Nat.le_refl _
  | N + 1 => by
    have := sm_dR R M N
    have e : (dR R M N).length = M N := lX_len _ _
    unfold sm totR
    omega
theorem sm_mono {D : Nat → List Ent} : ∀ {N i : Nat}, i ≤ N → sm D i ≤ sm D N
  | 0, i, h => by
    obtain rfl : i = 0 := by omega
    exact Nat.le_refl _
  | N + 1, i, h => by
    rcases Nat.lt_or_ge i (N + 1) with h1 | h1
    · have := sm_mono (D := D) (show i ≤ N by omega)
      exact Nat.le_trans this (Nat.le_add_right _ _)
    · obtain rfl : i = N + 1 := by omega
      exact Nat.le_refl _
theorem sm_le {D : Nat → List Ent} {N i : Nat} (h : i < N) : (D i).length ≤ sm D N := by
  have h1 := sm_mono (D := D) (show i + 1 ≤ N from h)
  have : sm D (i + 1) = sm D i + (D i).length := rfl
  omega

/-- N rows in block b, each of them read. -/
structure LR (w : World) (b off N : Nat) (D : Nat → List Ent) : Prop where
  lt : b < w.heap.size
  row : ∀ i, i < N → ∃ p c, w.cell? ⟨b, off + i, none⟩ = some (.slice p (D i).length c) ∧ (D i).length ≤ c ∧ ERow w p (D i).length (eL (D i))
theorem LR.keep {w w' : World} {b off N : Nat} {D : Nat → List Ent} (h : LR w b off N D) (hb : Below w.heap.size w w') : LR w' b off N D :=
  ⟨Nat.lt_of_lt_of_le h.lt hb.size, fun i hi => by obtain ⟨p, c, h1, h2, h3⟩ := h.row i hi; exact ⟨p, c, (hb.cell (p := ⟨b, off + i, none⟩) h.lt).trans h1, h2, h3.keep hb⟩⟩

set_option maxHeartbeats 1000000 in
theorem fewRows_any (b off N cap : Nat) (D : Nat → List Ent) (w : World) (hr : LR w b off N D) (hN : N ≤ 1048576) (hs : sm D N ≤ 1048576) :
    Calls Tryz.prog 28 #[.slice (some ⟨b, off, none⟩) N cap] w fun e w' => e = .returned (.bool (decide (N ≤ 12 ∧ sm D N ≤ 300))) ∧ w' = w := by
  go_enter Tryz.func28, Tryz.ntmps28
  go_wp2
  go_loopw [3, 8] (fun q i wr => ∃ k : Nat, k ≤ N ∧ i = .int .i64 k ∧ q = .int .i64 (sm D k : Nat) ∧ wr = w) (fun _ i _ => N - (intOf i).toNat)
  case atStart => exact ⟨0, Nat.zero_le _, rfl, rfl, rfl⟩
  case round =>
    obtain ⟨k, hk, rfl, rfl, hw⟩ := hrel
    have hw2 := hw.symm
    clear hw
    subst hw2
    by_cases hlt : k < N
    · obtain ⟨p, c, h1, h2, _⟩ := hr.row k hlt
      have hm := sm_mono (D := D) (show k + 1 ≤ N from hlt)
      have es : sm D (k + 1) = sm D k + (D k).length := rfl
      rw [es] at hm
      have HS : Hid ((sm D k : Int) + ((D k).length : Int) = (sm D (k + 1) : Nat)) := by rw [es]; unfold Hid; omega
      have hwr : IntKind.i64.wrap ((sm D k : Int) + ((D k).length : Int)) = (sm D k : Int) + ((D k).length : Int) := by rw [IntKind.wrap_i64]; omega
      clear es hm
      go_wp2
      go_roundw
      case rel => exact ⟨k + 1, by omega, by go_num, by rw [HS.out], by first | rfl | trivial⟩
      case measure => simp [intOf]; omega
    · obtain rfl : k = N := by omega
      by_cases h12 : k ≤ 12
      · have hd : decide ((k : Int) ≤ 12) = true := by simp; omega
        have e : decide (k ≤ 12 ∧ sm D k ≤ 300) = decide ((sm D k : Int) ≤ 300) := by
          by_cases h3 : sm D k ≤ 300
          · simp [h12, h3]; omega
          · have h4 : ¬ ((sm D k : Int) ≤ 300) := by omega
            simp [h3, h4]
        have HV : Hid _ := e
        clear e
        go_wp2
        go_ret
        exact ⟨by rw [HV.out]; rfl, rfl⟩
      · have hd : decide ((k : Int) ≤ 12) = false := by simp; omega
        have e : decide (k ≤ 12 ∧ sm D k ≤ 300) = false := by simp [h12]
        have HV : Hid _ := e
        clear e
        go_wp2
        go_ret
        exact ⟨by rw [HV.out]; rfl, rfl⟩

/-- What the least front leaves. -/
def LsO (z : Int) (w : World) (e : Ending) (w' : World) : Prop := e = .returned (.int .i64 z) ∧ Below w.heap.size w w'
set_option maxRecDepth 100000 in
set_option maxHeartbeats 4000000 in
theorem least_any (b off N cap : Nat) (D : Nat → List Ent) (w : World) (hr : LR w b off N D) (hN : N ≤ 1048576) :
    Calls Tryz.prog 30 #[.slice (some ⟨b, off, none⟩) N cap] w fun e w' => LsO (lst D N) w e w' := by
  go_enter Tryz.func30, Tryz.ntmps30
  go_wp2
  go_loopw [3, 8] (fun q i wr => ∃ k : Nat, k ≤ N ∧ i = .int .i64 k ∧ q = .int .i64 (lst D k) ∧ Below w.heap.size w wr) (fun _ i _ => N - (intOf i).toNat)
  case atStart => exact ⟨0, Nat.zero_le _, rfl, rfl, Below.refl _ _⟩
  case round =>
    obtain ⟨k, hk, rfl, rfl, hbk⟩ := hrel
    by_cases hlt : k < N
    · obtain ⟨p, c, h1, h2, h3⟩ := hr.row k hlt
      have a0 := (hbk.cell (p := ⟨b, off + k, none⟩) hr.lt).trans h1
      have ek : lst D (k + 1) = if 0 < (D k).length ∧ (lst D k = -1 ∨ cE (eL (D k) 0) (eL (D (lst D k).toNat) 0) < 0) then (k : Int) else lst D k := rfl
      have hud : undef = Value.tuple #[] := rfl
      by_cases h0 : (D k).length = 0
      · have HE : Hid (lst D k = lst D (k + 1)) := by rw [ek, if_neg (by omega)]; rfl
        have hd0 : decide ((0 : Int) < ((D k).length : Int)) = false := decide_eq_false (by omega)
        have hd1 : decide (0 < (D k).length) = false := decide_eq_false (by omega)
        clear ek h3 h1
        generalize lst D k = z at *
        go_wp2
        go_quiet (fail)
        go_wp2
        go_roundw
        case rel => exact ⟨k + 1, by omega, by go_num, by rw [HE.out], below_drewN hbk _⟩
        case measure => simp [intOf]; omega
      have hd0 : decide ((0 : Int) < ((D k).length : Int)) = true := decide_eq_true (by omega)
      have hd1 : decide (0 < (D k).length) = true := decide_eq_true (by omega)
      have hp1 : (0 : Int) < ((D k).length : Int) := by omega
      have hp2 : 0 < (D k).length := by omega
      rcases lst_form D k with hm | ⟨j, hj, hjk, hjl⟩
      · have HE : Hid ((k : Int) = lst D (k + 1)) := by rw [ek, if_pos ⟨hp2, .inl hm⟩]; rfl
        rw [hm]
        clear ek h3 h1 hm
        go_wp2
        go_quiet (fail)
        go_wp2
        go_roundw
        case rel => exact ⟨k + 1, by omega, by go_num, by rw [← HE.out], below_drewN hbk _⟩
        case measure => simp [intOf]; omega
      · obtain ⟨q, d, g1, g2, g3⟩ := hr.row j (by omega)
        have b0 := (hbk.cell (p := ⟨b, off + j, none⟩) hr.lt).trans g1
        obtain ⟨bx, ox, rfl, hbx, hx⟩ := h3.lies.resolve_left h0
        obtain ⟨by', oy, rfl, hby, hy⟩ := g3.lies.resolve_left (by omega)
        obtain ⟨da, dc, ea, _⟩ := hx 0 (by omega)
        obtain ⟨db, ec, eb, _⟩ := hy 0 (by omega)
        rw [Nat.zero_mul, Nat.add_zero] at ea eb
        have ea1 := ea.keep hbk
        obtain ⟨_, a0', a1, a2, a3, a4, a5, a6, a7, a8⟩ := id ea1
        have eb1 := eb.keep hbk
        obtain ⟨_, b0', b1, b2, b3, b4, b5, b6, b7, b8⟩ := id eb1
        have gl : b < wr.heap.size := Nat.lt_of_lt_of_le hr.lt hbk.size
        have hj1 : (0 : Int) < ((D j).length : Int) := by omega
        have hjN : j < N := by omega
        have hji : (j : Int) < (N : Int) := by omega
        have hj0 : (0 : Int) ≤ (j : Int) := by omega
        have hjm : ((j : Int) == -1) = false := by simp
        have hcc : ∀ W, Calls Tryz.prog 42 #[.agg #[.string (eL (D k) 0).key, .int .i64 (eL (D k) 0).seq, .int .i64 (eL (D k) 0).kind, .int .i64 (eL (D k) 0).c, .int .i64 (eL (D k) 0).s, .int .i64 (eL (D k) 0).lo, .int .i64 (eL (D k) 0).hi, .slice da (eL (D k) 0).n dc, .bool (eL (D k) 0).fu], .agg #[.string (eL (D j) 0).key, .int .i64 (eL (D j) 0).seq, .int .i64 (eL (D j) 0).kind, .int .i64 (eL (D j) 0).c, .int .i64 (eL (D j) 0).s, .int .i64 (eL (D j) 0).lo, .int .i64 (eL (D j) 0).hi, .slice db (eL (D j) 0).n ec, .bool (eL (D j) 0).fu]] W fun e w' => e = .returned (.int .i64 (cE (eL (D k) 0) (eL (D j) 0))) ∧ Below W.heap.size W w' := fun W => compareEntries_any (eL (D k) 0) (eL (D j) 0) da db dc ec W
        rw [hj] at ek
        rw [Int.toNat_natCast] at ek
        rw [hj]
        have HE1 : Hid (cE (eL (D k) 0) (eL (D j) 0) < 0 → (k : Int) = lst D (k + 1)) := fun h => by rw [ek, if_pos ⟨hp2, .inr h⟩]
        have HE2 : Hid (¬ cE (eL (D k) 0) (eL (D j) 0) < 0 → (j : Int) = lst D (k + 1)) := fun h => by rw [ek, if_neg (fun hh => hh.2.elim (fun h4 => absurd h4 (by omega)) h)]
        clear ek hx hy ea eb h3 g3 h1 g1 hj hud
        generalize cE (eL (D k) 0) (eL (D j) 0) = z at *
        generalize eL (D k) 0 = x at *
        generalize eL (D j) 0 = y at *
        go_wp2
        go_region_held3 (fun w' => w'.cell? ⟨b, off + k, none⟩ = some (.slice (some ⟨bx, ox, none⟩) (D k).length c) ∧ w'.cell? ⟨b, off + j, none⟩ = some (.slice (some ⟨by', oy, none⟩) (D j).length d) ∧ w'.cell? ⟨bx, ox, none⟩ = some (.string x.key) ∧ w'.cell? ⟨bx, ox + 1, none⟩ = some (.int .i64 x.seq) ∧ w'.cell? ⟨bx, ox + 2, none⟩ = some (.int .i64 x.kind) ∧ w'.cell? ⟨bx, ox + 3, none⟩ = some (.int .i64 x.c) ∧ w'.cell? ⟨bx, ox + 4, none⟩ = some (.int .i64 x.s) ∧ w'.cell? ⟨bx, ox + 5, none⟩ = some (.int .i64 x.lo) ∧ w'.cell? ⟨bx, ox + 6, none⟩ = some (.int .i64 x.hi) ∧ w'.cell? ⟨bx, ox + 7, none⟩ = some (.slice da x.n dc) ∧ w'.cell? ⟨bx, ox + 8, none⟩ = some (.bool x.fu) ∧ w'.cell? ⟨by', oy, none⟩ = some (.string y.key) ∧ w'.cell? ⟨by', oy + 1, none⟩ = some (.int .i64 y.seq) ∧ w'.cell? ⟨by', oy + 2, none⟩ = some (.int .i64 y.kind) ∧ w'.cell? ⟨by', oy + 3, none⟩ = some (.int .i64 y.c) ∧ w'.cell? ⟨by', oy + 4, none⟩ = some (.int .i64 y.s) ∧ w'.cell? ⟨by', oy + 5, none⟩ = some (.int .i64 y.lo) ∧ w'.cell? ⟨by', oy + 6, none⟩ = some (.int .i64 y.hi) ∧ w'.cell? ⟨by', oy + 7, none⟩ = some (.slice db y.n ec) ∧ w'.cell? ⟨by', oy + 8, none⟩ = some (.bool y.fu)) (go_keep) (first | (go_at_call 42; refine (hcc _).mono ?_; rintro e w6 ⟨rfl, hb6⟩; have hb6' := (Below.refl _ wr).drew.trans hb6; obtain ⟨_, p0, p1, p2, p3, p4, p5, p6, p7, p8⟩ := ea1.keep hb6'; obtain ⟨_, q0, q1, q2, q3, q4, q5, q6, q7, q8⟩ := eb1.keep hb6'; have y06 := (hb6'.cell (p := ⟨b, off + k, none⟩) gl).trans a0; have y26 := (hb6'.cell (p := ⟨b, off + j, none⟩) gl).trans b0; have bw6 := hbk.trans (hb6'.mono hbk.size); clear hb6 hb6'))
        clear hcc
        by_cases hz : z < 0
        · have HF : Hid ((k : Int) = lst D (k + 1)) := HE1.out hz
          clear HE1 HE2
          go_wp2
          go_roundw
          case rel => exact ⟨k + 1, by omega, by go_num, by rw [← HF.out], bw6⟩
          case measure => simp [intOf]; omega
        · have HF : Hid ((j : Int) = lst D (k + 1)) := HE2.out (by omega)
          have hzd : decide (z < 0) = false := decide_eq_false hz
          clear HE1 HE2
          go_wp2
          go_roundw
          case rel => exact ⟨k + 1, by omega, by go_num, by rw [← HF.out], bw6⟩
          case measure => simp [intOf]; omega
    · obtain rfl : k = N := by omega
      go_wp2
      go_ret
      exact ⟨rfl, hbk⟩
end Go.Proofs.YtmeckcaekkangaaGreat
