/- The blocks kept near, in the program. -/
import Derived.Test.YtjcmjoipicaoeaaAl
import Derived.OwnWalk
import Derived.Deep.RegionHeld3
namespace Go.Proofs.Ytjcmjoipicaoeaa
open Go.RowKit
set_option linter.unusedSimpArgs false
set_option linter.unusedVariables false

/-- Ints of an answer: nil, or in memory of their own. -/
structure IV (w : World) (lo hi : Nat) (ao : Option Addr) (L : List Int) : Prop where
  bd : Ib L
  top : hi ≤ w.heap.size
  is : (ao = none ∧ L = []) ∨ ∃ g off, ao = some ⟨g, off, none⟩ ∧ lo ≤ g ∧ g < hi ∧ IOwn w g off L.length (fi L)
theorem IV.row {w : World} {lo hi : Nat} {ao : Option Addr} {L : List Int} (h : IV w lo hi ao L) : IRow w ao L.length (fi L) := by
  rcases h.is with ⟨_, rfl⟩ | ⟨g, off, rfl, _, _, ho⟩
  · exact ⟨h.bd.fi, .inl rfl⟩
  · exact ho.row
theorem IV.keep {w w' : World} {lo hi : Nat} {ao : Option Addr} {L : List Int} (h : IV w lo hi ao L) (hb : Below w.heap.size w w') : IV w' lo hi ao L := by
  refine ⟨h.bd, Nat.le_trans h.top hb.size, ?_⟩
  rcases h.is with h0 | ⟨g, off, e, h1, h2, ho⟩
  · exact .inl h0
  · exact .inr ⟨g, off, e, h1, h2, ho.keep hb⟩
theorem iv_of {w : World} {base : Nat} {v : Value} {L : List Int} (h : OwnI w base v L) : ∃ ao c, v = .slice ao L.length c ∧ L.length ≤ c ∧ IV w base w.heap.size ao L := by
  by_cases h0 : L.length = 0
  · rcases h.own.2 with ⟨rfl, _⟩ | ⟨g, cap, cur, rfl, hbg, hg, hnc, _⟩
    · exact ⟨none, 0, by rw [h0], by omega, h.bd, Nat.le_refl _, .inl ⟨rfl, List.eq_nil_of_length_eq_zero h0⟩⟩
    · have hlt := (Array.getElem?_eq_some_iff.1 hg).1
      exact ⟨_, cap, rfl, hnc, h.bd, Nat.le_refl _, .inr ⟨g, 0, rfl, hbg, hlt, h.bd.fi, hlt, fun i hi => by omega, fun i hi => by omega⟩⟩
  · obtain ⟨g, cap, rfl, hg, hc, ho⟩ := h.own' (by omega)
    exact ⟨_, cap, rfl, hc, h.bd, Nat.le_refl _, .inr ⟨g, 0, rfl, hg, ho.lt, ho⟩⟩
theorem iv_nil (w : World) (lo hi : Nat) (h : hi ≤ w.heap.size) : IV w lo hi none [] := ⟨ib_nil, h, .inl ⟨rfl, rfl⟩⟩

/-- Those that are not c, of the first k. -/
def kF (f : Nat → Int) (c : Int) : Nat → List Int
  | 0 => []
  | k + 1 => if f k = c then kF f c k else kF f c k ++ [f k]
theorem kF_len (f : Nat → Int) (c : Int) (k : Nat) : (kF f c k).length ≤ k := by
  induction k with
  | zero => simp [kF]
  | succ k ih =>
    unfold kF
    split
    · omega
    · simp; omega
/-- As said. -/
def KG (f : Nat → Int) (n : Nat) (M : Int) : Prop := (1 ≤ M ∧ M ≤ 50) ∧ (n : Int) ≤ M ∧ Unl f n
/-- What is answered. -/
def KO (L : List Int) (z : Int) (ok : Bool) (w : World) (e : Ending) (w' : World) : Prop :=
  ∃ ao c, e = .returned (.tuple #[.slice ao L.length c, .int .i64 z, .bool ok]) ∧ IV w' w.heap.size w'.heap.size ao L ∧ Below w.heap.size w w'
def KBO (f : Nat → Int) (n : Nat) (M c : Int) (w : World) (e : Ending) (w' : World) : Prop :=
  (¬ KG f n M → KO [] 0 false w e w') ∧ (KG f n M → M < ((kF f c n ++ [c]).length : Int) → KO ((kF f c n ++ [c]).drop 1) (fi (kF f c n ++ [c]) 0) true w e w') ∧ (KG f n M → ¬ M < ((kF f c n ++ [c]).length : Int) → KO (kF f c n ++ [c]) (-1) true w e w')
theorem ko_no {w w' : World} (h : Below w.heap.size w w') : KO [] 0 false w (.returned (.tuple #[.slice none 0 0, .int .i64 0, .bool false])) w' := ⟨none, 0, rfl, iv_nil _ _ _ (Nat.le_refl _), h⟩
theorem kbo_no {f : Nat → Int} {n : Nat} {M c : Int} {w w' : World} (hn : ¬ KG f n M) (h : Below w.heap.size w w') : KBO f n M c w (.returned (.tuple #[.slice none 0 0, .int .i64 0, .bool false])) w' :=
  ⟨fun _ => ko_no h, fun g => absurd g hn, fun g => absurd g hn⟩

theorem fi_drop (L : List Int) (i : Nat) : fi (L.drop 1) i = fi L (i + 1) := by
  unfold fi
  rw [List.getD_eq_getElem?_getD, List.getD_eq_getElem?_getD, List.getElem?_drop, Nat.add_comm]
theorem Ib.drop {L : List Int} (h : Ib L) (n : Nat) : Ib (L.drop n) := fun x hx => h x (List.mem_of_mem_drop hx)

set_option maxHeartbeats 1600000 in
theorem keepBlock_impl (b n : Nat) (f : Nat → Int) (M c : Int) (w : World) (hr : IOwn w b 0 n f) (hn : n ≤ 1048576) (hc : -9223372036854775808 ≤ c ∧ c ≤ 9223372036854775807) :
    Calls Try.prog 37 #[.slice (some ⟨b, 0, none⟩) n n, .int .i64 M, .int .i64 c] w fun e w' => KBO f n M c w e w' := by
  obtain ⟨i0, hi, hz0, hz1, hz2⟩ := info_parts Try.infoInt
  by_cases h1 : 1 ≤ M
  case neg =>
    have d1 : decide (M < 1) = true := by simp; omega
    go_enter Try.func37, Try.ntmps37
    go_wp2
    exact bodyPost_ret (v := .tuple #[.slice none 0 0, .int .i64 0, .bool false]) (by simp [results, Try.results37, go_sem]) rfl (kbo_no (fun h => by have := h.1.1; omega) (Below.refl _ _))
  have d1 : decide (M < 1) = false := by simp; omega
  by_cases h2 : M ≤ 50
  case neg =>
    have d2 : decide (50 < M) = true := by simp; omega
    go_enter Try.func37, Try.ntmps37
    go_wp2
    exact bodyPost_ret (v := .tuple #[.slice none 0 0, .int .i64 0, .bool false]) (by simp [results, Try.results37, go_sem]) rfl (kbo_no (fun h => by have := h.1.2; omega) (Below.refl _ _))
  have d2 : decide (50 < M) = false := by simp; omega
  by_cases h3 : (n : Int) ≤ M
  case neg =>
    have d3 : decide (M < (n : Int)) = true := by simp; omega
    go_enter Try.func37, Try.ntmps37
    go_wp2
    exact bodyPost_ret (v := .tuple #[.slice none 0 0, .int .i64 0, .bool false]) (by simp [results, Try.results37, go_sem]) rfl (kbo_no (fun h => by have := h.2.1; omega) (Below.refl _ _))
  have d3 : decide (M < (n : Int)) = false := by simp; omega
  go_enter Try.func37, Try.ntmps37
  go_wp2_with fail
  refine (allUnlike_any (some ⟨b, 0, none⟩) n n f _ hr.row hn).mono ?_
  rintro e w1 ⟨b1, rfl, hu, q1⟩
  have r1 := hr.keep q1
  have s1 := q1.size
  cases b1
  · have K : Hid (¬ KG f n M) := fun h => by
      have := hu.2 h.2.2
      cases this
    clear hu
    go_wp2
    exact bodyPost_ret (v := .tuple #[.slice none 0 0, .int .i64 0, .bool false]) (by simp [results, Try.results37, go_sem]) rfl (kbo_no K.out q1)
  · have HG : Hid (KG f n M) := ⟨⟨h1, h2⟩, h3, hu.1 rfl⟩
    have hbd := r1.bd
    have hblt := r1.lt
    have hbc := r1.cell
    clear hu
    go_wp2_with (at_make; refine wpList_make_own _ rfl (.const (.int .i64 0)) (.tmp 31) 52 rfl w1.heap.size 3 i0 (.int .i64 0) 1 Try.underlying52 hi hz0 hz1 .i64 .i64 _ (n + 1) rfl rfl (by simp) (by rw [hz2]; omega) (by unfold maxLen; omega) (Nat.le_refl _) ?_; intro w2 hown hgrow)
    have hb2 : Below w1.heap.size w1 w2 := (Below.refl _ _).grown hgrow (Nat.le_refl _) (fun k h => by simp at h)
    have o2 : OwnI w2 w1.heap.size (.slice (some ⟨w1.heap.size, 0, none⟩) 0 (n + 1)) [] := ⟨ib_nil, hown⟩
    have bw2 : Below w.heap.size w w2 := q1.trans (hb2.mono s1)
    have s2 := hb2.size
    clear hown hgrow
    go_loopw [9, 35] (fun v i wr => ∃ k : Nat, k ≤ n ∧ i = .int .i64 k ∧ OwnI wr w1.heap.size v (kF f c k) ∧ Below w1.heap.size w1 wr) (fun _ i _ => n - (intOf i).toNat)
    case atStart => exact ⟨0, Nat.zero_le _, rfl, o2, hb2⟩
    case round =>
      obtain ⟨k, hk, rfl, ho, hbk⟩ := hrel
      have hl := kF_len f c k
      have hsz := hbk.size
      clear o2 hb2 bw2
      by_cases hlt : k < n
      · have c1 : wr.cell? ⟨b, k, none⟩ = some (.int .i64 (f k)) := (hbk.cell (p := ⟨b, k, none⟩) hblt).trans (by have := hbc k hlt; rwa [Nat.zero_add] at this)
        have hfk := hbd k
        clear hbc
        by_cases hq : f k = c
        · have HQ : Hid (kF f c (k + 1) = kF f c k) := by unfold Hid; rw [kF, if_pos hq]
          have dq : (f k != c) = false := by simp [hq]
          clear hq
          go_wp2
          go_roundw
          case rel => exact ⟨k + 1, by omega, by go_num, by rw [HQ.out]; exact ho, hbk⟩
          case measure => simp [intOf]; omega
        · have HQ : Hid (kF f c (k + 1) = kF f c k ++ [f k]) := by unfold Hid; rw [kF, if_neg hq]
          have dq : (f k != c) = true := by simp [hq]
          clear hq
          go_wp2_with (at_builtin; refine wpList_pushI rfl (.tmp 42) (.tmp 44) rfl w1.heap.size _ (kF f c k) (f k) rfl ho hfk rfl (by omega) hsz ?_; intro v8 w8 hO8 hg8; have bw8 : Below w1.heap.size w1 w8 := (ho.keep (below_new wr _)).below (hbk.alloc hsz _) hg8 (Nat.le_refl _) (by simp; omega))
          rw [← HQ.out] at hO8
          go_roundw
          case rel => exact ⟨k + 1, by omega, by go_num, hO8, bw8⟩
          case measure => simp [intOf]; omega
      · obtain rfl : k = n := by omega
        clear hbc
        obtain ⟨L, hL⟩ : ∃ L, kF f c k ++ [c] = L := ⟨_, rfl⟩
        have HL : Hid (kF f c k ++ [c] = L) := hL
        have hLl : L.length = (kF f c k).length + 1 := by rw [← hL]; simp
        have hL1 : 1 ≤ L.length := by omega
        have hL2 : L.length ≤ k + 1 := by omega
        clear hL hLl
        by_cases hM : M < (L.length : Int)
        · have dM : decide (M < (L.length : Int)) = true := by simpa using hM
          have hL3 : 2 ≤ L.length := by omega
          go_wp2_with (at_builtin; refine wpList_pushI rfl (.tmp 47) (.tmp 49) rfl w1.heap.size _ (kF f c k) c rfl ho hc rfl (by omega) hsz ?_; intro v8 w8 hO8 hg8; rw [HL.out] at hO8; have bw8 : Below w1.heap.size w1 w8 := (ho.keep (below_new wr _)).below (hbk.alloc hsz _) hg8 (Nat.le_refl _) (by simp; omega); obtain ⟨g, cp, rfl, hg, hcp, hOw⟩ := hO8.own' (by omega); have cc : ¬ cp = 1 := (by omega); have q0 := hOw.cell 0 (by omega); have qp : 0 < L.length := (by omega); have qi : (1 : Int) ≤ (L.length : Int) := (by omega); simp only [Nat.add_zero] at q0)
          go_region_held3 (fun w' => w'.cell? ⟨g, 0, none⟩ = some (.int .i64 (fi L 0))) (go_keep) (fail)
          go_wp2
          have bw9 := (q1.trans (bw8.mono s1)).drew
          have hO9 := hOw.keep (Below.refl _ _).drew
          refine bodyPost_ret (v := .tuple #[.slice (some ⟨g, 1, none⟩) (L.length - 1) (cp - 1), .int .i64 (fi L 0), .bool true]) (by simp [results, Try.results37, go_sem]) rfl ⟨fun h => absurd HG.out h, fun _ _ => ?_, fun _ h => absurd (by rw [HL.out]; exact hM) h⟩
          rw [HL.out]
          refine ⟨some ⟨g, 1, none⟩, cp - 1, by rw [List.length_drop], ⟨hO8.bd.drop 1, Nat.le_refl _, .inr ⟨g, 1, rfl, by omega, hO9.lt, (hO8.bd.drop 1).fi, hO9.lt, fun i hi => ?_, fun i hi => ?_⟩⟩, bw9⟩
          · rw [List.length_drop] at hi
            rw [fi_drop, show 1 + i = 0 + (i + 1) by omega]
            exact hO9.cell (i + 1) (by omega)
          · rw [List.length_drop] at hi
            rw [show 1 + i = 0 + (i + 1) by omega]
            exact hO9.free (i + 1) (by omega)
        · have dM : decide (M < (L.length : Int)) = false := by simpa using hM
          go_wp2_with (at_builtin; refine wpList_pushI rfl (.tmp 47) (.tmp 49) rfl w1.heap.size _ (kF f c k) c rfl ho hc rfl (by omega) hsz ?_; intro v8 w8 hO8 hg8; rw [HL.out] at hO8; have bw8 : Below w1.heap.size w1 w8 := (ho.keep (below_new wr _)).below (hbk.alloc hsz _) hg8 (Nat.le_refl _) (by simp; omega); obtain ⟨ao, cp, rfl, hcp, V8⟩ := iv_of hO8)
          have bw9 := q1.trans (bw8.mono s1)
          refine bodyPost_ret (v := .tuple #[.slice ao L.length cp, .int .i64 (-1), .bool true]) (by simp [results, Try.results37, go_sem]) rfl ⟨fun h => absurd HG.out h, fun _ h => absurd h (by rw [HL.out]; omega), fun _ _ => ?_⟩
          rw [HL.out]
          exact ⟨ao, cp, rfl, ⟨V8.bd, Nat.le_refl _, V8.is.elim .inl fun ⟨g, off, e, h1, h2, ho⟩ => .inr ⟨g, off, e, by omega, h2, ho⟩⟩, bw9⟩
end Go.Proofs.Ytjcmjoipicaoeaa
