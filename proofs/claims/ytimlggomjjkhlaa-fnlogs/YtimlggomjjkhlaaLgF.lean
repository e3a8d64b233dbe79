/- A log is read back, and of its beginning the first records are. -/
import Derived.Test.YtimlggomjjkhlaaRdM
import Derived.Test.YtimlggomjjkhlaaLog
namespace Go.Proofs.Ytimlggomjjkhlaa
open Go.RowKit
set_option linter.unusedSimpArgs false
set_option linter.unusedVariables false

theorem fl_mid (A X : List Int) (i : Nat) : fl (A ++ X) (A.length + i) = fl X i := by
  simp only [fl, List.getD_eq_getElem?_getD]
  rw [List.getElem?_append_right (by omega), Nat.add_sub_cancel_left]
theorem fl_left {X Y : List Int} {i : Nat} (h : i < X.length) : fl (X ++ Y) i = fl X i := by
  simp only [fl, List.getD_eq_getElem?_getD]
  rw [List.getElem?_append_left h]

theorem num_pf {v : Int} (h : 0 ≤ v ∧ v ≤ 4294967295) {f : Nat → Int} {a : Nat} (hf : ∀ i, i < 4 → f (a + i) = pf v 4 i) : num f a 4 = v := by
  simp only [num]
  have h0 := hf 0 (by omega)
  have h1 := hf 1 (by omega)
  have h2 := hf 2 (by omega)
  have h3 := hf 3 (by omega)
  rw [h0, h1, h2, h3]
  simp only [pf]
  simp only [show 8 * (4 - 1 - 0) = 24 from rfl, show 8 * (4 - 1 - 1) = 16 from rfl, show 8 * (4 - 1 - 2) = 8 from rfl, show 8 * (4 - 1 - 3) = 0 from rfl, show (2 : Int) ^ 24 = 16777216 from by decide, show (2 : Int) ^ 16 = 65536 from by decide, show (2 : Int) ^ 8 = 256 from by decide, show (2 : Int) ^ 0 = 1 from by decide]
  omega

theorem piece_at (q : Int) (D : List Int) : (∀ i, i < 4 → fl (pieceL q D) i = pf (crcL (q :: D)) 4 i) ∧ fl (pieceL q D) 4 = (D.length : Int) ∧ fl (pieceL q D) 5 = q := by
  refine ⟨fun i hi => ?_, ?_, ?_⟩
  · rw [pieceL, fl_left (by rw [pfL_length]; exact hi)]
    simp [fl, pfL, hi]
  · have := fl_mid (pfL (crcL (q :: D)) 4) ((D.length : Int) :: q :: D) 0
    rw [pfL_length] at this
    rw [pieceL, this]
    rfl
  · have := fl_mid (pfL (crcL (q :: D)) 4) ((D.length : Int) :: q :: D) 1
    rw [pfL_length] at this
    rw [pieceL, this]
    rfl

/-- A piece that lies wholly in what is there. -/
theorem piece_in {A D Z : List Int} {q : Int} {k a : Nat} (ha : A.length = a) (hk : a + 6 + D.length ≤ k) (hf : 6 + D.length ≤ lft a) :
    Pc ((A ++ pieceL q D ++ Z).take k) a ∧ pn ((A ++ pieceL q D ++ Z).take k) a = D.length ∧ pk ((A ++ pieceL q D ++ Z).take k) a = q ∧ pD ((A ++ pieceL q D ++ Z).take k) a = D := by
  obtain ⟨p0, p4, p5⟩ := piece_at q D
  have hl := pieceL_length q D
  have get : ∀ i, i < 6 → fl ((A ++ pieceL q D ++ Z).take k) (a + i) = fl (pieceL q D) i := fun i hi => by
    rw [fl_take (by omega), List.append_assoc, ← ha, fl_mid, fl_left (by omega)]
  have hn : pn ((A ++ pieceL q D ++ Z).take k) a = D.length := by
    unfold pn
    rw [get 4 (by omega), p4]
    rfl
  have hq : pk ((A ++ pieceL q D ++ Z).take k) a = q := by
    unfold pk
    rw [get 5 (by omega), p5]
  have hlen : a + 6 + D.length ≤ ((A ++ pieceL q D ++ Z).take k).length := by
    rw [List.length_take, List.length_append, List.length_append]
    omega
  have hD : pD ((A ++ pieceL q D ++ Z).take k) a = D := by
    unfold pD
    rw [hn, List.drop_take]
    have e : (A ++ pieceL q D ++ Z).drop (a + 6) = D ++ Z := by
      have e2 : A ++ pieceL q D ++ Z = (A ++ (pfL (crcL (q :: D)) 4 ++ [(D.length : Int), q])) ++ (D ++ Z) := by simp [pieceL]
      rw [e2, List.drop_left' (by simp [pfL_length, ha])]
    rw [e, List.take_take, List.take_append_of_le_length (by omega), List.take_of_length_le (by omega)]
  refine ⟨⟨by omega, by rw [hn]; exact hf, by rw [hn]; exact hlen, ?_⟩, hn, hq, hD⟩
  rw [hq, hD]
  exact (num_pf (crcL_bd _) (fun i hi => (get i (by omega)).trans (p0 i hi))).symm

/-- A piece that is cut. -/
theorem piece_cut {A D Z : List Int} {q : Int} {k a : Nat} (ha : A.length = a) (hk : k < a + 6 + D.length) : ¬ Pc ((A ++ pieceL q D ++ Z).take k) a := by
  intro h
  obtain ⟨p0, p4, p5⟩ := piece_at q D
  have hl := pieceL_length q D
  have h1 := h.head
  have h2 := h.all
  have hlt : ((A ++ pieceL q D ++ Z).take k).length ≤ k := by rw [List.length_take]; omega
  have hn : pn ((A ++ pieceL q D ++ Z).take k) a = D.length := by
    unfold pn
    rw [fl_take (by omega), List.append_assoc, ← ha, fl_mid, fl_left (by omega), p4]
    rfl
  omega

theorem okK_kind (first last : Bool) : okK (!first) (kindN first last) = true := by cases first <;> cases last <;> rfl
theorem kind_last (first : Bool) : kindN first true = 1 ∨ kindN first true = 4 := by cases first <;> simp [kindN]
theorem kind_more (first : Bool) : kindN first false = 2 ∨ kindN first false = 3 := by cases first <;> simp [kindN]

/-- A record's pieces, read: all of them, or the reading ends there. -/
theorem run_read : ∀ (fu : Nat) (A R Z : List Int) (a k : Nat) (first : Bool) (now : List Int) (out : List (List Int)) (g : Nat), A.length = a → 6 ≤ lft a → fuel a R ≤ fu →
    (a + (runL fu a first R).length ≤ k → ∀ r, Fin ((A ++ runL fu a first R ++ Z).take k) (a + (runL fu a first R).length) [] false (out ++ [now ++ R]) (a + (runL fu a first R).length) r → Fin ((A ++ runL fu a first R ++ Z).take k) a now (!first) out g r) ∧
    (k < a + (runL fu a first R).length → Fin ((A ++ runL fu a first R ++ Z).take k) a now (!first) out g (out, g)) := by
  intro fu
  induction fu with
  | zero => intro A R Z a k first now out g _ _ hf; unfold fuel at hf; omega
  | succ fu ih =>
    intro A R Z a k first now out g ha h6 hf
    have hlb := lft_bd a
    by_cases hlast : R.length ≤ lft a - 6
    · rw [runL_last hlast]
      have hl := pieceL_length (kindN first true) R
      rw [hl]
      constructor
      · intro hk r hr
        obtain ⟨hP, hn, hq, hD⟩ := piece_in (A := A) (D := R) (Z := Z) (q := kindN first true) (k := k) ha (by omega) (by omega)
        refine fin_rec h6 hP (by rw [hq]; exact okK_kind first true) (by rw [hq]; exact kind_last first) ?_
        rw [hn, hD, Nat.add_assoc]
        exact hr
      · intro hk
        by_cases h0 : ((A ++ pieceL (kindN first true) R ++ Z).take k).length ≤ a
        · exact fin_end h0
        · exact fin_pstop (by omega) h6 (fun hh => piece_cut ha (by omega) hh.1)
    · rw [runL_more hlast]
      have hl := pieceL_length (kindN first false) (R.take (lft a - 6))
      have hDl : (R.take (lft a - 6)).length = lft a - 6 := by rw [List.length_take]; omega
      rw [List.length_append, hl, hDl]
      have e1 : A ++ (pieceL (kindN first false) (R.take (lft a - 6)) ++ runL fu (a + lft a) false (R.drop (lft a - 6))) ++ Z = (A ++ pieceL (kindN first false) (R.take (lft a - 6))) ++ runL fu (a + lft a) false (R.drop (lft a - 6)) ++ Z := by simp
      have e2 : A ++ (pieceL (kindN first false) (R.take (lft a - 6)) ++ runL fu (a + lft a) false (R.drop (lft a - 6))) ++ Z = A ++ pieceL (kindN first false) (R.take (lft a - 6)) ++ (runL fu (a + lft a) false (R.drop (lft a - 6)) ++ Z) := by simp
      have hAl : (A ++ pieceL (kindN first false) (R.take (lft a - 6))).length = a + lft a := by rw [List.length_append, hl, hDl]; omega
      have hn64 := lft_next a
      have hf' : fuel (a + lft a) (R.drop (lft a - 6)) ≤ fu := by
        unfold fuel at hf ⊢
        rw [hn64, List.length_drop]
        by_cases e : lft a = 6
        · rw [if_pos e] at hf; rw [if_neg (by omega)]; omega
        · rw [if_neg e] at hf; rw [if_neg (by omega)]; omega
      have hcut : k < a + lft a → Fin ((A ++ (pieceL (kindN first false) (R.take (lft a - 6)) ++ runL fu (a + lft a) false (R.drop (lft a - 6))) ++ Z).take k) a now (!first) out g (out, g) := fun hk => by
        rw [e2]
        by_cases h0 : ((A ++ pieceL (kindN first false) (R.take (lft a - 6)) ++ (runL fu (a + lft a) false (R.drop (lft a - 6)) ++ Z)).take k).length ≤ a
        · exact fin_end h0
        · exact fin_pstop (by omega) h6 (fun hh => piece_cut ha (by omega) hh.1)
      have hgo : a + lft a ≤ k → ∀ r, Fin ((A ++ (pieceL (kindN first false) (R.take (lft a - 6)) ++ runL fu (a + lft a) false (R.drop (lft a - 6))) ++ Z).take k) (a + lft a) (now ++ R.take (lft a - 6)) true out g r → Fin ((A ++ (pieceL (kindN first false) (R.take (lft a - 6)) ++ runL fu (a + lft a) false (R.drop (lft a - 6))) ++ Z).take k) a now (!first) out g r := fun hk r hr => by
        rw [e2] at hr ⊢
        obtain ⟨hP, hn, hq, hD⟩ := piece_in (A := A) (D := R.take (lft a - 6)) (Z := runL fu (a + lft a) false (R.drop (lft a - 6)) ++ Z) (q := kindN first false) (k := k) ha (by omega) (by omega)
        refine fin_more h6 hP (by rw [hq]; exact okK_kind first false) (by rw [hq]; exact kind_more first) ?_
        rw [hn, hD, hDl, show a + 6 + (lft a - 6) = a + lft a by omega]
        exact hr
      obtain ⟨i1, i2⟩ := ih (A ++ pieceL (kindN first false) (R.take (lft a - 6))) (R.drop (lft a - 6)) Z (a + lft a) k false (now ++ R.take (lft a - 6)) out g hAl (by omega) hf'
      have hnow : now ++ R.take (lft a - 6) ++ R.drop (lft a - 6) = now ++ R := by rw [List.append_assoc, List.take_append_drop]
      rw [hnow] at i1
      rw [← e1] at i1 i2
      constructor
      · intro hk r hr
        refine hgo (by omega) r (i1 (by omega) r ?_)
        rw [show a + lft a + (runL fu (a + lft a) false (R.drop (lft a - 6))).length = a + (6 + (lft a - 6) + (runL fu (a + lft a) false (R.drop (lft a - 6))).length) by omega]
        exact hr
      · intro hk
        by_cases h0 : k < a + lft a
        · exact hcut h0
        · exact hgo (by omega) _ (i2 (by omega))

/-- A record behind A, read. -/
theorem all_read (A R Z : List Int) (k : Nat) (out : List (List Int)) (g : Nat) :
    (A.length + (allL A.length R).length ≤ k → ∀ r, Fin ((A ++ allL A.length R ++ Z).take k) (A.length + (allL A.length R).length) [] false (out ++ [R]) (A.length + (allL A.length R).length) r → Fin ((A ++ allL A.length R ++ Z).take k) A.length [] false out g r) ∧
    (k < A.length + (allL A.length R).length → Fin ((A ++ allL A.length R ++ Z).take k) A.length [] false out g (out, g)) := by
  have hlb := lft_bd A.length
  have hN : (List.replicate (nog A.length) (0 : Int)).length = nog A.length := List.length_replicate ..
  have e1 : A ++ allL A.length R ++ Z = (A ++ List.replicate (nog A.length) 0) ++ runL (2 * R.length + 2) (A.length + nog A.length) true R ++ Z := by simp [allL]
  have hl : (allL A.length R).length = nog A.length + (runL (2 * R.length + 2) (A.length + nog A.length) true R).length := by simp [allL]
  obtain ⟨i1, i2⟩ := run_read (2 * R.length + 2) (A ++ List.replicate (nog A.length) 0) R Z (A.length + nog A.length) k true [] out g (by rw [List.length_append, hN]) (lft_nog _) (by unfold fuel; split <;> omega)
  rw [← e1] at i1 i2
  rw [hl]
  simp only [Bool.not_true, List.nil_append] at i1 i2
  have hlC : ((A ++ allL A.length R ++ Z).take k).length = min k (A.length + (allL A.length R).length + Z.length) := by rw [List.length_take, List.length_append, List.length_append]
  have hgo : A.length + nog A.length ≤ k → ∀ r, Fin ((A ++ allL A.length R ++ Z).take k) (A.length + nog A.length) [] false out g r → Fin ((A ++ allL A.length R ++ Z).take k) A.length [] false out g r := fun hk r hr => by
    by_cases h6 : lft A.length < 6
    · rw [nog_some h6] at hk hr hl
      have hz : zeros ((A ++ allL A.length R ++ Z).take k) A.length := by
        refine ⟨by rw [hlC]; omega, fun i hi => ?_⟩
        have e3 : A ++ allL A.length R ++ Z = A ++ (List.replicate (lft A.length) 0 ++ (runL (2 * R.length + 2) (A.length + lft A.length) true R ++ Z)) := by rw [allL, nog_some h6]; simp
        rw [fl_take (by omega), e3, fl_mid, fl_left (by rw [List.length_replicate]; exact hi)]
        simp [fl, hi]
      exact fin_nog (by rw [hlC]; omega) h6 hz hr
    · rw [nog_zero (by omega)] at hr
      exact hr
  constructor
  · intro hk r hr
    refine hgo (by omega) r (i1 (by omega) r ?_)
    rw [Nat.add_assoc]
    exact hr
  · intro hk
    by_cases h0 : A.length + nog A.length ≤ k
    · exact hgo h0 _ (i2 (by omega))
    · by_cases h1 : ((A ++ allL A.length R ++ Z).take k).length ≤ A.length
      · exact fin_end h1
      · rw [hlC] at h1
        have h6 : lft A.length < 6 := by
          rcases Nat.lt_or_ge (lft A.length) 6 with h | h
          · exact h
          · rw [nog_zero h] at h0
            omega
        refine fin_nstop (by rw [hlC]; omega) h6 (fun hz => ?_)
        have := hz.1
        rw [nog_some h6] at h0
        rw [hlC] at this
        omega
end Go.Proofs.Ytimlggomjjkhlaa
