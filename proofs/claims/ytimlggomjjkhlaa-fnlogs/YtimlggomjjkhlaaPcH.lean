/- The program's small functions over pieces. -/
import Derived.Test.YtimlggomjjkhlaaPcM
namespace Go.Proofs.Ytimlggomjjkhlaa
open Go.RowKit
set_option linter.unusedSimpArgs false
set_option linter.unusedVariables false

theorem leftInBlock_any (a : Nat) (w : World) (ha : a ≤ 4194304) :
    Calls Try.prog 39 #[.int .i64 a] w fun e w' => e = .returned (.int .i64 (lft a : Int)) ∧ w' = w := by
  have HE : Hid ((lft a : Int) = 64 - (a : Int) % 64) := by unfold Hid lft; omega
  go_enter Try.func39, Try.ntmps39
  go_wp2
  go_ret
  rw [HE.out]
  exact ⟨rfl, rfl⟩

theorem noughtsAt_any (a : Nat) (w : World) (ha : a ≤ 4194304) :
    Calls Try.prog 38 #[.int .i64 a] w fun e w' => e = .returned (.int .i64 (nog a : Int)) ∧ w' = w := by
  by_cases h : lft a < 6
  · have HE : Hid (nog a = lft a) := nog_some h
    have h' : (lft a : Int) < 6 := by omega
    generalize hN : nog a = N at *
    go_enter Try.func38, Try.ntmps38
    go_wp2_with fail
    refine (leftInBlock_any a _ ha).mono ?_
    rintro e w' ⟨rfl, rfl⟩
    go_wp2
    go_ret
    rw [HE.out]
    exact ⟨rfl, rfl⟩
  · have HE : Hid (nog a = 0) := nog_zero (by omega)
    have h' : ¬ (lft a : Int) < 6 := by omega
    generalize hN : nog a = N at *
    go_enter Try.func38, Try.ntmps38
    go_wp2_with fail
    refine (leftInBlock_any a _ ha).mono ?_
    rintro e w' ⟨rfl, rfl⟩
    go_wp2
    go_ret
    rw [HE.out]
    exact ⟨rfl, rfl⟩

theorem kindOf_any (f l : Bool) (w : World) :
    Calls Try.prog 41 #[.bool f, .bool l] w fun e w' => e = .returned (.int .u8 (kindN f l)) ∧ w' = w := by
  cases f <;> cases l
  all_goals
    go_enter Try.func41, Try.ntmps41
    go_wp2
    go_ret
    exact ⟨rfl, rfl⟩

set_option maxHeartbeats 400000 in
theorem pieceSum_any (k : Int) (b off m c : Nat) (D : List Int) (w : World) (hD : At w b off D) (hm : m = D.length) (hk : 0 ≤ k ∧ k ≤ 255) (hn : D.length ≤ 65536) :
    Calls Try.prog 48 #[.int .u8 k, .slice (some ⟨b, off, none⟩) m c] w fun e w' => e = .returned (.int .i64 (crcL (k :: D))) ∧ Below w.heap.size w w' := by
  have hB : Below w.heap.size w (w.alloc (.cells #[.int .u8 k] 5)) := (Below.refl _ _).alloc (Nat.le_refl _) _
  have h1 : OwnL (w.alloc (.cells #[.int .u8 k] 5)) w.heap.size (.slice (some ⟨w.heap.size, 0, none⟩) 1 1) [k] := ownL_lit w w.heap.size [k] (byt_one hk) (Nat.le_refl _) (by unfold maxLen; simp)
  have hcb := crcL_bd (k :: D)
  go_enter Try.func48, Try.ntmps48
  go_wp2_with (at_builtin; refine wpList_app rfl (.tmp 6) (.tmp 7) rfl w.heap.size _ [k] rfl h1 b off m c D rfl hm (hD.keep hB) (by simp; omega) (by simp) ?_; intro v' w1 ho1 hg1 _)
  obtain ⟨g, cap, rfl, hg, _, hA⟩ := ho1.at (by simp)
  have hb1 := h1.below hB hg1 (Nat.le_refl _) (by simp)
  clear hg1 h1
  go_wp2_with fail
  refine (crc_impl _ _ cap (fl ([k] ++ D)) _ hA.row (by simp; omega)).mono ?_
  rintro e w2 ⟨rfl, hb2⟩
  have hbw := hb1.trans (hb2.mono hb1.size)
  have e1 : crcOf (fl ([k] ++ D)) ([k] ++ D).length = crcL (k :: D) := rfl
  rw [e1]
  clear e1 hb2
  generalize hC : crcL (k :: D) = C at *
  have HC : Hid (crcL (k :: D) = C) := hC
  clear hC
  go_wp2
  go_ret
  rw [HC.out]
  exact ⟨rfl, hbw⟩

theorem putFixed_four (C : Int) (w : World) (h : 0 ≤ C ∧ C ≤ 4294967295) :
    Calls Try.prog 47 #[.int .i64 C, .int .i64 4] w fun e w' => FixOut C 4 w e w' :=
  putFixed_impl_yes C 4 w ⟨h.1, by omega⟩ (by omega) (by omega) (by omega)

set_option maxHeartbeats 400000 in
theorem appendPiece_any (v : Value) (L : List Int) (base : Nat) (k : Int) (b off m c : Nat) (D : List Int) (w : World) (ho : OwnL w base v L) (hD : At w b off D) (hne : v.ownBlock ≠ some b) (hm : m = D.length) (hk : 0 ≤ k ∧ k ≤ 255) (hn : D.length ≤ 58) (hL : L.length ≤ 65536) (hbase : base ≤ w.heap.size) :
    Calls Try.prog 40 #[v, .int .u8 k, .slice (some ⟨b, off, none⟩) m c] w fun e w' => ∃ v', e = .returned v' ∧ OwnL w' base v' (L ++ pieceL k D) ∧ w.grownBy w' v.ownBlock ∧ NB w v v' := by
  have hcb := crcL_bd (k :: D)
  subst hm
  go_enter Try.func40, Try.ntmps40
  go_wp2_with fail
  refine (pieceSum_any k b off _ c D _ hD rfl hk (by omega)).mono ?_
  rintro e w1 ⟨rfl, hb1⟩
  generalize hC : crcL (k :: D) = C at *
  have HC : Hid (crcL (k :: D) = C) := hC
  clear hC
  go_wp2_with fail
  refine (putFixed_four C _ hcb).mono ?_
  rintro e w2 ⟨g2, o2, c2, rfl, hg2, hO2, hb2⟩
  have hA2 := pfL_at hO2
  have b12 := hb1.trans (hb2.mono hb1.size)
  have ho2 := ho.keep b12
  have hD2 := hD.keep b12
  have s1 := hb1.size
  have s2 := b12.size
  have hne2 : v.ownBlock ≠ some g2 := fun e => by have := (ho.lt g2 e).2; omega
  have t1 : True := trivial
  have t2 : True := trivial
  have t3 : True := trivial
  go_wp2_with (at_builtin; first | (clear t1; refine wpList_app rfl (.tmp 16) (.tmp 17) rfl base v L rfl ho2 g2 o2 4 c2 (pfL C 4) rfl (by rw [pfL_length]) hA2 (by rw [pfL_length]; omega) (by omega) ?_; intro v3 w3 ho3 hg3 ha3; have hD3 := (hD2.grown hg3 hne).keep (below_new w3 (.cells #[.int .u8 (D.length : Int), .int .u8 k] 5)); have s3 := hg3.size; have hne3 := block_ne ha3 hne hD2.lt) | (clear t2; refine wpList_app rfl (.tmp 19) (.tmp 24) rfl base v3 (L ++ pfL C 4) rfl (ho3.keep (below_new _ _)) w3.heap.size 0 2 2 [(D.length : Int), k] rfl rfl (at_new w3 [(D.length : Int), k] (byt_cons (by omega) (byt_one hk)) 5) (by simp [pfL_length]; omega) (by simp; omega) ?_; intro v4 w4 ho4 hg4 ha4; have hD4 := hD3.grown hg4 hne3) | (clear t3; refine wpList_app rfl (.tmp 26) (.tmp 27) rfl base v4 _ rfl ho4 b off D.length c D rfl rfl hD4 (by simp [pfL_length]; omega) (by have := hg4.size; simp at this; omega) ?_; intro v5 w5 ho5 hg5 ha5))
  go_ret
  have e5 : L ++ pieceL k D = L ++ pfL C 4 ++ [(D.length : Int), k] ++ D := by
    unfold pieceL; rw [HC.out]; simp
  have n3 := (nb_of ha3 : NB w2 v v3)
  have n4 := (nb_of ha4 : NB _ v3 v4)
  have n5 := (nb_of ha5 : NB _ v4 v5)
  have G2 := grown_of_below b12 v.ownBlock
  have G3 := grown_next G2 (nb_self _ _) hg3
  have N3 : NB w v v3 := (nb_self w v).trans n3 s2
  have G3' := grown_next G3 N3 (grown_of_below (below_new w3 (.cells #[.int .u8 (D.length : Int), .int .u8 k] 5)) _)
  have G4 := grown_next G3' N3 hg4
  have N4 : NB w v v4 := N3.trans n4 (by simp; omega)
  have s4 := hg4.size
  simp at s4
  have G5 := grown_next G4 N4 hg5
  have N5 : NB w v v5 := N4.trans n5 (by omega)
  refine ⟨v5, rfl, ?_, G5, N5⟩
  rw [e5]
  exact ho5

end Go.Proofs.Ytimlggomjjkhlaa
