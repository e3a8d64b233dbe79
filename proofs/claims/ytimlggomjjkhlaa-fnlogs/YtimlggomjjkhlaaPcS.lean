/- A record's pieces, as the model lays them. -/
import Derived.Test.YtimlggomjjkhlaaPcH
import Derived.Test.YtimlggomjjkhlaaIn
import Derived.Laws.AppendOwnNone
namespace Go.Proofs.Ytimlggomjjkhlaa
open Go.RowKit
set_option linter.unusedSimpArgs false
set_option linter.unusedVariables false

def bit6 (x : Nat) : Nat := if x ≤ 6 then 1 else 0
theorem bit6_yes {x : Nat} (h : x ≤ 6) : bit6 x = 1 := if_pos h
theorem bit6_no {x : Nat} (h : ¬ x ≤ 6) : bit6 x = 0 := if_neg h
theorem bit6_le (x : Nat) : bit6 x ≤ 1 := by unfold bit6; split <;> omega
def lenV : Value → Nat
  | .slice _ n _ => n
  | _ => 0

theorem zc (z : Value) (n : Nat) : (Builtin.zeroCells #[z] n).toList = List.replicate n z := by
  unfold Builtin.zeroCells
  apply List.ext_getElem?
  intro i
  by_cases hi : i < n
  · simp [hi, Nat.mod_one]
  · simp [hi]

theorem app_zeros (w : World) (N : Nat) (h0 : 0 < N) (hN : N < 64) : ∃ v w1, (Builtin.append_ #[22, 3] 22 #[.slice none 0 0, .int .i64 (N : Int)]).run Try.prog w = .ok v w1 ∧ OwnL w1 w.heap.size v (List.replicate N 0) ∧ Below w.heap.size w w1 := by
  obtain ⟨i0, hi, hz0, hz1, hz2⟩ := info_parts Try.info5
  have hr := Lib.run_append_nil_zeros (P := Try.prog) w 22 3 22 5 i0 (.int .u8 0) .i64 .i64 Try.underlying22 Try.underlying3 hi hz0 N h0 (by omega) (by omega) (by rw [hz2]; omega)
  refine ⟨_, _, hr, ⟨fun x hx => by rw [(List.mem_replicate.1 hx).2]; omega, ?_⟩, ((Below.refl _ _).drew).alloc (by simp) _⟩
  have hge := grownCap_ge w N 0 5
  have hle := grownCap_le_maxLen w N 0 5 (by unfold maxLen; omega)
  generalize grownCap w N 0 5 = K at *
  refine ⟨by simp [vb_length], .inr ⟨w.heap.size, K, Builtin.zeroCells (Value.int .u8 0).cells N ++ Builtin.zeroCells (Value.int .u8 0).cells (K - N), by simp, Nat.le_refl _, ?_, by simpa using hge, hle, ?_, ?_⟩⟩
  · exact heap_alloc_new w.drew _
  · simp [size_zeroCells, Value.cells]; omega
  · have e : (Value.int .u8 0).cells = #[.int .u8 0] := rfl
    rw [e, Array.toList_append, zc, zc, List.length_replicate, Nat.mul_one, List.take_left' (by simp)]
    simp [vb]

theorem crcS_at (g off m c : Nat) (L : List Int) (w : World) (h : At w g off L) (hm : m = L.length) (hn : L.length ≤ 65536) :
    Calls Try.prog 35 #[.slice (some ⟨g, off, none⟩) m c] w fun e w' => ∃ C, e = .returned (.int .u32 C) ∧ Hid (crcL L = C) ∧ (0 ≤ C ∧ C ≤ 4294967295) ∧ Below w.heap.size w w' := by
  subst hm
  refine (crc_spec _ _ c (fl L) _ h.row (by omega)).mono ?_
  rintro e w1 ⟨rfl, hb⟩
  exact ⟨_, rfl, rfl, crcL_bd L, hb⟩
theorem l1Fixed_four (C : Int) (w : World) (h : 0 ≤ C ∧ C ≤ 4294967295) :
    Calls Try.prog 34 #[.int .i64 C, .int .i64 4] w fun e w' => ∃ g cap, e = .returned (.slice (some ⟨g, 0, none⟩) 4 cap) ∧ w.heap.size ≤ g ∧ At w' g 0 (pfL C 4) ∧ Below w.heap.size w w' := by
  refine (l1Fixed_any C 4 w ⟨h.1, by omega⟩ (by omega) (by omega)).mono ?_
  rintro e w1 ⟨g, cap, rfl, hg, hO, hb⟩
  exact ⟨g, cap, rfl, hg, pfL_at hO, hb⟩

theorem piece_eq (k : Int) (D Lo : List Int) (C : Int) (n : Nat) (h : crcL ([k] ++ D) = C) (hn : n = D.length) : Lo ++ pfL C 4 ++ [(n : Int)] ++ ([k] ++ D) = Lo ++ pieceL k D := by
  unfold pieceL
  subst hn
  rw [← h]
  simp
theorem piece_below {w wr w3 w4 w5 w6 : World} {v v4 v5 : Value} {Lo L4 L5 : List Int} {o : Obj} (hb : Below w.heap.size w wr) (hB3 : Below wr.heap.size wr w3) (ho3 : OwnL w3 w.heap.size v Lo) (hg4 : w3.grownBy w4 v.ownBlock) (ho4 : OwnL w4 w.heap.size v4 L4)
    (hg5 : (w4.alloc o).grownBy w5 v4.ownBlock) (ho5 : OwnL w5 w.heap.size v5 L5) (hg6 : w5.grownBy w6 v5.ownBlock) : Below w.heap.size w w6 := by
  have b3 := hb.trans (hB3.mono hb.size)
  have b4 := ho3.below b3 hg4 (Nat.le_refl _) b3.size
  have b4' := b4.alloc b4.size o
  have b5 := (ho4.keep (below_new w4 o)).below b4' hg5 (Nat.le_refl _) b4'.size
  exact ho5.below b5 hg6 (Nat.le_refl _) b5.size

set_option maxHeartbeats 2000000 in
theorem l3Pieces_any (at' b off n cap : Nat) (R : List Int) (w : World) (hR : At w b off R) (hn : n = R.length) (hcap : n ≤ cap) (hat : at' ≤ 20000) (hl : R.length ≤ 2000) :
    Calls Try.prog 25 #[.int .i64 at', .slice (some ⟨b, off, none⟩) n cap] w fun e w' => ∃ v, e = .returned v ∧ OwnL w' w.heap.size v (allL at' R) ∧ Below w.heap.size w w' := by
  subst hn
  have hT := allL_length_le at' R hl
  have hM := Mid.start at' R
  generalize hTT : allL at' R = T at *
  have HT : Hid (allL at' R = T) := hTT
  clear hTT
  go_enter Try.func25, Try.ntmps25
  go_wp2
  go_loopw [1, 5, 6] (fun r v f wr => ∃ (Lo : List Int) (ao : Option Addr) (cp : Nat) (first : Bool) (R1 : List Int) (o c m k : Nat), r = .slice (some ⟨b, o, none⟩) k c ∧ v = .slice ao m cp ∧ f = .bool first ∧ k = R1.length ∧ m = Lo.length ∧ R1.length ≤ c ∧ OwnL wr w.heap.size (.slice ao Lo.length cp) Lo ∧ At wr b o R1 ∧ Below w.heap.size w wr ∧ ((lft at' < 6 ∧ Lo = [] ∧ ao = none ∧ cp = 0 ∧ first = true ∧ R1 = R) ∨ ∃ fu, Mid T at' fu Lo first R1)) (fun r v _ _ => 2 * lenV r + bit6 (lft (at' + lenV v)))
  case atStart =>
    by_cases h6 : lft at' < 6
    · exact ⟨[], none, 0, true, R, off, cap, 0, R.length, rfl, rfl, rfl, rfl, rfl, hcap, ownL_nil _ _, hR, Below.refl _ _, .inl ⟨h6, rfl, rfl, rfl, rfl, rfl⟩⟩
    · rw [nog_zero (by omega)] at hM
      exact ⟨[], none, 0, true, R, off, cap, 0, R.length, rfl, rfl, rfl, rfl, rfl, hcap, ownL_nil _ _, hR, Below.refl _ _, .inr ⟨_, hM⟩⟩
  case round =>
    obtain ⟨Lo, ao, cp, first, R1, o1, c1, m, k, rfl, rfl, rfl, rfl, rfl, hc, hown, hA, hb, hcase⟩ := hrel
    rcases hcase with ⟨h6, rfl, rfl, rfl, rfl, rfl⟩ | ⟨fu, hmid⟩
    · have hlb := lft_bd at'
      have HS : Hid (nog at' = lft at') := nog_some h6
      have hnx := lft_next at'
      obtain ⟨v1, w1, hrun, ho1, hb1⟩ := app_zeros wr (lft at') (by omega) (by omega)
      have HE : Hid ((64 : Int) - (at' : Int) % 64 = (lft at' : Int)) := by unfold Hid lft; omega
      have h6' : (64 : Int) - (at' : Int) % 64 < 6 := by rw [HE.out]; omega
      go_wp2_with (at_builtin; refine Lib.wpList_append_run _ rfl (.tmp 20) (.tmp 21) 22 3 rfl (.slice none 0 0) (.int .i64 (lft at' : Int)) rfl (congrArg (Value.int .i64) HE.out) v1 w1 hrun ?_)
      have hbw := hb.trans (hb1.mono hb.size)
      obtain ⟨ao1, cp1, rfl⟩ := ho1.form
      go_roundw
      case rel => exact ⟨List.replicate (lft at') 0, ao1, cp1, true, R1, o1, c1, _, _, rfl, rfl, rfl, rfl, rfl, hc, ho1.mono hb.size, hA.keep hb1, hbw, .inr ⟨_, by rw [HS.out] at hM; exact hM⟩⟩
      case measure => simp only [lenV, List.length_replicate, List.length_nil, Nat.add_zero]; rw [hnx, bit6_no (by omega), bit6_yes (by omega)]; omega
    · have hlb := lft_bd (at' + Lo.length)
      have hle := hmid.left
      have hbd := hmid.bound
      have hsz := hb.size
      have HE : Hid ((64 : Int) - ((at' : Int) + (Lo.length : Int)) % 64 = (lft (at' + Lo.length) : Int)) := by unfold Hid lft; omega
      have hne : (Value.slice ao Lo.length cp).ownBlock ≠ some b := fun e => by have := (hown.lt b e).1; have := hR.lt; omega
      have hnx := lft_next (at' + Lo.length)
      by_cases hlast : R1.length ≤ lft (at' + Lo.length) - 6
      · have HF : Hid (Lo ++ pieceL (kindN first true) R1 = T) := hmid.last hlast
        clear hmid hnx
        generalize lft (at' + Lo.length) = lf at *
        obtain ⟨q, rfl⟩ : ∃ q, lf = q + 6 := ⟨lf - 6, by omega⟩
        have he : (64 : Int) - ((at' : Int) + (Lo.length : Int)) % 64 = (q : Int) + 6 := by rw [HE.out]; omega
        rw [Nat.add_sub_cancel] at hlast
        by_cases hgt : R1.length < q
        · cases first
          ·
            have hk : (0 : Int) ≤ 4 ∧ (4 : Int) ≤ 255 := by omega
            have hlit : OwnL (wr.alloc (.cells #[.int .u8 4] 5)) wr.heap.size (.slice (some ⟨wr.heap.size, 0, none⟩) 1 1) [4] := ownL_lit wr wr.heap.size [4] (byt_one hk) (Nat.le_refl _) (by unfold maxLen; simp)
            have hDA : At wr b o1 R1 := hA
            have hDb : R1.length ≤ 58 := by omega
            have hDe : Hid (R1.length = R1.length) := rfl
            have t1 : True := trivial
            have t4 : True := trivial
            have t5 : True := trivial
            have t6 : True := trivial
            go_wp2_with (first
              | (at_builtin; clear t1; refine wpList_app rfl (.tmp 46) (.tmp 49) rfl wr.heap.size _ [4] rfl hlit b o1 R1.length c1 R1 rfl hDe.out (hDA.keep (below_new _ _)) (by simp; omega) (by simp) ?_; intro v1 w1 ho1 hg1 ha1; have hB1 := hlit.below (below_new _ _) hg1 (Nat.le_refl _) (by simp); obtain ⟨g1, cp1, rfl, hge1, hcp1, hA1⟩ := ho1.at (by simp); clear ho1 hg1 ha1)
              | (go_at_call 35; refine (crcS_at g1 0 _ cp1 ([4] ++ R1) _ hA1 rfl (by simp; omega)).mono ?_; rintro e w2 ⟨C, rfl, HC, hCb, hb2⟩)
              | (go_at_call 34; refine (l1Fixed_four C _ hCb).mono ?_; rintro e w3 ⟨g3, cp3, rfl, hge3, hA3, hb3⟩; have hB3 := (hB1.trans (hb2.mono hB1.size)).trans (hb3.mono (Nat.le_trans hB1.size hb2.size)); have ho3 := hown.keep hB3; have hR3 := hA.keep hB3; have hA13 := (hA1.keep hb2).keep hb3; have s3 := hB3.size; have hne1 : (Value.slice ao Lo.length cp).ownBlock ≠ some g1 := fun e => (by have := (hown.lt g1 e).2; omega))
              | (at_builtin; clear t4; refine wpList_app rfl (.tmp 51) (.tmp 55) rfl w.heap.size (.slice ao Lo.length cp) Lo rfl ho3 g3 0 4 cp3 (pfL C 4) rfl (by rw [pfL_length]) hA3 (by rw [pfL_length]; omega) (by omega) ?_; intro v4 w4 ho4 hg4 ha4; have s4 := hg4.size; have hR4 := (hR3.grown hg4 hne).keep (below_new w4 (.cells #[.int .u8 (R1.length : Int)] 5)); have hA14 := (hA13.grown hg4 hne1).keep (below_new w4 (.cells #[.int .u8 (R1.length : Int)] 5)); have hne4 := block_ne ha4 hne hR3.lt; have hne14 := block_ne ha4 hne1 hA13.lt)
              | (at_builtin; clear t5; refine wpList_app rfl (.tmp 57) (.tmp 60) rfl w.heap.size v4 (Lo ++ pfL C 4) rfl (ho4.keep (below_new _ _)) w4.heap.size 0 1 1 [(R1.length : Int)] rfl rfl (at_new w4 [(R1.length : Int)] (byt_one (by omega)) 5) (by simp [pfL_length]; omega) (by simp; omega) ?_; intro v5 w5 ho5 hg5 ha5; have s5 := hg5.size; have hR5 := hR4.grown hg5 hne4; have hA15 := hA14.grown hg5 hne14; have hne5 := block_ne ha5 hne4 hR4.lt; have hne15 := block_ne ha5 hne14 hA14.lt)
              | (at_builtin; clear t6; refine wpList_app rfl (.tmp 62) (.tmp 63) rfl w.heap.size v5 _ rfl ho5 g1 0 _ cp1 ([4] ++ R1) rfl rfl hA15 (by simp [pfL_length]; omega) (by simp at s5; omega) ?_; intro v6 w6 ho6 hg6 ha6; have hR6 := hR5.grown hg6 hne5))
            all_goals
              have hbw := piece_below hb hB3 ho3 hg4 ho4 hg5 ho5 hg6
              go_ret
              refine ⟨v6, rfl, ?_, hbw⟩
              have e6 := piece_eq 4 R1 Lo C R1.length HC.out rfl
              rw [← HF.out]
              rw [e6] at ho6
              exact ho6
          ·
            have hk : (0 : Int) ≤ 1 ∧ (1 : Int) ≤ 255 := by omega
            have hlit : OwnL (wr.alloc (.cells #[.int .u8 1] 5)) wr.heap.size (.slice (some ⟨wr.heap.size, 0, none⟩) 1 1) [1] := ownL_lit wr wr.heap.size [1] (byt_one hk) (Nat.le_refl _) (by unfold maxLen; simp)
            have hDA : At wr b o1 R1 := hA
            have hDb : R1.length ≤ 58 := by omega
            have hDe : Hid (R1.length = R1.length) := rfl
            have t1 : True := trivial
            have t4 : True := trivial
            have t5 : True := trivial
            have t6 : True := trivial
            go_wp2_with (first
              | (at_builtin; clear t1; refine wpList_app rfl (.tmp 46) (.tmp 49) rfl wr.heap.size _ [1] rfl hlit b o1 R1.length c1 R1 rfl hDe.out (hDA.keep (below_new _ _)) (by simp; omega) (by simp) ?_; intro v1 w1 ho1 hg1 ha1; have hB1 := hlit.below (below_new _ _) hg1 (Nat.le_refl _) (by simp); obtain ⟨g1, cp1, rfl, hge1, hcp1, hA1⟩ := ho1.at (by simp); clear ho1 hg1 ha1)
              | (go_at_call 35; refine (crcS_at g1 0 _ cp1 ([1] ++ R1) _ hA1 rfl (by simp; omega)).mono ?_; rintro e w2 ⟨C, rfl, HC, hCb, hb2⟩)
              | (go_at_call 34; refine (l1Fixed_four C _ hCb).mono ?_; rintro e w3 ⟨g3, cp3, rfl, hge3, hA3, hb3⟩; have hB3 := (hB1.trans (hb2.mono hB1.size)).trans (hb3.mono (Nat.le_trans hB1.size hb2.size)); have ho3 := hown.keep hB3; have hR3 := hA.keep hB3; have hA13 := (hA1.keep hb2).keep hb3; have s3 := hB3.size; have hne1 : (Value.slice ao Lo.length cp).ownBlock ≠ some g1 := fun e => (by have := (hown.lt g1 e).2; omega))
              | (at_builtin; clear t4; refine wpList_app rfl (.tmp 51) (.tmp 55) rfl w.heap.size (.slice ao Lo.length cp) Lo rfl ho3 g3 0 4 cp3 (pfL C 4) rfl (by rw [pfL_length]) hA3 (by rw [pfL_length]; omega) (by omega) ?_; intro v4 w4 ho4 hg4 ha4; have s4 := hg4.size; have hR4 := (hR3.grown hg4 hne).keep (below_new w4 (.cells #[.int .u8 (R1.length : Int)] 5)); have hA14 := (hA13.grown hg4 hne1).keep (below_new w4 (.cells #[.int .u8 (R1.length : Int)] 5)); have hne4 := block_ne ha4 hne hR3.lt; have hne14 := block_ne ha4 hne1 hA13.lt)
              | (at_builtin; clear t5; refine wpList_app rfl (.tmp 57) (.tmp 60) rfl w.heap.size v4 (Lo ++ pfL C 4) rfl (ho4.keep (below_new _ _)) w4.heap.size 0 1 1 [(R1.length : Int)] rfl rfl (at_new w4 [(R1.length : Int)] (byt_one (by omega)) 5) (by simp [pfL_length]; omega) (by simp; omega) ?_; intro v5 w5 ho5 hg5 ha5; have s5 := hg5.size; have hR5 := hR4.grown hg5 hne4; have hA15 := hA14.grown hg5 hne14; have hne5 := block_ne ha5 hne4 hR4.lt; have hne15 := block_ne ha5 hne14 hA14.lt)
              | (at_builtin; clear t6; refine wpList_app rfl (.tmp 62) (.tmp 63) rfl w.heap.size v5 _ rfl ho5 g1 0 _ cp1 ([1] ++ R1) rfl rfl hA15 (by simp [pfL_length]; omega) (by simp at s5; omega) ?_; intro v6 w6 ho6 hg6 ha6; have hR6 := hR5.grown hg6 hne5))
            all_goals
              have hbw := piece_below hb hB3 ho3 hg4 ho4 hg5 ho5 hg6
              go_ret
              refine ⟨v6, rfl, ?_, hbw⟩
              have e6 := piece_eq 1 R1 Lo C R1.length HC.out rfl
              rw [← HF.out]
              rw [e6] at ho6
              exact ho6
        · obtain rfl : q = R1.length := by omega
          cases first
          ·
            have hk : (0 : Int) ≤ 4 ∧ (4 : Int) ≤ 255 := by omega
            have hlit : OwnL (wr.alloc (.cells #[.int .u8 4] 5)) wr.heap.size (.slice (some ⟨wr.heap.size, 0, none⟩) 1 1) [4] := ownL_lit wr wr.heap.size [4] (byt_one hk) (Nat.le_refl _) (by unfold maxLen; simp)
            have hDA : At wr b o1 R1 := hA
            have hDb : R1.length ≤ 58 := by omega
            have hDe : Hid (R1.length = R1.length) := rfl
            have t1 : True := trivial
            have t4 : True := trivial
            have t5 : True := trivial
            have t6 : True := trivial
            go_wp2_with (first
              | (at_builtin; clear t1; refine wpList_app rfl (.tmp 46) (.tmp 49) rfl wr.heap.size _ [4] rfl hlit b o1 R1.length c1 R1 rfl hDe.out (hDA.keep (below_new _ _)) (by simp; omega) (by simp) ?_; intro v1 w1 ho1 hg1 ha1; have hB1 := hlit.below (below_new _ _) hg1 (Nat.le_refl _) (by simp); obtain ⟨g1, cp1, rfl, hge1, hcp1, hA1⟩ := ho1.at (by simp); clear ho1 hg1 ha1)
              | (go_at_call 35; refine (crcS_at g1 0 _ cp1 ([4] ++ R1) _ hA1 rfl (by simp; omega)).mono ?_; rintro e w2 ⟨C, rfl, HC, hCb, hb2⟩)
              | (go_at_call 34; refine (l1Fixed_four C _ hCb).mono ?_; rintro e w3 ⟨g3, cp3, rfl, hge3, hA3, hb3⟩; have hB3 := (hB1.trans (hb2.mono hB1.size)).trans (hb3.mono (Nat.le_trans hB1.size hb2.size)); have ho3 := hown.keep hB3; have hR3 := hA.keep hB3; have hA13 := (hA1.keep hb2).keep hb3; have s3 := hB3.size; have hne1 : (Value.slice ao Lo.length cp).ownBlock ≠ some g1 := fun e => (by have := (hown.lt g1 e).2; omega))
              | (at_builtin; clear t4; refine wpList_app rfl (.tmp 51) (.tmp 55) rfl w.heap.size (.slice ao Lo.length cp) Lo rfl ho3 g3 0 4 cp3 (pfL C 4) rfl (by rw [pfL_length]) hA3 (by rw [pfL_length]; omega) (by omega) ?_; intro v4 w4 ho4 hg4 ha4; have s4 := hg4.size; have hR4 := (hR3.grown hg4 hne).keep (below_new w4 (.cells #[.int .u8 (R1.length : Int)] 5)); have hA14 := (hA13.grown hg4 hne1).keep (below_new w4 (.cells #[.int .u8 (R1.length : Int)] 5)); have hne4 := block_ne ha4 hne hR3.lt; have hne14 := block_ne ha4 hne1 hA13.lt)
              | (at_builtin; clear t5; refine wpList_app rfl (.tmp 57) (.tmp 60) rfl w.heap.size v4 (Lo ++ pfL C 4) rfl (ho4.keep (below_new _ _)) w4.heap.size 0 1 1 [(R1.length : Int)] rfl rfl (at_new w4 [(R1.length : Int)] (byt_one (by omega)) 5) (by simp [pfL_length]; omega) (by simp; omega) ?_; intro v5 w5 ho5 hg5 ha5; have s5 := hg5.size; have hR5 := hR4.grown hg5 hne4; have hA15 := hA14.grown hg5 hne14; have hne5 := block_ne ha5 hne4 hR4.lt; have hne15 := block_ne ha5 hne14 hA14.lt)
              | (at_builtin; clear t6; refine wpList_app rfl (.tmp 62) (.tmp 63) rfl w.heap.size v5 _ rfl ho5 g1 0 _ cp1 ([4] ++ R1) rfl rfl hA15 (by simp [pfL_length]; omega) (by simp at s5; omega) ?_; intro v6 w6 ho6 hg6 ha6; have hR6 := hR5.grown hg6 hne5))
            all_goals
              have hbw := piece_below hb hB3 ho3 hg4 ho4 hg5 ho5 hg6
              go_ret
              refine ⟨v6, rfl, ?_, hbw⟩
              have e6 := piece_eq 4 R1 Lo C R1.length HC.out rfl
              rw [← HF.out]
              rw [e6] at ho6
              exact ho6
          ·
            have hk : (0 : Int) ≤ 1 ∧ (1 : Int) ≤ 255 := by omega
            have hlit : OwnL (wr.alloc (.cells #[.int .u8 1] 5)) wr.heap.size (.slice (some ⟨wr.heap.size, 0, none⟩) 1 1) [1] := ownL_lit wr wr.heap.size [1] (byt_one hk) (Nat.le_refl _) (by unfold maxLen; simp)
            have hDA : At wr b o1 R1 := hA
            have hDb : R1.length ≤ 58 := by omega
            have hDe : Hid (R1.length = R1.length) := rfl
            have t1 : True := trivial
            have t4 : True := trivial
            have t5 : True := trivial
            have t6 : True := trivial
            go_wp2_with (first
              | (at_builtin; clear t1; refine wpList_app rfl (.tmp 46) (.tmp 49) rfl wr.heap.size _ [1] rfl hlit b o1 R1.length c1 R1 rfl hDe.out (hDA.keep (below_new _ _)) (by simp; omega) (by simp) ?_; intro v1 w1 ho1 hg1 ha1; have hB1 := hlit.below (below_new _ _) hg1 (Nat.le_refl _) (by simp); obtain ⟨g1, cp1, rfl, hge1, hcp1, hA1⟩ := ho1.at (by simp); clear ho1 hg1 ha1)
              | (go_at_call 35; refine (crcS_at g1 0 _ cp1 ([1] ++ R1) _ hA1 rfl (by simp; omega)).mono ?_; rintro e w2 ⟨C, rfl, HC, hCb, hb2⟩)
              | (go_at_call 34; refine (l1Fixed_four C _ hCb).mono ?_; rintro e w3 ⟨g3, cp3, rfl, hge3, hA3, hb3⟩; have hB3 := (hB1.trans (hb2.mono hB1.size)).trans (hb3.mono (Nat.le_trans hB1.size hb2.size)); have ho3 := hown.keep hB3; have hR3 := hA.keep hB3; have hA13 := (hA1.keep hb2).keep hb3; have s3 := hB3.size; have hne1 : (Value.slice ao Lo.length cp).ownBlock ≠ some g1 := fun e => (by have := (hown.lt g1 e).2; omega))
              | (at_builtin; clear t4; refine wpList_app rfl (.tmp 51) (.tmp 55) rfl w.heap.size (.slice ao Lo.length cp) Lo rfl ho3 g3 0 4 cp3 (pfL C 4) rfl (by rw [pfL_length]) hA3 (by rw [pfL_length]; omega) (by omega) ?_; intro v4 w4 ho4 hg4 ha4; have s4 := hg4.size; have hR4 := (hR3.grown hg4 hne).keep (below_new w4 (.cells #[.int .u8 (R1.length : Int)] 5)); have hA14 := (hA13.grown hg4 hne1).keep (below_new w4 (.cells #[.int .u8 (R1.length : Int)] 5)); have hne4 := block_ne ha4 hne hR3.lt; have hne14 := block_ne ha4 hne1 hA13.lt)
              | (at_builtin; clear t5; refine wpList_app rfl (.tmp 57) (.tmp 60) rfl w.heap.size v4 (Lo ++ pfL C 4) rfl (ho4.keep (below_new _ _)) w4.heap.size 0 1 1 [(R1.length : Int)] rfl rfl (at_new w4 [(R1.length : Int)] (byt_one (by omega)) 5) (by simp [pfL_length]; omega) (by simp; omega) ?_; intro v5 w5 ho5 hg5 ha5; have s5 := hg5.size; have hR5 := hR4.grown hg5 hne4; have hA15 := hA14.grown hg5 hne14; have hne5 := block_ne ha5 hne4 hR4.lt; have hne15 := block_ne ha5 hne14 hA14.lt)
              | (at_builtin; clear t6; refine wpList_app rfl (.tmp 62) (.tmp 63) rfl w.heap.size v5 _ rfl ho5 g1 0 _ cp1 ([1] ++ R1) rfl rfl hA15 (by simp [pfL_length]; omega) (by simp at s5; omega) ?_; intro v6 w6 ho6 hg6 ha6; have hR6 := hR5.grown hg6 hne5))
            all_goals
              have hbw := piece_below hb hB3 ho3 hg4 ho4 hg5 ho5 hg6
              go_ret
              refine ⟨v6, rfl, ?_, hbw⟩
              have e6 := piece_eq 1 R1 Lo C R1.length HC.out rfl
              rw [← HF.out]
              rw [e6] at ho6
              exact ho6
      · obtain ⟨fu', hfu, hmid'⟩ := hmid.more hlast
        have HM : Hid (Mid T at' fu' (Lo ++ pieceL (kindN first false) (R1.take (lft (at' + Lo.length) - 6))) false (R1.drop (lft (at' + Lo.length) - 6))) := hmid'
        clear hmid hmid'
        generalize hlf : lft (at' + Lo.length) = lf at *
        have HL : Hid (lft (at' + Lo.length) = lf) := hlf
        clear hlf
        obtain ⟨q, rfl⟩ : ∃ q, lf = q + 6 := ⟨lf - 6, by omega⟩
        have he : (64 : Int) - ((at' : Int) + (Lo.length : Int)) % 64 = (q : Int) + 6 := by rw [HE.out]; omega
        rw [Nat.add_sub_cancel] at hlast HM
        have hbe : ((q : Int) == (R1.length : Int)) = false := by simp; omega
        have hqc : q ≤ c1 := by omega
        have hqn : ¬ c1 = q := by omega
        have HB : Hid (2 * (R1.length - q) < 2 * R1.length + bit6 (q + 6)) := by
          unfold Hid
          by_cases h0 : q = 0
          · rw [bit6_yes (by omega)]; omega
          · omega
        cases first
        ·
          have hk : (0 : Int) ≤ 3 ∧ (3 : Int) ≤ 255 := by omega
          have hlit : OwnL (wr.alloc (.cells #[.int .u8 3] 5)) wr.heap.size (.slice (some ⟨wr.heap.size, 0, none⟩) 1 1) [3] := ownL_lit wr wr.heap.size [3] (byt_one hk) (Nat.le_refl _) (by unfold maxLen; simp)
          have hDA : At wr b o1 (R1.take q) := hA.take q
          have hDb : (R1.take q).length ≤ 58 := by rw [List.length_take]; omega
          have hDe : Hid (q = (R1.take q).length) := (by show q = _; rw [List.length_take]; omega)
          have t1 : True := trivial
          have t4 : True := trivial
          have t5 : True := trivial
          have t6 : True := trivial
          go_wp2_with (first
            | (at_builtin; clear t1; refine wpList_app rfl (.tmp 46) (.tmp 49) rfl wr.heap.size _ [3] rfl hlit b o1 q c1 (R1.take q) rfl hDe.out (hDA.keep (below_new _ _)) (by simp; omega) (by simp) ?_; intro v1 w1 ho1 hg1 ha1; have hB1 := hlit.below (below_new _ _) hg1 (Nat.le_refl _) (by simp); obtain ⟨g1, cp1, rfl, hge1, hcp1, hA1⟩ := ho1.at (by simp); clear ho1 hg1 ha1)
            | (go_at_call 35; refine (crcS_at g1 0 _ cp1 ([3] ++ (R1.take q)) _ hA1 (by first | rfl | simp) (by simp; omega)).mono ?_; rintro e w2 ⟨C, rfl, HC, hCb, hb2⟩)
            | (go_at_call 34; refine (l1Fixed_four C _ hCb).mono ?_; rintro e w3 ⟨g3, cp3, rfl, hge3, hA3, hb3⟩; have hB3 := (hB1.trans (hb2.mono hB1.size)).trans (hb3.mono (Nat.le_trans hB1.size hb2.size)); have ho3 := hown.keep hB3; have hR3 := hA.keep hB3; have hA13 := (hA1.keep hb2).keep hb3; have s3 := hB3.size; have hne1 : (Value.slice ao Lo.length cp).ownBlock ≠ some g1 := fun e => (by have := (hown.lt g1 e).2; omega))
            | (at_builtin; clear t4; refine wpList_app rfl (.tmp 51) (.tmp 55) rfl w.heap.size (.slice ao Lo.length cp) Lo rfl ho3 g3 0 4 cp3 (pfL C 4) rfl (by rw [pfL_length]) hA3 (by rw [pfL_length]; omega) (by omega) ?_; intro v4 w4 ho4 hg4 ha4; have s4 := hg4.size; have hR4 := (hR3.grown hg4 hne).keep (below_new w4 (.cells #[.int .u8 (q : Int)] 5)); have hA14 := (hA13.grown hg4 hne1).keep (below_new w4 (.cells #[.int .u8 (q : Int)] 5)); have hne4 := block_ne ha4 hne hR3.lt; have hne14 := block_ne ha4 hne1 hA13.lt)
            | (at_builtin; clear t5; refine wpList_app rfl (.tmp 57) (.tmp 60) rfl w.heap.size v4 (Lo ++ pfL C 4) rfl (ho4.keep (below_new _ _)) w4.heap.size 0 1 1 [(q : Int)] rfl rfl (at_new w4 [(q : Int)] (byt_one (by omega)) 5) (by simp [pfL_length]; omega) (by simp; omega) ?_; intro v5 w5 ho5 hg5 ha5; have s5 := hg5.size; have hR5 := hR4.grown hg5 hne4; have hA15 := hA14.grown hg5 hne14; have hne5 := block_ne ha5 hne4 hR4.lt; have hne15 := block_ne ha5 hne14 hA14.lt)
            | (at_builtin; clear t6; refine wpList_app rfl (.tmp 62) (.tmp 63) rfl w.heap.size v5 _ rfl ho5 g1 0 _ cp1 ([3] ++ (R1.take q)) rfl (by first | rfl | simp) hA15 (by simp [pfL_length]; omega) (by simp at s5; omega) ?_; intro v6 w6 ho6 hg6 ha6; have hR6 := hR5.grown hg6 hne5))
          have hbw := piece_below hb hB3 ho3 hg4 ho4 hg5 ho5 hg6
          have e6 := piece_eq 3 (R1.take q) Lo C q HC.out (by rw [List.length_take]; omega)
          rw [e6] at ho6
          have hRd := hR6.drop q
          obtain ⟨ao6, cp6, rfl⟩ := ho6.form
          go_roundw
          case rel => exact ⟨_, ao6, cp6, false, R1.drop q, o1 + q, c1 - q, _, _, rfl, rfl, rfl, by rw [List.length_drop], by simp, by rw [List.length_drop]; omega, ho6, hRd, hbw, .inr ⟨fu', HM.out⟩⟩
          case measure =>
            have el : at' + (Lo ++ pieceL 3 (R1.take q)).length = at' + Lo.length + (q + 6) := by rw [List.length_append, pieceL_length, List.length_take]; omega
            have b0 := HB.out
            simp only [lenV]
            rw [el, hnx, HL.out, bit6_no (by omega)]
            omega
        ·
          have hk : (0 : Int) ≤ 2 ∧ (2 : Int) ≤ 255 := by omega
          have hlit : OwnL (wr.alloc (.cells #[.int .u8 2] 5)) wr.heap.size (.slice (some ⟨wr.heap.size, 0, none⟩) 1 1) [2] := ownL_lit wr wr.heap.size [2] (byt_one hk) (Nat.le_refl _) (by unfold maxLen; simp)
          have hDA : At wr b o1 (R1.take q) := hA.take q
          have hDb : (R1.take q).length ≤ 58 := by rw [List.length_take]; omega
          have hDe : Hid (q = (R1.take q).length) := (by show q = _; rw [List.length_take]; omega)
          have t1 : True := trivial
          have t4 : True := trivial
          have t5 : True := trivial
          have t6 : True := trivial
          go_wp2_with (first
            | (at_builtin; clear t1; refine wpList_app rfl (.tmp 46) (.tmp 49) rfl wr.heap.size _ [2] rfl hlit b o1 q c1 (R1.take q) rfl hDe.out (hDA.keep (below_new _ _)) (by simp; omega) (by simp) ?_; intro v1 w1 ho1 hg1 ha1; have hB1 := hlit.below (below_new _ _) hg1 (Nat.le_refl _) (by simp); obtain ⟨g1, cp1, rfl, hge1, hcp1, hA1⟩ := ho1.at (by simp); clear ho1 hg1 ha1)
            | (go_at_call 35; refine (crcS_at g1 0 _ cp1 ([2] ++ (R1.take q)) _ hA1 (by first | rfl | simp) (by simp; omega)).mono ?_; rintro e w2 ⟨C, rfl, HC, hCb, hb2⟩)
            | (go_at_call 34; refine (l1Fixed_four C _ hCb).mono ?_; rintro e w3 ⟨g3, cp3, rfl, hge3, hA3, hb3⟩; have hB3 := (hB1.trans (hb2.mono hB1.size)).trans (hb3.mono (Nat.le_trans hB1.size hb2.size)); have ho3 := hown.keep hB3; have hR3 := hA.keep hB3; have hA13 := (hA1.keep hb2).keep hb3; have s3 := hB3.size; have hne1 : (Value.slice ao Lo.length cp).ownBlock ≠ some g1 := fun e => (by have := (hown.lt g1 e).2; omega))
            | (at_builtin; clear t4; refine wpList_app rfl (.tmp 51) (.tmp 55) rfl w.heap.size (.slice ao Lo.length cp) Lo rfl ho3 g3 0 4 cp3 (pfL C 4) rfl (by rw [pfL_length]) hA3 (by rw [pfL_length]; omega) (by omega) ?_; intro v4 w4 ho4 hg4 ha4; have s4 := hg4.size; have hR4 := (hR3.grown hg4 hne).keep (below_new w4 (.cells #[.int .u8 (q : Int)] 5)); have hA14 := (hA13.grown hg4 hne1).keep (below_new w4 (.cells #[.int .u8 (q : Int)] 5)); have hne4 := block_ne ha4 hne hR3.lt; have hne14 := block_ne ha4 hne1 hA13.lt)
            | (at_builtin; clear t5; refine wpList_app rfl (.tmp 57) (.tmp 60) rfl w.heap.size v4 (Lo ++ pfL C 4) rfl (ho4.keep (below_new _ _)) w4.heap.size 0 1 1 [(q : Int)] rfl rfl (at_new w4 [(q : Int)] (byt_one (by omega)) 5) (by simp [pfL_length]; omega) (by simp; omega) ?_; intro v5 w5 ho5 hg5 ha5; have s5 := hg5.size; have hR5 := hR4.grown hg5 hne4; have hA15 := hA14.grown hg5 hne14; have hne5 := block_ne ha5 hne4 hR4.lt; have hne15 := block_ne ha5 hne14 hA14.lt)
            | (at_builtin; clear t6; refine wpList_app rfl (.tmp 62) (.tmp 63) rfl w.heap.size v5 _ rfl ho5 g1 0 _ cp1 ([2] ++ (R1.take q)) rfl (by first | rfl | simp) hA15 (by simp [pfL_length]; omega) (by simp at s5; omega) ?_; intro v6 w6 ho6 hg6 ha6; have hR6 := hR5.grown hg6 hne5))
          have hbw := piece_below hb hB3 ho3 hg4 ho4 hg5 ho5 hg6
          have e6 := piece_eq 2 (R1.take q) Lo C q HC.out (by rw [List.length_take]; omega)
          rw [e6] at ho6
          have hRd := hR6.drop q
          obtain ⟨ao6, cp6, rfl⟩ := ho6.form
          go_roundw
          case rel => exact ⟨_, ao6, cp6, false, R1.drop q, o1 + q, c1 - q, _, _, rfl, rfl, rfl, by rw [List.length_drop], by simp, by rw [List.length_drop]; omega, ho6, hRd, hbw, .inr ⟨fu', HM.out⟩⟩
          case measure =>
            have el : at' + (Lo ++ pieceL 2 (R1.take q)).length = at' + Lo.length + (q + 6) := by rw [List.length_append, pieceL_length, List.length_take]; omega
            have b0 := HB.out
            simp only [lenV]
            rw [el, hnx, HL.out, bit6_no (by omega)]
            omega
end Go.Proofs.Ytimlggomjjkhlaa
