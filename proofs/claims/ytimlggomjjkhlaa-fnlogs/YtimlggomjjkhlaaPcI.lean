/- A record's pieces, as the program lays them: a label that is jumped back to. -/
import Derived.Test.YtimlggomjjkhlaaPcH
import Derived.ScopeJumps
import Derived.WalkMore
import Derived.Deep.Cut
import Derived.Outline
import Derived.Deep.RegionWith
import Derived.Deep.RegionHeld3
namespace Go.Proofs.Ytimlggomjjkhlaa
open Go.RowKit
set_option linter.unusedSimpArgs false
set_option linter.unusedVariables false

theorem least_of {p : Nat → Prop} (h : ∃ n, p n) : ∃ n, p n ∧ ∀ m, p m → n ≤ m := by
  obtain ⟨n, hn⟩ := h
  induction n using Nat.strongRecOn with
  | _ n ih =>
    by_cases hm : ∃ m, m < n ∧ p m
    · obtain ⟨m, h1, h2⟩ := hm
      exact ih m h1 h2
    · exact ⟨n, hn, fun m h => Nat.le_of_not_lt fun h1 => hm ⟨m, h1, h⟩⟩

theorem jump_mono {l : Nat} {A B : Act → World → Prop} {Q : Exit → Act → World → Prop} (h : ∀ a w, A a w → B a w) : ∀ e a w, Exit.jump l A Q e a w → Exit.jump l B Q e a w := by
  intro e a w hq
  cases e with
  | goto l' => exact ⟨hq.1, h _ _ hq.2⟩
  | normal => exact hq
  | exit id => exact hq
  | ret => exact hq
  | panic ch => exact hq
  | outgrown => exact hq

/-- A scope that is jumped back in, the measure a number of its own. -/
theorem scope_ghost {P : Program} {c rest : Code} {a : Act} {w : World} {Q : Exit → Act → World → Prop} (l : Nat) (J : Nat → Act → World → Prop) (hf : findLabel c l = some (.seq .skip rest))
    (pass : ∀ n a w, J n a w → rest.wp P (Exit.jump l (fun a' w' => ∃ n', n' < n ∧ J n' a' w') Q) a w)
    (first : (∀ n a w, J n a w → rest.wp P (Exit.jump l (fun a w => ∃ n, J n a w) Q) a w) → c.wp P (Exit.jump l (fun a w => ∃ n, J n a w) Q) a w) : (Code.scope c).wp P Q a w := by
  have key : ∀ a w, ∃ m, (∃ n, J n a w) → J m a w ∧ ∀ k, J k a w → m ≤ k := by
    intro a w
    by_cases h : ∃ n, J n a w
    · obtain ⟨m, hm⟩ := least_of h
      exact ⟨m, fun _ => hm⟩
    · exact ⟨0, fun hh => absurd hh h⟩
  obtain ⟨μ, hμ⟩ : ∃ μ : Act → World → Nat, ∀ a w, (∃ n, J n a w) → J (μ a w) a w ∧ ∀ m, J m a w → μ a w ≤ m :=
    ⟨fun a w => Classical.choose (key a w), fun a w => Classical.choose_spec (key a w)⟩
  refine wp_scope_jumps l (fun a w => ∃ n, J n a w) μ hf (first ?_) ?_
  · intro n a w h
    exact wp_mono (pass n a w h) (jump_mono fun a w ⟨n', _, hn⟩ => ⟨n', hn⟩)
  · intro a w h
    obtain ⟨h1, h2⟩ := hμ a w h
    refine wp_seq (wp_skip ?_)
    refine wp_mono (pass _ a w h1) (jump_mono fun a' w' ⟨n', hlt, hn⟩ => ⟨⟨n', hn⟩, ?_⟩)
    exact Nat.lt_of_le_of_lt ((hμ a' w' ⟨n', hn⟩).2 _ hn) hlt

/-- What holds at the label. -/
def PJ (T : List Int) (at' b : Nat) (w : World) (fu : Nat) (a' : Act) (w' : World) : Prop :=
  ∃ (Lo : List Int) (ao : Option Addr) (cap : Nat) (first : Bool) (R : List Int) (o c n m : Nat) (u7 u8 u9 u10 u11 u12 u13 u14 u15 u16 u17 u18 u19 u20 u21 u22 u23 u24 u25 u26 u27 u28 u29 u30 u31 u32 u33 u34 u35 u36 u37 u38 : Value),
    a' = { tmps := #[.int .i64 at', .slice (some ⟨b, o, none⟩) n c, undef, undef, .slice none 0 0, .slice ao m cap, .bool first, u7, u8, u9, u10, u11, u12, u13, u14, u15, u16, u17, u18, u19, u20, u21, u22, u23, u24, u25, u26, u27, u28, u29, u30, u31, u32, u33, u34, u35, u36, u37, u38], defers := [] } ∧
    n = R.length ∧ m = Lo.length ∧ OwnL w' w.heap.size (.slice ao Lo.length cap) Lo ∧ At w' b o R ∧ R.length ≤ c ∧ Mid T at' fu Lo first R ∧ Below w.heap.size w w'

theorem ownL_made {w : World} {base n : Nat} {v : Value} (h : w.ownsRow base 5 1 v n (madeCells (Value.int .u8 0).cells (n * 1)).toList) : OwnL w base v (List.replicate n 0) := by
  refine ⟨fun x hx => by rw [(List.mem_replicate.1 hx).2]; omega, ?_⟩
  have e : (madeCells (Value.int .u8 0).cells (n * 1)).toList = vb (List.replicate n 0) := by
    simp only [Value.cells, toList_madeCells_one, vb, List.map_replicate, Nat.mul_one]
  rw [e] at h
  simpa using h

set_option maxHeartbeats 1000000 in
theorem piecesFrom_any (at' b off n cap : Nat) (R : List Int) (w : World) (hR : At w b off R) (hn : n = R.length) (hcap : n ≤ cap) (hat : at' ≤ 20000) (hl : R.length ≤ 2000) :
    Calls Try.prog 28 #[.int .i64 at', .slice (some ⟨b, off, none⟩) n cap] w fun e w' => ∃ v, e = .returned v ∧ OwnL w' w.heap.size v (allL at' R) ∧ Below w.heap.size w w' := by
  subst hn
  obtain ⟨i0, hi, hz0, hz1, hz2⟩ := info_parts Try.info5
  have hT := allL_length_le at' R hl
  have hM := Mid.start at' R
  generalize hTT : allL at' R = T at *
  have HT : Hid (allL at' R = T) := hTT
  clear hTT
  go_enter Try.func28, Try.ntmps28
  go_wp2
  refine scope_ghost 0 (PJ T at' b w) rfl ?_ ?_
  · rintro fu a' w' ⟨Lo, ao, cp, first, R1, o1, c1, n1, m1, u7, u8, u9, u10, u11, u12, u13, u14, u15, u16, u17, u18, u19, u20, u21, u22, u23, u24, u25, u26, u27, u28, u29, u30, u31, u32, u33, u34, u35, u36, u37, u38, rfl, rfl, rfl, hown, hA, hc, hmid, hb⟩
    have hlb := lft_bd (at' + Lo.length)
    have hle := hmid.left
    have hbd := hmid.bound
    have hsz := hb.size
    have hne : (Value.slice ao Lo.length cp).ownBlock ≠ some b := fun e => by have := (hown.lt b e).1; have := hR.lt; omega
    have hcall := leftInBlock_any (at' + Lo.length) w' (by omega)
    rw [Int.natCast_add] at hcall
    by_cases hlast : R1.length ≤ lft (at' + Lo.length) - 6
    · have HF : Hid (Lo ++ pieceL (kindN first true) R1 = T) := hmid.last hlast
      clear hmid
      go_wp2_with fail
      refine hcall.mono ?_
      rintro e w'' ⟨rfl, rfl⟩
      clear hcall
      generalize lft (at' + Lo.length) = lf at *
      have e1 : min (R1.length : Int) ((lf : Int) - 6) = (R1.length : Int) := by omega
      go_wp2_with fail
      go_region_with (first | (go_at_call 41; refine (kindOf_any _ _ _).mono ?_; rintro e w3 ⟨rfl, rfl⟩) | (go_at_call 40; refine (appendPiece_any _ Lo w.heap.size _ b o1 R1.length c1 R1 _ (hown.keep (Below.refl _ _).drew) (hA.keep (Below.refl _ _).drew) hne rfl (kindN_bd _ _) (by omega) (by omega) (by simpa using hsz)).mono ?_; rintro e w4 ⟨v4, rfl, ho4, hg4, hn4⟩))
      go_wp2
      simp only [Exit.jump]
      go_ret
      refine ⟨v4, rfl, ?_, ?_⟩
      · rw [← HF.out]; exact ho4
      · exact (hown.keep (Below.refl _ _).drew).below hb.drew hg4 (Nat.le_refl _) (by simpa using hsz)
    · obtain ⟨fu', hfu, hmid'⟩ := hmid.more hlast
      have HM : Hid (Mid T at' fu' (Lo ++ pieceL (kindN first false) (R1.take (lft (at' + Lo.length) - 6))) false (R1.drop (lft (at' + Lo.length) - 6))) := hmid'
      clear hmid hmid'
      go_wp2_with fail
      refine hcall.mono ?_
      rintro e w'' ⟨rfl, rfl⟩
      clear hcall
      generalize lft (at' + Lo.length) = lf at *
      obtain ⟨q, rfl⟩ : ∃ q, lf = q + 6 := ⟨lf - 6, by omega⟩
      rw [Nat.add_sub_cancel] at HM hlast
      have e1 : min (R1.length : Int) (((q + 6 : Nat) : Int) - 6) = (q : Int) := by omega
      have hbe : ((q : Int) == (R1.length : Int)) = false := by simp; omega
      have hqc : q ≤ c1 := by omega
      go_wp2_with fail
      go_region_with (first | (go_at_call 41; refine (kindOf_any _ _ _).mono ?_; rintro e w3 ⟨rfl, rfl⟩) | (go_at_call 40; refine (appendPiece_any _ Lo w.heap.size _ b o1 q c1 (R1.take q) _ (hown.keep (Below.refl _ _).drew) ((hA.take q).keep (Below.refl _ _).drew) hne (by rw [List.length_take]; omega) (kindN_bd _ _) (by rw [List.length_take]; omega) (by omega) (by simpa using hsz)).mono ?_; rintro e w4 ⟨v4, rfl, ho4, hg4, hn4⟩))
      have hA4 := ((hA.drop q).keep (Below.refl _ _).drew).grown hg4 hne
      have hb4 := (hown.keep (Below.refl _ _).drew).below hb.drew hg4 (Nat.le_refl _) (by simpa using hsz)
      obtain ⟨ao4, c4, rfl⟩ := ho4.form
      go_wp2
      go_step3
      exact ⟨rfl, fu', by omega, _, ao4, c4, false, _, _, _, _, _, _, _, _, _, _, _, _, _, _, _, _, _, _, _, _, _, _, _, _, _, _, _, _, _, _, _, _, _, _, _, _, _, rfl, by rw [List.length_drop], by rw [List.length_append], ho4, hA4, by rw [List.length_drop]; omega, HM.out, hb4⟩
  · intro hrest
    go_wp2_with fail
    refine (noughtsAt_any at' _ (by omega)).mono ?_
    rintro e w' ⟨rfl, rfl⟩
    have hng := nog_lt at'
    generalize nog at' = N at *
    go_upto_region 2 with (at_make; refine wpList_make_full _ rfl (.tmp 10) (.tmp 10) 22 rfl w'.heap.size 5 i0 (.int .u8 0) 1 Try.underlying22 hi hz0 hz1 .i64 .i64 _ _ N rfl rfl rfl rfl (by rw [hz2]; omega) (by unfold maxLen; omega) (Nat.le_refl _) ?_; intro w1 hown hgrow)
    have hb1 : Below w'.heap.size w' w1 := (Below.refl _ _).grown hgrow (Nat.le_refl _) (fun k h => by simp at h)
    have hO := ownL_made hown
    rename_i K0 hK0
    have hK1 : ∀ n a w, PJ T at' b w' n a w → K0 a w := fun n a w h => hK0 a w (wp_seq (wp_label (hrest n a w h)))
    clear hK0 hrest
    go_wp2
    refine hK1 (2 * R.length + 2) _ _ ⟨List.replicate N 0, some ⟨w'.heap.size, 0, none⟩, N, true, R, off, cap, _, _, _, _, _, _, _, _, _, _, _, _, _, _, _, _, _, _, _, _, _, _, _, _, _, _, _, _, _, _, _, _, _, _, rfl, rfl, by simp, ?_, hR.keep hb1, hcap, hM, hb1⟩
    simpa using hO

set_option maxHeartbeats 400000 in
theorem logPieces_impl_yes (at' b off n cap : Nat) (R : List Int) (w : World) (hR : At w b off R) (hn : n = R.length) (hcap : n ≤ cap) (hat : at' ≤ 20000) (hl : R.length ≤ 2000) :
    Calls Try.prog 14 #[.int .i64 at', .slice (some ⟨b, off, none⟩) n cap] w fun e w' => ∃ v, e = .returned (.tuple #[v, .bool true]) ∧ OwnL w' w.heap.size v (allL at' R) ∧ Below w.heap.size w w' := by
  have h1 : ¬ (at' : Int) < 0 := by omega
  have h2 : ¬ (20000 : Int) < (at' : Int) := by omega
  have h3 : ¬ (2000 : Int) < (n : Int) := by omega
  have hd1 : decide ((at' : Int) < 0) = false := by simp
  have hd2 : decide ((20000 : Int) < (at' : Int)) = false := by simp; omega
  have HN : Hid (n = R.length) := hn
  clear hn
  go_enter Try.func14, Try.ntmps14
  go_wp2_with fail
  refine (piecesFrom_any at' b off n cap R _ hR HN.out hcap hat hl).mono ?_
  rintro e w1 ⟨v, rfl, ho, hb⟩
  go_wp2
  go_ret2
  exact ⟨v, rfl, ho, hb⟩

set_option maxHeartbeats 400000 in
theorem logPieces_impl_no (a : Int) (ao : Option Addr) (n cap : Nat) (w : World) (ha : -9223372036854775808 ≤ a ∧ a ≤ 9223372036854775807) (hn : n ≤ 1048576) (h : ¬ (0 ≤ a ∧ a ≤ 20000 ∧ n ≤ 2000)) :
    Calls Try.prog 14 #[.int .i64 a, .slice ao n cap] w fun e w' => e = .returned (.tuple #[.slice none 0 0, .bool false]) ∧ w' = w := by
  by_cases h1 : a < 0
  · clear h
    go_enter Try.func14, Try.ntmps14
    go_wp2
    go_ret2
    exact ⟨rfl, rfl⟩
  · have hd1 : decide (a < 0) = false := by simp; omega
    by_cases h2 : 20000 < a
    · clear h
      go_enter Try.func14, Try.ntmps14
      go_wp2
      go_ret2
      exact ⟨rfl, rfl⟩
    · have hd2 : decide (20000 < a) = false := by simp; omega
      have h3 : (2000 : Int) < (n : Int) := by omega
      clear h
      go_enter Try.func14, Try.ntmps14
      go_wp2
      go_ret2
      exact ⟨rfl, rfl⟩
end Go.Proofs.Ytimlggomjjkhlaa
