/- A value and an agg, drawn. / The agg of one value, in the model; an agg, drawn. -/
import Derived.Test.YtmeckcaekkangaaGreatDv
import Derived.Test.YtmeckcaekkangaaGreatOh
import Derived.Test.YtmeckcaekkangaaGreatSj
namespace Go.Proofs.YtmeckcaekkangaaGreat
set_option maxRecDepth 100000
open Go.RowKit
set_option linter.unusedSimpArgs false
set_option linter.unusedVariables false

section
variable {w0 w w' : World} {CB : Nat} {ao : Option Addr} {n cap : Nat} {f : Nat → Int} {A A' : Nat}
theorem value_s (h : CS w w CB ao n cap f A) (hA : A ≤ 900000) :
    Calls Tryz.prog 71 #[.pointer (some ⟨CB, 0, none⟩)] w fun e w' => ∃ v : Int, isV v = true ∧ e = .returned (.int .i64 v) ∧ CS w w' CB ao n cap f (A + 2) := by
  go_enter Tryz.func71, Tryz.ntmps71
  go_wp2_with fail
  refine (one_s 16 (by omega) h (by omega)).mono ?_
  rintro e w1 ⟨b, rfl, K1⟩
  have hl := K1.ltw
  cases b
  · have b2 := below_new w1 (.cells #[.int .i64 0, .int .i64 1, .int .i64 9, .int .i64 10, .int .i64 99, .int .i64 100, .int .i64 1000, .int .i64 99999, .int .i64 100000, .int .i64 (-1), .int .i64 (-50), .int .i64 7] 3)
    have L2 : LiAt (w1.alloc (.cells #[.int .i64 0, .int .i64 1, .int .i64 9, .int .i64 10, .int .i64 99, .int .i64 100, .int .i64 1000, .int .i64 99999, .int .i64 100000, .int .i64 (-1), .int .i64 (-50), .int .i64 7] 3)) w1.heap.size [0, 1, 9, 10, 99, 100, 1000, 99999, 100000, -1, -50, 7] := LiAt.new w1 [0, 1, 9, 10, 99, 100, 1000, 99999, 100000, -1, -50, 7] 3
    have K2 := K1.keep b2
    go_wp2_with fail
    refine (among_s [0, 1, 9, 10, 99, 100, 1000, 99999, 100000, -1, -50, 7] (by decide) w1.heap.size L2 (by omega) K2.self (by omega)).mono ?_
    rintro e w3 ⟨x, hx, rfl, K3⟩
    have KT := K2.trans K3
    have hv0 : isV x = true := by
      simp only [List.mem_cons, List.not_mem_nil, or_false] at hx
      rcases hx with rfl | rfl | rfl | rfl | rfl | rfl | rfl | rfl | rfl | rfl | rfl | rfl <;> decide
    have hv : Hid (isV x = true) := hv0
    clear hv0
    clear hx L2 K2 K3 b2
    go_wp2
    go_ret
    exact ⟨x, hv.out, rfl, KT⟩
  · have b2 := below_new w1 (.cells #[.int .i64 1000000000, .int .i64 (-1000000000), .int .i64 999999999] 3)
    have L2 : LiAt (w1.alloc (.cells #[.int .i64 1000000000, .int .i64 (-1000000000), .int .i64 999999999] 3)) w1.heap.size [1000000000, -1000000000, 999999999] := LiAt.new w1 [1000000000, -1000000000, 999999999] 3
    have K2 := K1.keep b2
    go_wp2_with fail
    refine (among_s [1000000000, -1000000000, 999999999] (by decide) w1.heap.size L2 (by omega) K2.self (by omega)).mono ?_
    rintro e w3 ⟨x, hx, rfl, K3⟩
    have KT := K2.trans K3
    have hv0 : isV x = true := by
      simp only [List.mem_cons, List.not_mem_nil, or_false] at hx
      rcases hx with rfl | rfl | rfl <;> decide
    have hv : Hid (isV x = true) := hv0
    clear hv0
    clear hx L2 K2 K3 b2
    go_wp2
    go_ret
    exact ⟨x, hv.out, rfl, KT⟩
end

theorem bk_bd (v : Int) : 0 ≤ bk v ∧ bk v ≤ 7 := by
  unfold bk
  repeat' split
  all_goals omega
/-- The agg of one value. -/
def ofV (v : Int) (k : Nat) : Ent := ⟨.empty, 0, 0, 1, v, v, v, 8, fun i => if i = k then 1 else 0, false⟩
theorem sum_one (k : Nat) : ∀ n, sumF (fun i => if i = k then 1 else 0) n = if k < n then 1 else 0
  | 0 => by simp [sumF]
  | n + 1 => by
    unfold sumF
    rw [sum_one k n]
    by_cases h1 : k < n
    · have : ¬ n = k := by omega
      simp [h1, this, show k < n + 1 by omega]
    · by_cases h2 : n = k
      · subst h2; simp
      · simp [h1, h2, show ¬ k < n + 1 by omega]
theorem ga_ofV {v : Int} {k : Nat} (hv : isV v = true) (hk : k < 8) : GA (ofV v k) := by
  have hb : -1000000000 ≤ v ∧ v ≤ 1000000000 := by simpa [isV, btw] using hv
  have hs := sum_one k 8
  rw [if_pos hk] at hs
  refine ⟨(by show isC 1 = true; decide), rfl, fun i hi => ?_, fun _ => ⟨hs, ?_, ?_⟩, (fun h => by cases h), (fun h => by have : (1 : Int) = 0 := h; omega), fun _ => ⟨hv, hv, Int.le_refl _⟩⟩
  · show isC (if i = k then 1 else 0) = true
    split <;> decide
  · show -1000000000 * 1 ≤ v
    omega
  · show v ≤ 1000000000 * 1
    omega
end Go.Proofs.YtmeckcaekkangaaGreat
namespace Go.Proofs.YtmeckcaekkangaaGreat
set_option maxRecDepth 100000
open Go.RowKit
set_option linter.unusedSimpArgs false
set_option linter.unusedVariables false

theorem iown_set {w : World} {g n : Nat} {f : Nat → Int} (h : IOwn w g 0 n f) (j : Nat) (hj : j < n) (v : Int) (hv : -9223372036854775808 ≤ v ∧ v ≤ 9223372036854775807) : IOwn (w.setCell ⟨g, j, none⟩ (.int .i64 v)) g 0 n (fun i => if i = j then v else f i) := by
  refine ⟨fun i => ?_, by simpa using h.lt, fun i hi => ?_, fun i hi => by simpa using h.free i hi⟩
  · by_cases e : i = j
    · simp only [e, if_true]; exact hv
    · simp only [e, if_false]; exact h.bd i
  · by_cases e : i = j
    · subst e
      have := h.cell i hi
      simp only [Nat.zero_add] at this ⊢
      rw [World.cell?_setCell_same _ _ _ this]
      simp
    · rw [World.cell?_setCell_other _ _ _ _ (by intro hh; injection hh with _ h2 _; omega), h.cell i hi]
      simp [e]
theorem aat_grown {w w' : World} {b CB : Nat} {c s lo hi : Int} {hv : Value} {fu : Bool} (h : AAt w b c s lo hi hv fu) (g : w.grownBy w' (some CB)) (hne : b ≠ CB) : AAt w' b c s lo hi hv fu :=
  have k : ∀ j, w'.cell? ⟨b, j, none⟩ = w.cell? ⟨b, j, none⟩ := fun j => World.cell?_of_block (w := w) (a := ⟨b, j, none⟩) (g.block b h.lt (fun e => hne (Option.some.inj e)))
  ⟨Nat.lt_of_lt_of_le h.lt g.size, (k _).trans h.c0, (k _).trans h.c1, (k _).trans h.c2, (k _).trans h.c3, (k _).trans h.c4, (k _).trans h.c5⟩
theorem froz_grown {w w' : World} {b CB : Nat} (h : ∀ j, w.frozen? ⟨b, j, none⟩ = false) (hlt : b < w.heap.size) (g : w.grownBy w' (some CB)) (hne : b ≠ CB) : ∀ j, w'.frozen? ⟨b, j, none⟩ = false :=
  fun j => (World.frozen?_of_block (w := w) (a := ⟨b, j, none⟩) (g.block b hlt (fun e => hne (Option.some.inj e)))).trans (h j)
theorem froz_keep {w w' : World} {b : Nat} (h : ∀ j, w.frozen? ⟨b, j, none⟩ = false) (hlt : b < w.heap.size) (hb : Below w.heap.size w w') : ∀ j, w'.frozen? ⟨b, j, none⟩ = false :=
  fun j => (hb.frozen (p := ⟨b, j, none⟩) hlt).trans (h j)
theorem iown_grown {w w' : World} {g n CB : Nat} {f : Nat → Int} (h : IOwn w g 0 n f) (k : w.grownBy w' (some CB)) (hne : g ≠ CB) : IOwn w' g 0 n f :=
  ⟨h.bd, Nat.lt_of_lt_of_le h.lt k.size, fun i hi => k.cell (h.cell i hi) (fun e => hne (Option.some.inj e)), fun i hi => (World.frozen?_of_block (w := w) (a := ⟨g, 0 + i, none⟩) (k.block g h.lt (fun e => hne (Option.some.inj e)))).trans (h.free i hi)⟩

/-- The agg of one value in answer. -/
def OvO (v : Int) (w : World) (e : Ending) (w' : World) : Prop :=
  ∃ k g, k < 8 ∧ e = .returned (.agg #[.int .i64 1, .int .i64 v, .int .i64 v, .int .i64 v, .slice (some ⟨g, 0, none⟩) 8 8, .bool false]) ∧ w.heap.size ≤ g ∧ IOwn w' g 0 8 (ofV v k).f ∧ Below w.heap.size w w'

set_option maxRecDepth 100000 in
set_option maxHeartbeats 2000000 in
theorem l4Of_any (v : Int) (w : World) (hv : isV v = true) : Calls Tryz.prog 70 #[.int .i64 v] w fun e w' => OvO v w e w' := by
  obtain ⟨i0, hi, hz0, hz1, hz2⟩ := info_parts Tryz.infoInt
  have hB := below_new w (.cells #[.int .i64 0, .int .i64 0, .int .i64 0, .int .i64 0, .slice none 0 0, .bool false] 46)
  have N0 := AAt.new w 0 0 0 0 (.slice none 0 0) false 46
  have F0 : ∀ j, (w.alloc (.cells #[.int .i64 0, .int .i64 0, .int .i64 0, .int .i64 0, .slice none 0 0, .bool false] 46)).frozen? ⟨w.heap.size, j, none⟩ = false := fun j => by simp [go_sem]
  obtain ⟨k, hk⟩ := Int.eq_ofNat_of_zero_le (bk_bd v).1
  have hk7 : k < 8 := by have := (bk_bd v).2; omega
  have hkI : (0 : Int) ≤ (k : Int) ∧ (k : Int) < 8 := by omega
  go_enter Tryz.func70, Tryz.ntmps70
  go_wp2_with (at_make; generalize w.alloc (.cells #[.int .i64 0, .int .i64 0, .int .i64 0, .int .i64 0, .slice none 0 0, .bool false] 46) = w0 at hB N0 F0 ⊢; refine wpList_make_full _ rfl (.const (.int .i64 8)) (.const (.int .i64 8)) 44 rfl w0.heap.size 3 i0 (.int .i64 0) 1 Tryz.underlying44 hi hz0 hz1 .i64 .i64 _ _ 8 rfl rfl rfl rfl (by rw [hz2]; omega) (by unfold maxLen; omega) (Nat.le_refl _) ?_; intro w1 hown hgrow; have hb1 : Below w0.heap.size w0 w1 := (Below.refl _ _).grown hgrow (Nat.le_refl _) (fun k h => by simp at h); have N1 := N0.keep hb1; have F1 := froz_keep F0 N0.lt hb1)
  have hlt1 : w0.heap.size < w1.heap.size := by
    rcases hown.2 with ⟨h, _⟩ | ⟨g', cap', cur, h, _, hg, _⟩
    · simp at h
    · simp at h; obtain ⟨rfl, _⟩ := h
      exact (Array.getElem?_eq_some_iff.1 hg).1
  have ho := iown_of_made hown hlt1
  have hl0 := N0.lt
  clear hown hgrow
  have b2 := below_new w1 (.cells #[.int .i64 1, .int .i64 v, .int .i64 v, .int .i64 v, .slice (some ⟨w0.heap.size, 0, none⟩) 8 8, .bool false] 46)
  have N2 := N1.keep b2
  have F2 := froz_keep F1 N1.lt b2
  have H2 := ho.keep b2
  have D2 := AAt.new w1 1 v v v (.slice (some ⟨w0.heap.size, 0, none⟩) 8 8) false 46
  have bw2 : Below w.heap.size w (w1.alloc (.cells #[.int .i64 1, .int .i64 v, .int .i64 v, .int .i64 v, .slice (some ⟨w0.heap.size, 0, none⟩) 8 8, .bool false] 46)) := (hB.trans (hb1.mono hB.size)).trans (b2.mono (Nat.le_trans hB.size hb1.size))
  have sz1 : w1.heap.size < (w1.alloc (.cells #[.int .i64 1, .int .i64 v, .int .i64 v, .int .i64 v, .slice (some ⟨w0.heap.size, 0, none⟩) 8 8, .bool false] 46)).heap.size := by simp
  have wl0 := hB.size
  generalize w1.alloc (.cells #[.int .i64 1, .int .i64 v, .int .i64 v, .int .i64 v, .slice (some ⟨w0.heap.size, 0, none⟩) 8 8, .bool false] 46) = w2 at b2 N2 F2 H2 D2 bw2 sz1 ⊢
  have hc3 := (H2.cell k hk7)
  have hf3 := (H2.free k hk7)
  simp only [Nat.zero_add] at hc3 hf3
  obtain ⟨_, d0, d1, d2, d3, d4, d5⟩ := id D2
  go_region_with (first | (go_at_call 88; refine (l4Bucket_any v _ hv).mono ?_; rintro e w6 ⟨rfl, rfl⟩; rw [hk]))
  all_goals
    have H4 := (iown_set H2 k hk7 1 (by omega)).keep (Below.refl _ _).drew
    have N4 := (N2.others (Others.setCell w2 w0.heap.size k (.int .i64 1)) (by omega)).keep (Below.refl _ _).drew
    have D4 := (D2.others (Others.setCell w2 w0.heap.size k (.int .i64 1)) (by omega)).keep (Below.refl _ _).drew
    have bw4 : Below w.heap.size w (w2.setCell ⟨w0.heap.size, k, none⟩ (.int .i64 1)).drew := (Below.setCell bw2 (by show w.heap.size ≤ w0.heap.size; omega) _).drew
    have F4 : ∀ j, (w2.setCell ⟨w0.heap.size, k, none⟩ (.int .i64 1)).drew.frozen? ⟨w.heap.size, j, none⟩ = false := fun j => by
      show (w2.setCell ⟨w0.heap.size, k, none⟩ (.int .i64 1)).frozen? ⟨w.heap.size, j, none⟩ = false
      rw [World.frozen?_setCell]; exact F2 j
    generalize (w2.setCell ⟨w0.heap.size, k, none⟩ (.int .i64 1)).drew = w4 at H4 N4 D4 bw4 F4 ⊢
    clear d0 d1 d2 d3 d4 d5 D2 N2 H2 F2 hc3 hf3
    obtain ⟨_, d0, d1, d2, d3, d4, d5⟩ := D4
    obtain ⟨_, n0, n1, n2, n3, n4, n5⟩ := N4
    go_wp2
    refine bodyPost_ret (v := .agg #[.int .i64 1, .int .i64 v, .int .i64 v, .int .i64 v, .slice (some ⟨w0.heap.size, 0, none⟩) 8 8, .bool false]) (by simp [results, Tryz.results70, go_sem, n0, n1, n2, n3, n4, n5]) rfl ⟨k, w0.heap.size, hk7, rfl, by omega, ?_, ?_⟩
    · repeat' refine iown_others ?_ (Others.setCell _ _ _ _) (by omega)
      exact H4
    · repeat' refine Below.setCell ?_ (by first | (simp; done) | (simp; omega)) _
      exact bw4
end Go.Proofs.YtmeckcaekkangaaGreat
