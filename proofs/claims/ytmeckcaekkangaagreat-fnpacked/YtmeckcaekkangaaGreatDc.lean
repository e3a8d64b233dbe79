/- A value and an agg, drawn. / The agg of one value, in the model; an agg, drawn. / An agg, drawn. -/
import Derived.Test.YtmeckcaekkangaaGreatDv
import Derived.Test.YtmeckcaekkangaaGreatOh
import Derived.Test.YtmeckcaekkangaaGreatSj
namespace Go.Proofs.YtmeckcaekkangaaGreat
set_option maxRecDepth 100000
open Go.RowKit
set_option linter.unusedSimpArgs false
set_option linter.unusedVariables false

section
variable {w0 w w' : World} {CB : Nat} {ao : Option Addr} {n cap : Nat} {f : Nat → Int} {A A' : Nat}
theorem value_s (h : CS w w CB ao n cap f A) (hA : A ≤ 900000) :
    Calls Tryz.prog 71 #[.pointer (some ⟨CB, 0, none⟩)] w fun e w' => ∃ v : Int, isV v = true ∧ e = .returned (.int .i64 v) ∧ CS w w' CB ao n cap f (A + 2) := by
  go_enter Tryz.func71, Tryz.ntmps71
  go_wp2_with fail
  refine (one_s 16 (by omega) h (by omega)).mono ?_
  rintro e w1 ⟨b, rfl, K1⟩
  have hl := K1.ltw
  cases b
  · have b2 := below_new w1 (.cells #[.int .i64 0, .int .i64 1, .int .i64 9, .int .i64 10, .int .i64 99, .int .i64 100, .int .i64 1000, .int .i64 99999, .int .i64 100000, .int .i64 (-1), .int .i64 (-50), .int .i64 7] 3)
    have L2 : LiAt (w1.alloc (.cells #[.int .i64 0, .int .i64 1, .int .i64 9, .int .i64 10, .int .i64 99, .int .i64 100, .int .i64 1000, .int .i64 99999, .int .i64 100000, .int .i64 (-1), .int .i64 (-50), .int .i64 7] 3)) w1.heap.size [0, 1, 9, 10, 99, 100, 1000, 99999, 100000, -1, -50, 7] := LiAt.new w1 [0, 1, 9, 10, 99, 100, 1000, 99999, 100000, -1, -50, 7] 3
    have K2 := K1.keep b2
    go_wp2_with fail
    refine (among_s [0, 1, 9, 10, 99, 100, 1000, 99999, 100000, -1, -50, 7] (by decide) w1.heap.size L2 (by omega) K2.self (by omega)).mono ?_
    rintro e w3 ⟨x, hx, rfl, K3⟩
    have KT := K2.trans K3
    have hv0 : isV x = true := by
      simp only [List.mem_cons, List.not_mem_nil, or_false] at hx
      rcases hx with rfl | rfl | rfl | rfl | rfl | rfl | rfl | rfl | rfl | rfl | rfl | rfl <;> decide
    have hv : Hid (isV x = true) := hv0
    clear hv0
    clear hx L2 K2 K3 b2
    go_wp2
    go_ret
    exact ⟨x, hv.out, rfl, KT⟩
  · have b2 := below_new w1 (.cells #[.int .i64 1000000000, .int .i64 (-1000000000), .int .i64 999999999] 3)
    have L2 : LiAt (w1.alloc (.cells #[.int .i64 1000000000, .int .i64 (-1000000000), .int .i64 999999999] 3)) w1.heap.size [1000000000, -1000000000, 999999999] := LiAt.new w1 [1000000000, -1000000000, 999999999] 3
    have K2 := K1.keep b2
    go_wp2_with fail
    refine (among_s [1000000000, -1000000000, 999999999] (by decide) w1.heap.size L2 (by omega) K2.self (by omega)).mono ?_
    rintro e w3 ⟨x, hx, rfl, K3⟩
    have KT := K2.trans K3
    have hv0 : isV x = true := by
      simp only [List.mem_cons, List.not_mem_nil, or_false] at hx
      rcases hx with rfl | rfl | rfl <;> decide
    have hv : Hid (isV x = true) := hv0
    clear hv0
    clear hx L2 K2 K3 b2
    go_wp2
    go_ret
    exact ⟨x, hv.out, rfl, KT⟩
end

theorem bk_bd (v : Int) : 0 ≤ bk v ∧ bk v ≤ 7 := by
  unfold bk
  repeat' split
  all_goals omega
/-- The agg of one value. -/
def ofV (v : Int) (k : Nat) : Ent := ⟨.empty, 0, 0, 1, v, v, v, 8, fun i => if i = k then 1 else 0, false⟩
theorem sum_one (k : Nat) : ∀ n, sumF (fun i => if i = k then 1 else 0) n = if k < n then 1 else 0
  | 0 => by simp [sumF]
  | n + 1 => by
    unfold sumF
    rw [sum_one k n]
    by_cases h1 : k < n
    · have : ¬ n = k := by omega
      simp [h1, this, show k < n + 1 by omega]
    · by_cases h2 : n = k
      · subst h2; simp
      · simp [h1, h2, show ¬ k < n + 1 by omega]
theorem ga_ofV {v : Int} {k : Nat} (hv : isV v = true) (hk : k < 8) : GA (ofV v k) := by
  have hb : -1000000000 ≤ v ∧ v ≤ 1000000000 := by simpa [isV, btw] using hv
  have hs := sum_one k 8
  rw [if_pos hk] at hs
  refine ⟨(by show isC 1 = true; decide), rfl, fun i hi => ?_, fun _ => ⟨hs, ?_, ?_⟩, (fun h => by cases h), (fun h => by have : (1 : Int) = 0 := h; omega), fun _ => ⟨hv, hv, Int.le_refl _⟩⟩
  · show isC (if i = k then 1 else 0) = true
    split <;> decide
  · show -1000000000 * 1 ≤ v
    omega
  · show v ≤ 1000000000 * 1
    omega
end Go.Proofs.YtmeckcaekkangaaGreat
namespace Go.Proofs.YtmeckcaekkangaaGreat
set_option maxRecDepth 100000
open Go.RowKit
set_option linter.unusedSimpArgs false
set_option linter.unusedVariables false

theorem iown_set {w : World} {g n : Nat} {f : Nat → Int} (h : IOwn w g 0 n f) (j : Nat) (hj : j < n) (v : Int) (hv : -9223372036854775808 ≤ v ∧ v ≤ 9223372036854775807) : IOwn (w.setCell ⟨g, j, none⟩ (.int .i64 v)) g 0 n (fun i => if i = j then v else f i) := by
  refine ⟨fun i => ?_, by simpa using h.lt, fun i hi => ?_, fun i hi => by simpa using h.free i hi⟩
  · by_cases e : i = j
    · simp only [e, if_true]; exact hv
    · simp only [e, if_false]; exact h.bd i
  · by_cases e : i = j
    · subst e
      have := h.cell i hi
      simp only [Nat.zero_add] at this ⊢
      rw [World.cell?_setCell_same _ _ _ this]
      simp
    · rw [World.cell?_setCell_other _ _ _ _ (by intro hh; injection hh with _ h2 _; omega), h.cell i hi]
      simp [e]
theorem aat_grown {w w' : World} {b CB : Nat} {c s lo hi : Int} {hv : Value} {fu : Bool} (h : AAt w b c s lo hi hv fu) (g : w.grownBy w' (some CB)) (hne : b ≠ CB) : AAt w' b c s lo hi hv fu :=
  have k : ∀ j, w'.cell? ⟨b, j, none⟩ = w.cell? ⟨b, j, none⟩ := fun j => World.cell?_of_block (w := w) (a := ⟨b, j, none⟩) (g.block b h.lt (fun e => hne (Option.some.inj e)))
  ⟨Nat.lt_of_lt_of_le h.lt g.size, (k _).trans h.c0, (k _).trans h.c1, (k _).trans h.c2, (k _).trans h.c3, (k _).trans h.c4, (k _).trans h.c5⟩
theorem froz_grown {w w' : World} {b CB : Nat} (h : ∀ j, w.frozen? ⟨b, j, none⟩ = false) (hlt : b < w.heap.size) (g : w.grownBy w' (some CB)) (hne : b ≠ CB) : ∀ j, w'.frozen? ⟨b, j, none⟩ = false :=
  fun j => (World.frozen?_of_block (w := w) (a := ⟨b, j, none⟩) (g.block b hlt (fun e => hne (Option.some.inj e)))).trans (h j)
theorem froz_keep {w w' : World} {b : Nat} (h : ∀ j, w.frozen? ⟨b, j, none⟩ = false) (hlt : b < w.heap.size) (hb : Below w.heap.size w w') : ∀ j, w'.frozen? ⟨b, j, none⟩ = false :=
  fun j => (hb.frozen (p := ⟨b, j, none⟩) hlt).trans (h j)
theorem iown_grown {w w' : World} {g n CB : Nat} {f : Nat → Int} (h : IOwn w g 0 n f) (k : w.grownBy w' (some CB)) (hne : g ≠ CB) : IOwn w' g 0 n f :=
  ⟨h.bd, Nat.lt_of_lt_of_le h.lt k.size, fun i hi => k.cell (h.cell i hi) (fun e => hne (Option.some.inj e)), fun i hi => (World.frozen?_of_block (w := w) (a := ⟨g, 0 + i, none⟩) (k.block g h.lt (fun e => hne (Option.some.inj e)))).trans (h.free i hi)⟩

/-- The agg of one value in answer. -/
def OvO (v : Int) (w : World) (e : Ending) (w' : World) : Prop :=
  ∃ k g, k < 8 ∧ e = .returned (.agg #[.int .i64 1, .int .i64 v, .int .i64 v, .int .i64 v, .slice (some ⟨g, 0, none⟩) 8 8, .bool false]) ∧ w.heap.size ≤ g ∧ IOwn w' g 0 8 (ofV v k).f ∧ Below w.heap.size w w'

set_option maxRecDepth 100000 in
set_option maxHeartbeats 2000000 in
theorem l4Of_any (v : Int) (w : World) (hv : isV v = true) : Calls Tryz.prog 70 #[.int .i64 v] w fun e w' => OvO v w e w' := by
  obtain ⟨i0, hi, hz0, hz1, hz2⟩ := info_parts Tryz.infoInt
  have hB := below_new w (.cells #[.int .i64 0, .int .i64 0, .int .i64 0, .int .i64 0, .slice none 0 0, .bool false] 46)
  have N0 := AAt.new w 0 0 0 0 (.slice none 0 0) false 46
  have F0 : ∀ j, (w.alloc (.cells #[.int .i64 0, .int .i64 0, .int .i64 0, .int .i64 0, .slice none 0 0, .bool false] 46)).frozen? ⟨w.heap.size, j, none⟩ = false := fun j => by simp [go_sem]
  obtain ⟨k, hk⟩ := Int.eq_ofNat_of_zero_le (bk_bd v).1
  have hk7 : k < 8 := by have := (bk_bd v).2; omega
  have hkI : (0 : Int) ≤ (k : Int) ∧ (k : Int) < 8 := by omega
  go_enter Tryz.func70, Tryz.ntmps70
  go_wp2_with (at_make; generalize w.alloc (.cells #[.int .i64 0, .int .i64 0, .int .i64 0, .int .i64 0, .slice none 0 0, .bool false] 46) = w0 at hB N0 F0 ⊢; refine wpList_make_full _ rfl (.const (.int .i64 8)) (.const (.int .i64 8)) 44 rfl w0.heap.size 3 i0 (.int .i64 0) 1 Tryz.underlying44 hi hz0 hz1 .i64 .i64 _ _ 8 rfl rfl rfl rfl (by rw [hz2]; omega) (by unfold maxLen; omega) (Nat.le_refl _) ?_; intro w1 hown hgrow; have hb1 : Below w0.heap.size w0 w1 := (Below.refl _ _).grown hgrow (Nat.le_refl _) (fun k h => by simp at h); have N1 := N0.keep hb1; have F1 := froz_keep F0 N0.lt hb1)
  have hlt1 : w0.heap.size < w1.heap.size := by
    rcases hown.2 with ⟨h, _⟩ | ⟨g', cap', cur, h, _, hg, _⟩
    · simp at h
    · simp at h; obtain ⟨rfl, _⟩ := h
      exact (Array.getElem?_eq_some_iff.1 hg).1
  have ho := iown_of_made hown hlt1
  have hl0 := N0.lt
  clear hown hgrow
  have b2 := below_new w1 (.cells #[.int .i64 1, .int .i64 v, .int .i64 v, .int .i64 v, .slice (some ⟨w0.heap.size, 0, none⟩) 8 8, .bool false] 46)
  have N2 := N1.keep b2
  have F2 := froz_keep F1 N1.lt b2
  have H2 := ho.keep b2
  have D2 := AAt.new w1 1 v v v (.slice (some ⟨w0.heap.size, 0, none⟩) 8 8) false 46
  have bw2 : Below w.heap.size w (w1.alloc (.cells #[.int .i64 1, .int .i64 v, .int .i64 v, .int .i64 v, .slice (some ⟨w0.heap.size, 0, none⟩) 8 8, .bool false] 46)) := (hB.trans (hb1.mono hB.size)).trans (b2.mono (Nat.le_trans hB.size hb1.size))
  have sz1 : w1.heap.size < (w1.alloc (.cells #[.int .i64 1, .int .i64 v, .int .i64 v, .int .i64 v, .slice (some ⟨w0.heap.size, 0, none⟩) 8 8, .bool false] 46)).heap.size := by simp
  have wl0 := hB.size
  generalize w1.alloc (.cells #[.int .i64 1, .int .i64 v, .int .i64 v, .int .i64 v, .slice (some ⟨w0.heap.size, 0, none⟩) 8 8, .bool false] 46) = w2 at b2 N2 F2 H2 D2 bw2 sz1 ⊢
  have hc3 := (H2.cell k hk7)
  have hf3 := (H2.free k hk7)
  simp only [Nat.zero_add] at hc3 hf3
  obtain ⟨_, d0, d1, d2, d3, d4, d5⟩ := id D2
  go_region_with (first | (go_at_call 88; refine (l4Bucket_any v _ hv).mono ?_; rintro e w6 ⟨rfl, rfl⟩; rw [hk]))
  all_goals
    have H4 := (iown_set H2 k hk7 1 (by omega)).keep (Below.refl _ _).drew
    have N4 := (N2.others (Others.setCell w2 w0.heap.size k (.int .i64 1)) (by omega)).keep (Below.refl _ _).drew
    have D4 := (D2.others (Others.setCell w2 w0.heap.size k (.int .i64 1)) (by omega)).keep (Below.refl _ _).drew
    have bw4 : Below w.heap.size w (w2.setCell ⟨w0.heap.size, k, none⟩ (.int .i64 1)).drew := (Below.setCell bw2 (by show w.heap.size ≤ w0.heap.size; omega) _).drew
    have F4 : ∀ j, (w2.setCell ⟨w0.heap.size, k, none⟩ (.int .i64 1)).drew.frozen? ⟨w.heap.size, j, none⟩ = false := fun j => by
      show (w2.setCell ⟨w0.heap.size, k, none⟩ (.int .i64 1)).frozen? ⟨w.heap.size, j, none⟩ = false
      rw [World.frozen?_setCell]; exact F2 j
    generalize (w2.setCell ⟨w0.heap.size, k, none⟩ (.int .i64 1)).drew = w4 at H4 N4 D4 bw4 F4 ⊢
    clear d0 d1 d2 d3 d4 d5 D2 N2 H2 F2 hc3 hf3
    obtain ⟨_, d0, d1, d2, d3, d4, d5⟩ := D4
    obtain ⟨_, n0, n1, n2, n3, n4, n5⟩ := N4
    go_wp2
    refine bodyPost_ret (v := .agg #[.int .i64 1, .int .i64 v, .int .i64 v, .int .i64 v, .slice (some ⟨w0.heap.size, 0, none⟩) 8 8, .bool false]) (by simp [results, Tryz.results70, go_sem, n0, n1, n2, n3, n4, n5]) rfl ⟨k, w0.heap.size, hk7, rfl, by omega, ?_, ?_⟩
    · repeat' refine iown_others ?_ (Others.setCell _ _ _ _) (by omega)
      exact H4
    · repeat' refine Below.setCell ?_ (by first | (simp; done) | (simp; omega)) _
      exact bw4
end Go.Proofs.YtmeckcaekkangaaGreat
namespace Go.Proofs.YtmeckcaekkangaaGreat
set_option maxRecDepth 100000
open Go.RowKit
set_option linter.unusedSimpArgs false
set_option linter.unusedVariables false

theorem step_storeV {w : World} {ops : Array Oper} {o : Oper} {a : Act} {K : Act → World → Prop} {Q : Exit → Act → World → Prop} {E : Prop} (hgd : o.guard = none) (k j : Nat)
    (ho : o.op = .store 46 (.tmp k) (.tmp j)) (b : Nat) (c s lo hi : Int) (hv : Value) (fu : Bool) (u0 u1 u2 u3 u5 : Value) (ha : Option Addr) (hn hc : Nat) (hx : a.eval (.tmp k) = .pointer (some ⟨b, 0, none⟩)) (hve : a.eval (.tmp j) = .agg #[.int .i64 c, .int .i64 s, .int .i64 lo, .int .i64 hi, .slice ha hn hc, .bool fu]) (h0 : w.cell? ⟨b, 0, none⟩ = some u0) (h1 : w.cell? ⟨b, 1, none⟩ = some u1) (h2 : w.cell? ⟨b, 2, none⟩ = some u2) (h3 : w.cell? ⟨b, 3, none⟩ = some u3) (h4 : w.cell? ⟨b, 4, none⟩ = some hv) (h5 : w.cell? ⟨b, 5, none⟩ = some u5) (hf : ∀ i, w.frozen? ⟨b, i, none⟩ = false)
    (h : K (a.put o.dst undef) ((((((w.setCell ⟨b, 0, none⟩ (.int .i64 c)).setCell ⟨b, 1, none⟩ (.int .i64 s)).setCell ⟨b, 2, none⟩ (.int .i64 lo)).setCell ⟨b, 3, none⟩ (.int .i64 hi)).setCell ⟨b, 4, none⟩ (.slice ha hn hc)).setCell ⟨b, 5, none⟩ (.bool fu))) :
    if Region.wanted o (yielded ops a.tmps) = true then Oper.wp Tryz.prog o a w K Q else E := by
  have hw : Region.wanted o (yielded ops a.tmps) = true := by simp [Region.wanted, hgd]
  rw [if_pos hw]
  have hx' : a.tmps.getD k undef = .pointer (some ⟨b, 0, none⟩) := hx
  have hv' : a.tmps.getD j undef = .agg #[.int .i64 c, .int .i64 s, .int .i64 lo, .int .i64 hi, .slice ha hn hc, .bool fu] := hve
  have f0 := hf 0
  have f1 := hf 1
  have f2 := hf 2
  have f3 := hf 3
  have f4 := hf 4
  have f5 := hf 5
  unfold Oper.wp execOp
  simp only [ho, Act.eval, hx', hv']
  go_simp
  exact h

/-- An agg at work: R the result's box, D its own. -/
structure AW (w w' : World) (R D CB : Nat) (ao : Option Addr) (n cap : Nat) (f : Nat → Int) (A : Nat) (y : Ent) (g gc : Nat) : Prop where
  C : CS w w' CB ao n cap f A
  RA : AAt w' R 0 0 0 0 (.slice none 0 0) false
  RF : ∀ j, w'.frozen? ⟨R, j, none⟩ = false
  DA : AAt w' D y.c y.s y.lo y.hi (.slice (some ⟨g, 0, none⟩) 8 gc) y.fu
  DF : ∀ j, w'.frozen? ⟨D, j, none⟩ = false
  H : IOwn w' g 0 8 y.f
  ne : w.heap.size ≤ R ∧ w.heap.size ≤ D ∧ w.heap.size ≤ g ∧ R ≠ D ∧ g ≠ D ∧ g ≠ R ∧ 8 ≤ gc
section
variable {w w' w'' : World} {R D CB : Nat} {ao : Option Addr} {n cap : Nat} {f : Nat → Int} {A A' : Nat} {y : Ent} {g gc : Nat}
theorem AW.draw (h : AW w w' R D CB ao n cap f A y g gc) (k : CS w' w'' CB ao n cap f A') : AW w w'' R D CB ao n cap f A' y g gc := by
  have hl := h.C.lt
  have hn := h.ne
  exact ⟨h.C.trans k, aat_grown h.RA k.gr (by omega), froz_grown h.RF h.RA.lt k.gr (by omega), aat_grown h.DA k.gr (by omega), froz_grown h.DF h.DA.lt k.gr (by omega), iown_grown h.H k.gr (by omega), hn⟩
theorem AW.keep (h : AW w w' R D CB ao n cap f A y g gc) (hb : Below w'.heap.size w' w'') : AW w w'' R D CB ao n cap f A y g gc :=
  ⟨h.C.keep hb, h.RA.keep hb, froz_keep h.RF h.RA.lt hb, h.DA.keep hb, froz_keep h.DF h.DA.lt hb, h.H.keep hb, h.ne⟩
theorem AW.put (h : AW w w' R D CB ao n cap f A y g gc) {y' : Ent} {g' gc' : Nat} (ho : IOwn w' g' 0 8 y'.f) (hg : w.heap.size ≤ g' ∧ g' ≠ D ∧ g' ≠ R ∧ 8 ≤ gc') :
    AW w ((((((w'.setCell ⟨D, 0, none⟩ (.int .i64 y'.c)).setCell ⟨D, 1, none⟩ (.int .i64 y'.s)).setCell ⟨D, 2, none⟩ (.int .i64 y'.lo)).setCell ⟨D, 3, none⟩ (.int .i64 y'.hi)).setCell ⟨D, 4, none⟩ (.slice (some ⟨g', 0, none⟩) 8 gc')).setCell ⟨D, 5, none⟩ (.bool y'.fu)) R D CB ao n cap f A y' g' gc' := by
  have ot : Others D w' ((((((w'.setCell ⟨D, 0, none⟩ (.int .i64 y'.c)).setCell ⟨D, 1, none⟩ (.int .i64 y'.s)).setCell ⟨D, 2, none⟩ (.int .i64 y'.lo)).setCell ⟨D, 3, none⟩ (.int .i64 y'.hi)).setCell ⟨D, 4, none⟩ (.slice (some ⟨g', 0, none⟩) 8 gc')).setCell ⟨D, 5, none⟩ (.bool y'.fu)) := (((((Others.setCell _ _ _ _).trans (Others.setCell _ _ _ _)).trans (Others.setCell _ _ _ _)).trans (Others.setCell _ _ _ _)).trans (Others.setCell _ _ _ _)).trans (Others.setCell _ _ _ _)
  have hn := h.ne
  have d := h.DA
  refine ⟨h.C.others ot (by omega), h.RA.others ot (by omega), fun j => (World.frozen?_of_block (w := w') (a := ⟨R, j, none⟩) (ot.block R (by omega))).trans (h.RF j), ⟨by rw [ot.size]; exact d.lt, ?_, ?_, ?_, ?_, ?_, ?_⟩, fun j => by simp only [World.frozen?_setCell]; exact h.DF j, iown_others ho ot (by omega), by omega⟩
  all_goals simp [go_sem, d.c0, d.c1, d.c2, d.c3, d.c4, d.c5]
theorem AW.set0 (h : AW w w' R D CB ao n cap f A y g gc) (v : Int) : AW w (w'.setCell ⟨D, 0, none⟩ (.int .i64 v)) R D CB ao n cap f A { y with c := v } g gc := by
  have ot : Others D w' (w'.setCell ⟨D, 0, none⟩ (.int .i64 v)) := Others.setCell _ _ _ _
  have hn := h.ne
  have d := h.DA
  refine ⟨h.C.others ot (by omega), h.RA.others ot (by omega), fun j => (World.frozen?_of_block (w := w') (a := ⟨R, j, none⟩) (ot.block R (by omega))).trans (h.RF j), ⟨by rw [ot.size]; exact d.lt, ?_, ?_, ?_, ?_, ?_, ?_⟩, fun j => by simp only [World.frozen?_setCell]; exact h.DF j, iown_others h.H ot (by omega), by omega⟩
  all_goals simp [go_sem, d.c0, d.c1, d.c2, d.c3, d.c4, d.c5]
theorem AW.set2 (h : AW w w' R D CB ao n cap f A y g gc) (v : Int) : AW w (w'.setCell ⟨D, 2, none⟩ (.int .i64 v)) R D CB ao n cap f A { y with lo := v } g gc := by
  have ot : Others D w' (w'.setCell ⟨D, 2, none⟩ (.int .i64 v)) := Others.setCell _ _ _ _
  have hn := h.ne
  have d := h.DA
  refine ⟨h.C.others ot (by omega), h.RA.others ot (by omega), fun j => (World.frozen?_of_block (w := w') (a := ⟨R, j, none⟩) (ot.block R (by omega))).trans (h.RF j), ⟨by rw [ot.size]; exact d.lt, ?_, ?_, ?_, ?_, ?_, ?_⟩, fun j => by simp only [World.frozen?_setCell]; exact h.DF j, iown_others h.H ot (by omega), by omega⟩
  all_goals simp [go_sem, d.c0, d.c1, d.c2, d.c3, d.c4, d.c5]
theorem AW.set5 (h : AW w w' R D CB ao n cap f A y g gc) (v : Bool) : AW w (w'.setCell ⟨D, 5, none⟩ (.bool v)) R D CB ao n cap f A { y with fu := v } g gc := by
  have ot : Others D w' (w'.setCell ⟨D, 5, none⟩ (.bool v)) := Others.setCell _ _ _ _
  have hn := h.ne
  have d := h.DA
  refine ⟨h.C.others ot (by omega), h.RA.others ot (by omega), fun j => (World.frozen?_of_block (w := w') (a := ⟨R, j, none⟩) (ot.block R (by omega))).trans (h.RF j), ⟨by rw [ot.size]; exact d.lt, ?_, ?_, ?_, ?_, ?_, ?_⟩, fun j => by simp only [World.frozen?_setCell]; exact h.DF j, iown_others h.H ot (by omega), by omega⟩
  all_goals simp [go_sem, d.c0, d.c1, d.c2, d.c3, d.c4, d.c5]
theorem AW.setH (h : AW w w' R D CB ao n cap f A y g gc) (v : Int) (hv : -9223372036854775808 ≤ v ∧ v ≤ 9223372036854775807) : AW w (w'.setCell ⟨g, 3, none⟩ (.int .i64 v)) R D CB ao n cap f A { y with f := fun i => if i = 3 then v else y.f i } g gc := by
  have ot : Others g w' (w'.setCell ⟨g, 3, none⟩ (.int .i64 v)) := Others.setCell _ _ _ _
  have hn := h.ne
  exact ⟨h.C.others ot (by omega), h.RA.others ot (by omega), fun j => (World.frozen?_of_block (w := w') (a := ⟨R, j, none⟩) (ot.block R (by omega))).trans (h.RF j), h.DA.others ot (by omega), fun j => (World.frozen?_of_block (w := w') (a := ⟨D, j, none⟩) (ot.block D (by omega))).trans (h.DF j), iown_set h.H 3 (by omega) v hv, hn⟩
end
end Go.Proofs.YtmeckcaekkangaaGreat
