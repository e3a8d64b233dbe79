/- A value and an agg, drawn. / The agg of one value, in the model; an agg, drawn. / An agg, drawn. / An agg, drawn: the walk. / An entry, drawn. / An entry, drawn: the walk. / Whether a Seq is there, in the program. / The place of an entry, in the program: the path over ways of which all are the lowest. / addEntries of many entries, in the program. / PutEntry, in the program. / l5Put: an entry at its place, in the model. / PutEntry, in the model. / Entries, drawn. / What the law holds against one another: ints, aggs, entries. / Entries held against one another. -/
import Derived.Test.YtohjjigkfdhklaaGreatFBk
import Derived.Test.YtohjjigkfdhklaaGreatFSj
import Derived.Test.YtohjjigkfdhklaaGreatRa
import Derived.Deep.CutRange
import Derived.Deep.DeepCutAuto
import Derived.Laws.BytesArg
import Derived.Deep.CutBlock
import Derived.Test.YtohjjigkfdhklaaGreatGoI
import Derived.Laws.EntriesVeiled
import Derived.Test.YtohjjigkfdhklaaGreatIL
import Derived.Deep.RegionHeld3
import Derived.Deep.RegionWith
import Derived.Test.YtohjjigkfdhklaaGreatAd
import Derived.Test.YtohjjigkfdhklaaGreatOf
import Derived.Test.YtohjjigkfdhklaaGreatGe
import Derived.Test.YtohjjigkfdhklaaGreatBef
import Derived.Test.YtohjjigkfdhklaaGreatOe
import Derived.BigQuiet
namespace Go.Proofs.YtohjjigkfdhklaaGreat
set_option maxRecDepth 100000
open Go.RowKit
set_option linter.unusedSimpArgs false
set_option linter.unusedVariables false

section
variable {w0 w w' : World} {CB : Nat} {ao : Option Addr} {n cap : Nat} {f : Nat → Int} {A A' : Nat}
theorem value_s (h : CS w w CB ao n cap f A) (hA : A ≤ 900000) :
    Calls Tryz.prog 117 #[.pointer (some ⟨CB, 0, none⟩)] w fun e w' => ∃ v : Int, isV v = true ∧ e = .returned (.int .i64 v) ∧ CS w w' CB ao n cap f (A + 2) := by
  go_enter Tryz.func117, Tryz.ntmps117
  go_wp2_with fail
  refine (one_s 16 (by omega) h (by omega)).mono ?_
  rintro e w1 ⟨b, rfl, K1⟩
  have hl := K1.ltw
  cases b
  · have b2 := below_new w1 (.cells #[.int .i64 0, .int .i64 1, .int .i64 9, .int .i64 10, .int .i64 99, .int .i64 100, .int .i64 1000, .int .i64 99999, .int .i64 100000, .int .i64 (-1), .int .i64 (-50), .int .i64 7] 3)
    have L2 : LiAt (w1.alloc (.cells #[.int .i64 0, .int .i64 1, .int .i64 9, .int .i64 10, .int .i64 99, .int .i64 100, .int .i64 1000, .int .i64 99999, .int .i64 100000, .int .i64 (-1), .int .i64 (-50), .int .i64 7] 3)) w1.heap.size [0, 1, 9, 10, 99, 100, 1000, 99999, 100000, -1, -50, 7] := LiAt.new w1 [0, 1, 9, 10, 99, 100, 1000, 99999, 100000, -1, -50, 7] 3
    have K2 := K1.keep b2
    go_wp2_with fail
    refine (among_s [0, 1, 9, 10, 99, 100, 1000, 99999, 100000, -1, -50, 7] (by decide) w1.heap.size L2 (by omega) K2.self (by omega)).mono ?_
    rintro e w3 ⟨x, hx, rfl, K3⟩
    have KT := K2.trans K3
    have hv0 : isV x = true := by
      simp only [List.mem_cons, List.not_mem_nil, or_false] at hx
      rcases hx with rfl | rfl | rfl | rfl | rfl | rfl | rfl | rfl | rfl | rfl | rfl | rfl <;> decide
    have hv : Hid (isV x = true) := hv0
    clear hv0
    clear hx L2 K2 K3 b2
    go_wp2
    go_ret
    exact ⟨x, hv.out, rfl, KT⟩
  · have b2 := below_new w1 (.cells #[.int .i64 1000000000, .int .i64 (-1000000000), .int .i64 999999999] 3)
    have L2 : LiAt (w1.alloc (.cells #[.int .i64 1000000000, .int .i64 (-1000000000), .int .i64 999999999] 3)) w1.heap.size [1000000000, -1000000000, 999999999] := LiAt.new w1 [1000000000, -1000000000, 999999999] 3
    have K2 := K1.keep b2
    go_wp2_with fail
    refine (among_s [1000000000, -1000000000, 999999999] (by decide) w1.heap.size L2 (by omega) K2.self (by omega)).mono ?_
    rintro e w3 ⟨x, hx, rfl, K3⟩
    have KT := K2.trans K3
    have hv0 : isV x = true := by
      simp only [List.mem_cons, List.not_mem_nil, or_false] at hx
      rcases hx with rfl | rfl | rfl <;> decide
    have hv : Hid (isV x = true) := hv0
    clear hv0
    clear hx L2 K2 K3 b2
    go_wp2
    go_ret
    exact ⟨x, hv.out, rfl, KT⟩
end

theorem bk_bd (v : Int) : 0 ≤ bk v ∧ bk v ≤ 7 := by
  unfold bk
  repeat' split
  all_goals omega
/-- The agg of one value. -/
def ofV (v : Int) (k : Nat) : Ent := ⟨.empty, 0, 0, 1, v, v, v, 8, fun i => if i = k then 1 else 0, false⟩
theorem sum_one (k : Nat) : ∀ n, sumF (fun i => if i = k then 1 else 0) n = if k < n then 1 else 0
  | 0 => by simp [sumF]
  | n + 1 => by
    unfold sumF
    rw [sum_one k n]
    by_cases h1 : k < n
    · have : ¬ n = k := by omega
      simp [h1, this, show k < n + 1 by omega]
    · by_cases h2 : n = k
      · subst h2; simp
      · simp [h1, h2, show ¬ k < n + 1 by omega]
theorem ga_ofV {v : Int} {k : Nat} (hv : isV v = true) (hk : k < 8) : GA (ofV v k) := by
  have hb : -1000000000 ≤ v ∧ v ≤ 1000000000 := by simpa [isV, btw] using hv
  have hs := sum_one k 8
  rw [if_pos hk] at hs
  refine ⟨(by show isC 1 = true; decide), rfl, fun i hi => ?_, fun _ => ⟨hs, ?_, ?_⟩, (fun h => by cases h), (fun h => by have : (1 : Int) = 0 := h; omega), fun _ => ⟨hv, hv, Int.le_refl _⟩⟩
  · show isC (if i = k then 1 else 0) = true
    split <;> decide
  · show -1000000000 * 1 ≤ v
    omega
  · show v ≤ 1000000000 * 1
    omega
end Go.Proofs.YtohjjigkfdhklaaGreat
namespace Go.Proofs.YtohjjigkfdhklaaGreat
set_option maxRecDepth 100000
open Go.RowKit
set_option linter.unusedSimpArgs false
set_option linter.unusedVariables false

theorem iown_set {w : World} {g n : Nat} {f : Nat → Int} (h : IOwn w g 0 n f) (j : Nat) (hj : j < n) (v : Int) (hv : -9223372036854775808 ≤ v ∧ v ≤ 9223372036854775807) : IOwn (w.setCell ⟨g, j, none⟩ (.int .i64 v)) g 0 n (fun i => if i = j then v else f i) := by
  refine ⟨fun i => ?_, by simpa using h.lt, fun i hi => ?_, fun i hi => by simpa using h.free i hi⟩
  · by_cases e : i = j
    · simp only [e, if_true]; exact hv
    · simp only [e, if_false]; exact h.bd i
  · by_cases e : i = j
    · subst e
      have := h.cell i hi
      simp only [Nat.zero_add] at this ⊢
      rw [World.cell?_setCell_same _ _ _ this]
      simp
    · rw [World.cell?_setCell_other _ _ _ _ (by intro hh; injection hh with _ h2 _; omega), h.cell i hi]
      simp [e]
theorem aat_grown {w w' : World} {b CB : Nat} {c s lo hi : Int} {hv : Value} {fu : Bool} (h : AAt w b c s lo hi hv fu) (g : w.grownBy w' (some CB)) (hne : b ≠ CB) : AAt w' b c s lo hi hv fu :=
  have k : ∀ j, w'.cell? ⟨b, j, none⟩ = w.cell? ⟨b, j, none⟩ := fun j => World.cell?_of_block (w := w) (a := ⟨b, j, none⟩) (g.block b h.lt (fun e => hne (Option.some.inj e)))
  ⟨Nat.lt_of_lt_of_le h.lt g.size, (k _).trans h.c0, (k _).trans h.c1, (k _).trans h.c2, (k _).trans h.c3, (k _).trans h.c4, (k _).trans h.c5⟩
theorem froz_grown {w w' : World} {b CB : Nat} (h : ∀ j, w.frozen? ⟨b, j, none⟩ = false) (hlt : b < w.heap.size) (g : w.grownBy w' (some CB)) (hne : b ≠ CB) : ∀ j, w'.frozen? ⟨b, j, none⟩ = false :=
  fun j => (World.frozen?_of_block (w := w) (a := ⟨b, j, none⟩) (g.block b hlt (fun e => hne (Option.some.inj e)))).trans (h j)
theorem froz_keep {w w' : World} {b : Nat} (h : ∀ j, w.frozen? ⟨b, j, none⟩ = false) (hlt : b < w.heap.size) (hb : Below w.heap.size w w') : ∀ j, w'.frozen? ⟨b, j, none⟩ = false :=
  fun j => (hb.frozen (p := ⟨b, j, none⟩) hlt).trans (h j)
theorem iown_grown {w w' : World} {g n CB : Nat} {f : Nat → Int} (h : IOwn w g 0 n f) (k : w.grownBy w' (some CB)) (hne : g ≠ CB) : IOwn w' g 0 n f :=
  ⟨h.bd, Nat.lt_of_lt_of_le h.lt k.size, fun i hi => k.cell (h.cell i hi) (fun e => hne (Option.some.inj e)), fun i hi => (World.frozen?_of_block (w := w) (a := ⟨g, 0 + i, none⟩) (k.block g h.lt (fun e => hne (Option.some.inj e)))).trans (h.free i hi)⟩

/-- The agg of one value in answer. -/
def OvO (v : Int) (w : World) (e : Ending) (w' : World) : Prop :=
  ∃ k g, k < 8 ∧ e = .returned (.agg #[.int .i64 1, .int .i64 v, .int .i64 v, .int .i64 v, .slice (some ⟨g, 0, none⟩) 8 8, .bool false]) ∧ w.heap.size ≤ g ∧ IOwn w' g 0 8 (ofV v k).f ∧ Below w.heap.size w w'

set_option maxRecDepth 100000 in
set_option maxHeartbeats 2000000 in
theorem l4Of_any (v : Int) (w : World) (hv : isV v = true) : Calls Tryz.prog 116 #[.int .i64 v] w fun e w' => OvO v w e w' := by
  obtain ⟨i0, hi, hz0, hz1, hz2⟩ := info_parts Tryz.infoInt
  have hB := below_new w (.cells #[.int .i64 0, .int .i64 0, .int .i64 0, .int .i64 0, .slice none 0 0, .bool false] 33)
  have N0 := AAt.new w 0 0 0 0 (.slice none 0 0) false 33
  have F0 : ∀ j, (w.alloc (.cells #[.int .i64 0, .int .i64 0, .int .i64 0, .int .i64 0, .slice none 0 0, .bool false] 33)).frozen? ⟨w.heap.size, j, none⟩ = false := fun j => by simp [go_sem]
  obtain ⟨k, hk⟩ := Int.eq_ofNat_of_zero_le (bk_bd v).1
  have hk7 : k < 8 := by have := (bk_bd v).2; omega
  have hkI : (0 : Int) ≤ (k : Int) ∧ (k : Int) < 8 := by omega
  go_enter Tryz.func116, Tryz.ntmps116
  go_wp2_with (at_make; generalize w.alloc (.cells #[.int .i64 0, .int .i64 0, .int .i64 0, .int .i64 0, .slice none 0 0, .bool false] 33) = w0 at hB N0 F0 ⊢; refine wpList_make_full _ rfl (.const (.int .i64 8)) (.const (.int .i64 8)) 31 rfl w0.heap.size 3 i0 (.int .i64 0) 1 Tryz.underlying31 hi hz0 hz1 .i64 .i64 _ _ 8 rfl rfl rfl rfl (by rw [hz2]; omega) (by unfold maxLen; omega) (Nat.le_refl _) ?_; intro w1 hown hgrow; have hb1 : Below w0.heap.size w0 w1 := (Below.refl _ _).grown hgrow (Nat.le_refl _) (fun k h => by simp at h); have N1 := N0.keep hb1; have F1 := froz_keep F0 N0.lt hb1)
  have hlt1 : w0.heap.size < w1.heap.size := by
    rcases hown.2 with ⟨h, _⟩ | ⟨g', cap', cur, h, _, hg, _⟩
    · simp at h
    · simp at h; obtain ⟨rfl, _⟩ := h
      exact (Array.getElem?_eq_some_iff.1 hg).1
  have ho := iown_of_made hown hlt1
  have hl0 := N0.lt
  clear hown hgrow
  have b2 := below_new w1 (.cells #[.int .i64 1, .int .i64 v, .int .i64 v, .int .i64 v, .slice (some ⟨w0.heap.size, 0, none⟩) 8 8, .bool false] 33)
  have N2 := N1.keep b2
  have F2 := froz_keep F1 N1.lt b2
  have H2 := ho.keep b2
  have D2 := AAt.new w1 1 v v v (.slice (some ⟨w0.heap.size, 0, none⟩) 8 8) false 33
  have bw2 : Below w.heap.size w (w1.alloc (.cells #[.int .i64 1, .int .i64 v, .int .i64 v, .int .i64 v, .slice (some ⟨w0.heap.size, 0, none⟩) 8 8, .bool false] 33)) := (hB.trans (hb1.mono hB.size)).trans (b2.mono (Nat.le_trans hB.size hb1.size))
  have sz1 : w1.heap.size < (w1.alloc (.cells #[.int .i64 1, .int .i64 v, .int .i64 v, .int .i64 v, .slice (some ⟨w0.heap.size, 0, none⟩) 8 8, .bool false] 33)).heap.size := by simp
  have wl0 := hB.size
  generalize w1.alloc (.cells #[.int .i64 1, .int .i64 v, .int .i64 v, .int .i64 v, .slice (some ⟨w0.heap.size, 0, none⟩) 8 8, .bool false] 33) = w2 at b2 N2 F2 H2 D2 bw2 sz1 ⊢
  have hc3 := (H2.cell k hk7)
  have hf3 := (H2.free k hk7)
  simp only [Nat.zero_add] at hc3 hf3
  obtain ⟨_, d0, d1, d2, d3, d4, d5⟩ := id D2
  go_region_with (first | (go_at_call 131; refine (l4Bucket_any v _ hv).mono ?_; rintro e w6 ⟨rfl, rfl⟩; rw [hk]))
  all_goals
    have H4 := (iown_set H2 k hk7 1 (by omega)).keep (Below.refl _ _).drew
    have N4 := (N2.others (Others.setCell w2 w0.heap.size k (.int .i64 1)) (by omega)).keep (Below.refl _ _).drew
    have D4 := (D2.others (Others.setCell w2 w0.heap.size k (.int .i64 1)) (by omega)).keep (Below.refl _ _).drew
    have bw4 : Below w.heap.size w (w2.setCell ⟨w0.heap.size, k, none⟩ (.int .i64 1)).drew := (Below.setCell bw2 (by show w.heap.size ≤ w0.heap.size; omega) _).drew
    have F4 : ∀ j, (w2.setCell ⟨w0.heap.size, k, none⟩ (.int .i64 1)).drew.frozen? ⟨w.heap.size, j, none⟩ = false := fun j => by
      show (w2.setCell ⟨w0.heap.size, k, none⟩ (.int .i64 1)).frozen? ⟨w.heap.size, j, none⟩ = false
      rw [World.frozen?_setCell]; exact F2 j
    generalize (w2.setCell ⟨w0.heap.size, k, none⟩ (.int .i64 1)).drew = w4 at H4 N4 D4 bw4 F4 ⊢
    clear d0 d1 d2 d3 d4 d5 D2 N2 H2 F2 hc3 hf3
    obtain ⟨_, d0, d1, d2, d3, d4, d5⟩ := D4
    obtain ⟨_, n0, n1, n2, n3, n4, n5⟩ := N4
    go_wp2
    refine bodyPost_ret (v := .agg #[.int .i64 1, .int .i64 v, .int .i64 v, .int .i64 v, .slice (some ⟨w0.heap.size, 0, none⟩) 8 8, .bool false]) (by simp [results, Tryz.results116, go_sem, n0, n1, n2, n3, n4, n5]) rfl ⟨k, w0.heap.size, hk7, rfl, by omega, ?_, ?_⟩
    · repeat' refine iown_others ?_ (Others.setCell _ _ _ _) (by omega)
      exact H4
    · repeat' refine Below.setCell ?_ (by first | (simp; done) | (simp; omega)) _
      exact bw4
end Go.Proofs.YtohjjigkfdhklaaGreat
namespace Go.Proofs.YtohjjigkfdhklaaGreat
set_option maxRecDepth 100000
open Go.RowKit
set_option linter.unusedSimpArgs false
set_option linter.unusedVariables false

theorem step_storeV {w : World} {ops : Array Oper} {o : Oper} {a : Act} {K : Act → World → Prop} {Q : Exit → Act → World → Prop} {E : Prop} (hgd : o.guard = none) (k j : Nat)
    (ho : o.op = .store 33 (.tmp k) (.tmp j)) (b : Nat) (c s lo hi : Int) (hv : Value) (fu : Bool) (u0 u1 u2 u3 u5 : Value) (ha : Option Addr) (hn hc : Nat) (hx : a.eval (.tmp k) = .pointer (some ⟨b, 0, none⟩)) (hve : a.eval (.tmp j) = .agg #[.int .i64 c, .int .i64 s, .int .i64 lo, .int .i64 hi, .slice ha hn hc, .bool fu]) (h0 : w.cell? ⟨b, 0, none⟩ = some u0) (h1 : w.cell? ⟨b, 1, none⟩ = some u1) (h2 : w.cell? ⟨b, 2, none⟩ = some u2) (h3 : w.cell? ⟨b, 3, none⟩ = some u3) (h4 : w.cell? ⟨b, 4, none⟩ = some hv) (h5 : w.cell? ⟨b, 5, none⟩ = some u5) (hf : ∀ i, w.frozen? ⟨b, i, none⟩ = false)
    (h : K (a.put o.dst undef) ((((((w.setCell ⟨b, 0, none⟩ (.int .i64 c)).setCell ⟨b, 1, none⟩ (.int .i64 s)).setCell ⟨b, 2, none⟩ (.int .i64 lo)).setCell ⟨b, 3, none⟩ (.int .i64 hi)).setCell ⟨b, 4, none⟩ (.slice ha hn hc)).setCell ⟨b, 5, none⟩ (.bool fu))) :
    if Region.wanted o (yielded ops a.tmps) = true then Oper.wp Tryz.prog o a w K Q else E := by
  have hw : Region.wanted o (yielded ops a.tmps) = true := by simp [Region.wanted, hgd]
  rw [if_pos hw]
  have hx' : a.tmps.getD k undef = .pointer (some ⟨b, 0, none⟩) := hx
  have hv' : a.tmps.getD j undef = .agg #[.int .i64 c, .int .i64 s, .int .i64 lo, .int .i64 hi, .slice ha hn hc, .bool fu] := hve
  have f0 := hf 0
  have f1 := hf 1
  have f2 := hf 2
  have f3 := hf 3
  have f4 := hf 4
  have f5 := hf 5
  unfold Oper.wp execOp
  simp only [ho, Act.eval, hx', hv']
  go_simp
  exact h

/-- An agg at work: R the result's box, D its own. -/
structure AW (w w' : World) (R D CB : Nat) (ao : Option Addr) (n cap : Nat) (f : Nat → Int) (A : Nat) (y : Ent) (g gc : Nat) : Prop where
  C : CS w w' CB ao n cap f A
  RA : AAt w' R 0 0 0 0 (.slice none 0 0) false
  RF : ∀ j, w'.frozen? ⟨R, j, none⟩ = false
  DA : AAt w' D y.c y.s y.lo y.hi (.slice (some ⟨g, 0, none⟩) 8 gc) y.fu
  DF : ∀ j, w'.frozen? ⟨D, j, none⟩ = false
  H : IOwn w' g 0 8 y.f
  ne : w.heap.size ≤ R ∧ w.heap.size ≤ D ∧ w.heap.size ≤ g ∧ R ≠ D ∧ g ≠ D ∧ g ≠ R ∧ 8 ≤ gc
section
variable {w w' w'' : World} {R D CB : Nat} {ao : Option Addr} {n cap : Nat} {f : Nat → Int} {A A' : Nat} {y : Ent} {g gc : Nat}
theorem AW.draw (h : AW w w' R D CB ao n cap f A y g gc) (k : CS w' w'' CB ao n cap f A') : AW w w'' R D CB ao n cap f A' y g gc := by
  have hl := h.C.lt
  have hn := h.ne
  exact ⟨h.C.trans k, aat_grown h.RA k.gr (by omega), froz_grown h.RF h.RA.lt k.gr (by omega), aat_grown h.DA k.gr (by omega), froz_grown h.DF h.DA.lt k.gr (by omega), iown_grown h.H k.gr (by omega), hn⟩
theorem AW.keep (h : AW w w' R D CB ao n cap f A y g gc) (hb : Below w'.heap.size w' w'') : AW w w'' R D CB ao n cap f A y g gc :=
  ⟨h.C.keep hb, h.RA.keep hb, froz_keep h.RF h.RA.lt hb, h.DA.keep hb, froz_keep h.DF h.DA.lt hb, h.H.keep hb, h.ne⟩
theorem AW.put (h : AW w w' R D CB ao n cap f A y g gc) {y' : Ent} {g' gc' : Nat} (ho : IOwn w' g' 0 8 y'.f) (hg : w.heap.size ≤ g' ∧ g' ≠ D ∧ g' ≠ R ∧ 8 ≤ gc') :
    AW w ((((((w'.setCell ⟨D, 0, none⟩ (.int .i64 y'.c)).setCell ⟨D, 1, none⟩ (.int .i64 y'.s)).setCell ⟨D, 2, none⟩ (.int .i64 y'.lo)).setCell ⟨D, 3, none⟩ (.int .i64 y'.hi)).setCell ⟨D, 4, none⟩ (.slice (some ⟨g', 0, none⟩) 8 gc')).setCell ⟨D, 5, none⟩ (.bool y'.fu)) R D CB ao n cap f A y' g' gc' := by
  have ot : Others D w' ((((((w'.setCell ⟨D, 0, none⟩ (.int .i64 y'.c)).setCell ⟨D, 1, none⟩ (.int .i64 y'.s)).setCell ⟨D, 2, none⟩ (.int .i64 y'.lo)).setCell ⟨D, 3, none⟩ (.int .i64 y'.hi)).setCell ⟨D, 4, none⟩ (.slice (some ⟨g', 0, none⟩) 8 gc')).setCell ⟨D, 5, none⟩ (.bool y'.fu)) := (((((Others.setCell _ _ _ _).trans (Others.setCell _ _ _ _)).trans (Others.setCell _ _ _ _)).trans (Others.setCell _ _ _ _)).trans (Others.setCell _ _ _ _)).trans (Others.setCell _ _ _ _)
  have hn := h.ne
  have d := h.DA
  refine ⟨h.C.others ot (by omega), h.RA.others ot (by omega), fun j => (World.frozen?_of_block (w := w') (a := ⟨R, j, none⟩) (ot.block R (by omega))).trans (h.RF j), ⟨by rw [ot.size]; exact d.lt, ?_, ?_, ?_, ?_, ?_, ?_⟩, fun j => by simp only [World.frozen?_setCell]; exact h.DF j, iown_others ho ot (by omega), by omega⟩
  all_goals simp [go_sem, d.c0, d.c1, d.c2, d.c3, d.c4, d.c5]
theorem AW.set0 (h : AW w w' R D CB ao n cap f A y g gc) (v : Int) : AW w (w'.setCell ⟨D, 0, none⟩ (.int .i64 v)) R D CB ao n cap f A { y with c := v } g gc := by
  have ot : Others D w' (w'.setCell ⟨D, 0, none⟩ (.int .i64 v)) := Others.setCell _ _ _ _
  have hn := h.ne
  have d := h.DA
  refine ⟨h.C.others ot (by omega), h.RA.others ot (by omega), fun j => (World.frozen?_of_block (w := w') (a := ⟨R, j, none⟩) (ot.block R (by omega))).trans (h.RF j), ⟨by rw [ot.size]; exact d.lt, ?_, ?_, ?_, ?_, ?_, ?_⟩, fun j => by simp only [World.frozen?_setCell]; exact h.DF j, iown_others h.H ot (by omega), by omega⟩
  all_goals simp [go_sem, d.c0, d.c1, d.c2, d.c3, d.c4, d.c5]
theorem AW.set2 (h : AW w w' R D CB ao n cap f A y g gc) (v : Int) : AW w (w'.setCell ⟨D, 2, none⟩ (.int .i64 v)) R D CB ao n cap f A { y with lo := v } g gc := by
  have ot : Others D w' (w'.setCell ⟨D, 2, none⟩ (.int .i64 v)) := Others.setCell _ _ _ _
  have hn := h.ne
  have d := h.DA
  refine ⟨h.C.others ot (by omega), h.RA.others ot (by omega), fun j => (World.frozen?_of_block (w := w') (a := ⟨R, j, none⟩) (ot.block R (by omega))).trans (h.RF j), ⟨by rw [ot.size]; exact d.lt, ?_, ?_, ?_, ?_, ?_, ?_⟩, fun j => by simp only [World.frozen?_setCell]; exact h.DF j, iown_others h.H ot (by omega), by omega⟩
  all_goals simp [go_sem, d.c0, d.c1, d.c2, d.c3, d.c4, d.c5]
theorem AW.set5 (h : AW w w' R D CB ao n cap f A y g gc) (v : Bool) : AW w (w'.setCell ⟨D, 5, none⟩ (.bool v)) R D CB ao n cap f A { y with fu := v } g gc := by
  have ot : Others D w' (w'.setCell ⟨D, 5, none⟩ (.bool v)) := Others.setCell _ _ _ _
  have hn := h.ne
  have d := h.DA
  refine ⟨h.C.others ot (by omega), h.RA.others ot (by omega), fun j => (World.frozen?_of_block (w := w') (a := ⟨R, j, none⟩) (ot.block R (by omega))).trans (h.RF j), ⟨by rw [ot.size]; exact d.lt, ?_, ?_, ?_, ?_, ?_, ?_⟩, fun j => by simp only [World.frozen?_setCell]; exact h.DF j, iown_others h.H ot (by omega), by omega⟩
  all_goals simp [go_sem, d.c0, d.c1, d.c2, d.c3, d.c4, d.c5]
theorem AW.setH (h : AW w w' R D CB ao n cap f A y g gc) (v : Int) (hv : -9223372036854775808 ≤ v ∧ v ≤ 9223372036854775807) : AW w (w'.setCell ⟨g, 3, none⟩ (.int .i64 v)) R D CB ao n cap f A { y with f := fun i => if i = 3 then v else y.f i } g gc := by
  have ot : Others g w' (w'.setCell ⟨g, 3, none⟩ (.int .i64 v)) := Others.setCell _ _ _ _
  have hn := h.ne
  exact ⟨h.C.others ot (by omega), h.RA.others ot (by omega), fun j => (World.frozen?_of_block (w := w') (a := ⟨R, j, none⟩) (ot.block R (by omega))).trans (h.RF j), h.DA.others ot (by omega), fun j => (World.frozen?_of_block (w := w') (a := ⟨D, j, none⟩) (ot.block D (by omega))).trans (h.DF j), iown_set h.H 3 (by omega) v hv, hn⟩
end
end Go.Proofs.YtohjjigkfdhklaaGreat
namespace Go.Proofs.YtohjjigkfdhklaaGreat
set_option maxRecDepth 100000
open Go.RowKit
set_option linter.unusedSimpArgs false
set_option linter.unusedVariables false

/-- A drawn agg. -/
def AgO (CB : Nat) (ao : Option Addr) (n cap : Nat) (f : Nat → Int) (A : Nat) (w : World) (e : Ending) (w' : World) : Prop :=
  ∃ (y : Ent) (g off gc : Nat), e = .returned (.agg #[.int .i64 y.c, .int .i64 y.s, .int .i64 y.lo, .int .i64 y.hi, .slice (some ⟨g, off, none⟩) y.n gc, .bool y.fu]) ∧ IRow w' (some ⟨g, off, none⟩) y.n y.f ∧ w.heap.size ≤ g ∧ y.n ≤ 8 ∧ (-9223372036854775808 ≤ y.s ∧ y.s ≤ 9223372036854775807) ∧ CS w w' CB ao n cap f (A + 20)
theorem irow_tail {w : World} {g : Nat} {f : Nat → Int} (h : IOwn w g 0 8 f) : IRow w (some ⟨g, 1, none⟩) 7 (fun i => f (i + 1)) :=
  ⟨fun i => h.bd _, .inr ⟨g, 1, rfl, h.lt, fun i hi => by
    have := h.cell (i + 1) (by omega)
    rw [show 1 + i = 0 + (i + 1) by omega]
    exact this⟩⟩

set_option maxRecDepth 100000 in
set_option maxHeartbeats 8000000 in
theorem aggD_any {w : World} {CB : Nat} {ao : Option Addr} {n cap : Nat} {f : Nat → Int} {A : Nat} (h : CS w w CB ao n cap f A) (hA : A ≤ 100000) :
    Calls Tryz.prog 103 #[.pointer (some ⟨CB, 0, none⟩)] w fun e w' => AgO CB ao n cap f A w e w' := by
  have hB := below_new w (.cells #[.int .i64 0, .int .i64 0, .int .i64 0, .int .i64 0, .slice none 0 0, .bool false] 33)
  have RA0 := AAt.new w 0 0 0 0 (.slice none 0 0) false 33
  have RF0 : ∀ j, (w.alloc (.cells #[.int .i64 0, .int .i64 0, .int .i64 0, .int .i64 0, .slice none 0 0, .bool false] 33)).frozen? ⟨w.heap.size, j, none⟩ = false := fun j => by simp [go_sem]
  have sz0 : (w.alloc (.cells #[.int .i64 0, .int .i64 0, .int .i64 0, .int .i64 0, .slice none 0 0, .bool false] 33)).heap.size = w.heap.size + 1 := by simp
  have C0 := h.keep hB
  go_enter Tryz.func103, Tryz.ntmps103
  go_wp2_with fail
  generalize w.alloc (.cells #[.int .i64 0, .int .i64 0, .int .i64 0, .int .i64 0, .slice none 0 0, .bool false] 33) = w0 at hB RA0 RF0 sz0 C0 ⊢
  refine (l4Zero_any _).mono ?_
  rintro e w1 ⟨g, rfl, hg, H1, b1⟩
  have C1 := C0.keep b1
  have RA1 := RA0.keep b1
  have RF1 := froz_keep RF0 RA0.lt b1
  have s1 := b1.size
  have b2 := below_new w1 (.cells #[.int .i64 0, .int .i64 0, .int .i64 0, .int .i64 0, .slice (some ⟨g, 0, none⟩) 8 8, .bool false] 33)
  have DA2 := AAt.new w1 0 0 0 0 (.slice (some ⟨g, 0, none⟩) 8 8) false 33
  have DF2 : ∀ j, (w1.alloc (.cells #[.int .i64 0, .int .i64 0, .int .i64 0, .int .i64 0, .slice (some ⟨g, 0, none⟩) 8 8, .bool false] 33)).frozen? ⟨w1.heap.size, j, none⟩ = false := fun j => by simp [go_sem]
  have G2 : AW w (w1.alloc (.cells #[.int .i64 0, .int .i64 0, .int .i64 0, .int .i64 0, .slice (some ⟨g, 0, none⟩) 8 8, .bool false] 33)) w.heap.size w1.heap.size CB ao n cap f A dZ g 8 := by
    have hgl := H1.lt
    exact ⟨C1.keep b2, RA1.keep b2, froz_keep RF1 RA1.lt b2, DA2, DF2, H1.keep b2, by omega⟩
  clear C1 RA1 RF1 b2 DA2 DF2 C0 RA0 RF0 b1 H1
  go_wp2_with fail
  generalize w1.alloc (.cells #[.int .i64 0, .int .i64 0, .int .i64 0, .int .i64 0, .slice (some ⟨g, 0, none⟩) 8 8, .bool false] 33) = w2 at G2 ⊢
  refine (pick_s 5 (by omega) G2.C.self (by omega)).mono ?_
  rintro e w3 ⟨x, rfl, x0, x1, K3⟩
  have G3 := G2.draw K3
  obtain ⟨k0, rfl⟩ := Int.eq_ofNat_of_zero_le x0
  clear G2 K3
  generalize w1.heap.size = D at *
  generalize hR : w.heap.size = R at *
  go_wp2
  go_loopw [4] (fun q wr => ∃ (k B : Nat) (y : Ent) (g gc : Nat), q = .int .i64 k ∧ k ≤ 4 ∧ B + 2 * k ≤ A + 9 ∧ AI y ∧ AW w wr R D CB ao n cap f B y g gc) (fun q _ => (intOf q).toNat)
  case atStart => exact ⟨k0, A + 1, dZ, g, 8, by go_num, by omega, by omega, ai_zero, G3⟩
  case round =>
    clear G3
    obtain ⟨k, B, y, g, gc, rfl, hk, hBk, hAI, G⟩ := hrel
    have hn8 : y.n = 8 := by have := congrArg Ent.n hAI.can; exact this.symm
    by_cases hk0 : k = 0
    · subst hk0
      go_upto_region 6 with fail
      go_cut [23] from 17 to 22 (fun s23 wx => ∃ c : Bool, s23 = .bool c ∧ AW w wx R D CB ao n cap f (B + 1) y g gc)
      case first =>
        go_wp2_with fail
        refine (one_s 30 (by omega) G.C.self (by omega)).mono ?_
        rintro e w4 ⟨b4, rfl, K4⟩
        have G4 := G.draw K4
        clear G K4
        cases b4
        · go_wp2
          go_meet
          exact ⟨false, rfl, G4⟩
        · obtain ⟨_, y0, y1, y2, y3, y4, y5⟩ := id G4.DA
          cases hc : decide ((0 : Int) < y.c)
          · go_wp2
            go_meet
            exact ⟨false, by first | rfl | simp [hc], G4⟩
          · go_wp2
            go_meet
            exact ⟨true, by first | rfl | simp [hc], G4⟩
      case rest =>
        obtain ⟨c4, rfl, G4⟩ := hcut
        clear G
        go_upto_if 23 with fail
        go_cut [3] from 24 to 39 (fun s3 wx => s3 = .pointer (some ⟨D, 0, none⟩) ∧ ∃ y2 : Ent, (y2.s = y.s ∧ y2.n = 8) ∧ AW w wx R D CB ao n cap f (B + 1) y2 g gc)
        case first =>
          cases c4
          · go_wp2
            go_meet
            exact ⟨rfl, y, ⟨rfl, hn8⟩, G4⟩
          · have hyc := hAI.c
            have hyf := hAI.f 3
            obtain ⟨_, y0, y1, y2, y3, y4, y5⟩ := id G4.DA
            have z0 := G4.H.cell 3 (by omega)
            have z1 := G4.H.free 3 (by omega)
            simp only [Nat.zero_add] at z0 z1
            have hw1 : IntKind.i64.wrap (1000000000 - y.c) = 1000000000 - y.c := by rw [IntKind.wrap_i64] <;> omega
            have hw2 : IntKind.i64.wrap (y.f 3 + (1000000000 - y.c)) = y.f 3 + (1000000000 - y.c) := by rw [IntKind.wrap_i64] <;> omega
            have G5 := (G4.setH (y.f 3 + (1000000000 - y.c)) (by omega)).keep (Below.refl _ _).drew
            have f5 := G5.DF
            go_wp2
            go_region
            all_goals
              clear y0 y1 y2 y3 y4 y5 z0 z1 G4
              generalize (wc.setCell ⟨g, 3, none⟩ (.int .i64 (y.f 3 + (1000000000 - y.c)))).drew = w5 at G5 f5 ⊢
              have G6 := G5.set0 1000000000
              obtain ⟨_, y0, y1, y2, y3, y4, y5⟩ := id G5.DA
              obtain ⟨_, q0, q1, q2, q3, q4, q5⟩ := id G6.DA
              have hgA := goodAgg_spec 1000000000 y.s y.lo y.hi (some ⟨g, 0, none⟩) 8 gc _ y.fu _ G6.H.row (by omega) hAI.s
              clear G5
              go_wp2_with fail
              refine hgA.mono ?_
              rintro e w6 ⟨b6, rfl, _, q6⟩
              have G7 := G6.keep q6
              clear G6 hgA q6 y0 y1 y2 y3 y4 y5 q0 q1 q2 q3 q4 q5 f5
              cases b6
              · obtain ⟨_, y0, y1, y2, y3, y4, y5⟩ := id G7.DA
                have z0 := G7.H.cell 3 (by omega)
                have z1 := G7.H.free 3 (by omega)
                simp only [Nat.zero_add] at z0 z1
                obtain ⟨v3, z3⟩ : ∃ v3 : Int, w6.cell? ⟨g, 3, none⟩ = some (.int .i64 v3) := ⟨_, z0⟩
                clear z0
                have G8 := G7.setH 0 (by omega)
                clear G7
                go_wp2
                · rename_i h9
                  rw [z1] at h9
                  cases h9
                · go_meet
                  exact ⟨rfl, ⟨y.key, y.seq, y.kind, 1000000000, y.s, y.lo, y.hi, y.n, _, y.fu⟩, ⟨rfl, hn8⟩, G8⟩
              · go_wp2
                go_meet
                exact ⟨rfl, ⟨y.key, y.seq, y.kind, 1000000000, y.s, y.lo, y.hi, y.n, _, y.fu⟩, ⟨rfl, hn8⟩, G7⟩
        case rest =>
          obtain ⟨rfl, y2, ⟨hs2, hn2⟩, G4'⟩ := hcut
          clear G4
          have hs5 : -9223372036854775808 ≤ y2.s ∧ y2.s ≤ 9223372036854775807 := by rw [hs2]; exact hAI.s
          clear hs2 hAI
          go_wp2_with fail
          refine (pick_s 60 (by omega) G4'.C.self (by omega)).mono ?_
          rintro e w5 ⟨x5, rfl, x50, x51, K5⟩
          have G5 := G4'.draw K5
          clear G4' K5
          obtain ⟨_, y0, y1, y2', y3, y4, y5⟩ := id G5.DA
          obtain ⟨_, r0, r1, r2, r3, r4, r5⟩ := id G5.RA
          have rf := G5.RF
          have df := G5.DF
          have hne := G5.ne
          have hDl := G5.DA.lt
          by_cases c0 : x5 = 0
          · subst c0
            have hgc : (1 : Nat) ≤ gc := by omega
            go_wp2
            refine bodyPost_ret (v := .agg #[.int .i64 y2.c, .int .i64 y2.s, .int .i64 y2.lo, .int .i64 y2.hi, .slice (some ⟨g, 1, none⟩) 7 (gc - 1), .bool y2.fu]) (by simp [results, Tryz.results103, go_sem, r0, r1, r2, r3, r4, r5]) rfl ⟨⟨y2.key, y2.seq, y2.kind, y2.c, y2.s, y2.lo, y2.hi, 7, fun i => y2.f (i + 1), y2.fu⟩, g, 1, gc - 1, rfl, ?_, by omega, by first | exact Nat.le_refl _ | (show 7 ≤ 8; omega), hs5, ?_⟩
            · refine irow_tail ?_
              repeat' refine iown_others ?_ (Others.setCell _ _ _ _) (by omega)
              exact G5.H
            · repeat' refine CS.others ?_ (Others.setCell _ _ _ _) (by omega)
              exact G5.C.mono (by omega)
          have e0 : (x5 == 0) = false := by simp [c0]
          by_cases c1 : x5 = 1
          · subst c1
            obtain ⟨z, hz⟩ : ∃ z, IntKind.i64.wrap (y2.hi + 1) = z := ⟨_, rfl⟩
            have hz2 : wrap64 (y2.hi + 1) = z := by rw [← hz, IntWalk.i64_left]
            go_wp2
            refine bodyPost_ret (v := .agg #[.int .i64 y2.c, .int .i64 y2.s, .int .i64 z, .int .i64 y2.hi, .slice (some ⟨g, 0, none⟩) 8 gc, .bool y2.fu]) (by simp [results, Tryz.results103, go_sem, r0, r1, r2, r3, r4, r5]) rfl ⟨⟨y2.key, y2.seq, y2.kind, y2.c, y2.s, z, y2.hi, 8, y2.f, y2.fu⟩, g, 0, gc, rfl, ?_, by omega, by first | exact Nat.le_refl _ | (show 7 ≤ 8; omega), hs5, ?_⟩
            · refine IOwn.row ?_
              repeat' refine iown_others ?_ (Others.setCell _ _ _ _) (by omega)
              exact G5.H
            · repeat' refine CS.others ?_ (Others.setCell _ _ _ _) (by omega)
              exact G5.C.mono (by omega)
          have e1 : (x5 == 1) = false := by simp [c1]
          by_cases c2 : x5 = 2
          · subst c2
            go_wp2
            refine bodyPost_ret (v := .agg #[.int .i64 y2.c, .int .i64 y2.s, .int .i64 y2.lo, .int .i64 y2.hi, .slice (some ⟨g, 0, none⟩) 8 gc, .bool true]) (by simp [results, Tryz.results103, go_sem, r0, r1, r2, r3, r4, r5]) rfl ⟨⟨y2.key, y2.seq, y2.kind, y2.c, y2.s, y2.lo, y2.hi, 8, y2.f, true⟩, g, 0, gc, rfl, ?_, by omega, by first | exact Nat.le_refl _ | (show 7 ≤ 8; omega), hs5, ?_⟩
            · refine IOwn.row ?_
              repeat' refine iown_others ?_ (Others.setCell _ _ _ _) (by omega)
              exact G5.H
            · repeat' refine CS.others ?_ (Others.setCell _ _ _ _) (by omega)
              exact G5.C.mono (by omega)
          have e2 : (x5 == 2) = false := by simp [c2]
          by_cases c3 : x5 = 3
          · subst c3
            obtain ⟨z, hz⟩ : ∃ z, IntKind.i64.wrap (y2.c + 1) = z := ⟨_, rfl⟩
            have hz2 : wrap64 (y2.c + 1) = z := by rw [← hz, IntWalk.i64_left]
            go_wp2
            refine bodyPost_ret (v := .agg #[.int .i64 z, .int .i64 y2.s, .int .i64 y2.lo, .int .i64 y2.hi, .slice (some ⟨g, 0, none⟩) 8 gc, .bool y2.fu]) (by simp [results, Tryz.results103, go_sem, r0, r1, r2, r3, r4, r5]) rfl ⟨⟨y2.key, y2.seq, y2.kind, z, y2.s, y2.lo, y2.hi, 8, y2.f, y2.fu⟩, g, 0, gc, rfl, ?_, by omega, by first | exact Nat.le_refl _ | (show 7 ≤ 8; omega), hs5, ?_⟩
            · refine IOwn.row ?_
              repeat' refine iown_others ?_ (Others.setCell _ _ _ _) (by omega)
              exact G5.H
            · repeat' refine CS.others ?_ (Others.setCell _ _ _ _) (by omega)
              exact G5.C.mono (by omega)
          have e3 : (x5 == 3) = false := by simp [c3]
          go_wp2
          refine bodyPost_ret (v := .agg #[.int .i64 y2.c, .int .i64 y2.s, .int .i64 y2.lo, .int .i64 y2.hi, .slice (some ⟨g, 0, none⟩) 8 gc, .bool y2.fu]) (by simp [results, Tryz.results103, go_sem, r0, r1, r2, r3, r4, r5]) rfl ⟨⟨y2.key, y2.seq, y2.kind, y2.c, y2.s, y2.lo, y2.hi, 8, y2.f, y2.fu⟩, g, 0, gc, rfl, ?_, by omega, by first | exact Nat.le_refl _ | (show 7 ≤ 8; omega), hs5, ?_⟩
          · refine IOwn.row ?_
            repeat' refine iown_others ?_ (Others.setCell _ _ _ _) (by omega)
            exact G5.H
          · repeat' refine CS.others ?_ (Others.setCell _ _ _ _) (by omega)
            exact G5.C.mono (by omega)
    · have hkp : (0 : Int) < (k : Int) := by omega
      have hkd : decide ((0 : Int) < (k : Int)) = true := decide_eq_true hkp
      have Gd := G.keep (Below.refl _ wr).drew
      clear G
      obtain ⟨_, y0, y1, y2, y3, y4, y5⟩ := id Gd.DA
      go_wp2
      refine wp_region_w (fun W : World => W.cell? ⟨D, 0, none⟩ = some (.int .i64 y.c) ∧ W.cell? ⟨D, 1, none⟩ = some (.int .i64 y.s) ∧ W.cell? ⟨D, 2, none⟩ = some (.int .i64 y.lo) ∧ W.cell? ⟨D, 3, none⟩ = some (.int .i64 y.hi) ∧ W.cell? ⟨D, 4, none⟩ = some (.slice (some ⟨g, 0, none⟩) 8 gc) ∧ W.cell? ⟨D, 5, none⟩ = some (.bool y.fu)) (fun j => j != 5) (by kernel_rfl) ?_
      change wpW _ _ _ _ _ _ 6 _ _ wr.drew
      refine wpW_take 0 _ (.agg #[.int .i64 y.c, .int .i64 y.s, .int .i64 y.lo, .int .i64 y.hi, .slice (some ⟨g, 0, none⟩) 8 gc, .bool y.fu]) rfl (by kernel_rfl) (by kernel_rfl) (by kernel_rfl) (fun _ _ _ h => h) (by kernel_rfl) (.inl ⟨rfl, fun w' hS' => by obtain ⟨s0, s1, s2, s3, s4, s5⟩ := hS'; go_simp⟩) ⟨y0, y1, y2, y3, y4, y5⟩ ?_
      simp only [Act.put, List.getElem_toArray, List.getElem_cons_succ, List.getElem_cons_zero, List.setIfInBounds_toArray, List.set_cons_zero, List.set_cons_succ]
      refine wpW_take 1 _ (.pointer (some ⟨CB, 0, none⟩)) rfl (by kernel_rfl) (by kernel_rfl) (by kernel_rfl) (fun _ _ _ h => h) (by kernel_rfl) (.inl ⟨rfl, fun w' hS' => by go_simp⟩) ⟨y0, y1, y2, y3, y4, y5⟩ ?_
      simp only [Act.put, List.getElem_toArray, List.getElem_cons_succ, List.getElem_cons_zero, List.setIfInBounds_toArray, List.set_cons_zero, List.set_cons_succ]
      refine wpW_one 2 _ rfl (by kernel_rfl) (step_call rfl 117 #[.pointer (some ⟨CB, 0, none⟩)] _ (by go_simp) (value_s Gd.C.self (by omega)) ?_)
      rintro e w6 ⟨v, hv, rfl, K6⟩
      have G6 := Gd.draw K6
      clear Gd K6 y0 y1 y2 y3 y4 y5
      obtain ⟨_, y0, y1, y2, y3, y4, y5⟩ := id G6.DA
      refine ⟨_, rfl, fun _ => ⟨y0, y1, y2, y3, y4, y5⟩, ?_⟩
      simp only [Act.put, List.getElem_toArray, List.getElem_cons_succ, List.getElem_cons_zero, List.setIfInBounds_toArray, List.set_cons_zero, List.set_cons_succ]
      refine wpW_one 3 _ rfl (by kernel_rfl) (step_call rfl 116 #[.int .i64 v] _ (by go_simp) (l4Of_any v _ hv) ?_)
      rintro e w7 ⟨k7, g7, hk7, rfl, hg7, H7, b7⟩
      have G7 := G6.keep b7
      clear G6 b7 y0 y1 y2 y3 y4 y5
      obtain ⟨_, y0, y1, y2, y3, y4, y5⟩ := id G7.DA
      refine ⟨_, rfl, fun _ => ⟨y0, y1, y2, y3, y4, y5⟩, ?_⟩
      simp only [Act.put, List.getElem_toArray, List.getElem_cons_succ, List.getElem_cons_zero, List.setIfInBounds_toArray, List.set_cons_zero, List.set_cons_succ]
      have hj := l4Join_any y (ofV v k7) (some ⟨g, 0, none⟩) (some ⟨g7, 0, none⟩) gc 8 w7 (by rw [hn8]; exact G7.H.row) H7.row hAI (ga_ofV hv hk7)
      rw [hn8] at hj
      refine wpW_one 4 _ rfl (by kernel_rfl) (step_call rfl 115 #[.agg #[.int .i64 y.c, .int .i64 y.s, .int .i64 y.lo, .int .i64 y.hi, .slice (some ⟨g, 0, none⟩) 8 gc, .bool y.fu], .agg #[.int .i64 1, .int .i64 v, .int .i64 v, .int .i64 v, .slice (some ⟨g7, 0, none⟩) 8 8, .bool false]] _ (by go_simp) hj ?_)
      rintro e w8 ⟨g8, cap8, rfl, hg8, H8, b8⟩
      have hAJ : AI (jn y (ofV v k7)) := ai_jn hAI (ga_ofV hv hk7)
      generalize jn y (ofV v k7) = z at *
      have hRl := G7.RA.lt
      have hDl := G7.DA.lt
      have hne := G7.ne
      have G8 := G7.keep b8
      have G9 := G8.put (y' := z) (g' := g8) (gc' := cap8) H8 (by omega)
      have f8 := G8.DF
      clear G7 b8 y0 y1 y2 y3 y4 y5 hj H7 H8
      obtain ⟨_, y0, y1, y2, y3, y4, y5⟩ := id G8.DA
      refine ⟨_, rfl, fun _ => ⟨y0, y1, y2, y3, y4, y5⟩, ?_⟩
      simp only [Act.put, List.getElem_toArray, List.getElem_cons_succ, List.getElem_cons_zero, List.setIfInBounds_toArray, List.set_cons_zero, List.set_cons_succ]
      refine wpW_one 5 _ rfl (by kernel_rfl) (step_storeV rfl 3 16 rfl D z.c z.s z.lo z.hi _ z.fu _ _ _ _ _ (some ⟨g8, 0, none⟩) 8 cap8 rfl rfl y0 y1 y2 y3 y4 y5 f8 ?_)
      refine ⟨fun h => absurd h (by decide), ?_⟩
      refine wpW_done (by kernel_rfl) ?_
      simp only [Act.put, List.getElem_toArray, List.getElem_cons_succ, List.getElem_cons_zero, List.setIfInBounds_toArray, List.set_cons_zero, List.set_cons_succ]
      clear G8 f8 y0 y1 y2 y3 y4 y5
      generalize ((((((w8.setCell ⟨D, 0, none⟩ (.int .i64 z.c)).setCell ⟨D, 1, none⟩ (.int .i64 z.s)).setCell ⟨D, 2, none⟩ (.int .i64 z.lo)).setCell ⟨D, 3, none⟩ (.int .i64 z.hi)).setCell ⟨D, 4, none⟩ (.slice (some ⟨g8, 0, none⟩) 8 cap8)).setCell ⟨D, 5, none⟩ (.bool z.fu)) = w9 at G9 ⊢
      go_wp2
      go_roundw
      case rel => exact ⟨k - 1, B + 2, z, g8, cap8, by go_num, by omega, by omega, hAJ, G9⟩
      case measure => simp [intOf]; omega
end Go.Proofs.YtohjjigkfdhklaaGreat
namespace Go.Proofs.YtohjjigkfdhklaaGreat
set_option maxRecDepth 100000
open Go.RowKit
set_option linter.unusedSimpArgs false
set_option linter.unusedVariables false

/-- Some noughts made, and turned into a text. -/
theorem make140 (w : World) : (Instr.makeSlice 22 (.int .i64 140) (.int .i64 140)).run Tryz.prog w = .ok (.slice (some ⟨w.heap.size, 0, none⟩) 140 140) (w.alloc (.cells (Array.replicate 140 (.int .u8 0)) 5)) := by kernel_rfl
theorem make141 (w : World) : (Instr.makeSlice 22 (.int .i64 141) (.int .i64 141)).run Tryz.prog w = .ok (.slice (some ⟨w.heap.size, 0, none⟩) 141 141) (w.alloc (.cells (Array.replicate 141 (.int .u8 0)) 5)) := by kernel_rfl
def nul (m : Nat) : ByteArray := strOfNums (List.replicate m 0)
theorem nul_size (m : Nat) : (nul m).size = m := by simp [nul, strOfNums_size]
/-- Noughts in a block. -/
def ZAt (w : World) (b m : Nat) : Prop := b < w.heap.size ∧ ∀ i, i < m → w.cell? ⟨b, i, none⟩ = some (.int .u8 0)
theorem ZAt.new (w : World) (m T : Nat) : ZAt (w.alloc (.cells (Array.replicate m (.int .u8 0)) T)) w.heap.size m := by
  have hh : (w.alloc (.cells (Array.replicate m (.int .u8 0)) T)).heap[w.heap.size]? = some (.cells (Array.replicate m (.int .u8 0)) T (0, 0)) := heap_alloc_new w _
  refine ⟨by simp, fun i hi => ?_⟩
  rw [cell_of_row _ _ _ _ _ _ hh]
  simp [hi]
theorem ZAt.keep {w w' : World} {b m : Nat} (h : ZAt w b m) (hb : Below w.heap.size w w') : ZAt w' b m := ⟨Nat.lt_of_lt_of_le h.1 hb.size, fun i hi => (hb.cell (p := ⟨b, i, none⟩) h.1).trans (h.2 i hi)⟩
theorem ZAt.conv {w : World} {b m : Nat} (h : ZAt w b m) : (convert 22 9 (.slice (some ⟨b, 0, none⟩) m m)).run Tryz.prog w = .ok (.string (nul m)) w :=
  run_convert_bytes_arg (P := Tryz.prog) w 22 5 Tryz.underlying22 Tryz.underlying5 b 0 m m (List.replicate m 0) (by simp) (fun i hi => by rw [Nat.zero_add, h.2 i hi]; simp [hi]) 9 Tryz.underlying9

/-- A list of ints in a block from base on. -/
structure HR (w : World) (base : Nat) (xo : Option Addr) (n : Nat) (f : Nat → Int) : Prop where
  row : IRow w xo n f
  at' : ∀ g off, xo = some ⟨g, off, none⟩ → n ≠ 0 → base ≤ g
theorem HR.keep {w w' : World} {base n : Nat} {xo : Option Addr} {f : Nat → Int} (h : HR w base xo n f) (hb : Below w.heap.size w w') : HR w' base xo n f := ⟨h.row.keep hb, h.at'⟩
theorem HR.mono {w : World} {base base' n : Nat} {xo : Option Addr} {f : Nat → Int} (h : HR w base xo n f) (hb : base' ≤ base) : HR w base' xo n f := ⟨h.row, fun g off e h0 => Nat.le_trans hb (h.at' g off e h0)⟩
theorem HR.grown {w w' : World} {base n : Nat} {xo : Option Addr} {f : Nat → Int} {row : Option Nat} (h : HR w base xo n f) (hg : w.grownBy w' row) (hne : ∀ g off, xo = some ⟨g, off, none⟩ → n ≠ 0 → row ≠ some g) : HR w' base xo n f := by
  refine ⟨⟨h.row.bd, ?_⟩, h.at'⟩
  by_cases h0 : n = 0
  · exact .inl h0
  · obtain ⟨b, off, e, hlt, hc⟩ := h.row.lies.resolve_left h0
    exact .inr ⟨b, off, e, Nat.lt_of_lt_of_le hlt hg.size, fun i hi => hg.cell (hc i hi) (fun e' => hne b off e h0 e'.symm)⟩
theorem HR.none {w : World} {base : Nat} {f : Nat → Int} (hb : ∀ i, -9223372036854775808 ≤ f i ∧ f i ≤ 9223372036854775807) : HR w base none 0 f := ⟨⟨hb, .inl rfl⟩, fun g off e h => absurd rfl h⟩

/-- The zero entry. -/
def zE : Ent := ⟨⟨#[]⟩, 0, 0, 0, 0, 0, 0, 0, fun _ => 0, false⟩
theorem eat_grown {w w' : World} {b off cap CB : Nat} {x : Ent} {ao : Option Addr} (h : EAt w b off x ao cap) (g : w.grownBy w' (some CB)) (hne : b ≠ CB) : EAt w' b off x ao cap :=
  h.move (Nat.lt_of_lt_of_le h.lt g.size) fun j => World.cell?_of_block (w := w) (a := ⟨b, j, none⟩) (g.block b h.lt (fun e => hne (Option.some.inj e)))
/-- An entry at work: R the result's box, D its own. -/
structure EW (w w' : World) (R D CB : Nat) (ao : Option Addr) (n cap : Nat) (f : Nat → Int) (A : Nat) (x : Ent) (xo : Option Addr) (xc : Nat) : Prop where
  C : CS w w' CB ao n cap f A
  RA : EAt w' R 0 zE none 0
  RF : ∀ j, w'.frozen? ⟨R, j, none⟩ = false
  DA : EAt w' D 0 x xo xc
  DF : ∀ j, w'.frozen? ⟨D, j, none⟩ = false
  H : HR w' w.heap.size xo x.n x.f
  far : ∀ g off, xo = some ⟨g, off, none⟩ → x.n ≠ 0 → g ≠ D ∧ g ≠ R
  ne : w.heap.size ≤ R ∧ w.heap.size ≤ D ∧ R ≠ D
  bd : EB x ∧ x.key.size ≤ 200 ∧ x.n ≤ 8
section
variable {w w' w'' : World} {R D CB : Nat} {ao : Option Addr} {n cap : Nat} {f : Nat → Int} {A A' : Nat} {x : Ent} {xo : Option Addr} {xc : Nat}
theorem EW.draw (h : EW w w' R D CB ao n cap f A x xo xc) (k : CS w' w'' CB ao n cap f A') : EW w w'' R D CB ao n cap f A' x xo xc := by
  have hl := h.C.lt
  have hn := h.ne
  exact ⟨h.C.trans k, eat_grown h.RA k.gr (by omega), froz_grown h.RF h.RA.lt k.gr (by omega), eat_grown h.DA k.gr (by omega), froz_grown h.DF h.DA.lt k.gr (by omega), h.H.grown k.gr (fun g off e h0 e2 => by have := h.H.at' g off e h0; injection e2 with e2; omega), h.far, hn, h.bd⟩
theorem EW.keep (h : EW w w' R D CB ao n cap f A x xo xc) (hb : Below w'.heap.size w' w'') : EW w w'' R D CB ao n cap f A x xo xc :=
  ⟨h.C.keep hb, h.RA.keep hb, froz_keep h.RF h.RA.lt hb, h.DA.keep hb, froz_keep h.DF h.DA.lt hb, h.H.keep hb, h.far, h.ne, h.bd⟩
theorem EW.oth (h : EW w w' R D CB ao n cap f A x xo xc) (ot : Others D w' w'') (hf : ∀ j, w''.frozen? ⟨D, j, none⟩ = false) {y : Ent} {yo : Option Addr} {yc : Nat} (hD : EAt w'' D 0 y yo yc) (hH : HR w' w.heap.size yo y.n y.f) (hfar : ∀ g off, yo = some ⟨g, off, none⟩ → y.n ≠ 0 → g ≠ D ∧ g ≠ R) (hb : EB y ∧ y.key.size ≤ 200 ∧ y.n ≤ 8) : EW w w'' R D CB ao n cap f A y yo yc := by
  have hn := h.ne
  have og : w'.grownBy w'' (some D) := ⟨ot.os, ot.tape, ot.output, by rw [ot.size]; exact Nat.le_refl _, fun i _ hn => ot.block i (fun e => hn (by rw [e]))⟩
  exact ⟨h.C.others ot (by omega), h.RA.others ot (by omega), fun j => (World.frozen?_of_block (w := w') (a := ⟨R, j, none⟩) (ot.block R (by omega))).trans (h.RF j), hD, hf, hH.grown og (fun g off e h0 e2 => by injection e2 with e2; exact (hfar g off e h0).1 e2.symm), hfar, hn, hb⟩
theorem EW.set0 (h : EW w w' R D CB ao n cap f A x xo xc) (s : ByteArray) (hs : s.size ≤ 200) : EW w (w'.setCell ⟨D, 0, none⟩ (.string s)) R D CB ao n cap f A { x with key := s } xo xc := by
  have d := h.DA
  refine h.oth (Others.setCell _ _ _ _) (fun j => by simp only [World.frozen?_setCell]; exact h.DF j) ⟨by simpa using d.lt, ?_, ?_, ?_, ?_, ?_, ?_, ?_, ?_, ?_⟩ h.H h.far ⟨⟨h.bd.1.seq, h.bd.1.s, by show s.size ≤ _; omega, h.bd.1.n⟩, hs, h.bd.2.2⟩
  all_goals
    obtain ⟨_, c0, c1, c2, c3, c4, c5, c6, c7, c8⟩ := d
    simp only [Nat.zero_add] at *
    simp [go_sem, c0, c1, c2, c3, c4, c5, c6, c7, c8]
theorem EW.set1 (h : EW w w' R D CB ao n cap f A x xo xc) (v : Int) (hv : -9223372036854775808 ≤ v ∧ v ≤ 9223372036854775807) : EW w (w'.setCell ⟨D, 1, none⟩ (.int .i64 v)) R D CB ao n cap f A { x with seq := v } xo xc := by
  have d := h.DA
  refine h.oth (Others.setCell _ _ _ _) (fun j => by simp only [World.frozen?_setCell]; exact h.DF j) ⟨by simpa using d.lt, ?_, ?_, ?_, ?_, ?_, ?_, ?_, ?_, ?_⟩ h.H h.far ⟨⟨hv, h.bd.1.s, h.bd.1.key, h.bd.1.n⟩, h.bd.2⟩
  all_goals
    obtain ⟨_, c0, c1, c2, c3, c4, c5, c6, c7, c8⟩ := d
    simp only [Nat.zero_add] at *
    simp [go_sem, c0, c1, c2, c3, c4, c5, c6, c7, c8]
theorem EW.set2 (h : EW w w' R D CB ao n cap f A x xo xc) (v : Int) : EW w (w'.setCell ⟨D, 2, none⟩ (.int .i64 v)) R D CB ao n cap f A { x with kind := v } xo xc := by
  have d := h.DA
  refine h.oth (Others.setCell _ _ _ _) (fun j => by simp only [World.frozen?_setCell]; exact h.DF j) ⟨by simpa using d.lt, ?_, ?_, ?_, ?_, ?_, ?_, ?_, ?_, ?_⟩ h.H h.far ⟨⟨h.bd.1.seq, h.bd.1.s, h.bd.1.key, h.bd.1.n⟩, h.bd.2⟩
  all_goals
    obtain ⟨_, c0, c1, c2, c3, c4, c5, c6, c7, c8⟩ := d
    simp only [Nat.zero_add] at *
    simp [go_sem, c0, c1, c2, c3, c4, c5, c6, c7, c8]
theorem EW.setA (h : EW w w' R D CB ao n cap f A x xo xc) (y : Ent) (g off gc : Nat) (hr : HR w' w.heap.size (some ⟨g, off, none⟩) y.n y.f) (hg : g ≠ D ∧ g ≠ R) (hy : y.n ≤ 8) (hs : -9223372036854775808 ≤ y.s ∧ y.s ≤ 9223372036854775807) :
    EW w ((((((w'.setCell ⟨D, 3, none⟩ (.int .i64 y.c)).setCell ⟨D, 4, none⟩ (.int .i64 y.s)).setCell ⟨D, 5, none⟩ (.int .i64 y.lo)).setCell ⟨D, 6, none⟩ (.int .i64 y.hi)).setCell ⟨D, 7, none⟩ (.slice (some ⟨g, off, none⟩) y.n gc)).setCell ⟨D, 8, none⟩ (.bool y.fu)) R D CB ao n cap f A ⟨x.key, x.seq, x.kind, y.c, y.s, y.lo, y.hi, y.n, y.f, y.fu⟩ (some ⟨g, off, none⟩) gc := by
  have d := h.DA
  refine h.oth ((((((Others.setCell _ _ _ _).trans (Others.setCell _ _ _ _)).trans (Others.setCell _ _ _ _)).trans (Others.setCell _ _ _ _)).trans (Others.setCell _ _ _ _)).trans (Others.setCell _ _ _ _)) (fun j => by simp only [World.frozen?_setCell]; exact h.DF j) ⟨by simpa using d.lt, ?_, ?_, ?_, ?_, ?_, ?_, ?_, ?_, ?_⟩ hr (fun g' off' e _ => by injection e with e; injection e with e1 _ _; subst e1; exact hg) ⟨⟨h.bd.1.seq, hs, h.bd.1.key, by show y.n ≤ _; omega⟩, h.bd.2.1, hy⟩
  all_goals
    obtain ⟨_, c0, c1, c2, c3, c4, c5, c6, c7, c8⟩ := d
    simp only [Nat.zero_add] at *
    simp [go_sem, c0, c1, c2, c3, c4, c5, c6, c7, c8]
end
theorem make_some (m : Nat) (hm : m = 140 ∨ m = 141) (w : World) : ∃ w', (Instr.makeSlice 22 (.int .i64 (m : Int)) (.int .i64 (m : Int))).run Tryz.prog w = .ok (.slice (some ⟨w.heap.size, 0, none⟩) m m) w' ∧ ZAt w' w.heap.size m ∧ Below w.heap.size w w' := by
  rcases hm with rfl | rfl
  · exact ⟨_, make140 w, ZAt.new w 140 5, below_new w _⟩
  · exact ⟨_, make141 w, ZAt.new w 141 5, below_new w _⟩
theorem step_make {w : World} {ops : Array Oper} {o : Oper} {a : Act} {K : Act → World → Prop} {Q : Exit → Act → World → Prop} {E : Prop} (hgd : o.guard = none) (m : Nat) (hm : m = 140 ∨ m = 141)
    (ho : o.op = .makeSlice 22 (.const (.int .i64 (m : Int))) (.const (.int .i64 (m : Int)))) (h : ∀ w', ZAt w' w.heap.size m → Below w.heap.size w w' → K (a.put o.dst (.slice (some ⟨w.heap.size, 0, none⟩) m m)) w') :
    if Region.wanted o (yielded ops a.tmps) = true then Oper.wp Tryz.prog o a w K Q else E := by
  have hw : Region.wanted o (yielded ops a.tmps) = true := by simp [Region.wanted, hgd]
  rw [if_pos hw]
  obtain ⟨w', h1, h2, h3⟩ := make_some m hm w
  unfold Oper.wp execOp
  simp only [ho, Act.eval, Sem.run_bind, Sem.run_pure, Sem.run_map, Result.andThen_ok, h1]
  exact h w' h2 h3
theorem step_conv {w : World} {ops : Array Oper} {o : Oper} {a : Act} {K : Act → World → Prop} {Q : Exit → Act → World → Prop} {E : Prop} (hgd : o.guard = none) (k m b : Nat)
    (ho : o.op = .convert 22 9 (.tmp k)) (hx : a.eval (.tmp k) = .slice (some ⟨b, 0, none⟩) m m) (hz : ZAt w b m) (h : K (a.put o.dst (.string (nul m))) w) :
    if Region.wanted o (yielded ops a.tmps) = true then Oper.wp Tryz.prog o a w K Q else E := by
  have hw : Region.wanted o (yielded ops a.tmps) = true := by simp [Region.wanted, hgd]
  rw [if_pos hw]
  have hx' : a.tmps.getD k undef = .slice (some ⟨b, 0, none⟩) m m := hx
  have h1 := hz.conv
  unfold Oper.wp execOp
  simp only [ho, Act.eval, hx', Sem.run_bind, Sem.run_pure, Sem.run_map, Result.andThen_ok, h1]
  exact h
theorem step_storeS {w : World} {ops : Array Oper} {o : Oper} {a : Act} {K : Act → World → Prop} {Q : Exit → Act → World → Prop} {E : Prop} (hgd : o.guard = none) (k j : Nat)
    (ho : o.op = .store 9 (.tmp k) (.tmp j)) (b q : Nat) (s : ByteArray) (u : Value) (hx : a.eval (.tmp k) = .pointer (some ⟨b, q, none⟩)) (hv : a.eval (.tmp j) = .string s) (hc : w.cell? ⟨b, q, none⟩ = some u) (hf : w.frozen? ⟨b, q, none⟩ = false) (h : K (a.put o.dst undef) (w.setCell ⟨b, q, none⟩ (.string s))) :
    if Region.wanted o (yielded ops a.tmps) = true then Oper.wp Tryz.prog o a w K Q else E := by
  have hw : Region.wanted o (yielded ops a.tmps) = true := by simp [Region.wanted, hgd]
  rw [if_pos hw]
  have hx' : a.tmps.getD k undef = .pointer (some ⟨b, q, none⟩) := hx
  have hv' : a.tmps.getD j undef = .string s := hv
  unfold Oper.wp execOp
  simp only [ho, Act.eval, hx', hv']
  go_simp
  exact h
end Go.Proofs.YtohjjigkfdhklaaGreat
namespace Go.Proofs.YtohjjigkfdhklaaGreat
set_option maxRecDepth 100000
open Go.RowKit
set_option linter.unusedSimpArgs false
set_option linter.unusedVariables false

/-- A drawn entry. -/
def EnO (CB : Nat) (ao : Option Addr) (n cap : Nat) (f : Nat → Int) (A : Nat) (w : World) (e : Ending) (w' : World) : Prop :=
  ∃ (x : Ent) (xo : Option Addr) (xc : Nat), e = .returned (.agg #[.string x.key, .int .i64 x.seq, .int .i64 x.kind, .int .i64 x.c, .int .i64 x.s, .int .i64 x.lo, .int .i64 x.hi, .slice xo x.n xc, .bool x.fu]) ∧ HR w' w.heap.size xo x.n x.f ∧ (EB x ∧ x.key.size ≤ 200 ∧ x.n ≤ 8) ∧ CS w w' CB ao n cap f (A + 30)
theorem nz_sizes : ∀ i, i < [(⟨#[]⟩ : ByteArray), nul 140, nul 141].length → ([(⟨#[]⟩ : ByteArray), nul 140, nul 141].getD i ⟨#[]⟩).size ≤ 200 := by
  intro i hi
  have h1 := nul_size 140
  have h2 := nul_size 141
  have : i = 0 ∨ i = 1 ∨ i = 2 := by simp at hi; omega
  rcases this with rfl | rfl | rfl
  · show (⟨#[]⟩ : ByteArray).size ≤ 200
    decide
  · show (nul 140).size ≤ 200
    omega
  · show (nul 141).size ≤ 200
    omega

set_option maxRecDepth 100000 in
set_option maxHeartbeats 16000000 in
theorem entryD_any {w : World} {CB : Nat} {ao : Option Addr} {n cap : Nat} {f : Nat → Int} {A : Nat} (h : CS w w CB ao n cap f A) (hA : A ≤ 90000) :
    Calls Tryz.prog 76 #[.pointer (some ⟨CB, 0, none⟩)] w fun e w' => EnO CB ao n cap f A w e w' := by
  have hnz := nz_sizes
  have hB := below_new w (.cells #[.string ⟨#[]⟩, .int .i64 0, .int .i64 0, .int .i64 0, .int .i64 0, .int .i64 0, .int .i64 0, .slice none 0 0, .bool false] 35)
  have RA0 : EAt (w.alloc (.cells #[.string ⟨#[]⟩, .int .i64 0, .int .i64 0, .int .i64 0, .int .i64 0, .int .i64 0, .int .i64 0, .slice none 0 0, .bool false] 35)) w.heap.size 0 zE none 0 := EAt.new w zE none 0 35
  have RF0 : ∀ j, (w.alloc (.cells #[.string ⟨#[]⟩, .int .i64 0, .int .i64 0, .int .i64 0, .int .i64 0, .int .i64 0, .int .i64 0, .slice none 0 0, .bool false] 35)).frozen? ⟨w.heap.size, j, none⟩ = false := fun j => by simp [go_sem]
  have sz0 : (w.alloc (.cells #[.string ⟨#[]⟩, .int .i64 0, .int .i64 0, .int .i64 0, .int .i64 0, .int .i64 0, .int .i64 0, .slice none 0 0, .bool false] 35)).heap.size = w.heap.size + 1 := by simp
  have C0 := h.keep hB
  have hl0 := h.lt
  go_enter Tryz.func76, Tryz.ntmps76
  go_wp2_with fail
  generalize w.alloc (.cells #[.string ⟨#[]⟩, .int .i64 0, .int .i64 0, .int .i64 0, .int .i64 0, .int .i64 0, .int .i64 0, .slice none 0 0, .bool false] 35) = w0 at hB RA0 RF0 sz0 C0 ⊢
  refine (keyText_s C0.self (by omega)).mono ?_
  rintro e w1 ⟨s1, hs1, rfl, K1⟩
  have C1 := C0.trans K1
  have RA1 := eat_grown RA0 K1.gr (by omega)
  have RF1 := froz_grown RF0 RA0.lt K1.gr (by omega)
  have z1 := K1.gr.size
  clear K1 C0 RA0 RF0
  go_wp2_with fail
  refine (pick_s 40 (by omega) C1.self (by omega)).mono ?_
  rintro e w2 ⟨x2, rfl, x20, x21, K2⟩
  have C2 := C1.trans K2
  have RA2 := eat_grown RA1 K2.gr (by omega)
  have RF2 := froz_grown RF1 RA1.lt K2.gr (by omega)
  have z2 := K2.gr.size
  have hwx : IntKind.i64.wrap (1 + x2) = 1 + x2 := by rw [IntKind.wrap_i64] <;> omega
  clear K2 C1 RA1 RF1
  have b3 := below_new w2 (.cells #[.int .i64 1, .int .i64 2, .int .i64 3, .int .i64 3] 3)
  have L3 : LiAt (w2.alloc (.cells #[.int .i64 1, .int .i64 2, .int .i64 3, .int .i64 3] 3)) w2.heap.size [1, 2, 3, 3] := LiAt.new w2 [1, 2, 3, 3] 3
  have C3 := C2.keep b3
  have RA3 := RA2.keep b3
  have RF3 := froz_keep RF2 RA2.lt b3
  have sz3 : (w2.alloc (.cells #[.int .i64 1, .int .i64 2, .int .i64 3, .int .i64 3] 3)).heap.size = w2.heap.size + 1 := by simp
  clear C2 RA2 RF2 b3
  go_wp2_with fail
  generalize w2.alloc (.cells #[.int .i64 1, .int .i64 2, .int .i64 3, .int .i64 3] 3) = w3 at L3 C3 RA3 RF3 sz3 ⊢
  refine (among_s [1, 2, 3, 3] (by decide) w2.heap.size L3 (by omega) C3.self (by omega)).mono ?_
  rintro e w4 ⟨x4, hx4, rfl, K4⟩
  have C4 := C3.trans K4
  have RA4 := eat_grown RA3 K4.gr (by omega)
  have RF4 := froz_grown RF3 RA3.lt K4.gr (by omega)
  have z4 := K4.gr.size
  clear K4 C3 RA3 RF3 L3 hx4
  obtain ⟨E0, hE0⟩ : ∃ E0 : Ent, E0 = ⟨s1, 1 + x2, x4, 0, 0, 0, 0, 0, fun _ => 0, false⟩ := ⟨_, rfl⟩
  have b5 := below_new w4 (.cells #[.string s1, .int .i64 (1 + x2), .int .i64 x4, .int .i64 0, .int .i64 0, .int .i64 0, .int .i64 0, .slice none 0 0, .bool false] 35)
  have DF5 : ∀ j, (w4.alloc (.cells #[.string s1, .int .i64 (1 + x2), .int .i64 x4, .int .i64 0, .int .i64 0, .int .i64 0, .int .i64 0, .slice none 0 0, .bool false] 35)).frozen? ⟨w4.heap.size, j, none⟩ = false := fun j => by simp [go_sem]
  have G5 : EW w (w4.alloc (.cells #[.string s1, .int .i64 (1 + x2), .int .i64 x4, .int .i64 0, .int .i64 0, .int .i64 0, .int .i64 0, .slice none 0 0, .bool false] 35)) w.heap.size w4.heap.size CB ao n cap f (A + 3) ⟨s1, 1 + x2, x4, 0, 0, 0, 0, 0, fun _ => 0, false⟩ none 0 := by
    refine ⟨C4.keep b5, RA4.keep b5, froz_keep RF4 RA4.lt b5, EAt.new w4 ⟨s1, 1 + x2, x4, 0, 0, 0, 0, 0, fun _ => 0, false⟩ none 0 35, DF5, HR.none (fun _ => by show -9223372036854775808 ≤ (0 : Int) ∧ (0 : Int) ≤ 9223372036854775807; omega), (fun g off e => by cases e), by omega, ⟨⟨by show -9223372036854775808 ≤ 1 + x2 ∧ 1 + x2 ≤ 9223372036854775807; omega, by show -9223372036854775808 ≤ (0 : Int) ∧ (0 : Int) ≤ 9223372036854775807; omega, by show s1.size ≤ _; omega, by show 0 ≤ _; omega⟩, by show s1.size ≤ 200; omega, by show 0 ≤ 8; omega⟩⟩
  clear b5 DF5 C4 RA4 RF4 E0 hE0
  go_upto_if 15 with fail
  generalize w4.alloc (.cells #[.string s1, .int .i64 (1 + x2), .int .i64 x4, .int .i64 0, .int .i64 0, .int .i64 0, .int .i64 0, .slice none 0 0, .bool false] 35) = w5 at G5 ⊢
  generalize w4.heap.size = D at *
  generalize hR : w.heap.size = R at *
  go_cut [3] from 15 to 18 (fun s3 wx => s3 = .pointer (some ⟨D, 0, none⟩) ∧ ∃ x xo xc, EW w wx R D CB ao n cap f (A + 23) x xo xc)
  case first =>
    cases hk : (x4 != 2)
    · go_wp2
      go_meet
      exact ⟨rfl, _, _, _, ⟨G5.C.mono (by omega), G5.RA, G5.RF, G5.DA, G5.DF, G5.H, G5.far, G5.ne, G5.bd⟩⟩
    · go_wp2_with fail
      refine (aggD_any G5.C.self (by omega)).mono ?_
      rintro e w6 ⟨y6, g6, o6, c6, rfl, r6, hg6, hn6, hs6, K6⟩
      have hne := G5.ne
      have hDl := G5.DA.lt
      have hRl := G5.RA.lt
      have hws := G5.C.gr.size
      have G6 := G5.draw K6
      have G7 := G6.setA y6 g6 o6 c6 ⟨r6, fun g off e _ => by injection e with e; injection e with e1 _ _; omega⟩ (by omega) hn6 hs6
      obtain ⟨_, d0, d1, d2, d3, d4, d5, d6, d7, d8⟩ := id G6.DA
      simp only [Nat.zero_add] at d1 d2 d3 d4 d5 d6 d7 d8
      have df := G6.DF
      clear G5 K6 G6
      go_wp2
      go_meet
      exact ⟨rfl, _, _, _, ⟨G7.C.mono (by omega), G7.RA, G7.RF, G7.DA, G7.DF, G7.H, G7.far, G7.ne, G7.bd⟩⟩
  case rest =>
    obtain ⟨rfl, x, xo, xc, G6⟩ := hcut
    clear G5
    go_wp2_with fail
    refine (pick_s 60 (by omega) G6.C.self (by omega)).mono ?_
    rintro e w7 ⟨x7, rfl, x70, x71, K7⟩
    have G7 := G6.draw K7
    clear G6 K7
    have hlc := G7.C.ltw
    have hne := G7.ne
    go_upto_block 0 with fail
    go_cut [3] from 21 to 42 (fun s3 wx => s3 = .pointer (some ⟨D, 0, none⟩) ∧ ∃ x xo xc, EW w wx R D CB ao n cap f (A + 25) x xo xc)
    case first =>
      by_cases c0 : x7 = 0
      · subst c0
        have GW0 := G7.keep (Below.refl _ w7).drew
        clear G7 hlc
        go_wp2
        refine wp_region_w (fun _ : World => True) (fun _ => true) (by kernel_rfl) ?_
        change wpW _ _ _ _ _ _ 9 _ _ w7.drew
        generalize w7.drew = W0 at GW0 ⊢
        refine wpW_take 0 _ (.pointer (some ⟨CB, 0, none⟩)) rfl (by kernel_rfl) (by kernel_rfl) (by kernel_rfl) (fun _ _ _ h => h) (by kernel_rfl) (.inl ⟨rfl, fun w' hS' => by go_simp⟩) trivial ?_
        simp only [Act.put, List.getElem_toArray, List.getElem_cons_succ, List.getElem_cons_zero, List.setIfInBounds_toArray, List.set_cons_zero, List.set_cons_succ]
        refine wpW_two 1 3 _ _ rfl rfl (by kernel_rfl) (step_make rfl 140 (by omega) rfl ?_) (step_make rfl 141 (by omega) rfl ?_)
        · intro W1 Z140_1 bq1
          have GW1 := GW0.keep bq1
          refine ⟨fun _ => trivial, ?_⟩
          simp only [Act.put, List.getElem_toArray, List.getElem_cons_succ, List.getElem_cons_zero, List.setIfInBounds_toArray, List.set_cons_zero, List.set_cons_succ]
          clear bq1 GW0
          refine wpW_two 2 3 _ _ rfl rfl (by kernel_rfl) (step_conv rfl 24 140 _ rfl rfl Z140_1 ?_) (step_make rfl 141 (by omega) rfl ?_)
          · refine ⟨fun _ => trivial, ?_⟩
            simp only [Act.put, List.getElem_toArray, List.getElem_cons_succ, List.getElem_cons_zero, List.setIfInBounds_toArray, List.set_cons_zero, List.set_cons_succ]
            refine wpW_one 3 _ rfl (by kernel_rfl) (step_make rfl 141 (by omega) rfl ?_)
            intro W3 Z141_3 bq3
            have GW3 := GW1.keep bq3
            have Z140_3 := Z140_1.keep bq3
            refine ⟨fun _ => trivial, ?_⟩
            simp only [Act.put, List.getElem_toArray, List.getElem_cons_succ, List.getElem_cons_zero, List.setIfInBounds_toArray, List.set_cons_zero, List.set_cons_succ]
            clear bq3 GW1
            refine wpW_one 4 _ rfl (by kernel_rfl) (step_conv rfl 26 141 _ rfl rfl Z141_3 ?_)
            refine ⟨fun _ => trivial, ?_⟩
            simp only [Act.put, List.getElem_toArray, List.getElem_cons_succ, List.getElem_cons_zero, List.setIfInBounds_toArray, List.set_cons_zero, List.set_cons_succ]
            have bl := below_new W3 (.cells #[.string ⟨#[]⟩, .string (nul 140), .string (nul 141)] 9)
            have L1 : LsAt (W3.alloc (.cells #[.string ⟨#[]⟩, .string (nul 140), .string (nul 141)] 9)) W3.heap.size [(⟨#[]⟩ : ByteArray), nul 140, nul 141] := LsAt.new W3 [(⟨#[]⟩ : ByteArray), nul 140, nul 141] 9
            have GL := GW3.keep bl
            have hlc := GW3.C.ltw
            refine wpW_one 5 _ rfl (by kernel_rfl) (step_val rfl (.slice (some ⟨W3.heap.size, 0, none⟩) 3 3) (w' := W3.alloc (.cells #[.string ⟨#[]⟩, .string (nul 140), .string (nul 141)] 9)) (by go_simp) ?_)
            refine ⟨fun _ => trivial, ?_⟩
            simp only [Act.put, List.getElem_toArray, List.getElem_cons_succ, List.getElem_cons_zero, List.setIfInBounds_toArray, List.set_cons_zero, List.set_cons_succ]
            refine wpW_one 6 _ rfl (by kernel_rfl) (step_call rfl 104 #[.pointer (some ⟨CB, 0, none⟩), .slice (some ⟨W3.heap.size, 0, none⟩) 3 3] _ (by go_simp) (of_s [(⟨#[]⟩ : ByteArray), nul 140, nul 141] 200 (by decide) hnz W3.heap.size L1 (by omega) GL.C.self (by omega)) ?_)
            rintro e w9 ⟨s9, hs9, rfl, K9⟩
            have G9 := GL.draw K9
            have H9 := G9.set0 s9 hs9
            have f9 := G9.DF 0
            have c9 := G9.DA.c0
            refine ⟨_, rfl, fun _ => trivial, ?_⟩
            simp only [Act.put, List.getElem_toArray, List.getElem_cons_succ, List.getElem_cons_zero, List.setIfInBounds_toArray, List.set_cons_zero, List.set_cons_succ]
            refine wpW_one 7 _ rfl (by kernel_rfl) (step_val rfl (.pointer (some ⟨D, 0, none⟩)) (w' := w9) (by go_simp) ?_)
            refine ⟨fun _ => trivial, ?_⟩
            simp only [Act.put, List.getElem_toArray, List.getElem_cons_succ, List.getElem_cons_zero, List.setIfInBounds_toArray, List.set_cons_zero, List.set_cons_succ]
            refine wpW_one 8 _ rfl (by kernel_rfl) (step_storeS rfl 30 29 rfl D 0 s9 _ rfl rfl c9 f9 ?_)
            refine ⟨fun _ => trivial, ?_⟩
            refine wpW_done (by kernel_rfl) ?_
            simp only [Act.put, List.getElem_toArray, List.getElem_cons_succ, List.getElem_cons_zero, List.setIfInBounds_toArray, List.set_cons_zero, List.set_cons_succ]
            clear G9 GL bl L1 K9
            go_wp2
            go_meet
            exact ⟨rfl, _, _, _, H9⟩
          · intro W6 Z141_6 bq6
            have GW6 := GW1.keep bq6
            have Z140_6 := Z140_1.keep bq6
            refine ⟨fun _ => trivial, ?_⟩
            simp only [Act.put, List.getElem_toArray, List.getElem_cons_succ, List.getElem_cons_zero, List.setIfInBounds_toArray, List.set_cons_zero, List.set_cons_succ]
            clear bq6 GW1
            refine wpW_two 2 4 _ _ rfl rfl (by kernel_rfl) (step_conv rfl 24 140 _ rfl rfl Z140_6 ?_) (step_conv rfl 26 141 _ rfl rfl Z141_6 ?_)
            · refine ⟨fun _ => trivial, ?_⟩
              simp only [Act.put, List.getElem_toArray, List.getElem_cons_succ, List.getElem_cons_zero, List.setIfInBounds_toArray, List.set_cons_zero, List.set_cons_succ]
              refine wpW_one 4 _ rfl (by kernel_rfl) (step_conv rfl 26 141 _ rfl rfl Z141_6 ?_)
              refine ⟨fun _ => trivial, ?_⟩
              simp only [Act.put, List.getElem_toArray, List.getElem_cons_succ, List.getElem_cons_zero, List.setIfInBounds_toArray, List.set_cons_zero, List.set_cons_succ]
              have bl := below_new W6 (.cells #[.string ⟨#[]⟩, .string (nul 140), .string (nul 141)] 9)
              have L1 : LsAt (W6.alloc (.cells #[.string ⟨#[]⟩, .string (nul 140), .string (nul 141)] 9)) W6.heap.size [(⟨#[]⟩ : ByteArray), nul 140, nul 141] := LsAt.new W6 [(⟨#[]⟩ : ByteArray), nul 140, nul 141] 9
              have GL := GW6.keep bl
              have hlc := GW6.C.ltw
              refine wpW_one 5 _ rfl (by kernel_rfl) (step_val rfl (.slice (some ⟨W6.heap.size, 0, none⟩) 3 3) (w' := W6.alloc (.cells #[.string ⟨#[]⟩, .string (nul 140), .string (nul 141)] 9)) (by go_simp) ?_)
              refine ⟨fun _ => trivial, ?_⟩
              simp only [Act.put, List.getElem_toArray, List.getElem_cons_succ, List.getElem_cons_zero, List.setIfInBounds_toArray, List.set_cons_zero, List.set_cons_succ]
              refine wpW_one 6 _ rfl (by kernel_rfl) (step_call rfl 104 #[.pointer (some ⟨CB, 0, none⟩), .slice (some ⟨W6.heap.size, 0, none⟩) 3 3] _ (by go_simp) (of_s [(⟨#[]⟩ : ByteArray), nul 140, nul 141] 200 (by decide) hnz W6.heap.size L1 (by omega) GL.C.self (by omega)) ?_)
              rintro e w9 ⟨s9, hs9, rfl, K9⟩
              have G9 := GL.draw K9
              have H9 := G9.set0 s9 hs9
              have f9 := G9.DF 0
              have c9 := G9.DA.c0
              refine ⟨_, rfl, fun _ => trivial, ?_⟩
              simp only [Act.put, List.getElem_toArray, List.getElem_cons_succ, List.getElem_cons_zero, List.setIfInBounds_toArray, List.set_cons_zero, List.set_cons_succ]
              refine wpW_one 7 _ rfl (by kernel_rfl) (step_val rfl (.pointer (some ⟨D, 0, none⟩)) (w' := w9) (by go_simp) ?_)
              refine ⟨fun _ => trivial, ?_⟩
              simp only [Act.put, List.getElem_toArray, List.getElem_cons_succ, List.getElem_cons_zero, List.setIfInBounds_toArray, List.set_cons_zero, List.set_cons_succ]
              refine wpW_one 8 _ rfl (by kernel_rfl) (step_storeS rfl 30 29 rfl D 0 s9 _ rfl rfl c9 f9 ?_)
              refine ⟨fun _ => trivial, ?_⟩
              refine wpW_done (by kernel_rfl) ?_
              simp only [Act.put, List.getElem_toArray, List.getElem_cons_succ, List.getElem_cons_zero, List.setIfInBounds_toArray, List.set_cons_zero, List.set_cons_succ]
              clear G9 GL bl L1 K9
              go_wp2
              go_meet
              exact ⟨rfl, _, _, _, H9⟩
            · refine ⟨fun _ => trivial, ?_⟩
              simp only [Act.put, List.getElem_toArray, List.getElem_cons_succ, List.getElem_cons_zero, List.setIfInBounds_toArray, List.set_cons_zero, List.set_cons_succ]
              refine wpW_one 2 _ rfl (by kernel_rfl) (step_conv rfl 24 140 _ rfl rfl Z140_6 ?_)
              refine ⟨fun _ => trivial, ?_⟩
              simp only [Act.put, List.getElem_toArray, List.getElem_cons_succ, List.getElem_cons_zero, List.setIfInBounds_toArray, List.set_cons_zero, List.set_cons_succ]
              have bl := below_new W6 (.cells #[.string ⟨#[]⟩, .string (nul 140), .string (nul 141)] 9)
              have L1 : LsAt (W6.alloc (.cells #[.string ⟨#[]⟩, .string (nul 140), .string (nul 141)] 9)) W6.heap.size [(⟨#[]⟩ : ByteArray), nul 140, nul 141] := LsAt.new W6 [(⟨#[]⟩ : ByteArray), nul 140, nul 141] 9
              have GL := GW6.keep bl
              have hlc := GW6.C.ltw
              refine wpW_one 5 _ rfl (by kernel_rfl) (step_val rfl (.slice (some ⟨W6.heap.size, 0, none⟩) 3 3) (w' := W6.alloc (.cells #[.string ⟨#[]⟩, .string (nul 140), .string (nul 141)] 9)) (by go_simp) ?_)
              refine ⟨fun _ => trivial, ?_⟩
              simp only [Act.put, List.getElem_toArray, List.getElem_cons_succ, List.getElem_cons_zero, List.setIfInBounds_toArray, List.set_cons_zero, List.set_cons_succ]
              refine wpW_one 6 _ rfl (by kernel_rfl) (step_call rfl 104 #[.pointer (some ⟨CB, 0, none⟩), .slice (some ⟨W6.heap.size, 0, none⟩) 3 3] _ (by go_simp) (of_s [(⟨#[]⟩ : ByteArray), nul 140, nul 141] 200 (by decide) hnz W6.heap.size L1 (by omega) GL.C.self (by omega)) ?_)
              rintro e w9 ⟨s9, hs9, rfl, K9⟩
              have G9 := GL.draw K9
              have H9 := G9.set0 s9 hs9
              have f9 := G9.DF 0
              have c9 := G9.DA.c0
              refine ⟨_, rfl, fun _ => trivial, ?_⟩
              simp only [Act.put, List.getElem_toArray, List.getElem_cons_succ, List.getElem_cons_zero, List.setIfInBounds_toArray, List.set_cons_zero, List.set_cons_succ]
              refine wpW_one 7 _ rfl (by kernel_rfl) (step_val rfl (.pointer (some ⟨D, 0, none⟩)) (w' := w9) (by go_simp) ?_)
              refine ⟨fun _ => trivial, ?_⟩
              simp only [Act.put, List.getElem_toArray, List.getElem_cons_succ, List.getElem_cons_zero, List.setIfInBounds_toArray, List.set_cons_zero, List.set_cons_succ]
              refine wpW_one 8 _ rfl (by kernel_rfl) (step_storeS rfl 30 29 rfl D 0 s9 _ rfl rfl c9 f9 ?_)
              refine ⟨fun _ => trivial, ?_⟩
              refine wpW_done (by kernel_rfl) ?_
              simp only [Act.put, List.getElem_toArray, List.getElem_cons_succ, List.getElem_cons_zero, List.setIfInBounds_toArray, List.set_cons_zero, List.set_cons_succ]
              clear G9 GL bl L1 K9
              go_wp2
              go_meet
              exact ⟨rfl, _, _, _, H9⟩
        · intro W13 Z141_13 bq13
          have GW13 := GW0.keep bq13
          refine ⟨fun _ => trivial, ?_⟩
          simp only [Act.put, List.getElem_toArray, List.getElem_cons_succ, List.getElem_cons_zero, List.setIfInBounds_toArray, List.set_cons_zero, List.set_cons_succ]
          clear bq13 GW0
          refine wpW_two 1 4 _ _ rfl rfl (by kernel_rfl) (step_make rfl 140 (by omega) rfl ?_) (step_conv rfl 26 141 _ rfl rfl Z141_13 ?_)
          · intro W14 Z140_14 bq14
            have GW14 := GW13.keep bq14
            have Z141_14 := Z141_13.keep bq14
            refine ⟨fun _ => trivial, ?_⟩
            simp only [Act.put, List.getElem_toArray, List.getElem_cons_succ, List.getElem_cons_zero, List.setIfInBounds_toArray, List.set_cons_zero, List.set_cons_succ]
            clear bq14 GW13
            refine wpW_two 2 4 _ _ rfl rfl (by kernel_rfl) (step_conv rfl 24 140 _ rfl rfl Z140_14 ?_) (step_conv rfl 26 141 _ rfl rfl Z141_14 ?_)
            · refine ⟨fun _ => trivial, ?_⟩
              simp only [Act.put, List.getElem_toArray, List.getElem_cons_succ, List.getElem_cons_zero, List.setIfInBounds_toArray, List.set_cons_zero, List.set_cons_succ]
              refine wpW_one 4 _ rfl (by kernel_rfl) (step_conv rfl 26 141 _ rfl rfl Z141_14 ?_)
              refine ⟨fun _ => trivial, ?_⟩
              simp only [Act.put, List.getElem_toArray, List.getElem_cons_succ, List.getElem_cons_zero, List.setIfInBounds_toArray, List.set_cons_zero, List.set_cons_succ]
              have bl := below_new W14 (.cells #[.string ⟨#[]⟩, .string (nul 140), .string (nul 141)] 9)
              have L1 : LsAt (W14.alloc (.cells #[.string ⟨#[]⟩, .string (nul 140), .string (nul 141)] 9)) W14.heap.size [(⟨#[]⟩ : ByteArray), nul 140, nul 141] := LsAt.new W14 [(⟨#[]⟩ : ByteArray), nul 140, nul 141] 9
              have GL := GW14.keep bl
              have hlc := GW14.C.ltw
              refine wpW_one 5 _ rfl (by kernel_rfl) (step_val rfl (.slice (some ⟨W14.heap.size, 0, none⟩) 3 3) (w' := W14.alloc (.cells #[.string ⟨#[]⟩, .string (nul 140), .string (nul 141)] 9)) (by go_simp) ?_)
              refine ⟨fun _ => trivial, ?_⟩
              simp only [Act.put, List.getElem_toArray, List.getElem_cons_succ, List.getElem_cons_zero, List.setIfInBounds_toArray, List.set_cons_zero, List.set_cons_succ]
              refine wpW_one 6 _ rfl (by kernel_rfl) (step_call rfl 104 #[.pointer (some ⟨CB, 0, none⟩), .slice (some ⟨W14.heap.size, 0, none⟩) 3 3] _ (by go_simp) (of_s [(⟨#[]⟩ : ByteArray), nul 140, nul 141] 200 (by decide) hnz W14.heap.size L1 (by omega) GL.C.self (by omega)) ?_)
              rintro e w9 ⟨s9, hs9, rfl, K9⟩
              have G9 := GL.draw K9
              have H9 := G9.set0 s9 hs9
              have f9 := G9.DF 0
              have c9 := G9.DA.c0
              refine ⟨_, rfl, fun _ => trivial, ?_⟩
              simp only [Act.put, List.getElem_toArray, List.getElem_cons_succ, List.getElem_cons_zero, List.setIfInBounds_toArray, List.set_cons_zero, List.set_cons_succ]
              refine wpW_one 7 _ rfl (by kernel_rfl) (step_val rfl (.pointer (some ⟨D, 0, none⟩)) (w' := w9) (by go_simp) ?_)
              refine ⟨fun _ => trivial, ?_⟩
              simp only [Act.put, List.getElem_toArray, List.getElem_cons_succ, List.getElem_cons_zero, List.setIfInBounds_toArray, List.set_cons_zero, List.set_cons_succ]
              refine wpW_one 8 _ rfl (by kernel_rfl) (step_storeS rfl 30 29 rfl D 0 s9 _ rfl rfl c9 f9 ?_)
              refine ⟨fun _ => trivial, ?_⟩
              refine wpW_done (by kernel_rfl) ?_
              simp only [Act.put, List.getElem_toArray, List.getElem_cons_succ, List.getElem_cons_zero, List.setIfInBounds_toArray, List.set_cons_zero, List.set_cons_succ]
              clear G9 GL bl L1 K9
              go_wp2
              go_meet
              exact ⟨rfl, _, _, _, H9⟩
            · refine ⟨fun _ => trivial, ?_⟩
              simp only [Act.put, List.getElem_toArray, List.getElem_cons_succ, List.getElem_cons_zero, List.setIfInBounds_toArray, List.set_cons_zero, List.set_cons_succ]
              refine wpW_one 2 _ rfl (by kernel_rfl) (step_conv rfl 24 140 _ rfl rfl Z140_14 ?_)
              refine ⟨fun _ => trivial, ?_⟩
              simp only [Act.put, List.getElem_toArray, List.getElem_cons_succ, List.getElem_cons_zero, List.setIfInBounds_toArray, List.set_cons_zero, List.set_cons_succ]
              have bl := below_new W14 (.cells #[.string ⟨#[]⟩, .string (nul 140), .string (nul 141)] 9)
              have L1 : LsAt (W14.alloc (.cells #[.string ⟨#[]⟩, .string (nul 140), .string (nul 141)] 9)) W14.heap.size [(⟨#[]⟩ : ByteArray), nul 140, nul 141] := LsAt.new W14 [(⟨#[]⟩ : ByteArray), nul 140, nul 141] 9
              have GL := GW14.keep bl
              have hlc := GW14.C.ltw
              refine wpW_one 5 _ rfl (by kernel_rfl) (step_val rfl (.slice (some ⟨W14.heap.size, 0, none⟩) 3 3) (w' := W14.alloc (.cells #[.string ⟨#[]⟩, .string (nul 140), .string (nul 141)] 9)) (by go_simp) ?_)
              refine ⟨fun _ => trivial, ?_⟩
              simp only [Act.put, List.getElem_toArray, List.getElem_cons_succ, List.getElem_cons_zero, List.setIfInBounds_toArray, List.set_cons_zero, List.set_cons_succ]
              refine wpW_one 6 _ rfl (by kernel_rfl) (step_call rfl 104 #[.pointer (some ⟨CB, 0, none⟩), .slice (some ⟨W14.heap.size, 0, none⟩) 3 3] _ (by go_simp) (of_s [(⟨#[]⟩ : ByteArray), nul 140, nul 141] 200 (by decide) hnz W14.heap.size L1 (by omega) GL.C.self (by omega)) ?_)
              rintro e w9 ⟨s9, hs9, rfl, K9⟩
              have G9 := GL.draw K9
              have H9 := G9.set0 s9 hs9
              have f9 := G9.DF 0
              have c9 := G9.DA.c0
              refine ⟨_, rfl, fun _ => trivial, ?_⟩
              simp only [Act.put, List.getElem_toArray, List.getElem_cons_succ, List.getElem_cons_zero, List.setIfInBounds_toArray, List.set_cons_zero, List.set_cons_succ]
              refine wpW_one 7 _ rfl (by kernel_rfl) (step_val rfl (.pointer (some ⟨D, 0, none⟩)) (w' := w9) (by go_simp) ?_)
              refine ⟨fun _ => trivial, ?_⟩
              simp only [Act.put, List.getElem_toArray, List.getElem_cons_succ, List.getElem_cons_zero, List.setIfInBounds_toArray, List.set_cons_zero, List.set_cons_succ]
              refine wpW_one 8 _ rfl (by kernel_rfl) (step_storeS rfl 30 29 rfl D 0 s9 _ rfl rfl c9 f9 ?_)
              refine ⟨fun _ => trivial, ?_⟩
              refine wpW_done (by kernel_rfl) ?_
              simp only [Act.put, List.getElem_toArray, List.getElem_cons_succ, List.getElem_cons_zero, List.setIfInBounds_toArray, List.set_cons_zero, List.set_cons_succ]
              clear G9 GL bl L1 K9
              go_wp2
              go_meet
              exact ⟨rfl, _, _, _, H9⟩
          · refine ⟨fun _ => trivial, ?_⟩
            simp only [Act.put, List.getElem_toArray, List.getElem_cons_succ, List.getElem_cons_zero, List.setIfInBounds_toArray, List.set_cons_zero, List.set_cons_succ]
            refine wpW_one 1 _ rfl (by kernel_rfl) (step_make rfl 140 (by omega) rfl ?_)
            intro W22 Z140_22 bq22
            have GW22 := GW13.keep bq22
            have Z141_22 := Z141_13.keep bq22
            refine ⟨fun _ => trivial, ?_⟩
            simp only [Act.put, List.getElem_toArray, List.getElem_cons_succ, List.getElem_cons_zero, List.setIfInBounds_toArray, List.set_cons_zero, List.set_cons_succ]
            clear bq22 GW13
            refine wpW_one 2 _ rfl (by kernel_rfl) (step_conv rfl 24 140 _ rfl rfl Z140_22 ?_)
            refine ⟨fun _ => trivial, ?_⟩
            simp only [Act.put, List.getElem_toArray, List.getElem_cons_succ, List.getElem_cons_zero, List.setIfInBounds_toArray, List.set_cons_zero, List.set_cons_succ]
            have bl := below_new W22 (.cells #[.string ⟨#[]⟩, .string (nul 140), .string (nul 141)] 9)
            have L1 : LsAt (W22.alloc (.cells #[.string ⟨#[]⟩, .string (nul 140), .string (nul 141)] 9)) W22.heap.size [(⟨#[]⟩ : ByteArray), nul 140, nul 141] := LsAt.new W22 [(⟨#[]⟩ : ByteArray), nul 140, nul 141] 9
            have GL := GW22.keep bl
            have hlc := GW22.C.ltw
            refine wpW_one 5 _ rfl (by kernel_rfl) (step_val rfl (.slice (some ⟨W22.heap.size, 0, none⟩) 3 3) (w' := W22.alloc (.cells #[.string ⟨#[]⟩, .string (nul 140), .string (nul 141)] 9)) (by go_simp) ?_)
            refine ⟨fun _ => trivial, ?_⟩
            simp only [Act.put, List.getElem_toArray, List.getElem_cons_succ, List.getElem_cons_zero, List.setIfInBounds_toArray, List.set_cons_zero, List.set_cons_succ]
            refine wpW_one 6 _ rfl (by kernel_rfl) (step_call rfl 104 #[.pointer (some ⟨CB, 0, none⟩), .slice (some ⟨W22.heap.size, 0, none⟩) 3 3] _ (by go_simp) (of_s [(⟨#[]⟩ : ByteArray), nul 140, nul 141] 200 (by decide) hnz W22.heap.size L1 (by omega) GL.C.self (by omega)) ?_)
            rintro e w9 ⟨s9, hs9, rfl, K9⟩
            have G9 := GL.draw K9
            have H9 := G9.set0 s9 hs9
            have f9 := G9.DF 0
            have c9 := G9.DA.c0
            refine ⟨_, rfl, fun _ => trivial, ?_⟩
            simp only [Act.put, List.getElem_toArray, List.getElem_cons_succ, List.getElem_cons_zero, List.setIfInBounds_toArray, List.set_cons_zero, List.set_cons_succ]
            refine wpW_one 7 _ rfl (by kernel_rfl) (step_val rfl (.pointer (some ⟨D, 0, none⟩)) (w' := w9) (by go_simp) ?_)
            refine ⟨fun _ => trivial, ?_⟩
            simp only [Act.put, List.getElem_toArray, List.getElem_cons_succ, List.getElem_cons_zero, List.setIfInBounds_toArray, List.set_cons_zero, List.set_cons_succ]
            refine wpW_one 8 _ rfl (by kernel_rfl) (step_storeS rfl 30 29 rfl D 0 s9 _ rfl rfl c9 f9 ?_)
            refine ⟨fun _ => trivial, ?_⟩
            refine wpW_done (by kernel_rfl) ?_
            simp only [Act.put, List.getElem_toArray, List.getElem_cons_succ, List.getElem_cons_zero, List.setIfInBounds_toArray, List.set_cons_zero, List.set_cons_succ]
            clear G9 GL bl L1 K9
            go_wp2
            go_meet
            exact ⟨rfl, _, _, _, H9⟩
      have e0 : (x7 == 0) = false := by simp [c0]
      by_cases c1 : x7 = 1
      · subst c1
        have b8 := below_new w7 (.cells #[.int .i64 0, .int .i64 1000000000, .int .i64 1000000001] 3)
        have L8 : LiAt (w7.alloc (.cells #[.int .i64 0, .int .i64 1000000000, .int .i64 1000000001] 3)) w7.heap.size [0, 1000000000, 1000000001] := LiAt.new w7 [0, 1000000000, 1000000001] 3
        have G8 := G7.keep b8
        clear G7 b8
        go_wp2_with fail
        refine (among_s [0, 1000000000, 1000000001] (by decide) w7.heap.size L8 (by omega) G8.C.self (by omega)).mono ?_
        rintro e w9 ⟨v9, hv9, rfl, K9⟩
        have G9 := G8.draw K9
        have hvb : -9223372036854775808 ≤ v9 ∧ v9 ≤ 9223372036854775807 := by
          simp only [List.mem_cons, List.not_mem_nil, or_false] at hv9
          rcases hv9 with rfl | rfl | rfl <;> omega
        have GX := G9.set1 v9 hvb
        obtain ⟨_, q0, q1, q2, q3, q4, q5, q6, q7, q8⟩ := id G9.DA
        simp only [Nat.zero_add] at q1 q2 q3 q4 q5 q6 q7 q8
        have qf := G9.DF 1
        clear G8 G9 K9 L8 hv9
        go_wp2
        go_meet
        exact ⟨rfl, _, _, _, GX⟩
      have e1 : (x7 == 1) = false := by simp [c1]
      by_cases c2 : x7 = 2
      · subst c2
        have b8 := below_new w7 (.cells #[.int .i64 0, .int .i64 4] 3)
        have L8 : LiAt (w7.alloc (.cells #[.int .i64 0, .int .i64 4] 3)) w7.heap.size [0, 4] := LiAt.new w7 [0, 4] 3
        have G8 := G7.keep b8
        clear G7 b8
        go_wp2_with fail
        refine (among_s [0, 4] (by decide) w7.heap.size L8 (by omega) G8.C.self (by omega)).mono ?_
        rintro e w9 ⟨v9, hv9, rfl, K9⟩
        have G9 := G8.draw K9
        have GX := G9.set2 v9
        obtain ⟨_, q0, q1, q2, q3, q4, q5, q6, q7, q8⟩ := id G9.DA
        simp only [Nat.zero_add] at q1 q2 q3 q4 q5 q6 q7 q8
        have qf := G9.DF 2
        clear G8 G9 K9 L8 hv9
        go_wp2
        go_meet
        exact ⟨rfl, _, _, _, GX⟩
      have e2 : (x7 == 2) = false := by simp [c2]
      go_wp2
      go_meet
      exact ⟨rfl, _, _, _, ⟨G7.C.mono (by omega), G7.RA, G7.RF, G7.DA, G7.DF, G7.H, G7.far, G7.ne, G7.bd⟩⟩
    case rest =>
      obtain ⟨rfl, x', xo', xc', G8⟩ := hcut
      clear G7
      obtain ⟨_, r0, r1, r2, r3, r4, r5, r6, r7, r8⟩ := id G8.RA
      obtain ⟨_, d0, d1, d2, d3, d4, d5, d6, d7, d8⟩ := id G8.DA
      simp only [Nat.zero_add] at r1 r2 r3 r4 r5 r6 r7 r8 d1 d2 d3 d4 d5 d6 d7 d8
      have rf := G8.RF
      go_wp2
      have hne' := G8.ne
      refine bodyPost_ret (v := .agg #[.string x'.key, .int .i64 x'.seq, .int .i64 x'.kind, .int .i64 x'.c, .int .i64 x'.s, .int .i64 x'.lo, .int .i64 x'.hi, .slice xo' x'.n xc', .bool x'.fu]) (by simp [results, Tryz.results76, go_sem, r0, r1, r2, r3, r4, r5, r6, r7, r8]) rfl ⟨x', xo', xc', rfl, ?_, G8.bd, ?_⟩
      · have og : ∀ (W : World) (i : Nat) (v : Value), HR W R xo' x'.n x'.f → HR (W.setCell ⟨R, i, none⟩ v) R xo' x'.n x'.f := fun W i v hh => hh.grown (grown_set W R i v) (fun g off e h0 e2 => by injection e2 with e2; exact (G8.far g off e h0).2 e2.symm)
        rw [hR]
        exact og _ _ _ (og _ _ _ (og _ _ _ (og _ _ _ (og _ _ _ (og _ _ _ (og _ _ _ (og _ _ _ (og _ _ _ (hR ▸ G8.H)))))))))
      · repeat' refine CS.others ?_ (Others.setCell _ _ _ _) (by omega)
        exact G8.C.mono (by omega)
end Go.Proofs.YtohjjigkfdhklaaGreat
namespace Go.Proofs.YtohjjigkfdhklaaGreat
set_option maxRecDepth 100000
open Go.RowKit
set_option linter.unusedSimpArgs false
set_option linter.unusedVariables false

/-- A Seq is among those of the first n. -/
def HasS (X : Nat → Ent) (n : Nat) (s : Int) : Prop := ∃ i, i < n ∧ (X i).seq = s

end Go.Proofs.YtohjjigkfdhklaaGreat
namespace Go.Proofs.YtohjjigkfdhklaaGreat
set_option maxRecDepth 100000
open Go.RowKit
set_option linter.unusedSimpArgs false
set_option linter.unusedVariables false

def pcF (X : Nat → Ent) (n : Nat) (e : Ent) : Nat → Nat → Nat
  | 0, q => q
  | f + 1, q => if q < n ∧ cE (X q) e < 0 then pcF X n e f (q + 1) else q
/-- The first from q on that does not stand ahead of e. -/
def pc (X : Nat → Ent) (n : Nat) (e : Ent) (q : Nat) : Nat := pcF X n e (n - q) q
section
variable {X : Nat → Ent} {n : Nat} {e : Ent} {q : Nat}
theorem pc_end (h : n ≤ q) : pc X n e q = q := by unfold pc; rw [Nat.sub_eq_zero_of_le h]; rfl
theorem pc_stop (h : q < n) (h2 : ¬ cE (X q) e < 0) : pc X n e q = q := by
  unfold pc
  obtain ⟨f, hf⟩ : ∃ f, n - q = f + 1 := ⟨n - q - 1, by omega⟩
  rw [hf]
  simp [pcF, h2]
theorem pc_step (h : q < n) (h2 : cE (X q) e < 0) : pc X n e q = pc X n e (q + 1) := by
  unfold pc
  obtain ⟨f, hf⟩ : ∃ f, n - q = f + 1 := ⟨n - q - 1, by omega⟩
  rw [hf, show n - (q + 1) = f by omega]
  simp [pcF, h, h2]
theorem pcF_le (X : Nat → Ent) (n : Nat) (e : Ent) : ∀ f q, q ≤ n → q ≤ pcF X n e f q ∧ pcF X n e f q ≤ n
  | 0, q, h => ⟨Nat.le_refl _, h⟩
  | f + 1, q, h => by
    unfold pcF
    split
    · rename_i hc
      have := pcF_le X n e f (q + 1) (by omega)
      omega
    · omega
theorem pc_le (h : q ≤ n) : q ≤ pc X n e q ∧ pc X n e q ≤ n := pcF_le X n e _ q h
end

/-- The next on a way, all being the lowest. -/
def nxO (n : Nat) (y : Int) (q : Nat) : Nat := if 1 < y then n else q

/-- What the path leaves. -/
def PcO (P : Nat) (w : World) (e : Ending) (w' : World) : Prop := ∃ v, e = .returned (.tuple #[v, .int .i64 (P : Int)]) ∧ Below w.heap.size w w'

end Go.Proofs.YtohjjigkfdhklaaGreat
namespace Go.Proofs.YtohjjigkfdhklaaGreat
set_option maxRecDepth 100000
open Go.RowKit
set_option linter.unusedSimpArgs false
set_option linter.unusedVariables false

/-- n entries and then others. -/
def catE (X : Nat → Ent) (n : Nat) (Y : Nat → Ent) : Nat → Ent := fun i => if i < n then X i else Y (i - n)

set_option maxRecDepth 100000 in
set_option maxHeartbeats 4000000 in
theorem addMany_any (lo : Option Addr) (lc base n : Nat) (X : Nat → Ent) (V : Nat → Value) (so : Option Addr) (m sc : Nat) (Y : Nat → Ent) (w0 w : World) (hO : OutE w base (.slice lo n lc) n X V) (hr : ERow w0 so m Y) (hw0 : Below w0.heap.size w0 w) (hbs : w0.heap.size ≤ base) (hz : ∀ i, i < m → (Y i).n ≤ 1048576) (hnm : n + m ≤ 1048576) (hb : base ≤ w.heap.size) :
    Calls Tryz.prog 95 #[.slice lo n lc, .slice so m sc] w fun e w' => ∃ v' V', e = .returned v' ∧ OutE w' base v' (n + m) (catE X n Y) V' ∧ Below base w w' := by
  obtain ⟨hbd, hlies⟩ := hr
  go_enter Tryz.func95, Tryz.ntmps95
  go_wp2
  go_loopw [0, 9] (fun u i wr => ∃ (k : Nat) (V' : Nat → Value), k ≤ m ∧ i = .int .i64 k ∧ OutE wr base u (n + k) (catE X n Y) V' ∧ Below base w wr) (fun _ i _ => m - (intOf i).toNat)
  case atStart => exact ⟨0, V, Nat.zero_le _, rfl, hO.congr (fun i hi => by unfold catE; rw [if_pos (by omega)]), Below.refl _ _⟩
  case round =>
    obtain ⟨k, V', hk, rfl, hOk, hBk⟩ := hrel
    obtain ⟨lo', lc', rfl⟩ := ownsRow_form hOk.own
    clear hO
    by_cases hlt : k < m
    · obtain ⟨b, off, rfl, hblt, hc⟩ := hlies.resolve_left (by omega)
      obtain ⟨da, dc, ea0, ir0⟩ := hc k hlt
      have hwk : Below w0.heap.size w0 wr := hw0.trans (hBk.mono hbs)
      have ea := ea0.keep hwk
      have ir := ir0.keep hwk
      have hbr : base ≤ wr.heap.size := Nat.le_trans hb hBk.size
      have hzk := hz k hlt
      have HC : Hid (catE X n Y (n + k) = Y k) := by unfold Hid catE; rw [if_neg (by omega)]; congr 1; omega
      generalize hx : Y k = x at *
      clear hx hc hlies ea0 ir0
      have hB1 := below_new wr (.cells #[.string x.key, .int .i64 x.seq, .int .i64 x.kind, .int .i64 x.c, .int .i64 x.s, .int .i64 x.lo, .int .i64 x.hi, .slice da x.n dc, .bool x.fu] 35)
      obtain ⟨hv, w2, hrun, hH, hb2⟩ := hist_run (wr.alloc (.cells #[.string x.key, .int .i64 x.seq, .int .i64 x.kind, .int .i64 x.c, .int .i64 x.s, .int .i64 x.lo, .int .i64 x.hi, .slice da x.n dc, .bool x.fu] 35)) da dc x (ir.keep hB1) hzk 31
      obtain ⟨ho, hoc, rfl, _⟩ := hH.row
      have N2 := (EAt.new wr x da dc 35).keep hb2
      have F2 : ∀ j, w2.frozen? ⟨wr.heap.size, j, none⟩ = false := fun j => (hb2.frozen (p := ⟨wr.heap.size, j, none⟩) (by simp)).trans (by simp [go_sem])
      have O2 := (hOk.keep hB1).keep hb2
      have ltv := hOk.own.lt
      have lth := hH.own.lt
      have ltV := fun i hi => (hOk.row i hi).own.lt
      have s2 := hb2.size
      simp at s2
      have B2 : Below base wr w2 := (hB1.mono hbr).trans (hb2.mono (by simp; omega))
      have ot3 : Others wr.heap.size w2 (w2.setCell ⟨wr.heap.size, 7, none⟩ (.slice ho x.n hoc)) := Others.setCell _ _ _ _
      have O3 : OutE (w2.setCell ⟨wr.heap.size, 7, none⟩ (.slice ho x.n hoc)) base (.slice lo' (n + k) lc') (n + k) (catE X n Y) V' := O2.kept (others_grown ot3) (fun e => by have := (ltv _ e).2; omega) (fun i hi e => by have := (ltV i hi _ e).2; omega)
      have H3 : HOwn (w2.setCell ⟨wr.heap.size, 7, none⟩ (.slice ho x.n hoc)) base (.slice ho x.n hoc) x := (hH.kept (others_grown ot3) (fun k hk e => by injection hk with hk; have := (lth k e).1; simp at this; omega)).mono (by simp; omega)
      have B3 : Below base wr (w2.setCell ⟨wr.heap.size, 7, none⟩ (.slice ho x.n hoc)) := B2.trans (ot3.below hbr)
      have s3 := ot3.size
      have hdis : ∀ q, (Value.slice ho x.n hoc).ownBlock = some q → (Value.slice lo' (n + k) lc').ownBlock ≠ some q ∧ ∀ i, i < n + k → (V' i).ownBlock ≠ some q := fun q hq => by
        have h1 := (lth q hq).1
        simp at h1
        exact ⟨fun e => by have := (ltv q e).2; omega, fun i hi e => by have := (ltV i hi q e).2; omega⟩
      obtain ⟨n0, n1, n2, n3, n4, n5, n6, n7, n8, n9⟩ := N2.z
      obtain ⟨_, a0, a1, a2, a3, a4, a5, a6, a7, a8⟩ := ea
      have b3 : base ≤ (w2.setCell ⟨wr.heap.size, 7, none⟩ (.slice ho x.n hoc)).heap.size := by rw [s3]; omega
      have hgv : ∀ q, (Value.slice lo' (n + k) lc').ownBlock = some q → base ≤ q := fun q hq => (ltv q hq).1
      have hnk : n + k ≤ 1048576 := by omega
      clear hOk hB1 hH hb2 O2 B2 ltv lth ltV ot3 N2
      have t1 : True := trivial
      have t2 : True := trivial
      go_wp2_with (first | (at_builtin; clear t1; refine wpList_append_eq _ rfl (.const (.slice none 0 0)) (.tmp 15) 31 31 rfl rfl (.slice none 0 0) (.slice da x.n dc) (.slice ho x.n hoc) rfl rfl w2 hrun ?_) | (at_builtin; clear t2; refine wpList_pushE2 (w := (w2.setCell ⟨wr.heap.size, 7, none⟩ (.slice ho x.n hoc))) w2.heap.size s3 rfl (.tmp 19) (.tmp 21) rfl base (.slice lo' (n + k) lc') (.slice ho x.n hoc) (n + k) (catE X n Y) V' x rfl O3 H3 hdis rfl hnk b3 rfl ?_; intro v8 w8 O8 g8))
      have B8 : Below base wr w8 := (B3.alloc b3 _).grown g8 (by simp; omega) (fun q hq => hgv q hq)
      have E8 := O8.congr (X' := catE X n Y) (fun i hi => by by_cases h : i = n + k <;> simp [h, HC.out])
      clear O8 g8
      go_roundw
      case rel => exact ⟨k + 1, _, by omega, by go_num, E8, hBk.trans B8⟩
      case measure => simp [intOf]; omega
    · obtain rfl : k = m := by omega
      clear hlies
      go_wp2
      refine bodyPost_ret (v := .slice lo' (n + k) lc') (by simp [results, Tryz.results95, go_sem]) rfl ⟨_, V', rfl, hOk, hBk⟩
end Go.Proofs.YtohjjigkfdhklaaGreat
namespace Go.Proofs.YtohjjigkfdhklaaGreat
set_option maxRecDepth 100000
open Go.RowKit
set_option linter.unusedSimpArgs false
set_option linter.unusedVariables false

/-- Entries and one more at its place. -/
def pX (X : Nat → Ent) (x : Ent) (P : Nat) (i : Nat) : Ent := if i < P then X i else if i = P then x else X (i - 1)
def pE (X : Nat → Ent) (n : Nat) (x : Ent) (P : Nat) : List Ent := (List.range (n + 1)).map (pX X x P)
theorem pE_len (X : Nat → Ent) (n : Nat) (x : Ent) (P : Nat) : (pE X n x P).length = n + 1 := by simp [pE]
theorem pE_at (X : Nat → Ent) (n : Nat) (x : Ent) (P : Nat) {i : Nat} (hi : i < n + 1) : eL (pE X n x P) i = pX X x P i := by
  simp [eL, pE, List.getD, hi]
/-- What may be put in. -/
def GoodP (X : Nat → Ent) (n : Nat) (x : Ent) : Prop := n < 60 ∧ GoodL X n ∧ GoodE x ∧ ¬ HasS X n x.seq

theorem ERow.pre {w : World} {ao : Option Addr} {n m : Nat} {X : Nat → Ent} (h : ERow w ao n X) (hm : m ≤ n) : ERow w ao m X := by
  obtain ⟨hbd, hl⟩ := h
  refine ⟨fun i hi => hbd i (by omega), ?_⟩
  rcases hl with rfl | ⟨b, off, rfl, hlt, hc⟩
  · exact .inl (by omega)
  · exact .inr ⟨b, off, rfl, hlt, fun i hi => hc i (by omega)⟩

theorem ERow.post {w : World} {ao : Option Addr} {n m : Nat} {X : Nat → Ent} (h : ERow w ao n X) (hm : m ≤ n) : ERow w (ao.map fun a => a.add (m * 9)) (n - m) (fun i => X (m + i)) := by
  obtain ⟨hbd, hl⟩ := h
  refine ⟨fun i hi => hbd _ (by omega), ?_⟩
  rcases hl with rfl | ⟨b, off, rfl, hlt, hc⟩
  · exact .inl (by omega)
  · refine .inr ⟨b, off + m * 9, by simp [Addr.add], hlt, fun i hi => ?_⟩
    obtain ⟨da, dc, ea, ir⟩ := hc (m + i) (by omega)
    refine ⟨da, dc, ?_, ir⟩
    have e : off + m * 9 + i * 9 = off + (m + i) * 9 := by omega
    rw [e]; exact ea
theorem pX_cat {X Y : Nat → Ent} {x d : Ent} {n P : Nat} (hY : ∀ i, i < n - P → Y i = X (P + i)) (hP : P ≤ n) : ∀ i, i < n + 1 → catE (fun i => if i = P then x else catE (fun _ => d) 0 X i) (P + 1) Y i = eL (pE X n x P) i := by
  intro i hi
  rw [pE_at X n x P hi]
  unfold catE pX
  by_cases h1 : i < P
  · simp [h1, show i < P + 1 by omega, show i ≠ P by omega]
  · by_cases h2 : i = P
    · simp [h2]
    · have h3 : ¬ i < P + 1 := by omega
      simp only [h1, h2, h3, if_false]
      rw [hY _ (by omega)]
      congr 1
      omega

end Go.Proofs.YtohjjigkfdhklaaGreat
namespace Go.Proofs.YtohjjigkfdhklaaGreat
set_option maxRecDepth 100000
open Go.RowKit
set_option linter.unusedSimpArgs false
set_option linter.unusedVariables false

/-- The cells of entries, whose lists are V. -/
def fm (X : Nat → Ent) (V : Nat → Value) (p m : Nat) : List Value := (List.range m).flatMap fun i => ecells (X (p + i)) (V (p + i))
theorem fm_len (X : Nat → Ent) (V : Nat → Value) (p m : Nat) : (fm X V p m).length = m * 9 := fm9_len m (fun i => X (p + i)) (fun i => V (p + i))
theorem fm_zero (X : Nat → Ent) (V : Nat → Value) (m : Nat) : fm X V 0 m = (List.range m).flatMap fun i => ecells (X i) (V i) := by simp [fm]
/-- What is known of the lists of entries that lie at an address. -/
structure EV (w : World) (b off n : Nat) (X : Nat → Ent) (V : Nat → Value) : Prop where
  row : ∀ i, i < n → ∃ lo lc, V i = .slice lo (X i).n lc ∧ IRow w lo (X i).n (X i).f
  cell : ∀ w', Below w.heap.size w w' → ∀ i, i < n → ∀ j, j < 9 → w'.cell? ⟨b, off + i * 9 + j, none⟩ = (ecells (X i) (V i))[j]?
theorem ev_of {w : World} {b off n : Nat} {X : Nat → Ent} (h : ERow w (some ⟨b, off, none⟩) n X) : ∃ V, EV w b off n X V := by
  obtain ⟨hbd, hl⟩ := h
  rcases hl with rfl | ⟨b', off', e, hlt, hc⟩
  · exact ⟨fun _ => .slice none 0 0, fun i hi => absurd hi (Nat.not_lt_zero _), fun _ _ i hi => absurd hi (Nat.not_lt_zero _)⟩
  · injection e with e
    injection e with e1 e2 _
    subst e1 e2
    have hc' : ∀ i, ∃ v : Value, i < n → ∃ da dc, v = .slice da (X i).n dc ∧ EAt w b (off + i * 9) (X i) da dc ∧ IRow w da (X i).n (X i).f := fun i => by
      by_cases hi : i < n
      · obtain ⟨da, dc, h1, h2⟩ := hc i hi
        exact ⟨_, fun _ => ⟨da, dc, rfl, h1, h2⟩⟩
      · exact ⟨.slice none 0 0, fun h => absurd h hi⟩
    refine ⟨fun i => (hc' i).choose, fun i hi => ?_, fun w' hb i hi j hj => ?_⟩
    · obtain ⟨da, dc, h1, _, h3⟩ := (hc' i).choose_spec hi
      exact ⟨da, dc, h1, h3⟩
    · obtain ⟨da, dc, h1, h2, _⟩ := (hc' i).choose_spec hi
      show _ = (ecells (X i) (hc' i).choose)[j]?
      rw [h1]
      obtain ⟨_, a0, a1, a2, a3, a4, a5, a6, a7, a8⟩ := h2.keep hb
      rcases j with _ | _ | _ | _ | _ | _ | _ | _ | _ | j
      · exact a0
      · exact a1
      · exact a2
      · exact a3
      · exact a4
      · exact a5
      · exact a6
      · exact a7
      · exact a8
      · omega
theorem EV.src {w w' : World} {b off n p m : Nat} {X : Nat → Ent} {V : Nat → Value} (h : EV w b off n X V) (hb : Below w.heap.size w w') (hp : p + m ≤ n) : ∀ j u, (fm X V p m)[j]? = some u → w'.cell? ((⟨b, off + p * 9, none⟩ : Addr).add j) = some u := by
  intro j u hj
  have hlt : j < m * 9 := by
    have := (List.getElem?_eq_some_iff.1 hj).1
    rwa [fm_len] at this
  have e1 : j = j / 9 * 9 + j % 9 := by omega
  have h2 : j / 9 < m := by omega
  have h3 : j % 9 < 9 := by omega
  rw [show (⟨b, off + p * 9, none⟩ : Addr).add j = ⟨b, off + p * 9 + j, none⟩ from by simp [Addr.add]]
  have e2 : off + p * 9 + j = off + (p + j / 9) * 9 + j % 9 := by omega
  rw [e2, h.cell w' hb (p + j / 9) (by omega) (j % 9) h3, ← hj]
  have h4 := fm9_get m (fun i => X (p + i)) (fun i => V (p + i)) h2 h3
  rw [← e1] at h4
  exact h4.symm
theorem ecells_one {x : Ent} {hv : Value} {lo : Option Addr} {a c : Nat} (h : hv = .slice lo a c) : ∀ u ∈ ecells x hv, u.oneCell' = true := by
  subst h
  intro u hu
  simp only [ecells, List.mem_cons, List.not_mem_nil, or_false] at hu
  rcases hu with rfl | rfl | rfl | rfl | rfl | rfl | rfl | rfl | rfl <;> rfl
theorem EV.one {w : World} {b off n p m : Nat} {X : Nat → Ent} {V : Nat → Value} (h : EV w b off n X V) (hp : p + m ≤ n) : ∀ u ∈ fm X V p m, u.oneCell' = true := by
  intro u hu
  obtain ⟨i, hi, hu⟩ := List.mem_flatMap.1 hu
  obtain ⟨lo, lc, e, _⟩ := h.row (p + i) (by have := List.mem_range.1 hi; omega)
  exact ecells_one e u hu
theorem fm_join (X : Nat → Ent) (V : Nat → Value) (x : Ent) (hv : Value) (n P : Nat) (hP : P ≤ n) : fm X V 0 P ++ ecells x hv ++ fm X V P (n - P) = (List.range (n + 1)).flatMap fun i => ecells (pX X x P i) (if i < P then V i else if i = P then hv else V (i - 1)) := by
  have e : n + 1 = P + 1 + (n - P) := by omega
  rw [e, List.range_add, List.range_succ, List.flatMap_append, List.flatMap_append]
  congr 1
  · congr 1
    · rw [fm_zero]
      unfold List.flatMap
      congr 1
      refine List.map_congr_left fun i hi => ?_
      have := List.mem_range.1 hi
      simp [pX, this]
    · simp [pX]
  · unfold fm
    rw [List.flatMap_map]
    unfold List.flatMap
    congr 1
    refine List.map_congr_left fun i hi => ?_
    have h1 : ¬ P + 1 + i < P := by omega
    have h2 : ¬ P + 1 + i = P := by omega
    have h3 : P + 1 + i - 1 = P + i := by omega
    simp only [pX, h1, h2, h3, if_false]

/-- What l5Put leaves. -/
def PpO (n : Nat) (Y : Nat → Ent) (w : World) (e : Ending) (w' : World) : Prop := ∃ lo lc, e = .returned (.slice lo (n + 1) lc) ∧ ERow w' lo (n + 1) Y ∧ Below w.heap.size w w'

set_option maxRecDepth 100000 in
set_option maxHeartbeats 8000000 in
theorem l5Put_eq (b off n : Nat) (X : Nat → Ent) (x : Ent) (xo : Option Addr) (xc : Nat) (w : World) (hr : ERow w (some ⟨b, off, none⟩) n X) (hx : IRow w xo x.n x.f) (hxb : EB x) (hn : n ≤ 1000) :
    Calls Tryz.prog 101 #[.slice (some ⟨b, off, none⟩) n n, .agg #[.string x.key, .int .i64 x.seq, .int .i64 x.kind, .int .i64 x.c, .int .i64 x.s, .int .i64 x.lo, .int .i64 x.hi, .slice xo x.n xc, .bool x.fu]] w fun e w' => PpO n (pX X x (pc X n x 0)) w e w' := by
  obtain ⟨i0, hi, hz0, hz1, hz2⟩ := info_parts Tryz.infoEnt
  obtain ⟨V, hV⟩ := ev_of hr
  obtain ⟨P, hPe⟩ : ∃ P, pc X n x 0 = P := ⟨_, rfl⟩
  have HP : Hid (pc X n x 0 = P) := hPe
  rw [hPe]
  clear hPe
  obtain ⟨hbd, hlies⟩ := hr
  have hB := below_new w (.cells #[.string x.key, .int .i64 x.seq, .int .i64 x.kind, .int .i64 x.c, .int .i64 x.s, .int .i64 x.lo, .int .i64 x.hi, .slice xo x.n xc, .bool x.fu] 35)
  have EX := EAt.new w x xo xc 35
  have HF : Hid (∀ (w9 : World) (v : Value), w9.ownsRow w.heap.size 35 9 v (P + 1 + (n - P)) (fm X V 0 P ++ ecells x (.slice xo x.n xc) ++ fm X V P (n - P)) → Below w.heap.size w w9 → P ≤ n → ∃ lo lc, v = .slice lo (n + 1) lc ∧ ERow w9 lo (n + 1) (pX X x P)) := by
    intro w9 v ho hb hPn
    rw [fm_join X V x _ n P hPn, show P + 1 + (n - P) = n + 1 by omega] at ho
    refine erow_of ho (fun i hi => ?_) (fun i hi => ?_)
    · unfold pX
      by_cases h1 : i < P
      · obtain ⟨lo, lc, e1, e2⟩ := hV.row i (by omega)
        simp only [h1, if_true]
        exact ⟨lo, lc, e1, e2.keep hb⟩
      · by_cases h2 : i = P
        · subst h2
          simp only [h1, if_true, if_false]
          exact ⟨xo, xc, rfl, hx.keep hb⟩
        · obtain ⟨lo, lc, e1, e2⟩ := hV.row (i - 1) (by omega)
          simp only [h1, h2, if_false]
          exact ⟨lo, lc, e1, e2.keep hb⟩
    · unfold pX
      split
      · exact hbd _ (by omega)
      · split
        · exact hxb
        · exact hbd _ (by omega)
  go_enter Tryz.func101, Tryz.ntmps101
  go_wp2
  generalize w.alloc (.cells #[.string x.key, .int .i64 x.seq, .int .i64 x.kind, .int .i64 x.c, .int .i64 x.s, .int .i64 x.lo, .int .i64 x.hi, .slice xo x.n xc, .bool x.fu] 35) = w0 at hB EX ⊢
  go_loopw [5] (fun i wr => ∃ k : Nat, k ≤ n ∧ i = .int .i64 k ∧ Hid (pc X n x k = P) ∧ Below w0.heap.size w0 wr) (fun i _ => n - (intOf i).toNat)
  case atStart => exact ⟨0, Nat.zero_le _, rfl, HP, Below.refl _ _⟩
  case round =>
    clear HP
    obtain ⟨k, hk, rfl, HK, hbk⟩ := hrel
    have eb := EX.keep hbk
    by_cases hlt : k < n
    · obtain ⟨b', off', e, hblt, hc⟩ := hlies.resolve_left (by omega)
      injection e with e
      injection e with e1 e2 _
      subst e1 e2
      obtain ⟨da, dc, ea0, _⟩ := hc k hlt
      have ea := (ea0.keep hB).keep hbk
      have ea' := ea
      obtain ⟨_, a0, a1, a2, a3, a4, a5, a6, a7, a8⟩ := ea'
      have eb' := eb
      obtain ⟨_, b0, b1, b2, b3, b4, b5, b6, b7, b8⟩ := eb'
      simp only [Nat.zero_add] at b1 b2 b3 b4 b5 b6 b7 b8
      have hkd : decide ((k : Int) < (n : Int)) = true := by simp; omega
      clear ea0 hc hlies
      by_cases hcmp : cE (X k) x < 0
      · have hbb : ∀ b6 : Bool, (b6 = true ↔ Bef (X k) x) → b6 = true := fun b6 h => h.2 ((cE_lt _ _).1 hcmp)
        have HK2 : Hid (pc X n x (k + 1) = P) := by
          have := HK.out
          rwa [pc_step hlt hcmp] at this
        clear HK hcmp HF
        go_wp2
        go_region_held3 (fun w' => w'.cell? ⟨b, off + k * 9, none⟩ = some (.string (X k).key) ∧ w'.cell? ⟨b, off + k * 9 + 1, none⟩ = some (.int .i64 (X k).seq) ∧ w'.cell? ⟨b, off + k * 9 + 2, none⟩ = some (.int .i64 (X k).kind) ∧ w'.cell? ⟨b, off + k * 9 + 3, none⟩ = some (.int .i64 (X k).c) ∧ w'.cell? ⟨b, off + k * 9 + 4, none⟩ = some (.int .i64 (X k).s) ∧ w'.cell? ⟨b, off + k * 9 + 5, none⟩ = some (.int .i64 (X k).lo) ∧ w'.cell? ⟨b, off + k * 9 + 6, none⟩ = some (.int .i64 (X k).hi) ∧ w'.cell? ⟨b, off + k * 9 + 7, none⟩ = some (.slice da (X k).n dc) ∧ w'.cell? ⟨b, off + k * 9 + 8, none⟩ = some (.bool (X k).fu) ∧ w'.cell? ⟨w.heap.size, 0, none⟩ = some (.string x.key) ∧ w'.cell? ⟨w.heap.size, 1, none⟩ = some (.int .i64 x.seq) ∧ w'.cell? ⟨w.heap.size, 2, none⟩ = some (.int .i64 x.kind) ∧ w'.cell? ⟨w.heap.size, 3, none⟩ = some (.int .i64 x.c) ∧ w'.cell? ⟨w.heap.size, 4, none⟩ = some (.int .i64 x.s) ∧ w'.cell? ⟨w.heap.size, 5, none⟩ = some (.int .i64 x.lo) ∧ w'.cell? ⟨w.heap.size, 6, none⟩ = some (.int .i64 x.hi) ∧ w'.cell? ⟨w.heap.size, 7, none⟩ = some (.slice xo x.n xc) ∧ w'.cell? ⟨w.heap.size, 8, none⟩ = some (.bool x.fu)) (go_keep) (first | (go_at_call 55; refine (l5Before_any (X k) x da xo dc xc _).mono ?_; rintro e w6 ⟨b6, rfl, h6, hb6⟩; obtain rfl : b6 = true := hbb _ h6; have hb6' := (Below.refl _ wr).drew.trans hb6; obtain ⟨_, p0, p1, p2, p3, p4, p5, p6, p7, p8⟩ := ea.keep hb6'; obtain ⟨_, q0, q1, q2, q3, q4, q5, q6, q7, q8⟩ := eb.keep hb6'; simp only [Nat.zero_add] at q1 q2 q3 q4 q5 q6 q7 q8; have eb6 := eb.keep hb6'; have bk6 := hbk.trans (hb6'.mono hbk.size); clear hb6 hb6' h6))
        clear ea eb hbk a0 a1 a2 a3 a4 a5 a6 a7 a8 b0 b1 b2 b3 b4 b5 b6 b7 b8 p0 p1 p2 p3 p4 p5 p6 p7 p8 q0 q1 q2 q3 q4 q5 q6 q7 q8 hbb eb6
        go_wp2
        go_roundw
        case rel => exact ⟨k + 1, by omega, by go_num, HK2, bk6⟩
        case measure => simp [intOf]; omega
      · have hbb : ∀ b6 : Bool, (b6 = true ↔ Bef (X k) x) → b6 = false := fun b6 h => by
          cases b6
          · rfl
          · exact absurd ((cE_lt _ _).2 (h.1 rfl)) hcmp
        have HK2 : Hid (k = P) := by
          have := HK.out
          rw [pc_stop hlt hcmp] at this
          exact this
        clear HK hcmp
        go_wp2
        go_region_held3 (fun w' => w'.cell? ⟨b, off + k * 9, none⟩ = some (.string (X k).key) ∧ w'.cell? ⟨b, off + k * 9 + 1, none⟩ = some (.int .i64 (X k).seq) ∧ w'.cell? ⟨b, off + k * 9 + 2, none⟩ = some (.int .i64 (X k).kind) ∧ w'.cell? ⟨b, off + k * 9 + 3, none⟩ = some (.int .i64 (X k).c) ∧ w'.cell? ⟨b, off + k * 9 + 4, none⟩ = some (.int .i64 (X k).s) ∧ w'.cell? ⟨b, off + k * 9 + 5, none⟩ = some (.int .i64 (X k).lo) ∧ w'.cell? ⟨b, off + k * 9 + 6, none⟩ = some (.int .i64 (X k).hi) ∧ w'.cell? ⟨b, off + k * 9 + 7, none⟩ = some (.slice da (X k).n dc) ∧ w'.cell? ⟨b, off + k * 9 + 8, none⟩ = some (.bool (X k).fu) ∧ w'.cell? ⟨w.heap.size, 0, none⟩ = some (.string x.key) ∧ w'.cell? ⟨w.heap.size, 1, none⟩ = some (.int .i64 x.seq) ∧ w'.cell? ⟨w.heap.size, 2, none⟩ = some (.int .i64 x.kind) ∧ w'.cell? ⟨w.heap.size, 3, none⟩ = some (.int .i64 x.c) ∧ w'.cell? ⟨w.heap.size, 4, none⟩ = some (.int .i64 x.s) ∧ w'.cell? ⟨w.heap.size, 5, none⟩ = some (.int .i64 x.lo) ∧ w'.cell? ⟨w.heap.size, 6, none⟩ = some (.int .i64 x.hi) ∧ w'.cell? ⟨w.heap.size, 7, none⟩ = some (.slice xo x.n xc) ∧ w'.cell? ⟨w.heap.size, 8, none⟩ = some (.bool x.fu)) (go_keep) (first | (go_at_call 55; refine (l5Before_any (X k) x da xo dc xc _).mono ?_; rintro e w6 ⟨b6, rfl, h6, hb6⟩; obtain rfl : b6 = false := hbb _ h6; have hb6' := (Below.refl _ wr).drew.trans hb6; obtain ⟨_, p0, p1, p2, p3, p4, p5, p6, p7, p8⟩ := ea.keep hb6'; obtain ⟨_, q0, q1, q2, q3, q4, q5, q6, q7, q8⟩ := eb.keep hb6'; simp only [Nat.zero_add] at q1 q2 q3 q4 q5 q6 q7 q8; have eb6 := eb.keep hb6'; have bk6 := hbk.trans (hb6'.mono hbk.size); clear hb6 hb6' h6))
        clear ea eb hbk a0 a1 a2 a3 a4 a5 a6 a7 a8 b0 b1 b2 b3 b4 b5 b6 b7 b8 p0 p1 p2 p3 p4 p5 p6 p7 p8 q0 q1 q2 q3 q4 q5 q6 q7 q8 hbb
        have bw6 : Below w.heap.size w w6 := hB.trans (bk6.mono hB.size)
        obtain rfl := HK2.out
        clear HK2
        have eT := eb6
        have bT := bw6
        clear eb6 bw6 bk6
        generalize w6 = wT at eT bT ⊢
        have t1 : True := trivial
        have t2 : True := trivial
        have sT : w.heap.size ≤ wT.heap.size := bT.size
        go_wp2_with (first
          | (at_builtin; clear t1; refine wpList_append_own _ rfl (.tmp 21) (.tmp 24) 23 rfl w.heap.size 35 i0 _ 9 96 Tryz.underlying23 hi hz0 hz1 hz2 rfl (by decide) (.slice none 0 0) 0 [] rfl (World.ownsRow_nil _ _ _ _) ⟨b, off + 0 * 9, none⟩ k n (fm X V 0 k) rfl (fm_len _ _ _ _) (hV.src bT (by omega)) (hV.one (by omega)) (by unfold maxLen; omega) (by omega) sT ?_; intro v7 w7 O7 g7 _; have k7 : Below wT.heap.size wT w7 := (Below.refl _ _).grown g7 (Nat.le_refl _) (fun q hq => by simp [Value.ownBlock] at hq); have b7 : Below w.heap.size w w7 := bT.trans (k7.mono sT); have s7 : w.heap.size ≤ w7.heap.size := b7.size; rw [Nat.zero_add, List.nil_append] at O7; obtain ⟨lo7, lc7, rfl⟩ := ownsRow_form O7; obtain ⟨_, c0, c1, c2, c3, c4, c5, c6, c7, c8⟩ := (eT.keep k7).z; clear g7 k7)
          | (at_builtin; clear t2; refine wpList_append_own (w := w7.alloc (.cells #[.string x.key, .int .i64 x.seq, .int .i64 x.kind, .int .i64 x.c, .int .i64 x.s, .int .i64 x.lo, .int .i64 x.hi, .slice xo x.n xc, .bool x.fu] 35)) rfl (.tmp 26) (.tmp 28) 23 rfl w.heap.size 35 i0 _ 9 96 Tryz.underlying23 hi hz0 hz1 hz2 rfl (by decide) (.slice lo7 k lc7) k _ rfl (ownsRow_keep O7 (below_new _ _)) ⟨w7.heap.size, 0, none⟩ 1 1 (ecells x (.slice xo x.n xc)) rfl rfl (nine_new w7 x _ 35) (ecells_one rfl) (by unfold maxLen; omega) (by omega) (by simp; omega) ?_; intro v8 w8 O8 g8 _; have b8 : Below w.heap.size w w8 := (b7.alloc s7 _).grown g8 (by simp; omega) (fun q hq => (O7.lt q hq).1); have s8 : w.heap.size ≤ w8.heap.size := b8.size; obtain ⟨lo8, lc8, rfl⟩ := ownsRow_form O8; clear g8)
          | (at_builtin; refine wpList_append_own _ rfl (.tmp 30) (.tmp 33) 23 rfl w.heap.size 35 i0 _ 9 96 Tryz.underlying23 hi hz0 hz1 hz2 rfl (by decide) (.slice lo8 (k + 1) lc8) (k + 1) _ rfl O8 ⟨b, off + k * 9, none⟩ (n - k) (n - k) (fm X V k (n - k)) rfl (fm_len _ _ _ _) (hV.src b8 (by omega)) (hV.one (by omega)) (by unfold maxLen; omega) (by omega) s8 ?_; intro v9 w9 O9 g9 _; have b9 : Below w.heap.size w w9 := b8.grown g9 s8 (fun q hq => (O8.lt q hq).1); obtain ⟨lo9, lc9, rfl, hE⟩ := HF.out w9 _ O9 b9 (by omega); clear O9 g9)
          | (at_builtin; refine wpList_append_own _ rfl (.tmp 30) (.tmp 33) 23 rfl w.heap.size 35 i0 _ 9 96 Tryz.underlying23 hi hz0 hz1 hz2 rfl (by decide) (.slice lo8 (k + 1) lc8) (k + 1) _ rfl O8 ⟨b, off, none⟩ 0 0 (fm X V k 0) rfl (fm_len _ _ _ _) (fun j u h => by simp [fm] at h) (fun u h => by simp [fm] at h) (by unfold maxLen; omega) (by omega) s8 ?_; intro v9 w9 O9 g9 _; have b9 : Below w.heap.size w w9 := b8.grown g9 s8 (fun q hq => (O8.lt q hq).1); obtain ⟨lo9, lc9, rfl, hE⟩ := HF.out w9 _ (by rw [show n - k = 0 by omega]; exact O9) b9 (by omega); clear O9 g9)
          | (at_builtin; refine wpList_append_own _ rfl (.tmp 30) (.tmp 33) 23 rfl w.heap.size 35 i0 _ 9 96 Tryz.underlying23 hi hz0 hz1 hz2 rfl (by decide) (.slice lo8 (k + 1) lc8) (k + 1) _ rfl O8 ⟨b, off, none⟩ (n - k) (n - k) (fm X V k (n - k)) rfl (fm_len _ _ _ _) (fun j u h => by rw [show n - k = 0 by omega] at h; simp [fm] at h) (fun u h => by rw [show n - k = 0 by omega] at h; simp [fm] at h) (by unfold maxLen; omega) (by omega) s8 ?_; intro v9 w9 O9 g9 _; have b9 : Below w.heap.size w w9 := b8.grown g9 s8 (fun q hq => (O8.lt q hq).1); obtain ⟨lo9, lc9, rfl, hE⟩ := HF.out w9 _ O9 b9 (by omega); clear O9 g9))
        all_goals exact bodyPost_ret (v := .slice lo9 (n + 1) lc9) (by simp [results, Tryz.results101, go_sem]) rfl ⟨lo9, lc9, rfl, hE, b9⟩
    · have HK2 : Hid (k = P) := by
        have := HK.out
        rw [pc_end (by omega)] at this
        exact this
      have hkd : decide ((k : Int) < (n : Int)) = false := by simp; omega
      clear HK hlies
      go_wp2
      go_quiet (fail)
      obtain rfl := HK2.out
      clear HK2
      have eT := eb.keep (below_drewN (Below.refl _ _) nq)
      have bT : Below w.heap.size w (wr.drewN nq) := below_drewN (hB.trans (hbk.mono hB.size)) _
      clear eb hbk
      generalize wr.drewN nq = wT at eT bT ⊢
      have t1 : True := trivial
      have t2 : True := trivial
      have sT : w.heap.size ≤ wT.heap.size := bT.size
      go_wp2_with (first
        | (at_builtin; clear t1; refine wpList_append_own _ rfl (.tmp 21) (.tmp 24) 23 rfl w.heap.size 35 i0 _ 9 96 Tryz.underlying23 hi hz0 hz1 hz2 rfl (by decide) (.slice none 0 0) 0 [] rfl (World.ownsRow_nil _ _ _ _) ⟨b, off + 0 * 9, none⟩ k n (fm X V 0 k) rfl (fm_len _ _ _ _) (hV.src bT (by omega)) (hV.one (by omega)) (by unfold maxLen; omega) (by omega) sT ?_; intro v7 w7 O7 g7 _; have k7 : Below wT.heap.size wT w7 := (Below.refl _ _).grown g7 (Nat.le_refl _) (fun q hq => by simp [Value.ownBlock] at hq); have b7 : Below w.heap.size w w7 := bT.trans (k7.mono sT); have s7 : w.heap.size ≤ w7.heap.size := b7.size; rw [Nat.zero_add, List.nil_append] at O7; obtain ⟨lo7, lc7, rfl⟩ := ownsRow_form O7; obtain ⟨_, c0, c1, c2, c3, c4, c5, c6, c7, c8⟩ := (eT.keep k7).z; clear g7 k7)
        | (at_builtin; clear t2; refine wpList_append_own (w := w7.alloc (.cells #[.string x.key, .int .i64 x.seq, .int .i64 x.kind, .int .i64 x.c, .int .i64 x.s, .int .i64 x.lo, .int .i64 x.hi, .slice xo x.n xc, .bool x.fu] 35)) rfl (.tmp 26) (.tmp 28) 23 rfl w.heap.size 35 i0 _ 9 96 Tryz.underlying23 hi hz0 hz1 hz2 rfl (by decide) (.slice lo7 k lc7) k _ rfl (ownsRow_keep O7 (below_new _ _)) ⟨w7.heap.size, 0, none⟩ 1 1 (ecells x (.slice xo x.n xc)) rfl rfl (nine_new w7 x _ 35) (ecells_one rfl) (by unfold maxLen; omega) (by omega) (by simp; omega) ?_; intro v8 w8 O8 g8 _; have b8 : Below w.heap.size w w8 := (b7.alloc s7 _).grown g8 (by simp; omega) (fun q hq => (O7.lt q hq).1); have s8 : w.heap.size ≤ w8.heap.size := b8.size; obtain ⟨lo8, lc8, rfl⟩ := ownsRow_form O8; clear g8)
        | (at_builtin; refine wpList_append_own _ rfl (.tmp 30) (.tmp 33) 23 rfl w.heap.size 35 i0 _ 9 96 Tryz.underlying23 hi hz0 hz1 hz2 rfl (by decide) (.slice lo8 (k + 1) lc8) (k + 1) _ rfl O8 ⟨b, off + k * 9, none⟩ (n - k) (n - k) (fm X V k (n - k)) rfl (fm_len _ _ _ _) (hV.src b8 (by omega)) (hV.one (by omega)) (by unfold maxLen; omega) (by omega) s8 ?_; intro v9 w9 O9 g9 _; have b9 : Below w.heap.size w w9 := b8.grown g9 s8 (fun q hq => (O8.lt q hq).1); obtain ⟨lo9, lc9, rfl, hE⟩ := HF.out w9 _ O9 b9 (by omega); clear O9 g9)
        | (at_builtin; refine wpList_append_own _ rfl (.tmp 30) (.tmp 33) 23 rfl w.heap.size 35 i0 _ 9 96 Tryz.underlying23 hi hz0 hz1 hz2 rfl (by decide) (.slice lo8 (k + 1) lc8) (k + 1) _ rfl O8 ⟨b, off, none⟩ 0 0 (fm X V k 0) rfl (fm_len _ _ _ _) (fun j u h => by simp [fm] at h) (fun u h => by simp [fm] at h) (by unfold maxLen; omega) (by omega) s8 ?_; intro v9 w9 O9 g9 _; have b9 : Below w.heap.size w w9 := b8.grown g9 s8 (fun q hq => (O8.lt q hq).1); obtain ⟨lo9, lc9, rfl, hE⟩ := HF.out w9 _ (by rw [show n - k = 0 by omega]; exact O9) b9 (by omega); clear O9 g9)
        | (at_builtin; refine wpList_append_own _ rfl (.tmp 30) (.tmp 33) 23 rfl w.heap.size 35 i0 _ 9 96 Tryz.underlying23 hi hz0 hz1 hz2 rfl (by decide) (.slice lo8 (k + 1) lc8) (k + 1) _ rfl O8 ⟨b, off, none⟩ (n - k) (n - k) (fm X V k (n - k)) rfl (fm_len _ _ _ _) (fun j u h => by rw [show n - k = 0 by omega] at h; simp [fm] at h) (fun u h => by rw [show n - k = 0 by omega] at h; simp [fm] at h) (by unfold maxLen; omega) (by omega) s8 ?_; intro v9 w9 O9 g9 _; have b9 : Below w.heap.size w w9 := b8.grown g9 s8 (fun q hq => (O8.lt q hq).1); obtain ⟨lo9, lc9, rfl, hE⟩ := HF.out w9 _ O9 b9 (by omega); clear O9 g9))
      all_goals exact bodyPost_ret (v := .slice lo9 (n + 1) lc9) (by simp [results, Tryz.results101, go_sem]) rfl ⟨lo9, lc9, rfl, hE, b9⟩

set_option maxRecDepth 100000 in
set_option maxHeartbeats 8000000 in
theorem l5Put_gt (b off n cap : Nat) (hcap : n < cap) (X : Nat → Ent) (x : Ent) (xo : Option Addr) (xc : Nat) (w : World) (hr : ERow w (some ⟨b, off, none⟩) n X) (hx : IRow w xo x.n x.f) (hxb : EB x) (hn : n ≤ 1000) :
    Calls Tryz.prog 101 #[.slice (some ⟨b, off, none⟩) n cap, .agg #[.string x.key, .int .i64 x.seq, .int .i64 x.kind, .int .i64 x.c, .int .i64 x.s, .int .i64 x.lo, .int .i64 x.hi, .slice xo x.n xc, .bool x.fu]] w fun e w' => PpO n (pX X x (pc X n x 0)) w e w' := by
  obtain ⟨i0, hi, hz0, hz1, hz2⟩ := info_parts Tryz.infoEnt
  obtain ⟨V, hV⟩ := ev_of hr
  obtain ⟨P, hPe⟩ : ∃ P, pc X n x 0 = P := ⟨_, rfl⟩
  have HP : Hid (pc X n x 0 = P) := hPe
  rw [hPe]
  clear hPe
  obtain ⟨hbd, hlies⟩ := hr
  have hB := below_new w (.cells #[.string x.key, .int .i64 x.seq, .int .i64 x.kind, .int .i64 x.c, .int .i64 x.s, .int .i64 x.lo, .int .i64 x.hi, .slice xo x.n xc, .bool x.fu] 35)
  have EX := EAt.new w x xo xc 35
  have HF : Hid (∀ (w9 : World) (v : Value), w9.ownsRow w.heap.size 35 9 v (P + 1 + (n - P)) (fm X V 0 P ++ ecells x (.slice xo x.n xc) ++ fm X V P (n - P)) → Below w.heap.size w w9 → P ≤ n → ∃ lo lc, v = .slice lo (n + 1) lc ∧ ERow w9 lo (n + 1) (pX X x P)) := by
    intro w9 v ho hb hPn
    rw [fm_join X V x _ n P hPn, show P + 1 + (n - P) = n + 1 by omega] at ho
    refine erow_of ho (fun i hi => ?_) (fun i hi => ?_)
    · unfold pX
      by_cases h1 : i < P
      · obtain ⟨lo, lc, e1, e2⟩ := hV.row i (by omega)
        simp only [h1, if_true]
        exact ⟨lo, lc, e1, e2.keep hb⟩
      · by_cases h2 : i = P
        · subst h2
          simp only [h1, if_true, if_false]
          exact ⟨xo, xc, rfl, hx.keep hb⟩
        · obtain ⟨lo, lc, e1, e2⟩ := hV.row (i - 1) (by omega)
          simp only [h1, h2, if_false]
          exact ⟨lo, lc, e1, e2.keep hb⟩
    · unfold pX
      split
      · exact hbd _ (by omega)
      · split
        · exact hxb
        · exact hbd _ (by omega)
  go_enter Tryz.func101, Tryz.ntmps101
  go_wp2
  generalize w.alloc (.cells #[.string x.key, .int .i64 x.seq, .int .i64 x.kind, .int .i64 x.c, .int .i64 x.s, .int .i64 x.lo, .int .i64 x.hi, .slice xo x.n xc, .bool x.fu] 35) = w0 at hB EX ⊢
  go_loopw [5] (fun i wr => ∃ k : Nat, k ≤ n ∧ i = .int .i64 k ∧ Hid (pc X n x k = P) ∧ Below w0.heap.size w0 wr) (fun i _ => n - (intOf i).toNat)
  case atStart => exact ⟨0, Nat.zero_le _, rfl, HP, Below.refl _ _⟩
  case round =>
    clear HP
    obtain ⟨k, hk, rfl, HK, hbk⟩ := hrel
    have eb := EX.keep hbk
    by_cases hlt : k < n
    · obtain ⟨b', off', e, hblt, hc⟩ := hlies.resolve_left (by omega)
      injection e with e
      injection e with e1 e2 _
      subst e1 e2
      obtain ⟨da, dc, ea0, _⟩ := hc k hlt
      have ea := (ea0.keep hB).keep hbk
      have ea' := ea
      obtain ⟨_, a0, a1, a2, a3, a4, a5, a6, a7, a8⟩ := ea'
      have eb' := eb
      obtain ⟨_, b0, b1, b2, b3, b4, b5, b6, b7, b8⟩ := eb'
      simp only [Nat.zero_add] at b1 b2 b3 b4 b5 b6 b7 b8
      have hkd : decide ((k : Int) < (n : Int)) = true := by simp; omega
      clear ea0 hc hlies
      by_cases hcmp : cE (X k) x < 0
      · have hbb : ∀ b6 : Bool, (b6 = true ↔ Bef (X k) x) → b6 = true := fun b6 h => h.2 ((cE_lt _ _).1 hcmp)
        have HK2 : Hid (pc X n x (k + 1) = P) := by
          have := HK.out
          rwa [pc_step hlt hcmp] at this
        clear HK hcmp HF
        go_wp2
        go_region_held3 (fun w' => w'.cell? ⟨b, off + k * 9, none⟩ = some (.string (X k).key) ∧ w'.cell? ⟨b, off + k * 9 + 1, none⟩ = some (.int .i64 (X k).seq) ∧ w'.cell? ⟨b, off + k * 9 + 2, none⟩ = some (.int .i64 (X k).kind) ∧ w'.cell? ⟨b, off + k * 9 + 3, none⟩ = some (.int .i64 (X k).c) ∧ w'.cell? ⟨b, off + k * 9 + 4, none⟩ = some (.int .i64 (X k).s) ∧ w'.cell? ⟨b, off + k * 9 + 5, none⟩ = some (.int .i64 (X k).lo) ∧ w'.cell? ⟨b, off + k * 9 + 6, none⟩ = some (.int .i64 (X k).hi) ∧ w'.cell? ⟨b, off + k * 9 + 7, none⟩ = some (.slice da (X k).n dc) ∧ w'.cell? ⟨b, off + k * 9 + 8, none⟩ = some (.bool (X k).fu) ∧ w'.cell? ⟨w.heap.size, 0, none⟩ = some (.string x.key) ∧ w'.cell? ⟨w.heap.size, 1, none⟩ = some (.int .i64 x.seq) ∧ w'.cell? ⟨w.heap.size, 2, none⟩ = some (.int .i64 x.kind) ∧ w'.cell? ⟨w.heap.size, 3, none⟩ = some (.int .i64 x.c) ∧ w'.cell? ⟨w.heap.size, 4, none⟩ = some (.int .i64 x.s) ∧ w'.cell? ⟨w.heap.size, 5, none⟩ = some (.int .i64 x.lo) ∧ w'.cell? ⟨w.heap.size, 6, none⟩ = some (.int .i64 x.hi) ∧ w'.cell? ⟨w.heap.size, 7, none⟩ = some (.slice xo x.n xc) ∧ w'.cell? ⟨w.heap.size, 8, none⟩ = some (.bool x.fu)) (go_keep) (first | (go_at_call 55; refine (l5Before_any (X k) x da xo dc xc _).mono ?_; rintro e w6 ⟨b6, rfl, h6, hb6⟩; obtain rfl : b6 = true := hbb _ h6; have hb6' := (Below.refl _ wr).drew.trans hb6; obtain ⟨_, p0, p1, p2, p3, p4, p5, p6, p7, p8⟩ := ea.keep hb6'; obtain ⟨_, q0, q1, q2, q3, q4, q5, q6, q7, q8⟩ := eb.keep hb6'; simp only [Nat.zero_add] at q1 q2 q3 q4 q5 q6 q7 q8; have eb6 := eb.keep hb6'; have bk6 := hbk.trans (hb6'.mono hbk.size); clear hb6 hb6' h6))
        clear ea eb hbk a0 a1 a2 a3 a4 a5 a6 a7 a8 b0 b1 b2 b3 b4 b5 b6 b7 b8 p0 p1 p2 p3 p4 p5 p6 p7 p8 q0 q1 q2 q3 q4 q5 q6 q7 q8 hbb eb6
        go_wp2
        go_roundw
        case rel => exact ⟨k + 1, by omega, by go_num, HK2, bk6⟩
        case measure => simp [intOf]; omega
      · have hbb : ∀ b6 : Bool, (b6 = true ↔ Bef (X k) x) → b6 = false := fun b6 h => by
          cases b6
          · rfl
          · exact absurd ((cE_lt _ _).2 (h.1 rfl)) hcmp
        have HK2 : Hid (k = P) := by
          have := HK.out
          rw [pc_stop hlt hcmp] at this
          exact this
        clear HK hcmp
        go_wp2
        go_region_held3 (fun w' => w'.cell? ⟨b, off + k * 9, none⟩ = some (.string (X k).key) ∧ w'.cell? ⟨b, off + k * 9 + 1, none⟩ = some (.int .i64 (X k).seq) ∧ w'.cell? ⟨b, off + k * 9 + 2, none⟩ = some (.int .i64 (X k).kind) ∧ w'.cell? ⟨b, off + k * 9 + 3, none⟩ = some (.int .i64 (X k).c) ∧ w'.cell? ⟨b, off + k * 9 + 4, none⟩ = some (.int .i64 (X k).s) ∧ w'.cell? ⟨b, off + k * 9 + 5, none⟩ = some (.int .i64 (X k).lo) ∧ w'.cell? ⟨b, off + k * 9 + 6, none⟩ = some (.int .i64 (X k).hi) ∧ w'.cell? ⟨b, off + k * 9 + 7, none⟩ = some (.slice da (X k).n dc) ∧ w'.cell? ⟨b, off + k * 9 + 8, none⟩ = some (.bool (X k).fu) ∧ w'.cell? ⟨w.heap.size, 0, none⟩ = some (.string x.key) ∧ w'.cell? ⟨w.heap.size, 1, none⟩ = some (.int .i64 x.seq) ∧ w'.cell? ⟨w.heap.size, 2, none⟩ = some (.int .i64 x.kind) ∧ w'.cell? ⟨w.heap.size, 3, none⟩ = some (.int .i64 x.c) ∧ w'.cell? ⟨w.heap.size, 4, none⟩ = some (.int .i64 x.s) ∧ w'.cell? ⟨w.heap.size, 5, none⟩ = some (.int .i64 x.lo) ∧ w'.cell? ⟨w.heap.size, 6, none⟩ = some (.int .i64 x.hi) ∧ w'.cell? ⟨w.heap.size, 7, none⟩ = some (.slice xo x.n xc) ∧ w'.cell? ⟨w.heap.size, 8, none⟩ = some (.bool x.fu)) (go_keep) (first | (go_at_call 55; refine (l5Before_any (X k) x da xo dc xc _).mono ?_; rintro e w6 ⟨b6, rfl, h6, hb6⟩; obtain rfl : b6 = false := hbb _ h6; have hb6' := (Below.refl _ wr).drew.trans hb6; obtain ⟨_, p0, p1, p2, p3, p4, p5, p6, p7, p8⟩ := ea.keep hb6'; obtain ⟨_, q0, q1, q2, q3, q4, q5, q6, q7, q8⟩ := eb.keep hb6'; simp only [Nat.zero_add] at q1 q2 q3 q4 q5 q6 q7 q8; have eb6 := eb.keep hb6'; have bk6 := hbk.trans (hb6'.mono hbk.size); clear hb6 hb6' h6))
        clear ea eb hbk a0 a1 a2 a3 a4 a5 a6 a7 a8 b0 b1 b2 b3 b4 b5 b6 b7 b8 p0 p1 p2 p3 p4 p5 p6 p7 p8 q0 q1 q2 q3 q4 q5 q6 q7 q8 hbb
        have bw6 : Below w.heap.size w w6 := hB.trans (bk6.mono hB.size)
        obtain rfl := HK2.out
        clear HK2
        have eT := eb6
        have bT := bw6
        clear eb6 bw6 bk6
        generalize w6 = wT at eT bT ⊢
        have hkc : ¬ cap = k := by omega
        have t1 : True := trivial
        have t2 : True := trivial
        have sT : w.heap.size ≤ wT.heap.size := bT.size
        go_wp2_with (first
          | (at_builtin; clear t1; refine wpList_append_own _ rfl (.tmp 21) (.tmp 24) 23 rfl w.heap.size 35 i0 _ 9 96 Tryz.underlying23 hi hz0 hz1 hz2 rfl (by decide) (.slice none 0 0) 0 [] rfl (World.ownsRow_nil _ _ _ _) ⟨b, off + 0 * 9, none⟩ k cap (fm X V 0 k) rfl (fm_len _ _ _ _) (hV.src bT (by omega)) (hV.one (by omega)) (by unfold maxLen; omega) (by omega) sT ?_; intro v7 w7 O7 g7 _; have k7 : Below wT.heap.size wT w7 := (Below.refl _ _).grown g7 (Nat.le_refl _) (fun q hq => by simp [Value.ownBlock] at hq); have b7 : Below w.heap.size w w7 := bT.trans (k7.mono sT); have s7 : w.heap.size ≤ w7.heap.size := b7.size; rw [Nat.zero_add, List.nil_append] at O7; obtain ⟨lo7, lc7, rfl⟩ := ownsRow_form O7; obtain ⟨_, c0, c1, c2, c3, c4, c5, c6, c7, c8⟩ := (eT.keep k7).z; clear g7 k7)
          | (at_builtin; clear t2; refine wpList_append_own (w := w7.alloc (.cells #[.string x.key, .int .i64 x.seq, .int .i64 x.kind, .int .i64 x.c, .int .i64 x.s, .int .i64 x.lo, .int .i64 x.hi, .slice xo x.n xc, .bool x.fu] 35)) rfl (.tmp 26) (.tmp 28) 23 rfl w.heap.size 35 i0 _ 9 96 Tryz.underlying23 hi hz0 hz1 hz2 rfl (by decide) (.slice lo7 k lc7) k _ rfl (ownsRow_keep O7 (below_new _ _)) ⟨w7.heap.size, 0, none⟩ 1 1 (ecells x (.slice xo x.n xc)) rfl rfl (nine_new w7 x _ 35) (ecells_one rfl) (by unfold maxLen; omega) (by omega) (by simp; omega) ?_; intro v8 w8 O8 g8 _; have b8 : Below w.heap.size w w8 := (b7.alloc s7 _).grown g8 (by simp; omega) (fun q hq => (O7.lt q hq).1); have s8 : w.heap.size ≤ w8.heap.size := b8.size; obtain ⟨lo8, lc8, rfl⟩ := ownsRow_form O8; clear g8)
          | (at_builtin; refine wpList_append_own _ rfl (.tmp 30) (.tmp 33) 23 rfl w.heap.size 35 i0 _ 9 96 Tryz.underlying23 hi hz0 hz1 hz2 rfl (by decide) (.slice lo8 (k + 1) lc8) (k + 1) _ rfl O8 ⟨b, off + k * 9, none⟩ (n - k) (cap - k) (fm X V k (n - k)) rfl (fm_len _ _ _ _) (hV.src b8 (by omega)) (hV.one (by omega)) (by unfold maxLen; omega) (by omega) s8 ?_; intro v9 w9 O9 g9 _; have b9 : Below w.heap.size w w9 := b8.grown g9 s8 (fun q hq => (O8.lt q hq).1); obtain ⟨lo9, lc9, rfl, hE⟩ := HF.out w9 _ O9 b9 (by omega); clear O9 g9)
          | (at_builtin; refine wpList_append_own _ rfl (.tmp 30) (.tmp 33) 23 rfl w.heap.size 35 i0 _ 9 96 Tryz.underlying23 hi hz0 hz1 hz2 rfl (by decide) (.slice lo8 (k + 1) lc8) (k + 1) _ rfl O8 ⟨b, off, none⟩ 0 0 (fm X V k 0) rfl (fm_len _ _ _ _) (fun j u h => by simp [fm] at h) (fun u h => by simp [fm] at h) (by unfold maxLen; omega) (by omega) s8 ?_; intro v9 w9 O9 g9 _; have b9 : Below w.heap.size w w9 := b8.grown g9 s8 (fun q hq => (O8.lt q hq).1); obtain ⟨lo9, lc9, rfl, hE⟩ := HF.out w9 _ (by rw [show n - k = 0 by omega]; exact O9) b9 (by omega); clear O9 g9)
          | (at_builtin; refine wpList_append_own _ rfl (.tmp 30) (.tmp 33) 23 rfl w.heap.size 35 i0 _ 9 96 Tryz.underlying23 hi hz0 hz1 hz2 rfl (by decide) (.slice lo8 (k + 1) lc8) (k + 1) _ rfl O8 ⟨b, off, none⟩ (n - k) (cap - k) (fm X V k (n - k)) rfl (fm_len _ _ _ _) (fun j u h => by rw [show n - k = 0 by omega] at h; simp [fm] at h) (fun u h => by rw [show n - k = 0 by omega] at h; simp [fm] at h) (by unfold maxLen; omega) (by omega) s8 ?_; intro v9 w9 O9 g9 _; have b9 : Below w.heap.size w w9 := b8.grown g9 s8 (fun q hq => (O8.lt q hq).1); obtain ⟨lo9, lc9, rfl, hE⟩ := HF.out w9 _ O9 b9 (by omega); clear O9 g9))
        all_goals exact bodyPost_ret (v := .slice lo9 (n + 1) lc9) (by simp [results, Tryz.results101, go_sem]) rfl ⟨lo9, lc9, rfl, hE, b9⟩
    · have HK2 : Hid (k = P) := by
        have := HK.out
        rw [pc_end (by omega)] at this
        exact this
      have hkd : decide ((k : Int) < (n : Int)) = false := by simp; omega
      clear HK hlies
      go_wp2
      go_quiet (fail)
      obtain rfl := HK2.out
      clear HK2
      have eT := eb.keep (below_drewN (Below.refl _ _) nq)
      have bT : Below w.heap.size w (wr.drewN nq) := below_drewN (hB.trans (hbk.mono hB.size)) _
      clear eb hbk
      generalize wr.drewN nq = wT at eT bT ⊢
      have hkc : ¬ cap = k := by omega
      have t1 : True := trivial
      have t2 : True := trivial
      have sT : w.heap.size ≤ wT.heap.size := bT.size
      go_wp2_with (first
        | (at_builtin; clear t1; refine wpList_append_own _ rfl (.tmp 21) (.tmp 24) 23 rfl w.heap.size 35 i0 _ 9 96 Tryz.underlying23 hi hz0 hz1 hz2 rfl (by decide) (.slice none 0 0) 0 [] rfl (World.ownsRow_nil _ _ _ _) ⟨b, off + 0 * 9, none⟩ k cap (fm X V 0 k) rfl (fm_len _ _ _ _) (hV.src bT (by omega)) (hV.one (by omega)) (by unfold maxLen; omega) (by omega) sT ?_; intro v7 w7 O7 g7 _; have k7 : Below wT.heap.size wT w7 := (Below.refl _ _).grown g7 (Nat.le_refl _) (fun q hq => by simp [Value.ownBlock] at hq); have b7 : Below w.heap.size w w7 := bT.trans (k7.mono sT); have s7 : w.heap.size ≤ w7.heap.size := b7.size; rw [Nat.zero_add, List.nil_append] at O7; obtain ⟨lo7, lc7, rfl⟩ := ownsRow_form O7; obtain ⟨_, c0, c1, c2, c3, c4, c5, c6, c7, c8⟩ := (eT.keep k7).z; clear g7 k7)
        | (at_builtin; clear t2; refine wpList_append_own (w := w7.alloc (.cells #[.string x.key, .int .i64 x.seq, .int .i64 x.kind, .int .i64 x.c, .int .i64 x.s, .int .i64 x.lo, .int .i64 x.hi, .slice xo x.n xc, .bool x.fu] 35)) rfl (.tmp 26) (.tmp 28) 23 rfl w.heap.size 35 i0 _ 9 96 Tryz.underlying23 hi hz0 hz1 hz2 rfl (by decide) (.slice lo7 k lc7) k _ rfl (ownsRow_keep O7 (below_new _ _)) ⟨w7.heap.size, 0, none⟩ 1 1 (ecells x (.slice xo x.n xc)) rfl rfl (nine_new w7 x _ 35) (ecells_one rfl) (by unfold maxLen; omega) (by omega) (by simp; omega) ?_; intro v8 w8 O8 g8 _; have b8 : Below w.heap.size w w8 := (b7.alloc s7 _).grown g8 (by simp; omega) (fun q hq => (O7.lt q hq).1); have s8 : w.heap.size ≤ w8.heap.size := b8.size; obtain ⟨lo8, lc8, rfl⟩ := ownsRow_form O8; clear g8)
        | (at_builtin; refine wpList_append_own _ rfl (.tmp 30) (.tmp 33) 23 rfl w.heap.size 35 i0 _ 9 96 Tryz.underlying23 hi hz0 hz1 hz2 rfl (by decide) (.slice lo8 (k + 1) lc8) (k + 1) _ rfl O8 ⟨b, off + k * 9, none⟩ (n - k) (cap - k) (fm X V k (n - k)) rfl (fm_len _ _ _ _) (hV.src b8 (by omega)) (hV.one (by omega)) (by unfold maxLen; omega) (by omega) s8 ?_; intro v9 w9 O9 g9 _; have b9 : Below w.heap.size w w9 := b8.grown g9 s8 (fun q hq => (O8.lt q hq).1); obtain ⟨lo9, lc9, rfl, hE⟩ := HF.out w9 _ O9 b9 (by omega); clear O9 g9)
        | (at_builtin; refine wpList_append_own _ rfl (.tmp 30) (.tmp 33) 23 rfl w.heap.size 35 i0 _ 9 96 Tryz.underlying23 hi hz0 hz1 hz2 rfl (by decide) (.slice lo8 (k + 1) lc8) (k + 1) _ rfl O8 ⟨b, off, none⟩ 0 0 (fm X V k 0) rfl (fm_len _ _ _ _) (fun j u h => by simp [fm] at h) (fun u h => by simp [fm] at h) (by unfold maxLen; omega) (by omega) s8 ?_; intro v9 w9 O9 g9 _; have b9 : Below w.heap.size w w9 := b8.grown g9 s8 (fun q hq => (O8.lt q hq).1); obtain ⟨lo9, lc9, rfl, hE⟩ := HF.out w9 _ (by rw [show n - k = 0 by omega]; exact O9) b9 (by omega); clear O9 g9)
        | (at_builtin; refine wpList_append_own _ rfl (.tmp 30) (.tmp 33) 23 rfl w.heap.size 35 i0 _ 9 96 Tryz.underlying23 hi hz0 hz1 hz2 rfl (by decide) (.slice lo8 (k + 1) lc8) (k + 1) _ rfl O8 ⟨b, off, none⟩ (n - k) (cap - k) (fm X V k (n - k)) rfl (fm_len _ _ _ _) (fun j u h => by rw [show n - k = 0 by omega] at h; simp [fm] at h) (fun u h => by rw [show n - k = 0 by omega] at h; simp [fm] at h) (by unfold maxLen; omega) (by omega) s8 ?_; intro v9 w9 O9 g9 _; have b9 : Below w.heap.size w w9 := b8.grown g9 s8 (fun q hq => (O8.lt q hq).1); obtain ⟨lo9, lc9, rfl, hE⟩ := HF.out w9 _ O9 b9 (by omega); clear O9 g9))
      all_goals exact bodyPost_ret (v := .slice lo9 (n + 1) lc9) (by simp [results, Tryz.results101, go_sem]) rfl ⟨lo9, lc9, rfl, hE, b9⟩

theorem l5Put_some (b off n cap : Nat) (hcap : n ≤ cap) (X : Nat → Ent) (x : Ent) (xo : Option Addr) (xc : Nat) (w : World) (hr : ERow w (some ⟨b, off, none⟩) n X) (hx : IRow w xo x.n x.f) (hxb : EB x) (hn : n ≤ 1000) :
    Calls Tryz.prog 101 #[.slice (some ⟨b, off, none⟩) n cap, .agg #[.string x.key, .int .i64 x.seq, .int .i64 x.kind, .int .i64 x.c, .int .i64 x.s, .int .i64 x.lo, .int .i64 x.hi, .slice xo x.n xc, .bool x.fu]] w fun e w' => PpO n (pX X x (pc X n x 0)) w e w' := by
  by_cases h : cap = n
  · subst h
    exact l5Put_eq b off cap X x xo xc w hr hx hxb hn
  · exact l5Put_gt b off n cap (by omega) X x xo xc w hr hx hxb hn

theorem own_cap {w : World} {base e size n : Nat} {lo : Option Addr} {m lc : Nat} {xs : List Value} (h : w.ownsRow base e size (.slice lo m lc) n xs) : m ≤ lc := by
  rcases h.2 with ⟨e, h0⟩ | ⟨g, cap, cur, e, _, _, hnc, _⟩
  · injection e with _ e2 e3; omega
  · injection e with _ e2 e3; omega
theorem own_none {w : World} {base e size n : Nat} {m lc : Nat} {xs : List Value} (h : w.ownsRow base e size (.slice none m lc) n xs) : m = 0 := by
  rcases h.2 with ⟨e, h0⟩ | ⟨g, cap, cur, e, _, _, hnc, _⟩
  · injection e with _ e2 e3
  · injection e with e1 _ _; cases e1
theorem app_nil (w : World) (lo : Option Addr) (m lc : Nat) (hl : m ≤ lc) (hlo : lo = none → m = 0) (ty : TypeId) : (Builtin.append_ #[23, 23] ty #[.slice lo m lc, .slice none 0 0]).run Tryz.prog w = .ok (.slice lo m lc) w := by
  obtain ⟨i0, hi, hz0, hz1, hz2⟩ := info_parts Tryz.infoEnt
  cases lo with
  | none => simp [Builtin.append_, run_underlying Tryz.underlying23, sizeOf, typeInfo, hi, Builtin.lenOf, Builtin.firstCells, loadCells, loadCellsFrom, storeCells, hl, hlo]
  | some a => simp [Builtin.append_, run_underlying Tryz.underlying23, sizeOf, typeInfo, hi, Builtin.lenOf, Builtin.firstCells, loadCells, loadCellsFrom, storeCells, hl]

set_option maxRecDepth 100000 in
set_option maxHeartbeats 4000000 in
theorem l5Put_nil (X : Nat → Ent) (x : Ent) (xo : Option Addr) (xc : Nat) (w : World) (hx : IRow w xo x.n x.f) (hxb : EB x) :
    Calls Tryz.prog 101 #[.slice none 0 0, .agg #[.string x.key, .int .i64 x.seq, .int .i64 x.kind, .int .i64 x.c, .int .i64 x.s, .int .i64 x.lo, .int .i64 x.hi, .slice xo x.n xc, .bool x.fu]] w fun e w' => PpO 0 (pX X x (pc X 0 x 0)) w e w' := by
  obtain ⟨i0, hi, hz0, hz1, hz2⟩ := info_parts Tryz.infoEnt
  have hB := below_new w (.cells #[.string x.key, .int .i64 x.seq, .int .i64 x.kind, .int .i64 x.c, .int .i64 x.s, .int .i64 x.lo, .int .i64 x.hi, .slice xo x.n xc, .bool x.fu] 35)
  have EX := EAt.new w x xo xc 35
  have HP : Hid (pc X 0 x 0 = 0) := pc_end (Nat.le_refl _)
  go_enter Tryz.func101, Tryz.ntmps101
  go_wp2
  generalize w.alloc (.cells #[.string x.key, .int .i64 x.seq, .int .i64 x.kind, .int .i64 x.c, .int .i64 x.s, .int .i64 x.lo, .int .i64 x.hi, .slice xo x.n xc, .bool x.fu] 35) = w0 at hB EX ⊢
  go_loopw [5] (fun i wr => i = .int .i64 0 ∧ Below w0.heap.size w0 wr) (fun _ _ => 0)
  case atStart => exact ⟨rfl, Below.refl _ _⟩
  case round =>
    obtain ⟨rfl, hbk⟩ := hrel
    have eb := EX.keep hbk
    go_wp2
    go_quiet (fail)
    have eT := eb.keep (below_drewN (Below.refl _ _) nq)
    have bT : Below w.heap.size w (wr.drewN nq) := below_drewN (hB.trans (hbk.mono hB.size)) _
    clear eb hbk
    generalize wr.drewN nq = wT at eT bT ⊢
    have t1 : True := trivial
    have t2 : True := trivial
    have sT : w.heap.size ≤ wT.heap.size := bT.size
    obtain ⟨_, c0, c1, c2, c3, c4, c5, c6, c7, c8⟩ := eT.z
    go_wp2_with (first
      | (at_builtin; clear t1; refine wpList_append_eq _ rfl (.tmp 21) (.tmp 24) 23 23 rfl rfl (.slice none 0 0) (.slice none 0 0) (.slice none 0 0) rfl rfl _ (app_nil _ none 0 0 (Nat.le_refl _) (fun _ => rfl) _) ?_)
      | (at_builtin; clear t2; refine wpList_append_own (w := wT.alloc (.cells #[.string x.key, .int .i64 x.seq, .int .i64 x.kind, .int .i64 x.c, .int .i64 x.s, .int .i64 x.lo, .int .i64 x.hi, .slice xo x.n xc, .bool x.fu] 35)) rfl (.tmp 26) (.tmp 28) 23 rfl w.heap.size 35 i0 _ 9 96 Tryz.underlying23 hi hz0 hz1 hz2 rfl (by decide) (.slice none 0 0) 0 [] rfl (World.ownsRow_nil _ _ _ _) ⟨wT.heap.size, 0, none⟩ 1 1 (ecells x (.slice xo x.n xc)) rfl rfl (nine_new wT x _ 35) (ecells_one rfl) (by unfold maxLen; omega) (by omega) (by simp; omega) ?_; intro v8 w8 O8 g8 _; have b8 : Below w.heap.size w w8 := (bT.alloc sT _).grown g8 (by simp; omega) (fun q hq => by simp [Value.ownBlock] at hq); have s8 : w.heap.size ≤ w8.heap.size := b8.size; obtain ⟨lo8, lc8, rfl⟩ := ownsRow_form O8; clear g8)
      | (at_builtin; refine wpList_append_eq _ rfl (.tmp 30) (.tmp 33) 23 23 rfl rfl (.slice lo8 (0 + 1) lc8) (.slice none 0 0) (.slice lo8 (0 + 1) lc8) rfl rfl _ (app_nil _ lo8 (0 + 1) lc8 (own_cap O8) (fun h => by subst h; exact own_none O8) _) ?_))
    have hE : ERow w8 lo8 (0 + 1) (pX X x (pc X 0 x 0)) := by
      rw [HP.out]
      have e8 : (List.range (0 + 1)).flatMap (fun i => ecells (pX X x 0 i) (.slice xo x.n xc)) = [] ++ ecells x (.slice xo x.n xc) := by simp [pX, List.range_succ]
      rw [← e8] at O8
      obtain ⟨lo, lc, e, h⟩ := erow_of (X := pX X x 0) (V := fun _ => .slice xo x.n xc) O8 (fun i hi => by
        obtain rfl : i = 0 := by omega
        exact ⟨xo, xc, by simp [pX], by simpa [pX] using hx.keep b8⟩) (fun i hi => by
        obtain rfl : i = 0 := by omega
        simpa [pX] using hxb)
      injection e with e1 _ _
      subst e1
      exact h
    exact bodyPost_ret (v := .slice lo8 (0 + 1) lc8) (by simp [results, Tryz.results101, go_sem]) rfl ⟨lo8, lc8, rfl, hE, b8⟩

/-- Where a list lies that is nil or not. -/
def Nls (ao : Option Addr) (n cap : Nat) : Prop := (ao = none ∧ n = 0 ∧ cap = 0) ∨ ∃ b off, ao = some ⟨b, off, none⟩
theorem l5Put_any (ao : Option Addr) (n cap : Nat) (hcap : n ≤ cap) (hl : Nls ao n cap) (X : Nat → Ent) (x : Ent) (xo : Option Addr) (xc : Nat) (w : World) (hr : ERow w ao n X) (hx : IRow w xo x.n x.f) (hxb : EB x) (hn : n ≤ 1000) :
    Calls Tryz.prog 101 #[.slice ao n cap, .agg #[.string x.key, .int .i64 x.seq, .int .i64 x.kind, .int .i64 x.c, .int .i64 x.s, .int .i64 x.lo, .int .i64 x.hi, .slice xo x.n xc, .bool x.fu]] w fun e w' => PpO n (pX X x (pc X n x 0)) w e w' := by
  rcases hl with ⟨rfl, rfl, rfl⟩ | ⟨b, off, rfl⟩
  · exact l5Put_nil X x xo xc w hx hxb
  · exact l5Put_some b off n cap hcap X x xo xc w hr hx hxb hn
end Go.Proofs.YtohjjigkfdhklaaGreat
namespace Go.Proofs.YtohjjigkfdhklaaGreat
set_option maxRecDepth 100000
open Go.RowKit
set_option linter.unusedSimpArgs false
set_option linter.unusedVariables false

theorem OutE.base {w : World} {base base' : Nat} {v : Value} {n : Nat} {X : Nat → Ent} {V : Nat → Value} (h : OutE w base v n X V) (hb : base' ≤ base) : OutE w base' v n X V := ⟨ownsRow_mono h.own hb, fun i hi => (h.row i hi).mono hb, h.dis, h.apart⟩
theorem pX_all {X : Nat → Ent} {x : Ent} {n P : Nat} {Q : Ent → Prop} (hX : ∀ i, i < n → Q (X i)) (hx : Q x) (hP : P ≤ n) : ∀ i, i < n + 1 → Q (pX X x P i) := by
  intro i hi
  unfold pX
  split
  · exact hX _ (by omega)
  · split
    · exact hx
    · exact hX _ (by omega)

set_option maxRecDepth 100000 in
set_option maxHeartbeats 4000000 in
theorem putEntry_spec (ao : Option Addr) (n cap : Nat) (hcap : n ≤ cap) (hl : Nls ao n cap) (X : Nat → Ent) (x : Ent) (xo : Option Addr) (xc : Nat) (w : World) (hr : ERow w ao n X) (hx : IRow w xo x.n x.f) (hxb : EB x) (hn : n ≤ 1048576) (hz : ESize n X) (hzx : x.key.size ≤ 1048576 ∧ x.n ≤ 1048576) :
    Calls Tryz.prog 75 #[.slice ao n cap, .agg #[.string x.key, .int .i64 x.seq, .int .i64 x.kind, .int .i64 x.c, .int .i64 x.s, .int .i64 x.lo, .int .i64 x.hi, .slice xo x.n xc, .bool x.fu]] w fun e w' => EoO (GoodP X n x) (pE X n x (pc X n x 0)) w e w' := by
  have hB := below_new w (.cells #[.string x.key, .int .i64 x.seq, .int .i64 x.kind, .int .i64 x.c, .int .i64 x.s, .int .i64 x.lo, .int .i64 x.hi, .slice xo x.n xc, .bool x.fu] 35)
  have EX := EAt.new w x xo xc 35
  by_cases h60 : n < 60
  rotate_left
  · have H : Hid (¬ GoodP X n x) := fun g => h60 g.1
    have hd60 : decide ((60 : Int) ≤ (n : Int)) = true := by simp; omega
    clear EX
    go_enter Tryz.func75, Tryz.ntmps75
    go_wp2
    exact bodyPost_ret (v := .tuple #[.slice none 0 0, .bool false]) (by simp [results, Tryz.results75, go_sem]) rfl (.inl ⟨H.out, _, _, rfl, outE_nil _ _ _, hB⟩)
  have hd60 : decide ((60 : Int) ≤ (n : Int)) = false := by simp; omega
  have hP := (pc_le (X := X) (n := n) (e := x) (q := 0) (Nat.zero_le _)).2
  obtain ⟨P, hPe⟩ : ∃ P, pc X n x 0 = P := ⟨_, rfl⟩
  have HP : Hid (pc X n x 0 = P) := hPe
  rw [hPe] at hP ⊢
  clear hPe
  go_enter Tryz.func75, Tryz.ntmps75
  go_wp2_with fail
  generalize w.alloc (.cells #[.string x.key, .int .i64 x.seq, .int .i64 x.kind, .int .i64 x.c, .int .i64 x.s, .int .i64 x.lo, .int .i64 x.hi, .slice xo x.n xc, .bool x.fu] 35) = w0 at hB EX ⊢
  refine (goodEntries_spec _ n cap X _ (hr.keep hB) (by omega) hz).mono ?_
  rintro e w1 ⟨b1, rfl, h1, q1⟩
  have bw1 := hB.trans (q1.mono hB.size)
  have EX1 := EX.keep q1
  clear EX q1
  cases b1
  · have H : Hid (¬ GoodP X n x) := fun h => by
      have := h1.2 h.2.1
      cases this
    clear h1
    go_wp2
    exact bodyPost_ret (v := .tuple #[.slice none 0 0, .bool false]) (by simp [results, Tryz.results75, go_sem]) rfl (.inl ⟨H.out, _, _, rfl, outE_nil _ _ _, bw1⟩)
  have HL : Hid (GoodL X n) := h1.1 rfl
  clear h1
  have EXc := EX1
  obtain ⟨_, a0, a1, a2, a3, a4, a5, a6, a7, a8⟩ := EXc
  simp only [Nat.zero_add] at a1 a2 a3 a4 a5 a6 a7 a8
  go_wp2_with fail
  refine (goodEntry_spec x xo xc _ (hx.keep bw1) hzx.2 hxb.s).mono ?_
  rintro e w2 ⟨b2, rfl, h2, q2⟩
  have bw2 := bw1.trans (q2.mono bw1.size)
  have EX2 := EX1.keep q2
  clear EX1 q2 a0 a1 a2 a3 a4 a5 a6 a7 a8
  cases b2
  · have H : Hid (¬ GoodP X n x) := fun h => by
      have := h2.2 h.2.2.1
      cases this
    clear h2
    go_wp2
    exact bodyPost_ret (v := .tuple #[.slice none 0 0, .bool false]) (by simp [results, Tryz.results75, go_sem]) rfl (.inl ⟨H.out, _, _, rfl, outE_nil _ _ _, bw2⟩)
  have HE : Hid (GoodE x) := h2.1 rfl
  clear h2
  have hr2 := hr.keep bw2
  have hx2 := hx.keep bw2
  obtain ⟨hbd, hlies⟩ := hr2
  have hbd' := hbd
  go_wp2
  go_loopw [23] (fun i wr => ∃ k : Nat, k ≤ n ∧ i = .int .i64 k ∧ Hid (∀ i, i < k → (X i).seq ≠ x.seq) ∧ Below w2.heap.size w2 wr) (fun i _ => n - (intOf i).toNat)
  case atStart => exact ⟨0, Nat.zero_le _, rfl, fun i h => by omega, Below.refl _ _⟩
  case round =>
    obtain ⟨k, hk, rfl, HA, hbk⟩ := hrel
    have eb := EX2.keep hbk
    have eb' := eb
    obtain ⟨_, b0, b1, b2, b3, b4, b5, b6, b7, b8⟩ := eb'
    simp only [Nat.zero_add] at b1 b2 b3 b4 b5 b6 b7 b8
    by_cases hlt : k < n
    · obtain ⟨b, off, rfl, hblt, hc⟩ := hlies.resolve_left (by omega)
      obtain ⟨da, dc, ea0, _⟩ := hc k hlt
      obtain ⟨_, a0, a1, a2, a3, a4, a5, a6, a7, a8⟩ := ea0.keep hbk
      have hbn := below_new wr (.cells #[.string (X k).key, .int .i64 (X k).seq, .int .i64 (X k).kind, .int .i64 (X k).c, .int .i64 (X k).s, .int .i64 (X k).lo, .int .i64 (X k).hi, .slice da (X k).n dc, .bool (X k).fu] 35)
      have ebn := eb.keep hbn
      obtain ⟨_, d0, d1, d2, d3, d4, d5, d6, d7, d8⟩ := ebn
      simp only [Nat.zero_add] at d1 d2 d3 d4 d5 d6 d7 d8
      have bkn := hbk.trans (hbn.mono hbk.size)
      have bwn := bw2.trans (bkn.mono bw2.size)
      clear ea0 hc hlies hbn eb
      by_cases he : (X k).seq = x.seq
      · have hbq : ((X k).seq == x.seq) = true := by simp [he]
        have H : Hid (¬ GoodP X n x) := fun g => g.2.2.2 ⟨k, hlt, he⟩
        clear he
        go_wp2
        exact bodyPost_ret (v := .tuple #[.slice none 0 0, .bool false]) (by simp [results, Tryz.results75, go_sem]) rfl (.inl ⟨H.out, _, _, rfl, outE_nil _ _ _, bwn⟩)
      · have hbq : ((X k).seq == x.seq) = false := by simp [he]
        have HH : Hid (∀ i, i < k + 1 → (X i).seq ≠ x.seq) := fun i hi => by
          rcases Nat.lt_succ_iff_lt_or_eq.1 hi with h | rfl
          · exact HA.out i h
          · exact he
        clear he
        go_wp2
        go_roundw
        case rel => exact ⟨k + 1, by omega, by go_num, HH, bkn⟩
        case measure => simp [intOf]; omega
    · obtain rfl : k = n := by omega
      have HG : Hid (GoodP X k x) := ⟨h60, HL.out, HE.out, fun ⟨i, hi, h⟩ => HA.out i hi h⟩
      have bwk := bw2.trans (hbk.mono bw2.size)
      clear hlies HA
      go_wp2_with fail
      refine (l5Put_any ao k cap hcap hl X x xo xc _ (hr.keep bwk) (hx.keep bwk) hxb (by omega)).mono ?_
      rintro e w5 ⟨lo, lc, rfl, hE, hb5⟩
      rw [HP.out] at hE
      have bw5 := bwk.trans (hb5.mono bwk.size)
      clear hb5 b0 b1 b2 b3 b4 b5 b6 b7 b8 eb
      go_wp2_with fail
      refine (l5Own_any lo _ lc _ _ hE (by omega) (pX_all (Q := fun x => x.key.size ≤ 1048576 ∧ x.n ≤ 1048576) hz hzx hP)).mono ?_
      rintro e w6 ⟨v, V, rfl, hO, hb6⟩
      have bw6 := bw5.trans (hb6.mono bw5.size)
      have O6 := hO.base bw5.size
      obtain ⟨go, gc, rfl⟩ := ownsRow_form O6.own
      have OF : OutE w6 w.heap.size (.slice go (k + 1) gc) (pE X k x P).length (eL (pE X k x P)) V := by
        rw [pE_len]
        exact O6.congr (fun i hi => (pE_at X k x P hi).symm)
      clear hO hb6 O6
      go_wp2
      exact bodyPost_ret (v := .tuple #[.slice go (k + 1) gc, .bool true]) (by simp [results, Tryz.results75, go_sem]) rfl (.inr ⟨HG.out, _, _, rfl, OF, bw6⟩)
end Go.Proofs.YtohjjigkfdhklaaGreat
namespace Go.Proofs.YtohjjigkfdhklaaGreat
set_option maxRecDepth 100000
open Go.RowKit
set_option linter.unusedSimpArgs false
set_option linter.unusedVariables false

/-- What is told of a drawn entry. -/
def Sm (x : Ent) : Prop := EB x ∧ x.key.size ≤ 200 ∧ x.n ≤ 8
/-- A list of entries of the call's own; their lists lie from base on, apart from it. -/
structure GL (w : World) (base : Nat) (v : Value) (n : Nat) (X : Nat → Ent) (V : Nat → Value) : Prop where
  own : w.ownsRow base 35 9 v n ((List.range n).flatMap fun i => ecells (X i) (V i))
  row : ∀ i, i < n → ∃ lo lc, V i = .slice lo (X i).n lc ∧ HR w base lo (X i).n (X i).f ∧ ∀ g off, lo = some ⟨g, off, none⟩ → (X i).n ≠ 0 → v.ownBlock ≠ some g
  bd : ∀ i, i < n → Sm (X i)
section
variable {w w' : World} {base : Nat} {v : Value} {n : Nat} {X : Nat → Ent} {V : Nat → Value}
theorem gl_nil (w : World) (base : Nat) (X : Nat → Ent) : GL w base (.slice none 0 0) 0 X (fun _ => .slice none 0 0) :=
  ⟨World.ownsRow_nil _ _ _ _, fun i hi => absurd hi (Nat.not_lt_zero _), fun i hi => absurd hi (Nat.not_lt_zero _)⟩
theorem GL.keep (h : GL w base v n X V) (hb : Below w.heap.size w w') : GL w' base v n X V :=
  ⟨ownsRow_keep h.own hb, fun i hi => by obtain ⟨lo, lc, e, h1, h2⟩ := h.row i hi; exact ⟨lo, lc, e, h1.keep hb, h2⟩, h.bd⟩
theorem GL.grown {row : Option Nat} (h : GL w base v n X V) (g : w.grownBy w' row) (hr : ∀ k, row = some k → k < base) : GL w' base v n X V :=
  ⟨ownsRow_kept h.own g (fun k e h2 => by have := (h.own.lt k h2).1; have := hr k e; omega), fun i hi => by
    obtain ⟨lo, lc, e, h1, h2⟩ := h.row i hi
    exact ⟨lo, lc, e, h1.grown g (fun b off e1 h0 e2 => by have := hr b e2; have := h1.at' b off e1 h0; omega), h2⟩, h.bd⟩
theorem GL.erow (h : GL w base v n X V) : ∃ ao cap, v = .slice ao n cap ∧ ERow w ao n X ∧ n ≤ cap ∧ Nls ao n cap := by
  obtain ⟨ao, cap, e, hE⟩ := erow_of h.own (fun i hi => by obtain ⟨lo, lc, e, h1, _⟩ := h.row i hi; exact ⟨lo, lc, e, h1.row⟩) (fun i hi => (h.bd i hi).1)
  subst e
  refine ⟨ao, cap, rfl, hE, own_cap h.own, ?_⟩
  rcases h.own.2 with ⟨e, h0⟩ | ⟨g, cap', cur, e, _⟩
  · injection e with e1 e2 e3
    exact .inl ⟨e1, e2, e3⟩
  · injection e with e1 _ _
    exact .inr ⟨g, 0, e1⟩
theorem GL.sz (h : GL w base v n X V) : ESize n X := fun i hi => by
  have := h.bd i hi
  exact ⟨by have := this.2.1; omega, by have := this.2.2; omega⟩
theorem OutE.gl (h : OutE w base v n X V) (hb : ∀ i, i < n → Sm (X i)) : GL w base v n X V :=
  ⟨h.own, fun i hi => by
    obtain ⟨lo, lc, e, hI⟩ := (h.row i hi).row
    refine ⟨lo, lc, e, ⟨hI, fun g off e1 h0 => ?_⟩, fun g off e1 h0 => ?_⟩
    · exact ((h.row i hi).own.lt g (by rw [e, e1]; rfl)).1
    · exact h.apart i hi g (by rw [e, e1]; rfl), hb⟩
set_option maxRecDepth 100000 in
theorem GL.push (h : GL w base v n X V) (x : Ent) (xo : Option Addr) (xc : Nat) (hH : HR w base xo x.n x.f) (hfar : ∀ g off, xo = some ⟨g, off, none⟩ → x.n ≠ 0 → v.ownBlock ≠ some g) (hb : Sm x) (hn : n ≤ 1000) (hbase : base ≤ w.heap.size) (ty : TypeId) :
    ∃ v' w', (Builtin.append_ #[23, 23] ty #[v, .slice (some ⟨w.heap.size, 0, none⟩) 1 1]).run Tryz.prog (w.alloc (.cells #[.string x.key, .int .i64 x.seq, .int .i64 x.kind, .int .i64 x.c, .int .i64 x.s, .int .i64 x.lo, .int .i64 x.hi, .slice xo x.n xc, .bool x.fu] 35)) = .ok v' w' ∧ GL w' base v' (n + 1) (fun i => if i = n then x else X i) (fun i => if i = n then .slice xo x.n xc else V i) ∧ (w.alloc (.cells #[.string x.key, .int .i64 x.seq, .int .i64 x.kind, .int .i64 x.c, .int .i64 x.s, .int .i64 x.lo, .int .i64 x.hi, .slice xo x.n xc, .bool x.fu] 35)).grownBy w' v.ownBlock := by
  obtain ⟨i0, hi, hz0, hz1, hz2⟩ := info_parts Tryz.infoEnt
  have hB := below_new w (.cells #[.string x.key, .int .i64 x.seq, .int .i64 x.kind, .int .i64 x.c, .int .i64 x.s, .int .i64 x.lo, .int .i64 x.hi, .slice xo x.n xc, .bool x.fu] 35)
  have h' := h.keep hB
  have hH' := hH.keep hB
  obtain ⟨v', w', hrun, hown, hg, _, ha⟩ := run_append_own_at (P := Tryz.prog) (w.alloc (.cells #[.string x.key, .int .i64 x.seq, .int .i64 x.kind, .int .i64 x.c, .int .i64 x.s, .int .i64 x.lo, .int .i64 x.hi, .slice xo x.n xc, .bool x.fu] 35)) base 23 ty 35 i0 _ 9 96 Tryz.underlying23 hi hz0 hz1 hz2 rfl (by decide) v n _ h'.own ⟨w.heap.size, 0, none⟩ 1 1 (ecells x (.slice xo x.n xc)) rfl (nine_new w x _ 35) (ecells_one rfl) (by unfold maxLen; omega) (by omega) (by simp; omega)
  have lt' : ∀ {ao : Option Addr} {m : Nat} {f : Nat → Int} {b off : Nat}, IRow (w.alloc (.cells #[.string x.key, .int .i64 x.seq, .int .i64 x.kind, .int .i64 x.c, .int .i64 x.s, .int .i64 x.lo, .int .i64 x.hi, .slice xo x.n xc, .bool x.fu] 35)) ao m f → ao = some ⟨b, off, none⟩ → m ≠ 0 → b < (w.alloc (.cells #[.string x.key, .int .i64 x.seq, .int .i64 x.kind, .int .i64 x.c, .int .i64 x.s, .int .i64 x.lo, .int .i64 x.hi, .slice xo x.n xc, .bool x.fu] 35)).heap.size := by
    intro ao m f b off hI e h0
    obtain ⟨b', off', e', hlt, _⟩ := hI.lies.resolve_left h0
    rw [e] at e'
    injection e' with e'
    injection e' with e1 _ _
    omega
  refine ⟨v', w', hrun, ⟨?_, fun i hi => ?_, fun i hi => ?_⟩, hg⟩
  · have e : ((List.range (n + 1)).flatMap fun i => ecells (if i = n then x else X i) (if i = n then .slice xo x.n xc else V i)) = ((List.range n).flatMap fun i => ecells (X i) (V i)) ++ ecells x (.slice xo x.n xc) := by
      rw [List.range_succ, List.flatMap_append]
      congr 1
      · unfold List.flatMap
        congr 1
        refine List.map_congr_left fun i hi => ?_
        have := List.mem_range.1 hi
        rw [if_neg (by omega), if_neg (by omega)]
      · simp
    rw [e]; exact hown
  · have far2 : ∀ (b : Nat), b < (w.alloc (.cells #[.string x.key, .int .i64 x.seq, .int .i64 x.kind, .int .i64 x.c, .int .i64 x.s, .int .i64 x.lo, .int .i64 x.hi, .slice xo x.n xc, .bool x.fu] 35)).heap.size → v.ownBlock ≠ some b → v'.ownBlock ≠ some b := fun b hlt hne => by
      rcases ha with ha | ha
      · rw [ha]; exact hne
      · rw [ha]; intro e; injection e with e; omega
    by_cases e : i = n
    · simp only [e, if_true]
      exact ⟨xo, xc, rfl, hH'.grown hg (fun g off e1 h0 e2 => hfar g off e1 h0 e2), fun g off e1 h0 => far2 g (lt' hH'.row e1 h0) (hfar g off e1 h0)⟩
    · simp only [e, if_false]
      obtain ⟨lo, lc, e1, h1, h2⟩ := h'.row i (by omega)
      exact ⟨lo, lc, e1, h1.grown hg (fun g off e1 h0 e2 => h2 g off e1 h0 e2), fun g off e3 h0 => far2 g (lt' h1.row e3 h0) (h2 g off e3 h0)⟩
  · by_cases e : i = n
    · simp only [e, if_true]; exact hb
    · simp only [e, if_false]; exact h.bd i (by omega)
end
/-- Drawn entries. -/
def EsO (CB : Nat) (ao : Option Addr) (n cap : Nat) (f : Nat → Int) (A : Nat) (w : World) (e : Ending) (w' : World) : Prop :=
  ∃ (m : Nat) (lo : Option Addr) (lc : Nat) (X : Nat → Ent) (V : Nat → Value), e = .returned (.slice lo m lc) ∧ m ≤ 15 ∧ GL w' w.heap.size (.slice lo m lc) m X V ∧ CS w w' CB ao n cap f (A + 600)
theorem fresh_far {w w' : World} {base : Nat} {v : Value} {n e s : Nat} {xs : List Value} {xo : Option Addr} {m : Nat} {f : Nat → Int} (h : w.ownsRow base e s v n xs) (hH : HR w' w.heap.size xo m f) : ∀ g off, xo = some ⟨g, off, none⟩ → m ≠ 0 → v.ownBlock ≠ some g :=
  fun g off e1 h0 e2 => by have := (h.lt g e2).2; have := hH.at' g off e1 h0; omega

set_option maxRecDepth 100000 in
set_option maxHeartbeats 8000000 in
theorem entries_any {w : World} {CB : Nat} {ao : Option Addr} {n cap : Nat} {f : Nat → Int} {A : Nat} (h : CS w w CB ao n cap f A) (hA : A ≤ 80000) :
    Calls Tryz.prog 43 #[.pointer (some ⟨CB, 0, none⟩), .int .i64 14] w fun e w' => EsO CB ao n cap f A w e w' := by
  have hl0 := h.lt
  go_enter Tryz.func43, Tryz.ntmps43
  go_wp2_with fail
  refine (pick_s 15 (by omega) h.self (by omega)).mono ?_
  rintro e w1 ⟨x, rfl, x0, x1, C1⟩
  obtain ⟨k0, rfl⟩ := Int.eq_ofNat_of_zero_le x0
  go_wp2
  go_loopw [5, 6] (fun u q wr => ∃ (k B m : Nat) (lo : Option Addr) (lc : Nat) (X : Nat → Ent) (V : Nat → Value), u = .slice lo m lc ∧ q = .int .i64 k ∧ m + k ≤ 14 ∧ B + 30 * k ≤ A + 421 ∧ GL wr w.heap.size (.slice lo m lc) m X V ∧ CS w wr CB ao n cap f B) (fun _ q _ => (intOf q).toNat)
  case atStart => exact ⟨k0, A + 1, 0, none, 0, fun _ => dE, _, rfl, by go_num, by omega, by omega, gl_nil _ _ _, C1⟩
  case round =>
    clear C1
    obtain ⟨k, B, m, lo, lc, X, V, rfl, rfl, hmk, hBk, G, C⟩ := hrel
    by_cases hk0 : k = 0
    · subst hk0
      go_wp2_with fail
      refine (one_s 40 (by omega) C.self (by omega)).mono ?_
      rintro e w2 ⟨b2, rfl, K2⟩
      have C2 := C.trans K2
      have G2 := G.grown K2.gr (fun k e => by injection e with e; omega)
      clear C G K2
      cases b2
      · go_wp2
        go_ret
        exact ⟨m, lo, lc, X, V, rfl, by omega, G2, C2.mono (by omega)⟩
      · go_wp2_with fail
        refine (entryD_any C2.self (by omega)).mono ?_
        rintro e w3 ⟨x, xo, xc, rfl, H3, S3, K3⟩
        have C3 := C2.trans K3
        have G3 := G2.grown K3.gr (fun k e => by injection e with e; omega)
        have hs2 := C2.gr.size
        have hs3 := C3.gr.size
        have hfar := fresh_far G2.own H3
        have H3' := H3.mono hs2
        obtain ⟨v4, w4, hrun, G4, g4⟩ := G3.push x xo xc H3' hfar S3 (by omega) hs3 23
        obtain ⟨lo4, lc4, rfl⟩ := ownsRow_form G4.own
        have C4 := (C3.keep (below_new w3 (.cells #[.string x.key, .int .i64 x.seq, .int .i64 x.kind, .int .i64 x.c, .int .i64 x.s, .int .i64 x.lo, .int .i64 x.hi, .slice xo x.n xc, .bool x.fu] 35))).far g4 (fun k e => (G3.own.lt k e).1)
        clear hfar G2 G3 C2 C3 K3 H3 H3'
        go_wp2_with (at_builtin; refine wpList_append_eq _ rfl (.tmp 28) (.tmp 31) 23 23 rfl rfl (.slice lo m lc) (.slice (some ⟨w3.heap.size, 0, none⟩) 1 1) (.slice lo4 (m + 1) lc4) rfl rfl w4 hrun ?_)
        go_ret
        exact ⟨m + 1, lo4, lc4, _, _, rfl, by omega, G4, C4.mono (by omega)⟩
    · have hkp : (0 : Int) < (k : Int) := by omega
      have hkd : decide ((0 : Int) < (k : Int)) = true := decide_eq_true hkp
      go_wp2_with fail
      refine (entryD_any C.self (by omega)).mono ?_
      rintro e w3 ⟨x, xo, xc, rfl, H3, S3, K3⟩
      have C3 := C.trans K3
      have G3 := G.grown K3.gr (fun k e => by injection e with e; omega)
      obtain ⟨_, _, e3, E3, hcap, hnls⟩ := G3.erow
      injection e3 with e31 _ e33
      subst e31 e33
      have hs3 := C3.gr.size
      have hput := putEntry_spec lo m lc hcap hnls X x xo xc w3 E3 H3.row S3.1 (by omega) G3.sz ⟨by have := S3.2.1; omega, by have := S3.2.2; omega⟩
      have HSm : Hid (∀ i, i < m → Sm (X i)) := G3.bd
      have HSx : Hid (Sm x) := S3
      clear G C K3 H3 E3 hcap hnls S3
      go_wp2_with fail
      refine hput.mono ?_
      rintro e w4 (⟨_, v4, V4, rfl, O4, q4⟩ | ⟨_, v4, V4, rfl, O4, q4⟩)
      · have C4 := C3.keep q4
        have G4 := G3.keep q4
        clear C3 G3 hput O4 q4
        go_wp2
        go_roundw
        case rel => exact ⟨k - 1, B + 30, m, lo, lc, X, V, rfl, by go_num, by omega, by omega, G4, C4⟩
        case measure => simp [intOf]; omega
      · have C4 := C3.keep q4
        rw [pE_len] at O4
        have G4 : GL w4 w.heap.size v4 (m + 1) (eL (pE X m x (pc X m x 0))) V4 := (O4.base hs3).gl (fun i hi => by
          rw [pE_at X m x _ hi]
          exact pX_all HSm.out HSx.out (pc_le (Nat.zero_le _)).2 i hi)
        obtain ⟨lo4, lc4, rfl⟩ := ownsRow_form G4.own
        clear C3 G3 hput O4 q4 HSm HSx
        go_wp2
        go_roundw
        case rel => exact ⟨k - 1, B + 30, m + 1, lo4, lc4, _, V4, rfl, by go_num, by omega, by omega, G4, C4⟩
        case measure => simp [intOf]; omega
end Go.Proofs.YtohjjigkfdhklaaGreat
namespace Go.Proofs.YtohjjigkfdhklaaGreat
set_option maxRecDepth 100000
open Go.RowKit
set_option linter.unusedSimpArgs false
set_option linter.unusedVariables false

set_option maxHeartbeats 1000000 in
theorem sameInts_any (ao bo : Option Addr) (n ca cb : Nat) (f g : Nat → Int) (w : World) (ha : IRow w ao n f) (hb : IRow w bo n g) (he : ∀ i, i < n → f i = g i) (hn : n ≤ 1048576) :
    Calls Tryz.prog 64 #[.slice ao n ca, .slice bo n cb] w fun e w' => e = .returned (.bool true) ∧ Below w.heap.size w w' := by
  go_enter Tryz.func64, Tryz.ntmps64
  go_wp2
  go_loopw [13] (fun q wr => ∃ k : Nat, k ≤ n ∧ q = .int .i64 k ∧ Below w.heap.size w wr) (fun q _ => n - (intOf q).toNat)
  case atStart => exact ⟨0, Nat.zero_le _, rfl, Below.refl _ _⟩
  case round =>
    obtain ⟨k, hk, rfl, hbk⟩ := hrel
    by_cases hlt : k < n
    · obtain ⟨b1, o1, rfl, hl1, c1⟩ := ha.lies.resolve_left (by omega)
      obtain ⟨b2, o2, rfl, hl2, c2⟩ := hb.lies.resolve_left (by omega)
      have d1 := (hbk.cell (p := ⟨b1, o1 + k, none⟩) hl1).trans (c1 k hlt)
      have d2 := (hbk.cell (p := ⟨b2, o2 + k, none⟩) hl2).trans (c2 k hlt)
      rw [← he k hlt] at d2
      have hkd : decide ((k : Int) < (n : Int)) = true := decide_eq_true (by omega)
      clear c1 c2
      go_wp2
      go_quiet (fail)
      have hq : Below w.heap.size w (wr.drewN nq) := below_drewN hbk nq
      generalize wr.drewN nq = wz at hq ⊢
      go_wp2
      go_roundw
      case rel => exact ⟨k + 1, by omega, by go_num, hq⟩
      case measure => simp [intOf]; omega
    · obtain rfl : k = n := by omega
      have hkd : decide ((k : Int) < (k : Int)) = false := decide_eq_false (by omega)
      go_wp2
      go_ret
      exact ⟨rfl, hbk⟩

set_option maxHeartbeats 1000000 in
theorem sameAggs_any (x : Ent) (ao bo : Option Addr) (ca cb : Nat) (w : World) (ha : IRow w ao x.n x.f) (hb : IRow w bo x.n x.f) (hn : x.n ≤ 1048576) :
    Calls Tryz.prog 31 #[.agg #[.int .i64 x.c, .int .i64 x.s, .int .i64 x.lo, .int .i64 x.hi, .slice ao x.n ca, .bool x.fu], .agg #[.int .i64 x.c, .int .i64 x.s, .int .i64 x.lo, .int .i64 x.hi, .slice bo x.n cb, .bool x.fu]] w fun e w' => e = .returned (.bool true) ∧ Below w.heap.size w w' := by
  have hB : ∀ o p, Below w.heap.size w ((w.alloc o).alloc p) := fun o p => (below_new w o).alloc (by simp) _
  go_enter Tryz.func31, Tryz.ntmps31
  go_wp2_with fail
  refine (sameInts_any ao bo x.n ca cb x.f x.f _ (ha.keep (hB _ _)) (hb.keep (hB _ _)) (fun _ _ => rfl) hn).mono ?_
  rintro e w1 ⟨rfl, hb⟩
  have hbw : Below w.heap.size w w1 := (hB _ _).trans (hb.mono (by simp; omega))
  clear hb
  go_wp2
  go_ret
  exact ⟨rfl, hbw⟩
end Go.Proofs.YtohjjigkfdhklaaGreat
namespace Go.Proofs.YtohjjigkfdhklaaGreat
set_option maxRecDepth 100000
open Go.RowKit
set_option linter.unusedSimpArgs false
set_option linter.unusedVariables false

set_option maxRecDepth 100000 in
set_option maxHeartbeats 16000000 in
theorem sameEntries_any (ao bo : Option Addr) (n ca cb : Nat) (X : Nat → Ent) (w : World) (ha : ERow w ao n X) (hb : ERow w bo n X) (hn : n ≤ 1048576) (hz : ESize n X) :
    Calls Tryz.prog 9 #[.slice ao n ca, .slice bo n cb] w fun e w' => e = .returned (.bool true) ∧ Below w.heap.size w w' := by
  go_enter Tryz.func9, Tryz.ntmps9
  go_wp2
  go_loopw [13] (fun q wr => ∃ k : Nat, k ≤ n ∧ q = .int .i64 k ∧ Below w.heap.size w wr) (fun q _ => n - (intOf q).toNat)
  case atStart => exact ⟨0, Nat.zero_le _, rfl, Below.refl _ _⟩
  case round =>
    obtain ⟨k, hk, rfl, hbk⟩ := hrel
    by_cases hlt : k < n
    · obtain ⟨b1, o1, rfl, hl1, c1⟩ := ha.lies.resolve_left (by omega)
      obtain ⟨b2, o2, rfl, hl2, c2⟩ := hb.lies.resolve_left (by omega)
      obtain ⟨da, dc, E1, r1⟩ := c1 k hlt
      obtain ⟨ea, ec, E2, r2⟩ := c2 k hlt
      have hkd : decide ((k : Int) < (n : Int)) = true := decide_eq_true (by omega)
      clear c1 c2
      go_wp2
      have hzk := hz k hlt
      generalize X k = x at E1 E2 r1 r2 hzk ⊢
      have hS0 : (fun W : World => W.cell? ⟨b1, o1 + k * 9, none⟩ = some (.string x.key) ∧ W.cell? ⟨b1, o1 + k * 9 + 1, none⟩ = some (.int .i64 x.seq) ∧ W.cell? ⟨b1, o1 + k * 9 + 2, none⟩ = some (.int .i64 x.kind) ∧ W.cell? ⟨b1, o1 + k * 9 + 3, none⟩ = some (.int .i64 x.c) ∧ W.cell? ⟨b1, o1 + k * 9 + 4, none⟩ = some (.int .i64 x.s) ∧ W.cell? ⟨b1, o1 + k * 9 + 5, none⟩ = some (.int .i64 x.lo) ∧ W.cell? ⟨b1, o1 + k * 9 + 6, none⟩ = some (.int .i64 x.hi) ∧ W.cell? ⟨b1, o1 + k * 9 + 7, none⟩ = some (.slice da x.n dc) ∧ W.cell? ⟨b1, o1 + k * 9 + 8, none⟩ = some (.bool x.fu) ∧ W.cell? ⟨b2, o2 + k * 9, none⟩ = some (.string x.key) ∧ W.cell? ⟨b2, o2 + k * 9 + 1, none⟩ = some (.int .i64 x.seq) ∧ W.cell? ⟨b2, o2 + k * 9 + 2, none⟩ = some (.int .i64 x.kind) ∧ W.cell? ⟨b2, o2 + k * 9 + 3, none⟩ = some (.int .i64 x.c) ∧ W.cell? ⟨b2, o2 + k * 9 + 4, none⟩ = some (.int .i64 x.s) ∧ W.cell? ⟨b2, o2 + k * 9 + 5, none⟩ = some (.int .i64 x.lo) ∧ W.cell? ⟨b2, o2 + k * 9 + 6, none⟩ = some (.int .i64 x.hi) ∧ W.cell? ⟨b2, o2 + k * 9 + 7, none⟩ = some (.slice ea x.n ec) ∧ W.cell? ⟨b2, o2 + k * 9 + 8, none⟩ = some (.bool x.fu)) wr.drew := by
        obtain ⟨_, e0, e1, e2, e3, e4, e5, e6, e7, e8⟩ := (E1.keep hbk).keep (Below.refl _ wr).drew
        obtain ⟨_, f0, f1, f2, f3, f4, f5, f6, f7, f8⟩ := (E2.keep hbk).keep (Below.refl _ wr).drew
        exact ⟨e0, e1, e2, e3, e4, e5, e6, e7, e8, f0, f1, f2, f3, f4, f5, f6, f7, f8⟩
      refine wp_region_w (fun W : World => W.cell? ⟨b1, o1 + k * 9, none⟩ = some (.string x.key) ∧ W.cell? ⟨b1, o1 + k * 9 + 1, none⟩ = some (.int .i64 x.seq) ∧ W.cell? ⟨b1, o1 + k * 9 + 2, none⟩ = some (.int .i64 x.kind) ∧ W.cell? ⟨b1, o1 + k * 9 + 3, none⟩ = some (.int .i64 x.c) ∧ W.cell? ⟨b1, o1 + k * 9 + 4, none⟩ = some (.int .i64 x.s) ∧ W.cell? ⟨b1, o1 + k * 9 + 5, none⟩ = some (.int .i64 x.lo) ∧ W.cell? ⟨b1, o1 + k * 9 + 6, none⟩ = some (.int .i64 x.hi) ∧ W.cell? ⟨b1, o1 + k * 9 + 7, none⟩ = some (.slice da x.n dc) ∧ W.cell? ⟨b1, o1 + k * 9 + 8, none⟩ = some (.bool x.fu) ∧ W.cell? ⟨b2, o2 + k * 9, none⟩ = some (.string x.key) ∧ W.cell? ⟨b2, o2 + k * 9 + 1, none⟩ = some (.int .i64 x.seq) ∧ W.cell? ⟨b2, o2 + k * 9 + 2, none⟩ = some (.int .i64 x.kind) ∧ W.cell? ⟨b2, o2 + k * 9 + 3, none⟩ = some (.int .i64 x.c) ∧ W.cell? ⟨b2, o2 + k * 9 + 4, none⟩ = some (.int .i64 x.s) ∧ W.cell? ⟨b2, o2 + k * 9 + 5, none⟩ = some (.int .i64 x.lo) ∧ W.cell? ⟨b2, o2 + k * 9 + 6, none⟩ = some (.int .i64 x.hi) ∧ W.cell? ⟨b2, o2 + k * 9 + 7, none⟩ = some (.slice ea x.n ec) ∧ W.cell? ⟨b2, o2 + k * 9 + 8, none⟩ = some (.bool x.fu)) (fun _ => true) (by kernel_rfl) ?_
      change wpW _ _ _ _ _ _ 51 _ _ wr.drew
      refine wpW_take 0 _ (.slice (some ⟨b1, o1, none⟩) n ca) rfl (by kernel_rfl) (by kernel_rfl) (by kernel_rfl) (fun _ _ _ h => h) (by kernel_rfl) (.inl ⟨rfl, fun w' hS' => by go_simp⟩) hS0 ?_
      simp only [Act.put, List.getElem_toArray, List.getElem_cons_succ, List.getElem_cons_zero, List.setIfInBounds_toArray, List.set_cons_zero, List.set_cons_succ]
      refine wpW_take 1 _ (.int .i64 (k : Int)) rfl (by kernel_rfl) (by kernel_rfl) (by kernel_rfl) (fun _ _ _ h => h) (by kernel_rfl) (.inl ⟨rfl, fun w' hS' => by go_simp⟩) hS0 ?_
      simp only [Act.put, List.getElem_toArray, List.getElem_cons_succ, List.getElem_cons_zero, List.setIfInBounds_toArray, List.set_cons_zero, List.set_cons_succ]
      refine wpW_take 2 _ (.pointer (some ⟨b1, o1 + k * 9, none⟩)) rfl (by kernel_rfl) (by kernel_rfl) (by kernel_rfl) (fun _ _ _ h => h) (by kernel_rfl) (.inl ⟨rfl, fun w' hS' => by go_simp⟩) hS0 ?_
      simp only [Act.put, List.getElem_toArray, List.getElem_cons_succ, List.getElem_cons_zero, List.setIfInBounds_toArray, List.set_cons_zero, List.set_cons_succ]
      refine wpW_take 3 _ (.pointer (some ⟨b1, o1 + k * 9, none⟩)) rfl (by kernel_rfl) (by kernel_rfl) (by kernel_rfl) (fun _ _ _ h => h) (by kernel_rfl) (.inl ⟨rfl, fun w' hS' => by go_simp⟩) hS0 ?_
      simp only [Act.put, List.getElem_toArray, List.getElem_cons_succ, List.getElem_cons_zero, List.setIfInBounds_toArray, List.set_cons_zero, List.set_cons_succ]
      refine wpW_take 4 _ (.string x.key) rfl (by kernel_rfl) (by kernel_rfl) (by kernel_rfl) (fun _ _ _ h => h) (by kernel_rfl) (.inl ⟨rfl, fun w' hS' => by obtain ⟨s0, s1, s2, s3, s4, s5, s6, s7, s8, s9, s10, s11, s12, s13, s14, s15, s16, s17⟩ := hS'; go_simp⟩) hS0 ?_
      simp only [Act.put, List.getElem_toArray, List.getElem_cons_succ, List.getElem_cons_zero, List.setIfInBounds_toArray, List.set_cons_zero, List.set_cons_succ]
      refine wpW_take 5 _ (.slice (some ⟨b2, o2, none⟩) n cb) rfl (by kernel_rfl) (by kernel_rfl) (by kernel_rfl) (fun _ _ _ h => h) (by kernel_rfl) (.inl ⟨rfl, fun w' hS' => by go_simp⟩) hS0 ?_
      simp only [Act.put, List.getElem_toArray, List.getElem_cons_succ, List.getElem_cons_zero, List.setIfInBounds_toArray, List.set_cons_zero, List.set_cons_succ]
      refine wpW_take 6 _ (.int .i64 (k : Int)) rfl (by kernel_rfl) (by kernel_rfl) (by kernel_rfl) (fun _ _ _ h => h) (by kernel_rfl) (.inl ⟨rfl, fun w' hS' => by go_simp⟩) hS0 ?_
      simp only [Act.put, List.getElem_toArray, List.getElem_cons_succ, List.getElem_cons_zero, List.setIfInBounds_toArray, List.set_cons_zero, List.set_cons_succ]
      refine wpW_take 7 _ (.pointer (some ⟨b2, o2 + k * 9, none⟩)) rfl (by kernel_rfl) (by kernel_rfl) (by kernel_rfl) (fun _ _ _ h => h) (by kernel_rfl) (.inl ⟨rfl, fun w' hS' => by go_simp⟩) hS0 ?_
      simp only [Act.put, List.getElem_toArray, List.getElem_cons_succ, List.getElem_cons_zero, List.setIfInBounds_toArray, List.set_cons_zero, List.set_cons_succ]
      refine wpW_take 8 _ (.pointer (some ⟨b2, o2 + k * 9, none⟩)) rfl (by kernel_rfl) (by kernel_rfl) (by kernel_rfl) (fun _ _ _ h => h) (by kernel_rfl) (.inl ⟨rfl, fun w' hS' => by go_simp⟩) hS0 ?_
      simp only [Act.put, List.getElem_toArray, List.getElem_cons_succ, List.getElem_cons_zero, List.setIfInBounds_toArray, List.set_cons_zero, List.set_cons_succ]
      refine wpW_take 9 _ (.string x.key) rfl (by kernel_rfl) (by kernel_rfl) (by kernel_rfl) (fun _ _ _ h => h) (by kernel_rfl) (.inl ⟨rfl, fun w' hS' => by obtain ⟨s0, s1, s2, s3, s4, s5, s6, s7, s8, s9, s10, s11, s12, s13, s14, s15, s16, s17⟩ := hS'; go_simp⟩) hS0 ?_
      simp only [Act.put, List.getElem_toArray, List.getElem_cons_succ, List.getElem_cons_zero, List.setIfInBounds_toArray, List.set_cons_zero, List.set_cons_succ]
      refine wpW_take 10 _ (.bool false) rfl (by kernel_rfl) (by kernel_rfl) (by kernel_rfl) (fun _ _ _ h => h) (by kernel_rfl) (.inl ⟨rfl, fun w' hS' => by go_simp⟩) hS0 ?_
      simp only [Act.put, List.getElem_toArray, List.getElem_cons_succ, List.getElem_cons_zero, List.setIfInBounds_toArray, List.set_cons_zero, List.set_cons_succ]
      refine wpW_take 11 _ (.bool false) rfl (by kernel_rfl) (by kernel_rfl) (by kernel_rfl) (fun _ _ _ h => h) (by kernel_rfl) (.inl ⟨rfl, fun w' hS' => by go_simp⟩) hS0 ?_
      simp only [Act.put, List.getElem_toArray, List.getElem_cons_succ, List.getElem_cons_zero, List.setIfInBounds_toArray, List.set_cons_zero, List.set_cons_succ]
      refine wpW_take 12 _ (.slice (some ⟨b1, o1, none⟩) n ca) rfl (by kernel_rfl) (by kernel_rfl) (by kernel_rfl) (fun _ _ _ h => h) (by kernel_rfl) (.inl ⟨rfl, fun w' hS' => by go_simp⟩) hS0 ?_
      simp only [Act.put, List.getElem_toArray, List.getElem_cons_succ, List.getElem_cons_zero, List.setIfInBounds_toArray, List.set_cons_zero, List.set_cons_succ]
      refine wpW_take 13 _ (.int .i64 (k : Int)) rfl (by kernel_rfl) (by kernel_rfl) (by kernel_rfl) (fun _ _ _ h => h) (by kernel_rfl) (.inl ⟨rfl, fun w' hS' => by go_simp⟩) hS0 ?_
      simp only [Act.put, List.getElem_toArray, List.getElem_cons_succ, List.getElem_cons_zero, List.setIfInBounds_toArray, List.set_cons_zero, List.set_cons_succ]
      refine wpW_take 14 _ (.pointer (some ⟨b1, o1 + k * 9, none⟩)) rfl (by kernel_rfl) (by kernel_rfl) (by kernel_rfl) (fun _ _ _ h => h) (by kernel_rfl) (.inl ⟨rfl, fun w' hS' => by go_simp⟩) hS0 ?_
      simp only [Act.put, List.getElem_toArray, List.getElem_cons_succ, List.getElem_cons_zero, List.setIfInBounds_toArray, List.set_cons_zero, List.set_cons_succ]
      refine wpW_take 15 _ (.pointer (some ⟨b1, o1 + k * 9 + 1, none⟩)) rfl (by kernel_rfl) (by kernel_rfl) (by kernel_rfl) (fun _ _ _ h => h) (by kernel_rfl) (.inl ⟨rfl, fun w' hS' => by go_simp⟩) hS0 ?_
      simp only [Act.put, List.getElem_toArray, List.getElem_cons_succ, List.getElem_cons_zero, List.setIfInBounds_toArray, List.set_cons_zero, List.set_cons_succ]
      refine wpW_take 16 _ (.int .i64 x.seq) rfl (by kernel_rfl) (by kernel_rfl) (by kernel_rfl) (fun _ _ _ h => h) (by kernel_rfl) (.inl ⟨rfl, fun w' hS' => by obtain ⟨s0, s1, s2, s3, s4, s5, s6, s7, s8, s9, s10, s11, s12, s13, s14, s15, s16, s17⟩ := hS'; go_simp⟩) hS0 ?_
      simp only [Act.put, List.getElem_toArray, List.getElem_cons_succ, List.getElem_cons_zero, List.setIfInBounds_toArray, List.set_cons_zero, List.set_cons_succ]
      refine wpW_take 17 _ (.slice (some ⟨b2, o2, none⟩) n cb) rfl (by kernel_rfl) (by kernel_rfl) (by kernel_rfl) (fun _ _ _ h => h) (by kernel_rfl) (.inl ⟨rfl, fun w' hS' => by go_simp⟩) hS0 ?_
      simp only [Act.put, List.getElem_toArray, List.getElem_cons_succ, List.getElem_cons_zero, List.setIfInBounds_toArray, List.set_cons_zero, List.set_cons_succ]
      refine wpW_take 18 _ (.int .i64 (k : Int)) rfl (by kernel_rfl) (by kernel_rfl) (by kernel_rfl) (fun _ _ _ h => h) (by kernel_rfl) (.inl ⟨rfl, fun w' hS' => by go_simp⟩) hS0 ?_
      simp only [Act.put, List.getElem_toArray, List.getElem_cons_succ, List.getElem_cons_zero, List.setIfInBounds_toArray, List.set_cons_zero, List.set_cons_succ]
      refine wpW_take 19 _ (.pointer (some ⟨b2, o2 + k * 9, none⟩)) rfl (by kernel_rfl) (by kernel_rfl) (by kernel_rfl) (fun _ _ _ h => h) (by kernel_rfl) (.inl ⟨rfl, fun w' hS' => by go_simp⟩) hS0 ?_
      simp only [Act.put, List.getElem_toArray, List.getElem_cons_succ, List.getElem_cons_zero, List.setIfInBounds_toArray, List.set_cons_zero, List.set_cons_succ]
      refine wpW_take 20 _ (.pointer (some ⟨b2, o2 + k * 9 + 1, none⟩)) rfl (by kernel_rfl) (by kernel_rfl) (by kernel_rfl) (fun _ _ _ h => h) (by kernel_rfl) (.inl ⟨rfl, fun w' hS' => by go_simp⟩) hS0 ?_
      simp only [Act.put, List.getElem_toArray, List.getElem_cons_succ, List.getElem_cons_zero, List.setIfInBounds_toArray, List.set_cons_zero, List.set_cons_succ]
      refine wpW_take 21 _ (.int .i64 x.seq) rfl (by kernel_rfl) (by kernel_rfl) (by kernel_rfl) (fun _ _ _ h => h) (by kernel_rfl) (.inl ⟨rfl, fun w' hS' => by obtain ⟨s0, s1, s2, s3, s4, s5, s6, s7, s8, s9, s10, s11, s12, s13, s14, s15, s16, s17⟩ := hS'; go_simp⟩) hS0 ?_
      simp only [Act.put, List.getElem_toArray, List.getElem_cons_succ, List.getElem_cons_zero, List.setIfInBounds_toArray, List.set_cons_zero, List.set_cons_succ]
      refine wpW_take 22 _ (.bool false) rfl (by kernel_rfl) (by kernel_rfl) (by kernel_rfl) (fun _ _ _ h => h) (by kernel_rfl) (.inl ⟨rfl, fun w' hS' => by go_simp⟩) hS0 ?_
      simp only [Act.put, List.getElem_toArray, List.getElem_cons_succ, List.getElem_cons_zero, List.setIfInBounds_toArray, List.set_cons_zero, List.set_cons_succ]
      refine wpW_take 23 _ (.bool false) rfl (by kernel_rfl) (by kernel_rfl) (by kernel_rfl) (fun _ _ _ h => h) (by kernel_rfl) (.inl ⟨rfl, fun w' hS' => by go_simp⟩) hS0 ?_
      simp only [Act.put, List.getElem_toArray, List.getElem_cons_succ, List.getElem_cons_zero, List.setIfInBounds_toArray, List.set_cons_zero, List.set_cons_succ]
      refine wpW_take 24 _ (.bool false) rfl (by kernel_rfl) (by kernel_rfl) (by kernel_rfl) (fun _ _ _ h => h) (by kernel_rfl) (.inl ⟨rfl, fun w' hS' => by go_simp⟩) hS0 ?_
      simp only [Act.put, List.getElem_toArray, List.getElem_cons_succ, List.getElem_cons_zero, List.setIfInBounds_toArray, List.set_cons_zero, List.set_cons_succ]
      refine wpW_take 25 _ (.slice (some ⟨b1, o1, none⟩) n ca) rfl (by kernel_rfl) (by kernel_rfl) (by kernel_rfl) (fun _ _ _ h => h) (by kernel_rfl) (.inl ⟨rfl, fun w' hS' => by go_simp⟩) hS0 ?_
      simp only [Act.put, List.getElem_toArray, List.getElem_cons_succ, List.getElem_cons_zero, List.setIfInBounds_toArray, List.set_cons_zero, List.set_cons_succ]
      refine wpW_take 26 _ (.int .i64 (k : Int)) rfl (by kernel_rfl) (by kernel_rfl) (by kernel_rfl) (fun _ _ _ h => h) (by kernel_rfl) (.inl ⟨rfl, fun w' hS' => by go_simp⟩) hS0 ?_
      simp only [Act.put, List.getElem_toArray, List.getElem_cons_succ, List.getElem_cons_zero, List.setIfInBounds_toArray, List.set_cons_zero, List.set_cons_succ]
      refine wpW_take 27 _ (.pointer (some ⟨b1, o1 + k * 9, none⟩)) rfl (by kernel_rfl) (by kernel_rfl) (by kernel_rfl) (fun _ _ _ h => h) (by kernel_rfl) (.inl ⟨rfl, fun w' hS' => by go_simp⟩) hS0 ?_
      simp only [Act.put, List.getElem_toArray, List.getElem_cons_succ, List.getElem_cons_zero, List.setIfInBounds_toArray, List.set_cons_zero, List.set_cons_succ]
      refine wpW_take 28 _ (.pointer (some ⟨b1, o1 + k * 9 + 2, none⟩)) rfl (by kernel_rfl) (by kernel_rfl) (by kernel_rfl) (fun _ _ _ h => h) (by kernel_rfl) (.inl ⟨rfl, fun w' hS' => by go_simp⟩) hS0 ?_
      simp only [Act.put, List.getElem_toArray, List.getElem_cons_succ, List.getElem_cons_zero, List.setIfInBounds_toArray, List.set_cons_zero, List.set_cons_succ]
      refine wpW_take 29 _ (.int .i64 x.kind) rfl (by kernel_rfl) (by kernel_rfl) (by kernel_rfl) (fun _ _ _ h => h) (by kernel_rfl) (.inl ⟨rfl, fun w' hS' => by obtain ⟨s0, s1, s2, s3, s4, s5, s6, s7, s8, s9, s10, s11, s12, s13, s14, s15, s16, s17⟩ := hS'; go_simp⟩) hS0 ?_
      simp only [Act.put, List.getElem_toArray, List.getElem_cons_succ, List.getElem_cons_zero, List.setIfInBounds_toArray, List.set_cons_zero, List.set_cons_succ]
      refine wpW_take 30 _ (.slice (some ⟨b2, o2, none⟩) n cb) rfl (by kernel_rfl) (by kernel_rfl) (by kernel_rfl) (fun _ _ _ h => h) (by kernel_rfl) (.inl ⟨rfl, fun w' hS' => by go_simp⟩) hS0 ?_
      simp only [Act.put, List.getElem_toArray, List.getElem_cons_succ, List.getElem_cons_zero, List.setIfInBounds_toArray, List.set_cons_zero, List.set_cons_succ]
      refine wpW_take 31 _ (.int .i64 (k : Int)) rfl (by kernel_rfl) (by kernel_rfl) (by kernel_rfl) (fun _ _ _ h => h) (by kernel_rfl) (.inl ⟨rfl, fun w' hS' => by go_simp⟩) hS0 ?_
      simp only [Act.put, List.getElem_toArray, List.getElem_cons_succ, List.getElem_cons_zero, List.setIfInBounds_toArray, List.set_cons_zero, List.set_cons_succ]
      refine wpW_take 32 _ (.pointer (some ⟨b2, o2 + k * 9, none⟩)) rfl (by kernel_rfl) (by kernel_rfl) (by kernel_rfl) (fun _ _ _ h => h) (by kernel_rfl) (.inl ⟨rfl, fun w' hS' => by go_simp⟩) hS0 ?_
      simp only [Act.put, List.getElem_toArray, List.getElem_cons_succ, List.getElem_cons_zero, List.setIfInBounds_toArray, List.set_cons_zero, List.set_cons_succ]
      refine wpW_take 33 _ (.pointer (some ⟨b2, o2 + k * 9 + 2, none⟩)) rfl (by kernel_rfl) (by kernel_rfl) (by kernel_rfl) (fun _ _ _ h => h) (by kernel_rfl) (.inl ⟨rfl, fun w' hS' => by go_simp⟩) hS0 ?_
      simp only [Act.put, List.getElem_toArray, List.getElem_cons_succ, List.getElem_cons_zero, List.setIfInBounds_toArray, List.set_cons_zero, List.set_cons_succ]
      refine wpW_take 34 _ (.int .i64 x.kind) rfl (by kernel_rfl) (by kernel_rfl) (by kernel_rfl) (fun _ _ _ h => h) (by kernel_rfl) (.inl ⟨rfl, fun w' hS' => by obtain ⟨s0, s1, s2, s3, s4, s5, s6, s7, s8, s9, s10, s11, s12, s13, s14, s15, s16, s17⟩ := hS'; go_simp⟩) hS0 ?_
      simp only [Act.put, List.getElem_toArray, List.getElem_cons_succ, List.getElem_cons_zero, List.setIfInBounds_toArray, List.set_cons_zero, List.set_cons_succ]
      refine wpW_take 35 _ (.bool false) rfl (by kernel_rfl) (by kernel_rfl) (by kernel_rfl) (fun _ _ _ h => h) (by kernel_rfl) (.inl ⟨rfl, fun w' hS' => by go_simp⟩) hS0 ?_
      simp only [Act.put, List.getElem_toArray, List.getElem_cons_succ, List.getElem_cons_zero, List.setIfInBounds_toArray, List.set_cons_zero, List.set_cons_succ]
      refine wpW_take 36 _ (.bool false) rfl (by kernel_rfl) (by kernel_rfl) (by kernel_rfl) (fun _ _ _ h => h) (by kernel_rfl) (.inl ⟨rfl, fun w' hS' => by go_simp⟩) hS0 ?_
      simp only [Act.put, List.getElem_toArray, List.getElem_cons_succ, List.getElem_cons_zero, List.setIfInBounds_toArray, List.set_cons_zero, List.set_cons_succ]
      refine wpW_take 37 _ (.bool false) rfl (by kernel_rfl) (by kernel_rfl) (by kernel_rfl) (fun _ _ _ h => h) (by kernel_rfl) (.inl ⟨rfl, fun w' hS' => by go_simp⟩) hS0 ?_
      simp only [Act.put, List.getElem_toArray, List.getElem_cons_succ, List.getElem_cons_zero, List.setIfInBounds_toArray, List.set_cons_zero, List.set_cons_succ]
      refine wpW_take 38 _ (.slice (some ⟨b1, o1, none⟩) n ca) rfl (by kernel_rfl) (by kernel_rfl) (by kernel_rfl) (fun _ _ _ h => h) (by kernel_rfl) (.inl ⟨rfl, fun w' hS' => by go_simp⟩) hS0 ?_
      simp only [Act.put, List.getElem_toArray, List.getElem_cons_succ, List.getElem_cons_zero, List.setIfInBounds_toArray, List.set_cons_zero, List.set_cons_succ]
      refine wpW_take 39 _ (.int .i64 (k : Int)) rfl (by kernel_rfl) (by kernel_rfl) (by kernel_rfl) (fun _ _ _ h => h) (by kernel_rfl) (.inl ⟨rfl, fun w' hS' => by go_simp⟩) hS0 ?_
      simp only [Act.put, List.getElem_toArray, List.getElem_cons_succ, List.getElem_cons_zero, List.setIfInBounds_toArray, List.set_cons_zero, List.set_cons_succ]
      refine wpW_take 40 _ (.pointer (some ⟨b1, o1 + k * 9, none⟩)) rfl (by kernel_rfl) (by kernel_rfl) (by kernel_rfl) (fun _ _ _ h => h) (by kernel_rfl) (.inl ⟨rfl, fun w' hS' => by go_simp⟩) hS0 ?_
      simp only [Act.put, List.getElem_toArray, List.getElem_cons_succ, List.getElem_cons_zero, List.setIfInBounds_toArray, List.set_cons_zero, List.set_cons_succ]
      refine wpW_take 41 _ (.pointer (some ⟨b1, o1 + k * 9 + 3, none⟩)) rfl (by kernel_rfl) (by kernel_rfl) (by kernel_rfl) (fun _ _ _ h => h) (by kernel_rfl) (.inl ⟨rfl, fun w' hS' => by go_simp⟩) hS0 ?_
      simp only [Act.put, List.getElem_toArray, List.getElem_cons_succ, List.getElem_cons_zero, List.setIfInBounds_toArray, List.set_cons_zero, List.set_cons_succ]
      refine wpW_take 42 _ (.agg #[.int .i64 x.c, .int .i64 x.s, .int .i64 x.lo, .int .i64 x.hi, .slice da x.n dc, .bool x.fu]) rfl (by kernel_rfl) (by kernel_rfl) (by kernel_rfl) (fun _ _ _ h => h) (by kernel_rfl) (.inl ⟨rfl, fun w' hS' => by obtain ⟨s0, s1, s2, s3, s4, s5, s6, s7, s8, s9, s10, s11, s12, s13, s14, s15, s16, s17⟩ := hS'; go_simp⟩) hS0 ?_
      simp only [Act.put, List.getElem_toArray, List.getElem_cons_succ, List.getElem_cons_zero, List.setIfInBounds_toArray, List.set_cons_zero, List.set_cons_succ]
      refine wpW_take 43 _ (.slice (some ⟨b2, o2, none⟩) n cb) rfl (by kernel_rfl) (by kernel_rfl) (by kernel_rfl) (fun _ _ _ h => h) (by kernel_rfl) (.inl ⟨rfl, fun w' hS' => by go_simp⟩) hS0 ?_
      simp only [Act.put, List.getElem_toArray, List.getElem_cons_succ, List.getElem_cons_zero, List.setIfInBounds_toArray, List.set_cons_zero, List.set_cons_succ]
      refine wpW_take 44 _ (.int .i64 (k : Int)) rfl (by kernel_rfl) (by kernel_rfl) (by kernel_rfl) (fun _ _ _ h => h) (by kernel_rfl) (.inl ⟨rfl, fun w' hS' => by go_simp⟩) hS0 ?_
      simp only [Act.put, List.getElem_toArray, List.getElem_cons_succ, List.getElem_cons_zero, List.setIfInBounds_toArray, List.set_cons_zero, List.set_cons_succ]
      refine wpW_take 45 _ (.pointer (some ⟨b2, o2 + k * 9, none⟩)) rfl (by kernel_rfl) (by kernel_rfl) (by kernel_rfl) (fun _ _ _ h => h) (by kernel_rfl) (.inl ⟨rfl, fun w' hS' => by go_simp⟩) hS0 ?_
      simp only [Act.put, List.getElem_toArray, List.getElem_cons_succ, List.getElem_cons_zero, List.setIfInBounds_toArray, List.set_cons_zero, List.set_cons_succ]
      refine wpW_take 46 _ (.pointer (some ⟨b2, o2 + k * 9 + 3, none⟩)) rfl (by kernel_rfl) (by kernel_rfl) (by kernel_rfl) (fun _ _ _ h => h) (by kernel_rfl) (.inl ⟨rfl, fun w' hS' => by go_simp⟩) hS0 ?_
      simp only [Act.put, List.getElem_toArray, List.getElem_cons_succ, List.getElem_cons_zero, List.setIfInBounds_toArray, List.set_cons_zero, List.set_cons_succ]
      refine wpW_take 47 _ (.agg #[.int .i64 x.c, .int .i64 x.s, .int .i64 x.lo, .int .i64 x.hi, .slice ea x.n ec, .bool x.fu]) rfl (by kernel_rfl) (by kernel_rfl) (by kernel_rfl) (fun _ _ _ h => h) (by kernel_rfl) (.inl ⟨rfl, fun w' hS' => by obtain ⟨s0, s1, s2, s3, s4, s5, s6, s7, s8, s9, s10, s11, s12, s13, s14, s15, s16, s17⟩ := hS'; go_simp⟩) hS0 ?_
      simp only [Act.put, List.getElem_toArray, List.getElem_cons_succ, List.getElem_cons_zero, List.setIfInBounds_toArray, List.set_cons_zero, List.set_cons_succ]
      refine wpW_one 48 _ rfl (by kernel_rfl) (step_wanted rfl (op_call 31 #[.agg #[.int .i64 x.c, .int .i64 x.s, .int .i64 x.lo, .int .i64 x.hi, .slice da x.n dc, .bool x.fu], .agg #[.int .i64 x.c, .int .i64 x.s, .int .i64 x.lo, .int .i64 x.hi, .slice ea x.n ec, .bool x.fu]] _ (by go_simp) (sameAggs_any x da ea dc ec _ ((r1.keep hbk).keep (Below.refl _ wr).drew) ((r2.keep hbk).keep (Below.refl _ wr).drew) hzk.2) ?_))
      rintro e w6 ⟨rfl, q6⟩
      have bw6 : Below w.heap.size w w6 := hbk.drew.trans (q6.mono (by show w.heap.size ≤ wr.heap.size; exact hbk.size))
      have hS6 : (fun W : World => W.cell? ⟨b1, o1 + k * 9, none⟩ = some (.string x.key) ∧ W.cell? ⟨b1, o1 + k * 9 + 1, none⟩ = some (.int .i64 x.seq) ∧ W.cell? ⟨b1, o1 + k * 9 + 2, none⟩ = some (.int .i64 x.kind) ∧ W.cell? ⟨b1, o1 + k * 9 + 3, none⟩ = some (.int .i64 x.c) ∧ W.cell? ⟨b1, o1 + k * 9 + 4, none⟩ = some (.int .i64 x.s) ∧ W.cell? ⟨b1, o1 + k * 9 + 5, none⟩ = some (.int .i64 x.lo) ∧ W.cell? ⟨b1, o1 + k * 9 + 6, none⟩ = some (.int .i64 x.hi) ∧ W.cell? ⟨b1, o1 + k * 9 + 7, none⟩ = some (.slice da x.n dc) ∧ W.cell? ⟨b1, o1 + k * 9 + 8, none⟩ = some (.bool x.fu) ∧ W.cell? ⟨b2, o2 + k * 9, none⟩ = some (.string x.key) ∧ W.cell? ⟨b2, o2 + k * 9 + 1, none⟩ = some (.int .i64 x.seq) ∧ W.cell? ⟨b2, o2 + k * 9 + 2, none⟩ = some (.int .i64 x.kind) ∧ W.cell? ⟨b2, o2 + k * 9 + 3, none⟩ = some (.int .i64 x.c) ∧ W.cell? ⟨b2, o2 + k * 9 + 4, none⟩ = some (.int .i64 x.s) ∧ W.cell? ⟨b2, o2 + k * 9 + 5, none⟩ = some (.int .i64 x.lo) ∧ W.cell? ⟨b2, o2 + k * 9 + 6, none⟩ = some (.int .i64 x.hi) ∧ W.cell? ⟨b2, o2 + k * 9 + 7, none⟩ = some (.slice ea x.n ec) ∧ W.cell? ⟨b2, o2 + k * 9 + 8, none⟩ = some (.bool x.fu)) w6 := by
        obtain ⟨_, e0, e1, e2, e3, e4, e5, e6, e7, e8⟩ := ((E1.keep hbk).keep (Below.refl _ wr).drew).keep q6
        obtain ⟨_, f0, f1, f2, f3, f4, f5, f6, f7, f8⟩ := ((E2.keep hbk).keep (Below.refl _ wr).drew).keep q6
        exact ⟨e0, e1, e2, e3, e4, e5, e6, e7, e8, f0, f1, f2, f3, f4, f5, f6, f7, f8⟩
      refine ⟨_, rfl, fun _ => hS6, ?_⟩
      simp only [Act.put, List.getElem_toArray, List.getElem_cons_succ, List.getElem_cons_zero, List.setIfInBounds_toArray, List.set_cons_zero, List.set_cons_succ]
      refine wpW_one 49 _ rfl (by kernel_rfl) (step_wanted rfl (op_val (.bool false) (w' := w6) (by go_simp) ?_))
      refine ⟨fun _ => hS6, ?_⟩
      simp only [Act.put, List.getElem_toArray, List.getElem_cons_succ, List.getElem_cons_zero, List.setIfInBounds_toArray, List.set_cons_zero, List.set_cons_succ]
      refine wpW_one 50 _ rfl (by kernel_rfl) (step_wanted rfl (op_val (.bool false) (w' := w6) (by go_simp) ?_))
      refine ⟨fun _ => hS6, ?_⟩
      simp only [Act.put, List.getElem_toArray, List.getElem_cons_succ, List.getElem_cons_zero, List.setIfInBounds_toArray, List.set_cons_zero, List.set_cons_succ]
      refine wpW_done (by kernel_rfl) ?_
      clear hS0 hS6 E1 E2 r1 r2 q6
      go_wp2
      go_roundw
      case rel => exact ⟨k + 1, by omega, by go_num, bw6⟩
      case measure => simp [intOf]; omega
    · obtain rfl : k = n := by omega
      have hkd : decide ((k : Int) < (k : Int)) = false := decide_eq_false (by omega)
      go_wp2
      go_ret
      exact ⟨rfl, hbk⟩
end Go.Proofs.YtohjjigkfdhklaaGreat
