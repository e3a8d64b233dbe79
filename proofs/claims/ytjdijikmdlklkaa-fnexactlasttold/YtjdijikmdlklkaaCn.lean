/- Keys and aggs copied, in both texts. / Keys and aggs copied, in the model; windows and boards copied there. / Boards copied, in the model. -/
import Derived.Test.YtjdijikmdlklkaaBa
namespace Go.Proofs.Ytjdijikmdlklkaa
open Go.RowKit
set_option linter.unusedSimpArgs false
set_option linter.unusedVariables false

theorem Try.infoTag : (Try.prog.info? 63).map (fun i => (i.zero, i.size, i.bytes)) = some (some (.agg #[.string ByteArray.empty, .string ByteArray.empty]), 2, 32) := by kernel_rfl

/-- Tags copied behind what is empty. -/
theorem wpList_copyT {w : World} {ops : Array Oper} {rest : List Oper} {o : Oper} {a : Act} {Q : Exit → Act → World → Prop} (hgd : o.guard = none) (s y : Operand)
    (ho : o.op = .call { callee := .builtin .append, args := #[s, y], argTypes := #[40, 40] })
    (base : Nat) (v0 : Value) (hs : a.eval s = v0) (h0 : w.ownsRow base 63 2 v0 0 []) (ao : Option Addr) (n hc : Nat) (nm vl : Nat → ByteArray) (hy : a.eval y = .slice ao n hc) (hr : TRow w ao n nm vl) (hn : n ≤ 1048576) (hbase : base ≤ w.heap.size)
    (hk : ∀ hv w', w'.ownsRow base 63 2 hv n (tcells nm vl n) → w.grownBy w' v0.ownBlock → wpList Try.prog ops Q rest (a.put o.dst hv) w') : wpList Try.prog ops Q (o :: rest) a w := by
  obtain ⟨i0, hi, hz0, hz1, hz2⟩ := info_parts Try.infoTag
  obtain ⟨hv, w', hrun, h1, h2, h3⟩ := copy_any (P := Try.prog) w base 40 63 i0 _ 2 32 Try.underlying40 hi hz0 hz1 hz2 rfl (by decide) (by decide) v0 h0 ao n hc (tcells nm vl n) (tcells_len _ _ _) (tcells_read hr) (tcells_one _ _ _) hn hbase o.type
  exact wpList_append_eq w hgd s y 40 o.type ho rfl v0 (.slice ao n hc) hv hs hy w' hrun (hk hv w' h1 h2)
/-- Ints copied behind what is empty. -/
theorem wpList_copyI {w : World} {ops : Array Oper} {rest : List Oper} {o : Oper} {a : Act} {Q : Exit → Act → World → Prop} (hgd : o.guard = none) (s y : Operand)
    (ho : o.op = .call { callee := .builtin .append, args := #[s, y], argTypes := #[35, 35] })
    (base : Nat) (v0 : Value) (hs : a.eval s = v0) (h0 : w.ownsRow base 3 1 v0 0 []) (ao : Option Addr) (n hc : Nat) (f : Nat → Int) (hy : a.eval y = .slice ao n hc) (hr : IRow w ao n f) (hn : n ≤ 1048576) (hbase : base ≤ w.heap.size)
    (hk : ∀ hv w', w'.ownsRow base 3 1 hv n (icells f n) → w.grownBy w' v0.ownBlock → wpList Try.prog ops Q rest (a.put o.dst hv) w') : wpList Try.prog ops Q (o :: rest) a w := by
  obtain ⟨i0, hi, hz0, hz1, hz2⟩ := info_parts Try.infoInt
  obtain ⟨hv, w', hrun, h1, h2, h3⟩ := copy_any (P := Try.prog) w base 35 3 i0 _ 1 8 Try.underlying35 hi hz0 hz1 hz2 rfl (by decide) (by decide) v0 h0 ao n hc (icells f n) (by simp [icells]) (icells_read hr) (icells_one _ _) hn hbase o.type
  exact wpList_append_eq w hgd s y 35 o.type ho rfl v0 (.slice ao n hc) hv hs hy w' hrun (hk hv w' h1 h2)

/-- What a copied key is. -/
def KCo (m : ByteArray) (st : Int) (n : Nat) (nm vl : Nat → ByteArray) (w : World) (e : Ending) (w' : World) : Prop :=
  ∃ hv, e = .returned (.agg #[.string m, hv, .int .i64 st]) ∧ w'.ownsRow w.heap.size 63 2 hv n (tcells nm vl n) ∧ Below w.heap.size w w'
/-- What a copied agg is. -/
def ACo (c s lo hi : Int) (n : Nat) (f : Nat → Int) (fu : Bool) (w : World) (e : Ending) (w' : World) : Prop :=
  ∃ hv, e = .returned (.agg #[.int .i64 c, .int .i64 s, .int .i64 lo, .int .i64 hi, hv, .bool fu]) ∧ w'.ownsRow w.heap.size 3 1 hv n (icells f n) ∧ Below w.heap.size w w'

theorem grown_none {w w' : World} (h : w.grownBy w' none) : Below w.heap.size w w' := (Below.refl _ _).grown h (Nat.le_refl _) (fun k hk => by cases hk)
theorem grown_old {w w' : World} {B d : Nat} (h : w.grownBy w' (some d)) (hd : B ≤ d) (hB : B ≤ w.heap.size) : Below B w w' := (Below.refl _ _).grown h hB (fun k hk => by injection hk with hk; omega)

set_option maxHeartbeats 1600000 in
theorem copyKey_any (m : ByteArray) (st : Int) (ao : Option Addr) (n cap : Nat) (nm vl : Nat → ByteArray) (w : World) (hr : TRow w ao n nm vl) (hn : n ≤ 1048576) :
    Calls Try.prog 43 #[.agg #[.string m, .slice ao n cap, .int .i64 st]] w fun e w' => KCo m st n nm vl w e w' := by
  go_enter Try.func43, Try.ntmps43
  go_wp2_with (at_builtin; refine wpList_copyT rfl _ _ rfl (w.heap.size + 2) (.slice none 0 0) rfl (World.ownsRow_nil _ _ _ _) ao n cap nm vl rfl (hr.keep (((Below.refl _ _).alloc (Nat.le_refl _) _).alloc (by simp) _)) hn (by simp) ?_; intro hv w1 hown hg; obtain ⟨ha, hcp, rfl⟩ := ownsRow_form hown; have hb1 := grown_none hg; have c0 := hb1.cell (p := ⟨w.heap.size, 0, none⟩) (by first | (simp; done) | (simp; omega)); have c1 := hb1.cell (p := ⟨w.heap.size, 1, none⟩) (by first | (simp; done) | (simp; omega)); have c2 := hb1.cell (p := ⟨w.heap.size, 2, none⟩) (by first | (simp; done) | (simp; omega)); have f1 := hb1.frozen (p := ⟨w.heap.size, 1, none⟩) (by first | (simp; done) | (simp; omega)); have d0 := hb1.cell (p := ⟨w.heap.size + 1, 0, none⟩) (by first | (simp; done) | (simp; omega)); have d1 := hb1.cell (p := ⟨w.heap.size + 1, 1, none⟩) (by first | (simp; done) | (simp; omega)); have d2 := hb1.cell (p := ⟨w.heap.size + 1, 2, none⟩) (by first | (simp; done) | (simp; omega)); have g : ∀ j, w1.frozen? ⟨w.heap.size + 1, j, none⟩ = false := fun j => (hb1.frozen (p := ⟨w.heap.size + 1, j, none⟩) (by first | (simp; done) | (simp; omega))).trans (by simp [go_sem]); simp [go_sem] at c0 c1 c2 f1 d0 d1 d2; have bw : Below w.heap.size w w1 := (((Below.refl _ _).alloc (Nat.le_refl _) _).alloc (by simp) _).trans (hb1.mono (by first | (simp; done) | (simp; omega))); clear hb1 hg)
  have hne : ∀ d, d < w.heap.size + 2 → (Value.slice ha n hcp).ownBlock ≠ some d := fun d hd hk => by have := (hown.lt d hk).1; omega
  refine bodyPost_ret (v := .agg #[.string m, .slice ha n hcp, .int .i64 st]) (by simp [results, Try.results43, go_sem, c0, c1, c2, d0, d1, d2]) rfl ⟨.slice ha n hcp, rfl, ownsRow_mono ?_ (by omega : w.heap.size ≤ w.heap.size + 2), ?_⟩
  · repeat' refine ownsRow_others ?_ (Others.setCell _ _ _ _) (hne _ (by omega))
    exact hown
  · repeat' refine Below.setCell ?_ (by first | (simp; done) | (simp; omega)) _
    exact bw

set_option maxHeartbeats 1600000 in
theorem copyAgg_any (c s lo hi : Int) (ao : Option Addr) (n cap : Nat) (f : Nat → Int) (fu : Bool) (w : World) (hr : IRow w ao n f) (hn : n ≤ 1048576) :
    Calls Try.prog 44 #[.agg #[.int .i64 c, .int .i64 s, .int .i64 lo, .int .i64 hi, .slice ao n cap, .bool fu]] w fun e w' => ACo c s lo hi n f fu w e w' := by
  go_enter Try.func44, Try.ntmps44
  go_wp2_with (at_builtin; refine wpList_copyI rfl _ _ rfl (w.heap.size + 2) (.slice none 0 0) rfl (World.ownsRow_nil _ _ _ _) ao n cap f rfl (hr.keep (((Below.refl _ _).alloc (Nat.le_refl _) _).alloc (by simp) _)) hn (by simp) ?_; intro hv w1 hown hg; obtain ⟨ha, hcp, rfl⟩ := ownsRow_form hown; have hb1 := grown_none hg; have c0 := hb1.cell (p := ⟨w.heap.size, 0, none⟩) (by first | (simp; done) | (simp; omega)); have c1 := hb1.cell (p := ⟨w.heap.size, 1, none⟩) (by first | (simp; done) | (simp; omega)); have c2 := hb1.cell (p := ⟨w.heap.size, 2, none⟩) (by first | (simp; done) | (simp; omega)); have c3 := hb1.cell (p := ⟨w.heap.size, 3, none⟩) (by first | (simp; done) | (simp; omega)); have c4 := hb1.cell (p := ⟨w.heap.size, 4, none⟩) (by first | (simp; done) | (simp; omega)); have c5 := hb1.cell (p := ⟨w.heap.size, 5, none⟩) (by first | (simp; done) | (simp; omega)); have f4 := hb1.frozen (p := ⟨w.heap.size, 4, none⟩) (by first | (simp; done) | (simp; omega)); have d0 := hb1.cell (p := ⟨w.heap.size + 1, 0, none⟩) (by first | (simp; done) | (simp; omega)); have d1 := hb1.cell (p := ⟨w.heap.size + 1, 1, none⟩) (by first | (simp; done) | (simp; omega)); have d2 := hb1.cell (p := ⟨w.heap.size + 1, 2, none⟩) (by first | (simp; done) | (simp; omega)); have d3 := hb1.cell (p := ⟨w.heap.size + 1, 3, none⟩) (by first | (simp; done) | (simp; omega)); have d4 := hb1.cell (p := ⟨w.heap.size + 1, 4, none⟩) (by first | (simp; done) | (simp; omega)); have d5 := hb1.cell (p := ⟨w.heap.size + 1, 5, none⟩) (by first | (simp; done) | (simp; omega)); have g : ∀ j, w1.frozen? ⟨w.heap.size + 1, j, none⟩ = false := fun j => (hb1.frozen (p := ⟨w.heap.size + 1, j, none⟩) (by first | (simp; done) | (simp; omega))).trans (by simp [go_sem]); simp [go_sem] at c0 c1 c2 c3 c4 c5 f4 d0 d1 d2 d3 d4 d5; have bw : Below w.heap.size w w1 := (((Below.refl _ _).alloc (Nat.le_refl _) _).alloc (by simp) _).trans (hb1.mono (by first | (simp; done) | (simp; omega))); clear hb1 hg)
  have hne : ∀ d, d < w.heap.size + 2 → (Value.slice ha n hcp).ownBlock ≠ some d := fun d hd hk => by have := (hown.lt d hk).1; omega
  refine bodyPost_ret (v := .agg #[.int .i64 c, .int .i64 s, .int .i64 lo, .int .i64 hi, .slice ha n hcp, .bool fu]) (by simp [results, Try.results44, go_sem, c0, c1, c2, c3, c4, c5, d0, d1, d2, d3, d4, d5]) rfl ⟨.slice ha n hcp, rfl, ownsRow_mono ?_ (by omega : w.heap.size ≤ w.heap.size + 2), ?_⟩
  · repeat' refine ownsRow_others ?_ (Others.setCell _ _ _ _) (hne _ (by omega))
    exact hown
  · repeat' refine Below.setCell ?_ (by first | (simp; done) | (simp; omega)) _
    exact bw
end Go.Proofs.Ytjdijikmdlklkaa
namespace Go.Proofs.Ytjdijikmdlklkaa
open Go.RowKit
set_option linter.unusedSimpArgs false
set_option linter.unusedVariables false

theorem heap_alloc_new (w : World) (o : Obj) : (w.alloc o).heap[w.heap.size]? = some o := by
  show (w.heap.push o)[w.heap.size]? = some o
  simp
theorem empty_own2 (w : World) (T size B : Nat) (hB : B ≤ w.heap.size) (n : Nat) (hn : n = w.heap.size) : (w.alloc (.cells #[] T)).ownsRow B T size (.slice (some ⟨n, 0, none⟩) 0 0) 0 [] := by
  subst hn
  exact ⟨by simp, .inr ⟨w.heap.size, 0, #[], rfl, hB, heap_alloc_new w _, Nat.le_refl _, Nat.zero_le _, by simp, by simp⟩⟩

set_option maxHeartbeats 1600000 in
theorem l11OwnKey_any (m : ByteArray) (st : Int) (ao : Option Addr) (n cap : Nat) (nm vl : Nat → ByteArray) (w : World) (hr : TRow w ao n nm vl) (hn : n ≤ 1048576) :
    Calls Try.prog 13 #[.agg #[.string m, .slice ao n cap, .int .i64 st]] w fun e w' => KCo m st n nm vl w e w' := by
  go_enter Try.func13, Try.ntmps13
  go_wp2_with (at_builtin; refine wpList_copyT rfl _ _ rfl (w.heap.size + 2) (.slice (some ⟨w.heap.size + 1 + 1, 0, none⟩) 0 0) rfl (empty_own2 _ _ _ _ (by simp) _ (by simp)) ao n cap nm vl rfl (hr.keep ((((Below.refl _ _).alloc (Nat.le_refl _) _).alloc (by simp) _).alloc (by simp; omega) _)) hn (by simp) ?_; intro hv w1 hown hg; obtain ⟨ha, hcp, rfl⟩ := ownsRow_form hown; have hb1 := grown_old (B := w.heap.size + 2) hg (by simp) (by simp); have c0 := hb1.cell (p := ⟨w.heap.size, 0, none⟩) (by first | (simp; done) | (simp; omega)); have c1 := hb1.cell (p := ⟨w.heap.size, 1, none⟩) (by first | (simp; done) | (simp; omega)); have c2 := hb1.cell (p := ⟨w.heap.size, 2, none⟩) (by first | (simp; done) | (simp; omega)); have f1 := hb1.frozen (p := ⟨w.heap.size, 1, none⟩) (by first | (simp; done) | (simp; omega)); have d0 := hb1.cell (p := ⟨w.heap.size + 1, 0, none⟩) (by first | (simp; done) | (simp; omega)); have d1 := hb1.cell (p := ⟨w.heap.size + 1, 1, none⟩) (by first | (simp; done) | (simp; omega)); have d2 := hb1.cell (p := ⟨w.heap.size + 1, 2, none⟩) (by first | (simp; done) | (simp; omega)); have g : ∀ j, w1.frozen? ⟨w.heap.size + 1, j, none⟩ = false := fun j => (hb1.frozen (p := ⟨w.heap.size + 1, j, none⟩) (by first | (simp; done) | (simp; omega))).trans (by simp [go_sem]); simp [go_sem] at c0 c1 c2 f1 d0 d1 d2; have bw : Below w.heap.size w w1 := ((((Below.refl _ _).alloc (Nat.le_refl _) _).alloc (by simp) _).alloc (by simp; omega) _).trans (hb1.mono (by omega)); clear hb1 hg)
  have hne : ∀ d, d < w.heap.size + 2 → (Value.slice ha n hcp).ownBlock ≠ some d := fun d hd hk => by have := (hown.lt d hk).1; omega
  refine bodyPost_ret (v := .agg #[.string m, .slice ha n hcp, .int .i64 st]) (by simp [results, Try.results13, go_sem, c0, c1, c2, d0, d1, d2]) rfl ⟨.slice ha n hcp, rfl, ownsRow_mono ?_ (by omega : w.heap.size ≤ w.heap.size + 2), ?_⟩
  · repeat' refine ownsRow_others ?_ (Others.setCell _ _ _ _) (hne _ (by omega))
    exact hown
  · repeat' refine Below.setCell ?_ (by first | (simp; done) | (simp; omega)) _
    exact bw

end Go.Proofs.Ytjdijikmdlklkaa
namespace Go.Proofs.Ytjdijikmdlklkaa
open Go.RowKit
set_option linter.unusedSimpArgs false
set_option linter.unusedVariables false

end Go.Proofs.Ytjdijikmdlklkaa
