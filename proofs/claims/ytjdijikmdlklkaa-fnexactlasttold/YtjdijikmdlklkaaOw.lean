/- Windows marked. / Marks of windows looked for. / Windows that the call itself gathers, each with lists of its own. -/
import Derived.Test.YtjdijikmdlklkaaCw
import Derived.Deep.RegionHeld3
import Derived.Maps.AppendAt
import Derived.OwnWalk
namespace Go.Proofs.Ytjdijikmdlklkaa
open Go.RowKit
set_option linter.unusedSimpArgs false
set_option linter.unusedVariables false

theorem WiC.none0 {w : World} {b n k : Nat} {X : Nat → Wn} {y : Wn} {A0 A1 : Nat → Option Addr} {K0 K1 : Nat → Nat} {G : Nat → Nat} (h : WiC w b n (upWi X k y) A0 A1 K0 K1 G) (hz : y.tn = 0) (nm' : Nat → ByteArray) (vl' : Nat → ByteArray) : WiC w b n (upWi X k (y.wl_T nm' vl')) A0 A1 K0 K1 G := by
  refine ⟨h.lt, fun i hi => ?_, h.free, fun i hi h0 => ?_, fun i hi h0 => ?_, h.dis⟩
  · have h0 := h.ent i hi
    unfold upWi at h0 ⊢
    split
    · rename_i e
      subst e
      simp only [if_true] at h0
      exact ⟨h0.lt, h0.c0, h0.c1, h0.c2, h0.c3, h0.c4, h0.c5, h0.c6, h0.c7, h0.c8, h0.c9, h0.c10⟩
    · rename_i e
      simp only [e, if_false] at h0
      exact h0
  · have hx : (upWi X k (y.wl_T nm' vl') i).tn = (upWi X k y i).tn := by unfold upWi; split <;> rfl
    rw [hx] at h0
    obtain ⟨e1, e2, e3⟩ := h.l0 i hi h0
    refine ⟨e1, e2, ?_⟩
    by_cases e : i = k
    · subst e; rw [upWi_at] at h0; omega
    · rw [upWi_ne _ _ _ e] at e3 ⊢
      exact e3
  · have hx : (upWi X k (y.wl_T nm' vl') i).n = (upWi X k y i).n := by unfold upWi; split <;> rfl
    rw [hx] at h0
    obtain ⟨e1, e2, e3⟩ := h.l1 i hi h0
    refine ⟨e1, e2, ?_⟩
    by_cases e : i = k
    · subst e
      rw [upWi_at] at e3 ⊢
      exact e3
    · rw [upWi_ne _ _ _ e] at e3 ⊢
      exact e3
theorem WiC.none1 {w : World} {b n k : Nat} {X : Nat → Wn} {y : Wn} {A0 A1 : Nat → Option Addr} {K0 K1 : Nat → Nat} {G : Nat → Nat} (h : WiC w b n (upWi X k y) A0 A1 K0 K1 G) (hz : y.n = 0) (f' : Nat → Int) : WiC w b n (upWi X k (y.wl_N f')) A0 A1 K0 K1 G := by
  refine ⟨h.lt, fun i hi => ?_, h.free, fun i hi h0 => ?_, fun i hi h0 => ?_, h.dis⟩
  · have h0 := h.ent i hi
    unfold upWi at h0 ⊢
    split
    · rename_i e
      subst e
      simp only [if_true] at h0
      exact ⟨h0.lt, h0.c0, h0.c1, h0.c2, h0.c3, h0.c4, h0.c5, h0.c6, h0.c7, h0.c8, h0.c9, h0.c10⟩
    · rename_i e
      simp only [e, if_false] at h0
      exact h0
  · have hx : (upWi X k (y.wl_N f') i).tn = (upWi X k y i).tn := by unfold upWi; split <;> rfl
    rw [hx] at h0
    obtain ⟨e1, e2, e3⟩ := h.l0 i hi h0
    refine ⟨e1, e2, ?_⟩
    by_cases e : i = k
    · subst e
      rw [upWi_at] at e3 ⊢
      exact e3
    · rw [upWi_ne _ _ _ e] at e3 ⊢
      exact e3
  · have hx : (upWi X k (y.wl_N f') i).n = (upWi X k y i).n := by unfold upWi; split <;> rfl
    rw [hx] at h0
    obtain ⟨e1, e2, e3⟩ := h.l1 i hi h0
    refine ⟨e1, e2, ?_⟩
    by_cases e : i = k
    · subst e; rw [upWi_at] at h0; omega
    · rw [upWi_ne _ _ _ e] at e3 ⊢
      exact e3

theorem WiC.mark0 {w : World} {b n k : Nat} {X : Nat → Wn} {y : Wn} {A0 A1 : Nat → Option Addr} {K0 K1 : Nat → Nat} {G : Nat → Nat} (h : WiC w b n (upWi X k y) A0 A1 K0 K1 G) (hk : k < n) (hz : y.tn ≤ 1048576) (D : Nat) (hD : y.tn = D) (p : Nat) (pv : Int) (hpv : pv = (p : Int)) (np : Nat) (hnp : np = p + 2 * y.tn) (p1 : 1 ≤ p) (p2 : p ≤ 8796093022208) (lo hi : Nat) (h12 : 0 < y.tn → lo ≤ G (k * 2 + 0) ∧ G (k * 2 + 0) < hi) :
    Calls Try.prog 24 #[.slice (A0 k) D (K0 k), .int .i64 pv] w fun e w' => e = .returned (.int .i64 (np : Int)) ∧ WiC w' b n (upWi X k (y.wl_T (mtN p) (mtV p))) A0 A1 K0 K1 G ∧ Rng lo hi w w' := by
  subst hD hpv hnp
  by_cases h0 : y.tn = 0
  · have hsl : Value.slice (A0 k) y.tn (K0 k) = .slice (A0 k) 0 (K0 k) := by rw [h0]
    rw [hsl]
    refine (markT_zero (A0 k) (K0 k) _ w).mono ?_
    rintro e w' ⟨rfl, rfl⟩
    refine ⟨by simp [h0], ?_, Rng.refl _ _ _⟩
    exact h.none0 h0 _ _
  · obtain ⟨e1, e2, e3⟩ := h.l0 k hk (by rw [upWi_at]; omega)
    obtain ⟨h1, h2⟩ := h12 (by omega)
    rw [upWi_at] at e3
    rw [e1]
    refine (markTagS_any _ y.tn (K0 k) p w y.nm y.vl e3 hz p1 p2).mono ?_
    rintro e w' ⟨rfl, ho, ht⟩
    exact ⟨by rw [Int.natCast_add, Int.natCast_mul]; rfl, h.list0 hk (by omega) ht _ _ ho, ht.rng h1 h2⟩

theorem WiC.mark1 {w : World} {b n k : Nat} {X : Nat → Wn} {y : Wn} {A0 A1 : Nat → Option Addr} {K0 K1 : Nat → Nat} {G : Nat → Nat} (h : WiC w b n (upWi X k y) A0 A1 K0 K1 G) (hk : k < n) (hz : y.n ≤ 1048576) (D : Nat) (hD : y.n = D) (p : Nat) (pv : Int) (hpv : pv = (p : Int)) (np : Nat) (hnp : np = p + y.n) (p1 : 1 ≤ p) (p2 : p ≤ 8796093022208) (lo hi : Nat) (h12 : 0 < y.n → lo ≤ G (k * 2 + 1) ∧ G (k * 2 + 1) < hi) :
    Calls Try.prog 25 #[.slice (A1 k) D (K1 k), .int .i64 pv] w fun e w' => e = .returned (.int .i64 (np : Int)) ∧ WiC w' b n (upWi X k (y.wl_N (mIn p y.n))) A0 A1 K0 K1 G ∧ Rng lo hi w w' := by
  subst hD hpv hnp
  by_cases h0 : y.n = 0
  · have hsl : Value.slice (A1 k) y.n (K1 k) = .slice (A1 k) 0 (K1 k) := by rw [h0]
    rw [hsl]
    refine (markI_zero (A1 k) (K1 k) _ w).mono ?_
    rintro e w' ⟨rfl, rfl⟩
    refine ⟨by simp [h0], ?_, Rng.refl _ _ _⟩
    exact h.none1 h0 _
  · obtain ⟨e1, e2, e3⟩ := h.l1 k hk (by rw [upWi_at]; omega)
    obtain ⟨h1, h2⟩ := h12 (by omega)
    rw [upWi_at] at e3
    rw [e1]
    refine (markI_any _ 0 y.n (K1 k) y.f p w e3 hz p2).mono ?_
    rintro e w' ⟨rfl, ⟨fy, ho, hfy⟩, ht⟩
    refine ⟨rfl, h.list1 hk (by omega) (Thru.of_others ht) _ (ho.congr (mIn_bd p y.n hz p2) (fun i hi => ?_)), (Thru.of_others ht).rng h1 h2⟩
    rw [hfy i hi, mIn, if_pos hi]
    rfl

end Go.Proofs.Ytjdijikmdlklkaa
namespace Go.Proofs.Ytjdijikmdlklkaa
open Go.RowKit
set_option linter.unusedSimpArgs false
set_option linter.unusedVariables false

end Go.Proofs.Ytjdijikmdlklkaa
namespace Go.Proofs.Ytjdijikmdlklkaa
open Go.RowKit
set_option linter.unusedSimpArgs false
set_option linter.unusedVariables false

theorem ownsRow_keep {w w' : World} {base e size n : Nat} {v : Value} {xs : List Value} (h : w.ownsRow base e size v n xs) (hb : Below w.heap.size w w') : w'.ownsRow base e size v n xs := by
  refine ⟨h.1, ?_⟩
  rcases h.2 with ⟨rfl, h0⟩ | ⟨g, cap, cur, rfl, h1, h2, h3⟩
  · exact .inl ⟨rfl, h0⟩
  · exact .inr ⟨g, cap, cur, rfl, h1, (hb.block g (Array.getElem?_eq_some_iff.1 h2).1).trans h2, h3⟩
theorem ownsRow_mono {w : World} {base base' e size n : Nat} {v : Value} {xs : List Value} (h : w.ownsRow base e size v n xs) (hb : base' ≤ base) : w.ownsRow base' e size v n xs := by
  refine ⟨h.1, ?_⟩
  rcases h.2 with ⟨rfl, h0⟩ | ⟨g, cap, cur, rfl, h1, h2⟩
  · exact .inl ⟨rfl, h0⟩
  · exact .inr ⟨g, cap, cur, rfl, Nat.le_trans hb h1, h2⟩
theorem ownsRow_form {w : World} {base e size n : Nat} {v : Value} {xs : List Value} (h : w.ownsRow base e size v n xs) : ∃ ao cap, v = .slice ao n cap := by
  rcases h.2 with ⟨rfl, h0⟩ | ⟨g, cap, cur, rfl, _⟩
  · exact ⟨none, 0, by rw [h0]⟩
  · exact ⟨_, _, rfl⟩
theorem ownsRow_kept {w w' : World} {base e size n : Nat} {v : Value} {xs : List Value} {row : Option Nat} (h : w.ownsRow base e size v n xs) (hg : w.grownBy w' row) (hne : ∀ k, row = some k → v.ownBlock ≠ some k) : w'.ownsRow base e size v n xs := by
  refine h.kept hg ?_
  cases hr : v.ownBlock with
  | none => exact .inl rfl
  | some k => exact .inr fun e => hne k e.symm hr

theorem ownsRow_others {w w' : World} {base e size n d : Nat} {v : Value} {xs : List Value} (h : w.ownsRow base e size v n xs) (ho : Others d w w') (hne : v.ownBlock ≠ some d) : w'.ownsRow base e size v n xs :=
  ownsRow_kept (row := some d) h ⟨ho.os, ho.tape, ho.output, by rw [ho.size]; exact Nat.le_refl _, fun i _ hn => ho.block i (fun e => hn (by rw [e]))⟩ (fun k hk => by injection hk with hk; subst hk; exact hne)

section
variable {P : Program}
/-- A list copied behind what is empty. -/
theorem copy_any (w : World) (base : Nat) (t e : TypeId) (i : TypeInfo) (z : Value) (size bytes : Nat) (ht : P.underlying t = some (.slice e)) (hi : P.info? e = some i) (hz : i.zero = some z) (hsize : i.size = size) (hby : i.bytes = bytes) (hzs : z.cells.size = size) (hsz : 0 < size) (hb64 : bytes ≤ 64)
    (v0 : Value) (h0 : w.ownsRow base e size v0 0 []) (ao : Option Addr) (n hc : Nat) (cs : List Value) (hl : cs.length = n * size)
    (hrd : n = 0 ∨ ∃ b off, ao = some ⟨b, off, none⟩ ∧ ∀ j u, cs[j]? = some u → w.cell? ⟨b, off + j, none⟩ = some u) (h1 : ∀ u ∈ cs, u.oneCell' = true) (hn : n ≤ 1048576) (hbase : base ≤ w.heap.size) (ty : TypeId) :
    ∃ hv w', (Builtin.append_ #[t, t] ty #[v0, .slice ao n hc]).run P w = .ok hv w' ∧ w'.ownsRow base e size hv n cs ∧ w.grownBy w' v0.ownBlock ∧ (hv.ownBlock = v0.ownBlock ∨ hv.ownBlock = some w.heap.size) := by
  have hbb : (0 + n) * bytes ≤ 140737488355328 := by
    have : (0 + n) * bytes ≤ 1048576 * 64 := Nat.mul_le_mul (by omega) hb64
    omega
  by_cases hn0 : n = 0
  · subst hn0
    obtain rfl : cs = [] := List.eq_nil_of_length_eq_zero (by simpa using hl)
    cases ao with
    | some a =>
      obtain ⟨v', w', hr, ho, hg, _, hb⟩ := run_append_own_at (P := P) w base t ty e i z size bytes ht hi hz hsize hby hzs hsz v0 0 [] h0 a 0 hc [] (by simp) (fun j u hu => by simp at hu) (fun u hu => by cases hu) (by unfold maxLen; omega) (by simp) hbase
      exact ⟨v', w', hr, by simpa using ho, hg, hb⟩
    | none =>
      refine ⟨v0, w, ?_, h0, ⟨rfl, rfl, rfl, Nat.le_refl _, fun _ _ _ => rfl⟩, .inl rfl⟩
      obtain ⟨a0, c0, rfl⟩ := ownsRow_form h0
      cases a0 <;> simp [Builtin.append_, run_underlying ht, sizeOf, typeInfo, hi, Builtin.lenOf, Builtin.firstCells, loadCells, loadCellsFrom, storeCells]
  · obtain ⟨b, off, rfl, hcl⟩ := hrd.resolve_left hn0
    obtain ⟨v', w', hr, ho, hg, _, hb⟩ := run_append_own_at (P := P) w base t ty e i z size bytes ht hi hz hsize hby hzs hsz v0 0 [] h0 ⟨b, off, none⟩ n hc cs hl (fun j u hu => by
      rw [show (⟨b, off, none⟩ : Addr).add j = ⟨b, off + j, none⟩ from by unfold Addr.add; split <;> simp_all]
      exact hcl j u hu) h1 (by unfold maxLen; omega) hbb hbase
    exact ⟨v', w', hr, by simpa using ho, hg, hb⟩
end

/-- An append by its run's equation. -/
theorem wpList_append_eq {P : Program} (w : World) {ops : Array Oper} {rest : List Oper} {o : Oper} {a : Act} {Q : Exit → Act → World → Prop}
    (hg : o.guard = none) (s x : Operand) (t ty : TypeId) (hop : o.op = .call { callee := .builtin .append, args := #[s, x], argTypes := #[t, t] }) (hty : o.type = ty) (u v r : Value) (hs : a.eval s = u) (hx : a.eval x = v) (w' : World)
    (hrun : (Builtin.append_ #[t, t] ty #[u, v]).run P w = .ok r w') (hK : wpList P ops Q rest (a.put o.dst r) w') : wpList P ops Q (o :: rest) a w := by
  refine wpList_plain hg fun K' hK' => ?_
  subst hty
  unfold Oper.wp execOp
  simp only [hop, resolve, invoke, builtin, Sem.run_bind, Sem.run_pure, Result.andThen_ok, List.map_toArray, List.map_cons, List.map_nil, hs, hx, hrun]
  exact hK' _ _ hK


/-- The cells of tags. -/
def tcells (nm vl : Nat → ByteArray) (n : Nat) : List Value := (List.range n).flatMap fun i => [.string (nm i), .string (vl i)]
theorem tcells_len (nm vl : Nat → ByteArray) (n : Nat) : (tcells nm vl n).length = n * 2 := by
  unfold tcells
  induction n with
  | zero => rfl
  | succ n ih => rw [List.range_succ, List.flatMap_append, List.length_append, ih]; simp; omega
theorem tcells_get (nm vl : Nat → ByteArray) : ∀ (n i : Nat), i < n → (tcells nm vl n)[i * 2]? = some (.string (nm i)) ∧ (tcells nm vl n)[i * 2 + 1]? = some (.string (vl i))
  | 0, i, h => by omega
  | n + 1, i, h => by
    have hl := tcells_len nm vl n
    have e : tcells nm vl (n + 1) = tcells nm vl n ++ [.string (nm n), .string (vl n)] := by unfold tcells; rw [List.range_succ, List.flatMap_append]; simp
    rw [e]
    by_cases hi : i < n
    · obtain ⟨h1, h2⟩ := tcells_get nm vl n i hi
      rw [List.getElem?_append_left (by omega), List.getElem?_append_left (by omega)]
      exact ⟨h1, h2⟩
    · obtain rfl : i = n := by omega
      rw [List.getElem?_append_right (by omega), List.getElem?_append_right (by omega), hl]
      simp
theorem tcells_one (nm vl : Nat → ByteArray) (n : Nat) : ∀ u ∈ tcells nm vl n, u.oneCell' = true := by
  intro u hu
  simp only [tcells, List.mem_flatMap, List.mem_cons, List.not_mem_nil, or_false] at hu
  obtain ⟨i, _, rfl | rfl⟩ := hu <;> rfl
theorem tcells_read {w : World} {ao : Option Addr} {n : Nat} {nm vl : Nat → ByteArray} (hr : TRow w ao n nm vl) : n = 0 ∨ ∃ b off, ao = some ⟨b, off, none⟩ ∧ ∀ j u, (tcells nm vl n)[j]? = some u → w.cell? ⟨b, off + j, none⟩ = some u := by
  refine hr.lies.imp id fun ⟨b, off, e, hlt, hc⟩ => ⟨b, off, e, fun j u hu => ?_⟩
  have hj : j < n * 2 := by
    have := (List.getElem?_eq_some_iff.1 hu).1
    rw [tcells_len] at this
    exact this
  obtain ⟨h1, h2⟩ := tcells_get nm vl n (j / 2) (by omega)
  have h3 := hc (j / 2) (by omega)
  rcases Nat.mod_two_eq_zero_or_one j with hm | hm
  · have ej : j = j / 2 * 2 := by omega
    rw [← ej] at h1 h3
    rw [h1] at hu
    rw [← hu]; exact h3.1
  · have ej : j = j / 2 * 2 + 1 := by omega
    rw [← ej] at h2
    rw [h2] at hu
    rw [← hu, show off + j = off + j / 2 * 2 + 1 from by omega]
    exact h3.2
/-- The cells of ints. -/
def icells (f : Nat → Int) (n : Nat) : List Value := (List.range n).map fun i => Value.int .i64 (f i)
theorem icells_one (f : Nat → Int) (n : Nat) : ∀ u ∈ icells f n, u.oneCell' = true := by
  intro u hu
  simp only [icells, List.mem_map] at hu
  obtain ⟨i, _, rfl⟩ := hu; rfl
theorem icells_read {w : World} {ao : Option Addr} {n : Nat} {f : Nat → Int} (hr : IRow w ao n f) : n = 0 ∨ ∃ b off, ao = some ⟨b, off, none⟩ ∧ ∀ j u, (icells f n)[j]? = some u → w.cell? ⟨b, off + j, none⟩ = some u := by
  refine hr.lies.imp id fun ⟨b, off, e, hlt, hc⟩ => ⟨b, off, e, fun j u hu => ?_⟩
  have hj : j < n := by
    have := (List.getElem?_eq_some_iff.1 hu).1
    simpa [icells] using this
  have : u = .int .i64 (f j) := by simpa [icells, hj] using hu.symm
  rw [this]; exact hc j hj

/-- hv is a list of the call's own that holds x's tags. -/
def TV (w : World) (base : Nat) (hv : Value) (x : Wn) : Prop := w.ownsRow base 63 2 hv x.tn (tcells x.nm x.vl x.tn)
/-- hv is a list of the call's own that holds x's Hist. -/
def HV (w : World) (base : Nat) (hv : Value) (x : Wn) : Prop := w.ownsRow base 3 1 hv x.n (icells x.f x.n)
theorem TV.own {w : World} {base : Nat} {hv : Value} {x : Wn} (h : TV w base hv x) (h0 : 0 < x.tn) : ∃ g cap, hv = .slice (some ⟨g, 0, none⟩) x.tn cap ∧ base ≤ g ∧ TOwn w g x.tn x.tn x.nm x.vl := by
  unfold TV at h
  rcases h.2 with ⟨_, h1⟩ | ⟨g, cap, cur, rfl, hbg, hg, _⟩
  · omega
  · refine ⟨g, cap, rfl, hbg, (Array.getElem?_eq_some_iff.1 hg).1, fun i hi _ => ?_, fun j hj => ?_, fun j _ => h.frozenAt j⟩
    · obtain ⟨h1, h2⟩ := tcells_get x.nm x.vl x.tn i hi
      rw [h.cellAt (i * 2) (by omega), h.cellAt (i * 2 + 1) (by omega)]
      exact ⟨h1, h2⟩
    · rw [h.cellAt j hj]
      exact ⟨_, List.getElem?_eq_getElem (by rw [tcells_len]; exact hj)⟩
theorem HV.own {w : World} {base : Nat} {hv : Value} {x : Wn} (h : HV w base hv x) (hbd : ∀ i, -9223372036854775808 ≤ x.f i ∧ x.f i ≤ 9223372036854775807) (h0 : 0 < x.n) : ∃ g cap, hv = .slice (some ⟨g, 0, none⟩) x.n cap ∧ base ≤ g ∧ IOwn w g 0 x.n x.f := by
  unfold HV at h
  rcases h.2 with ⟨_, h1⟩ | ⟨g, cap, cur, rfl, hbg, hg, _⟩
  · omega
  · refine ⟨g, cap, rfl, hbg, hbd, (Array.getElem?_eq_some_iff.1 hg).1, fun i hi => ?_, fun i _ => by rw [Nat.zero_add]; exact h.frozenAt i⟩
    rw [Nat.zero_add, h.cellAt i (by omega)]
    simp [icells, hi]

/-- A window's cells, its lists told. -/
def wcells (x : Wn) (h0 h1 : Value) : List Value := [.string x.m, h0, .int .i64 x.st, .int .i64 x.c, .int .i64 x.s, .int .i64 x.lo, .int .i64 x.hi, h1, .bool x.fu, .int .i64 x.ver, .bool x.di]
/-- The lists with one window's more. -/
def vPut (V : Nat → Value) (n : Nat) (h0 h1 : Value) : Nat → Value := fun p => if p = n * 2 + 0 then h0 else if p = n * 2 + 1 then h1 else V p
theorem eleven_new (w : World) (x : Wn) (h0 h1 : Value) (T : Nat) : ∀ j u, (wcells x h0 h1)[j]? = some u → (w.alloc (.cells #[.string x.m, h0, .int .i64 x.st, .int .i64 x.c, .int .i64 x.s, .int .i64 x.lo, .int .i64 x.hi, h1, .bool x.fu, .int .i64 x.ver, .bool x.di] T)).cell? ((⟨w.heap.size, 0, none⟩ : Addr).add j) = some u := by
  intro j u hj
  have hlt : j < 11 := by
    have := (List.getElem?_eq_some_iff.1 hj).1
    simpa [wcells] using this
  rw [show (⟨w.heap.size, 0, none⟩ : Addr).add j = ⟨w.heap.size, j, none⟩ from by unfold Addr.add; split <;> simp_all]
  rw [← hj]
  simp [go_sem, wcells]

end Go.Proofs.Ytjdijikmdlklkaa
