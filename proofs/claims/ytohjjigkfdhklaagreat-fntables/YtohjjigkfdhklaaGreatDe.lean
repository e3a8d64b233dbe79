/- The program: whether bytes are a table, and its entries and filter. -/
import Derived.Test.YtohjjigkfdhklaaGreatDg
import Derived.Deep.RegionHeld3
import Derived.Test.YtohjjigkfdhklaaGreatRa
namespace Go.Proofs.YtohjjigkfdhklaaGreat
set_option maxRecDepth 100000
open Go.RowKit
set_option linter.unusedSimpArgs false
set_option linter.unusedVariables false

/-- A table in a box. -/
structure TBx (w : World) (D : Nat) (a b c : Value) : Prop where
  lt : D < w.heap.size
  c0 : w.cell? ⟨D, 0, none⟩ = some a
  c1 : w.cell? ⟨D, 1, none⟩ = some b
  c2 : w.cell? ⟨D, 2, none⟩ = some c
  fz : ∀ j, w.frozen? ⟨D, j, none⟩ = false
theorem TBx.keep {w w' : World} {D : Nat} {a b c : Value} (h : TBx w D a b c) (hb : Below w.heap.size w w') : TBx w' D a b c :=
  ⟨Nat.lt_of_lt_of_le h.lt hb.size, (hb.cell (p := ⟨D, 0, none⟩) h.lt).trans h.c0, (hb.cell (p := ⟨D, 1, none⟩) h.lt).trans h.c1, (hb.cell (p := ⟨D, 2, none⟩) h.lt).trans h.c2, fun j => (hb.frozen (p := ⟨D, j, none⟩) h.lt).trans (h.fz j)⟩
theorem TBx.new (w : World) (a b c : Value) (T : Nat) : TBx (w.alloc (.cells #[a, b, c] T)) w.heap.size a b c :=
  ⟨by simp, by simp [go_sem], by simp [go_sem], by simp [go_sem], fun j => by simp [go_sem]⟩
/-- What tableIn leaves where the bytes are a table. -/
def TInY (f : Nat → Int) (n : Nat) (w : World) (e : Ending) (w' : World) : Prop :=
  ∃ (X : Nat → Ent) (m : Nat) (p : Int) (v : Value) (V : Nat → Value) (fo : Option Addr) (fc : Nat), IsTb f n (fun i => nrE (X i)) m p ∧ e = .returned (.tuple #[.agg #[v, .int .i64 (fwI p), .slice fo (fbN (fun i => nrE (X i)) m p) fc], .bool true]) ∧
    OutH w' w.heap.size v m (fun i => nrE (X i)) V ∧ (∀ i, i < m → EB (nrE (X i))) ∧ ESize m (fun i => nrE (X i)) ∧ Row w' fo (fbN (fun i => nrE (X i)) m p) (fl (fLt (fun i => nrE (X i)) m p)) ∧ (∀ b o, fo = some ⟨b, o, none⟩ → w.heap.size ≤ b) ∧ Below w.heap.size w w'
/-- What tableIn leaves where they are none. -/
def TInN (f : Nat → Int) (n : Nat) (w : World) (e : Ending) (w' : World) : Prop :=
  (∀ X m p, ¬ IsTb f n X m p) ∧ e = .returned (.tuple #[.agg #[.slice none 0 0, .int .i64 0, .slice none 0 0], .bool false]) ∧ Below w.heap.size w w'
def TIn (f : Nat → Int) (n : Nat) (w : World) (e : Ending) (w' : World) : Prop := TInY f n w e w' ∨ TInN f n w e w'

theorem fitTable_nil (ao : Option Addr) (c : Nat) (w : World) :
    Calls Tryz.prog 23 #[.slice ao 0 c] w fun e w' => e = .returned (.bool false) ∧ w' = w := by
  go_enter Tryz.func23, Tryz.ntmps23
  go_wp2
  go_ret
  exact ⟨rfl, rfl⟩

set_option maxHeartbeats 6400000 in
theorem tableIn_any (bb bo n cap : Nat) (f : Nat → Int) (w : World) (hr : Row w (some ⟨bb, bo, none⟩) n f) (hbb : bb < w.heap.size) (hcap : n ≤ cap) (h20 : 20 ≤ n) (h80 : n ≤ 8000) :
    Calls Tryz.prog 63 #[.slice (some ⟨bb, bo, none⟩) n cap] w fun e w' => TIn f n w e w' := by
  have hB0 := below_new w (.cells #[.slice none 0 0, .int .i64 0, .slice none 0 0] 64)
  have Z0 := TBx.new w (.slice none 0 0) (.int .i64 0) (.slice none 0 0) 64
  have hpl := readPlaces_any bb bo n cap f _ (hr.keep hB0) (by omega) hcap h20
  have hAb := num_bd f hr.bd (n - 20) 4
  have hBb := num_bd f hr.bd (n - 16) 4
  obtain ⟨A, hA⟩ : ∃ A : Nat, num f (n - 20) 4 = (A : Int) := ⟨(num f (n - 20) 4).toNat, by omega⟩
  obtain ⟨B, hB⟩ : ∃ B : Nat, num f (n - 16) 4 = (B : Int) := ⟨(num f (n - 16) 4).toNat, by omega⟩
  have HA : Hid (num f (n - 20) 4 = (A : Int)) := hA
  have HB : Hid (num f (n - 16) 4 = (B : Int)) := hB
  rw [hA, hB] at hpl
  clear hA hB hAb hBb
  go_enter Tryz.func63, Tryz.ntmps63
  go_wp2_with fail
  refine hpl.mono ?_
  rintro e w1 ⟨ok, rfl, hok, q1⟩
  have Z1 := Z0.keep q1
  have B1 := hB0.trans (q1.mono hB0.size)
  clear hpl hB0 Z0 q1
  cases ok
  · obtain ⟨_, z0, z1, z2, zf⟩ := id Z1
    have g0 := zf 0
    have g1 := zf 1
    have g2 := zf 2
    have HN : Hid (∀ X m p, ¬ IsTb f n X m p) := fun X m p h => by
      obtain ⟨h1, h2, _⟩ := h.filter HA.out HB.out
      have := hok.2 ⟨by omega, by omega⟩
      cases this
    clear hok
    go_wp2
    refine bodyPost_ret (v := .tuple #[.agg #[.slice none 0 0, .int .i64 0, .slice none 0 0], .bool false]) (by simp [results, Tryz.results63, go_sem, z0, z1, z2]) rfl (.inr ⟨HN.out, rfl, ?_⟩)
    repeat' refine Below.setCell ?_ (by first | (simp; done) | (simp; omega)) _
    exact B1
  have hAB := hok.1 rfl
  have hAB1 : A ≤ B := by omega
  have hB20 : B + 20 ≤ n := by omega
  have hAn : A ≤ n := by omega
  have hAc : A ≤ cap := by omega
  have hsz1 := B1.size
  have r1 := hr.keep B1
  have hre := readEntries_any f bb bo A cap w1 (r1.front hAn) (by omega) (by omega) hAc
  clear hok hAB
  go_wp2_with fail
  refine hre.mono ?_
  rintro e w2 ⟨v, t, rfl, q2, D⟩
  have Z2 := Z1.keep q2
  have B2 := B1.trans (q2.mono B1.size)
  clear hre Z1 r1
  rcases D with ⟨rfl, k, X0, V, hR0, hkA, hO0⟩ | ⟨rfl, hno⟩
  rotate_left
  · obtain ⟨_, z0, z1, z2, zf⟩ := id Z2
    have g0 := zf 0
    have g1 := zf 1
    have g2 := zf 2
    have HN : Hid (∀ X m p, ¬ IsTb f n X m p) := fun X m p h => by
      have e : tA X m = A := by have := h.plc.2.2.2.2.2.1; have := HA.out; omega
      have r := h.rd
      rw [e] at r
      exact hno _ _ r
    clear hno
    go_wp2
    refine bodyPost_ret (v := .tuple #[.agg #[.slice none 0 0, .int .i64 0, .slice none 0 0], .bool false]) (by simp [results, Tryz.results63, go_sem, z0, z1, z2]) rfl (.inr ⟨HN.out, rfl, ?_⟩)
    repeat' refine Below.setCell ?_ (by first | (simp; done) | (simp; omega)) _
    exact B2
  have hR := rdK_nr hR0
  have hO := hO0.nr
  obtain ⟨hEB, hES⟩ := rdK_eb hR (by omega)
  clear hR0 hO0
  by_cases hk0 : k = 0
  · subst hk0
    obtain ⟨lo, lc, rfl⟩ := ownsRow_form hO.own
    have HN : Hid (∀ X m p, ¬ IsTb f n X m p) := fun X m p h => by
      have := (h.meet HA.out hR).2.2.1.1
      omega
    obtain ⟨_, z0, z1, z2, zf⟩ := id Z2
    have g0 := zf 0
    have g1 := zf 1
    have g2 := zf 2
    go_wp2_with fail
    refine (fitTable_nil lo lc w2).mono ?_
    rintro e w3 ⟨rfl, rfl⟩
    go_wp2
    refine bodyPost_ret (v := .tuple #[.agg #[.slice none 0 0, .int .i64 0, .slice none 0 0], .bool false]) (by simp [results, Tryz.results63, go_sem, z0, z1, z2]) rfl (.inr ⟨HN.out, rfl, ?_⟩)
    repeat' refine Below.setCell ?_ (by first | (simp; done) | (simp; omega)) _
    exact B2
  obtain ⟨g, gc, rfl, hkc, hgb, er2⟩ := hO.erow hEB (by omega)
  obtain ⟨X, hX⟩ : ∃ X, X = fun i => nrE (X0 i) := ⟨_, rfl⟩
  have HX : Hid (X = fun i => nrE (X0 i)) := hX
  have hR : RdK f A X k A := by rw [hX]; exact hR
  have hO : OutH w2 (w1.heap.size + 1) (.slice (some ⟨g, 0, none⟩) k gc) k X V := by rw [hX]; exact hO
  have hEB : ∀ i, i < k → EB (X i) := by rw [hX]; exact hEB
  have hES : ESize k X := by rw [hX]; exact hES
  have er2 : ERow w2 (some ⟨g, 0, none⟩) k X := by rw [hX]; exact er2
  clear hX
  have hft := fitTable_any g 0 k gc X w2 er2 (by omega) hES
  go_wp2_with fail
  refine hft.mono ?_
  rintro e w3 ⟨bq, rfl, hbq, q3⟩
  have Z3 := Z2.keep q3
  have B3 := B2.trans (q3.mono B2.size)
  have O3 := hO.keep q3
  have er3 := er2.keep q3
  clear hft Z2 hO er2
  cases bq
  · obtain ⟨_, z0, z1, z2, zf⟩ := id Z3
    have g0 := zf 0
    have g1 := zf 1
    have g2 := zf 2
    have HN : Hid (∀ X m p, ¬ IsTb f n X m p) := fun X m p h => by
      have := hbq.2 (h.meet HA.out hR).2.2
      cases this
    clear hbq
    go_wp2
    refine bodyPost_ret (v := .tuple #[.agg #[.slice none 0 0, .int .i64 0, .slice none 0 0], .bool false]) (by simp [results, Tryz.results63, go_sem, z0, z1, z2]) rfl (.inr ⟨HN.out, rfl, ?_⟩)
    repeat' refine Below.setCell ?_ (by first | (simp; done) | (simp; omega)) _
    exact B3
  have hF : FitT X k := hbq.1 rfl
  have HF : Hid (FitT X k) := hF
  have HR : Hid (RdK f A X k A) := hR
  have hk1 := hF.1
  have hG := hF.2.1
  clear hbq hF hR
  have hBA : (B : Nat) - A ≤ cap - A := by omega
  have r3 := (hr.keep B3).sub (k := A) (m := B - A) (by omega)
  have hcA : ¬ cap = A := by omega
  have hBc : B ≤ cap := by omega
  have hrf := readFilter_row bb (bo + A) (B - A) (cap - A) (fun i => f (A + i)) w3 r3 (by omega) hBA
  go_wp2_with fail
  refine hrf.mono ?_
  rintro e w4 ⟨hfy, hfn⟩
  clear hrf r3
  by_cases hfl : IsFl (B - A) (fun i => f (A + i))
  rotate_left
  · obtain ⟨fo, fc, rfl, _, q4⟩ := hfn hfl
    have Z4 := Z3.keep q4
    have B4 := B3.trans (q4.mono B3.size)
    have HN : Hid (∀ X m p, ¬ IsTb f n X m p) := fun X m p h => hfl (h.filter HA.out HB.out).2.2.1
    have b5 := below_new w4 (.cells #[.int .i64 0, .slice fo ([] : List Int).length fc] 55)
    have Z5 := Z4.keep b5
    have B5 := B4.trans (b5.mono B4.size)
    clear hfy hfn hfl
    go_wp2
    generalize w4.alloc (.cells #[.int .i64 0, .slice fo ([] : List Int).length fc] 55) = w5 at *
    go_quiet (fail)
    generalize hW : w5.drewN nq = w6 at *
    have Z6 : TBx w6 w.heap.size (.slice none 0 0) (.int .i64 0) (.slice none 0 0) := by rw [← hW]; exact Z5.keep (below_drewN (Below.refl _ _) nq)
    have B6 : Below w.heap.size w w6 := by rw [← hW]; exact below_drewN B5 nq
    obtain ⟨_, z0, z1, z2, zf⟩ := id Z6
    have g0 := zf 0
    have g1 := zf 1
    have g2 := zf 2
    clear hW
    go_wp2
    refine bodyPost_ret (v := .tuple #[.agg #[.slice none 0 0, .int .i64 0, .slice none 0 0], .bool false]) (by simp [results, Tryz.results63, go_sem, z0, z1, z2]) rfl (.inr ⟨HN.out, rfl, ?_⟩)
    repeat' refine Below.setCell ?_ (by first | (simp; done) | (simp; omega)) _
    exact B6
  obtain ⟨F, hFd⟩ : ∃ F, F = ffl (fun i => f (A + (i + 1))) (B - A - 1) := ⟨_, rfl⟩
  have hfy2 : RO (f A) F true w3 e w4 := by rw [hFd]; exact hfy hfl
  have hFl : F.length = B - A - 1 := by rw [hFd, ffl_len]
  have hgf : GoodF (f A) F.length := by rw [hFl]; exact hfl.2
  have HFd : Hid (F = ffl (fun i => f (A + (i + 1))) (B - A - 1)) := hFd
  obtain ⟨y, hy⟩ : ∃ y, f A = y := ⟨_, rfl⟩
  have HY : Hid (f A = y) := hy
  rw [hy] at hfy2 hgf
  obtain ⟨fo, fc, rfl, hV, q4⟩ := hfy2
  have Z4 := Z3.keep q4
  have B4 := B3.trans (q4.mono B3.size)
  have O4 := O3.keep q4
  have er4 := er3.keep q4
  have b5 := below_new w4 (.cells #[.int .i64 y, .slice fo F.length fc] 55)
  have FX5 := FAt.new w4 y (.slice fo F.length fc) 55
  have Z5 := Z4.keep b5
  have B5 := B4.trans (b5.mono B4.size)
  have O5 := O4.keep b5
  have er5 := er4.keep b5
  have V5 := hV.keep b5
  have rF5 := V5.row
  have hFB := hV.bd
  have hs3 := B3.size
  have hz3 : w.heap.size < w3.heap.size := Z3.lt
  have hs2 := q3.size
  have hfm : F.length ≤ 1000 := by have := hgf.2.2; omega
  have hKs : ∀ i, i < k → (X i).key.size ≤ 140 := fun i hi => by have := (hG i hi).1.2; omega
  have hcn := cK_len X k
  have hTS : TSz (cF X k) (cK X k).length := ⟨by omega, fun i hi => by have := cF_size hKs hi; omega⟩
  have hko : ∀ W, ERow W (some ⟨g, 0, none⟩) k X → Calls Tryz.prog 25 #[.slice (some ⟨g, 0, none⟩) k gc] W fun e w' => ∃ ka kc, e = .returned (.slice ka (cK X k).length kc) ∧ TRow w' ka (cK X k).length (cF X k) ∧ Below W.heap.size W w' := fun W h => keysOf_any g 0 k gc X W h ⟨by omega, by omega⟩
  have hif : ∀ (z : Unit) (ka : Option Addr) (kc : Nat) (W : World), Row W fo F.length (fl F) → TRow W ka (cK X k).length (cF X k) → Calls Tryz.prog 91 #[.agg #[.int .i64 y, .slice fo F.length fc], .slice ka (cK X k).length kc] W fun e w' => Ans (∃ p : Int, (1 ≤ p ∧ p ≤ 20) ∧ isF (cF X k) (cK X k).length y F p) W e w' := fun z ka kc W h1 h2 => isFilterOf_any fo fc y F ka _ kc (cF X k) W h1 hFB h2 hTS (by omega)
  have htb : ∀ W, ERow W (some ⟨g, 0, none⟩) k X → Row W fo F.length (fl F) → Calls Tryz.prog 26 #[.slice (some ⟨g, 0, none⟩) k gc, .agg #[.int .i64 y, .slice fo F.length fc]] W fun e w' => ∃ ta tc, e = .returned (.slice ta (tbl X k y F).length tc) ∧ Row w' ta (tbl X k y F).length (fl (tbl X k y F)) ∧ Byt (tbl X k y F) ∧ Below W.heap.size W w' := fun W h1 h2 => by
    refine (tableBytes_any g 0 k gc X y fo F.length fc (fl F) W h1 hk1 hkc hG h2 hgf hfm).mono ?_
    rintro e w' ⟨v, rfl, ho, hb⟩
    rw [ffl_self] at ho
    obtain ⟨ta, tc, rfl⟩ := ho.form
    exact ⟨ta, tc, rfl, ho.rowOf, ho.bd, hb⟩
  have hrw := hr.all
  have hbe : ∀ W ta tc, Byt (tbl X k y F) → Row W ta (tbl X k y F).length (fl (tbl X k y F)) → Row W (some ⟨bb, bo, none⟩) (segL f 0 n).length (fl (segL f 0 n)) → Calls Tryz.prog 92 #[.slice ta (tbl X k y F).length tc, .slice (some ⟨bb, bo, none⟩) n cap] W fun e w' => e = .returned (.bool (decide (tbl X k y F = segL f 0 n))) ∧ w' = W := fun W ta tc hTB h1 h2 => by
    have := bytesEqual_any ta (some ⟨bb, bo, none⟩) (tbl X k y F) (segL f 0 n) tc cap W h1 h2 hTB (segL_byt hr.bd)
    rw [segL_len] at this
    exact this
  clear hfy hfn hFl hFd hy hcn hTS hKs hV q4 b5 Z4 O4 er4 Z3 O3 er3 B4 hfl hgf
  generalize hkn : (cK X k).length = kn at *
  have HK : Hid ((cK X k).length = kn) := hkn
  clear hkn
  by_cases hp : ∃ p : Int, (1 ≤ p ∧ p ≤ 20) ∧ isF (cF X k) kn y F p
  rotate_left
  · have HN : Hid (∀ X m p, ¬ IsTb f n X m p) := fun X' m p h => by
      obtain ⟨e1, ha, _⟩ := h.meet HA.out HR.out
      obtain ⟨_, _, _, h4, h5⟩ := h.filter HA.out HB.out
      subst e1
      refine hp ⟨p, h.1.2.1, ?_⟩
      rw [← HK.out]
      exact (isF_iff _ _ _ _ _).2 ⟨by rw [← HY.out]; exact h4, by rw [HFd.out, h5]; exact ha.fLt p⟩
    have HP : Hid (¬ ∃ p : Int, (1 ≤ p ∧ p ≤ 20) ∧ isF (cF X k) kn y F p) := hp
    clear hp htb hbe
    go_wp2
    generalize w4.alloc (.cells #[.int .i64 y, .slice fo F.length fc] 55) = w5 at *
    obtain ⟨_, f50, f51⟩ := id FX5
    refine wp_region_w (fun w' : World => w'.cell? ⟨w4.heap.size, 0, none⟩ = some (.int .i64 y) ∧ w'.cell? ⟨w4.heap.size, 1, none⟩ = some (.slice fo F.length fc)) (fun _ => true) (by kernel_rfl) ?_
    change wpW _ _ _ _ _ _ 17 _ _ w5.drew
    have hS0 : (fun w' : World => w'.cell? ⟨w4.heap.size, 0, none⟩ = some (.int .i64 y) ∧ w'.cell? ⟨w4.heap.size, 1, none⟩ = some (.slice fo F.length fc)) w5.drew := ⟨f50, f51⟩
    refine wpW_take 0 _ (.bool true) rfl (by kernel_rfl) (by kernel_rfl) (by kernel_rfl) (fun _ _ _ h => h) (by kernel_rfl) (.inl ⟨rfl, fun w' hS' => by go_simp⟩) hS0 ?_
    simp only [Act.put, List.getElem_toArray, List.getElem_cons_succ, List.getElem_cons_zero, List.setIfInBounds_toArray, List.set_cons_zero, List.set_cons_succ]
    refine wpW_take 1 _ (.bool false) rfl (by kernel_rfl) (by kernel_rfl) (by kernel_rfl) (fun _ _ _ h => h) (by kernel_rfl) (.inl ⟨rfl, fun w' hS' => by go_simp⟩) hS0 ?_
    simp only [Act.put, List.getElem_toArray, List.getElem_cons_succ, List.getElem_cons_zero, List.setIfInBounds_toArray, List.set_cons_zero, List.set_cons_succ]
    refine wpW_take 2 _ (.bool false) rfl (by kernel_rfl) (by kernel_rfl) (by kernel_rfl) (fun _ _ _ h => h) (by kernel_rfl) (.inl ⟨rfl, fun w' hS' => by go_simp⟩) hS0 ?_
    simp only [Act.put, List.getElem_toArray, List.getElem_cons_succ, List.getElem_cons_zero, List.setIfInBounds_toArray, List.set_cons_zero, List.set_cons_succ]
    refine wpW_take 3 _ (.agg #[.int .i64 y, .slice fo F.length fc]) rfl (by kernel_rfl) (by kernel_rfl) (by kernel_rfl) (fun _ _ _ h => h) (by kernel_rfl) (.inl ⟨rfl, fun w' hS' => by obtain ⟨s0, s1⟩ := hS'; go_simp⟩) hS0 ?_
    simp only [Act.put, List.getElem_toArray, List.getElem_cons_succ, List.getElem_cons_zero, List.setIfInBounds_toArray, List.set_cons_zero, List.set_cons_succ]
    refine wpW_take 4 _ (.slice (some ⟨g, 0, none⟩) k gc) rfl (by kernel_rfl) (by kernel_rfl) (by kernel_rfl) (fun _ _ _ h => h) (by kernel_rfl) (.inl ⟨rfl, fun w' hS' => by go_simp⟩) hS0 ?_
    simp only [Act.put, List.getElem_toArray, List.getElem_cons_succ, List.getElem_cons_zero, List.setIfInBounds_toArray, List.set_cons_zero, List.set_cons_succ]
    refine wpW_one 5 _ rfl (by kernel_rfl) (step_wanted rfl (op_call 25 #[.slice (some ⟨g, 0, none⟩) k gc] _ (by go_simp) (hko _ (er5.keep (Below.refl _ w5).drew)) ?_))
    rintro e w6 ⟨ka, kc, rfl, tr6, q6⟩
    have q6' := (Below.refl _ w5).drew.trans q6
    have r6 := rF5.keep q6'
    have X6 := FX5.keep q6'
    have s6 := q6'.size
    have hS6 : (fun w' : World => w'.cell? ⟨w4.heap.size, 0, none⟩ = some (.int .i64 y) ∧ w'.cell? ⟨w4.heap.size, 1, none⟩ = some (.slice fo F.length fc)) w6 := ⟨X6.c0, X6.c1⟩
    refine ⟨_, rfl, fun _ => hS6, ?_⟩
    simp only [Act.put, List.getElem_toArray, List.getElem_cons_succ, List.getElem_cons_zero, List.setIfInBounds_toArray, List.set_cons_zero, List.set_cons_succ]
    refine wpW_one 6 _ rfl (by kernel_rfl) (step_wanted rfl (op_call 91 #[.agg #[.int .i64 y, .slice fo F.length fc], .slice ka kn kc] _ (by go_simp) (hif () ka kc w6 r6 tr6) ?_))
    rintro e w7 ⟨b7, rfl, hb7, q7⟩
    obtain rfl : b7 = false := (Bool.eq_false_iff.2 fun hh => HP.out (hb7.1 hh))
    have q7' := q6'.trans (q7.mono s6)
    have X7 := X6.keep q7
    have hS7 : (fun w' : World => w'.cell? ⟨w4.heap.size, 0, none⟩ = some (.int .i64 y) ∧ w'.cell? ⟨w4.heap.size, 1, none⟩ = some (.slice fo F.length fc)) w7 := ⟨X7.c0, X7.c1⟩
    clear hb7
    refine ⟨_, rfl, fun _ => hS7, ?_⟩
    simp only [Act.put, List.getElem_toArray, List.getElem_cons_succ, List.getElem_cons_zero, List.setIfInBounds_toArray, List.set_cons_zero, List.set_cons_succ]
    refine wpW_take 7 _ (.bool true) rfl (by kernel_rfl) (by kernel_rfl) (by kernel_rfl) (fun _ _ _ h => h) (by kernel_rfl) (.inl ⟨rfl, fun w' hS' => by go_simp⟩) hS7 ?_
    simp only [Act.put, List.getElem_toArray, List.getElem_cons_succ, List.getElem_cons_zero, List.setIfInBounds_toArray, List.set_cons_zero, List.set_cons_succ]
    refine wpW_take 8 _ (.bool true) rfl (by kernel_rfl) (by kernel_rfl) (by kernel_rfl) (fun _ _ _ h => h) (by kernel_rfl) (.inl ⟨rfl, fun w' hS' => by go_simp⟩) hS7 ?_
    simp only [Act.put, List.getElem_toArray, List.getElem_cons_succ, List.getElem_cons_zero, List.setIfInBounds_toArray, List.set_cons_zero, List.set_cons_succ]
    refine wpW_take 9 _ (.bool true) rfl (by kernel_rfl) (by kernel_rfl) (by kernel_rfl) (fun _ _ _ h => h) (by kernel_rfl) (.inl ⟨rfl, fun w' hS' => by go_simp⟩) hS7 ?_
    simp only [Act.put, List.getElem_toArray, List.getElem_cons_succ, List.getElem_cons_zero, List.setIfInBounds_toArray, List.set_cons_zero, List.set_cons_succ]
    refine wpW_take 10 _ (undef) rfl (by kernel_rfl) (by kernel_rfl) (by kernel_rfl) (fun _ _ _ h => h) (by kernel_rfl) (.inr ⟨rfl, rfl⟩) hS7 ?_
    simp only [Act.put, List.getElem_toArray, List.getElem_cons_succ, List.getElem_cons_zero, List.setIfInBounds_toArray, List.set_cons_zero, List.set_cons_succ]
    refine wpW_take 11 _ (undef) rfl (by kernel_rfl) (by kernel_rfl) (by kernel_rfl) (fun _ _ _ h => h) (by kernel_rfl) (.inr ⟨rfl, rfl⟩) hS7 ?_
    simp only [Act.put, List.getElem_toArray, List.getElem_cons_succ, List.getElem_cons_zero, List.setIfInBounds_toArray, List.set_cons_zero, List.set_cons_succ]
    refine wpW_take 12 _ (undef) rfl (by kernel_rfl) (by kernel_rfl) (by kernel_rfl) (fun _ _ _ h => h) (by kernel_rfl) (.inr ⟨rfl, rfl⟩) hS7 ?_
    simp only [Act.put, List.getElem_toArray, List.getElem_cons_succ, List.getElem_cons_zero, List.setIfInBounds_toArray, List.set_cons_zero, List.set_cons_succ]
    refine wpW_take 13 _ (undef) rfl (by kernel_rfl) (by kernel_rfl) (by kernel_rfl) (fun _ _ _ h => h) (by kernel_rfl) (.inr ⟨rfl, rfl⟩) hS7 ?_
    simp only [Act.put, List.getElem_toArray, List.getElem_cons_succ, List.getElem_cons_zero, List.setIfInBounds_toArray, List.set_cons_zero, List.set_cons_succ]
    refine wpW_take 14 _ (undef) rfl (by kernel_rfl) (by kernel_rfl) (by kernel_rfl) (fun _ _ _ h => h) (by kernel_rfl) (.inr ⟨rfl, rfl⟩) hS7 ?_
    simp only [Act.put, List.getElem_toArray, List.getElem_cons_succ, List.getElem_cons_zero, List.setIfInBounds_toArray, List.set_cons_zero, List.set_cons_succ]
    refine wpW_take 15 _ (undef) rfl (by kernel_rfl) (by kernel_rfl) (by kernel_rfl) (fun _ _ _ h => h) (by kernel_rfl) (.inr ⟨rfl, rfl⟩) hS7 ?_
    simp only [Act.put, List.getElem_toArray, List.getElem_cons_succ, List.getElem_cons_zero, List.setIfInBounds_toArray, List.set_cons_zero, List.set_cons_succ]
    refine wpW_take 16 _ (.bool true) rfl (by kernel_rfl) (by kernel_rfl) (by kernel_rfl) (fun _ _ _ h => h) (by kernel_rfl) (.inl ⟨rfl, fun w' hS' => by go_simp⟩) hS7 ?_
    simp only [Act.put, List.getElem_toArray, List.getElem_cons_succ, List.getElem_cons_zero, List.setIfInBounds_toArray, List.set_cons_zero, List.set_cons_succ]
    refine wpW_done (by kernel_rfl) ?_
    have Z9 := Z5.keep q7'
    have B9 := B5.trans (q7'.mono B5.size)
    obtain ⟨_, z0, z1, z2, zf⟩ := id Z9
    have g0 := zf 0
    have g1 := zf 1
    have g2 := zf 2
    go_wp2
    refine bodyPost_ret (v := .tuple #[.agg #[.slice none 0 0, .int .i64 0, .slice none 0 0], .bool false]) (by simp [results, Tryz.results63, go_sem, z0, z1, z2]) rfl (.inr ⟨HN.out, rfl, ?_⟩)
    repeat' refine Below.setCell ?_ (by first | (simp; done) | (simp; omega)) _
    exact B9
  have HP : Hid (∃ p : Int, (1 ≤ p ∧ p ≤ 20) ∧ isF (cF X k) kn y F p) := hp
  clear hp
  by_cases hE : tbl X k y F = segL f 0 n
  rotate_left
  · have HN : Hid (∀ X m p, ¬ IsTb f n X m p) := fun X' m p h => by
      obtain ⟨e1, ha, _⟩ := h.meet HA.out HR.out
      obtain ⟨_, _, _, h4, h5⟩ := h.filter HA.out HB.out
      subst e1
      refine hE ?_
      rw [isTb_seg h, ha.tbP, ← HY.out, h4, HFd.out, h5, ha.fLt]
      rfl
    simp only [hE, decide_false] at hbe
    clear hE
    generalize (tbl X k y F).length = tn at *
    go_wp2
    generalize w4.alloc (.cells #[.int .i64 y, .slice fo F.length fc] 55) = w5 at *
    obtain ⟨_, f50, f51⟩ := id FX5
    go_region_held3 (fun w' => w'.cell? ⟨w4.heap.size, 0, none⟩ = some (.int .i64 y) ∧ w'.cell? ⟨w4.heap.size, 1, none⟩ = some (.slice fo F.length fc)) (go_keep) (first | (go_at_call 25; refine (hko _ (er5.keep (Below.refl _ _).drew)).mono ?_; rintro e w6 ⟨ka, kc, rfl, tr6, q6⟩; have q6' := (Below.refl _ w5).drew.trans q6; have r6 := rF5.keep q6'; have X6 := FX5.keep q6'; obtain ⟨_, x0, x1⟩ := id X6; have e6 := er5.keep q6'; have s6 := q6'.size) | (go_at_call 91; refine (hif () ka kc w6 r6 tr6).mono ?_; rintro e w7 ⟨b7, rfl, hb7, q7⟩; obtain rfl : b7 = true := (hb7.2 HP.out); have q7' := q6'.trans (q7.mono s6); have X7 := X6.keep q7; obtain ⟨_, y0, y1⟩ := id X7; have r7 := r6.keep q7; have e7 := e6.keep q7; have s7 := q7'.size; clear hb7) | (go_at_call 26; refine (htb _ e7 r7).mono ?_; rintro e w8 ⟨ta, tc, rfl, t8, tb8, q8⟩; have q8' := q7'.trans (q8.mono s7); have X8 := X7.keep q8; obtain ⟨_, u0, u1⟩ := id X8; have b8 := hrw.keep (B5.trans (q8'.mono B5.size))) | (go_at_call 92; refine (hbe _ ta tc tb8 t8 b8).mono ?_; rintro e w9 ⟨rfl, hw9⟩; subst w9) | fail)
    have Z9 := Z5.keep q8'
    have B9 := B5.trans (q8'.mono B5.size)
    obtain ⟨_, z0, z1, z2, zf⟩ := id Z9
    have g0 := zf 0
    have g1 := zf 1
    have g2 := zf 2
    go_wp2
    refine bodyPost_ret (v := .tuple #[.agg #[.slice none 0 0, .int .i64 0, .slice none 0 0], .bool false]) (by simp [results, Tryz.results63, go_sem, z0, z1, z2]) rfl (.inr ⟨HN.out, rfl, ?_⟩)
    repeat' refine Below.setCell ?_ (by first | (simp; done) | (simp; omega)) _
    exact B9
  have HE : Hid (tbl X k y F = segL f 0 n) := hE
  have hd : decide (tbl X k y F = segL f 0 n) = true := decide_eq_true hE
  simp only [hd] at hbe
  clear hE hd
  generalize (tbl X k y F).length = tn at *
  go_wp2
  generalize w4.alloc (.cells #[.int .i64 y, .slice fo F.length fc] 55) = w5 at *
  obtain ⟨_, f50, f51⟩ := id FX5
  go_region_held3 (fun w' => w'.cell? ⟨w4.heap.size, 0, none⟩ = some (.int .i64 y) ∧ w'.cell? ⟨w4.heap.size, 1, none⟩ = some (.slice fo F.length fc)) (go_keep) (first | (go_at_call 25; refine (hko _ (er5.keep (Below.refl _ _).drew)).mono ?_; rintro e w6 ⟨ka, kc, rfl, tr6, q6⟩; have q6' := (Below.refl _ w5).drew.trans q6; have r6 := rF5.keep q6'; have X6 := FX5.keep q6'; obtain ⟨_, x0, x1⟩ := id X6; have e6 := er5.keep q6'; have s6 := q6'.size) | (go_at_call 91; refine (hif () ka kc w6 r6 tr6).mono ?_; rintro e w7 ⟨b7, rfl, hb7, q7⟩; obtain rfl : b7 = true := (hb7.2 HP.out); have q7' := q6'.trans (q7.mono s6); have X7 := X6.keep q7; obtain ⟨_, y0, y1⟩ := id X7; have r7 := r6.keep q7; have e7 := e6.keep q7; have s7 := q7'.size; clear hb7) | (go_at_call 26; refine (htb _ e7 r7).mono ?_; rintro e w8 ⟨ta, tc, rfl, t8, tb8, q8⟩; have q8' := q7'.trans (q8.mono s7); have X8 := X7.keep q8; obtain ⟨_, u0, u1⟩ := id X8; have b8 := hrw.keep (B5.trans (q8'.mono B5.size))) | (go_at_call 92; refine (hbe _ ta tc tb8 t8 b8).mono ?_; rintro e w9 ⟨rfl, hw9⟩; subst w9) | fail)
  have Z9 := Z5.keep q8'
  have B9 := B5.trans (q8'.mono B5.size)
  have O9 := O5.keep q8'
  have V9' := V5.keep q8'
  obtain ⟨_, z0, z1, z2, zf⟩ := id Z9
  have g0 := zf 0
  have g1 := zf 1
  have g2 := zf 2
  clear Z5 B5 O5 V5 FX5 rF5 er5 hbe htb hif hko
  go_wp2
  obtain ⟨W3, hW3⟩ : ∃ u, u = ((w8.setCell ⟨w.heap.size, 0, none⟩ (.slice (some ⟨g, 0, none⟩) k gc)).setCell ⟨w.heap.size, 1, none⟩ (.int .i64 y)).setCell ⟨w.heap.size, 2, none⟩ (.slice fo F.length fc) := ⟨_, rfl⟩
  have hot : Others w.heap.size w8 W3 := by rw [hW3]; exact ((Others.setCell _ _ _ _).trans (Others.setCell _ _ _ _)).trans (Others.setCell _ _ _ _)
  show bodyPost Tryz.prog Tryz.f63 (fun e w' => TIn f n w e w') _ _ (((w8.setCell ⟨w.heap.size, 0, none⟩ (.slice (some ⟨g, 0, none⟩) k gc)).setCell ⟨w.heap.size, 1, none⟩ (.int .i64 y)).setCell ⟨w.heap.size, 2, none⟩ (.slice fo F.length fc))
  refine bodyPost_ret (v := .tuple #[.agg #[.slice (some ⟨g, 0, none⟩) k gc, .int .i64 y, .slice fo F.length fc], .bool true]) (by simp [results, Tryz.results63, go_sem, z0, z1, z2]) rfl (.inl ?_)
  rw [← hW3]
  obtain ⟨p, hp1, hp2⟩ := HP.out
  rw [← HK.out] at hp2
  obtain ⟨hy2, hF2⟩ := (isF_iff _ _ _ _ _).1 hp2
  have hT : IsTb f n X k p := isTb_of HF.out hp1 h80 (by rw [← HE.out, hy2, hF2]; rfl)
  have hlen : F.length = fbN X k p := by rw [hF2, fLt_len]
  have hloc : ∀ b o, fo = some ⟨b, o, none⟩ → w.heap.size ≤ b := fun b o e => by
    rcases V9'.is with ⟨e2, _⟩ | ⟨g2, o2, e2, h2, _⟩
    · rw [e] at e2; cases e2
    · rw [e] at e2
      injection e2 with e2
      injection e2 with e2 _ _
      omega
  have rw1 := (V9'.mid (Mid.of_others hot (Nat.le_refl _) (Nat.lt_succ_self _)) (.inr (by omega))).row
  rw [hlen] at rw1 ⊢
  rw [hF2] at rw1
  rw [hy2]
  obtain rfl := HX.out
  refine ⟨X0, k, p, _, V, fo, fc, hT, rfl, ?_, hEB, hES, rw1, hloc, ?_⟩
  · exact (O9.nm (Nm.of_others hot (.inl rfl)) (by omega)).lower (by omega)
  · exact B9.trans (hot.below (Nat.le_refl _))
end Go.Proofs.YtohjjigkfdhklaaGreat
