/- Bytes copied by the builtin copy, as an equation; bytes put out. / The filter, the index and the end put behind bytes. -/
import Derived.Test.YtohjjigkfdhklaaGreatGf
import Derived.Laws.IdiomCopy
import Derived.Test.YtohjjigkfdhklaaGreatBp
namespace Go.Proofs.YtohjjigkfdhklaaGreat
set_option maxRecDepth 100000
open Go.RowKit
set_option linter.unusedSimpArgs false
set_option linter.unusedVariables false

theorem Tryz.sizeU8 : (Tryz.prog.info? 5).map (·.size) = some 1 := by kernel_rfl
theorem others_setCells (b : Nat) : ∀ (vs : List Value) (o : Nat) (w : World), Others b w (w.setCells b o vs)
  | [], _, w => Others.refl _ _
  | v :: r, o, w => (Others.setCell w b o v).trans (others_setCells b r (o + 1) _)

theorem add_flat (b off i : Nat) : (⟨b, off, none⟩ : Addr).add i = ⟨b, off + i, none⟩ := by unfold Addr.add; split <;> simp_all

/-- m bytes copied into a row of the call's own, from its place k on. -/
theorem copyB_run (w : World) (g N k m dc b o sc : Nat) (h f : Nat → Int) (ho : Own w g 0 N h) (hk : k + m ≤ N) (hbd : ∀ i, 0 ≤ f i ∧ f i ≤ 255) (hs : ∀ i, i < m → w.cell? ⟨b, o + i, none⟩ = some (.int .u8 (f i))) :
    ∃ w', (Builtin.copy_ #[22, 22] 3 #[.slice (some ⟨g, k, none⟩) m dc, .slice (some ⟨b, o, none⟩) m sc]).run Tryz.prog w = .ok (.int .i64 m) w' ∧ Own w' g 0 N (fun i => if k ≤ i ∧ i < k + m then f (i - k) else h i) ∧ Others g w w' := by
  have hl : (bcells f m).length = m := by simp [bcells]
  have hget : ∀ j, j < m → (bcells f m)[j]? = some (.int .u8 (f j)) := fun j hj => by simp [bcells, hj]
  have hrun := run_copy_cells (P := Tryz.prog) w 22 22 3 5 g k m dc ⟨b, o, none⟩ m sc (bcells f m) Tryz.underlying22 Tryz.sizeU8 (by rw [hl]; exact (Nat.min_self m).symm)
    (fun j v hj => by
      have hj' : j < m := by
        rcases Nat.lt_or_ge j m with h | h
        · exact h
        · rw [List.getElem?_eq_none (by omega)] at hj; cases hj
      rw [hget j hj'] at hj
      rw [add_flat, hs j hj', hj])
    (fun j hj => by rw [hl] at hj; have := ho.cell (k + j) (by omega); rw [Nat.zero_add] at this; rw [this]; rfl)
    (fun j hj => by rw [hl] at hj; have := ho.free (k + j) (by omega); rw [Nat.zero_add] at this; exact this)
    (fun v hv => by obtain ⟨j, _, rfl⟩ := List.mem_map.1 hv; rfl)
  refine ⟨_, by rw [hrun, hl]; rfl, ⟨fun i => ?_, ?_, fun i hi => ?_, fun i hi => ?_⟩, others_setCells _ _ _ _⟩
  · by_cases hh : k ≤ i ∧ i < k + m
    · rw [if_pos hh]; exact hbd _
    · rw [if_neg hh]; exact ho.bd i
  · rw [(others_setCells g (bcells f m) k w).size]; exact ho.lt
  · by_cases hh : k ≤ i ∧ i < k + m
    · rw [if_pos hh]
      have := World.cell?_setCells_in g (bcells f m) k w (fun j hj => by rw [hl] at hj; have := ho.cell (k + j) (by omega); rw [Nat.zero_add] at this; rw [this]; rfl) (i - k) (by rw [hl]; omega)
      rw [show 0 + i = k + (i - k) by omega, this]
      simp [bcells]
    · rw [if_neg hh, World.cell?_setCells_out g (bcells f m) k w _ (fun _ _ => by rw [hl]; simp only [Nat.zero_add]; omega)]
      exact ho.cell i hi
  · rw [World.frozen?_setCells]; exact ho.free i hi

theorem made_facts {w w2 : World} {n : Nat} (hown : w2.ownsRow w.heap.size 5 1 (.slice (some ⟨w.heap.size, 0, none⟩) n n) n (madeCells (Value.int .u8 0).cells (n * 1)).toList) (hgrow : w.grownBy w2 none) :
    Below w.heap.size w w2 ∧ Own w2 w.heap.size 0 n (fun _ => 0) := by
  have hlt2 : w.heap.size < w2.heap.size := by
    rcases hown.2 with ⟨h, _⟩ | ⟨g', cap', cur, h, _, hg, _⟩
    · simp at h
    · simp at h; obtain ⟨rfl, _⟩ := h
      exact (Array.getElem?_eq_some_iff.1 hg).1
  exact ⟨(Below.refl _ _).grown hgrow (Nat.le_refl _) (fun k h => by simp at h), own_of_made hown hlt2⟩

/-- The first n bytes as a list. -/
def ffl (f : Nat → Int) (n : Nat) : List Int := (List.range n).map f
theorem ffl_len (f : Nat → Int) (n : Nat) : (ffl f n).length = n := by simp [ffl]
theorem ffl_fl {f : Nat → Int} {n i : Nat} (h : i < n) : fl (ffl f n) i = f i := by simp [fl, ffl, h]
theorem ffl_byt {f : Nat → Int} {n : Nat} (h : ∀ i, 0 ≤ f i ∧ f i ≤ 255) : Byt (ffl f n) := fun x hx => by
  obtain ⟨i, _, rfl⟩ := List.mem_map.1 hx
  exact h i
theorem at_of_cells {w : World} {b off n : Nat} {f : Nat → Int} (hb : ∀ i, 0 ≤ f i ∧ f i ≤ 255) (hlt : b < w.heap.size) (hc : ∀ i, i < n → w.cell? ⟨b, off + i, none⟩ = some (.int .u8 (f i))) : At w b off (ffl f n) :=
  ⟨ffl_byt hb, hlt, fun i hi => by rw [ffl_len] at hi; rw [hc i hi, ffl_fl hi]⟩

/-- Bytes and whether: what is answered. -/
def FO (L : List Int) (ok : Bool) (w : World) (e : Ending) (w' : World) : Prop :=
  ∃ ao c, e = .returned (.tuple #[.slice ao L.length c, .bool ok]) ∧ BV w' w.heap.size w'.heap.size ao L ∧ Below w.heap.size w w'
/-- The bytes of a filter. -/
def fbL (y : Int) (f : Nat → Int) (n : Nat) : List Int := y :: ffl f n
theorem fbL_len (y : Int) (f : Nat → Int) (n : Nat) : (fbL y f n).length = n + 1 := by simp [fbL, ffl_len]
theorem fbL_zero (y : Int) (f : Nat → Int) (n : Nat) : fl (fbL y f n) 0 = y := by simp [fbL, fl]
theorem fbL_succ (y : Int) (f : Nat → Int) (n i : Nat) (h : i < n) : fl (fbL y f n) (i + 1) = f i := by
  have := ffl_fl (f := f) h
  simpa [fbL, fl] using this
/-- What FilterBytes answers. -/
def FBO (y : Int) (n : Nat) (f : Nat → Int) (w : World) (e : Ending) (w' : World) : Prop := (GoodF y n → FO (fbL y f n) true w e w') ∧ (¬ GoodF y n → FO [] false w e w')

set_option maxHeartbeats 1000000 in
theorem filterBytes_impl (y : Int) (ao : Option Addr) (n cap : Nat) (f : Nat → Int) (w : World) (hr : Row w ao n f) (hn : n ≤ 1048576) :
    Calls Tryz.prog 197 #[.agg #[.int .i64 y, .slice ao n cap]] w fun e w' => FBO y n f w e w' := by
  obtain ⟨i0, hi, hz0, hz1, hz2⟩ := info_parts Tryz.info5
  have hB := below_new w (.cells #[.int .i64 y, .slice ao n cap] 55)
  have A0 := FAt.new w y (.slice ao n cap) 55
  go_enter Tryz.func197, Tryz.ntmps197
  go_wp2_with fail
  refine (goodFilter_impl y ao n cap _ hn).mono ?_
  rintro e w1 ⟨b1, rfl, h1, q1⟩
  have A1 := A0.keep q1
  have B1 : Below w.heap.size w w1 := hB.trans (q1.mono (by simp))
  have r1 := hr.keep B1
  have hsw := B1.size
  clear q1 hB A0
  cases b1
  · have K : Hid (¬ GoodF y n) := fun h => by
      have := h1.2 h
      cases this
    clear h1
    go_wp2
    exact bodyPost_ret (v := .tuple #[.slice none 0 0, .bool false]) (by simp [results, Tryz.results197, go_sem]) rfl ⟨fun h => absurd h K.out, fun _ => ⟨none, 0, rfl, bv_nil _ _ _ (Nat.le_refl _), B1⟩⟩
  · have hg := h1.1 rfl
    have HG : Hid (GoodF y n) := hg
    obtain ⟨⟨hy1, hy8⟩, hn1, hn2⟩ := hg
    obtain ⟨b, off, rfl, hblt, hcell⟩ := r1.lies.resolve_left (by omega)
    have hbd := r1.bd
    clear h1 r1 hr
    obtain ⟨la, a0, a1⟩ := id A1
    go_wp2_with (at_make; refine wpList_make_full _ rfl (.tmp 11) (.tmp 11) 22 rfl w1.heap.size 5 i0 (.int .u8 0) 1 Tryz.underlying22 hi hz0 hz1 .i64 .i64 _ _ (n + 1) rfl rfl (by simp; omega) (by simp; omega) (by rw [hz2]; omega) (by unfold maxLen; omega) (Nat.le_refl _) ?_; intro w2 hown hgrow; obtain ⟨hb2, ho⟩ := made_facts hown hgrow; clear hown hgrow; have A2 := A1.keep hb2; obtain ⟨_, d0, d1⟩ := id A2; have hd := ho.cell 0 (by omega); have hfz := ho.free 0 (by omega); simp only [Nat.add_zero] at hd hfz)
    have hst := ho.store 0 (by omega) y (by omega)
    simp only [Nat.add_zero] at hst
    have B2 : Below w.heap.size w w2 := B1.trans (hb2.mono hsw)
    have hst' := hst.keep (Below.refl _ _).drew
    have hoth : Others w1.heap.size w2 (w2.setCell ⟨w1.heap.size, 0, none⟩ (.int .u8 y)) := Others.setCell _ _ _ _
    have A3 : FAt (w2.setCell ⟨w1.heap.size, 0, none⟩ (.int .u8 y)).drew w.heap.size y (.slice (some ⟨b, off, none⟩) n cap) := (A2.mid (Mid.of_others (B := w1.heap.size) (U := w1.heap.size + 1) hoth (Nat.le_refl _) (by omega)) (by have := A1.lt; omega)).keep (Below.refl _ _).drew
    have hcell3 : ∀ i, i < n → (w2.setCell ⟨w1.heap.size, 0, none⟩ (.int .u8 y)).drew.cell? ⟨b, off + i, none⟩ = some (.int .u8 (f i)) := fun i hi => by
      have e1 := World.cell?_of_block (w := w2) (a := ⟨b, off + i, none⟩) (hoth.block b (by omega))
      exact e1.trans ((hb2.cell (p := ⟨b, off + i, none⟩) hblt).trans (hcell i hi))
    obtain ⟨w4, hrun, o4, q4⟩ := copyB_run _ w1.heap.size (n + 1) 1 n n b off cap _ f hst' (by omega) hbd hcell3
    have B4 : Below w.heap.size w w4 := (B2.trans (hoth.below hsw)).drew.trans (q4.below hsw)
    have o5 : Own w4 w1.heap.size 0 (fbL y f n).length (fl (fbL y f n)) := by
      rw [fbL_len]
      refine o4.congr (Byt.fl (byt_cons (by omega) (ffl_byt hbd))) (fun i hi => ?_)
      by_cases h0 : i = 0
      · subst h0; rw [fbL_zero]; simp
      · obtain ⟨j, rfl⟩ : ∃ j, i = j + 1 := ⟨i - 1, by omega⟩
        rw [fbL_succ _ _ _ _ (by omega), if_pos (by omega)]
        simp
    have V5 : BV w4 w.heap.size w4.heap.size (some ⟨w1.heap.size, 0, none⟩) (fbL y f n) := ⟨byt_cons (by omega) (ffl_byt hbd), Nat.le_refl _, .inr ⟨_, _, rfl, hsw, o5.lt, o5⟩⟩
    have HF : Hid (FO (fbL y f n) true w (.returned (.tuple #[.slice (some ⟨w1.heap.size, 0, none⟩) (n + 1) (n + 1), .bool true])) w4) := ⟨_, _, by rw [fbL_len], V5, B4⟩
    obtain ⟨_, c0, c1⟩ := A3
    clear ho hst hst' o4 o5 V5 B4 q4 hcell3 hcell A1
    go_region
    go_wp2
    exact bodyPost_ret (v := .tuple #[.slice (some ⟨w1.heap.size, 0, none⟩) (n + 1) (n + 1), .bool true]) (by simp [results, Tryz.results197, go_sem]) rfl ⟨fun _ => HF.out, fun h => absurd HG.out h⟩
end Go.Proofs.YtohjjigkfdhklaaGreat
namespace Go.Proofs.YtohjjigkfdhklaaGreat
set_option maxRecDepth 100000
open Go.RowKit
set_option linter.unusedSimpArgs false
set_option linter.unusedVariables false

set_option maxHeartbeats 800000 in
theorem appendField_any (base : Nat) (a : Option Addr) (cp : Nat) (L : List Int) (n : Int) (w : World) (hown : OwnL w base (.slice a L.length cp) L) (hn : 0 ≤ n ∧ n ≤ 4294967295) (hL : L.length ≤ 1000000) (hbs : base ≤ w.heap.size) :
    Calls Tryz.prog 190 #[.slice a L.length cp, .int .i64 n] w fun e w' => Putt base (.slice a L.length cp) L (pfL n 4) w e w' := by
  have hp4 := pfL_length n 4
  go_enter Tryz.func190, Tryz.ntmps190
  go_wp2_with fail
  refine (putFixed_impl_yes n 4 w (by omega) (by omega) (by omega) (by omega)).mono ?_
  rintro e w1 ⟨g, off, c1, rfl, hg, ho, q1⟩
  have P1 := (pc_start hown hbs).keep q1
  have A1 := pfL_at ho
  go_wp2_with (at_builtin; refine wpList_app rfl (.tmp 12) (.tmp 13) rfl base _ L rfl P1.own g off 4 c1 (pfL n 4) rfl hp4.symm A1 (by omega) P1.bs ?_; intro v2 w2 o2 gr2 ha2; have P2 := P1.put o2 gr2 (nb_of ha2))
  go_ret
  exact ⟨_, rfl, P2.own, P2.gr, P2.nb⟩

theorem PC.trans {base : Nat} {w w1 w2 : World} {v v1 v2 : Value} {L M : List Int} (h : PC base w v w1 v1 L) (k : PC base w1 v1 w2 v2 M) : PC base w v w2 v2 M := h.put k.own k.gr k.nb
theorem OwnL.rowOf {w : World} {base : Nat} {ao : Option Addr} {c : Nat} {L : List Int} (h : OwnL w base (.slice ao L.length c) L) : Row w ao L.length (fl L) := by
  obtain ⟨ao', c', e, hl, _⟩ := h.lie
  injection e with e1 e2 e3
  subst e1 e3
  rcases hl with ⟨rfl, _, rfl⟩ | ⟨b, off, rfl, hA⟩
  · exact ⟨h.bd.fl, .inl rfl⟩
  · exact hA.row
/-- Numbers in four bytes each, one behind the other. -/
def fsL (N : List Int) : List Int := N.flatMap fun x => pfL x 4
theorem fsL_len (N : List Int) : (fsL N).length = 4 * N.length := by
  induction N with
  | nil => simp [fsL]
  | cons x N ih =>
    have := pfL_length x 4
    simp only [fsL, List.flatMap_cons, List.length_append, List.length_cons] at *
    omega
theorem fsL_take {N : List Int} {k : Nat} (h : k < N.length) : fsL (N.take (k + 1)) = fsL (N.take k) ++ pfL (fi N k) 4 := by
  have e : N.take (k + 1) = N.take k ++ [fi N k] := by rw [List.take_succ_eq_append_getElem h]; simp [fi, h]
  rw [e]
  simp [fsL]

set_option maxHeartbeats 1600000 in
theorem appendEnd_any (base : Nat) (a : Option Addr) (cp : Nat) (L : List Int) (p q r : Int) (N : List Int) (hNe : [p, q, r] = N) (w : World) (hown : OwnL w base (.slice a L.length cp) L) (hp : 0 ≤ p ∧ p ≤ 4294967295) (hq : 0 ≤ q ∧ q ≤ 4294967295) (hr : 0 ≤ r ∧ r ≤ 4294967295) (hL : L.length ≤ 900000) (hbs : base ≤ w.heap.size) :
    Calls Tryz.prog 189 #[.agg #[.int .i64 p, .int .i64 q, .int .i64 r], .slice a L.length cp] w fun e w' => Putt base (.slice a L.length cp) L (fsL N ++ pfL (crcL (L ++ fsL N)) 4 ++ [84, 66, 76, 49]) w e w' := by
  have hN : ∀ i, i < [p, q, r].length → 0 ≤ fi [p, q, r] i ∧ fi [p, q, r] i ≤ 4294967295 := fun i hi => by
    simp only [List.length_cons, List.length_nil] at hi
    match i, hi with
    | 0, _ => exact hp
    | 1, _ => exact hq
    | 2, _ => exact hr
  have hB1 := below_new w (.cells #[.int .i64 p, .int .i64 q, .int .i64 r] 87)
  have P1 := (pc_start hown hbs).keep hB1
  go_enter Tryz.func189, Tryz.ntmps189
  go_wp2
  have hB2 := below_new (w.alloc (.cells #[.int .i64 p, .int .i64 q, .int .i64 r] 87)) (.cells #[.int .i64 p, .int .i64 q, .int .i64 r] 3)
  have I2 := ints_new (w.alloc (.cells #[.int .i64 p, .int .i64 q, .int .i64 r] 87)) [p, q, r] 3
  have P2 := P1.keep hB2
  have ne2 : (Value.slice a L.length cp).ownBlock ≠ some (w.heap.size + 1) := hown.neBlock (.inl (by omega))
  have lt2 : w.heap.size + 1 < ((w.alloc (.cells #[.int .i64 p, .int .i64 q, .int .i64 r] 87)).alloc (.cells #[.int .i64 p, .int .i64 q, .int .i64 r] 3)).heap.size := by simp
  simp only [World.size_alloc] at I2
  have e2 : (w.alloc (.cells #[.int .i64 p, .int .i64 q, .int .i64 r] 87)).alloc (.cells ([p, q, r].map (Value.int .i64)).toArray 3) = (w.alloc (.cells #[.int .i64 p, .int .i64 q, .int .i64 r] 87)).alloc (.cells #[.int .i64 p, .int .i64 q, .int .i64 r] 3) := rfl
  rw [e2] at I2
  clear e2 hB1 hB2 P1
  generalize (w.alloc (.cells #[.int .i64 p, .int .i64 q, .int .i64 r] 87)).alloc (.cells #[.int .i64 p, .int .i64 q, .int .i64 r] 3) = w2 at *
  have hN3 : N.length = 3 := by rw [← hNe]; rfl
  rw [hNe] at I2 hN
  go_loopw [1, 15] (fun v i wr => ∃ (k mm cp' : Nat) (a' : Option Addr), k ≤ 3 ∧ i = .int .i64 k ∧ v = .slice a' mm cp' ∧ mm = (L ++ fsL (N.take k)).length ∧ PC base w2 (.slice a L.length cp) wr (.slice a' (L ++ fsL (N.take k)).length cp') (L ++ fsL (N.take k))) (fun _ i _ => 3 - (intOf i).toNat)
  case atStart => exact ⟨0, _, cp, a, Nat.zero_le _, rfl, rfl, by simp [fsL], by simpa [fsL] using pc_start P2.own P2.bs⟩
  case round =>
    obtain ⟨k, mm, cp', a', hk, rfl, rfl, rfl, hP⟩ := hrel
    by_cases hlt : k < 3
    · have h1 : wr.cell? ⟨w.heap.size + 1, k, none⟩ = some (.int .i64 (fi N k)) := hP.gr.cell (I2 k (by omega)) (fun e => ne2 e.symm)
      have hx := hN k (by omega)
      have hlen : (L ++ fsL (N.take k)).length ≤ 900012 := by
        rw [List.length_append, fsL_len, List.length_take]; omega
      have HL : Hid (L ++ fsL (N.take (k + 1)) = L ++ fsL (N.take k) ++ pfL (fi N k) 4) := by unfold Hid; rw [fsL_take (by omega), List.append_assoc]
      clear hN I2
      generalize L ++ fsL (N.take k) = M at *
      generalize fi N k = x at *
      go_wp2_with fail
      refine (appendField_any base a' cp' M x wr hP.own hx (by omega) hP.bs).mono ?_
      rintro e w3 ⟨v3, rfl, o3, gr3, n3⟩
      rw [← HL.out] at o3
      have P3 := hP.put o3 gr3 n3
      obtain ⟨a3, c3, rfl⟩ := o3.form
      go_wp2
      go_roundw
      case rel => exact ⟨k + 1, _, c3, a3, by omega, by go_num, rfl, by first | rfl | simp, P3⟩
      case measure => simp [intOf]; omega
    · obtain rfl : k = 3 := by omega
      have e3 : N.take 3 = N := by rw [← hN3]; exact List.take_length
      rw [e3] at hP ⊢
      have hlen : (L ++ fsL N).length ≤ 900012 := by
        rw [List.length_append, fsL_len]; omega
      obtain ⟨M, HM⟩ : ∃ M, Hid (L ++ fsL N = M) := ⟨_, rfl⟩
      rw [HM.out] at hP hlen ⊢
      have HP2 : Hid (PC base w (.slice a L.length cp) wr (.slice a' M.length cp') M) := P2.trans hP
      have hcb := crcL_bd M
      have hwc : IntKind.i64.wrap (crcL M) = crcL M := by rw [IntKind.wrap_i64]; omega
      clear P2 hN I2 hNe
      go_wp2_with fail
      refine (crc_impl a' M.length cp' (fl M) wr hP.own.rowOf (by omega)).mono ?_
      rintro e w3 ⟨he, q3⟩
      rw [show crcOf (fl M) M.length = crcL M from rfl] at he
      subst he
      have P3 := HP2.out.keep q3
      generalize hcc : crcL M = cc at *
      go_wp2_with fail
      refine (appendField_any base a' cp' M cc w3 P3.own hcb (by omega) P3.bs).mono ?_
      rintro e w4 ⟨v4, rfl, o4, gr4, n4⟩
      obtain ⟨M4, HM4⟩ : ∃ M4, Hid (M ++ pfL cc 4 = M4) := ⟨_, rfl⟩
      have hl4 : M4.length ≤ 900020 := by rw [← HM4.out, List.length_append, pfL_length]; omega
      rw [HM4.out] at o4
      have P4 := P3.put o4 gr4 n4
      obtain ⟨a4, c4, rfl⟩ := o4.form
      go_wp2_with (at_builtin; refine wpList_appT rfl (.tmp 28) (.const (.string ⟨#[84, 66, 76, 49]⟩)) rfl base _ M4 rfl P4.own ⟨#[84, 66, 76, 49]⟩ rfl (by rw [show (⟨#[84, 66, 76, 49]⟩ : ByteArray).size = 4 from rfl]; omega) P4.bs ?_; intro v5 w5 o5 gr5 ha5; have P5 := P4.put o5 gr5 (nb_of ha5))
      go_ret
      have hE : L ++ (fsL N ++ pfL (crcL (L ++ fsL N)) 4 ++ [84, 66, 76, 49]) = M4 ++ bytesOf ⟨#[84, 66, 76, 49]⟩ := by
        rw [HM.out, hcc, ← HM4.out, ← HM.out]
        simp [bytesOf, List.append_assoc]
      exact ⟨_, rfl, by rw [hE]; exact P5.own, P5.gr, P5.nb⟩

set_option maxHeartbeats 800000 in
theorem appendFilter_any (base : Nat) (a : Option Addr) (cp : Nat) (L : List Int) (y : Int) (fo : Option Addr) (n fc : Nat) (f : Nat → Int) (w : World) (hown : OwnL w base (.slice a L.length cp) L) (hr : Row w fo n f) (hg : GoodF y n) (hn : n ≤ 1000) (hL : L.length ≤ 900000) (hbs : base ≤ w.heap.size) :
    Calls Tryz.prog 196 #[.agg #[.int .i64 y, .slice fo n fc], .slice a L.length cp] w fun e w' => Putt base (.slice a L.length cp) L (fbL y f n) w e w' := by
  have hB1 := below_new w (.cells #[.int .i64 y, .slice fo n fc] 96)
  have P1 := (pc_start hown hbs).keep hB1
  have R1 := hr.keep hB1
  go_enter Tryz.func196, Tryz.ntmps196
  go_wp2_with fail
  refine (filterBytes_impl y fo n fc f _ R1 (by omega)).mono ?_
  intro e w2 h2
  obtain ⟨ao, c, rfl, hBV, q2⟩ := h2.1 hg
  have hlen := fbL_len y f n
  have P2 := P1.keep q2
  obtain ⟨g, off, rfl, A2⟩ : ∃ g off, ao = some ⟨g, off, none⟩ ∧ At w2 g off (fbL y f n) := by
    rcases hBV.is with ⟨_, h0⟩ | ⟨g, off, e, _, _, ho⟩
    · rw [h0] at hlen; simp at hlen
    · exact ⟨g, off, e, hBV.bd, ho.lt, ho.cell⟩
  go_wp2_with (at_builtin; refine wpList_app rfl (.tmp 13) (.tmp 14) rfl base _ L rfl P2.own g off _ c (fbL y f n) rfl (by first | exact hlen.symm | rfl) A2 (by omega) P2.bs ?_; intro v3 w3 o3 gr3 ha3; have P3 := P2.put o3 gr3 (nb_of ha3))
  go_ret
  exact ⟨_, rfl, P3.own, P3.gr, P3.nb⟩

/-- What the index says of its rows, one behind the other. -/
def ixL (K : Nat → ByteArray) (A B : Nat → Int) : Nat → List Int
  | 0 => []
  | j + 1 => ixL K A B j ++ (pvL ((K j).size : Nat) ++ bytesOf (K j) ++ pvL (A j) ++ pvL (B j))
theorem ixL_len (K : Nat → ByteArray) (A B : Nat → Int) (j : Nat) (h : ∀ i, i < j → (K i).size ≤ 140) : (ixL K A B j).length ≤ 170 * j := by
  induction j with
  | zero => simp [ixL]
  | succ j ih =>
    have h1 := ih fun i hi => h i (by omega)
    have h2 := pvL_le ((K j).size : Nat)
    have h3 := pvL_le (A j)
    have h4 := pvL_le (B j)
    have h5 := h j (by omega)
    simp only [ixL, List.length_append, bytesOf_len]
    omega
/-- Rows of an index in block g. -/
structure XAt (w : World) (g m : Nat) (K : Nat → ByteArray) (A B : Nat → Int) : Prop where
  lt : g < w.heap.size
  c0 : ∀ i, i < m → w.cell? ⟨g, i * 3, none⟩ = some (.string (K i))
  c1 : ∀ i, i < m → w.cell? ⟨g, i * 3 + 1, none⟩ = some (.int .i64 (A i))
  c2 : ∀ i, i < m → w.cell? ⟨g, i * 3 + 2, none⟩ = some (.int .i64 (B i))
theorem XAt.grown {w w' : World} {g m : Nat} {K : Nat → ByteArray} {A B : Nat → Int} {row : Option Nat} (h : XAt w g m K A B) (hg : w.grownBy w' row) (hne : row ≠ some g) : XAt w' g m K A B :=
  ⟨Nat.lt_of_lt_of_le h.lt hg.size, fun i hi => hg.cell (h.c0 i hi) (fun e => hne e.symm), fun i hi => hg.cell (h.c1 i hi) (fun e => hne e.symm), fun i hi => hg.cell (h.c2 i hi) (fun e => hne e.symm)⟩

/-- A row of an index in a box. -/
structure XBox (w : World) (b : Nat) (k : ByteArray) (x y : Int) : Prop where
  lt : b < w.heap.size
  c0 : w.cell? ⟨b, 0, none⟩ = some (.string k)
  c1 : w.cell? ⟨b, 1, none⟩ = some (.int .i64 x)
  c2 : w.cell? ⟨b, 2, none⟩ = some (.int .i64 y)
theorem XBox.new (w : World) (k : ByteArray) (x y : Int) (T : Nat) : XBox (w.alloc (.cells #[.string k, .int .i64 x, .int .i64 y] T)) w.heap.size k x y := by
  refine ⟨by simp, ?_, ?_, ?_⟩ <;> simp [go_sem]
theorem XBox.grown {w w' : World} {b : Nat} {k : ByteArray} {x y : Int} {row : Option Nat} (h : XBox w b k x y) (hg : w.grownBy w' row) (hne : row ≠ some b) : XBox w' b k x y :=
  ⟨Nat.lt_of_lt_of_le h.lt hg.size, hg.cell h.c0 (fun e => hne e.symm), hg.cell h.c1 (fun e => hne e.symm), hg.cell h.c2 (fun e => hne e.symm)⟩
theorem XBox.keep {w w' : World} {b : Nat} {k : ByteArray} {x y : Int} (h : XBox w b k x y) (hb : Below w.heap.size w w') : XBox w' b k x y := h.grown (grown_of_below hb none) (by simp)

set_option maxHeartbeats 4000000 in
theorem appendIndex_any (base : Nat) (a : Option Addr) (cp : Nat) (L : List Int) (g m gc : Nat) (K : Nat → ByteArray) (A B : Nat → Int) (w : World) (hown : OwnL w base (.slice a L.length cp) L) (hX : XAt w g m K A B) (hne : (Value.slice a L.length cp).ownBlock ≠ some g)
    (hK : ∀ i, i < m → (K i).size ≤ 140) (hA : ∀ i, i < m → 0 ≤ A i ∧ A i ≤ 1000000) (hBd : ∀ i, i < m → 0 ≤ B i ∧ B i ≤ 1000000) (hm : m ≤ 1000) (hL : L.length ≤ 500000) (hbs : base ≤ w.heap.size) :
    Calls Tryz.prog 186 #[.slice (some ⟨g, 0, none⟩) m gc, .slice a L.length cp] w fun e w' => Putt base (.slice a L.length cp) L (ixL K A B m) w e w' := by
  go_enter Tryz.func186, Tryz.ntmps186
  go_wp2
  go_loopw [1, 9] (fun v i wr => ∃ (k mm cp' : Nat) (a' : Option Addr), k ≤ m ∧ i = .int .i64 k ∧ v = .slice a' mm cp' ∧ mm = (L ++ ixL K A B k).length ∧ PC base w (.slice a L.length cp) wr (.slice a' (L ++ ixL K A B k).length cp') (L ++ ixL K A B k)) (fun _ i _ => m - (intOf i).toNat)
  case atStart => exact ⟨0, _, cp, a, Nat.zero_le _, rfl, rfl, by simp [ixL], by simpa [ixL] using pc_start hown hbs⟩
  case round =>
    obtain ⟨k, mm, cp', a', hk, rfl, rfl, rfl, hP⟩ := hrel
    by_cases hlt : k < m
    · have hXr := hX.grown hP.gr hne
      have x0 := hXr.c0 k hlt
      have x1 := hXr.c1 k hlt
      have x2 := hXr.c2 k hlt
      have hKk := hK k hlt
      have hAk := hA k hlt
      have hBk := hBd k hlt
      have hlen : (L ++ ixL K A B k).length ≤ 500000 + 170 * k := by
        have := ixL_len K A B k fun i hi => hK i (by omega)
        rw [List.length_append]; omega
      have HL : Hid (L ++ ixL K A B (k + 1) = L ++ ixL K A B k ++ (pvL ((K k).size : Nat) ++ bytesOf (K k) ++ pvL (A k) ++ pvL (B k))) := by unfold Hid; rw [ixL, ← List.append_assoc L]
      clear hX hXr hK hA hBd
      generalize L ++ ixL K A B k = M at *
      generalize K k = s at *
      generalize A k = p at *
      generalize B k = q at *
      have hB1 := below_new wr (.cells #[.string s, .int .i64 p, .int .i64 q] 127)
      have P1 := hP.keep hB1
      have neB : (Value.slice a' M.length cp').ownBlock ≠ some wr.heap.size := hP.own.neBlock (.inl (Nat.le_refl _))
      have E1 := XBox.new wr s p q 127
      go_wp2_with fail
      refine (appendNumbers_any base a' cp' M (wr.heap.size + 1) 1 [(s.size : Int)] _ (P1.keep (below_new _ _)).own (by simp) (by have := ints_new (wr.alloc (.cells #[.string s, .int .i64 p, .int .i64 q] 127)) [(s.size : Int)] 3; simpa using this) (P1.own.neBlock (.inl (by simp))) (fun i hi => ?_) (by simp only [List.length_cons, List.length_nil]; omega) (P1.keep (below_new _ _)).bs).mono ?_
      · simp only [List.length_cons, List.length_nil] at hi
        match i, hi with
        | 0, _ => simp [fi]; omega
      rintro e w3 ⟨v3, rfl, o3, gr3, n3⟩
      obtain ⟨M3, HM3⟩ : ∃ M3, Hid (M ++ nsL [(s.size : Int)] = M3) := ⟨_, rfl⟩
      have hl3 : M3.length ≤ 700000 := by
        have := nsL_len [(s.size : Int)]
        simp only [List.length_cons, List.length_nil] at this
        rw [← HM3.out, List.length_append]; omega
      rw [HM3.out] at o3
      have P3 := (P1.keep (below_new _ _)).put o3 gr3 n3
      have E3 := (E1.keep (below_new _ _)).grown gr3 neB
      have neB3 := n3.ne neB (E1.keep (below_new _ _)).lt
      obtain ⟨a3, c3, rfl⟩ := o3.form
      obtain ⟨_, g0, g1, g2⟩ := E3
      have E3 : XBox w3 wr.heap.size s p q := ⟨by assumption, g0, g1, g2⟩
      clear x0 x1 x2
      go_wp2_with (at_builtin; refine wpList_appT rfl (.tmp 19) (.tmp 21) rfl base _ M3 rfl P3.own s rfl (by omega) P3.bs ?_; intro v4 w4 o4 gr4 ha4; obtain ⟨M4, HM4⟩ : ∃ M4, Hid (M3 ++ bytesOf s = M4) := ⟨_, rfl⟩; have hl4 : M4.length ≤ 700140 := (by rw [← HM4.out, List.length_append, bytesOf_len]; omega); rw [HM4.out] at o4; have P4 := P3.put o4 gr4 (nb_of ha4); have E4 := E3.grown gr4 neB3; have neB4 := (nb_of ha4).ne neB3 E3.lt; obtain ⟨a4, c4, rfl⟩ := o4.form; have E4' := E4; obtain ⟨_, t0, t1, t2⟩ := E4')
      refine (appendNumbers_any base a4 c4 M4 w4.heap.size 2 [p, q] _ (P4.keep (below_new _ _)).own (by simp) (ints_new w4 [p, q] 3) (P4.own.neBlock (.inl (Nat.le_refl _))) (fun i hi => ?_) (by simp only [List.length_cons, List.length_nil]; omega) (P4.keep (below_new _ _)).bs).mono ?_
      · simp only [List.length_cons, List.length_nil] at hi
        match i, hi with
        | 0, _ => simp [fi]; omega
        | 1, _ => simp [fi]; omega
      rintro e w5 ⟨v5, rfl, o5, gr5, n5⟩
      have HM5 : Hid (L ++ ixL K A B (k + 1) = M4 ++ nsL [p, q]) := by
        unfold Hid
        rw [HL.out, ← HM4.out, ← HM3.out]
        simp [nsL, List.append_assoc]
      rw [← HM5.out] at o5
      have P5 := (P4.keep (below_new _ _)).put o5 gr5 n5
      obtain ⟨a5, c5, rfl⟩ := o5.form
      go_wp2
      go_roundw
      case rel => exact ⟨k + 1, _, c5, a5, by omega, by go_num, rfl, by first | rfl | simp, P5⟩
      case measure => simp [intOf]; omega
    · obtain rfl : k = m := by omega
      go_wp2
      go_ret
      obtain ⟨h1, h2, h3, h4⟩ := hP
      exact ⟨_, rfl, h1, h2, h3⟩
end Go.Proofs.YtohjjigkfdhklaaGreat
