/- The law of ReadEdit, walked. -/
import Derived.Test.YtdcmclbbecnihaaSv
import Derived.Test.YtdcmclbbecnihaaMarks
import Derived.Test.YtdcmclbbecnihaaBy
import Derived.Test.YtdcmclbbecnihaaBV
import Derived.Test.YtdcmclbbecnihaaEd
namespace Go.Proofs.Ytdcmclbbecnihaa
open Go.RowKit
set_option linter.unusedSimpArgs false
set_option linter.unusedVariables false

set_option maxHeartbeats 400000 in
theorem toByteS_any (ao : Option Addr) (n cap : Nat) (f : Nat → Int) (w : World) (hr : Row w ao n f) (hn : n ≤ 1048576) :
    Calls Try.prog 31 #[.slice ao n cap] w fun e w' => e = .returned (.slice (some ⟨w.heap.size, 0, none⟩) n n) ∧ Own w' w.heap.size 0 n f ∧ Below w.heap.size w w' := by
  obtain ⟨i0, hi, hz0, hz1, hz2⟩ := info_parts Try.info5
  obtain ⟨hbd, hlies⟩ := hr
  go_enter Try.func31, Try.ntmps31
  go_wp2_with (at_make; refine wpList_make_full _ rfl (.tmp 6) (.tmp 6) 50 rfl w.heap.size 5 i0 (.int .u8 0) 1 Try.underlying50 hi hz0 hz1 .i64 .i64 _ _ n rfl rfl rfl rfl (by rw [hz2]; omega) (by unfold maxLen; omega) (Nat.le_refl _) ?_; intro w1 hown hgrow)
  have hb1 : Below w.heap.size w w1 := (Below.refl _ _).grown hgrow (Nat.le_refl _) (fun k h => by simp at h)
  have hlt1 : w.heap.size < w1.heap.size := by
    rcases hown.2 with ⟨h, _⟩ | ⟨g', cap', cur, h, _, hg, _⟩
    · simp at h
    · simp at h; obtain ⟨rfl, _⟩ := h
      exact (Array.getElem?_eq_some_iff.1 hg).1
  have ho := own_of_made hown hlt1
  clear hown hgrow
  go_loopw [4] (fun i wr => ∃ k : Nat, k ≤ n ∧ i = .int .i64 k ∧ Own wr w.heap.size 0 n (fun j => if j < k then f j else 0) ∧ Below w.heap.size w wr) (fun i _ => n - (intOf i).toNat)
  case atStart => exact ⟨0, Nat.zero_le _, rfl, by simpa using ho, hb1⟩
  case round =>
    obtain ⟨k, hk, rfl, hok, hbk⟩ := hrel
    by_cases hlt : k < n
    · obtain ⟨b, off, rfl, hblt, hc⟩ := hlies.resolve_left (by omega)
      have hcell : wr.cell? ⟨b, off + k, none⟩ = some (.int .u8 (f k)) := (hbk.cell (p := ⟨b, off + k, none⟩) hblt).trans (hc k hlt)
      have hd := hok.cell k hlt
      have hfz := hok.free k hlt
      simp only [Nat.zero_add] at hd hfz
      have hst := hok.store k hlt (f k) (hbd k)
      simp only [Nat.zero_add] at hst
      clear hc hlies ho
      go_wp2
      go_roundw
      case rel => exact ⟨k + 1, by omega, by go_num, hst.congr (fun i => by by_cases h : i < k + 1 <;> simp [h, hbd i]) (fun i _ => by by_cases h1 : i = k <;> by_cases h2 : i < k <;> simp [h1, h2] <;> omega), hbk.setCell (Nat.le_refl _) _⟩
      case measure => simp [intOf]; omega
    · go_wp2
      go_ret
      exact ⟨rfl, hok.congr hbd (fun i hi => by rw [if_pos (by omega)]), hbk⟩

theorem EX.midR {B U : Nat} {w w' : World} {b : Nat} {nx lg sq : Int} {dv av : Value} (h : EX w b nx lg sq dv av) (hm : Mid B U w w') (hne : b < B ∨ U ≤ b) : EX w' b nx lg sq dv av := h.same hm.size (hm.block b h.lt hne)
theorem EA.midR {w w' : World} {lo hi lo' hi' : Nat} {da aa : Option Addr} {nd na : Nat} {f : Nat → Int} {Y : Nat → Adm} (h : EA w lo hi da nd f aa na Y) (hm : Mid lo' hi' w w') (hd : hi ≤ lo' ∨ hi' ≤ lo) : EA w' lo hi da nd f aa na Y :=
  h.same hm.size (fun c h1 h2 => hm.block c (Nat.lt_of_lt_of_le h2 h.top) (by omega))
theorem mtLoop_sz : ∀ (f : Nat) (k : Int) (out : ByteArray), (mtLoop f k out).size ≤ out.size + f
  | 0, k, out => by simp [mtLoop]
  | f + 1, k, out => by
    unfold mtLoop
    split
    · have := mtLoop_sz f (k / 10) (strOfNums [48 + k % 10] ++ out)
      rw [ByteArray.size_append, strOf_size] at this
      simp only [List.length_cons, List.length_nil] at this
      omega
    · omega
theorem mt_sz (k : Int) : (mt k).size ≤ k.toNat + 1 := by
  unfold mt
  have := mtLoop_sz k.toNat k ⟨#[]⟩
  rw [ByteArray.size_append]
  have e1 : (⟨#[109]⟩ : ByteArray).size = 1 := rfl
  have e2 : (⟨#[]⟩ : ByteArray).size = 0 := rfl
  omega
theorem mkD_db (k : Nat) (hk : k ≤ 16000000) : DB (mkD (k : Int)) :=
  ⟨⟨by show _ ≤ (k : Int); omega, by show (k : Int) ≤ _; omega⟩, ⟨by show _ ≤ (k : Int) + 1; omega, by show (k : Int) + 1 ≤ _; omega⟩, ⟨by show _ ≤ (k : Int) + 4; omega, by show (k : Int) + 4 ≤ _; omega⟩, by show (mt ((k : Int) + 2)).size ≤ _; have := mt_sz ((k : Int) + 2); omega, by show (mt ((k : Int) + 3)).size ≤ _; have := mt_sz ((k : Int) + 3); omega⟩
section
variable (nx lg sq : Int) (da : Option Addr) (cd : Nat) (aa : Option Addr) (ca lo hi : Nat)
theorem eqEditV (nx lg sq : Int) (da db : Option Addr) (cd ce : Nat) (aa ab : Option Addr) (ca cb lo hi lo' hi' : Nat) (D : List Int) (A : List Adm) (w : World) (h : EA w lo hi da D.length (fi D) aa A.length (dL A)) (k : EA w lo' hi' db D.length (fi D) ab A.length (dL A)) (hb : ∀ i, i < A.length → DB (dL A i)) (hd : D.length ≤ 1048576) (ha : A.length ≤ 1048576) :
    Calls Try.prog 23 #[.agg #[.int .i64 nx, .int .i64 lg, .int .i64 sq, .slice da D.length cd, .slice aa A.length ca], .agg #[.int .i64 nx, .int .i64 lg, .int .i64 sq, .slice db D.length ce, .slice ab A.length cb]] w fun e w' => e = .returned (.bool true) ∧ Below w.heap.size w w' :=
  eqEdit_same nx lg sq da db D.length cd ce (fi D) aa ab A.length ca cb (dL A) w h.irow k.irow (h.drow hb) (k.drow hb) hd ha
/-- An edit whose lists bear the marks. -/
def EMk (w : World) (lo hi : Nat) (da : Option Addr) (nd : Nat) (aa : Option Addr) (na : Nat) : Prop := EA w lo hi da nd (mkI 1) aa na (fun i => mkD ((1 + nd + 5 * i : Nat) : Int))
theorem EMk.keep {w w' : World} {lo hi nd na : Nat} {da aa : Option Addr} (h : EMk w lo hi da nd aa na) (hb : Below w.heap.size w w') : EMk w' lo hi da nd aa na := EA.keep h hb
theorem markEditV (D : List Int) (A : List Adm) (w : World) (h : EA w lo hi da D.length (fi D) aa A.length (dL A)) (hd : D.length ≤ 1048576) (ha : A.length ≤ 1048576) :
    Calls Try.prog 24 #[.agg #[.int .i64 nx, .int .i64 lg, .int .i64 sq, .slice da D.length cd, .slice aa A.length ca], .int .i64 1] w fun e w' => e = .returned (.int .i64 ((1 + D.length + 5 * A.length : Nat) : Int)) ∧ EMk w' lo hi da D.length aa A.length ∧ Mid lo hi w w' :=
  (markEdit_any nx lg sq lo hi da D.length cd (fi D) aa A.length ca (dL A) w h hd ha).mono fun e w' ⟨h1, h2, h3⟩ => ⟨h1, h2, ⟨h3.os, h3.tape, h3.output, h3.size, h3.block⟩⟩
theorem heldEditV (nd na : Nat) (w : World) (h : EMk w lo hi da nd aa na) (hd : nd ≤ 1048576) (ha : na ≤ 1048576) :
    Calls Try.prog 33 #[.agg #[.int .i64 nx, .int .i64 lg, .int .i64 sq, .slice da nd cd, .slice aa na ca], .int .i64 1] w fun e w' => e = .returned (.int .i64 ((1 + nd + 5 * na : Nat) : Int)) ∧ Below w.heap.size w w' :=
  heldEdit_yes nx lg sq da nd cd aa na ca w (EA.irow h) (EA.drow h (fun i hi => mkD_db _ (by omega))) hd ha
end
/-- What ReadEdit answers. -/
def EO (nx lg sq : Int) (D : List Int) (A : List Adm) (ok : Bool) (w : World) (e : Ending) (w' : World) : Prop :=
  ∃ da cd aa ca, e = .returned (.tuple #[.agg #[.int .i64 nx, .int .i64 lg, .int .i64 sq, .slice da D.length cd, .slice aa A.length ca], .bool ok]) ∧ Hid (∀ i, i < A.length → DB (dL A i)) ∧ EA w' w.heap.size w'.heap.size da D.length (fi D) aa A.length (dL A) ∧ Below w.heap.size w w'
theorem isE_ex (f : Nat → Int) (n : Nat) : ∃ nx lg sq D A ok, (∀ w e w', RdO f n w e w' → EO nx lg sq D A ok w e w') ∧ D.length ≤ 1048576 ∧ A.length ≤ 1048576 := by
  by_cases h : ∃ r, Rok f n r
  · obtain ⟨r, h⟩ := h
    refine ⟨r.nx, r.lg, r.sq, r.D, r.A, true, fun w e w' hh => ?_, by have := h.2.2.2.2.1.1; omega, by have := h.2.2.2.2.2.1; omega⟩
    rcases hh with ⟨r', h', da, cd, aa, ca, he, hE, hD, hb⟩ | ⟨hN, _⟩
    · obtain ⟨e1, _⟩ := opt_two h.1 h'.1
      subst e1
      exact ⟨da, cd, aa, ca, he, hD, hE, hb⟩
    · exact absurd h (hN r)
  · refine ⟨0, 0, 0, [], [], false, fun w e w' hh => ?_, by simp, by simp⟩
    rcases hh with ⟨r', h', _⟩ | ⟨_, he, hb⟩
    · exact absurd ⟨r', h'⟩ h
    · exact ⟨none, 0, none, 0, he, fun i hi => by simp at hi, ⟨Nat.le_refl _, fun i => by simp [fi], .inl rfl, .inl rfl, fun h1 => by simp at h1⟩, hb⟩

set_option maxHeartbeats 4000000 in
theorem readEdit_law (ao : Option Addr) (n cap : Nat) (f : Nat → Int) (w : World) (hr : Row w ao n f) (hnx : n ≤ maxLen) :
    Calls Try.prog 7 #[.slice ao n cap] w fun e w' => e = .returned (.bool true) ∧ Below w.heap.size w w' := by
  by_cases hks : 1048576 < n
  · go_enter Try.func7, Try.ntmps7
    go_wp2
    go_ret
    exact ⟨rfl, Below.refl _ _⟩
  have hn : n ≤ 1048576 := by omega
  clear hnx
  obtain ⟨nx, lg, sq, D, A, ok, hI, hDm, hAm⟩ := isE_ex f n
  have hok : (ok != ok) = false := by simp
  go_enter Try.func7, Try.ntmps7
  go_wp2_with fail
  refine (toByteS_any ao n cap f _ hr hn).mono ?_
  rintro e w1 ⟨rfl, o1, bw1⟩
  have s1 := bw1.size
  go_wp2_with fail
  refine ((readEdit_spec f _ 0 n n _ o1.row o1.lt hn (Nat.le_refl _)).mono (hI _)).mono ?_
  rintro e w2 ⟨wo, wc, wp, wd, rfl, hDB, V2, b2⟩
  have hB2 := below_new w2 (.cells #[.int .i64 nx, .int .i64 lg, .int .i64 sq, .slice wo D.length wc, .slice wp A.length wd] 45)
  have bw2 := bw1.trans (b2.mono s1)
  have bw2' := bw2.trans (hB2.mono bw2.size)
  have X2 := EX.new w2 nx lg sq (.slice wo D.length wc) (.slice wp A.length wd) 45
  have V2' := V2.keep hB2
  have s2 := b2.size
  have hso1 := o1.lt
  clear hB2 V2 b2 o1
  go_wp2_with fail
  refine (toByteS_any ao n cap f _ (hr.keep bw2') hn).mono ?_
  rintro e w3 ⟨rfl, o3, b3⟩
  have bw3 := bw2'.trans (b3.mono bw2'.size)
  have X3 := X2.keep b3
  have V3 := V2'.keep b3
  have s3 := b3.size
  simp only [World.size_alloc] at s3 o3
  have hg3 := o3.lt
  clear b3 bw2' X2 V2'
  go_wp2_with fail
  refine ((readEdit_impl f _ 0 n n _ o3.row o3.lt hn (Nat.le_refl _)).mono (hI _)).mono ?_
  rintro e w4 ⟨go, gc, gp, gd, rfl, _, U4, b4⟩
  have hB4 := below_new w4 (.cells #[.int .i64 nx, .int .i64 lg, .int .i64 sq, .slice go D.length gc, .slice gp A.length gd] 45)
  have bw4 := (bw3.trans (b4.mono bw3.size))
  have bw4' := bw4.trans (hB4.mono bw4.size)
  have X4 := (X3.keep b4).keep hB4
  have Y4 := EX.new w4 nx lg sq (.slice go D.length gc) (.slice gp A.length gd) 45
  have V4 := (V3.keep b4).keep hB4
  have U4' := U4.keep hB4
  have o4 := (o3.keep b4).keep hB4
  have s4 := b4.size
  have t4 : w4.heap.size ≤ (w4.alloc (.cells #[.int .i64 nx, .int .i64 lg, .int .i64 sq, .slice go D.length gc, .slice gp A.length gd] 45)).heap.size := by simp
  clear hB4 b4 bw3 X3 V3 U4 o3
  obtain ⟨lx, x0, x1, x2, x3, x4⟩ := id X4
  obtain ⟨ly, y0, y1, y2, y3, y4⟩ := id Y4
  go_wp2_with fail
  refine (eqEditV nx lg sq _ _ gc wc _ _ gd wd _ _ _ _ D A _ U4' V4 hDB.out hDm hAm).mono ?_
  rintro e w5 ⟨rfl, b5⟩
  have bw5 := bw4'.trans (b5.mono bw4'.size)
  have X5 := X4.keep b5
  have Y5 := Y4.keep b5
  have V5 := V4.keep b5
  have U5 := U4'.keep b5
  have o5 := o4.keep b5
  have s5 := b5.size
  simp only [World.size_alloc] at s5
  clear b5 bw4' X4 Y4 V4 U4' o4 lx x0 x1 x2 x3 x4 ly y0 y1 y2 y3 y4
  go_wp2_with fail
  refine (toByteS_any ao n cap f _ (hr.keep bw5) hn).mono ?_
  rintro e w6 ⟨rfl, o6, b6⟩
  have bw6 := bw5.trans (b6.mono bw5.size)
  have X6 := X5.keep b6
  have Y6 := Y5.keep b6
  have V6 := V5.keep b6
  have U6 := U5.keep b6
  have p6 := o5.keep b6
  have s6 := b6.size
  clear b6 bw5 X5 Y5 V5 U5 o5
  go_wp2_with fail
  refine (eqByteS_same _ _ n n n f _ p6.row o6.row hn).mono ?_
  rintro e w7 ⟨rfl, b7⟩
  have bw7 := bw6.trans (b7.mono bw6.size)
  have X7 := X6.keep b7
  have Y7 := Y6.keep b7
  have V7 := V6.keep b7
  have U7 := U6.keep b7
  have p7 := p6.keep b7
  have s7 := b7.size
  clear b7 bw6 X6 Y6 V6 U6 p6 o6
  go_wp2_with fail
  refine (mark_one _ _ n n f _ p7 hn).mono ?_
  rintro e w8 ⟨rfl, _, X8⟩
  have hsz := bw2.size
  have hg := p7.lt
  have M8 := Mid.of_others (B := w2.heap.size + 1) (U := w2.heap.size + 1 + 1) X8 (Nat.le_refl _) (Nat.lt_succ_self _)
  have bw8 := bw7.trans (M8.below (C := w.heap.size) (by omega) (by omega))
  have Z8 := X7.midR M8 (by omega)
  have Y8 := Y7.midR M8 (by omega)
  have V8 := V7.midR M8 (by omega)
  have U8 := U7.midR M8 (by omega)
  have s8 := M8.size
  have hpos : ¬ ((n : Int) + 1 < 0) := by omega
  have hposd : decide ((n : Int) + 1 < 0) = false := by simp; omega
  have hpos2 : ¬ ((1 + D.length + 5 * A.length : Nat) : Int) < 0 := by omega
  clear M8 X8 X7 Y7 V7 U7 p7 bw7
  obtain ⟨lx, x0, x1, x2, x3, x4⟩ := id Z8
  obtain ⟨ly, y0, y1, y2, y3, y4⟩ := id Y8
  go_wp2_with fail
  refine (eqEditV nx lg sq _ _ gc wc _ _ gd wd _ _ _ _ D A _ U8 V8 hDB.out hDm hAm).mono ?_
  rintro e w9 ⟨rfl, b9⟩
  have bw9 := bw8.trans (b9.mono bw8.size)
  have X9 := Z8.keep b9
  have Y9 := Y8.keep b9
  have V9 := V8.keep b9
  have U9 := U8.keep b9
  have s9 := b9.size
  clear b9 bw8 Z8 Y8 V8 U8 lx x0 x1 x2 x3 x4 ly y0 y1 y2 y3 y4
  obtain ⟨ly, y0, y1, y2, y3, y4⟩ := id Y9
  go_wp2_with fail
  refine (markEditV nx lg sq go gc gp gd _ _ D A _ U9 hDm hAm).mono ?_
  rintro e w10 ⟨rfl, G10, M10⟩
  have bw10 := bw9.trans (M10.below (C := w.heap.size) (by omega) (by omega))
  have X10 := X9.midR M10 (by omega)
  have Y10 := Y9.midR M10 (by omega)
  have V10 := V9.midR M10 (by omega)
  have s10 := M10.size
  clear M10 X9 Y9 V9 U9 bw9 ly y0 y1 y2 y3 y4
  obtain ⟨ly, y0, y1, y2, y3, y4⟩ := id Y10
  go_wp2_with fail
  refine (heldEditV nx lg sq go gc gp gd _ _ D.length A.length _ G10 hDm hAm).mono ?_
  rintro e w11 ⟨rfl, b11⟩
  have bw11 := bw10.trans (b11.mono bw10.size)
  have X11 := X10.keep b11
  have Y11 := Y10.keep b11
  have V11 := V10.keep b11
  have G11 := G10.keep b11
  have s11 := b11.size
  clear b11 bw10 X10 Y10 V10 G10 ly y0 y1 y2 y3 y4
  go_wp2_with fail
  refine (toByteS_any ao n cap f _ (hr.keep bw11) hn).mono ?_
  rintro e w12 ⟨rfl, o12, b12⟩
  have bw12 := bw11.trans (b12.mono bw11.size)
  have X12 := X11.keep b12
  have Y12 := Y11.keep b12
  have V12 := V11.keep b12
  have G12 := G11.keep b12
  clear b12 bw11 X11 Y11 V11 G11
  go_wp2_with fail
  refine ((readEdit_impl f _ 0 n n _ o12.row o12.lt hn (Nat.le_refl _)).mono (hI _)).mono ?_
  rintro e w13 ⟨ho, hc, hp, hd, rfl, _, H13, b13⟩
  have hB13 := below_new w13 (.cells #[.int .i64 nx, .int .i64 lg, .int .i64 sq, .slice ho D.length hc, .slice hp A.length hd] 45)
  have bw13 := (bw12.trans (b13.mono bw12.size))
  have bw13' := bw13.trans (hB13.mono bw13.size)
  have X13 := (X12.keep b13).keep hB13
  have Y13 := (Y12.keep b13).keep hB13
  have V13 := (V12.keep b13).keep hB13
  have G13 := (G12.keep b13).keep hB13
  have H13' := H13.keep hB13
  have T13 := EX.new w13 nx lg sq (.slice ho D.length hc) (.slice hp A.length hd) 45
  clear hB13 b13 bw12 X12 Y12 V12 G12 H13 o12
  obtain ⟨lx, x0, x1, x2, x3, x4⟩ := id X13
  obtain ⟨ly, y0, y1, y2, y3, y4⟩ := id Y13
  obtain ⟨lt, t0, t1, t2, t3, t4⟩ := id T13
  go_wp2_with fail
  refine (eqEditV nx lg sq _ _ hc wc _ _ hd wd _ _ _ _ D A _ H13' V13 hDB.out hDm hAm).mono ?_
  rintro e w14 ⟨rfl, b14⟩
  have bw14 := bw13'.trans (b14.mono bw13'.size)
  have Y14 := Y13.keep b14
  have G14 := G13.keep b14
  clear b14 X13 Y13 V13 G13 H13' T13 lx x0 x1 x2 x3 x4 ly y0 y1 y2 y3 y4 lt t0 t1 t2 t3 t4
  obtain ⟨ly, y0, y1, y2, y3, y4⟩ := id Y14
  go_wp2_with fail
  refine (heldEditV nx lg sq go gc gp gd _ _ D.length A.length _ G14 hDm hAm).mono ?_
  rintro e w15 ⟨rfl, b15⟩
  have bw15 := bw14.trans (b15.mono bw14.size)
  go_wp2
  go_ret
  exact ⟨rfl, bw15⟩
end Go.Proofs.Ytdcmclbbecnihaa
