/- The law of ReadFile, walked. -/
import Derived.Test.YtgedpjabjoodjaaDoorReadF
import Derived.Test.YtgedpjabjoodjaaDoorMarkF
namespace Go.Proofs.YtgedpjabjoodjaaDoor
open Go.RowKit
set_option linter.unusedSimpArgs false
set_option linter.unusedVariables false

/-- What the program's ReadFile leaves: these bytes, none or in a block of their own, and this code. -/
def RI (c : Int) (len : Nat) (f : Nat → Int) (w : World) (e : Ending) (w' : World) : Prop :=
  ∃ a cp g, e = .returned (.tuple #[.slice a len cp, .int .i64 c]) ∧ (len = 0 ∨ a = some ⟨g, 0, none⟩ ∧ w.heap.size ≤ g ∧ Own w' g 0 len f) ∧ Below w.heap.size w w'
/-- What the model's ReadFile leaves. -/
def RS (c : Int) (len : Nat) (f : Nat → Int) (w : World) (e : Ending) (w' : World) : Prop :=
  ∃ a cp, e = .returned (.tuple #[.slice a len cp, .int .i64 c]) ∧ Row w' a len f ∧ Below w.heap.size w w'

theorem atN_hit {F : Nat → Fil} {n : Nat} {s : ByteArray} {j : Nat} (hK : ∀ i, i < n → fileOk F i = true) (hj : j < n) (e : (F j).nm = s) : ∀ v, AtN F n s v → v = (j : Int) := fun v h => by
  rcases Int.lt_or_le v 0 with g | g
  · exact absurd e (h.miss g j hj)
  · have := h.hit g
    have := names_inj hK this.1 hj (this.2.trans e.symm)
    omega
theorem atN_miss {F : Nat → Fil} {n : Nat} {s : ByteArray} (hm : ∀ j, j < n → (F j).nm ≠ s) : ∀ v, AtN F n s v → v < 0 := fun v h => by
  rcases Int.lt_or_le v 0 with g | g
  · exact g
  · have := h.hit g
    exact absurd this.2 (hm _ this.1)

theorem good_parts {Q : Int} {n : Nat} {F : Nat → Fil} (h : goodF Q n F = true) : 0 ≤ Q ∧ Q ≤ 60000 ∧ n ≤ 40 ∧ (∀ i, i < n → fileOk F i = true) ∧ (used F n : Int) ≤ Q := by
  simp only [goodF, filesOk, Bool.and_eq_true, decide_eq_true_eq, List.all_eq_true, List.mem_range] at h
  exact ⟨h.1.1.1.1, h.1.1.1.2, h.1.1.2, h.1.2, h.2⟩

/-- Both texts answer the same bytes and the same code, in whatever memory. -/
theorem readFile_both (Q : Int) (n : Nat) (F : Nat → Fil) (s : ByteArray) (hs : s.size ≤ 1048576) (hq : -9223372036854775808 ≤ Q ∧ Q ≤ 9223372036854775807) (hn : n ≤ 1048576) (hz : FSize n F 1048576) (hbd : ∀ i, i < n → ∀ j, 0 ≤ (F i).f j ∧ (F i).f j ≤ 255) :
    ∃ (c : Int) (len : Nat) (f : Nat → Int), len ≤ 1048576 ∧ (∀ i, 0 ≤ f i ∧ f i ≤ 255) ∧
      (∀ (w : World) (ao : Option Addr) (cap : Nat), FRow w ao n F → Calls Tryd.prog 28 #[.agg #[.int .i64 Q, .slice ao n cap], .string s] w fun e w' => RS c len f w e w') ∧
      (∀ (w : World) (ao : Option Addr) (cap : Nat), FRow w ao n F → ET w → Calls Tryd.prog 29 #[.agg #[.int .i64 Q, .slice ao n cap], .string s] w fun e w' => RI c len f w e w') := by
  cases hG : goodF Q n F with
  | false =>
    refine ⟨1, 0, fun _ => 0, by omega, fun _ => by simp, fun w ao cap hr => ?_, fun w ao cap hr hE => ?_⟩
    · refine (readFile_spec_bad Q ao n cap F s hs false (fnB s) hG rfl rfl w hr hq hn hz).mono ?_
      rintro e w' ⟨rfl, hb⟩
      exact ⟨none, 0, rfl, ⟨fun _ => by simp, .inl rfl⟩, hb⟩
    · refine (readFile_impl_bad Q ao n cap F s hG w hE hr hq hn hz).mono ?_
      rintro e w' ⟨rfl, hb⟩
      exact ⟨none, 0, 0, rfl, .inl rfl, hb⟩
  | true =>
    have hK := (good_parts hG).2.2.2.1
    cases hN : fnB s with
    | false =>
      refine ⟨1, 0, fun _ => 0, by omega, fun _ => by simp, fun w ao cap hr => ?_, fun w ao cap hr hE => ?_⟩
      · refine (readFile_spec_bad Q ao n cap F s hs true false hG hN rfl w hr hq hn hz).mono ?_
        rintro e w' ⟨rfl, hb⟩
        exact ⟨none, 0, rfl, ⟨fun _ => by simp, .inl rfl⟩, hb⟩
      · refine (readFile_impl_name Q ao n cap F s hs hG hN w hE hr hq hn hz).mono ?_
        rintro e w' ⟨rfl, hb⟩
        exact ⟨none, 0, 0, rfl, .inl rfl, hb⟩
    | true =>
      by_cases hex : ∃ j, j < n ∧ (F j).nm = s
      · obtain ⟨j, hj, rfl⟩ := hex
        refine ⟨0, (F j).len, (F j).f, (hz j hj).2, hbd j hj, fun w ao cap hr => ?_, fun w ao cap hr hE => ?_⟩
        · exact readFile_spec_hit Q ao n cap F _ hs hG hN j hj (atN_hit hK hj rfl) w hr hq hn hz
        · exact readFile_impl_hit Q ao n cap F j hj hs hG hK hN w hE hr hq hn hz
      · have hm : ∀ j, j < n → (F j).nm ≠ s := fun j hj e => hex ⟨j, hj, e⟩
        refine ⟨2, 0, fun _ => 0, by omega, fun _ => by simp, fun w ao cap hr => ?_, fun w ao cap hr hE => ?_⟩
        · refine (readFile_spec_miss Q ao n cap F s hs hG hN (atN_miss hm) w hr hq hn hz).mono ?_
          rintro e w' ⟨rfl, hb⟩
          exact ⟨none, 0, rfl, ⟨fun _ => by simp, .inl rfl⟩, hb⟩
        · refine (readFile_impl_miss Q ao n cap F s hs hG hK hN hm w hE hr hq hn hz).mono ?_
          rintro e w' ⟨rfl, hb⟩
          exact ⟨none, 0, 0, rfl, .inl rfl, hb⟩
theorem FRow.bd {w : World} {ao : Option Addr} {n : Nat} {F : Nat → Fil} (h : FRow w ao n F) : ∀ i, i < n → ∀ j, 0 ≤ (F i).f j ∧ (F i).f j ≤ 255 := fun i hi j => by
  obtain ⟨b, off, _, _, hc⟩ := h.lies.resolve_left (by omega)
  obtain ⟨da, dc, hf⟩ := hc i hi
  exact hf.row.bd j
def marks1 (j : Nat) : Int := ((1 + j : Nat) : Int) % 256
theorem markOne (a : Option Addr) (g len cp : Nat) (f : Nat → Int) (w : World) (hd : len = 0 ∨ a = some ⟨g, 0, none⟩ ∧ Own w g 0 len f) (hn : len ≤ 1048576) :
    Calls Tryd.prog 21 #[.slice a len cp, .int .i64 1] w fun e w' => e = .returned (.int .i64 ((len : Int) + 1)) ∧ (len = 0 ∨ a = some ⟨g, 0, none⟩ ∧ Own w' g 0 len marks1) ∧ ((len = 0 ∧ w' = w) ∨ (len ≠ 0 ∧ Others g w w')) := by
  by_cases h0 : len = 0
  · subst h0
    refine (markByteS_none a cp 1 w (by omega)).mono ?_
    rintro e w' ⟨rfl, rfl⟩
    exact ⟨by simp, .inl rfl, .inl ⟨rfl, rfl⟩⟩
  · obtain ⟨rfl, ho⟩ := hd.resolve_left h0
    refine (markByteS_any g 0 len cp f 1 w ho hn (by omega)).mono ?_
    rintro e w' ⟨rfl, h1, h2⟩
    exact ⟨by rw [show ((1 + len : Nat) : Int) = (len : Int) + 1 from by omega], .inr ⟨rfl, h1⟩, .inr ⟨h0, h2⟩⟩
theorem heldOne (a : Option Addr) (len cp : Nat) (w : World) (hr : Row w a len marks1) (hn : len ≤ 1048576) :
    Calls Tryd.prog 30 #[.slice a len cp, .int .i64 1] w fun e w' => e = .returned (.int .i64 ((len : Int) + 1)) ∧ Below w.heap.size w w' := by
  refine (heldByteS_yes a len cp 1 w hr hn (by omega)).mono ?_
  rintro e w' ⟨rfl, h2⟩
  exact ⟨by rw [show ((1 + len : Nat) : Int) = (len : Int) + 1 from by omega], h2⟩
theorem Mid.qat {B U : Nat} {w w' : World} (h : Mid B U w w') {b : Nat} {Q : Int} {sv : Value} (hk : QAt w b Q sv) (hne : b < B ∨ U ≤ b) : QAt w' b Q sv :=
  ⟨Nat.lt_of_lt_of_le hk.lt h.size, (h.cell hk.lt hne).trans hk.c0, (h.cell hk.lt hne).trans hk.c1⟩

/-- What the law holds in memory. -/
structure RF (w : World) (B U XB : Nat) (Q : Int) (ao : Option Addr) (n cap g4 : Nat) (F : Nat → Fil) (G4 : Nat → Nat) (len : Nat) (a0 : Option Addr) (f : Nat → Int) (a5 : Option Addr) (g5 : Nat) (fx : Nat → Int) (wr : World) : Prop where
  ord : w.heap.size < B ∧ B ≤ U ∧ U ≤ XB ∧ XB < wr.heap.size
  ka : QAt wr w.heap.size Q (.slice ao n cap)
  kx : QAt wr XB Q (.slice (some ⟨g4, 0, none⟩) n n)
  fb : FBox wr g4 n F G4 B U
  r0 : Row wr a0 len f
  low0 : ∀ b off, a0 = some ⟨b, off, none⟩ → 0 < len → b < B
  g0 : len = 0 ∨ a5 = some ⟨g5, 0, none⟩ ∧ XB < g5 ∧ Own wr g5 0 len fx
  bel : Below w.heap.size w wr
section
variable {w wr w' : World} {B U XB : Nat} {Q : Int} {ao : Option Addr} {n cap g4 : Nat} {F : Nat → Fil} {G4 : Nat → Nat} {len : Nat} {a0 : Option Addr} {f : Nat → Int} {a5 : Option Addr} {g5 : Nat} {fx : Nat → Int}
theorem RF.keep (h : RF w B U XB Q ao n cap g4 F G4 len a0 f a5 g5 fx wr) (hb : Below wr.heap.size wr w') : RF w B U XB Q ao n cap g4 F G4 len a0 f a5 g5 fx w' := by
  obtain ⟨o1, o2, o3, o4⟩ := h.ord
  have hs := hb.size
  exact ⟨⟨o1, o2, o3, by omega⟩, h.ka.keep hb, h.kx.keep hb, h.fb.keep hb, h.r0.keep hb, h.low0, orR h.g0 fun ⟨e, hg, ho⟩ => ⟨e, hg, ho.keep hb⟩, h.bel.trans (hb.mono (by omega))⟩
theorem RF.files (h : RF w B U XB Q ao n cap g4 F G4 len a0 f a5 g5 fx wr) (M : Mid B U wr w') {F' : Nat → Fil} (hf : FBox w' g4 n F' G4 B U) : RF w B U XB Q ao n cap g4 F' G4 len a0 f a5 g5 fx w' := by
  obtain ⟨o1, o2, o3, o4⟩ := h.ord
  have hs := M.size
  exact ⟨⟨o1, o2, o3, by omega⟩, M.qat h.ka (by omega), M.qat h.kx (by omega), hf, M.row h.r0 (fun b off e hp => .inl (h.low0 b off e hp)), h.low0, orR h.g0 fun ⟨e, hg, ho⟩ => ⟨e, hg, M.own ho (by omega)⟩, h.bel.trans (M.below (by omega) (by omega))⟩
theorem RF.bytes (h : RF w B U XB Q ao n cap g4 F G4 len a0 f a5 g5 fx wr) {fy : Nat → Int} (hd : len = 0 ∨ a5 = some ⟨g5, 0, none⟩ ∧ Own w' g5 0 len fy) (hw : (len = 0 ∧ w' = wr) ∨ (len ≠ 0 ∧ Others g5 wr w')) : RF w B U XB Q ao n cap g4 F G4 len a0 f a5 g5 fy w' := by
  obtain ⟨o1, o2, o3, o4⟩ := h.ord
  rcases hw with ⟨h0, rfl⟩ | ⟨h0, ho⟩
  · exact ⟨h.ord, h.ka, h.kx, h.fb, h.r0, h.low0, .inl h0, h.bel⟩
  · obtain ⟨_, hg, _⟩ := h.g0.resolve_left h0
    have M : Mid g5 (g5 + 1) wr w' := Mid.of_others ho (Nat.le_refl _) (by omega)
    have hlt := h.fb.lt
    obtain ⟨r1, r2, r3⟩ := h.fb.range
    refine ⟨⟨o1, o2, o3, by rw [ho.size]; exact o4⟩, M.qat h.ka (by omega), M.qat h.kx (by omega), ?_, M.row h.r0 (fun b off e hp => .inl (by have := h.low0 b off e hp; omega)), h.low0, .inr ⟨(hd.resolve_left h0).1, hg, (hd.resolve_left h0).2⟩, h.bel.trans (M.below (by omega) (by omega))⟩
    refine ⟨by rw [ho.size]; exact hlt, fun i hi => ?_, fun j hj => (M.frozen hlt (by omega)).trans (h.fb.free j hj), h.fb.bd, h.fb.self, h.fb.apart, h.fb.range⟩
    obtain ⟨da, dc, c0, c1, c2, hdd⟩ := h.fb.cell i hi
    refine ⟨da, dc, (M.cell hlt (by omega)).trans c0, (M.cell hlt (by omega)).trans c1, (M.cell hlt (by omega)).trans c2, ?_⟩
    rcases hdd with h1 | ⟨e1, h2⟩
    · exact .inl h1
    · by_cases hl : (F i).len = 0
      · exact .inl hl
      · have := r3 i hi hl
        exact .inr ⟨e1, M.own h2 (by omega)⟩
theorem RF.row5 (h : RF w B U XB Q ao n cap g4 F G4 len a0 f a5 g5 fx wr) (hbd : ∀ i, 0 ≤ fx i ∧ fx i ≤ 255) : Row wr a5 len fx := by
  refine ⟨hbd, ?_⟩
  rcases h.g0 with h0 | ⟨rfl, _, ho⟩
  · exact .inl h0
  · exact ho.row.lies
end

set_option maxHeartbeats 4000000 in
theorem readFile_law (Q : Int) (ao : Option Addr) (n cap : Nat) (F : Nat → Fil) (s : ByteArray) (w : World) (hE : ET w) (hr : FRow w ao n F) (hq : -9223372036854775808 ≤ Q ∧ Q ≤ 9223372036854775807) (hnx : n ≤ 9223372036854775807) (hzx : FSize n F 9223372036854775807) (hsx : s.size ≤ 9223372036854775807) :
    Calls Tryd.prog 8 #[.agg #[.int .i64 Q, .slice ao n cap], .string s] w fun e w' => e = .returned (.bool true) ∧ Below w.heap.size w w' := by
  have hB : Below w.heap.size w (w.alloc (.cells #[.int .i64 Q, .slice ao n cap] 24)) := (Below.refl _ _).alloc (Nat.le_refl _) _
  have A0 := QAt.new w Q (.slice ao n cap) 24
  by_cases hs : s.size ≤ 1048576
  · have hsg : ¬ (1048576 : Int) < (s.size : Int) := by omega
    go_enter Tryd.func8, Tryd.ntmps8
    obtain ⟨la, a0, a1⟩ := id A0
    go_wp2_with fail
    refine (szFiles_tot Q ao n cap F 1048576 _ (hr.keep hB) (by omega) hnx hzx).mono ?_
    rintro e w1 ⟨v, rfl, hv1, hv2, hv3, hb1⟩
    have A1 := A0.keep hb1
    have bw1 : Below w.heap.size w w1 := hB.trans (hb1.mono (by simp))
    clear hb1 hB A0 la a0 a1
    by_cases hv : v < 0
    · clear hv3
      go_wp2
      go_ret
      exact ⟨rfl, bw1⟩
    · obtain ⟨htot, hn, hz⟩ := hv3 (by omega)
      have hcK : cK F n ≤ 4194304 := by unfold cK; omega
      have HCK : Hid (cK F n ≤ 4194304) := hcK
      have hcp : decide (((cK F n : Nat) : Int) < 0) = false := by simp
      clear hv3 hnx hzx htot hcK
      obtain ⟨c, len, f, hlen, hfb, hSp, hIm⟩ := readFile_both Q n F s hs hq hn hz hr.bd
      have HS := hSp
      have HI := hIm
      clear hSp hIm
      generalize hck : cK F n = ck at hcp HCK
      have HC : Hid (cK F n = ck) := hck
      clear hck
      obtain ⟨la, a0, a1⟩ := id A1
      go_wp2_with fail
      refine (toFiles_any Q ao n cap F _ (hr.keep bw1) hn hz).mono ?_
      rintro e w2 ⟨g2, G2, rfl, hg2, ho2, hb2⟩
      have A2 := A1.keep hb2
      have bw2 : Below w.heap.size w w2 := bw1.trans (hb2.mono bw1.size)
      clear hb2 bw1 la a0 a1 A1
      go_wp2_with fail
      refine (HS _ _ _ ho2.row).mono ?_
      rintro e w3 ⟨a3, c3, rfl, hr3, hb3⟩
      have A3 := A2.keep hb3
      have bw3 : Below w.heap.size w w3 := bw2.trans (hb3.mono bw2.size)
      have hlow : ∀ b off, a3 = some ⟨b, off, none⟩ → 0 < len → b < w3.heap.size := fun b off e hp => by
        obtain ⟨b', off', e', hlt, _⟩ := hr3.lies.resolve_left (by omega)
        rw [e] at e'
        injection e' with e'
        injection e' with e1 _ _
        omega
      have hw3 : w.heap.size < w3.heap.size := A3.lt
      clear hb3 A2 bw2 ho2 HS
      obtain ⟨la, a0, a1⟩ := id A3
      go_wp2_with fail
      refine (toFiles_any Q ao n cap F _ (hr.keep bw3) hn hz).mono ?_
      rintro e w4 ⟨g4, G4, rfl, hg4, ho4, hb4⟩
      have hB4 : Below w4.heap.size w4 (w4.alloc (.cells #[.int .i64 Q, .slice (some ⟨g4, 0, none⟩) n n] 28)) := (Below.refl _ _).alloc (Nat.le_refl _) _
      have s34 := hb4.size
      have fb4 : FBox w4 g4 n F G4 w3.heap.size w4.heap.size := ho4.box hg4 ho4.lt (fun i hi => (ho4.data i hi hi).2.lt)
      have fbX := fb4.keep hB4
      have AX := (A3.keep hb4).keep hB4
      have rX := (hr3.keep hb4).keep hB4
      have X4 := QAt.new w4 Q (.slice (some ⟨g4, 0, none⟩) n n) 28
      have bwX : Below w.heap.size w (w4.alloc (.cells #[.int .i64 Q, .slice (some ⟨g4, 0, none⟩) n n] 28)) := (bw3.trans (hb4.mono bw3.size)).trans (hB4.mono (by omega))
      have hEX := hE.keep bwX
      clear hb4 hB4 bw3 la a0 a1 ho4 fb4 A3 hr3
      obtain ⟨lx, x0, x1⟩ := id X4
      go_wp2_with fail
      refine (HI _ _ _ fbX.row hEX).mono ?_
      rintro e w5 ⟨a5, c5, g5, rfl, hg5, hb5⟩
      have R : RF w w3.heap.size w4.heap.size w4.heap.size Q ao n cap g4 F G4 len a3 f a5 g5 f w5 := by
        refine ⟨⟨hw3, s34, Nat.le_refl _, by have := hb5.size; simp at this; omega⟩, AX.keep hb5, X4.keep hb5, fbX.keep hb5, rX.keep hb5, hlow, ?_, bwX.trans (hb5.mono bwX.size)⟩
        rcases hg5 with h0 | ⟨e, hge, ho⟩
        · exact .inl h0
        · exact .inr ⟨e, by simp at hge; omega, ho⟩
      clear hg5 hb5 AX X4 fbX rX bwX hEX lx x0 x1 hlow
      go_wp2_with fail
      refine (eqByteS_same a5 a3 len c5 c3 f _ (R.row5 hfb) R.r0 hlen).mono ?_
      rintro e w6 ⟨rfl, hb6⟩
      have R6 := R.keep hb6
      clear R hb6
      obtain ⟨la, a0, a1⟩ := R6.ka
      obtain ⟨lx, x0, x1⟩ := R6.kx
      have hrd := (hr.keep R6.bel).keep (Below.refl _ _).drew
      go_wp2
      go_region_held3 (fun w' => w'.cell? ⟨w4.heap.size, 0, none⟩ = some (.int .i64 Q) ∧ w'.cell? ⟨w4.heap.size, 1, none⟩ = some (.slice (some ⟨g4, 0, none⟩) n n) ∧ w'.cell? ⟨w.heap.size, 0, none⟩ = some (.int .i64 Q) ∧ w'.cell? ⟨w.heap.size, 1, none⟩ = some (.slice ao n cap)) (go_keep) (first | (go_at_call 12; refine (toFiles_any Q ao n cap F _ hrd hn hz).mono ?_; rintro e w7 ⟨g7, G7, rfl, hg7, ho7, hb7⟩; have R7 := R6.keep ((Below.refl _ w6).drew.trans hb7); obtain ⟨la7, p0, p1⟩ := R7.ka; obtain ⟨lx7, q0, q1⟩ := R7.kx; clear hb7) | (go_at_call 14; refine (eqFiles_same Q _ _ n n n F _ R7.fb.row ho7.row hn hz).mono ?_; rintro e w8 ⟨rfl, hb8⟩; have R8 := R7.keep hb8; obtain ⟨la8, pp0, pp1⟩ := R8.ka; obtain ⟨lx8, qq0, qq1⟩ := R8.kx; clear hb8))
      clear R6 la a0 a1 lx x0 x1 hrd R7 la7 p0 p1 lx7 q0 q1 ho7 la8 pp0 pp1 lx8 qq0 qq1 hg7
      obtain ⟨lx, x0, x1⟩ := R8.kx
      go_wp2_with fail
      refine (markFiles_any Q g4 n n F G4 _ _ _ R8.fb hn hz (by rw [HC.out]; exact HCK.out)).mono ?_
      rintro e w9 ⟨rfl, hf9, hM9⟩
      rw [HC.out]
      have R9 := R8.files hM9 hf9
      clear R8 hM9 hf9 lx x0 x1
      go_wp2_with fail
      refine (eqByteS_same a5 a3 len c5 c3 f _ (R9.row5 hfb) R9.r0 hlen).mono ?_
      rintro e w10 ⟨rfl, hb10⟩
      have R10 := R9.keep hb10
      clear R9 hb10
      go_wp2_with fail
      refine (markOne a5 g5 len c5 f _ (orR R10.g0 fun h => ⟨h.1, h.2.2⟩) hlen).mono ?_
      rintro e w11 ⟨rfl, hd11, hw11⟩
      have R11 := R10.bytes hd11 hw11
      have hbm : ∀ i, 0 ≤ marks1 i ∧ marks1 i ≤ 255 := fun i => by unfold marks1; omega
      clear R10 hd11 hw11
      go_wp2_with fail
      refine (heldOne a5 len c5 _ (R11.row5 hbm) hlen).mono ?_
      rintro e w12 ⟨rfl, hb12⟩
      have R12 := R11.keep hb12
      have hd12 : decide ((len : Int) + 1 < 0) = false := by simp; omega
      clear R11 hb12
      obtain ⟨la, a0, a1⟩ := R12.ka
      go_wp2_with fail
      refine (toFiles_any Q ao n cap F _ (hr.keep R12.bel) hn hz).mono ?_
      rintro e w13 ⟨g13, G13, rfl, hg13, ho13, hb13⟩
      have R13 := R12.keep hb13
      have hE13 := hE.keep R13.bel
      clear R12 hb13 la a0 a1
      go_wp2_with fail
      refine (HI _ _ _ ho13.row hE13).mono ?_
      rintro e w14 ⟨a14, c14, g14, rfl, hg14, hb14⟩
      have R14 := R13.keep hb14
      have row14 : Row w14 a14 len f := by
        refine ⟨hfb, ?_⟩
        rcases hg14 with h0 | ⟨rfl, _, ho⟩
        · exact .inl h0
        · exact ho.row.lies
      clear R13 hb14 hg14 ho13 hE13 hg13
      go_wp2_with fail
      refine (eqByteS_same a14 a3 len c14 c3 f _ row14 R14.r0 hlen).mono ?_
      rintro e w15 ⟨rfl, hb15⟩
      have R15 := R14.keep hb15
      clear R14 hb15 row14
      go_wp2_with fail
      refine (heldOne a5 len c5 _ (R15.row5 hbm) hlen).mono ?_
      rintro e w16 ⟨rfl, hb16⟩
      have R16 := R15.keep hb16
      clear R15 hb16
      go_wp2
      go_ret
      exact ⟨rfl, R16.bel⟩
  · have hsg : (1048576 : Int) < (s.size : Int) := by omega
    go_enter Tryd.func8, Tryd.ntmps8
    go_wp2
    go_ret
    exact ⟨rfl, hB⟩
end Go.Proofs.YtgedpjabjoodjaaDoor
