/- A filter of keys, in the program. / A filter of keys, in the model. -/
import Derived.Test.YtohjjigkfdhklaaGreatPu
import Derived.Test.YtohjjigkfdhklaaGreatFw
import Derived.Test.YtohjjigkfdhklaaGreatTx
import Derived.Test.YtohjjigkfdhklaaGreatRf
import Derived.Test.YtohjjigkfdhklaaGreatPl
import Derived.Deep.CutRange
namespace Go.Proofs.YtohjjigkfdhklaaGreat
set_option maxRecDepth 100000
open Go.RowKit
set_option linter.unusedSimpArgs false
set_option linter.unusedVariables false

/-- The bits when the first keys are in. -/
def kyF (K : Nat → ByteArray) (y m : Nat) : Nat → (Nat → Int)
  | 0 => fun _ => 0
  | k + 1 => putL (kyF K y m k) (plL (hOf (K k) 0) (hOf (K k) 1) (8 * m) y)
/-- As said. -/
def FOg (n : Nat) (p : Int) : Prop := n ≤ 100 ∧ 1 ≤ p ∧ p ≤ 20
/-- What FilterOf answers. -/
def FOO (K : Nat → ByteArray) (n : Nat) (p : Int) (w : World) (e : Ending) (w' : World) : Prop :=
  (FOg n p → RO (fwI p) (ffl (kyF K (fwI p).toNat (fbI n p).toNat n) (fbI n p).toNat) true w e w') ∧ (¬ FOg n p → RO 0 [] false w e w')

theorem FAt.grown {w w' : World} {b c : Nat} {y : Int} {v : Value} (h : FAt w b y v) (hg : w.grownBy w' (some c)) (hne : b ≠ c) : FAt w' b y v :=
  ⟨Nat.lt_of_lt_of_le h.lt hg.size, hg.cell h.c0 (fun e => hne (Option.some.inj e)), hg.cell h.c1 (fun e => hne (Option.some.inj e))⟩
theorem TRow.grown {w w' : World} {ao : Option Addr} {n c : Nat} {K : Nat → ByteArray} (h : TRow w ao n K) (hg : w.grownBy w' (some c)) (hne : ∀ b off, ao = some ⟨b, off, none⟩ → 0 < n → b ≠ c) : TRow w' ao n K := by
  refine ⟨?_⟩
  by_cases h0 : n = 0
  · exact .inl h0
  · obtain ⟨b, off, e, hlt, hc⟩ := h.lies.resolve_left h0
    exact .inr ⟨b, off, e, Nat.lt_of_lt_of_le hlt hg.size, fun i hi => hg.cell (hc i hi) (fun e' => hne b off e (by omega) (Option.some.inj e'))⟩

/-- What was made ahead of the keys. -/
structure Fst (w : World) (y : Int) (m B6 : Nat) (ao : Option Addr) (n : Nat) (K : Nat → ByteArray) (W : World) : Prop where
  zat : FAt W w.heap.size 0 (.slice none 0 0)
  zf : ∀ j, W.frozen? ⟨w.heap.size, j, none⟩ = false
  fat : FAt W B6 y (.slice (some ⟨w.heap.size + 1, 0, none⟩) m m)
  row : TRow W ao n K
  bel : Below w.heap.size w W
  low : ∀ b off, ao = some ⟨b, off, none⟩ → 0 < n → b < w.heap.size
  ne : w.heap.size + 1 < B6
theorem Fst.grown {w W W' : World} {y : Int} {m B6 : Nat} {ao : Option Addr} {n : Nat} {K : Nat → ByteArray} (h : Fst w y m B6 ao n K W) (hg : W.grownBy W' (some (w.heap.size + 1))) : Fst w y m B6 ao n K W' :=
  ⟨h.zat.grown hg (by omega), fun j => (World.frozen?_of_block (w := W) (a := ⟨w.heap.size, j, none⟩) (hg.block w.heap.size h.zat.lt (fun e => by injection e with e; omega))).trans (h.zf j), h.fat.grown hg (by have := h.ne; omega), h.row.grown hg (fun b off e h0 => by have := h.low b off e h0; omega), h.bel.grown hg h.bel.size (fun k e => by injection e with e; omega), h.low, h.ne⟩

set_option maxHeartbeats 1600000 in
theorem filterOf_impl (ao : Option Addr) (n cap : Nat) (K : Nat → ByteArray) (p : Int) (w : World) (hr : TRow w ao n K) (hz : TSz K n) :
    Calls Tryz.prog 24 #[.slice ao n cap, .int .i64 p] w fun e w' => FOO K n p w e w' := by
  obtain ⟨i0, hi, hz0, hz1, hz2⟩ := info_parts Tryz.info5
  obtain ⟨hn, hsz⟩ := hz
  have fin : ∀ W, Below w.heap.size w W → ¬ FOg n p → FOO K n p w (.returned (.tuple #[.agg #[.int .i64 0, .slice none 0 0], .bool false])) W := fun W h hg => ⟨fun h' => absurd h' hg, fun _ => ro_zero h⟩
  by_cases h1 : n ≤ 100
  case neg =>
    have d1 : decide ((100 : Int) < (n : Int)) = true := by simp; omega
    have HG : Hid (¬ FOg n p) := fun h => by have := h.1; omega
    go_enter Tryz.func24, Tryz.ntmps24
    go_wp2
    refine bodyPost_ret (v := .tuple #[.agg #[.int .i64 0, .slice none 0 0], .bool false]) (by simp [results, Tryz.results24, go_sem]) rfl (fin _ ?_ HG.out)
    repeat' refine Below.setCell ?_ (by first | (simp; done) | (simp; omega)) _
    exact below_new w _
  have d1 : decide ((100 : Int) < (n : Int)) = false := by simp; omega
  by_cases h2 : 1 ≤ p
  case neg =>
    have d2 : decide (p < 1) = true := by simp; omega
    have HG : Hid (¬ FOg n p) := fun h => by have := h.2.1; omega
    go_enter Tryz.func24, Tryz.ntmps24
    go_wp2
    refine bodyPost_ret (v := .tuple #[.agg #[.int .i64 0, .slice none 0 0], .bool false]) (by simp [results, Tryz.results24, go_sem]) rfl (fin _ ?_ HG.out)
    repeat' refine Below.setCell ?_ (by first | (simp; done) | (simp; omega)) _
    exact below_new w _
  have d2 : decide (p < 1) = false := by simp; omega
  by_cases h3 : p ≤ 20
  case neg =>
    have d3 : decide (20 < p) = true := by simp; omega
    have HG : Hid (¬ FOg n p) := fun h => by have := h.2.2; omega
    go_enter Tryz.func24, Tryz.ntmps24
    go_wp2
    refine bodyPost_ret (v := .tuple #[.agg #[.int .i64 0, .slice none 0 0], .bool false]) (by simp [results, Tryz.results24, go_sem]) rfl (fin _ ?_ HG.out)
    repeat' refine Below.setCell ?_ (by first | (simp; done) | (simp; omega)) _
    exact below_new w _
  have d3 : decide (20 < p) = false := by simp; omega
  have HG : Hid (FOg n p) := ⟨h1, h2, h3⟩
  have cw := fun W => filterWays_any p W ⟨h2, h3⟩
  have cb := fun W => filterBytes_n n p W h1 ⟨h2, h3⟩
  obtain ⟨y, ey⟩ : ∃ y : Nat, fwI p = y := ⟨(fwI p).toNat, by have := @fwI_bd p; omega⟩
  obtain ⟨m, em⟩ : ∃ m : Nat, fbI n p = m := ⟨(fbI n p).toNat, by have := @fbI_bd n p; omega⟩
  have hyb : y ≤ 8 := by have := @fwI_bd p; omega
  have hmb : 1 ≤ m ∧ m ≤ 200 := by have := @fbI_bd n p; omega
  have HF : Hid (∀ e W, RO y (ffl (kyF K y m n) m) true w e W → FOO K n p w e W) := fun e W h => ⟨fun _ => by rw [ey, em]; exact h, fun h' => absurd HG.out h'⟩
  rw [ey] at cw
  rw [em] at cb
  clear ey em fin h1 h2 h3
  have hB0 := below_new w (.cells #[.int .i64 0, .slice none 0 0] 55)
  have Z0 := FAt.new w 0 (.slice none 0 0) 55
  have zf0 : ∀ j, (w.alloc (.cells #[.int .i64 0, .slice none 0 0] 55)).frozen? ⟨w.heap.size, j, none⟩ = false := fun j => by simp [go_sem]
  have hu : (w.alloc (.cells #[.int .i64 0, .slice none 0 0] 55)).heap.size = w.heap.size + 1 := by simp
  have low : ∀ b off, ao = some ⟨b, off, none⟩ → 0 < n → b < w.heap.size := fun b off e h0 => by
    obtain ⟨b', off', e', hlt, _⟩ := hr.lies.resolve_left (by omega)
    rw [e] at e'
    injection e' with e'
    injection e' with e' _ _
    omega
  go_enter Tryz.func24, Tryz.ntmps24
  go_wp2_with fail
  refine (cw _).mono ?_
  rintro e w1 ⟨rfl, hw1⟩
  rw [hw1]
  clear hw1 w1
  go_wp2_with fail
  refine (cb _).mono ?_
  rintro e w1 ⟨rfl, hw1⟩
  rw [hw1]
  clear hw1 w1 cw cb
  generalize w.alloc (.cells #[.int .i64 0, .slice none 0 0] 55) = u at *
  go_wp2_with (at_make; refine wpList_make_full _ rfl (.tmp 26) (.tmp 26) 22 rfl u.heap.size 5 i0 (.int .u8 0) 1 Tryz.underlying22 hi hz0 hz1 .i64 .i64 _ _ m rfl rfl rfl rfl (by rw [hz2]; omega) (by unfold maxLen; omega) (Nat.le_refl _) ?_; intro w1 hown hgrow; obtain ⟨hb1, ho1⟩ := made_facts hown hgrow; clear hown hgrow)
  rw [hu] at ho1
  have hS1 := ho1.lt
  have hb2 := below_new w1 (.cells #[.int .i64 y, .slice (some ⟨w.heap.size + 1, 0, none⟩) m m] 55)
  have hS : Fst w y m w1.heap.size ao n K (w1.alloc (.cells #[.int .i64 y, .slice (some ⟨w.heap.size + 1, 0, none⟩) m m] 55)) :=
    ⟨(Z0.keep hb1).keep hb2, fun j => (hb2.frozen (p := ⟨w.heap.size, j, none⟩) (Nat.lt_of_lt_of_le Z0.lt hb1.size)).trans ((hb1.frozen (p := ⟨w.heap.size, j, none⟩) Z0.lt).trans (zf0 j)), FAt.new _ _ _ _, ((hr.keep hB0).keep hb1).keep hb2, (hB0.trans (hb1.mono hB0.size)).trans (hb2.mono (by omega)), low, hS1⟩
  have o2 := ho1.keep hb2
  have hsz2 : w1.heap.size < (w1.alloc (.cells #[.int .i64 y, .slice (some ⟨w.heap.size + 1, 0, none⟩) m m] 55)).heap.size := by simp
  generalize w1.alloc (.cells #[.int .i64 y, .slice (some ⟨w.heap.size + 1, 0, none⟩) m m] 55) = w2 at hS o2 hsz2 ⊢
  clear hb1 ho1 hb2 Z0 zf0 hB0 hr hu
  go_loopw [31] (fun i wr => ∃ k : Nat, k ≤ n ∧ i = .int .i64 k ∧ Own wr (w.heap.size + 1) 0 m (kyF K y m k) ∧ Fst w y m w1.heap.size ao n K wr) (fun i _ => n - (intOf i).toNat)
  case atStart => exact ⟨0, Nat.zero_le _, rfl, o2, hS⟩
  case round =>
    obtain ⟨k, hk, rfl, hok, hSk⟩ := hrel
    clear hS o2
    obtain ⟨lf, f0, f1⟩ := id hSk.fat
    by_cases hlt : k < n
    · obtain ⟨b, off, rfl, hblt, hc⟩ := hSk.row.lies.resolve_left (by omega)
      have c1 := hc k hlt
      have hP := put_any (K k) y (w.heap.size + 1) m (kyF K y m k) wr hok (hsz k hlt) hyb hmb
      have HK : Hid (kyF K y m (k + 1) = putL (kyF K y m k) (plL (hOf (K k) 0) (hOf (K k) 1) (8 * m) y)) := rfl
      generalize putL (kyF K y m k) (plL (hOf (K k) 0) (hOf (K k) 1) (8 * m) y) = Fk at hP HK
      clear hc
      go_wp2_with fail
      refine hP.mono ?_
      rintro e w3 ⟨rfl, o3, g3⟩
      have S3 := hSk.grown g3
      clear hP g3 hSk hok lf f0 f1 c1
      rw [← HK.out] at o3
      go_wp2
      go_roundw
      case rel => exact ⟨k + 1, by omega, by go_num, o3, S3⟩
      case measure => simp [intOf]; omega
    · obtain rfl : k = n := by omega
      obtain ⟨lz, z0, z1⟩ := id hSk.zat
      have g0 := hSk.zf 0
      have g1 := hSk.zf 1
      have bw := hSk.bel
      have hne := hSk.ne
      clear hSk
      go_wp2
      refine bodyPost_ret (v := .tuple #[.agg #[.int .i64 y, .slice (some ⟨w.heap.size + 1, 0, none⟩) m m], .bool true]) (by simp [results, Tryz.results24, go_sem, z0, z1]) rfl (HF.out _ _ ?_)
      refine ⟨some ⟨w.heap.size + 1, 0, none⟩, m, by rw [ffl_len], ⟨ffl_byt hok.bd, Nat.le_refl _, .inr ⟨w.heap.size + 1, 0, rfl, by omega, by simp; exact hok.lt, ?_⟩⟩, ?_⟩
      · rw [ffl_len]
        refine Own.congr (f := kyF K y m k) ?_ (Byt.fl (ffl_byt hok.bd)) (fun i hi => by rw [ffl_fl hi])
        repeat' refine (Others.setCell _ _ _ _).row ?_ (by omega)
        exact hok
      · repeat' refine Below.setCell ?_ (by first | (simp; done) | (simp; omega)) _
        exact bw
end Go.Proofs.YtohjjigkfdhklaaGreat
namespace Go.Proofs.YtohjjigkfdhklaaGreat
set_option maxRecDepth 100000
open Go.RowKit
set_option linter.unusedSimpArgs false
set_option linter.unusedVariables false

theorem fi_plL {h d M : Int} {y k : Nat} (hk : k < y) : fi (plL h d M y) k = pl h d M k := by simp [fi, plL, hk]

set_option maxRecDepth 100000 in
set_option maxHeartbeats 4000000 in
theorem l6Filter_any (ao : Option Addr) (n cap : Nat) (K : Nat → ByteArray) (p : Int) (y m : Nat) (w : World) (hr : TRow w ao n K) (hz : TSz K n) (hn : n ≤ 100) (hp : 1 ≤ p ∧ p ≤ 20) (ey : fwI p = y) (em : fbI n p = m) :
    Calls Tryz.prog 58 #[.slice ao n cap, .int .i64 p] w fun e w' => ∃ ac c, e = .returned (.agg #[.int .i64 y, .slice ac m c]) ∧ BV w' w.heap.size w'.heap.size ac (ffl (kyF K y m n) m) ∧ Below w.heap.size w w' := by
  obtain ⟨i0, hi, hz0, hz1, hz2⟩ := info_parts Tryz.info5
  have hqb := mul_bd hn hp
  have hyb : y ≤ 8 := by have := @fwI_bd p; omega
  have hmb : 1 ≤ m ∧ m ≤ 200 := by have := @fbI_bd n p; omega
  obtain ⟨q, hq⟩ : ∃ q, (n : Int) * p = q := ⟨_, rfl⟩
  have hw : IntKind.i64.wrap ((n : Int) * p) = q := by rw [hq] at hqb ⊢; rw [IntKind.wrap_i64] <;> omega
  unfold fbI at em
  rw [hq] at hqb em
  clear hq
  have EY : Hid (fwI p = y) := ey
  have EM : Hid (fbQ q = m) := em
  clear ey em
  have hB0 := below_new w (.cells #[.int .i64 0, .slice none 0 0] 55)
  have Z0 := FAt.new w 0 (.slice none 0 0) 55
  have zf0 : ∀ j, (w.alloc (.cells #[.int .i64 0, .slice none 0 0] 55)).frozen? ⟨w.heap.size, j, none⟩ = false := fun j => by simp [go_sem]
  have hu : (w.alloc (.cells #[.int .i64 0, .slice none 0 0] 55)).heap.size = w.heap.size + 1 := by simp
  obtain ⟨u, eu⟩ : ∃ u, w.alloc (.cells #[.int .i64 0, .slice none 0 0] 55) = u := ⟨_, rfl⟩
  have EU : Hid (w.alloc (.cells #[.int .i64 0, .slice none 0 0] 55) = u) := eu
  rw [eu] at hB0 Z0 zf0 hu
  clear eu
  go_enter Tryz.func58, Tryz.ntmps58
  go_upto_if 17 with fail
  rw [EU.out]
  obtain ⟨y1, h1⟩ : ∃ y1, (if p * 69 / 100 < 1 then 1 else p * 69 / 100) = y1 := ⟨_, rfl⟩
  have H1 : Hid ((if p * 69 / 100 < 1 then 1 else p * 69 / 100) = y1) := h1
  have H2 : Hid ((if 8 < y1 then 8 else y1) = (y : Int)) := by
    unfold Hid
    rw [← EY.out, ← h1]
    unfold fwI
    repeat' split <;> omega
  have hy1 : 1 ≤ y1 ∧ y1 ≤ 13 := by rw [← h1]; split <;> omega
  clear h1
  go_cut [5] from 13 (fun s5 wx => s5 = .int .i64 y1 ∧ wx = u)
  case first =>
    by_cases a : p * 69 / 100 < 1
    · have HA : Hid (y1 = 1) := by have := H1.out; rw [if_pos a] at this; exact this.symm
      go_wp2
      go_meet
      exact ⟨by rw [HA.out], rfl⟩
    · have HA : Hid (y1 = p * 69 / 100) := by have := H1.out; rw [if_neg a] at this; exact this.symm
      go_wp2
      go_meet
      exact ⟨by rw [HA.out], rfl⟩
  case rest =>
    obtain ⟨rfl, hwc⟩ := hcut
    have hwc2 := hwc.symm
    clear hwc
    subst hwc2
    go_upto_if 19 with fail
    go_cut [5] from 13 (fun s5 wx => s5 = .int .i64 y ∧ wx = u)
    case first =>
      by_cases a : 8 < y1
      · have HA : Hid ((y : Int) = 8) := by have := H2.out; rw [if_pos a] at this; exact this.symm
        go_wp2
        go_meet
        exact ⟨by rw [HA.out], rfl⟩
      · have HA : Hid ((y : Int) = y1) := by have := H2.out; rw [if_neg a] at this; exact this.symm
        go_wp2
        go_meet
        exact ⟨by rw [HA.out], rfl⟩
    case rest =>
      obtain ⟨rfl, hwc⟩ := hcut
      have hwc2 := hwc.symm
      clear hwc H1 H2 hy1
      subst hwc2
      obtain ⟨q1, h1⟩ : ∃ q1, (if q < 64 then 64 else q) = q1 := ⟨_, rfl⟩
      have H1 : Hid ((if q < 64 then 64 else q) = q1) := h1
      have H2 : Hid ((if 200 < (q1 + 7) / 8 then 200 else (q1 + 7) / 8) = (m : Int)) := by
        unfold Hid
        rw [← EM.out, ← h1]
        unfold fbQ
        repeat' split <;> omega
      have hq1 : 64 ≤ q1 ∧ q1 ≤ 2000 := by rw [← h1]; split <;> omega
      clear h1
      go_upto_if 25 with fail
      go_cut [6] from 13 (fun s6 wx => s6 = .int .i64 q1 ∧ wx = u)
      case first =>
        by_cases a : q < 64
        · have HA : Hid (q1 = 64) := by have := H1.out; rw [if_pos a] at this; exact this.symm
          go_wp2
          go_meet
          exact ⟨by rw [HA.out], rfl⟩
        · have HA : Hid (q1 = q) := by have := H1.out; rw [if_neg a] at this; exact this.symm
          go_wp2
          go_meet
          exact ⟨by rw [HA.out], rfl⟩
      case rest =>
        obtain ⟨rfl, hwc⟩ := hcut
        have hwc2 := hwc.symm
        clear hwc H1
        subst hwc2
        go_upto_if 30 with fail
        go_cut [7] from 13 (fun s7 wx => s7 = .int .i64 m ∧ wx = u)
        case first =>
          by_cases a : 200 < (q1 + 7) / 8
          · have HA : Hid ((m : Int) = 200) := by have := H2.out; rw [if_pos a] at this; exact this.symm
            go_wp2
            go_meet
            exact ⟨by rw [HA.out], rfl⟩
          · have HA : Hid ((m : Int) = (q1 + 7) / 8) := by have := H2.out; rw [if_neg a] at this; exact this.symm
            go_wp2
            go_meet
            exact ⟨by rw [HA.out], rfl⟩
        case rest =>
          obtain ⟨rfl, hwc⟩ := hcut
          have hwc2 := hwc.symm
          clear hwc H2 hq1
          subst hwc2
          go_wp2_with (at_make; refine wpList_make_full _ rfl (.tmp 32) (.tmp 32) 22 rfl u.heap.size 5 i0 (.int .u8 0) 1 Tryz.underlying22 hi hz0 hz1 .i64 .i64 _ _ m rfl rfl rfl rfl (by rw [hz2]; omega) (by unfold maxLen; omega) (Nat.le_refl _) ?_; intro w1 hown hgrow; obtain ⟨hb1, ho1⟩ := made_facts hown hgrow; clear hown hgrow)
          rw [hu] at ho1
          have hS1 := ho1.lt
          have hb2 := below_new w1 (.cells #[.int .i64 y, .slice (some ⟨w.heap.size + 1, 0, none⟩) m m] 55)
          have low : ∀ b off, ao = some ⟨b, off, none⟩ → 0 < n → b < w.heap.size := fun b off e h0 => by
            obtain ⟨b', off', e', hlt, _⟩ := hr.lies.resolve_left (by omega)
            rw [e] at e'
            injection e' with e'
            injection e' with e' _ _
            omega
          have hS : Fst w y m w1.heap.size ao n K (w1.alloc (.cells #[.int .i64 y, .slice (some ⟨w.heap.size + 1, 0, none⟩) m m] 55)) :=
            ⟨(Z0.keep hb1).keep hb2, fun j => (hb2.frozen (p := ⟨w.heap.size, j, none⟩) (Nat.lt_of_lt_of_le Z0.lt hb1.size)).trans ((hb1.frozen (p := ⟨w.heap.size, j, none⟩) Z0.lt).trans (zf0 j)), FAt.new _ _ _ _, ((hr.keep hB0).keep hb1).keep hb2, (hB0.trans (hb1.mono hB0.size)).trans (hb2.mono (by omega)), low, hS1⟩
          have o2 := ho1.keep hb2
          generalize w1.alloc (.cells #[.int .i64 y, .slice (some ⟨w.heap.size + 1, 0, none⟩) m m] 55) = w2 at hS o2 ⊢
          obtain ⟨_, hsz⟩ := hz
          clear hb1 ho1 hb2 Z0 zf0 hB0 hr hu EU EY EM hqb hw
          go_loopw [37] (fun i wr => ∃ k : Nat, k ≤ n ∧ i = .int .i64 k ∧ Own wr (w.heap.size + 1) 0 m (kyF K y m k) ∧ Fst w y m w1.heap.size ao n K wr) (fun i _ => n - (intOf i).toNat)
          case atStart => exact ⟨0, Nat.zero_le _, rfl, o2, hS⟩
          case round =>
            obtain ⟨k, hk, rfl, hok, hSk⟩ := hrel
            clear hS o2
            obtain ⟨lf, f0, f1⟩ := id hSk.fat
            by_cases hlt : k < n
            · obtain ⟨b, off, rfl, hblt, hc⟩ := hSk.row.lies.resolve_left (by omega)
              have c1 := hc k hlt
              have hP := fun W => l6Places_any (K k) y m W (hsz k hlt) hyb hmb
              have HK : Hid (∀ F, F = putL (kyF K y m k) (plL (hOf (K k) 0) (hOf (K k) 1) (8 * m) y) → F = kyF K y m (k + 1)) := fun F h => h
              generalize hOf (K k) 0 = h at hP HK
              generalize hOf (K k) 1 = d at hP HK
              obtain ⟨M, hMe⟩ : ∃ M : Int, 8 * (m : Int) = M := ⟨_, rfl⟩
              rw [hMe] at hP HK
              have hM : 0 < M := by omega
              clear hc
              go_wp2_with fail
              refine (hP _).mono ?_
              rintro e w3 ⟨v, rfl, hO, hb3⟩
              obtain ⟨lo, lc, rfl, hlc, hI⟩ := hO.form
              have hge := hO.own.lt
              have hl := plL_len h d M y
              rw [hl] at hI hge ⊢
              have S3 := hSk
              have o3 := hok.keep hb3
              have S3 : Fst w y m w1.heap.size (some ⟨b, off, none⟩) n K w3 := hSk.grown (grown_of_below hb3 _)
              have hgl := hok.lt
              clear hP hSk hok lf f0 f1 c1 hO hlc hl
              go_wp2
              go_loopw [46] (fun i ws => ∃ j : Nat, j ≤ y ∧ i = .int .i64 j ∧ Own ws (w.heap.size + 1) 0 m (putL (kyF K y m k) (plL h d M j)) ∧ Others (w.heap.size + 1) w3 ws) (fun i _ => y - (intOf i).toNat)
              case atStart => exact ⟨0, Nat.zero_le _, rfl, o3, Others.refl _ _⟩
              case round =>
                obtain ⟨j, hj, rfl, hoj, hX⟩ := hrel
                have Sj := S3.grown hX.grown
                obtain ⟨lf, f0, f1⟩ := id Sj.fat
                have hne := Sj.ne
                by_cases hjy : j < y
                · obtain ⟨b2, of2, rfl, hb2, hc2⟩ := hI.lies.resolve_left (by omega)
                  have hb2g := (hge b2 rfl).1
                  have c2 := (World.cell?_of_block (w := w3) (a := ⟨b2, of2 + j, none⟩) (hX.block b2 (by omega))).trans (hc2 j hjy)
                  rw [fi_plL hjy] at c2
                  have hp := pl_bd h d hM j
                  have HE : Hid (plL h d M (j + 1) = plL h d M j ++ [pl h d M j]) := plL_succ _ _ _ _
                  generalize pl h d M j = x at c2 hp HE
                  have hqa : 0 ≤ x / 8 := by omega
                  have hqb : x / 8 < (m : Int) := by omega
                  have hqc : (x / 8).toNat < m := by omega
                  have hcq := hoj.cell (x / 8).toNat hqc
                  have hcz := hoj.free (x / 8).toNat hqc
                  rw [Nat.zero_add] at hcq hcz
                  have hst := hoj.set hqc
                  have HP : Hid (putL (kyF K y m k) (plL h d M (j + 1)) = setB (putL (kyF K y m k) (plL h d M j)) x) := by unfold Hid; rw [HE.out, putL_snoc]
                  have hoth := fun v => hX.trans (Others.setCell wr (w.heap.size + 1) (x / 8).toNat v)
                  generalize putL (kyF K y m k) (plL h d M j) (x / 8).toNat = z at hcq hst
                  clear hc2 hI hge S3 Sj HE hoj hX
                  rcases cases8 (j := x % 8) (by omega) with hr | hr | hr | hr | hr | hr | hr | hr
                  all_goals
                    rw [hr] at hst
                    go_wp2
                    go_roundw
                    case rel => exact ⟨j + 1, by omega, by go_num, by rw [HP.out]; exact hst, hoth _⟩
                    case measure => simp [intOf]; omega
                · obtain rfl : j = y := by omega
                  have e3 := HK.out _ rfl
                  rw [e3] at hoj
                  clear hI hge S3
                  go_wp2
                  go_roundw
                  case rel => exact ⟨k + 1, by omega, by go_num, hoj, Sj⟩
                  case measure => simp [intOf]; omega
            · obtain rfl : k = n := by omega
              obtain ⟨lz, z0, z1⟩ := id hSk.zat
              have g0 := hSk.zf 0
              have g1 := hSk.zf 1
              have bw := hSk.bel
              have hne := hSk.ne
              clear hSk
              go_wp2
              refine bodyPost_ret (v := .agg #[.int .i64 y, .slice (some ⟨w.heap.size + 1, 0, none⟩) m m]) (by simp [results, Tryz.results58, go_sem, z0, z1]) rfl ?_
              refine ⟨some ⟨w.heap.size + 1, 0, none⟩, m, rfl, ⟨ffl_byt hok.bd, Nat.le_refl _, .inr ⟨w.heap.size + 1, 0, rfl, by omega, by simp; exact hok.lt, ?_⟩⟩, ?_⟩
              · rw [ffl_len]
                refine Own.congr (f := kyF K y m k) ?_ (Byt.fl (ffl_byt hok.bd)) (fun i hi => by rw [ffl_fl hi])
                repeat' refine (Others.setCell _ _ _ _).row ?_ (by omega)
                exact hok
              · repeat' refine Below.setCell ?_ (by first | (simp; done) | (simp; omega)) _
                exact bw

end Go.Proofs.YtohjjigkfdhklaaGreat
