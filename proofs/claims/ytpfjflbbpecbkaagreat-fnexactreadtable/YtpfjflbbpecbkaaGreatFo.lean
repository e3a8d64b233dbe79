/- A filter of keys, in the program. -/
import Derived.Test.YtpfjflbbpecbkaaGreatPu
import Derived.Test.YtpfjflbbpecbkaaGreatRf
namespace Go.Proofs.YtpfjflbbpecbkaaGreat
set_option maxRecDepth 100000
open Go.RowKit
set_option linter.unusedSimpArgs false
set_option linter.unusedVariables false

/-- The bits when the first keys are in. -/
def kyF (K : Nat → ByteArray) (y m : Nat) : Nat → (Nat → Int)
  | 0 => fun _ => 0
  | k + 1 => putL (kyF K y m k) (plL (hOf (K k) 0) (hOf (K k) 1) (8 * m) y)
/-- As said. -/
def FOg (n : Nat) (p : Int) : Prop := n ≤ 100 ∧ 1 ≤ p ∧ p ≤ 20
/-- What FilterOf answers. -/
def FOO (K : Nat → ByteArray) (n : Nat) (p : Int) (w : World) (e : Ending) (w' : World) : Prop :=
  (FOg n p → RO (fwI p) (ffl (kyF K (fwI p).toNat (fbI n p).toNat n) (fbI n p).toNat) true w e w') ∧ (¬ FOg n p → RO 0 [] false w e w')

theorem FAt.grown {w w' : World} {b c : Nat} {y : Int} {v : Value} (h : FAt w b y v) (hg : w.grownBy w' (some c)) (hne : b ≠ c) : FAt w' b y v :=
  ⟨Nat.lt_of_lt_of_le h.lt hg.size, hg.cell h.c0 (fun e => hne (Option.some.inj e)), hg.cell h.c1 (fun e => hne (Option.some.inj e))⟩
theorem TRow.grown {w w' : World} {ao : Option Addr} {n c : Nat} {K : Nat → ByteArray} (h : TRow w ao n K) (hg : w.grownBy w' (some c)) (hne : ∀ b off, ao = some ⟨b, off, none⟩ → 0 < n → b ≠ c) : TRow w' ao n K := by
  refine ⟨?_⟩
  by_cases h0 : n = 0
  · exact .inl h0
  · obtain ⟨b, off, e, hlt, hc⟩ := h.lies.resolve_left h0
    exact .inr ⟨b, off, e, Nat.lt_of_lt_of_le hlt hg.size, fun i hi => hg.cell (hc i hi) (fun e' => hne b off e (by omega) (Option.some.inj e'))⟩

/-- What was made ahead of the keys. -/
structure Fst (w : World) (y : Int) (m B6 : Nat) (ao : Option Addr) (n : Nat) (K : Nat → ByteArray) (W : World) : Prop where
  zat : FAt W w.heap.size 0 (.slice none 0 0)
  zf : ∀ j, W.frozen? ⟨w.heap.size, j, none⟩ = false
  fat : FAt W B6 y (.slice (some ⟨w.heap.size + 1, 0, none⟩) m m)
  row : TRow W ao n K
  bel : Below w.heap.size w W
  low : ∀ b off, ao = some ⟨b, off, none⟩ → 0 < n → b < w.heap.size
  ne : w.heap.size + 1 < B6
theorem Fst.grown {w W W' : World} {y : Int} {m B6 : Nat} {ao : Option Addr} {n : Nat} {K : Nat → ByteArray} (h : Fst w y m B6 ao n K W) (hg : W.grownBy W' (some (w.heap.size + 1))) : Fst w y m B6 ao n K W' :=
  ⟨h.zat.grown hg (by omega), fun j => (World.frozen?_of_block (w := W) (a := ⟨w.heap.size, j, none⟩) (hg.block w.heap.size h.zat.lt (fun e => by injection e with e; omega))).trans (h.zf j), h.fat.grown hg (by have := h.ne; omega), h.row.grown hg (fun b off e h0 => by have := h.low b off e h0; omega), h.bel.grown hg h.bel.size (fun k e => by injection e with e; omega), h.low, h.ne⟩

set_option maxHeartbeats 1600000 in
theorem filterOf_impl (ao : Option Addr) (n cap : Nat) (K : Nat → ByteArray) (p : Int) (w : World) (hr : TRow w ao n K) (hz : TSz K n) :
    Calls Tryz.prog 82 #[.slice ao n cap, .int .i64 p] w fun e w' => FOO K n p w e w' := by
  obtain ⟨i0, hi, hz0, hz1, hz2⟩ := info_parts Tryz.info5
  obtain ⟨hn, hsz⟩ := hz
  have fin : ∀ W, Below w.heap.size w W → ¬ FOg n p → FOO K n p w (.returned (.tuple #[.agg #[.int .i64 0, .slice none 0 0], .bool false])) W := fun W h hg => ⟨fun h' => absurd h' hg, fun _ => ro_zero h⟩
  by_cases h1 : n ≤ 100
  case neg =>
    have d1 : decide ((100 : Int) < (n : Int)) = true := by simp; omega
    have HG : Hid (¬ FOg n p) := fun h => by have := h.1; omega
    go_enter Tryz.func82, Tryz.ntmps82
    go_wp2
    refine bodyPost_ret (v := .tuple #[.agg #[.int .i64 0, .slice none 0 0], .bool false]) (by simp [results, Tryz.results82, go_sem]) rfl (fin _ ?_ HG.out)
    repeat' refine Below.setCell ?_ (by first | (simp; done) | (simp; omega)) _
    exact below_new w _
  have d1 : decide ((100 : Int) < (n : Int)) = false := by simp; omega
  by_cases h2 : 1 ≤ p
  case neg =>
    have d2 : decide (p < 1) = true := by simp; omega
    have HG : Hid (¬ FOg n p) := fun h => by have := h.2.1; omega
    go_enter Tryz.func82, Tryz.ntmps82
    go_wp2
    refine bodyPost_ret (v := .tuple #[.agg #[.int .i64 0, .slice none 0 0], .bool false]) (by simp [results, Tryz.results82, go_sem]) rfl (fin _ ?_ HG.out)
    repeat' refine Below.setCell ?_ (by first | (simp; done) | (simp; omega)) _
    exact below_new w _
  have d2 : decide (p < 1) = false := by simp; omega
  by_cases h3 : p ≤ 20
  case neg =>
    have d3 : decide (20 < p) = true := by simp; omega
    have HG : Hid (¬ FOg n p) := fun h => by have := h.2.2; omega
    go_enter Tryz.func82, Tryz.ntmps82
    go_wp2
    refine bodyPost_ret (v := .tuple #[.agg #[.int .i64 0, .slice none 0 0], .bool false]) (by simp [results, Tryz.results82, go_sem]) rfl (fin _ ?_ HG.out)
    repeat' refine Below.setCell ?_ (by first | (simp; done) | (simp; omega)) _
    exact below_new w _
  have d3 : decide (20 < p) = false := by simp; omega
  have HG : Hid (FOg n p) := ⟨h1, h2, h3⟩
  have cw := fun W => filterWays_any p W ⟨h2, h3⟩
  have cb := fun W => filterBytes_n n p W h1 ⟨h2, h3⟩
  obtain ⟨y, ey⟩ : ∃ y : Nat, fwI p = y := ⟨(fwI p).toNat, by have := @fwI_bd p; omega⟩
  obtain ⟨m, em⟩ : ∃ m : Nat, fbI n p = m := ⟨(fbI n p).toNat, by have := @fbI_bd n p; omega⟩
  have hyb : y ≤ 8 := by have := @fwI_bd p; omega
  have hmb : 1 ≤ m ∧ m ≤ 200 := by have := @fbI_bd n p; omega
  have HF : Hid (∀ e W, RO y (ffl (kyF K y m n) m) true w e W → FOO K n p w e W) := fun e W h => ⟨fun _ => by rw [ey, em]; exact h, fun h' => absurd HG.out h'⟩
  rw [ey] at cw
  rw [em] at cb
  clear ey em fin h1 h2 h3
  have hB0 := below_new w (.cells #[.int .i64 0, .slice none 0 0] 40)
  have Z0 := FAt.new w 0 (.slice none 0 0) 40
  have zf0 : ∀ j, (w.alloc (.cells #[.int .i64 0, .slice none 0 0] 40)).frozen? ⟨w.heap.size, j, none⟩ = false := fun j => by simp [go_sem]
  have hu : (w.alloc (.cells #[.int .i64 0, .slice none 0 0] 40)).heap.size = w.heap.size + 1 := by simp
  have low : ∀ b off, ao = some ⟨b, off, none⟩ → 0 < n → b < w.heap.size := fun b off e h0 => by
    obtain ⟨b', off', e', hlt, _⟩ := hr.lies.resolve_left (by omega)
    rw [e] at e'
    injection e' with e'
    injection e' with e' _ _
    omega
  go_enter Tryz.func82, Tryz.ntmps82
  go_wp2_with fail
  refine (cw _).mono ?_
  rintro e w1 ⟨rfl, hw1⟩
  rw [hw1]
  clear hw1 w1
  go_wp2_with fail
  refine (cb _).mono ?_
  rintro e w1 ⟨rfl, hw1⟩
  rw [hw1]
  clear hw1 w1 cw cb
  generalize w.alloc (.cells #[.int .i64 0, .slice none 0 0] 40) = u at *
  go_wp2_with (at_make; refine wpList_make_full _ rfl (.tmp 26) (.tmp 26) 22 rfl u.heap.size 5 i0 (.int .u8 0) 1 Tryz.underlying22 hi hz0 hz1 .i64 .i64 _ _ m rfl rfl rfl rfl (by rw [hz2]; omega) (by unfold maxLen; omega) (Nat.le_refl _) ?_; intro w1 hown hgrow; obtain ⟨hb1, ho1⟩ := made_facts hown hgrow; clear hown hgrow)
  rw [hu] at ho1
  have hS1 := ho1.lt
  have hb2 := below_new w1 (.cells #[.int .i64 y, .slice (some ⟨w.heap.size + 1, 0, none⟩) m m] 40)
  have hS : Fst w y m w1.heap.size ao n K (w1.alloc (.cells #[.int .i64 y, .slice (some ⟨w.heap.size + 1, 0, none⟩) m m] 40)) :=
    ⟨(Z0.keep hb1).keep hb2, fun j => (hb2.frozen (p := ⟨w.heap.size, j, none⟩) (Nat.lt_of_lt_of_le Z0.lt hb1.size)).trans ((hb1.frozen (p := ⟨w.heap.size, j, none⟩) Z0.lt).trans (zf0 j)), FAt.new _ _ _ _, ((hr.keep hB0).keep hb1).keep hb2, (hB0.trans (hb1.mono hB0.size)).trans (hb2.mono (by omega)), low, hS1⟩
  have o2 := ho1.keep hb2
  have hsz2 : w1.heap.size < (w1.alloc (.cells #[.int .i64 y, .slice (some ⟨w.heap.size + 1, 0, none⟩) m m] 40)).heap.size := by simp
  generalize w1.alloc (.cells #[.int .i64 y, .slice (some ⟨w.heap.size + 1, 0, none⟩) m m] 40) = w2 at hS o2 hsz2 ⊢
  clear hb1 ho1 hb2 Z0 zf0 hB0 hr hu
  go_loopw [31] (fun i wr => ∃ k : Nat, k ≤ n ∧ i = .int .i64 k ∧ Own wr (w.heap.size + 1) 0 m (kyF K y m k) ∧ Fst w y m w1.heap.size ao n K wr) (fun i _ => n - (intOf i).toNat)
  case atStart => exact ⟨0, Nat.zero_le _, rfl, o2, hS⟩
  case round =>
    obtain ⟨k, hk, rfl, hok, hSk⟩ := hrel
    clear hS o2
    obtain ⟨lf, f0, f1⟩ := id hSk.fat
    by_cases hlt : k < n
    · obtain ⟨b, off, rfl, hblt, hc⟩ := hSk.row.lies.resolve_left (by omega)
      have c1 := hc k hlt
      have hP := put_any (K k) y (w.heap.size + 1) m (kyF K y m k) wr hok (hsz k hlt) hyb hmb
      have HK : Hid (kyF K y m (k + 1) = putL (kyF K y m k) (plL (hOf (K k) 0) (hOf (K k) 1) (8 * m) y)) := rfl
      generalize putL (kyF K y m k) (plL (hOf (K k) 0) (hOf (K k) 1) (8 * m) y) = Fk at hP HK
      clear hc
      go_wp2_with fail
      refine hP.mono ?_
      rintro e w3 ⟨rfl, o3, g3⟩
      have S3 := hSk.grown g3
      clear hP g3 hSk hok lf f0 f1 c1
      rw [← HK.out] at o3
      go_wp2
      go_roundw
      case rel => exact ⟨k + 1, by omega, by go_num, o3, S3⟩
      case measure => simp [intOf]; omega
    · obtain rfl : k = n := by omega
      obtain ⟨lz, z0, z1⟩ := id hSk.zat
      have g0 := hSk.zf 0
      have g1 := hSk.zf 1
      have bw := hSk.bel
      have hne := hSk.ne
      clear hSk
      go_wp2
      refine bodyPost_ret (v := .tuple #[.agg #[.int .i64 y, .slice (some ⟨w.heap.size + 1, 0, none⟩) m m], .bool true]) (by simp [results, Tryz.results82, go_sem, z0, z1]) rfl (HF.out _ _ ?_)
      refine ⟨some ⟨w.heap.size + 1, 0, none⟩, m, by rw [ffl_len], ⟨ffl_byt hok.bd, Nat.le_refl _, .inr ⟨w.heap.size + 1, 0, rfl, by omega, by simp; exact hok.lt, ?_⟩⟩, ?_⟩
      · rw [ffl_len]
        refine Own.congr (f := kyF K y m k) ?_ (Byt.fl (ffl_byt hok.bd)) (fun i hi => by rw [ffl_fl hi])
        repeat' refine (Others.setCell _ _ _ _).row ?_ (by omega)
        exact hok
      · repeat' refine Below.setCell ?_ (by first | (simp; done) | (simp; omega)) _
        exact bw
end Go.Proofs.YtpfjflbbpecbkaaGreat
