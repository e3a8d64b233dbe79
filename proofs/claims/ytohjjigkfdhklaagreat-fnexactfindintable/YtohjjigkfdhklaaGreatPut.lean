/- Numbers of varying length: what PutVar lays. / PutVar's bytes as a list. / Numbers put behind bytes, and the numbers of an agg in a row. -/
import Derived.Test.YtohjjigkfdhklaaGreatBV
import Derived.OpenShut
import Derived.Test.YtohjjigkfdhklaaGreatIL
namespace Go.Proofs.YtohjjigkfdhklaaGreat
set_option maxRecDepth 100000
open Go.RowKit
set_option linter.unusedSimpArgs false
set_option linter.unusedVariables false

/-- The number behind k groups of seven bits. -/
def pv (n : Int) : Nat → Int
  | 0 => n
  | k + 1 => pv n k / 128
/-- The byte of a group that is not the last. -/
def pg (n : Int) (i : Nat) : Int := bits .or .u8 (pv n i % 256) 128
/-- The bytes: k groups with their eighth bit, then the last. -/
def pb (n : Int) (k : Nat) (i : Nat) : Int := if i < k then pg n i else pv n k
def PLen (n : Int) (k : Nat) : Prop := k ≤ 9 ∧ (∀ j, j < k → 127 < pv n j) ∧ pv n k ≤ 127

theorem pv_bd (n : Int) (h : 0 ≤ n ∧ n ≤ 18446744073709551615) (k : Nat) : 0 ≤ pv n k ∧ pv n k ≤ 18446744073709551615 := by
  induction k with
  | zero => exact h
  | succ k ih => simp only [pv]; omega
theorem pv_nine (n : Int) (h : 0 ≤ n ∧ n ≤ 18446744073709551615) : pv n 9 ≤ 127 := by simp only [pv]; omega
theorem pg_bd (n : Int) (i : Nat) : 0 ≤ pg n i ∧ pg n i ≤ 255 := bounds_u8 (wf_bits _ _ _ _)
theorem pb_bd (n : Int) (h : 0 ≤ n ∧ n ≤ 18446744073709551615) (k : Nat) (hk : pv n k ≤ 127) (i : Nat) : 0 ≤ pb n k i ∧ pb n k i ≤ 255 := by
  unfold pb
  split
  · exact pg_bd _ _
  · have := pv_bd n h k; omega
theorem PLen.one {n : Int} {k j : Nat} (h : PLen n k) (g : PLen n j) : k = j := by
  rcases Nat.lt_trichotomy k j with e | e | e
  · have := g.2.1 k e; have := h.2.2; omega
  · exact e
  · have := h.2.1 j e; have := g.2.2; omega
theorem pb_cells (n : Int) (k : Nat) : bcells (pg n) k ++ [Value.int .u8 (pv n k)] = bcells (pb n k) (k + 1) := by
  rw [← bcells_succ, bcells_congr (f := pg n) (g := pb n k) (fun i hi => by simp [pb, hi])]
  simp [pb]

/-- What a PutVar leaves: its bytes, in memory of their own. -/
def PVOut (n : Int) (w : World) (e : Ending) (w' : World) : Prop :=
  ∃ k g cap, PLen n k ∧ e = .returned (.slice (some ⟨g, 0, none⟩) (k + 1) cap) ∧ w.heap.size ≤ g ∧ Own w' g 0 (k + 1) (pb n k) ∧ Below w.heap.size w w'

set_option maxHeartbeats 400000 in
theorem putVar_spec (n : Int) (w : World) (hn : 0 ≤ n ∧ n ≤ 18446744073709551615) :
    Calls Tryz.prog 57 #[.int .u64 n] w fun e w' => PVOut n w e w' := by
  obtain ⟨i0, hi, hz0, hz1, hz2⟩ := info_parts Tryz.info5
  go_enter Tryz.func57, Tryz.ntmps57
  go_wp2
  go_loopw [0, 3] (fun q v wr => ∃ k : Nat, k ≤ 9 ∧ q = .int .u64 (pv n k) ∧ (∀ j, j < k → 127 < pv n j) ∧ wr.ownsRow w.heap.size 5 1 v k (bcells (pg n) k) ∧ Below w.heap.size w wr) (fun q _ _ => (intOf q).toNat)
  case atStart => exact ⟨0, by omega, rfl, by omega, World.ownsRow_nil _ _ _ _, Below.refl _ _⟩
  case round =>
    obtain ⟨k, hk, rfl, hgt, hown, hbk⟩ := hrel
    have hb := pv_bd n hn k
    have hsz := hbk.size
    by_cases hlt : 127 < pv n k
    · have hk9 : k < 9 := by
        rcases Nat.lt_or_ge k 9 with h | h
        · exact h
        · have e : k = 9 := by omega
          subst e; have := pv_nine n hn; omega
      go_wp2_with (at_builtin; refine wpList_append_own _ rfl (.tmp 6) (.tmp 10) 22 rfl w.heap.size 5 i0 (.int .u8 0) 1 1 Tryz.underlying22 hi hz0 hz1 hz2 rfl (by decide) _ _ _ rfl (hown.alloc _) ⟨wr.heap.size, 0, none⟩ 1 1 [.int .u8 (pg n k)] rfl rfl (cell_one_new _ _ _) (by simp [Value.oneCell']) (by unfold maxLen; omega) (by omega) (by simp; omega) ?_; intro v' w1 hown' hgrow _)
      have hbw := below_append (hbk.alloc hsz _) (hown.alloc _) hgrow (Nat.le_refl _) (by simp; omega)
      rw [bcells_succ] at hown'
      go_roundw
      case rel =>
        refine ⟨k + 1, by omega, rfl, fun j hj => ?_, hown', hbw⟩
        rcases Nat.lt_succ_iff_lt_or_eq.1 hj with h | h
        · exact hgt j h
        · rw [h]; exact hlt
      case measure => simp [intOf]; omega
    · have hle : pv n k ≤ 127 := by omega
      go_wp2_with (at_builtin; refine wpList_append_own _ rfl (.tmp 14) (.tmp 17) 22 rfl w.heap.size 5 i0 (.int .u8 0) 1 1 Tryz.underlying22 hi hz0 hz1 hz2 rfl (by decide) _ _ _ rfl (hown.alloc _) ⟨wr.heap.size, 0, none⟩ 1 1 [.int .u8 (pv n k)] rfl rfl (cell_one_new _ _ _) (by simp [Value.oneCell']) (by unfold maxLen; omega) (by omega) (by simp; omega) ?_; intro v' w1 hown' hgrow _)
      have hbw := below_append (hbk.alloc hsz _) (hown.alloc _) hgrow (Nat.le_refl _) (by simp; omega)
      rw [pb_cells] at hown'
      obtain ⟨g, cap, hv, hg, _, hO⟩ := own_of_row hown' (by omega) (pb_bd n hn k hle)
      rw [hv]
      go_ret
      exact ⟨k, g, cap, ⟨hk, hgt, hle⟩, rfl, hg, hO, hbw⟩

theorem or_low : ∀ m, m < 256 → m ||| 128 = m % 128 ||| 128 := by decide +kernel
theorem and_or (x : Int) (hx : 0 ≤ x ∧ x ≤ 18446744073709551615) : bits .or .u8 (bits .and .u64 x 127 % 256) 128 = bits .or .u8 (x % 256) 128 := by
  obtain ⟨m, rfl⟩ := Int.eq_ofNat_of_zero_le hx.1
  have e1 : bits .and .u64 (m : Int) 127 = ((m % 128 : Nat) : Int) := by
    rw [show (127 : Int) = ((127 : Nat) : Int) from rfl, u64_and_nat _ _ (by omega) (by omega), nat_mask7]
  rw [e1]
  have e2 : ((m % 128 : Nat) : Int) % 256 = ((m % 128 : Nat) : Int) := by omega
  have e3 : (m : Int) % 256 = ((m % 256 : Nat) : Int) := by omega
  rw [e2, e3, show (128 : Int) = ((128 : Nat) : Int) from rfl, u8_or_nat _ _ (by omega) (by omega), u8_or_nat _ _ (by omega) (by omega), or_low (m % 256) (by omega)]
  rw [show m % 256 % 128 = m % 128 from by omega]

set_option maxHeartbeats 400000 in
theorem putVar_impl (n : Int) (w : World) (hn : 0 ≤ n ∧ n ≤ 18446744073709551615) :
    Calls Tryz.prog 188 #[.int .u64 n] w fun e w' => PVOut n w e w' := by
  have h0 : Own (w.alloc (.cells #[.int .u8 0, .int .u8 0, .int .u8 0, .int .u8 0, .int .u8 0, .int .u8 0, .int .u8 0, .int .u8 0, .int .u8 0, .int .u8 0] 210)) w.heap.size 0 10 (fun _ => 0) := by
    exact own_new _ _ _ _ rfl
  go_enter Tryz.func188, Tryz.ntmps188
  go_wp2
  go_loopw [0, 4] (fun q i wr => ∃ k : Nat, k ≤ 9 ∧ i = .int .i64 k ∧ q = .int .u64 (pv n k) ∧ (∀ j, j < k → 127 < pv n j) ∧ Own wr w.heap.size 0 10 (fun i => if i < k then pg n i else 0) ∧ Below w.heap.size w wr) (fun q _ _ => (intOf q).toNat)
  case atStart => exact ⟨0, by omega, rfl, rfl, by omega, by simpa using h0, (Below.refl _ _).alloc (Nat.le_refl _) _⟩
  case round =>
    obtain ⟨k, hk, rfl, rfl, hgt, hown, hbk⟩ := hrel
    have hb := pv_bd n hn k
    have hc := hown.cell k (by omega)
    have hf := hown.free k (by omega)
    simp only [Nat.zero_add] at hc hf
    by_cases hlt : 127 < pv n k
    · have hk9 : k < 9 := by
        rcases Nat.lt_or_ge k 9 with h | h
        · exact h
        · have e : k = 9 := by omega
          subst e; have := pv_nine n hn; omega
      have hst := hown.store k (by omega) (pg n k) (pg_bd n k)
      have heq : Hid (bits .or .u8 (bits .and .u64 (pv n k) 127 % 256) 128 = pg n k) := and_or _ hb
      rw [Nat.zero_add] at hst
      go_wp2
      go_roundw
      case rel =>
        rw [heq.out]
        refine ⟨k + 1, by omega, by go_num, rfl, fun j hj => ?_, hst.congr (fun i => ?_) (fun i _ => ?_), hbk.setCell (Nat.le_refl _) _⟩
        · rcases Nat.lt_succ_iff_lt_or_eq.1 hj with h | h
          · exact hgt j h
          · rw [h]; exact hlt
        · have := pg_bd n i
          split <;> omega
        · by_cases h1 : i = k
          · subst h1; simp
          · by_cases h2 : i < k
            · rw [if_neg h1, if_pos h2, if_pos (by omega)]
            · rw [if_neg h1, if_neg h2, if_neg (by omega)]
      case measure => simp [intOf]; omega
    · have hle : pv n k ≤ 127 := by omega
      have hsl := slice_arr_hm 210 10 Tryz.underlying210 ⟨w.heap.size, 0, none⟩ ((k : Int) + 1) (k + 1) (by omega) (by omega)
      have hst := hown.store k (by omega) (pv n k) (by omega)
      rw [Nat.zero_add] at hst
      go_wp2
      go_ret
      refine ⟨k, w.heap.size, k + 1, ⟨hk, hgt, hle⟩, rfl, Nat.le_refl _, ?_, hbk.setCell (Nat.le_refl _) _⟩
      refine ⟨pb_bd n hn k hle, hst.lt, fun i hi => ?_, fun i hi => hst.free i (by omega)⟩
      rw [hst.cell i (by omega)]
      by_cases h1 : i = k
      · subst h1; simp [pb]
      · simp [pb, h1, show i < k by omega]
end Go.Proofs.YtohjjigkfdhklaaGreat

namespace Go.Proofs.YtohjjigkfdhklaaGreat
set_option maxRecDepth 100000
open Go.RowKit
set_option linter.unusedSimpArgs false
set_option linter.unusedVariables false

/-- How many groups come ahead of the last. -/
def pk (u : Int) : Nat :=
  if pv u 0 ≤ 127 then 0 else if pv u 1 ≤ 127 then 1 else if pv u 2 ≤ 127 then 2 else if pv u 3 ≤ 127 then 3 else if pv u 4 ≤ 127 then 4
  else if pv u 5 ≤ 127 then 5 else if pv u 6 ≤ 127 then 6 else if pv u 7 ≤ 127 then 7 else if pv u 8 ≤ 127 then 8 else 9
theorem pk_le (u : Int) : pk u ≤ 9 := by
  unfold pk
  repeat' split
  all_goals omega
def pvL (u : Int) : List Int := (List.range (pk u + 1)).map (pb u (pk u))
theorem pvL_length (u : Int) : (pvL u).length = pk u + 1 := by simp [pvL]

theorem plen_pk {u : Int} {k : Nat} (h : PLen u k) : pk u = k := by
  obtain ⟨hk, hgt, hle⟩ := h
  have g : ∀ j, j < k → ¬ pv u j ≤ 127 := fun j hj => by have := hgt j hj; omega
  have hc : k = 0 ∨ k = 1 ∨ k = 2 ∨ k = 3 ∨ k = 4 ∨ k = 5 ∨ k = 6 ∨ k = 7 ∨ k = 8 ∨ k = 9 := by omega
  clear hk hgt
  unfold pk
  rcases hc with rfl | rfl | rfl | rfl | rfl | rfl | rfl | rfl | rfl | rfl
  · rw [if_pos hle]
  · rw [if_neg (g 0 (by omega)), if_pos hle]
  · rw [if_neg (g 0 (by omega)), if_neg (g 1 (by omega)), if_pos hle]
  · rw [if_neg (g 0 (by omega)), if_neg (g 1 (by omega)), if_neg (g 2 (by omega)), if_pos hle]
  · rw [if_neg (g 0 (by omega)), if_neg (g 1 (by omega)), if_neg (g 2 (by omega)), if_neg (g 3 (by omega)), if_pos hle]
  · rw [if_neg (g 0 (by omega)), if_neg (g 1 (by omega)), if_neg (g 2 (by omega)), if_neg (g 3 (by omega)), if_neg (g 4 (by omega)), if_pos hle]
  · rw [if_neg (g 0 (by omega)), if_neg (g 1 (by omega)), if_neg (g 2 (by omega)), if_neg (g 3 (by omega)), if_neg (g 4 (by omega)), if_neg (g 5 (by omega)), if_pos hle]
  · rw [if_neg (g 0 (by omega)), if_neg (g 1 (by omega)), if_neg (g 2 (by omega)), if_neg (g 3 (by omega)), if_neg (g 4 (by omega)), if_neg (g 5 (by omega)), if_neg (g 6 (by omega)), if_pos hle]
  · rw [if_neg (g 0 (by omega)), if_neg (g 1 (by omega)), if_neg (g 2 (by omega)), if_neg (g 3 (by omega)), if_neg (g 4 (by omega)), if_neg (g 5 (by omega)), if_neg (g 6 (by omega)), if_neg (g 7 (by omega)), if_pos hle]
  · rw [if_neg (g 0 (by omega)), if_neg (g 1 (by omega)), if_neg (g 2 (by omega)), if_neg (g 3 (by omega)), if_neg (g 4 (by omega)), if_neg (g 5 (by omega)), if_neg (g 6 (by omega)), if_neg (g 7 (by omega)), if_neg (g 8 (by omega))]

/-- What a PutVar leaves, by its list. -/
def PVL (u : Int) (w : World) (e : Ending) (w' : World) : Prop :=
  ∃ g cap, e = .returned (.slice (some ⟨g, 0, none⟩) (pvL u).length cap) ∧ w.heap.size ≤ g ∧ At w' g 0 (pvL u) ∧ Below w.heap.size w w'
theorem pvl_of {u : Int} {w w' : World} {e : Ending} (h : PVOut u w e w') : PVL u w e w' := by
  obtain ⟨k, g, cap, hp, rfl, hg, ho, hb⟩ := h
  have ek := plen_pk hp
  subst ek
  refine ⟨g, cap, by rw [pvL_length], hg, ⟨fun x hx => ?_, ho.lt, fun i hi => ?_⟩, hb⟩
  · obtain ⟨i, hi, rfl⟩ := List.mem_map.1 hx
    exact ho.bd i
  · rw [pvL_length] at hi
    rw [ho.cell i hi]
    simp [fl, pvL, hi]

/-- The sign folded in. -/
def foldI (n : Int) : Int := if n < 0 then -2 * n - 1 else 2 * n
theorem foldI_bd {n : Int} (h : -1000000000000000000 ≤ n ∧ n ≤ 1000000000000000000) : 0 ≤ foldI n ∧ foldI n ≤ 18446744073709551615 := by
  unfold foldI
  split <;> omega
theorem foldSign_any (n : Int) (h : -1000000000000000000 ≤ n ∧ n ≤ 1000000000000000000) (w : World) :
    Calls Tryz.prog 195 #[.int .i64 n] w fun e w' => e = .returned (.int .u64 (foldI n)) ∧ w' = w := by
  by_cases h0 : n < 0
  · have hw : IntKind.i64.wrap (-n) = -n := by rw [IntKind.wrap_i64] <;> omega
    have e : foldI n = 2 * -n - 1 := by rw [foldI, if_pos h0]; omega
    go_enter Tryz.func195, Tryz.ntmps195
    go_wp2
    go_ret
    exact ⟨by simp_all, rfl⟩
  · have e : foldI n = 2 * n := by rw [foldI, if_neg h0]
    go_enter Tryz.func195, Tryz.ntmps195
    go_wp2
    go_ret
    exact ⟨by simp_all, rfl⟩
end Go.Proofs.YtohjjigkfdhklaaGreat

namespace Go.Proofs.YtohjjigkfdhklaaGreat
set_option maxRecDepth 100000
open Go.RowKit
set_option linter.unusedSimpArgs false
set_option linter.unusedVariables false

/-- What is left where M was put behind the row v. -/
def Putt (base : Nat) (v : Value) (L M : List Int) (w : World) (e : Ending) (w' : World) : Prop :=
  ∃ v', e = .returned v' ∧ OwnL w' base v' (L ++ M) ∧ w.grownBy w' v.ownBlock ∧ NB w v v'

set_option maxHeartbeats 800000 in
theorem l4Put_any (base : Nat) (a : Option Addr) (cp : Nat) (L : List Int) (n : Int) (hn : -1000000000000000000 ≤ n ∧ n ≤ 1000000000000000000) (w : World) (hown : OwnL w base (.slice a L.length cp) L) (hL : L.length ≤ 1000) (hbs : base ≤ w.heap.size) :
    Calls Tryz.prog 111 #[.slice a L.length cp, .int .i64 n] w fun e w' => Putt base (.slice a L.length cp) L (pvL (foldI n)) w e w' := by
  have hpk : (pvL (foldI n)).length ≤ 10 := by
    have h1 := pvL_length (foldI n)
    have h2 := pk_le (foldI n)
    omega
  have hfb := foldI_bd hn
  by_cases h0 : n < 0
  · have hw1 : IntKind.i64.wrap (-2 * n) = -2 * n := by rw [IntKind.wrap_i64] <;> omega
    have hw2 : IntKind.i64.wrap (-2 * n - 1) = -2 * n - 1 := by rw [IntKind.wrap_i64] <;> omega
    have e : foldI n = -2 * n - 1 := by rw [foldI, if_pos h0]
    rw [e] at hpk hfb ⊢
    clear e
    go_enter Tryz.func111, Tryz.ntmps111
    go_wp2_with fail
    refine (putVar_spec (-2 * n - 1) _ hfb).mono ?_
    intro e w1 hp
    obtain ⟨g1, c1, rfl, hg1, A1, b1⟩ := pvl_of hp
    clear hp
    have o1 := hown.keep b1
    have s1 := b1.size
    go_wp2_with (at_builtin; refine wpList_app rfl (.tmp 7) (.tmp 12) rfl base (.slice a L.length cp) L rfl o1 g1 0 (pvL (-2 * n - 1)).length c1 (pvL (-2 * n - 1)) rfl rfl A1 (by omega) (by omega) ?_; intro v2 w2 ho2 hg2 ha2)
    go_ret
    exact ⟨_, rfl, ho2, grown_next (grown_of_below b1 _) (nb_self _ _) hg2, (nb_self _ _).trans (nb_of ha2) s1⟩
  · have hw1 : IntKind.i64.wrap (2 * n) = 2 * n := by rw [IntKind.wrap_i64] <;> omega
    have e : foldI n = 2 * n := by rw [foldI, if_neg h0]
    rw [e] at hpk hfb ⊢
    clear e
    go_enter Tryz.func111, Tryz.ntmps111
    go_wp2_with fail
    refine (putVar_spec (2 * n) _ hfb).mono ?_
    intro e w1 hp
    obtain ⟨g1, c1, rfl, hg1, A1, b1⟩ := pvl_of hp
    clear hp
    have o1 := hown.keep b1
    have s1 := b1.size
    go_wp2_with (at_builtin; refine wpList_app rfl (.tmp 14) (.tmp 18) rfl base (.slice a L.length cp) L rfl o1 g1 0 (pvL (2 * n)).length c1 (pvL (2 * n)) rfl rfl A1 (by omega) (by omega) ?_; intro v2 w2 ho2 hg2 ha2)
    go_ret
    exact ⟨_, rfl, ho2, grown_next (grown_of_below b1 _) (nb_self _ _) hg2, (nb_self _ _).trans (nb_of ha2) s1⟩

/-- The numbers of an agg, in order. -/
def nm (c s lo hi : Int) (f : Nat → Int) (i : Nat) : Int := if i = 0 then c else if i = 1 then s else if i = 2 then lo else if i = 3 then hi else f (i - 4)
/-- The bytes of an agg up to its number k. -/
def bl (fu : Bool) (N : Nat → Int) : Nat → List Int
  | 0 => [if fu = true then 1 else 0]
  | k + 1 => bl fu N k ++ pvL (foldI (N k))
theorem bl_len (fu : Bool) (N : Nat → Int) (k : Nat) : 1 ≤ (bl fu N k).length ∧ (bl fu N k).length ≤ 1 + 10 * k := by
  induction k with
  | zero => simp [bl]
  | succ k ih =>
    have h1 := pvL_length (foldI (N k))
    have h2 := pk_le (foldI (N k))
    simp only [bl, List.length_append]
    omega
def ib (L : List Int) : List Value := L.map fun x => Value.int .i64 x
theorem ib_length (L : List Int) : (ib L).length = L.length := by simp [ib]
theorem ib_append (L M : List Int) : ib L ++ ib M = ib (L ++ M) := by simp [ib]
theorem ib_one (L : List Int) : ∀ u ∈ ib L, u.oneCell' = true := by
  intro u hu
  obtain ⟨x, _, rfl⟩ := List.mem_map.1 hu
  rfl
def h8 (f : Nat → Int) : List Int := [f 0, f 1, f 2, f 3, f 4, f 5, f 6, f 7]
theorem nums_get (c s lo hi : Int) (f : Nat → Int) (i : Nat) (h : i < 12) : (ib ([c, s, lo, hi] ++ h8 f))[i]? = some (.int .i64 (nm c s lo hi f i)) := by
  have : i = 0 ∨ i = 1 ∨ i = 2 ∨ i = 3 ∨ i = 4 ∨ i = 5 ∨ i = 6 ∨ i = 7 ∨ i = 8 ∨ i = 9 ∨ i = 10 ∨ i = 11 := by omega
  rcases this with rfl | rfl | rfl | rfl | rfl | rfl | rfl | rfl | rfl | rfl | rfl | rfl <;> rfl
theorem h8_news {w : World} {b off : Nat} {f : Nat → Int} (h : ∀ i, i < 8 → w.cell? ⟨b, off + i, none⟩ = some (.int .i64 (f i))) : ∀ j u, (ib (h8 f))[j]? = some u → w.cell? ((⟨b, off, none⟩ : Addr).add j) = some u := by
  intro j u hu
  have hj : j < 8 := by
    rcases Nat.lt_or_ge j 8 with hj | hj
    · exact hj
    · rw [List.getElem?_eq_none (by rw [ib_length]; simpa [h8] using hj)] at hu
      cases hu
  have e : (ib (h8 f))[j]? = some (.int .i64 (f j)) := by
    have : j = 0 ∨ j = 1 ∨ j = 2 ∨ j = 3 ∨ j = 4 ∨ j = 5 ∨ j = 6 ∨ j = 7 := by omega
    rcases this with rfl | rfl | rfl | rfl | rfl | rfl | rfl | rfl <;> rfl
  rw [e] at hu
  have := h j hj
  by_cases h0 : j = 0
  · subst h0
    simpa [Addr.add] using this.trans hu
  · simpa [Addr.add, h0] using this.trans hu

/-- The numbers lie in block g. -/
structure INum (w : World) (g : Nat) (N : Nat → Int) : Prop where
  lt : g < w.heap.size
  cell : ∀ i, i < 12 → w.cell? ⟨g, i, none⟩ = some (.int .i64 (N i))
theorem INum.keep {w w' : World} {g : Nat} {N : Nat → Int} (h : INum w g N) (hb : Below w.heap.size w w') : INum w' g N :=
  ⟨Nat.lt_of_lt_of_le h.lt hb.size, fun i hi => (hb.cell (p := ⟨g, i, none⟩) h.lt).trans (h.cell i hi)⟩
theorem INum.grown {w w' : World} {g : Nat} {N : Nat → Int} {row : Option Nat} (h : INum w g N) (hg : w.grownBy w' row) (hne : row ≠ some g) : INum w' g N :=
  ⟨Nat.lt_of_lt_of_le h.lt hg.size, fun i hi => hg.cell (h.cell i hi) (fun e => hne e.symm)⟩

/-- The row's numbers behind the four others. -/
theorem wpList_nums {w : World} {ops : Array Oper} {rest : List Oper} {o : Oper} {a : Act} {Q : Exit → Act → World → Prop} (hgd : o.guard = none) (s x : Operand)
    (ho : o.op = .call { callee := .builtin .append, args := #[s, x], argTypes := #[31, 31] })
    (c0 s0 lo hi : Int) (f : Nat → Int) (w0 : World) (hw : w = w0.alloc (.cells #[.int .i64 c0, .int .i64 s0, .int .i64 lo, .int .i64 hi] 3)) (g0 : Nat) (hs : a.eval s = .slice (some ⟨g0, 0, none⟩) 4 4) (hg0 : g0 = w0.heap.size)
    (b off c : Nat) (hx : a.eval x = .slice (some ⟨b, off, none⟩) 8 c) (hM : ∀ i, i < 8 → w.cell? ⟨b, off + i, none⟩ = some (.int .i64 (f i)))
    (h : ∀ g cap w', w0.heap.size ≤ g → INum w' g (nm c0 s0 lo hi f) → Below w0.heap.size w0 w' → wpList Tryz.prog ops Q rest (a.put o.dst (.slice (some ⟨g, 0, none⟩) 12 cap)) w') :
    wpList Tryz.prog ops Q (o :: rest) a w := by
  subst hw hg0
  obtain ⟨i0, hi0, hz0, hz1, hz2⟩ := info_parts Tryz.infoInt
  have hown := World.ownsRow_lit (base := w0.heap.size) (e := 3) (size := 1) w0 (ib [c0, s0, lo, hi]).toArray 4 (Nat.le_refl _) (by unfold maxLen; omega) (by simp [ib])
  have hown' : (w0.alloc (.cells #[.int .i64 c0, .int .i64 s0, .int .i64 lo, .int .i64 hi] 3)).ownsRow w0.heap.size 3 1 (.slice (some ⟨w0.heap.size, 0, none⟩) 4 4) 4 (ib [c0, s0, lo, hi]) := by simpa [ib] using hown
  refine wpList_append_own_at (w := _) hgd s x 31 ho w0.heap.size 3 i0 (.int .i64 0) 1 8 Tryz.underlying31 hi0 hz0 hz1 hz2 rfl (by decide) (.slice (some ⟨w0.heap.size, 0, none⟩) 4 4) 4 (ib [c0, s0, lo, hi]) hs hown' ⟨b, off, none⟩ 8 c (ib (h8 f)) hx (by simp [ib_length, h8]) (h8_news hM) (ib_one _) (by unfold maxLen; omega) (by omega) (by simp) ?_
  intro v' w' h1 h2 h3 h4
  rw [ib_append] at h1
  have hb : Below w0.heap.size w0 w' := (below_new w0 _).grown h2 (by simp) (fun k hk => (hown'.lt k hk).1)
  rcases h1.2 with ⟨_, h0⟩ | ⟨g, cap, cur, rfl, hbg, hg, _⟩
  · omega
  · refine h g cap w' hbg ⟨(Array.getElem?_eq_some_iff.1 hg).1, fun i hi => ?_⟩ hb
    rw [h1.cellAt i (by omega), nums_get _ _ _ _ _ _ hi]
end Go.Proofs.YtohjjigkfdhklaaGreat
