/- Numbers of varying length: what PutVar lays. / PutVar's bytes as a list. / Numbers put behind bytes, and the numbers of an agg in a row. / A table's bytes, in the document's words; texts put behind bytes. / The bytes of an agg, in the model. / What AggBytes answers, in the model. / The bytes of an agg, in the program. -/
import Derived.Test.YtohjjigkfdhklaaGreatBV
import Derived.OpenShut
import Derived.Test.YtohjjigkfdhklaaGreatIL
import Derived.Test.YtohjjigkfdhklaaGreatGe
import Derived.Lib.AppendStr
import Derived.Laws.AppendOwnNone
namespace Go.Proofs.YtohjjigkfdhklaaGreat
set_option maxRecDepth 100000
open Go.RowKit
set_option linter.unusedSimpArgs false
set_option linter.unusedVariables false

/-- The number behind k groups of seven bits. -/
def pv (n : Int) : Nat → Int
  | 0 => n
  | k + 1 => pv n k / 128
/-- The byte of a group that is not the last. -/
def pg (n : Int) (i : Nat) : Int := bits .or .u8 (pv n i % 256) 128
/-- The bytes: k groups with their eighth bit, then the last. -/
def pb (n : Int) (k : Nat) (i : Nat) : Int := if i < k then pg n i else pv n k
def PLen (n : Int) (k : Nat) : Prop := k ≤ 9 ∧ (∀ j, j < k → 127 < pv n j) ∧ pv n k ≤ 127

theorem pv_bd (n : Int) (h : 0 ≤ n ∧ n ≤ 18446744073709551615) (k : Nat) : 0 ≤ pv n k ∧ pv n k ≤ 18446744073709551615 := by
  induction k with
  | zero => exact h
  | succ k ih => simp only [pv]; omega
theorem pv_nine (n : Int) (h : 0 ≤ n ∧ n ≤ 18446744073709551615) : pv n 9 ≤ 127 := by simp only [pv]; omega
theorem pg_bd (n : Int) (i : Nat) : 0 ≤ pg n i ∧ pg n i ≤ 255 := bounds_u8 (wf_bits _ _ _ _)
theorem pb_bd (n : Int) (h : 0 ≤ n ∧ n ≤ 18446744073709551615) (k : Nat) (hk : pv n k ≤ 127) (i : Nat) : 0 ≤ pb n k i ∧ pb n k i ≤ 255 := by
  unfold pb
  split
  · exact pg_bd _ _
  · have := pv_bd n h k; omega
theorem PLen.one {n : Int} {k j : Nat} (h : PLen n k) (g : PLen n j) : k = j := by
  rcases Nat.lt_trichotomy k j with e | e | e
  · have := g.2.1 k e; have := h.2.2; omega
  · exact e
  · have := h.2.1 j e; have := g.2.2; omega
theorem pb_cells (n : Int) (k : Nat) : bcells (pg n) k ++ [Value.int .u8 (pv n k)] = bcells (pb n k) (k + 1) := by
  rw [← bcells_succ, bcells_congr (f := pg n) (g := pb n k) (fun i hi => by simp [pb, hi])]
  simp [pb]

/-- What a PutVar leaves: its bytes, in memory of their own. -/
def PVOut (n : Int) (w : World) (e : Ending) (w' : World) : Prop :=
  ∃ k g cap, PLen n k ∧ e = .returned (.slice (some ⟨g, 0, none⟩) (k + 1) cap) ∧ w.heap.size ≤ g ∧ Own w' g 0 (k + 1) (pb n k) ∧ Below w.heap.size w w'

set_option maxHeartbeats 400000 in
theorem putVar_spec (n : Int) (w : World) (hn : 0 ≤ n ∧ n ≤ 18446744073709551615) :
    Calls Tryz.prog 57 #[.int .u64 n] w fun e w' => PVOut n w e w' := by
  obtain ⟨i0, hi, hz0, hz1, hz2⟩ := info_parts Tryz.info5
  go_enter Tryz.func57, Tryz.ntmps57
  go_wp2
  go_loopw [0, 3] (fun q v wr => ∃ k : Nat, k ≤ 9 ∧ q = .int .u64 (pv n k) ∧ (∀ j, j < k → 127 < pv n j) ∧ wr.ownsRow w.heap.size 5 1 v k (bcells (pg n) k) ∧ Below w.heap.size w wr) (fun q _ _ => (intOf q).toNat)
  case atStart => exact ⟨0, by omega, rfl, by omega, World.ownsRow_nil _ _ _ _, Below.refl _ _⟩
  case round =>
    obtain ⟨k, hk, rfl, hgt, hown, hbk⟩ := hrel
    have hb := pv_bd n hn k
    have hsz := hbk.size
    by_cases hlt : 127 < pv n k
    · have hk9 : k < 9 := by
        rcases Nat.lt_or_ge k 9 with h | h
        · exact h
        · have e : k = 9 := by omega
          subst e; have := pv_nine n hn; omega
      go_wp2_with (at_builtin; refine wpList_append_own _ rfl (.tmp 6) (.tmp 10) 22 rfl w.heap.size 5 i0 (.int .u8 0) 1 1 Tryz.underlying22 hi hz0 hz1 hz2 rfl (by decide) _ _ _ rfl (hown.alloc _) ⟨wr.heap.size, 0, none⟩ 1 1 [.int .u8 (pg n k)] rfl rfl (cell_one_new _ _ _) (by simp [Value.oneCell']) (by unfold maxLen; omega) (by omega) (by simp; omega) ?_; intro v' w1 hown' hgrow _)
      have hbw := below_append (hbk.alloc hsz _) (hown.alloc _) hgrow (Nat.le_refl _) (by simp; omega)
      rw [bcells_succ] at hown'
      go_roundw
      case rel =>
        refine ⟨k + 1, by omega, rfl, fun j hj => ?_, hown', hbw⟩
        rcases Nat.lt_succ_iff_lt_or_eq.1 hj with h | h
        · exact hgt j h
        · rw [h]; exact hlt
      case measure => simp [intOf]; omega
    · have hle : pv n k ≤ 127 := by omega
      go_wp2_with (at_builtin; refine wpList_append_own _ rfl (.tmp 14) (.tmp 17) 22 rfl w.heap.size 5 i0 (.int .u8 0) 1 1 Tryz.underlying22 hi hz0 hz1 hz2 rfl (by decide) _ _ _ rfl (hown.alloc _) ⟨wr.heap.size, 0, none⟩ 1 1 [.int .u8 (pv n k)] rfl rfl (cell_one_new _ _ _) (by simp [Value.oneCell']) (by unfold maxLen; omega) (by omega) (by simp; omega) ?_; intro v' w1 hown' hgrow _)
      have hbw := below_append (hbk.alloc hsz _) (hown.alloc _) hgrow (Nat.le_refl _) (by simp; omega)
      rw [pb_cells] at hown'
      obtain ⟨g, cap, hv, hg, _, hO⟩ := own_of_row hown' (by omega) (pb_bd n hn k hle)
      rw [hv]
      go_ret
      exact ⟨k, g, cap, ⟨hk, hgt, hle⟩, rfl, hg, hO, hbw⟩

theorem or_low : ∀ m, m < 256 → m ||| 128 = m % 128 ||| 128 := by decide +kernel
theorem and_or (x : Int) (hx : 0 ≤ x ∧ x ≤ 18446744073709551615) : bits .or .u8 (bits .and .u64 x 127 % 256) 128 = bits .or .u8 (x % 256) 128 := by
  obtain ⟨m, rfl⟩ := Int.eq_ofNat_of_zero_le hx.1
  have e1 : bits .and .u64 (m : Int) 127 = ((m % 128 : Nat) : Int) := by
    rw [show (127 : Int) = ((127 : Nat) : Int) from rfl, u64_and_nat _ _ (by omega) (by omega), nat_mask7]
  rw [e1]
  have e2 : ((m % 128 : Nat) : Int) % 256 = ((m % 128 : Nat) : Int) := by omega
  have e3 : (m : Int) % 256 = ((m % 256 : Nat) : Int) := by omega
  rw [e2, e3, show (128 : Int) = ((128 : Nat) : Int) from rfl, u8_or_nat _ _ (by omega) (by omega), u8_or_nat _ _ (by omega) (by omega), or_low (m % 256) (by omega)]
  rw [show m % 256 % 128 = m % 128 from by omega]

set_option maxHeartbeats 400000 in
theorem putVar_impl (n : Int) (w : World) (hn : 0 ≤ n ∧ n ≤ 18446744073709551615) :
    Calls Tryz.prog 188 #[.int .u64 n] w fun e w' => PVOut n w e w' := by
  have h0 : Own (w.alloc (.cells #[.int .u8 0, .int .u8 0, .int .u8 0, .int .u8 0, .int .u8 0, .int .u8 0, .int .u8 0, .int .u8 0, .int .u8 0, .int .u8 0] 210)) w.heap.size 0 10 (fun _ => 0) := by
    exact own_new _ _ _ _ rfl
  go_enter Tryz.func188, Tryz.ntmps188
  go_wp2
  go_loopw [0, 4] (fun q i wr => ∃ k : Nat, k ≤ 9 ∧ i = .int .i64 k ∧ q = .int .u64 (pv n k) ∧ (∀ j, j < k → 127 < pv n j) ∧ Own wr w.heap.size 0 10 (fun i => if i < k then pg n i else 0) ∧ Below w.heap.size w wr) (fun q _ _ => (intOf q).toNat)
  case atStart => exact ⟨0, by omega, rfl, rfl, by omega, by simpa using h0, (Below.refl _ _).alloc (Nat.le_refl _) _⟩
  case round =>
    obtain ⟨k, hk, rfl, rfl, hgt, hown, hbk⟩ := hrel
    have hb := pv_bd n hn k
    have hc := hown.cell k (by omega)
    have hf := hown.free k (by omega)
    simp only [Nat.zero_add] at hc hf
    by_cases hlt : 127 < pv n k
    · have hk9 : k < 9 := by
        rcases Nat.lt_or_ge k 9 with h | h
        · exact h
        · have e : k = 9 := by omega
          subst e; have := pv_nine n hn; omega
      have hst := hown.store k (by omega) (pg n k) (pg_bd n k)
      have heq : Hid (bits .or .u8 (bits .and .u64 (pv n k) 127 % 256) 128 = pg n k) := and_or _ hb
      rw [Nat.zero_add] at hst
      go_wp2
      go_roundw
      case rel =>
        rw [heq.out]
        refine ⟨k + 1, by omega, by go_num, rfl, fun j hj => ?_, hst.congr (fun i => ?_) (fun i _ => ?_), hbk.setCell (Nat.le_refl _) _⟩
        · rcases Nat.lt_succ_iff_lt_or_eq.1 hj with h | h
          · exact hgt j h
          · rw [h]; exact hlt
        · have := pg_bd n i
          split <;> omega
        · by_cases h1 : i = k
          · subst h1; simp
          · by_cases h2 : i < k
            · rw [if_neg h1, if_pos h2, if_pos (by omega)]
            · rw [if_neg h1, if_neg h2, if_neg (by omega)]
      case measure => simp [intOf]; omega
    · have hle : pv n k ≤ 127 := by omega
      have hsl := slice_arr_hm 210 10 Tryz.underlying210 ⟨w.heap.size, 0, none⟩ ((k : Int) + 1) (k + 1) (by omega) (by omega)
      have hst := hown.store k (by omega) (pv n k) (by omega)
      rw [Nat.zero_add] at hst
      go_wp2
      go_ret
      refine ⟨k, w.heap.size, k + 1, ⟨hk, hgt, hle⟩, rfl, Nat.le_refl _, ?_, hbk.setCell (Nat.le_refl _) _⟩
      refine ⟨pb_bd n hn k hle, hst.lt, fun i hi => ?_, fun i hi => hst.free i (by omega)⟩
      rw [hst.cell i (by omega)]
      by_cases h1 : i = k
      · subst h1; simp [pb]
      · simp [pb, h1, show i < k by omega]
end Go.Proofs.YtohjjigkfdhklaaGreat

namespace Go.Proofs.YtohjjigkfdhklaaGreat
set_option maxRecDepth 100000
open Go.RowKit
set_option linter.unusedSimpArgs false
set_option linter.unusedVariables false

/-- How many groups come ahead of the last. -/
def pk (u : Int) : Nat :=
  if pv u 0 ≤ 127 then 0 else if pv u 1 ≤ 127 then 1 else if pv u 2 ≤ 127 then 2 else if pv u 3 ≤ 127 then 3 else if pv u 4 ≤ 127 then 4
  else if pv u 5 ≤ 127 then 5 else if pv u 6 ≤ 127 then 6 else if pv u 7 ≤ 127 then 7 else if pv u 8 ≤ 127 then 8 else 9
theorem pk_le (u : Int) : pk u ≤ 9 := by
  unfold pk
  repeat' split
  all_goals omega
def pvL (u : Int) : List Int := (List.range (pk u + 1)).map (pb u (pk u))
theorem pvL_length (u : Int) : (pvL u).length = pk u + 1 := by simp [pvL]

theorem plen_pk {u : Int} {k : Nat} (h : PLen u k) : pk u = k := by
  obtain ⟨hk, hgt, hle⟩ := h
  have g : ∀ j, j < k → ¬ pv u j ≤ 127 := fun j hj => by have := hgt j hj; omega
  have hc : k = 0 ∨ k = 1 ∨ k = 2 ∨ k = 3 ∨ k = 4 ∨ k = 5 ∨ k = 6 ∨ k = 7 ∨ k = 8 ∨ k = 9 := by omega
  clear hk hgt
  unfold pk
  rcases hc with rfl | rfl | rfl | rfl | rfl | rfl | rfl | rfl | rfl | rfl
  · rw [if_pos hle]
  · rw [if_neg (g 0 (by omega)), if_pos hle]
  · rw [if_neg (g 0 (by omega)), if_neg (g 1 (by omega)), if_pos hle]
  · rw [if_neg (g 0 (by omega)), if_neg (g 1 (by omega)), if_neg (g 2 (by omega)), if_pos hle]
  · rw [if_neg (g 0 (by omega)), if_neg (g 1 (by omega)), if_neg (g 2 (by omega)), if_neg (g 3 (by omega)), if_pos hle]
  · rw [if_neg (g 0 (by omega)), if_neg (g 1 (by omega)), if_neg (g 2 (by omega)), if_neg (g 3 (by omega)), if_neg (g 4 (by omega)), if_pos hle]
  · rw [if_neg (g 0 (by omega)), if_neg (g 1 (by omega)), if_neg (g 2 (by omega)), if_neg (g 3 (by omega)), if_neg (g 4 (by omega)), if_neg (g 5 (by omega)), if_pos hle]
  · rw [if_neg (g 0 (by omega)), if_neg (g 1 (by omega)), if_neg (g 2 (by omega)), if_neg (g 3 (by omega)), if_neg (g 4 (by omega)), if_neg (g 5 (by omega)), if_neg (g 6 (by omega)), if_pos hle]
  · rw [if_neg (g 0 (by omega)), if_neg (g 1 (by omega)), if_neg (g 2 (by omega)), if_neg (g 3 (by omega)), if_neg (g 4 (by omega)), if_neg (g 5 (by omega)), if_neg (g 6 (by omega)), if_neg (g 7 (by omega)), if_pos hle]
  · rw [if_neg (g 0 (by omega)), if_neg (g 1 (by omega)), if_neg (g 2 (by omega)), if_neg (g 3 (by omega)), if_neg (g 4 (by omega)), if_neg (g 5 (by omega)), if_neg (g 6 (by omega)), if_neg (g 7 (by omega)), if_neg (g 8 (by omega))]

/-- What a PutVar leaves, by its list. -/
def PVL (u : Int) (w : World) (e : Ending) (w' : World) : Prop :=
  ∃ g cap, e = .returned (.slice (some ⟨g, 0, none⟩) (pvL u).length cap) ∧ w.heap.size ≤ g ∧ At w' g 0 (pvL u) ∧ Below w.heap.size w w'
theorem pvl_of {u : Int} {w w' : World} {e : Ending} (h : PVOut u w e w') : PVL u w e w' := by
  obtain ⟨k, g, cap, hp, rfl, hg, ho, hb⟩ := h
  have ek := plen_pk hp
  subst ek
  refine ⟨g, cap, by rw [pvL_length], hg, ⟨fun x hx => ?_, ho.lt, fun i hi => ?_⟩, hb⟩
  · obtain ⟨i, hi, rfl⟩ := List.mem_map.1 hx
    exact ho.bd i
  · rw [pvL_length] at hi
    rw [ho.cell i hi]
    simp [fl, pvL, hi]

/-- The sign folded in. -/
def foldI (n : Int) : Int := if n < 0 then -2 * n - 1 else 2 * n
theorem foldI_bd {n : Int} (h : -1000000000000000000 ≤ n ∧ n ≤ 1000000000000000000) : 0 ≤ foldI n ∧ foldI n ≤ 18446744073709551615 := by
  unfold foldI
  split <;> omega
theorem foldSign_any (n : Int) (h : -1000000000000000000 ≤ n ∧ n ≤ 1000000000000000000) (w : World) :
    Calls Tryz.prog 195 #[.int .i64 n] w fun e w' => e = .returned (.int .u64 (foldI n)) ∧ w' = w := by
  by_cases h0 : n < 0
  · have hw : IntKind.i64.wrap (-n) = -n := by rw [IntKind.wrap_i64] <;> omega
    have e : foldI n = 2 * -n - 1 := by rw [foldI, if_pos h0]; omega
    go_enter Tryz.func195, Tryz.ntmps195
    go_wp2
    go_ret
    exact ⟨by simp_all, rfl⟩
  · have e : foldI n = 2 * n := by rw [foldI, if_neg h0]
    go_enter Tryz.func195, Tryz.ntmps195
    go_wp2
    go_ret
    exact ⟨by simp_all, rfl⟩
end Go.Proofs.YtohjjigkfdhklaaGreat

namespace Go.Proofs.YtohjjigkfdhklaaGreat
set_option maxRecDepth 100000
open Go.RowKit
set_option linter.unusedSimpArgs false
set_option linter.unusedVariables false

/-- What is left where M was put behind the row v. -/
def Putt (base : Nat) (v : Value) (L M : List Int) (w : World) (e : Ending) (w' : World) : Prop :=
  ∃ v', e = .returned v' ∧ OwnL w' base v' (L ++ M) ∧ w.grownBy w' v.ownBlock ∧ NB w v v'

set_option maxHeartbeats 800000 in
theorem l4Put_any (base : Nat) (a : Option Addr) (cp : Nat) (L : List Int) (n : Int) (hn : -1000000000000000000 ≤ n ∧ n ≤ 1000000000000000000) (w : World) (hown : OwnL w base (.slice a L.length cp) L) (hL : L.length ≤ 1000) (hbs : base ≤ w.heap.size) :
    Calls Tryz.prog 111 #[.slice a L.length cp, .int .i64 n] w fun e w' => Putt base (.slice a L.length cp) L (pvL (foldI n)) w e w' := by
  have hpk : (pvL (foldI n)).length ≤ 10 := by
    have h1 := pvL_length (foldI n)
    have h2 := pk_le (foldI n)
    omega
  have hfb := foldI_bd hn
  by_cases h0 : n < 0
  · have hw1 : IntKind.i64.wrap (-2 * n) = -2 * n := by rw [IntKind.wrap_i64] <;> omega
    have hw2 : IntKind.i64.wrap (-2 * n - 1) = -2 * n - 1 := by rw [IntKind.wrap_i64] <;> omega
    have e : foldI n = -2 * n - 1 := by rw [foldI, if_pos h0]
    rw [e] at hpk hfb ⊢
    clear e
    go_enter Tryz.func111, Tryz.ntmps111
    go_wp2_with fail
    refine (putVar_spec (-2 * n - 1) _ hfb).mono ?_
    intro e w1 hp
    obtain ⟨g1, c1, rfl, hg1, A1, b1⟩ := pvl_of hp
    clear hp
    have o1 := hown.keep b1
    have s1 := b1.size
    go_wp2_with (at_builtin; refine wpList_app rfl (.tmp 7) (.tmp 12) rfl base (.slice a L.length cp) L rfl o1 g1 0 (pvL (-2 * n - 1)).length c1 (pvL (-2 * n - 1)) rfl rfl A1 (by omega) (by omega) ?_; intro v2 w2 ho2 hg2 ha2)
    go_ret
    exact ⟨_, rfl, ho2, grown_next (grown_of_below b1 _) (nb_self _ _) hg2, (nb_self _ _).trans (nb_of ha2) s1⟩
  · have hw1 : IntKind.i64.wrap (2 * n) = 2 * n := by rw [IntKind.wrap_i64] <;> omega
    have e : foldI n = 2 * n := by rw [foldI, if_neg h0]
    rw [e] at hpk hfb ⊢
    clear e
    go_enter Tryz.func111, Tryz.ntmps111
    go_wp2_with fail
    refine (putVar_spec (2 * n) _ hfb).mono ?_
    intro e w1 hp
    obtain ⟨g1, c1, rfl, hg1, A1, b1⟩ := pvl_of hp
    clear hp
    have o1 := hown.keep b1
    have s1 := b1.size
    go_wp2_with (at_builtin; refine wpList_app rfl (.tmp 14) (.tmp 18) rfl base (.slice a L.length cp) L rfl o1 g1 0 (pvL (2 * n)).length c1 (pvL (2 * n)) rfl rfl A1 (by omega) (by omega) ?_; intro v2 w2 ho2 hg2 ha2)
    go_ret
    exact ⟨_, rfl, ho2, grown_next (grown_of_below b1 _) (nb_self _ _) hg2, (nb_self _ _).trans (nb_of ha2) s1⟩

/-- The numbers of an agg, in order. -/
def nm (c s lo hi : Int) (f : Nat → Int) (i : Nat) : Int := if i = 0 then c else if i = 1 then s else if i = 2 then lo else if i = 3 then hi else f (i - 4)
/-- The bytes of an agg up to its number k. -/
def bl (fu : Bool) (N : Nat → Int) : Nat → List Int
  | 0 => [if fu = true then 1 else 0]
  | k + 1 => bl fu N k ++ pvL (foldI (N k))
theorem bl_len (fu : Bool) (N : Nat → Int) (k : Nat) : 1 ≤ (bl fu N k).length ∧ (bl fu N k).length ≤ 1 + 10 * k := by
  induction k with
  | zero => simp [bl]
  | succ k ih =>
    have h1 := pvL_length (foldI (N k))
    have h2 := pk_le (foldI (N k))
    simp only [bl, List.length_append]
    omega
def ib (L : List Int) : List Value := L.map fun x => Value.int .i64 x
theorem ib_length (L : List Int) : (ib L).length = L.length := by simp [ib]
theorem ib_append (L M : List Int) : ib L ++ ib M = ib (L ++ M) := by simp [ib]
theorem ib_one (L : List Int) : ∀ u ∈ ib L, u.oneCell' = true := by
  intro u hu
  obtain ⟨x, _, rfl⟩ := List.mem_map.1 hu
  rfl
def h8 (f : Nat → Int) : List Int := [f 0, f 1, f 2, f 3, f 4, f 5, f 6, f 7]
theorem nums_get (c s lo hi : Int) (f : Nat → Int) (i : Nat) (h : i < 12) : (ib ([c, s, lo, hi] ++ h8 f))[i]? = some (.int .i64 (nm c s lo hi f i)) := by
  have : i = 0 ∨ i = 1 ∨ i = 2 ∨ i = 3 ∨ i = 4 ∨ i = 5 ∨ i = 6 ∨ i = 7 ∨ i = 8 ∨ i = 9 ∨ i = 10 ∨ i = 11 := by omega
  rcases this with rfl | rfl | rfl | rfl | rfl | rfl | rfl | rfl | rfl | rfl | rfl | rfl <;> rfl
theorem h8_news {w : World} {b off : Nat} {f : Nat → Int} (h : ∀ i, i < 8 → w.cell? ⟨b, off + i, none⟩ = some (.int .i64 (f i))) : ∀ j u, (ib (h8 f))[j]? = some u → w.cell? ((⟨b, off, none⟩ : Addr).add j) = some u := by
  intro j u hu
  have hj : j < 8 := by
    rcases Nat.lt_or_ge j 8 with hj | hj
    · exact hj
    · rw [List.getElem?_eq_none (by rw [ib_length]; simpa [h8] using hj)] at hu
      cases hu
  have e : (ib (h8 f))[j]? = some (.int .i64 (f j)) := by
    have : j = 0 ∨ j = 1 ∨ j = 2 ∨ j = 3 ∨ j = 4 ∨ j = 5 ∨ j = 6 ∨ j = 7 := by omega
    rcases this with rfl | rfl | rfl | rfl | rfl | rfl | rfl | rfl <;> rfl
  rw [e] at hu
  have := h j hj
  by_cases h0 : j = 0
  · subst h0
    simpa [Addr.add] using this.trans hu
  · simpa [Addr.add, h0] using this.trans hu

/-- The numbers lie in block g. -/
structure INum (w : World) (g : Nat) (N : Nat → Int) : Prop where
  lt : g < w.heap.size
  cell : ∀ i, i < 12 → w.cell? ⟨g, i, none⟩ = some (.int .i64 (N i))
theorem INum.keep {w w' : World} {g : Nat} {N : Nat → Int} (h : INum w g N) (hb : Below w.heap.size w w') : INum w' g N :=
  ⟨Nat.lt_of_lt_of_le h.lt hb.size, fun i hi => (hb.cell (p := ⟨g, i, none⟩) h.lt).trans (h.cell i hi)⟩
theorem INum.grown {w w' : World} {g : Nat} {N : Nat → Int} {row : Option Nat} (h : INum w g N) (hg : w.grownBy w' row) (hne : row ≠ some g) : INum w' g N :=
  ⟨Nat.lt_of_lt_of_le h.lt hg.size, fun i hi => hg.cell (h.cell i hi) (fun e => hne e.symm)⟩

/-- The row's numbers behind the four others. -/
theorem wpList_nums {w : World} {ops : Array Oper} {rest : List Oper} {o : Oper} {a : Act} {Q : Exit → Act → World → Prop} (hgd : o.guard = none) (s x : Operand)
    (ho : o.op = .call { callee := .builtin .append, args := #[s, x], argTypes := #[31, 31] })
    (c0 s0 lo hi : Int) (f : Nat → Int) (w0 : World) (hw : w = w0.alloc (.cells #[.int .i64 c0, .int .i64 s0, .int .i64 lo, .int .i64 hi] 3)) (g0 : Nat) (hs : a.eval s = .slice (some ⟨g0, 0, none⟩) 4 4) (hg0 : g0 = w0.heap.size)
    (b off c : Nat) (hx : a.eval x = .slice (some ⟨b, off, none⟩) 8 c) (hM : ∀ i, i < 8 → w.cell? ⟨b, off + i, none⟩ = some (.int .i64 (f i)))
    (h : ∀ g cap w', w0.heap.size ≤ g → INum w' g (nm c0 s0 lo hi f) → Below w0.heap.size w0 w' → wpList Tryz.prog ops Q rest (a.put o.dst (.slice (some ⟨g, 0, none⟩) 12 cap)) w') :
    wpList Tryz.prog ops Q (o :: rest) a w := by
  subst hw hg0
  obtain ⟨i0, hi0, hz0, hz1, hz2⟩ := info_parts Tryz.infoInt
  have hown := World.ownsRow_lit (base := w0.heap.size) (e := 3) (size := 1) w0 (ib [c0, s0, lo, hi]).toArray 4 (Nat.le_refl _) (by unfold maxLen; omega) (by simp [ib])
  have hown' : (w0.alloc (.cells #[.int .i64 c0, .int .i64 s0, .int .i64 lo, .int .i64 hi] 3)).ownsRow w0.heap.size 3 1 (.slice (some ⟨w0.heap.size, 0, none⟩) 4 4) 4 (ib [c0, s0, lo, hi]) := by simpa [ib] using hown
  refine wpList_append_own_at (w := _) hgd s x 31 ho w0.heap.size 3 i0 (.int .i64 0) 1 8 Tryz.underlying31 hi0 hz0 hz1 hz2 rfl (by decide) (.slice (some ⟨w0.heap.size, 0, none⟩) 4 4) 4 (ib [c0, s0, lo, hi]) hs hown' ⟨b, off, none⟩ 8 c (ib (h8 f)) hx (by simp [ib_length, h8]) (h8_news hM) (ib_one _) (by unfold maxLen; omega) (by omega) (by simp) ?_
  intro v' w' h1 h2 h3 h4
  rw [ib_append] at h1
  have hb : Below w0.heap.size w0 w' := (below_new w0 _).grown h2 (by simp) (fun k hk => (hown'.lt k hk).1)
  rcases h1.2 with ⟨_, h0⟩ | ⟨g, cap, cur, rfl, hbg, hg, _⟩
  · omega
  · refine h g cap w' hbg ⟨(Array.getElem?_eq_some_iff.1 hg).1, fun i hi => ?_⟩ hb
    rw [h1.cellAt i (by omega), nums_get _ _ _ _ _ _ hi]
end Go.Proofs.YtohjjigkfdhklaaGreat
namespace Go.Proofs.YtohjjigkfdhklaaGreat
set_option maxRecDepth 100000
open Go.RowKit
set_option linter.unusedSimpArgs false
set_option linter.unusedVariables false

/-- The bytes of a text. -/
def bytesOf (s : ByteArray) : List Int := s.data.toList.map fun b => (b.toNat : Int)
theorem bytesOf_len (s : ByteArray) : (bytesOf s).length = s.size := by simp [bytesOf]
theorem bytesOf_bd (s : ByteArray) : Byt (bytesOf s) := by
  intro z hz
  simp only [bytesOf, List.mem_map] at hz
  obtain ⟨b, _, rfl⟩ := hz
  have := b.toNat_lt
  omega
theorem vb_bytes (s : ByteArray) : Go.Lib.strCells s = vb (bytesOf s) := by simp [Go.Lib.strCells, vb, bytesOf]

theorem app_text_block (w : World) (base : Nat) (v : Value) (L : List Int) (hown : OwnL w base v L) (s0 : ByteArray) (hsz : L.length + s0.size ≤ 4194304) (hbase : base ≤ w.heap.size) (ty : TypeId) :
    ∃ v' w', (Builtin.append_ #[22, 9] ty #[v, .string s0]).run Tryz.prog w = .ok v' w' ∧ OwnL w' base v' (L ++ bytesOf s0) ∧ w.grownBy w' v.ownBlock ∧ (v'.ownBlock = v.ownBlock ∨ v'.ownBlock = some w.heap.size) := by
  obtain ⟨i0, hi, hz0, hz1, hz2⟩ := info_parts Tryz.info5
  obtain ⟨v', w', hr, h1, h2, h3⟩ := Go.Lib.run_append_own_string (P := Tryz.prog) w base 22 9 ty 5 i0 Tryz.underlying22 Tryz.underlying9 hi hz0 hz1 hz2 v L.length (vb L) hown.own s0 (by unfold maxLen; omega) (by omega) hbase
  refine ⟨v', w', hr, ⟨hown.bd.append (bytesOf_bd _), ?_⟩, h2, ?_⟩
  · rw [List.length_append, ← vb_append, bytesOf_len, ← vb_bytes]
    exact h1
  · rcases hown.own.2 with ⟨rfl, h0⟩ | ⟨g, cap, cur, rfl, hbg, hg, hnc, hcm, hcs, htake⟩
    · by_cases hm : s0.size = 0
      · rw [h3.2 ⟨rfl, hm⟩]
        exact .inl rfl
      · have hr' := run_append_nil_string (P := Tryz.prog) w 22 9 ty 5 i0 (.int .u8 0) Tryz.underlying22 Tryz.underlying9 hi hz0 s0 (by omega) (by omega) (by rw [hz2]; omega)
        have e := hr.symm.trans hr'
        injection e with e1 e2
        rw [e1]
        exact .inr rfl
    · by_cases hroom : L.length + s0.size ≤ cap
      · have hcs' : cur.size = cap := by simpa using hcs
        have hr' := Go.Lib.run_append_room_string (P := Tryz.prog) w 22 9 ty 5 i0 Tryz.underlying22 Tryz.underlying9 hi hz1 g L.length cap cur hg s0 hroom (by omega)
        have e := hr.symm.trans hr'
        injection e with e1 e2
        rw [e1]
        exact .inl rfl
      · have holds : ∀ j u, (vb L)[j]? = some u → w.cell? ((⟨g, 0, none⟩ : Addr).add j) = some u := hown.own.cells (g := g) rfl
        have hr' := Go.Lib.run_append_grow_string (P := Tryz.prog) w 22 9 ty 5 i0 (.int .u8 0) Tryz.underlying22 Tryz.underlying9 hi hz0 ⟨g, 0, none⟩ L.length cap (vb L) (by rw [hz1, vb_length, Nat.mul_one]) holds s0 (by omega) (by omega) (by rw [hz2]; exact growslice_fits (by omega) (by omega))
        have e := hr.symm.trans hr'
        injection e with e1 e2
        rw [e1]
        exact .inr rfl

/-- A text put behind a row of the call's own. -/
theorem wpList_appT {w : World} {ops : Array Oper} {rest : List Oper} {o : Oper} {a : Act} {Q : Exit → Act → World → Prop} (hgd : o.guard = none) (s x : Operand)
    (ho : o.op = .call { callee := .builtin .append, args := #[s, x], argTypes := #[22, 9] })
    (base : Nat) (v : Value) (L : List Int) (hs : a.eval s = v) (hown : OwnL w base v L) (s0 : ByteArray) (hx : a.eval x = .string s0)
    (hsz : L.length + s0.size ≤ 4194304) (hbase : base ≤ w.heap.size)
    (h : ∀ v' w', OwnL w' base v' (L ++ bytesOf s0) → w.grownBy w' v.ownBlock → (v'.ownBlock = v.ownBlock ∨ v'.ownBlock = some w.heap.size) → wpList Tryz.prog ops Q rest (a.put o.dst v') w') :
    wpList Tryz.prog ops Q (o :: rest) a w := by
  refine wpList_plain hgd fun K hK => ?_
  obtain ⟨v', w', hr, h1, h2, h3⟩ := app_text_block w base v L hown s0 hsz hbase o.type
  unfold Oper.wp execOp
  simp only [ho, resolve, invoke, builtin, Sem.run_bind, Sem.run_pure, Result.andThen_ok, List.map_toArray, List.map_cons, List.map_nil, hs, hx, hr]
  exact hK _ _ (h v' w' h1 h2 h3)

/-- Where bytes lie that are put behind: nowhere, or in a block. -/
def Lie (w : World) (ao : Option Addr) (c : Nat) (M : List Int) : Prop := (ao = none ∧ c = 0 ∧ M = []) ∨ ∃ b off, ao = some ⟨b, off, none⟩ ∧ At w b off M
theorem Lie.keep {w w' : World} {ao : Option Addr} {c : Nat} {M : List Int} (h : Lie w ao c M) (hb : Below w.heap.size w w') : Lie w' ao c M :=
  h.elim .inl fun ⟨b, off, e, ha⟩ => .inr ⟨b, off, e, ha.keep hb⟩
theorem Lie.grown {w w' : World} {ao : Option Addr} {c : Nat} {M : List Int} {row : Option Nat} (h : Lie w ao c M) (hg : w.grownBy w' row) (hne : ∀ b off, ao = some ⟨b, off, none⟩ → row ≠ some b) : Lie w' ao c M :=
  h.elim .inl fun ⟨b, off, e, ha⟩ => .inr ⟨b, off, e, ha.grown hg (hne b off e)⟩
theorem OwnL.lie {w : World} {base : Nat} {v : Value} {L : List Int} (h : OwnL w base v L) : ∃ ao c, v = .slice ao L.length c ∧ Lie w ao c L ∧ ∀ b off, ao = some ⟨b, off, none⟩ → base ≤ b := by
  rcases h.own.2 with ⟨rfl, h0⟩ | ⟨g, cap, cur, rfl, hbg, hg, hnc, hcm, hcs, htake⟩
  · exact ⟨none, 0, by rw [h0], .inl ⟨rfl, rfl, List.eq_nil_of_length_eq_zero h0⟩, fun b off e => by cases e⟩
  · have hlt := (Array.getElem?_eq_some_iff.1 hg).1
    refine ⟨_, cap, rfl, .inr ⟨g, 0, rfl, ⟨h.bd, hlt, fun i hi => ?_⟩⟩, fun b off e => by injection e with e; injection e with e1 e2; omega⟩
    have := h.own.cells (g := g) rfl i (.int .u8 (fl L i)) (vb_get hi)
    rw [Addr.add_lit] at this
    exact this
theorem wpList_appL {w : World} {ops : Array Oper} {rest : List Oper} {o : Oper} {a : Act} {Q : Exit → Act → World → Prop} (hgd : o.guard = none) (s x : Operand)
    (ho : o.op = .call { callee := .builtin .append, args := #[s, x], argTypes := #[22, 22] })
    (base : Nat) (v : Value) (L : List Int) (hs : a.eval s = v) (hown : OwnL w base v L)
    (ao : Option Addr) (m c : Nat) (M : List Int) (hx : a.eval x = .slice ao m c) (hm : m = M.length) (hM : Lie w ao c M)
    (hsz : L.length + M.length ≤ 4194304) (hbase : base ≤ w.heap.size)
    (h : ∀ v' w', OwnL w' base v' (L ++ M) → w.grownBy w' v.ownBlock → (v'.ownBlock = v.ownBlock ∨ v'.ownBlock = some w.heap.size) → wpList Tryz.prog ops Q rest (a.put o.dst v') w') :
    wpList Tryz.prog ops Q (o :: rest) a w := by
  rcases hM with ⟨rfl, rfl, rfl⟩ | ⟨b, off, rfl, hA⟩
  · obtain ⟨i0, hi, hz0, hz1, hz2⟩ := info_parts Tryz.info5
    subst hm
    refine wpList_append_own_none hgd s x 22 ho base 5 i0 1 Tryz.underlying22 hi v L.length (vb L) hs hown.own hx ?_
    exact h v w (by rw [List.append_nil]; exact hown) ⟨rfl, rfl, rfl, Nat.le_refl _, fun _ _ _ => rfl⟩ (.inl rfl)
  · exact wpList_app hgd s x ho base v L hs hown b off m c M hx hm hA hsz hbase h

/-- How many are alike at the front. -/
def shr : List Int → List Int → Nat
  | a :: A, b :: B => if a = b then shr A B + 1 else 0
  | _, _ => 0
theorem shr_le (A B : List Int) : shr A B ≤ A.length ∧ shr A B ≤ B.length := by
  induction A generalizing B with
  | nil => simp [shr]
  | cons a A ih =>
    cases B with
    | nil => simp [shr]
    | cons b B =>
      have := ih B
      unfold shr
      split <;> simp <;> omega
theorem shr_take (A B : List Int) : A.take (shr A B) = B.take (shr A B) := by
  induction A generalizing B with
  | nil => simp [shr]
  | cons a A ih =>
    cases B with
    | nil => simp [shr]
    | cons b B =>
      unfold shr
      split
      · next e => simp [e, ih B]
      · simp
theorem shr_step {A B : List Int} {k : Nat} (h : A.take k = B.take k) (ha : k < A.length) (hb : k < B.length) : (fl A k = fl B k → A.take (k + 1) = B.take (k + 1)) ∧ (fl A k ≠ fl B k → shr A B = k) := by
  induction A generalizing B k with
  | nil => simp at ha
  | cons a A ih =>
    cases B with
    | nil => simp at hb
    | cons b B =>
      cases k with
      | zero =>
        constructor
        · intro e; simp [fl] at e; simp [e]
        · intro e; simp [fl] at e; simp [shr, e]
      | succ k =>
        simp only [List.take_succ_cons, List.cons.injEq] at h
        have := ih h.2 (by simpa using ha) (by simpa using hb)
        constructor
        · intro e
          rw [List.take_succ_cons, List.take_succ_cons, h.1]
          congr 1
          exact this.1 (by simpa [fl] using e)
        · intro e
          have := this.2 (by simpa [fl] using e)
          simp [shr, h.1, this]
theorem shr_end {A B : List Int} {k : Nat} (h : A.take k = B.take k) (hk : k ≤ A.length ∧ k ≤ B.length) (he : k = A.length ∨ k = B.length) : shr A B = k := by
  induction A generalizing B k with
  | nil => simp at hk; simp [shr, hk]
  | cons a A ih =>
    cases B with
    | nil => simp at hk; simp [shr, hk]
    | cons b B =>
      cases k with
      | zero => simp at he
      | succ k =>
        simp only [List.take_succ_cons, List.cons.injEq] at h
        have := ih h.2 (by simpa using hk) (by simpa using he)
        simp [shr, h.1, this]

/-- The bytes of an entry's agg. -/
def agL (x : Ent) : List Int := if x.kind = 2 then [] else bl x.fu (nm x.c x.s x.lo x.hi x.f) 12
theorem agL_len (x : Ent) : (agL x).length ≤ 121 := by
  unfold agL
  split
  · simp
  · have := bl_len x.fu (nm x.c x.s x.lo x.hi x.f) 12
    omega
def shK (a : ByteArray) (x : Ent) : Nat := shr (bytesOf a) (bytesOf x.key)
theorem shK_le (a : ByteArray) (x : Ent) : shK a x ≤ a.size ∧ shK a x ≤ x.key.size := by
  have := shr_le (bytesOf a) (bytesOf x.key)
  rw [bytesOf_len, bytesOf_len] at this
  exact this
/-- The bytes of an entry behind the key a. -/
def enE (a : ByteArray) (x : Ent) : List Int :=
  pvL (shK a x) ++ pvL ((x.key.size - shK a x : Nat) : Int) ++ pvL x.seq ++ [x.kind] ++ pvL ((agL x).length : Nat) ++ (bytesOf x.key).drop (shK a x) ++ agL x
theorem pvL_le (u : Int) : 1 ≤ (pvL u).length ∧ (pvL u).length ≤ 10 := by
  have h1 := pvL_length u
  have h2 := pk_le u
  omega
theorem enE_len (a : ByteArray) (x : Ent) (h : x.key.size ≤ 140) : (enE a x).length ≤ 302 := by
  have h1 := pvL_le (shK a x)
  have h2 := pvL_le ((x.key.size - shK a x : Nat) : Int)
  have h3 := pvL_le x.seq
  have h4 := pvL_le ((agL x).length : Nat)
  have h5 := agL_len x
  simp only [enE, List.length_append, List.length_drop, bytesOf_len, List.length_singleton]
  omega
/-- The key ahead of entry k in a block that begins with entry o. -/
def ahd (X : Nat → Ent) (o : Nat) : Nat → ByteArray
  | 0 => ByteArray.empty
  | k + 1 => (X (o + k)).key
/-- The first k entries of a block that begins with entry o. -/
def blk (X : Nat → Ent) (o : Nat) : Nat → List Int
  | 0 => []
  | k + 1 => blk X o k ++ enE (ahd X o k) (X (o + k))
theorem blk_len (X : Nat → Ent) (o k : Nat) (h : ∀ i, i < k → (X (o + i)).key.size ≤ 140) : (blk X o k).length ≤ 302 * k := by
  induction k with
  | zero => simp [blk]
  | succ k ih =>
    have := ih fun i hi => h i (by omega)
    have h2 := enE_len (ahd X o k) (X (o + k)) (h k (by omega))
    simp only [blk, List.length_append]
    omega
/-- How many entries block j has. -/
def bsz (n j : Nat) : Nat := min 4 (n - 4 * j)
/-- The first j blocks. -/
def blks (X : Nat → Ent) (n : Nat) : Nat → List Int
  | 0 => []
  | j + 1 => blks X n j ++ blk X (4 * j) (bsz n j)
def lastK (X : Nat → Ent) (n j : Nat) : ByteArray := (X (4 * j + bsz n j - 1)).key
/-- What the index says of block j. -/
def idR (X : Nat → Ent) (n j : Nat) : List Int :=
  pvL ((lastK X n j).size : Nat) ++ bytesOf (lastK X n j) ++ pvL ((blks X n j).length : Nat) ++ pvL ((blk X (4 * j) (bsz n j)).length : Nat)
def idx (X : Nat → Ent) (n : Nat) : Nat → List Int
  | 0 => []
  | j + 1 => idx X n j ++ idR X n j
def nbl (n : Nat) : Nat := (n + 3) / 4
/-- All that is ahead of the check. -/
def bodyT (X : Nat → Ent) (n : Nat) (y : Int) (F : List Int) : List Int :=
  blks X n (nbl n) ++ ([y] ++ F) ++ idx X n (nbl n) ++ pfL ((blks X n (nbl n)).length : Nat) 4 ++ pfL ((blks X n (nbl n) ++ ([y] ++ F)).length : Nat) 4 ++ pfL (n : Nat) 4
/-- The bytes of a table: entries, and a filter of y ways and the bits F. -/
def tbl (X : Nat → Ent) (n : Nat) (y : Int) (F : List Int) : List Int := bodyT X n y F ++ pfL (crcL (bodyT X n y F)) 4 ++ [84, 66, 76, 49]

theorem bsz_le (n j : Nat) : bsz n j ≤ 4 ∧ (4 * j < n → 1 ≤ bsz n j ∧ 4 * j + bsz n j ≤ n) := by unfold bsz; omega
theorem blks_len (X : Nat → Ent) (n j : Nat) (h : ∀ i, i < n → (X i).key.size ≤ 140) : (blks X n j).length ≤ 1208 * j := by
  induction j with
  | zero => simp [blks]
  | succ j ih =>
    have h1 := blk_len X (4 * j) (bsz n j) fun i hi => by
      refine h _ ?_
      unfold bsz at hi
      omega
    have h2 := bsz_le n j
    simp only [blks, List.length_append]
    omega
theorem idx_len (X : Nat → Ent) (n j : Nat) (h : ∀ i, i < n → (X i).key.size ≤ 140) (hj : j ≤ nbl n) : (idx X n j).length ≤ 170 * j := by
  induction j with
  | zero => simp [idx]
  | succ j ih =>
    have h1 := ih (by omega)
    have h2 := pvL_le ((lastK X n j).size : Nat)
    have h3 := pvL_le ((blks X n j).length : Nat)
    have h4 := pvL_le ((blk X (4 * j) (bsz n j)).length : Nat)
    have h5 : (lastK X n j).size ≤ 140 := by
      refine h _ ?_
      have := bsz_le n j
      unfold nbl at hj
      omega
    simp only [idx, idR, List.length_append, bytesOf_len]
    omega
end Go.Proofs.YtohjjigkfdhklaaGreat
namespace Go.Proofs.YtohjjigkfdhklaaGreat
set_option maxRecDepth 100000
open Go.RowKit
set_option linter.unusedSimpArgs false
set_option linter.unusedVariables false

set_option maxHeartbeats 1600000 in
theorem l4Bytes_false (c s lo hi : Int) (ao : Option Addr) (cap : Nat) (f : Nat → Int) (N : Nat → Int) (eN : nm c s lo hi f = N) (w : World) (hr : IRow w ao 8 f) (hN : ∀ i, i < 12 → -1000000000000000000 ≤ N i ∧ N i ≤ 1000000000000000000) :
    Calls Tryz.prog 85 #[.agg #[.int .i64 c, .int .i64 s, .int .i64 lo, .int .i64 hi, .slice ao 8 cap, .bool false]] w fun e w' => ∃ v, e = .returned v ∧ OwnL w' w.heap.size v (bl false N 12) ∧ Below w.heap.size w w' := by
  obtain ⟨b, off, rfl, hblt, hcell⟩ := hr.lies.resolve_left (by omega)
  have hB0 : Below w.heap.size w (((w.alloc (.cells #[.int .i64 c, .int .i64 s, .int .i64 lo, .int .i64 hi, .slice (some ⟨b, off, none⟩) 8 cap, .bool false] 33)).alloc (.cells #[.int .u8 0] 5))) := (below_new w _).alloc (by simp) _
  have hB1 := fun o => hB0.alloc (by simp; omega) o
  have hM : ∀ o i, i < 8 → ((((w.alloc (.cells #[.int .i64 c, .int .i64 s, .int .i64 lo, .int .i64 hi, .slice (some ⟨b, off, none⟩) 8 cap, .bool false] 33)).alloc (.cells #[.int .u8 0] 5))).alloc o).cell? ⟨b, off + i, none⟩ = some (.int .i64 (f i)) := fun o i hi => ((hB1 o).cell (p := ⟨b, off + i, none⟩) hblt).trans (hcell i hi)
  have oL : OwnL (((w.alloc (.cells #[.int .i64 c, .int .i64 s, .int .i64 lo, .int .i64 hi, .slice (some ⟨b, off, none⟩) 8 cap, .bool false] 33)).alloc (.cells #[.int .u8 0] 5))) w.heap.size (.slice (some ⟨w.heap.size + 1, 0, none⟩) 1 1) [0] := by
    have := ownL_lit (w.alloc (.cells #[.int .i64 c, .int .i64 s, .int .i64 lo, .int .i64 hi, .slice (some ⟨b, off, none⟩) 8 cap, .bool false] 33)) w.heap.size [0] (byt_one (by omega)) (by simp) (by unfold maxLen; simp)
    simpa [vb] using this
  clear hcell hB1
  go_enter Tryz.func85, Tryz.ntmps85
  go_wp2_with (at_builtin; refine wpList_nums rfl (.tmp 19) (.tmp 21) rfl c s lo hi f _ rfl _ rfl (by simp) b off cap rfl (hM _) ?_; intro gi ci w3 hgi hI hB3)
  rw [eN] at hI
  have o3 := oL.keep hB3
  have bw3 := hB0.trans (hB3.mono (by simp; omega))
  simp only [World.size_alloc] at hgi
  clear hM oL hB0 hB3
  go_loopw [3, 24] (fun v i wr => ∃ (k m cp : Nat) (a : Option Addr), k ≤ 12 ∧ i = .int .i64 k ∧ v = .slice a m cp ∧ m = (bl false N k).length ∧ OwnL wr w.heap.size (.slice a (bl false N k).length cp) (bl false N k) ∧ INum wr gi N ∧ (Value.slice a (bl false N k).length cp).ownBlock ≠ some gi ∧ Below w.heap.size w wr) (fun _ i _ => 12 - (intOf i).toNat)
  case atStart => exact ⟨0, 1, 1, some ⟨w.heap.size + 1, 0, none⟩, Nat.zero_le _, rfl, rfl, rfl, o3, hI, by simp [Value.ownBlock]; omega, bw3⟩
  case round =>
    obtain ⟨k, m, cp, a, hk, rfl, rfl, rfl, hown, hIk, hne, hbk⟩ := hrel
    have hlen := bl_len false N k
    by_cases hlt : k < 12
    · have h1 := hIk.cell k hlt
      have hnk := hN k hlt
      have hsz := hbk.size
      have HL : Hid (bl false N (k + 1) = bl false N k ++ pvL (foldI (N k))) := rfl
      clear hN o3 hI
      go_wp2_with fail
      refine (l4Put_any w.heap.size a cp (bl false N k) (N k) hnk _ hown (by omega) hsz).mono ?_
      rintro e w4 ⟨v4, rfl, o4, g4, n4⟩
      have I4 := hIk.grown g4 hne
      have ne4 := n4.ne hne hIk.lt
      have b4 := hown.below hbk g4 (Nat.le_refl _) hsz
      rw [← HL.out] at o4
      obtain ⟨a4, cp4, rfl⟩ := o4.form
      go_wp2
      go_roundw
      case rel => exact ⟨k + 1, _, cp4, a4, by omega, by go_num, rfl, rfl, o4, I4, ne4, b4⟩
      case measure => simp [intOf]; omega
    · obtain rfl : k = 12 := by omega
      go_wp2
      go_ret
      exact ⟨_, rfl, hown, hbk⟩

set_option maxHeartbeats 1600000 in
theorem l4Bytes_true (c s lo hi : Int) (ao : Option Addr) (cap : Nat) (f : Nat → Int) (N : Nat → Int) (eN : nm c s lo hi f = N) (w : World) (hr : IRow w ao 8 f) (hN : ∀ i, i < 12 → -1000000000000000000 ≤ N i ∧ N i ≤ 1000000000000000000) :
    Calls Tryz.prog 85 #[.agg #[.int .i64 c, .int .i64 s, .int .i64 lo, .int .i64 hi, .slice ao 8 cap, .bool true]] w fun e w' => ∃ v, e = .returned v ∧ OwnL w' w.heap.size v (bl true N 12) ∧ Below w.heap.size w w' := by
  obtain ⟨b, off, rfl, hblt, hcell⟩ := hr.lies.resolve_left (by omega)
  have hB0 : Below w.heap.size w (((w.alloc (.cells #[.int .i64 c, .int .i64 s, .int .i64 lo, .int .i64 hi, .slice (some ⟨b, off, none⟩) 8 cap, .bool true] 33)).alloc (.cells #[.int .u8 1] 5))) := (below_new w _).alloc (by simp) _
  have hB1 := fun o => hB0.alloc (by simp; omega) o
  have hM : ∀ o i, i < 8 → ((((w.alloc (.cells #[.int .i64 c, .int .i64 s, .int .i64 lo, .int .i64 hi, .slice (some ⟨b, off, none⟩) 8 cap, .bool true] 33)).alloc (.cells #[.int .u8 1] 5))).alloc o).cell? ⟨b, off + i, none⟩ = some (.int .i64 (f i)) := fun o i hi => ((hB1 o).cell (p := ⟨b, off + i, none⟩) hblt).trans (hcell i hi)
  have oL : OwnL (((w.alloc (.cells #[.int .i64 c, .int .i64 s, .int .i64 lo, .int .i64 hi, .slice (some ⟨b, off, none⟩) 8 cap, .bool true] 33)).alloc (.cells #[.int .u8 1] 5))) w.heap.size (.slice (some ⟨w.heap.size + 1, 0, none⟩) 1 1) [1] := by
    have := ownL_lit (w.alloc (.cells #[.int .i64 c, .int .i64 s, .int .i64 lo, .int .i64 hi, .slice (some ⟨b, off, none⟩) 8 cap, .bool true] 33)) w.heap.size [1] (byt_one (by omega)) (by simp) (by unfold maxLen; simp)
    simpa [vb] using this
  clear hcell hB1
  go_enter Tryz.func85, Tryz.ntmps85
  go_wp2_with (at_builtin; refine wpList_nums rfl (.tmp 19) (.tmp 21) rfl c s lo hi f _ rfl _ rfl (by simp) b off cap rfl (hM _) ?_; intro gi ci w3 hgi hI hB3)
  rw [eN] at hI
  have o3 := oL.keep hB3
  have bw3 := hB0.trans (hB3.mono (by simp; omega))
  simp only [World.size_alloc] at hgi
  clear hM oL hB0 hB3
  go_loopw [3, 24] (fun v i wr => ∃ (k m cp : Nat) (a : Option Addr), k ≤ 12 ∧ i = .int .i64 k ∧ v = .slice a m cp ∧ m = (bl true N k).length ∧ OwnL wr w.heap.size (.slice a (bl true N k).length cp) (bl true N k) ∧ INum wr gi N ∧ (Value.slice a (bl true N k).length cp).ownBlock ≠ some gi ∧ Below w.heap.size w wr) (fun _ i _ => 12 - (intOf i).toNat)
  case atStart => exact ⟨0, 1, 1, some ⟨w.heap.size + 1, 0, none⟩, Nat.zero_le _, rfl, rfl, rfl, o3, hI, by simp [Value.ownBlock]; omega, bw3⟩
  case round =>
    obtain ⟨k, m, cp, a, hk, rfl, rfl, rfl, hown, hIk, hne, hbk⟩ := hrel
    have hlen := bl_len true N k
    by_cases hlt : k < 12
    · have h1 := hIk.cell k hlt
      have hnk := hN k hlt
      have hsz := hbk.size
      have HL : Hid (bl true N (k + 1) = bl true N k ++ pvL (foldI (N k))) := rfl
      clear hN o3 hI
      go_wp2_with fail
      refine (l4Put_any w.heap.size a cp (bl true N k) (N k) hnk _ hown (by omega) hsz).mono ?_
      rintro e w4 ⟨v4, rfl, o4, g4, n4⟩
      have I4 := hIk.grown g4 hne
      have ne4 := n4.ne hne hIk.lt
      have b4 := hown.below hbk g4 (Nat.le_refl _) hsz
      rw [← HL.out] at o4
      obtain ⟨a4, cp4, rfl⟩ := o4.form
      go_wp2
      go_roundw
      case rel => exact ⟨k + 1, _, cp4, a4, by omega, by go_num, rfl, rfl, o4, I4, ne4, b4⟩
      case measure => simp [intOf]; omega
    · obtain rfl : k = 12 := by omega
      go_wp2
      go_ret
      exact ⟨_, rfl, hown, hbk⟩
end Go.Proofs.YtohjjigkfdhklaaGreat

namespace Go.Proofs.YtohjjigkfdhklaaGreat
set_option maxRecDepth 100000
open Go.RowKit
set_option linter.unusedSimpArgs false
set_option linter.unusedVariables false

theorem GoodA.nums {c s lo hi : Int} {n : Nat} {f : Nat → Int} {fu : Bool} (h : GoodA c s lo hi n f fu) : ∀ i, i < 12 → -1000000000000000000 ≤ nm c s lo hi f i ∧ nm c s lo hi f i ≤ 1000000000000000000 := by
  obtain ⟨hc, _, hf, ht, hfu, h0, h1⟩ := h
  have hc' : 0 ≤ c ∧ c ≤ 1000000000 := by simpa [isC, btw] using hc
  have hs : -1000000000000000000 ≤ s ∧ s ≤ 1000000000000000000 := by
    cases fu
    · have := ht rfl; omega
    · have := hfu rfl; omega
  have hl : (-1000000000 ≤ lo ∧ lo ≤ 1000000000) ∧ (-1000000000 ≤ hi ∧ hi ≤ 1000000000) := by
    by_cases e : c = 0
    · have := h0 e; omega
    · obtain ⟨a, b, _⟩ := h1 e
      exact ⟨by simpa [isV, btw] using a, by simpa [isV, btw] using b⟩
  intro i hi'
  unfold nm
  repeat' split
  · omega
  · omega
  · omega
  · omega
  · have := hf (i - 4) (by omega)
    simp [isC, btw] at this
    omega

/-- What AggBytes leaves. -/
def BO (c s lo hi : Int) (n : Nat) (f : Nat → Int) (fu : Bool) (w : World) (e : Ending) (w' : World) : Prop :=
  Below w.heap.size w w' ∧ ((GoodA c s lo hi n f fu ∧ ∃ v, e = .returned (.tuple #[v, .bool true]) ∧ OwnL w' w.heap.size v (bl fu (nm c s lo hi f) 12)) ∨
    (¬ GoodA c s lo hi n f fu ∧ e = .returned (.tuple #[.slice none 0 0, .bool false])))

end Go.Proofs.YtohjjigkfdhklaaGreat

namespace Go.Proofs.YtohjjigkfdhklaaGreat
set_option maxRecDepth 100000
open Go.RowKit
set_option linter.unusedSimpArgs false
set_option linter.unusedVariables false

set_option maxHeartbeats 1600000 in
theorem aggBytes_impl_false (c s lo hi : Int) (ao : Option Addr) (n cap : Nat) (f : Nat → Int) (N : Nat → Int) (eN : nm c s lo hi f = N) (w : World) (hr : IRow w ao n f) (hn : n ≤ 1048576) (hs : -9223372036854775808 ≤ s ∧ s ≤ 9223372036854775807) :
    Calls Tryz.prog 194 #[.agg #[.int .i64 c, .int .i64 s, .int .i64 lo, .int .i64 hi, .slice ao n cap, .bool false]] w fun e w' => BO c s lo hi n f false w e w' := by
  have hB := below_new w (.cells #[.int .i64 c, .int .i64 s, .int .i64 lo, .int .i64 hi, .slice ao n cap, .bool false] 33)
  have A0 := AAt.new w c s lo hi (.slice ao n cap) false 33
  go_enter Tryz.func194, Tryz.ntmps194
  go_wp2_with fail
  refine (goodAgg_impl c s lo hi ao n cap f false _ (hr.keep hB) hn hs).mono ?_
  rintro e w1 ⟨b1, rfl, h1, q1⟩
  have A1 := A0.keep q1
  have B1 : Below w.heap.size w w1 := hB.trans (q1.mono (by simp))
  have r1 := hr.keep B1
  clear q1 hB A0
  cases b1
  · have K : Hid (¬ GoodA c s lo hi n f false) := fun h => by
      have := h1.2 h
      cases this
    clear h1
    go_wp2
    exact bodyPost_ret (v := .tuple #[.slice none 0 0, .bool false]) (by simp [results, Tryz.results194, go_sem]) rfl (⟨B1, .inr ⟨K.out, rfl⟩⟩)
  · have hg := h1.1 rfl
    have HG : Hid (GoodA c s lo hi n f false) := hg
    have e8 := hg.2.1
    have hN : ∀ i, i < 12 → -1000000000000000000 ≤ N i ∧ N i ≤ 1000000000000000000 := by rw [← eN]; exact hg.nums
    clear h1 hg
    subst e8
    obtain ⟨b, off, rfl, hblt, hcell⟩ := r1.lies.resolve_left (by omega)
    have hB0 : Below w1.heap.size w1 (w1.alloc (.cells #[.int .u8 0] 5)) := below_new w1 _
    have hB1 := fun o => hB0.alloc (by simp) o
    have hM : ∀ o i, i < 8 → ((w1.alloc (.cells #[.int .u8 0] 5)).alloc o).cell? ⟨b, off + i, none⟩ = some (.int .i64 (f i)) := fun o i hi => ((hB1 o).cell (p := ⟨b, off + i, none⟩) hblt).trans (hcell i hi)
    have oL : OwnL (w1.alloc (.cells #[.int .u8 0] 5)) w1.heap.size (.slice (some ⟨w1.heap.size, 0, none⟩) 1 1) [0] := by
      have := ownL_lit w1 w1.heap.size [0] (byt_one (by omega)) (Nat.le_refl _) (by unfold maxLen; simp)
      simpa [vb] using this
    obtain ⟨la, a0, a1, a2, a3, a4, a5⟩ := A1
    have hsw := B1.size
    clear hcell hB1 r1
    go_wp2_with (at_builtin; refine wpList_nums rfl (.tmp 23) (.tmp 25) rfl c s lo hi f _ rfl _ rfl (by simp) b off cap rfl (hM _) ?_; intro gi ci w3 hgi hI hB3)
    rw [eN] at hI
    have o3 := oL.keep hB3
    have bw3 := B1.trans ((hB0.trans (hB3.mono (by simp))).mono hsw)
    have s3 : w1.heap.size ≤ w3.heap.size := by have := hB3.size; simp at this; omega
    simp only [World.size_alloc] at hgi
    clear hM oL hB0 hB3 la a0 a1 a2 a3 a4 a5
    go_loopw [4, 28] (fun v i wr => ∃ (k m cp : Nat) (a : Option Addr), k ≤ 12 ∧ i = .int .i64 k ∧ v = .slice a m cp ∧ m = (bl false N k).length ∧ OwnL wr w1.heap.size (.slice a (bl false N k).length cp) (bl false N k) ∧ INum wr gi N ∧ (Value.slice a (bl false N k).length cp).ownBlock ≠ some gi ∧ Below w.heap.size w wr ∧ w1.heap.size ≤ wr.heap.size) (fun _ i _ => 12 - (intOf i).toNat)
    case atStart => exact ⟨0, 1, 1, some ⟨w1.heap.size, 0, none⟩, Nat.zero_le _, rfl, rfl, rfl, o3, hI, by simp [Value.ownBlock]; omega, bw3, s3⟩
    case round =>
      obtain ⟨k, m, cp, a, hk, rfl, rfl, rfl, hown, hIk, hne, hbk, hszk⟩ := hrel
      have hlen := bl_len false N k
      by_cases hlt : k < 12
      · have h1 := hIk.cell k hlt
        have hnk := hN k hlt
        have hfb := foldI_bd hnk
        have hpk : (pvL (foldI (N k))).length ≤ 10 := by
          have h1 := pvL_length (foldI (N k))
          have h2 := pk_le (foldI (N k))
          omega
        have hsz := hbk.size
        have HL : Hid (bl false N (k + 1) = bl false N k ++ pvL (foldI (N k))) := rfl
        clear hN o3 hI
        go_wp2_with fail
        refine (foldSign_any (N k) hnk _).mono ?_
        rintro e w4 ⟨rfl, rfl⟩
        go_wp2_with fail
        refine (putVar_impl (foldI (N k)) _ hfb).mono ?_
        intro e w4 hp
        obtain ⟨g4, c4, rfl, hg4, A4, b4⟩ := pvl_of hp
        clear hp
        have o4 := hown.keep b4
        have s4 := b4.size
        have bw4 := hbk.trans (b4.mono hsz)
        have I4 := hIk.keep b4
        go_wp2_with (at_builtin; refine wpList_app rfl (.tmp 32) (.tmp 35) rfl w1.heap.size (.slice a (bl false N k).length cp) (bl false N k) rfl o4 g4 0 (pvL (foldI (N k))).length c4 (pvL (foldI (N k))) rfl rfl A4 (by omega) (by omega) ?_; intro v5 w5 o5 g5 n5)
        have I5 := I4.grown g5 hne
        have ne5 := (nb_of n5).ne hne I4.lt
        have b5 := o4.below bw4 g5 hsw (by omega)
        have s5 := g5.size
        rw [← HL.out] at o5
        obtain ⟨a5, cp5, rfl⟩ := o5.form
        go_roundw
        case rel => exact ⟨k + 1, _, cp5, a5, by omega, by go_num, rfl, rfl, o5, I5, ne5, b5, by omega⟩
        case measure => simp [intOf]; omega
      · obtain rfl : k = 12 := by omega
        have o6 := hown.mono hsw
        go_wp2
        exact bodyPost_ret (v := .tuple #[.slice a (bl false N 12).length cp, .bool true]) (by simp [results, Tryz.results194, go_sem]) rfl (⟨hbk, .inl ⟨HG.out, _, rfl, by rw [eN]; exact o6⟩⟩)

set_option maxHeartbeats 1600000 in
theorem aggBytes_impl_true (c s lo hi : Int) (ao : Option Addr) (n cap : Nat) (f : Nat → Int) (N : Nat → Int) (eN : nm c s lo hi f = N) (w : World) (hr : IRow w ao n f) (hn : n ≤ 1048576) (hs : -9223372036854775808 ≤ s ∧ s ≤ 9223372036854775807) :
    Calls Tryz.prog 194 #[.agg #[.int .i64 c, .int .i64 s, .int .i64 lo, .int .i64 hi, .slice ao n cap, .bool true]] w fun e w' => BO c s lo hi n f true w e w' := by
  have hB := below_new w (.cells #[.int .i64 c, .int .i64 s, .int .i64 lo, .int .i64 hi, .slice ao n cap, .bool true] 33)
  have A0 := AAt.new w c s lo hi (.slice ao n cap) true 33
  go_enter Tryz.func194, Tryz.ntmps194
  go_wp2_with fail
  refine (goodAgg_impl c s lo hi ao n cap f true _ (hr.keep hB) hn hs).mono ?_
  rintro e w1 ⟨b1, rfl, h1, q1⟩
  have A1 := A0.keep q1
  have B1 : Below w.heap.size w w1 := hB.trans (q1.mono (by simp))
  have r1 := hr.keep B1
  clear q1 hB A0
  cases b1
  · have K : Hid (¬ GoodA c s lo hi n f true) := fun h => by
      have := h1.2 h
      cases this
    clear h1
    go_wp2
    exact bodyPost_ret (v := .tuple #[.slice none 0 0, .bool false]) (by simp [results, Tryz.results194, go_sem]) rfl (⟨B1, .inr ⟨K.out, rfl⟩⟩)
  · have hg := h1.1 rfl
    have HG : Hid (GoodA c s lo hi n f true) := hg
    have e8 := hg.2.1
    have hN : ∀ i, i < 12 → -1000000000000000000 ≤ N i ∧ N i ≤ 1000000000000000000 := by rw [← eN]; exact hg.nums
    clear h1 hg
    subst e8
    obtain ⟨b, off, rfl, hblt, hcell⟩ := r1.lies.resolve_left (by omega)
    have hB0 : Below w1.heap.size w1 (w1.alloc (.cells #[.int .u8 1] 5)) := below_new w1 _
    have hB1 := fun o => hB0.alloc (by simp) o
    have hM : ∀ o i, i < 8 → ((w1.alloc (.cells #[.int .u8 1] 5)).alloc o).cell? ⟨b, off + i, none⟩ = some (.int .i64 (f i)) := fun o i hi => ((hB1 o).cell (p := ⟨b, off + i, none⟩) hblt).trans (hcell i hi)
    have oL : OwnL (w1.alloc (.cells #[.int .u8 1] 5)) w1.heap.size (.slice (some ⟨w1.heap.size, 0, none⟩) 1 1) [1] := by
      have := ownL_lit w1 w1.heap.size [1] (byt_one (by omega)) (Nat.le_refl _) (by unfold maxLen; simp)
      simpa [vb] using this
    obtain ⟨la, a0, a1, a2, a3, a4, a5⟩ := A1
    have hsw := B1.size
    clear hcell hB1 r1
    go_wp2_with (at_builtin; refine wpList_nums rfl (.tmp 23) (.tmp 25) rfl c s lo hi f _ rfl _ rfl (by simp) b off cap rfl (hM _) ?_; intro gi ci w3 hgi hI hB3)
    rw [eN] at hI
    have o3 := oL.keep hB3
    have bw3 := B1.trans ((hB0.trans (hB3.mono (by simp))).mono hsw)
    have s3 : w1.heap.size ≤ w3.heap.size := by have := hB3.size; simp at this; omega
    simp only [World.size_alloc] at hgi
    clear hM oL hB0 hB3 la a0 a1 a2 a3 a4 a5
    go_loopw [4, 28] (fun v i wr => ∃ (k m cp : Nat) (a : Option Addr), k ≤ 12 ∧ i = .int .i64 k ∧ v = .slice a m cp ∧ m = (bl true N k).length ∧ OwnL wr w1.heap.size (.slice a (bl true N k).length cp) (bl true N k) ∧ INum wr gi N ∧ (Value.slice a (bl true N k).length cp).ownBlock ≠ some gi ∧ Below w.heap.size w wr ∧ w1.heap.size ≤ wr.heap.size) (fun _ i _ => 12 - (intOf i).toNat)
    case atStart => exact ⟨0, 1, 1, some ⟨w1.heap.size, 0, none⟩, Nat.zero_le _, rfl, rfl, rfl, o3, hI, by simp [Value.ownBlock]; omega, bw3, s3⟩
    case round =>
      obtain ⟨k, m, cp, a, hk, rfl, rfl, rfl, hown, hIk, hne, hbk, hszk⟩ := hrel
      have hlen := bl_len true N k
      by_cases hlt : k < 12
      · have h1 := hIk.cell k hlt
        have hnk := hN k hlt
        have hfb := foldI_bd hnk
        have hpk : (pvL (foldI (N k))).length ≤ 10 := by
          have h1 := pvL_length (foldI (N k))
          have h2 := pk_le (foldI (N k))
          omega
        have hsz := hbk.size
        have HL : Hid (bl true N (k + 1) = bl true N k ++ pvL (foldI (N k))) := rfl
        clear hN o3 hI
        go_wp2_with fail
        refine (foldSign_any (N k) hnk _).mono ?_
        rintro e w4 ⟨rfl, rfl⟩
        go_wp2_with fail
        refine (putVar_impl (foldI (N k)) _ hfb).mono ?_
        intro e w4 hp
        obtain ⟨g4, c4, rfl, hg4, A4, b4⟩ := pvl_of hp
        clear hp
        have o4 := hown.keep b4
        have s4 := b4.size
        have bw4 := hbk.trans (b4.mono hsz)
        have I4 := hIk.keep b4
        go_wp2_with (at_builtin; refine wpList_app rfl (.tmp 32) (.tmp 35) rfl w1.heap.size (.slice a (bl true N k).length cp) (bl true N k) rfl o4 g4 0 (pvL (foldI (N k))).length c4 (pvL (foldI (N k))) rfl rfl A4 (by omega) (by omega) ?_; intro v5 w5 o5 g5 n5)
        have I5 := I4.grown g5 hne
        have ne5 := (nb_of n5).ne hne I4.lt
        have b5 := o4.below bw4 g5 hsw (by omega)
        have s5 := g5.size
        rw [← HL.out] at o5
        obtain ⟨a5, cp5, rfl⟩ := o5.form
        go_roundw
        case rel => exact ⟨k + 1, _, cp5, a5, by omega, by go_num, rfl, rfl, o5, I5, ne5, b5, by omega⟩
        case measure => simp [intOf]; omega
      · obtain rfl : k = 12 := by omega
        have o6 := hown.mono hsw
        go_wp2
        exact bodyPost_ret (v := .tuple #[.slice a (bl true N 12).length cp, .bool true]) (by simp [results, Tryz.results194, go_sem]) rfl (⟨hbk, .inl ⟨HG.out, _, rfl, by rw [eN]; exact o6⟩⟩)

theorem aggBytes_impl (c s lo hi : Int) (ao : Option Addr) (n cap : Nat) (f : Nat → Int) (fu : Bool) (w : World) (hr : IRow w ao n f) (hn : n ≤ 1048576) (hs : -9223372036854775808 ≤ s ∧ s ≤ 9223372036854775807) :
    Calls Tryz.prog 194 #[.agg #[.int .i64 c, .int .i64 s, .int .i64 lo, .int .i64 hi, .slice ao n cap, .bool fu]] w fun e w' => BO c s lo hi n f fu w e w' := by
  cases fu
  · exact aggBytes_impl_false c s lo hi ao n cap f _ rfl w hr hn hs
  · exact aggBytes_impl_true c s lo hi ao n cap f _ rfl w hr hn hs
end Go.Proofs.YtohjjigkfdhklaaGreat
