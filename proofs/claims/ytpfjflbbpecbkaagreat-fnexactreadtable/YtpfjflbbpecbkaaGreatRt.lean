/- A number comes back from PutVar's bytes. / Numbers and aggs come back from their bytes. -/
import Derived.Test.YtpfjflbbpecbkaaGreatTb
import Derived.Test.YtpfjflbbpecbkaaGreatOb
import Derived.Test.YtpfjflbbpecbkaaGreatBr
import Derived.Test.YtpfjflbbpecbkaaGreatBytI
namespace Go.Proofs.YtpfjflbbpecbkaaGreat
set_option maxRecDepth 100000
open Go.RowKit
set_option linter.unusedSimpArgs false
set_option linter.unusedVariables false

theorem pv_nat (n k : Nat) : pv (n : Int) k = ((n / 128 ^ k : Nat) : Int) := by
  induction k with
  | zero => simp [pv]
  | succ k ih =>
    simp only [pv, ih]
    rw [Nat.pow_succ, ← Nat.div_div_eq_div_mul]
    exact (Int.natCast_ediv _ _).symm

theorem low_or : ∀ m, m < 256 → (m ||| 128) &&& 127 = m % 128 := by decide +kernel
theorem low_and : ∀ m, m < 128 → m &&& 127 = m := by decide +kernel

theorem or_add {a c i : Nat} (h : c < 2 ^ i) : c ||| a * 2 ^ i = c + a * 2 ^ i := by
  have := Nat.two_pow_add_eq_or_of_lt h a
  rw [Nat.or_comm, Nat.mul_comm a, ← this, Nat.add_comm]

/-- A group put on top. -/
theorem step_nat {c y k : Nat} {x : Int} (hx : bits .and .u8 x 127 = (y : Int)) (hc : c < 2 ^ (7 * k)) (hs : y * 2 ^ (7 * k) < 18446744073709551616) (hk : c < 18446744073709551616) (hy : y ≤ 127) :
    rvStep (c : Int) x k = ((c + y * 2 ^ (7 * k) : Nat) : Int) := by
  unfold rvStep
  rw [hx]
  have e1 : IntKind.u64.wrap (y : Int) = (y : Int) := by rw [IntKind.wrap_u64]; omega
  have e2 : IntKind.u64.wrap ((y : Int) * 2 ^ (7 * k)) = ((y * 2 ^ (7 * k) : Nat) : Int) := by
    rw [IntKind.wrap_u64, show (y : Int) * 2 ^ (7 * k) = ((y * 2 ^ (7 * k) : Nat) : Int) from by push_cast; rfl]
    omega
  rw [e1, e2, u64_or_nat _ _ (by omega) (by omega), or_add hc]

theorem pow128 (k : Nat) : 128 ^ k = 2 ^ (7 * k) := by rw [Nat.pow_mul]

theorem pg_nat (N j : Nat) : ∃ m, m < 256 ∧ m % 128 = N / 2 ^ (7 * j) % 128 ∧ pg (N : Int) j = ((m ||| 128 : Nat) : Int) := by
  refine ⟨N / 2 ^ (7 * j) % 256, by omega, by omega, ?_⟩
  unfold pg
  rw [pv_nat, pow128]
  have e : ((N / 2 ^ (7 * j) : Nat) : Int) % 256 = ((N / 2 ^ (7 * j) % 256 : Nat) : Int) := by omega
  rw [e, show (128 : Int) = ((128 : Nat) : Int) from rfl, u8_or_nat _ _ (by omega) (by omega)]
theorem or128 : ∀ m, m < 256 → 128 ≤ m ||| 128 ∧ m ||| 128 < 256 := by decide +kernel

/-- PutVar's bytes at q are read back as the number. -/
theorem rv_back {N k n q : Nat} {f : Nat → Int} (hN : N < 18446744073709551616) (hp : PLen (N : Int) k) (hf : ∀ i, i ≤ k → f (q + i) = pb (N : Int) k i) (hq : q + k < n) :
    ∀ t j, j + t = k → rv f n q (10 - j) j ((N % 2 ^ (7 * j) : Nat) : Int) = ((N : Int), (q : Int) + k + 1) := by
  obtain ⟨hk9, hgt, hle⟩ := hp
  intro t
  induction t with
  | zero =>
    intro j hj
    obtain rfl : j = k := by omega
    have hfj : f (q + j) = ((N / 2 ^ (7 * j) : Nat) : Int) := by
      rw [hf j (Nat.le_refl _)]
      unfold pb
      rw [if_neg (by omega), pv_nat, pow128]
    have hle' : N / 2 ^ (7 * j) ≤ 127 := by
      rw [pv_nat, pow128] at hle
      omega
    have hb : bits .and .u8 (f (q + j)) 127 = ((N / 2 ^ (7 * j) : Nat) : Int) := by
      rw [hfj, show (127 : Int) = ((127 : Nat) : Int) from rfl, u8_and_nat _ _ (by omega) (by omega), low_and _ (by omega)]
    have hmod := Nat.mod_lt N (Nat.two_pow_pos (7 * j))
    have hdm := Nat.div_add_mod N (2 ^ (7 * j))
    have hsm : N / 2 ^ (7 * j) * 2 ^ (7 * j) ≤ N := Nat.div_mul_le_self _ _
    rw [rv_last f n q j _ (by omega) hq ?_ (by rw [hfj]; omega) ?_]
    · rw [step_nat hb hmod (by omega) (by have := Nat.mod_le N (2 ^ (7 * j)); omega) hle']
      rw [show N % 2 ^ (7 * j) + N / 2 ^ (7 * j) * 2 ^ (7 * j) = N from by
        rw [Nat.mul_comm] at hdm ⊢
        first | omega | (rw [Nat.mul_comm]; omega)]
    · rintro ⟨rfl, h1⟩
      rw [hfj] at h1
      have h63 : (2 : Nat) ^ (7 * 9) = 9223372036854775808 := by decide
      rw [h63] at h1
      omega
    · rintro ⟨h0, h1⟩
      rw [hfj] at h1
      have h2 := hgt (j - 1) (by omega)
      rw [pv_nat, pow128] at h2
      have e : N / 2 ^ (7 * j) = N / 2 ^ (7 * (j - 1)) / 128 := by
        rw [Nat.div_div_eq_div_mul, show 2 ^ (7 * (j - 1)) * 128 = 2 ^ (7 * j) from by rw [show (128 : Nat) = 2 ^ 7 from rfl, ← Nat.pow_add]; congr 1; omega]
      omega
  | succ t ih =>
    intro j hj
    obtain ⟨m, hm, hm2, hpg⟩ := pg_nat N j
    have ho := or128 m hm
    have hfj : f (q + j) = ((m ||| 128 : Nat) : Int) := by
      rw [hf j (by omega)]
      unfold pb
      rw [if_pos (by omega), hpg]
    have hb : bits .and .u8 (f (q + j)) 127 = ((N / 2 ^ (7 * j) % 128 : Nat) : Int) := by
      rw [hfj, show (127 : Int) = ((127 : Nat) : Int) from rfl, u8_and_nat _ _ (by omega) (by omega), low_or m hm, hm2]
    have hmod := Nat.mod_lt N (Nat.two_pow_pos (7 * j))
    have hsm : N / 2 ^ (7 * j) * 2 ^ (7 * j) ≤ N := Nat.div_mul_le_self _ _
    have hsm2 : N / 2 ^ (7 * j) % 128 * 2 ^ (7 * j) ≤ N / 2 ^ (7 * j) * 2 ^ (7 * j) := Nat.mul_le_mul_right _ (Nat.mod_le _ _)
    rw [rv_more f n q j _ (by omega) (by omega) (by omega) (by rw [hfj]; omega)]
    rw [step_nat hb hmod (by omega) (by have := Nat.mod_le N (2 ^ (7 * j)); omega) (by omega)]
    rw [show N % 2 ^ (7 * j) + N / 2 ^ (7 * j) % 128 * 2 ^ (7 * j) = N % 2 ^ (7 * (j + 1)) from by
      rw [show 7 * (j + 1) = 7 * j + 7 by omega, Nat.pow_add, Nat.mod_mul, Nat.mul_comm (2 ^ (7 * j))]]
    exact ih (j + 1) (by omega)
theorem rvAll_back {N k n q : Nat} {f : Nat → Int} (hN : N < 18446744073709551616) (hp : PLen (N : Int) k) (hf : ∀ i, i ≤ k → f (q + i) = pb (N : Int) k i) (hq : q + k < n) : rvAll f n q = ((N : Int), (q : Int) + k + 1) := by
  have := rv_back hN hp hf hq k 0 (by omega)
  simpa [rvAll, Nat.mod_one] using this
end Go.Proofs.YtpfjflbbpecbkaaGreat
namespace Go.Proofs.YtpfjflbbpecbkaaGreat
set_option maxRecDepth 100000
open Go.RowKit
set_option linter.unusedSimpArgs false
set_option linter.unusedVariables false

/-- The bytes L lie in f from q on. -/
def Seg (f : Nat → Int) (q : Nat) (L : List Int) : Prop := ∀ i, i < L.length → f (q + i) = fl L i
theorem Seg.left {f : Nat → Int} {q : Nat} {L M : List Int} (h : Seg f q (L ++ M)) : Seg f q L := fun i hi => by
  rw [h i (by rw [List.length_append]; omega)]
  simp [fl, List.getElem?_append_left hi]
theorem Seg.right {f : Nat → Int} {q : Nat} {L M : List Int} (h : Seg f q (L ++ M)) : Seg f (q + L.length) M := fun i hi => by
  rw [Nat.add_assoc, h (L.length + i) (by rw [List.length_append]; omega)]
  simp [fl, List.getElem?_append_right]
theorem Seg.shift {f : Nat → Int} {q : Nat} {L : List Int} (h : Seg f q L) : Seg (fun i => f (q + i)) 0 L := fun i hi => by
  have := h i hi
  simpa using this
theorem plen_of {u : Int} (h : 0 ≤ u ∧ u ≤ 18446744073709551615) : PLen u (pk u) := by
  have h9 : pv u 9 ≤ 127 := by
    obtain ⟨N, rfl⟩ := Int.eq_ofNat_of_zero_le h.1
    rw [pv_nat]
    have : N / 128 ^ 9 ≤ 127 := by
      have : N / 128 ^ 9 < 128 := Nat.div_lt_of_lt_mul (by omega)
      omega
    omega
  unfold pk
  repeat' split
  all_goals
    refine ⟨by omega, fun j hj => ?_, by assumption⟩
    have hc : j = 0 ∨ j = 1 ∨ j = 2 ∨ j = 3 ∨ j = 4 ∨ j = 5 ∨ j = 6 ∨ j = 7 ∨ j = 8 := by omega
    rcases hc with rfl | rfl | rfl | rfl | rfl | rfl | rfl | rfl | rfl <;> omega
theorem rvAll_pvL {f : Nat → Int} {n q : Nat} {u : Int} (h : 0 ≤ u ∧ u ≤ 18446744073709551615) (hs : Seg f q (pvL u)) (hq : q + (pvL u).length ≤ n) : rvAll f n q = (u, ((q + (pvL u).length : Nat) : Int)) := by
  have hp := plen_of h
  obtain ⟨N, rfl⟩ := Int.eq_ofNat_of_zero_le h.1
  have hl := pvL_length (N : Int)
  rw [rvAll_back (by omega) hp (fun i hi => ?_) (by omega), hl]
  · congr 1
  · rw [hs i (by omega)]
    simp only [fl, pvL]
    simp [show i < pk (N : Int) + 1 by omega]
theorem rdVar_pvL {f : Nat → Int} {n q : Nat} {u : Int} (h : 0 ≤ u ∧ u ≤ 18446744073709551615) (hs : Seg f q (pvL u)) (hq : q + (pvL u).length ≤ n) : rdVar f n (q : Int) = (u, ((q + (pvL u).length : Nat) : Int), true) := by
  have hl := pvL_length u
  unfold rdVar
  rw [if_pos (by omega), Int.toNat_natCast, rvAll_pvL h hs hq]
  simp
  omega
theorem rdNum_pvL {f : Nat → Int} {n q : Nat} {u : Int} (h : 0 ≤ u ∧ u ≤ 9223372036854775807) (hs : Seg f q (pvL u)) (hq : q + (pvL u).length ≤ n) : rdNum f n q = some (u, q + (pvL u).length) := by
  unfold rdNum
  rw [rdVar_pvL (by omega) hs hq]
  rw [if_pos ⟨rfl, h.2⟩]
  simp only [Int.toNat_natCast]
theorem unf_fold {v : Int} : unfI (foldI v) = v := by unfold unfI foldI; repeat' split <;> omega

theorem sumF_same {f g : Nat → Int} : ∀ {k : Nat}, (∀ i, i < k → f i = g i) → sumF f k = sumF g k
  | 0, _ => rfl
  | k + 1, h => by
    have := sumF_same (f := f) (g := g) (k := k) fun i hi => h i (by omega)
    have h2 := h k (by omega)
    simp only [sumF, this, h2]
theorem bl_byt0 (fu : Bool) (N : Nat → Int) (k : Nat) : fl (bl fu N k) 0 = if fu = true then 1 else 0 := by
  induction k with
  | zero => simp [bl, fl]
  | succ k ih =>
    have := (bl_len fu N k).1
    rw [← ih, bl]
    simp [fl, List.getElem?_append_left (show 0 < (bl fu N k).length by omega)]
theorem rdNs_bl {f : Nat → Int} {n : Nat} {fu : Bool} {N : Nat → Int} (hN : ∀ i, i < 12 → -1000000000000000000 ≤ N i ∧ N i ≤ 1000000000000000000) :
    ∀ k, k ≤ 12 → Seg f 0 (bl fu N k) → (bl fu N k).length ≤ n → rdNs f n k = some ((List.range k).map N, (((bl fu N k).length : Nat) : Int))
  | 0, _, _, _ => by simp [rdNs, bl]
  | k + 1, hk, hs, hn => by
    have eb : bl fu N (k + 1) = bl fu N k ++ pvL (foldI (N k)) := rfl
    rw [eb] at hs hn ⊢
    rw [List.length_append] at hn
    have ih := rdNs_bl (f := f) (n := n) (fu := fu) (N := N) hN k (by omega) hs.left (by omega)
    have hr := hs.right
    rw [Nat.zero_add] at hr
    have hv := rdVar_pvL (foldI_bd (hN k (by omega))) hr hn
    rw [rdNs, ih]
    simp only [hv]
    rw [if_pos trivial, unf_fold, List.range_succ, List.map_append, List.length_append]
    rfl
theorem rag_bl {f : Nat → Int} {n : Nat} {c s lo hi : Int} {h : Nat → Int} {fu : Bool} (hg : GoodA c s lo hi 8 h fu) (hs : Seg f 0 (bl fu (nm c s lo hi h) 12)) (hn : (bl fu (nm c s lo hi h) 12).length = n) :
    RAg f n ((List.range 12).map (nm c s lo hi h)) := by
  have h0 := hs 0 (by have := (bl_len fu (nm c s lo hi h) 12).1; omega)
  rw [bl_byt0] at h0
  have hf : ∀ i, i < 12 → fi ((List.range 12).map (nm c s lo hi h)) i = nm c s lo hi h i := fun i hi12 => by simp [fi, hi12]
  refine ⟨by rw [rdNs_bl hg.nums 12 (Nat.le_refl _) hs (by omega), hn], ?_, ?_⟩
  · rw [show f 0 = f (0 + 0) from rfl, h0]; split <;> omega
  · have e : (f 0 == 1) = fu := by
      rw [show f 0 = f (0 + 0) from rfl, h0]
      cases fu <;> simp
    rw [e, hf 0 (by omega), hf 1 (by omega), hf 2 (by omega), hf 3 (by omega)]
    obtain ⟨g1, g2, g3, g4, g5, g6, g7⟩ := hg
    have hh : ∀ i, i < 8 → fi ((List.range 12).map (nm c s lo hi h)) (i + 4) = h i := fun i hi8 => by
      rw [hf (i + 4) (by omega)]
      unfold nm
      rw [if_neg (by omega), if_neg (by omega), if_neg (by omega), if_neg (by omega)]
      congr 1
    refine ⟨g1, g2, fun i hi8 => ?_, fun hfu => ?_, g5, g6, g7⟩
    · show isC (fi ((List.range 12).map (nm c s lo hi h)) (i + 4)) = true
      rw [hh i hi8]; exact g3 i hi8
    · refine ⟨?_, (g4 hfu).2⟩
      refine Eq.trans ?_ (g4 hfu).1
      exact sumF_same fun i hi8 => hh i hi8
end Go.Proofs.YtpfjflbbpecbkaaGreat
