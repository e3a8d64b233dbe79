/- The hash of a text: both texts step by step one function of numbers. / The places of a key: the numbers that both texts tell, and the bit of a place. -/
import Derived.Test.YtohjjigkfdhklaaGreatIL
import Derived.OpenShut
import Derived.Test.YtohjjigkfdhklaaGreatGf
namespace Go.Proofs.YtohjjigkfdhklaaGreat
set_option maxRecDepth 100000
open Go.RowKit
set_option linter.unusedSimpArgs false
set_option linter.unusedVariables false

/-- The byte k of a text. -/
def byteAt (s : ByteArray) (k : Nat) : Int := if h : k < s.size then (s[k].toNat : Int) % 4294967296 else 0
theorem byteAt_lt {s : ByteArray} {k : Nat} (h : k < s.size) : byteAt s k = (s[k].toNat : Int) % 4294967296 := by unfold byteAt; rw [dif_pos h]
def hTo (s : ByteArray) (z : Int) : Nat → Int
  | 0 => 2166136261 + z * 40503
  | k + 1 => bits .xor .u32 (hTo s z k) (byteAt s k) * 16777619 % 4294967296
/-- The hash of a text by a seed. -/
def hOf (s : ByteArray) (z : Int) : Int := bits .xor .u32 (hTo s z s.size) (hTo s z s.size / 32768)

theorem hTo_bd (s : ByteArray) (z : Int) (h : 0 ≤ z ∧ z ≤ 1000) (k : Nat) : 0 ≤ hTo s z k ∧ hTo s z k ≤ 4294967295 := by
  cases k with
  | zero => simp only [hTo]; omega
  | succ k => simp only [hTo]; omega
theorem hOf_bd (s : ByteArray) (z : Int) : 0 ≤ hOf s z ∧ hOf s z ≤ 4294967295 := xor_bd _ _

set_option maxHeartbeats 800000 in
theorem hash_spec (s : ByteArray) (z : Int) (w : World) (hz : 0 ≤ z ∧ z ≤ 1000) (hs : s.size ≤ 1048576) :
    Calls Tryz.prog 98 #[.string s, .int .i64 z] w fun e w' => e = .returned (.int .u32 (hOf s z)) ∧ w' = w := by
  go_enter Tryz.func98, Tryz.ntmps98
  go_wp2
  go_loopw [5, 6] (fun h i wr => ∃ k : Nat, k ≤ s.size ∧ i = .int .i64 k ∧ h = .int .u32 (hTo s z k) ∧ wr = w) (fun _ i _ => s.size - (intOf i).toNat)
  case atStart => exact ⟨0, by omega, rfl, rfl, rfl⟩
  case round =>
    obtain ⟨k, hk, rfl, rfl, rfl⟩ := hrel
    have hb := hTo_bd s z hz k
    by_cases hlt : k < s.size
    · have e1 := byteAt_lt hlt
      have HS : Hid (hTo s z (k + 1) = bits .xor .u32 (hTo s z k) ((s[k].toNat : Int) % 4294967296) * 16777619 % 4294967296) := by unfold Hid; rw [hTo, e1]
      clear e1
      go_wp2
      go_roundw
      case rel => exact ⟨k + 1, by omega, by go_num, by rw [HS.out], by first | rfl | trivial⟩
      case measure => simp [intOf]; omega
    · have e : k = s.size := by omega
      have HE : Hid (bits .xor .u32 (hTo s z k) (hTo s z k / 32768) = hOf s z) := by unfold Hid hOf; rw [e]
      generalize hTo s z k = y at *
      clear e
      go_wp2
      exact bodyPost_ret (v := .int .u32 (bits .xor .u32 y (y / 32768))) (by simp [results, Tryz.results98, go_sem]) rfl ⟨by rw [HE.out], rfl⟩

set_option maxHeartbeats 800000 in
theorem hash_impl (s : ByteArray) (z : Int) (w : World) (hz : 0 ≤ z ∧ z ≤ 1000) (hs : s.size ≤ 1048576) :
    Calls Tryz.prog 93 #[.string s, .int .u32 z] w fun e w' => e = .returned (.int .u32 (hOf s z)) ∧ w' = w := by
  go_enter Tryz.func93, Tryz.ntmps93
  go_wp2
  go_loopw [5, 12] (fun h i wr => ∃ k : Nat, k ≤ s.size ∧ i = .int .i64 k ∧ h = .int .u32 (hTo s z k) ∧ wr = w) (fun _ i _ => s.size - (intOf i).toNat)
  case atStart => exact ⟨0, by omega, rfl, rfl, rfl⟩
  case round =>
    obtain ⟨k, hk, rfl, rfl, rfl⟩ := hrel
    have hb := hTo_bd s z hz k
    by_cases hlt : k < s.size
    · have e1 := byteAt_lt hlt
      have HS : Hid (hTo s z (k + 1) = bits .xor .u32 (hTo s z k) ((s[k].toNat : Int) % 4294967296) * 16777619 % 4294967296) := by unfold Hid; rw [hTo, e1]
      clear e1
      go_wp2
      go_roundw
      case rel => exact ⟨k + 1, by omega, by go_num, by rw [HS.out], by first | rfl | trivial⟩
      case measure => simp [intOf]; omega
    · have e : k = s.size := by omega
      have HE : Hid (bits .xor .u32 (hTo s z k) (hTo s z k / 32768) = hOf s z) := by unfold Hid hOf; rw [e]
      generalize hTo s z k = y at *
      clear e
      go_wp2
      exact bodyPost_ret (v := .int .u32 (bits .xor .u32 y (y / 32768))) (by simp [results, Tryz.results93, go_sem]) rfl ⟨by rw [HE.out], rfl⟩

/-- What HashOf answers. -/
def HO (s : ByteArray) (z : Int) : Value := if 0 ≤ z ∧ z ≤ 1000 then .tuple #[.int .u32 (hOf s z), .bool true] else .tuple #[.int .u32 0, .bool false]

end Go.Proofs.YtohjjigkfdhklaaGreat
namespace Go.Proofs.YtohjjigkfdhklaaGreat
set_option maxRecDepth 100000
open Go.RowKit
set_option linter.unusedSimpArgs false
set_option linter.unusedVariables false

/-- The bit j. -/
def bt (j : Int) : Int := if j = 0 then 1 else if j = 1 then 2 else if j = 2 then 4 else if j = 3 then 8 else if j = 4 then 16 else if j = 5 then 32 else if j = 6 then 64 else 128
theorem bt_bd (j : Int) : 0 ≤ bt j ∧ bt j ≤ 255 := by unfold bt; repeat' split <;> omega

theorem cases8 {j : Int} (h : 0 ≤ j ∧ j < 8) : j = 0 ∨ j = 1 ∨ j = 2 ∨ j = 3 ∨ j = 4 ∨ j = 5 ∨ j = 6 ∨ j = 7 := by omega

set_option maxHeartbeats 800000 in
theorem bitOf_any (p : Int) (w : World) (h : 0 ≤ p ∧ p ≤ 4294967295) :
    Calls Tryz.prog 66 #[.int .i64 p] w fun e w' => e = .returned (.int .u8 (bt (p % 8))) ∧ w' = w := by
  have hm : p.tmod 8 = p % 8 := Int.tmod_eq_emod_of_nonneg h.1
  have h8 := cases8 (j := p % 8) (by omega)
  generalize p % 8 = j at *
  rcases h8 with rfl | rfl | rfl | rfl | rfl | rfl | rfl | rfl
  all_goals
    go_enter Tryz.func66, Tryz.ntmps66
    go_wp2
    go_ret
    exact ⟨rfl, rfl⟩

/-- Where the hash stands ahead of the place k. -/
def hk (h d : Int) (k : Nat) : Int := (h + (k : Int) * d) % 4294967296
/-- The place k. -/
def pl (h d M : Int) (k : Nat) : Int := hk h d k % M
def plL (h d M : Int) (k : Nat) : List Int := (List.range k).map (pl h d M)
theorem plL_succ (h d M : Int) (k : Nat) : plL h d M (k + 1) = plL h d M k ++ [pl h d M k] := by simp [plL, List.range_succ]
theorem plL_len (h d M : Int) (k : Nat) : (plL h d M k).length = k := by simp [plL]
theorem hk_zero {h d : Int} (hh : 0 ≤ h ∧ h ≤ 4294967295) : hk h d 0 = h := by unfold hk; rw [Int.natCast_zero, Int.zero_mul, Int.add_zero]; omega
theorem hk_succ (h d : Int) (k : Nat) : (hk h d k + d) % 4294967296 = hk h d (k + 1) := by
  unfold hk
  rw [Int.emod_add_emod, Int.natCast_add, Int.add_mul, Int.add_assoc]
  simp
theorem hk_bd (h d : Int) (k : Nat) : 0 ≤ hk h d k ∧ hk h d k ≤ 4294967295 := by unfold hk; omega
theorem pl_bd (h d : Int) {M : Int} (hM : 0 < M) (k : Nat) : 0 ≤ pl h d M k ∧ pl h d M k < M := ⟨Int.emod_nonneg _ (by omega), Int.emod_lt_of_pos _ hM⟩

set_option maxHeartbeats 1600000 in
theorem l6Places_any (s : ByteArray) (y m : Nat) (w : World) (hs : s.size ≤ 1048576) (hy : y ≤ 8) (hm : 1 ≤ m ∧ m ≤ 200) :
    Calls Tryz.prog 72 #[.string s, .int .i64 y, .int .i64 m] w fun e w' => ∃ v, e = .returned v ∧ OwnI w' w.heap.size v (plL (hOf s 0) (hOf s 1) (8 * m) y) ∧ Below w.heap.size w w' := by
  have hh := hOf_bd s 0
  have hd := hOf_bd s 1
  have c0 := hash_spec s 0 w (by omega) hs
  have c1 := hash_spec s 1 w (by omega) hs
  obtain ⟨h, eh⟩ : ∃ h, hOf s 0 = h := ⟨_, rfl⟩
  obtain ⟨d, ed⟩ : ∃ d, hOf s 1 = d := ⟨_, rfl⟩
  rw [eh] at hh c0 ⊢
  rw [ed] at hd c1 ⊢
  clear eh ed
  have hz := hk_zero (d := d) hh
  go_enter Tryz.func72, Tryz.ntmps72
  go_wp2_with fail
  refine c0.mono ?_
  rintro e w1 ⟨rfl, hw⟩
  have hw2 := hw.symm
  clear hw
  subst hw2
  go_wp2_with fail
  refine c1.mono ?_
  rintro e w1 ⟨rfl, hw⟩
  have hw2 := hw.symm
  clear hw c0 c1
  subst hw2
  have hM1 : (0 : Int) < 8 * (m : Int) := by omega
  have hM2 : 8 * (m : Int) ≤ 1600 := by omega
  go_wp2
  go_loopw [7, 9, 10] (fun q v i wr => ∃ k : Nat, k ≤ y ∧ i = .int .i64 k ∧ q = .int .u32 (hk h d k) ∧ OwnI wr w.heap.size v (plL h d (8 * m) k) ∧ Below w.heap.size w wr) (fun _ _ i _ => y - (intOf i).toNat)
  case atStart => exact ⟨0, Nat.zero_le _, rfl, by rw [hz], ownI_nil _ _, Below.refl _ _⟩
  case round =>
    obtain ⟨k, hky, rfl, rfl, ho, hbk⟩ := hrel
    have hkb := hk_bd h d k
    by_cases hlt : k < y
    · have HP : Hid (plL h d (8 * m) (k + 1) = plL h d (8 * m) k ++ [pl h d (8 * m) k]) := plL_succ _ _ _ _
      have HK : Hid ((hk h d k + d) % 4294967296 = hk h d (k + 1)) := hk_succ h d k
      have hpb := pl_bd h d (M := 8 * (m : Int)) (by omega) k
      have HE : Hid (pl h d (8 * (m : Int)) k = hk h d k % (8 * (m : Int))) := rfl
      have hl2 : (plL h d (8 * m) k).length ≤ 1048576 := by rw [plL_len]; omega
      have hsz := hbk.size
      have hpx : 0 ≤ hk h d k % (8 * (m : Int)) ∧ hk h d k % (8 * (m : Int)) < 8 * (m : Int) := hpb
      have hne : ¬ (8 * (m : Int) = 0) := by omega
      clear hpb
      go_wp2_with (at_builtin; refine wpList_pushI rfl (.tmp 20) (.tmp 27) rfl w.heap.size _ (plL h d (8 * m) k) (hk h d k % (8 * (m : Int))) rfl ho (by omega) rfl hl2 hsz ?_; intro v8 w8 hO8 hg8; have bw8 : Below w.heap.size w w8 := (ho.keep (below_new wr _)).below (hbk.alloc hsz _) hg8 (Nat.le_refl _) (by simp; omega))
      rw [← HE.out, ← HP.out] at hO8
      go_roundw
      case rel => exact ⟨k + 1, by omega, by go_num, by rw [← HK.out], hO8, bw8⟩
      case measure => simp [intOf]; omega
    · obtain rfl : k = y := by omega
      go_wp2
      go_ret
      exact ⟨_, rfl, ho, hbk⟩

/-- The place x is set. -/
def isSet (f : Nat → Int) (x : Int) : Bool := !(bits .and .u8 (f (x / 8).toNat) (bt (x % 8)) == 0)
/-- All places are set. -/
def allSet (f : Nat → Int) (L : List Int) : Bool := L.all (isSet f)

theorem bit_fin : ∀ n : Fin 256, ((bits .and .u8 (n.1 : Int) 1 == 0) = (bits .and .u8 (n.1 : Int) (bt 0) == 0)) ∧ ((bits .and .u8 ((n.1 : Int) / 2) 1 == 0) = (bits .and .u8 (n.1 : Int) (bt 1) == 0)) ∧ ((bits .and .u8 ((n.1 : Int) / 4) 1 == 0) = (bits .and .u8 (n.1 : Int) (bt 2) == 0)) ∧ ((bits .and .u8 ((n.1 : Int) / 8) 1 == 0) = (bits .and .u8 (n.1 : Int) (bt 3) == 0)) ∧
    ((bits .and .u8 ((n.1 : Int) / 16) 1 == 0) = (bits .and .u8 (n.1 : Int) (bt 4) == 0)) ∧ ((bits .and .u8 ((n.1 : Int) / 32) 1 == 0) = (bits .and .u8 (n.1 : Int) (bt 5) == 0)) ∧ ((bits .and .u8 ((n.1 : Int) / 64) 1 == 0) = (bits .and .u8 (n.1 : Int) (bt 6) == 0)) ∧ ((bits .and .u8 ((n.1 : Int) / 128) 1 == 0) = (bits .and .u8 (n.1 : Int) (bt 7) == 0)) := by decide +kernel
theorem bit_all {z : Int} (h : 0 ≤ z ∧ z ≤ 255) : ((bits .and .u8 z 1 == 0) = (bits .and .u8 z (bt 0) == 0)) ∧ ((bits .and .u8 (z / 2) 1 == 0) = (bits .and .u8 z (bt 1) == 0)) ∧ ((bits .and .u8 (z / 4) 1 == 0) = (bits .and .u8 z (bt 2) == 0)) ∧ ((bits .and .u8 (z / 8) 1 == 0) = (bits .and .u8 z (bt 3) == 0)) ∧
    ((bits .and .u8 (z / 16) 1 == 0) = (bits .and .u8 z (bt 4) == 0)) ∧ ((bits .and .u8 (z / 32) 1 == 0) = (bits .and .u8 z (bt 5) == 0)) ∧ ((bits .and .u8 (z / 64) 1 == 0) = (bits .and .u8 z (bt 6) == 0)) ∧ ((bits .and .u8 (z / 128) 1 == 0) = (bits .and .u8 z (bt 7) == 0)) := by
  obtain ⟨n, rfl⟩ := Int.eq_ofNat_of_zero_le h.1
  exact bit_fin ⟨n, by omega⟩
theorem bit_case {z x : Int} {B : Bool} (hz : 0 ≤ z ∧ z ≤ 255) (hS : B = !(bits .and .u8 z (bt (x % 8)) == 0)) :
    (x % 8 = 0 ∧ (bits .and .u8 z 1 == 0) = !B) ∨ (x % 8 = 1 ∧ (bits .and .u8 (z / 2) 1 == 0) = !B) ∨ (x % 8 = 2 ∧ (bits .and .u8 (z / 4) 1 == 0) = !B) ∨ (x % 8 = 3 ∧ (bits .and .u8 (z / 8) 1 == 0) = !B) ∨ (x % 8 = 4 ∧ (bits .and .u8 (z / 16) 1 == 0) = !B) ∨ (x % 8 = 5 ∧ (bits .and .u8 (z / 32) 1 == 0) = !B) ∨ (x % 8 = 6 ∧ (bits .and .u8 (z / 64) 1 == 0) = !B) ∨ (x % 8 = 7 ∧ (bits .and .u8 (z / 128) 1 == 0) = !B) := by
  obtain ⟨e0, e1, e2, e3, e4, e5, e6, e7⟩ := bit_all hz
  have hh : ∀ {j : Int}, x % 8 = j → (bits .and .u8 z (bt j) == 0) = !B := fun {j} h => by rw [hS, ← h, Bool.not_not]
  rcases cases8 (j := x % 8) (by omega) with h | h | h | h | h | h | h | h
  · exact .inl ⟨h, e0.trans (hh h)⟩
  · exact .inr (.inl ⟨h, e1.trans (hh h)⟩)
  · exact .inr (.inr (.inl ⟨h, e2.trans (hh h)⟩))
  · exact .inr (.inr (.inr (.inl ⟨h, e3.trans (hh h)⟩)))
  · exact .inr (.inr (.inr (.inr (.inl ⟨h, e4.trans (hh h)⟩))))
  · exact .inr (.inr (.inr (.inr (.inr (.inl ⟨h, e5.trans (hh h)⟩)))))
  · exact .inr (.inr (.inr (.inr (.inr (.inr (.inl ⟨h, e6.trans (hh h)⟩))))))
  · exact .inr (.inr (.inr (.inr (.inr (.inr (.inr (⟨h, e7.trans (hh h)⟩)))))))
end Go.Proofs.YtohjjigkfdhklaaGreat
