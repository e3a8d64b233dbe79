/- Good entries: one of them, in both texts. -/
import Derived.Test.YtapmbgmmonhdoaaGreatDoorGdS
namespace Go.Proofs.YtapmbgmmonhdoaaGreatDoor
set_option maxRecDepth 100000
open Go.RowKit
set_option linter.unusedSimpArgs false
set_option linter.unusedVariables false

/-- An agg that is zero. -/
def ZeroA (c s lo hi : Int) (n : Nat) (fu : Bool) : Prop := c = 0 ∧ s = 0 ∧ lo = 0 ∧ hi = 0 ∧ n = 0 ∧ fu = false
/-- An agg that fits its entry's kind. -/
def FitK (kind : Int) (c s lo hi : Int) (n : Nat) (f : Nat → Int) (fu : Bool) : Prop :=
  (kind = 1 ∨ kind = 3) ∧ GoodA c s lo hi n f fu ∨ kind = 2 ∧ ZeroA c s lo hi n fu
/-- A key's text. -/
def KeyOk (k : ByteArray) : Prop := 1 ≤ (k.size : Int) ∧ (k.size : Int) ≤ 140
/-- A good entry, in the document's words. -/
def GoodE (x : Ent) : Prop := KeyOk x.key ∧ (1 ≤ x.seq ∧ x.seq ≤ 1000000000) ∧ FitK x.kind x.c x.s x.lo x.hi x.n x.f x.fu

/-- An answer that says whether p; nothing is changed. -/
def AnsW (p : Prop) (w : World) (e : Ending) (w' : World) : Prop := ∃ b : Bool, e = .returned (.bool b) ∧ (b = true ↔ p) ∧ w' = w

theorem isKeyText_any (k : ByteArray) (w : World) :
    Calls Tryz.prog 148 #[.string k] w fun e w' => AnsW (KeyOk k) w e w' := by
  by_cases h1 : 1 ≤ (k.size : Int)
  · go_enter Tryz.func148, Tryz.ntmps148
    go_wp2
    refine bodyPost_ret (v := .bool (decide ((k.size : Int) ≤ 140))) (by simp [results, Tryz.results148, go_sem]) rfl ⟨_, rfl, ?_, rfl⟩
    simp [KeyOk]
    omega
  · have hd : decide (1 ≤ (k.size : Int)) = false := by simpa using h1
    have H1 : Hid (¬ 1 ≤ (k.size : Int)) := h1
    clear h1
    go_enter Tryz.func148, Tryz.ntmps148
    go_wp2
    refine bodyPost_ret (v := .bool false) (by simp [results, Tryz.results148, go_sem]) rfl ⟨_, rfl, ?_, rfl⟩
    have := H1.out
    simp [KeyOk]
    omega

set_option maxHeartbeats 1600000 in
theorem isBare_any (c s lo hi : Int) (ao : Option Addr) (n cap : Nat) (fu : Bool) (w : World) :
    Calls Tryz.prog 181 #[.agg #[.int .i64 c, .int .i64 s, .int .i64 lo, .int .i64 hi, .slice ao n cap, .bool fu]] w fun e w' => Ans (ZeroA c s lo hi n fu) w e w' := by
  have hB := fun o => below_new w o
  by_cases hc : c = 0
  rotate_left
  · have H : Hid (¬ c = 0) := hc
    go_enter Tryz.func181, Tryz.ntmps181
    go_wp2
    refine bodyPost_ret (v := .bool false) (by simp [results, Tryz.results181, go_sem]) rfl (Ans.mk _ ?_ (hB _))
    have := H.out
    simp only [ZeroA, Bool.false_eq_true, false_iff]
    omega
  subst hc
  by_cases hs : s = 0
  rotate_left
  · have H : Hid (¬ s = 0) := hs
    go_enter Tryz.func181, Tryz.ntmps181
    go_wp2
    refine bodyPost_ret (v := .bool false) (by simp [results, Tryz.results181, go_sem]) rfl (Ans.mk _ ?_ (hB _))
    have := H.out
    simp only [ZeroA, Bool.false_eq_true, false_iff]
    omega
  subst hs
  by_cases hlo : lo = 0
  rotate_left
  · have H : Hid (¬ lo = 0) := hlo
    go_enter Tryz.func181, Tryz.ntmps181
    go_wp2
    refine bodyPost_ret (v := .bool false) (by simp [results, Tryz.results181, go_sem]) rfl (Ans.mk _ ?_ (hB _))
    have := H.out
    simp only [ZeroA, Bool.false_eq_true, false_iff]
    omega
  subst hlo
  by_cases hhi : hi = 0
  rotate_left
  · have H : Hid (¬ hi = 0) := hhi
    go_enter Tryz.func181, Tryz.ntmps181
    go_wp2
    refine bodyPost_ret (v := .bool false) (by simp [results, Tryz.results181, go_sem]) rfl (Ans.mk _ ?_ (hB _))
    have := H.out
    simp only [ZeroA, Bool.false_eq_true, false_iff]
    omega
  subst hhi
  by_cases hn : (n : Int) = 0
  rotate_left
  · have H : Hid (¬ (n : Int) = 0) := hn
    go_enter Tryz.func181, Tryz.ntmps181
    go_wp2
    refine bodyPost_ret (v := .bool false) (by simp [results, Tryz.results181, go_sem]) rfl (Ans.mk _ ?_ (hB _))
    have := H.out
    simp only [ZeroA, Bool.false_eq_true, false_iff]
    omega
  obtain rfl : n = 0 := by omega
  clear hn
  cases fu
  all_goals
    go_enter Tryz.func181, Tryz.ntmps181
    go_wp2
  · exact bodyPost_ret (v := .bool true) (by simp [results, Tryz.results181, go_sem]) rfl (Ans.mk _ (by simp [ZeroA]) (hB _))
  · exact bodyPost_ret (v := .bool false) (by simp [results, Tryz.results181, go_sem]) rfl (Ans.mk _ (by simp [ZeroA]) (hB _))

set_option maxHeartbeats 1600000 in
theorem fitsKind_any (kind c s lo hi : Int) (ao : Option Addr) (n cap : Nat) (f : Nat → Int) (fu : Bool) (w : World) (hr : IRow w ao n f) (hn : n ≤ 1048576) (hs : -9223372036854775808 ≤ s ∧ s ≤ 9223372036854775807) :
    Calls Tryz.prog 149 #[.int .i64 kind, .agg #[.int .i64 c, .int .i64 s, .int .i64 lo, .int .i64 hi, .slice ao n cap, .bool fu]] w fun e w' => Ans (FitK kind c s lo hi n f fu) w e w' := by
  have hB := fun o => below_new w o
  by_cases k1 : kind = 1
  · subst k1
    go_enter Tryz.func149, Tryz.ntmps149
    go_wp2_with fail
    refine (goodAgg_impl c s lo hi ao n cap f fu _ (hr.keep (hB _)) hn hs).mono ?_
    rintro e w1 ⟨b1, rfl, h1, q1⟩
    have bw : Below w.heap.size w w1 := (hB _).trans (q1.mono (by simp))
    have HH : Hid (b1 = true ↔ FitK 1 c s lo hi n f fu) := by simpa [FitK, Hid] using h1
    clear h1 q1
    go_wp2
    exact bodyPost_ret (v := .bool b1) (by simp [results, Tryz.results149, go_sem]) rfl (Ans.mk _ HH.out bw)
  by_cases k3 : kind = 3
  · subst k3
    go_enter Tryz.func149, Tryz.ntmps149
    go_wp2_with fail
    refine (goodAgg_impl c s lo hi ao n cap f fu _ (hr.keep (hB _)) hn hs).mono ?_
    rintro e w1 ⟨b1, rfl, h1, q1⟩
    have bw : Below w.heap.size w w1 := (hB _).trans (q1.mono (by simp))
    have HH : Hid (b1 = true ↔ FitK 3 c s lo hi n f fu) := by simpa [FitK, Hid] using h1
    clear h1 q1
    go_wp2
    exact bodyPost_ret (v := .bool b1) (by simp [results, Tryz.results149, go_sem]) rfl (Ans.mk _ HH.out bw)
  by_cases k2 : kind = 2
  · subst k2
    go_enter Tryz.func149, Tryz.ntmps149
    go_wp2_with fail
    refine (isBare_any c s lo hi ao n cap fu _).mono ?_
    rintro e w1 ⟨b1, rfl, h1, q1⟩
    have bw : Below w.heap.size w w1 := (hB _).trans (q1.mono (by simp))
    have HH : Hid (b1 = true ↔ FitK 2 c s lo hi n f fu) := by simpa [FitK, Hid] using h1
    clear h1 q1
    go_wp2
    exact bodyPost_ret (v := .bool b1) (by simp [results, Tryz.results149, go_sem]) rfl (Ans.mk _ HH.out bw)
  have H : Hid (¬ FitK kind c s lo hi n f fu) := by simp [Hid, FitK, k1, k2, k3]
  go_enter Tryz.func149, Tryz.ntmps149
  go_wp2
  exact bodyPost_ret (v := .bool false) (by simp [results, Tryz.results149, go_sem]) rfl (Ans.mk _ (by have := H.out; simp [this]) (hB _))

set_option maxHeartbeats 1600000 in
theorem goodEntry_impl (x : Ent) (ao : Option Addr) (cap : Nat) (w : World) (hr : IRow w ao x.n x.f) (hn : x.n ≤ 1048576) (hs : -9223372036854775808 ≤ x.s ∧ x.s ≤ 9223372036854775807) :
    Calls Tryz.prog 97 #[.agg #[.string x.key, .int .i64 x.seq, .int .i64 x.kind, .int .i64 x.c, .int .i64 x.s, .int .i64 x.lo, .int .i64 x.hi, .slice ao x.n cap, .bool x.fu]] w fun e w' => Ans (GoodE x) w e w' := by
  have hB := fun o => below_new w o
  by_cases hk : KeyOk x.key
  rotate_left
  · have H : Hid (¬ GoodE x) := fun h => hk h.1
    go_enter Tryz.func97, Tryz.ntmps97
    go_wp2_with fail
    refine (isKeyText_any x.key _).mono ?_
    rintro e w1 ⟨b1, rfl, h1, rfl⟩
    obtain rfl : b1 = false := by cases b1 with | false => rfl | true => exact absurd (h1.1 rfl) hk
    clear h1 hk
    go_wp2
    exact bodyPost_ret (v := .bool false) (by simp [results, Tryz.results97, go_sem]) rfl (Ans.mk _ (by have := H.out; simp [this]) (hB _))
  by_cases h1 : 1 ≤ x.seq
  rotate_left
  · have H : Hid (¬ GoodE x) := fun h => h1 h.2.1.1
    have hd : decide (1 ≤ x.seq) = false := by simpa using h1
    go_enter Tryz.func97, Tryz.ntmps97
    go_wp2_with fail
    refine (isKeyText_any x.key _).mono ?_
    rintro e w1 ⟨b1, rfl, h1, rfl⟩
    obtain rfl := h1.2 hk
    clear h1 hk
    go_wp2
    exact bodyPost_ret (v := .bool false) (by simp [results, Tryz.results97, go_sem]) rfl (Ans.mk _ (by have := H.out; simp [this]) (hB _))
  by_cases h2 : x.seq ≤ 1000000000
  rotate_left
  · have H : Hid (¬ GoodE x) := fun h => h2 h.2.1.2
    have hd : decide (x.seq ≤ 1000000000) = false := by simpa using h2
    go_enter Tryz.func97, Tryz.ntmps97
    go_wp2_with fail
    refine (isKeyText_any x.key _).mono ?_
    rintro e w1 ⟨b1, rfl, h1, rfl⟩
    obtain rfl := h1.2 hk
    clear h1 hk
    go_wp2
    exact bodyPost_ret (v := .bool false) (by simp [results, Tryz.results97, go_sem]) rfl (Ans.mk _ (by have := H.out; simp [this]) (hB _))
  have H2 : Hid (KeyOk x.key ∧ 1 ≤ x.seq ∧ x.seq ≤ 1000000000) := ⟨hk, h1, h2⟩
  go_enter Tryz.func97, Tryz.ntmps97
  go_wp2_with fail
  refine (isKeyText_any x.key _).mono ?_
  rintro e w1 ⟨b1, rfl, h3, rfl⟩
  obtain rfl := h3.2 hk
  clear h3 hk
  go_wp2_with fail
  refine (fitsKind_any _ _ _ _ _ ao _ cap x.f _ _ (hr.keep (hB _)) hn hs).mono ?_
  rintro e w1 ⟨b1, rfl, h3, q1⟩
  have bw : Below w.heap.size w w1 := (hB _).trans (q1.mono (by simp))
  have HH : Hid (b1 = true ↔ GoodE x) := ⟨fun h => ⟨H2.out.1, H2.out.2, h3.1 h⟩, fun h => h3.2 h.2.2⟩
  clear h3 q1 H2
  go_wp2
  exact bodyPost_ret (v := .bool b1) (by simp [results, Tryz.results97, go_sem]) rfl (Ans.mk _ HH.out bw)

theorem btw_iff {lo n hi : Int} : btw lo n hi = true ↔ lo ≤ n ∧ n ≤ hi := by simp [btw]
end Go.Proofs.YtapmbgmmonhdoaaGreatDoor
