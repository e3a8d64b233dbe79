/- What the measure of entries says of them all together. -/
import Derived.Test.YtfdbhkjmkpgomaaEnS
namespace Go.Proofs.Ytfdbhkjmkpgomaa
open Go.RowKit
set_option linter.unusedSimpArgs false
set_option linter.unusedVariables false

/-- What an exact measure leaves: d is taken away, or it says no. -/
def SzX (left : Int) (d : Int) (w : World) (e : Ending) (w' : World) : Prop :=
  ∃ v : Int, e = .returned (.int .i64 v) ∧ -1 ≤ v ∧ (0 ≤ v → v = left - d) ∧ Below w.heap.size w w'

theorem szIntS_ex (ao : Option Addr) (n cap : Nat) (left : Int) (w : World) (hl : 0 ≤ left ∧ left ≤ 1048576) (hn : n ≤ 9223372036854775807) :
    Calls Try.prog 72 #[.slice ao n cap, .int .i64 left] w fun e w' => SzX left n w e w' := by
  have hw : IntKind.i64.wrap (left - (n : Int)) = left - (n : Int) := by rw [IntKind.wrap_i64] <;> omega
  by_cases h1 : left - (n : Int) < 0
  · go_enter Try.func72, Try.ntmps72
    go_wp2
    go_ret
    exact ⟨-1, rfl, by omega, fun h => by omega, Below.refl _ _⟩
  · go_enter Try.func72, Try.ntmps72
    go_wp2
    go_ret
    exact ⟨_, rfl, by omega, fun _ => rfl, Below.refl _ _⟩

theorem szAgg_ex (c s lo hi : Int) (ao : Option Addr) (n cap : Nat) (fu : Bool) (left : Int) (w : World) (hl : 0 ≤ left ∧ left ≤ 1048576) (hn : n ≤ 9223372036854775807) :
    Calls Try.prog 55 #[.agg #[.int .i64 c, .int .i64 s, .int .i64 lo, .int .i64 hi, .slice ao n cap, .bool fu], .int .i64 left] w
      fun e w' => SzX left n w e w' := by
  have hB := fun o => below_new w o
  go_enter Try.func55, Try.ntmps55
  go_wp2_with fail
  refine (szIntS_ex ao n cap left _ hl hn).mono ?_
  rintro e w1 ⟨v, rfl, h1, h3, hb⟩
  have bw : Below w.heap.size w w1 := (hB _).trans (hb.mono (by simp))
  clear hb
  by_cases hv : v < 0
  · clear h3
    go_wp2
    go_ret
    exact ⟨-1, rfl, by omega, fun h => by omega, bw⟩
  · have h4 : Hid (v = left - (n : Int)) := h3 (by omega)
    clear h3
    go_wp2
    go_ret
    exact ⟨v, rfl, by omega, fun _ => h4.out, bw⟩

set_option maxHeartbeats 400000 in
theorem szEntry_ex (x : Ent) (ao : Option Addr) (cap : Nat) (left : Int) (w : World) (hl : 0 ≤ left ∧ left ≤ 1048576) (hk : x.key.size ≤ 9223372036854775807) (hn : x.n ≤ 9223372036854775807) :
    Calls Try.prog 37 #[.agg #[.string x.key, .int .i64 x.seq, .int .i64 x.kind, .int .i64 x.c, .int .i64 x.s, .int .i64 x.lo, .int .i64 x.hi, .slice ao x.n cap, .bool x.fu], .int .i64 left] w fun e w' => SzX left ((x.key.size : Int) + x.n) w e w' := by
  have hB := fun o => below_new w o
  have hw : IntKind.i64.wrap (left - (x.key.size : Int)) = left - (x.key.size : Int) := by rw [IntKind.wrap_i64] <;> omega
  by_cases h1 : left - (x.key.size : Int) < 0
  · go_enter Try.func37, Try.ntmps37
    go_wp2
    go_ret
    exact ⟨-1, rfl, by omega, fun h => by omega, hB _⟩
  · go_enter Try.func37, Try.ntmps37
    go_wp2_with fail
    refine (szAgg_ex _ _ _ _ ao _ cap _ _ _ (by omega) hn).mono ?_
    rintro e w1 ⟨v, rfl, hv1, hv3, hb⟩
    have bw : Below w.heap.size w w1 := (hB _).trans (hb.mono (by simp))
    clear hb
    by_cases hv : v < 0
    · clear hv3
      go_wp2
      go_ret
      exact ⟨-1, rfl, by omega, fun h => by omega, bw⟩
    · have H : Hid (v = left - ((x.key.size : Int) + x.n)) := by have := hv3 (by omega); unfold Hid; omega
      clear hv3
      go_wp2
      go_ret
      exact ⟨v, rfl, by omega, fun _ => H.out, bw⟩

/-- The letters and numbers of the first k together. -/
def tot (X : Nat → Ent) : Nat → Nat
  | 0 => 0
  | k + 1 => tot X k + ((X k).key.size + (X k).n)
theorem tot_size {X : Nat → Ent} {B : Nat} : ∀ {n : Nat}, tot X n ≤ B → ∀ i, i < n → (X i).key.size ≤ B ∧ (X i).n ≤ B
  | 0, _, i, hi => by omega
  | n + 1, h, i, hi => by
    unfold tot at h
    by_cases e : i = n
    · subst e; omega
    · exact tot_size (n := n) (by omega) i (by omega)

set_option maxHeartbeats 800000 in
theorem szEntryS_tot (ao : Option Addr) (n cap : Nat) (X : Nat → Ent) (left : Int) (w : World) (hr : ERow w ao n X) (hl : 0 ≤ left ∧ left ≤ 1048576) (hn : n ≤ 9223372036854775807) :
    Calls Try.prog 16 #[.slice ao n cap, .int .i64 left] w fun e w' => SzOut left (n + tot X n ≤ 1048576) w e w' := by
  obtain ⟨hbd, hlies⟩ := hr
  have hw : IntKind.i64.wrap (left - (n : Int)) = left - (n : Int) := by rw [IntKind.wrap_i64] <;> omega
  by_cases h1 : left - (n : Int) < 0
  · go_enter Try.func16, Try.ntmps16
    go_wp2
    go_ret
    exact ⟨-1, rfl, by omega, by omega, fun h => by omega, Below.refl _ _⟩
  · go_enter Try.func16, Try.ntmps16
    go_wp2
    go_loopw [1, 5] (fun q i wr => ∃ (k : Nat) (l : Int), k ≤ n ∧ i = .int .i64 k ∧ q = .int .i64 l ∧ 0 ≤ l ∧ l ≤ left ∧ Hid (l + n + tot X k = left) ∧ Below w.heap.size w wr) (fun _ i _ => n - (intOf i).toNat)
    case atStart => exact ⟨0, _, Nat.zero_le _, rfl, rfl, by omega, by omega, by simp [Hid, tot], Below.refl _ _⟩
    case round =>
      obtain ⟨k, l, hk, rfl, rfl, hl0, hl1, HS, hbk⟩ := hrel
      by_cases hlt : k < n
      · obtain ⟨b, off, rfl, hblt, hc⟩ := hlies.resolve_left (by omega)
        obtain ⟨da, dc, ea, _⟩ := hc k hlt
        obtain ⟨_, a0, a1, a2, a3, a4, a5, a6, a7, a8⟩ := ea.keep hbk
        have hE := hbd k hlt
        clear hc hlies ea
        go_wp2_with fail
        refine (szEntry_ex (X k) _ _ _ _ (by omega) hE.key hE.n).mono ?_
        rintro e w2 ⟨v, rfl, hv1, hv3, hb2⟩
        have hbw := hbk.trans (hb2.mono hbk.size)
        by_cases hv : v < 0
        · clear hv3
          go_wp2
          go_ret
          exact ⟨-1, rfl, by omega, by omega, fun h => by omega, hbw⟩
        · have hq := hv3 (by omega)
          have hvl : v ≤ left := by omega
          have HS' : Hid (v + n + tot X (k + 1) = left) := by
            have := HS.out
            unfold Hid tot
            omega
          clear hv3 hq
          go_wp2
          go_roundw
          case rel => exact ⟨k + 1, v, by omega, by go_num, rfl, by omega, hvl, HS', hbw⟩
          case measure => simp [intOf]; omega
      · have e : k = n := by omega
        subst e
        go_wp2
        go_ret
        exact ⟨l, rfl, by omega, by omega, fun _ => by have := HS.out; omega, hbk⟩
end Go.Proofs.Ytfdbhkjmkpgomaa
