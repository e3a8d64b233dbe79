/- The next one on a way, and the path over all ways, as functions; the next one in the program. -/
import Derived.Test.YtiigpmhaicfocaaCmp
import Derived.Test.YtiigpmhaicfocaaOe
import Derived.Test.YtiigpmhaicfocaaGe
import Derived.Laws.EntriesVeiled
namespace Go.Proofs.Ytiigpmhaicfocaa
open Go.RowKit
set_option linter.unusedSimpArgs false
set_option linter.unusedVariables false

/-- n texts lie at ao. -/
structure TRow (w : World) (ao : Option Addr) (n : Nat) (K : Nat → ByteArray) : Prop where
  lies : n = 0 ∨ ∃ b off, ao = some ⟨b, off, none⟩ ∧ b < w.heap.size ∧ ∀ i, i < n → w.cell? ⟨b, off + i, none⟩ = some (.string (K i))
theorem TRow.keep {w w' : World} {ao : Option Addr} {n : Nat} {K : Nat → ByteArray} (h : TRow w ao n K) (hb : Below w.heap.size w w') : TRow w' ao n K :=
  ⟨h.lies.elim .inl fun ⟨b, off, e, hlt, hc⟩ => .inr ⟨b, off, e, Nat.lt_of_lt_of_le hlt hb.size, fun i hi => (hb.cell (p := ⟨b, off + i, none⟩) hlt).trans (hc i hi)⟩⟩

def nxF (t : Nat → Int) (n : Nat) (y : Int) : Nat → Nat → Nat
  | 0, q => q
  | f + 1, q => if q < n ∧ t q < y then nxF t n y f (q + 1) else q
/-- The first from q on whose tower reaches the way y. -/
def nx (t : Nat → Int) (n : Nat) (y : Int) (q : Nat) : Nat := nxF t n y (n - q) q
section
variable {t : Nat → Int} {n : Nat} {y : Int} {q : Nat}
theorem nx_end (h : n ≤ q) : nx t n y q = q := by unfold nx; rw [Nat.sub_eq_zero_of_le h]; rfl
theorem nx_stop (h : q < n) (h2 : ¬ t q < y) : nx t n y q = q := by
  unfold nx
  obtain ⟨f, hf⟩ : ∃ f, n - q = f + 1 := ⟨n - q - 1, by omega⟩
  rw [hf]
  simp [nxF, h2]
theorem nx_step (h : q < n) (h2 : t q < y) : nx t n y q = nx t n y (q + 1) := by
  unfold nx
  obtain ⟨f, hf⟩ : ∃ f, n - q = f + 1 := ⟨n - q - 1, by omega⟩
  rw [hf, show n - (q + 1) = f by omega]
  simp [nxF, h, h2]
theorem nxF_le (t : Nat → Int) (n : Nat) (y : Int) : ∀ f q, q ≤ n → q ≤ nxF t n y f q ∧ nxF t n y f q ≤ n
  | 0, q, h => ⟨Nat.le_refl _, h⟩
  | f + 1, q, h => by
    unfold nxF
    split
    · rename_i hc
      have := nxF_le t n y f (q + 1) (by omega)
      omega
    · omega
theorem nx_le (h : q ≤ n) : q ≤ nx t n y q ∧ nx t n y q ≤ n := nxF_le t n y _ q h
end
/-- On the way y, from a place on, as long as the next one is less. -/
def goW (t : Nat → Int) (n : Nat) (K : Nat → ByteArray) (key : ByteArray) (y : Int) : Nat → Nat × List Int → Nat × List Int
  | 0, s => s
  | f + 1, s => if nx t n y s.1 < n ∧ cB (K (nx t n y s.1)) key < 0 then goW t n K key y f (nx t n y s.1 + 1, s.2 ++ [(nx t n y s.1 : Int)]) else s
/-- All ways from y down. -/
def pathF (t : Nat → Int) (n : Nat) (K : Nat → ByteArray) (key : ByteArray) : Nat → Nat × List Int → Nat × List Int
  | 0, s => s
  | y + 1, s => pathF t n K key y (goW t n K key ((y + 1 : Nat) : Int) (n + 1) s)
section
variable {t : Nat → Int} {n : Nat} {K : Nat → ByteArray} {key : ByteArray} {y : Int} {f p : Nat} {L : List Int}
theorem goW_stop (h : ¬ (nx t n y p < n ∧ cB (K (nx t n y p)) key < 0)) : goW t n K key y f (p, L) = (p, L) := by
  cases f with
  | zero => rfl
  | succ f => unfold goW; rw [if_neg h]
theorem goW_step (hf : 0 < f) (h : nx t n y p < n ∧ cB (K (nx t n y p)) key < 0) : ∃ f', f = f' + 1 ∧ goW t n K key y f (p, L) = goW t n K key y f' (nx t n y p + 1, L ++ [(nx t n y p : Int)]) := by
  obtain ⟨f', rfl⟩ : ∃ f', f = f' + 1 := ⟨f - 1, by omega⟩
  refine ⟨f', rfl, ?_⟩
  conv => lhs; unfold goW
  rw [if_pos h]
end

set_option maxHeartbeats 800000 in
theorem next_any (ko to : Option Addr) (n kc tc q : Nat) (y : Int) (t : Nat → Int) (w : World) (hr : IRow w to n t) (hn : n ≤ 1048576) (hq : q ≤ n) :
    Calls Try.prog 53 #[.agg #[.slice ko n kc, .slice to n tc, .func (.func 32) #[] #[]], .int .i64 q, .int .i64 y] w fun e w' => e = .returned (.int .i64 (nx t n y q : Int)) ∧ Below w.heap.size w w' := by
  obtain ⟨hbd, hlies⟩ := hr
  have hB := below_new w (.cells #[.slice ko n kc, .slice to n tc, .func (.func 32) #[] #[]] 68)
  have z0 : (w.alloc (.cells #[.slice ko n kc, .slice to n tc, .func (.func 32) #[] #[]] 68)).cell? ⟨w.heap.size, 0, none⟩ = some (.slice ko n kc) := by simp [go_sem]
  have z1 : (w.alloc (.cells #[.slice ko n kc, .slice to n tc, .func (.func 32) #[] #[]] 68)).cell? ⟨w.heap.size, 1, none⟩ = some (.slice to n tc) := by simp [go_sem]
  have hH : Hid (nx t n y q = nx t n y q) := rfl
  go_enter Try.func53, Try.ntmps53
  go_wp2
  generalize hW : w.alloc (.cells #[.slice ko n kc, .slice to n tc, .func (.func 32) #[] #[]] 68) = w1 at hB z0 z1 ⊢
  go_loopw [1] (fun i wr => ∃ k : Nat, k ≤ n ∧ i = .int .i64 k ∧ Hid (nx t n y k = nx t n y q) ∧ wr = w1) (fun i _ => n - (intOf i).toNat)
  case atStart => exact ⟨q, hq, rfl, rfl, rfl⟩
  case round =>
    obtain ⟨k, hk, rfl, hE, hw⟩ := hrel
    have hw2 := hw.symm
    clear hw
    subst hw2
    by_cases hlt : k < n
    · obtain ⟨b, off, rfl, hblt, hc⟩ := hlies.resolve_left (by omega)
      have c1 := (hB.cell (p := ⟨b, off + k, none⟩) hblt).trans (hc k hlt)
      clear hc hlies
      by_cases ht : t k < y
      · have H : Hid (nx t n y (k + 1) = nx t n y q) := (nx_step hlt ht).symm.trans hE.out
        clear hE
        go_wp2
        go_roundw
        case rel => exact ⟨k + 1, by omega, by go_num, H, by first | rfl | trivial⟩
        case measure => simp [intOf]; omega
      · have H : Hid (k = nx t n y q) := (nx_stop hlt ht).symm.trans hE.out
        have hd : decide (t k < y) = false := by simpa using ht
        clear hE
        go_wp2
        go_ret
        exact ⟨by rw [← H.out]; rfl, hB⟩
    · have H : Hid (k = nx t n y q) := (nx_end (by omega)).symm.trans hE.out
      clear hE hlies
      go_wp2
      go_ret
      exact ⟨by rw [← H.out]; rfl, hB⟩
end Go.Proofs.Ytiigpmhaicfocaa
