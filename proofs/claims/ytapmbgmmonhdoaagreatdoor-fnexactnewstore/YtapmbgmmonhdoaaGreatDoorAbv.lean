/- Whether all Seqs, or none, are above a number, in the program. -/
import Derived.Test.YtapmbgmmonhdoaaGreatDoorGoI
import Derived.Laws.EntriesVeiled
namespace Go.Proofs.YtapmbgmmonhdoaaGreatDoor
set_option maxRecDepth 100000
open Go.RowKit
set_option linter.unusedSimpArgs false
set_option linter.unusedVariables false


def HasLe (X : Nat → Ent) (n : Nat) (s : Int) : Prop := ∃ i, i < n ∧ (X i).seq ≤ s

set_option maxHeartbeats 800000 in
theorem allAbove1_any (x : Ent) (ao : Option Addr) (hc B : Nat) (s : Int) (w : World) (hq : w.cell? ⟨B, 0, none⟩ = some (.int .i64 s)) (hB : B < w.heap.size) :
    Calls Tryz.prog 101 #[.agg #[.string x.key, .int .i64 x.seq, .int .i64 x.kind, .int .i64 x.c, .int .i64 x.s, .int .i64 x.lo, .int .i64 x.hi, .slice ao x.n hc, .bool x.fu], .pointer (some ⟨B, 0, none⟩)] w fun e w' => e = .returned (.bool (decide (x.seq ≤ s))) ∧ Below w.heap.size w w' := by
  have hb := below_new w (.cells #[.string x.key, .int .i64 x.seq, .int .i64 x.kind, .int .i64 x.c, .int .i64 x.s, .int .i64 x.lo, .int .i64 x.hi, .slice ao x.n hc, .bool x.fu] 62)
  have q1 : (w.alloc (.cells #[.string x.key, .int .i64 x.seq, .int .i64 x.kind, .int .i64 x.c, .int .i64 x.s, .int .i64 x.lo, .int .i64 x.hi, .slice ao x.n hc, .bool x.fu] 62)).cell? ⟨B, 0, none⟩ = some (.int .i64 s) := (hb.cell (p := ⟨B, 0, none⟩) hB).trans hq
  obtain ⟨_, a0, a1, a2, a3, a4, a5, a6, a7, a8⟩ := EAt.new w x ao hc 62
  simp only [Nat.zero_add] at a1
  go_enter Tryz.func101, Tryz.ntmps101
  go_wp2
  go_ret
  exact ⟨rfl, hb⟩

set_option maxHeartbeats 1600000 in
theorem indexLe_any (ao : Option Addr) (n cap B : Nat) (X : Nat → Ent) (s : Int) (w : World) (hr : ERow w ao n X) (hn : n ≤ 1048576) (hq : w.cell? ⟨B, 0, none⟩ = some (.int .i64 s)) (hB : B < w.heap.size) :
    Calls Tryz.prog 151 #[.slice ao n cap, .func (.func 101) #[] #[.pointer (some ⟨B, 0, none⟩)]] w fun e w' => ∃ r : Int, e = .returned (.int .i64 r) ∧ (0 ≤ r ↔ HasLe X n s) ∧ Below w.heap.size w w' := by
  obtain ⟨_, hlies⟩ := hr
  go_enter Tryz.func151, Tryz.ntmps151
  go_wp2
  go_loopw [8] (fun i wr => ∃ k : Nat, k ≤ n ∧ i = .int .i64 k ∧ Hid (∀ i, i < k → ¬ ((X i).seq ≤ s)) ∧ Below w.heap.size w wr) (fun i _ => n - (intOf i).toNat)
  case atStart => exact ⟨0, Nat.zero_le _, rfl, fun i h => by omega, Below.refl _ _⟩
  case round =>
    obtain ⟨k, hk, rfl, HA, hbk⟩ := hrel
    by_cases hlt : k < n
    · obtain ⟨b, off, rfl, hblt, hc⟩ := hlies.resolve_left (by omega)
      obtain ⟨da, dc, ea, _⟩ := hc k hlt
      obtain ⟨_, a0, a1, a2, a3, a4, a5, a6, a7, a8⟩ := ea.keep hbk
      have hcall := allAbove1_any (X k) da dc B s wr ((hbk.cell (p := ⟨B, 0, none⟩) hB).trans hq) (Nat.lt_of_lt_of_le hB hbk.size)
      clear hc hlies ea
      by_cases he : (X k).seq ≤ s
      · have hbq : (decide ((X k).seq ≤ s)) = true := by simp [he]
        have HH : Hid (HasLe X n s) := ⟨k, hlt, he⟩
        rw [hbq] at hcall
        clear he hbq
        go_wp2_with fail
        refine hcall.mono ?_
        rintro e w1 ⟨rfl, hb1⟩
        have bw1 := hbk.trans (hb1.mono hbk.size)
        go_wp2
        refine bodyPost_ret (v := .int .i64 k) (by simp [results, Tryz.results151, go_sem]) rfl ⟨_, rfl, ⟨fun _ => HH.out, fun _ => by omega⟩, bw1⟩
      · have hbq : (decide ((X k).seq ≤ s)) = false := by simp [he]
        have HH : Hid (∀ i, i < k + 1 → ¬ ((X i).seq ≤ s)) := fun i hi => by
          rcases Nat.lt_succ_iff_lt_or_eq.1 hi with h | rfl
          · exact HA.out i h
          · exact he
        rw [hbq] at hcall
        clear he hbq
        go_wp2_with fail
        refine hcall.mono ?_
        rintro e w1 ⟨rfl, hb1⟩
        have bw1 := hbk.trans (hb1.mono hbk.size)
        go_wp2
        go_roundw
        case rel => exact ⟨k + 1, by omega, by go_num, (fun i hi => by have := HH.out i hi; omega), bw1⟩
        case measure => simp [intOf]; omega
    · obtain rfl : k = n := by omega
      have HH : Hid (¬ HasLe X k s) := fun ⟨i, hi, h⟩ => HA.out i hi h
      clear hlies
      go_wp2
      refine bodyPost_ret (v := .int .i64 (-1)) (by simp [results, Tryz.results151, go_sem]) rfl ⟨_, rfl, ⟨fun h => by omega, fun h => absurd h HH.out⟩, hbk⟩

set_option maxHeartbeats 800000 in
theorem allAbove_any (ao : Option Addr) (n cap : Nat) (X : Nat → Ent) (s : Int) (w : World) (hr : ERow w ao n X) (hn : n ≤ 1048576) :
    Calls Tryz.prog 61 #[.slice ao n cap, .int .i64 s] w fun e w' => Ans (¬ HasLe X n s) w e w' := by
  have hb := below_new w (.cells #[.int .i64 s] 3)
  have hI := indexLe_any ao n cap w.heap.size X s (w.alloc (.cells #[.int .i64 s] 3)) (hr.keep hb) hn (by simp [go_sem]) (by simp)
  have hC : Calls Tryz.prog 100 #[.slice ao n cap, .func (.func 101) #[] #[.pointer (some ⟨w.heap.size, 0, none⟩)]] (w.alloc (.cells #[.int .i64 s] 3)) fun e w' => Ans (HasLe X n s) w e w' := by
    go_enter Tryz.func100, Tryz.ntmps100
    go_wp2_with fail
    refine hI.mono ?_
    rintro e w1 ⟨r, rfl, h1, h2⟩
    have bw := hb.trans (h2.mono (by simp))
    have H1 : Hid (0 ≤ r ↔ HasLe X n s) := h1
    clear h1 h2 hI
    go_wp2
    refine bodyPost_ret (v := .bool (decide (0 ≤ r))) (by simp [results, Tryz.results100, go_sem]) rfl (Ans.mk _ (by rw [← H1.out]; simp) bw)
  clear hI
  go_enter Tryz.func61, Tryz.ntmps61
  go_wp2_with fail
  refine hC.mono ?_
  rintro e w1 ⟨b1, rfl, h1, q1⟩
  have H1 : Hid (b1 = true ↔ HasLe X n s) := h1
  clear h1 hC
  go_wp2
  exact bodyPost_ret (v := .bool (!b1)) (by simp [results, Tryz.results61, go_sem]) rfl (Ans.mk _ (by rw [← H1.out]; cases b1 <;> simp) q1)

def HasGt (X : Nat → Ent) (n : Nat) (s : Int) : Prop := ∃ i, i < n ∧ s < (X i).seq

set_option maxHeartbeats 800000 in
theorem noneAbove1_any (x : Ent) (ao : Option Addr) (hc B : Nat) (s : Int) (w : World) (hq : w.cell? ⟨B, 0, none⟩ = some (.int .i64 s)) (hB : B < w.heap.size) :
    Calls Tryz.prog 106 #[.agg #[.string x.key, .int .i64 x.seq, .int .i64 x.kind, .int .i64 x.c, .int .i64 x.s, .int .i64 x.lo, .int .i64 x.hi, .slice ao x.n hc, .bool x.fu], .pointer (some ⟨B, 0, none⟩)] w fun e w' => e = .returned (.bool (decide (s < x.seq))) ∧ Below w.heap.size w w' := by
  have hb := below_new w (.cells #[.string x.key, .int .i64 x.seq, .int .i64 x.kind, .int .i64 x.c, .int .i64 x.s, .int .i64 x.lo, .int .i64 x.hi, .slice ao x.n hc, .bool x.fu] 62)
  have q1 : (w.alloc (.cells #[.string x.key, .int .i64 x.seq, .int .i64 x.kind, .int .i64 x.c, .int .i64 x.s, .int .i64 x.lo, .int .i64 x.hi, .slice ao x.n hc, .bool x.fu] 62)).cell? ⟨B, 0, none⟩ = some (.int .i64 s) := (hb.cell (p := ⟨B, 0, none⟩) hB).trans hq
  obtain ⟨_, a0, a1, a2, a3, a4, a5, a6, a7, a8⟩ := EAt.new w x ao hc 62
  simp only [Nat.zero_add] at a1
  go_enter Tryz.func106, Tryz.ntmps106
  go_wp2
  go_ret
  exact ⟨rfl, hb⟩

set_option maxHeartbeats 1600000 in
theorem indexGt_any (ao : Option Addr) (n cap B : Nat) (X : Nat → Ent) (s : Int) (w : World) (hr : ERow w ao n X) (hn : n ≤ 1048576) (hq : w.cell? ⟨B, 0, none⟩ = some (.int .i64 s)) (hB : B < w.heap.size) :
    Calls Tryz.prog 151 #[.slice ao n cap, .func (.func 106) #[] #[.pointer (some ⟨B, 0, none⟩)]] w fun e w' => ∃ r : Int, e = .returned (.int .i64 r) ∧ (0 ≤ r ↔ HasGt X n s) ∧ Below w.heap.size w w' := by
  obtain ⟨_, hlies⟩ := hr
  go_enter Tryz.func151, Tryz.ntmps151
  go_wp2
  go_loopw [8] (fun i wr => ∃ k : Nat, k ≤ n ∧ i = .int .i64 k ∧ Hid (∀ i, i < k → ¬ (s < (X i).seq)) ∧ Below w.heap.size w wr) (fun i _ => n - (intOf i).toNat)
  case atStart => exact ⟨0, Nat.zero_le _, rfl, fun i h => by omega, Below.refl _ _⟩
  case round =>
    obtain ⟨k, hk, rfl, HA, hbk⟩ := hrel
    by_cases hlt : k < n
    · obtain ⟨b, off, rfl, hblt, hc⟩ := hlies.resolve_left (by omega)
      obtain ⟨da, dc, ea, _⟩ := hc k hlt
      obtain ⟨_, a0, a1, a2, a3, a4, a5, a6, a7, a8⟩ := ea.keep hbk
      have hcall := noneAbove1_any (X k) da dc B s wr ((hbk.cell (p := ⟨B, 0, none⟩) hB).trans hq) (Nat.lt_of_lt_of_le hB hbk.size)
      clear hc hlies ea
      by_cases he : s < (X k).seq
      · have hbq : (decide (s < (X k).seq)) = true := by simp [he]
        have HH : Hid (HasGt X n s) := ⟨k, hlt, he⟩
        rw [hbq] at hcall
        clear he hbq
        go_wp2_with fail
        refine hcall.mono ?_
        rintro e w1 ⟨rfl, hb1⟩
        have bw1 := hbk.trans (hb1.mono hbk.size)
        go_wp2
        refine bodyPost_ret (v := .int .i64 k) (by simp [results, Tryz.results151, go_sem]) rfl ⟨_, rfl, ⟨fun _ => HH.out, fun _ => by omega⟩, bw1⟩
      · have hbq : (decide (s < (X k).seq)) = false := by simp [he]
        have HH : Hid (∀ i, i < k + 1 → ¬ (s < (X i).seq)) := fun i hi => by
          rcases Nat.lt_succ_iff_lt_or_eq.1 hi with h | rfl
          · exact HA.out i h
          · exact he
        rw [hbq] at hcall
        clear he hbq
        go_wp2_with fail
        refine hcall.mono ?_
        rintro e w1 ⟨rfl, hb1⟩
        have bw1 := hbk.trans (hb1.mono hbk.size)
        go_wp2
        go_roundw
        case rel => exact ⟨k + 1, by omega, by go_num, (fun i hi => by have := HH.out i hi; omega), bw1⟩
        case measure => simp [intOf]; omega
    · obtain rfl : k = n := by omega
      have HH : Hid (¬ HasGt X k s) := fun ⟨i, hi, h⟩ => HA.out i hi h
      clear hlies
      go_wp2
      refine bodyPost_ret (v := .int .i64 (-1)) (by simp [results, Tryz.results151, go_sem]) rfl ⟨_, rfl, ⟨fun h => by omega, fun h => absurd h HH.out⟩, hbk⟩

set_option maxHeartbeats 800000 in
theorem noneAbove_any (ao : Option Addr) (n cap : Nat) (X : Nat → Ent) (s : Int) (w : World) (hr : ERow w ao n X) (hn : n ≤ 1048576) :
    Calls Tryz.prog 64 #[.slice ao n cap, .int .i64 s] w fun e w' => Ans (¬ HasGt X n s) w e w' := by
  have hb := below_new w (.cells #[.int .i64 s] 3)
  have hI := indexGt_any ao n cap w.heap.size X s (w.alloc (.cells #[.int .i64 s] 3)) (hr.keep hb) hn (by simp [go_sem]) (by simp)
  have hC : Calls Tryz.prog 100 #[.slice ao n cap, .func (.func 106) #[] #[.pointer (some ⟨w.heap.size, 0, none⟩)]] (w.alloc (.cells #[.int .i64 s] 3)) fun e w' => Ans (HasGt X n s) w e w' := by
    go_enter Tryz.func100, Tryz.ntmps100
    go_wp2_with fail
    refine hI.mono ?_
    rintro e w1 ⟨r, rfl, h1, h2⟩
    have bw := hb.trans (h2.mono (by simp))
    have H1 : Hid (0 ≤ r ↔ HasGt X n s) := h1
    clear h1 h2 hI
    go_wp2
    refine bodyPost_ret (v := .bool (decide (0 ≤ r))) (by simp [results, Tryz.results100, go_sem]) rfl (Ans.mk _ (by rw [← H1.out]; simp) bw)
  clear hI
  go_enter Tryz.func64, Tryz.ntmps64
  go_wp2_with fail
  refine hC.mono ?_
  rintro e w1 ⟨b1, rfl, h1, q1⟩
  have H1 : Hid (b1 = true ↔ HasGt X n s) := h1
  clear h1 hC
  go_wp2
  exact bodyPost_ret (v := .bool (!b1)) (by simp [results, Tryz.results64, go_sem]) rfl (Ans.mk _ (by rw [← H1.out]; cases b1 <;> simp) q1)
end Go.Proofs.YtapmbgmmonhdoaaGreatDoor
