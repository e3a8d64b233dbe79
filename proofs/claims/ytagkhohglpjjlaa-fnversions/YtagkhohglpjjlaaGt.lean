/- Versions that are good: the model's text. -/
import Derived.Test.YtagkhohglpjjlaaCl
import Derived.Deep.RegionWith
namespace Go.Proofs.Ytagkhohglpjjlaa
open Go.RowKit
set_option linter.unusedSimpArgs false
set_option linter.unusedVariables false

theorem MAt.z {w : World} {b : Nat} {x : Met} (h : MAt w b 0 x) : b < w.heap.size ∧ w.cell? ⟨b, 0, none⟩ = some (.int .i64 x.file) ∧ w.cell? ⟨b, 1, none⟩ = some (.string x.least) ∧ w.cell? ⟨b, 2, none⟩ = some (.string x.most) ∧ w.cell? ⟨b, 3, none⟩ = some (.int .i64 x.many) := ⟨h.lt, h.c0, h.c1, h.c2, h.c3⟩
/-- What has been seen of a level up to its q-th. -/
def LvTo (R : Nat → Nat → Met) (k q : Nat) : Prop := (∀ j, j < q → gm (R k j) = true) ∧ (0 < k → ∀ j, j + 1 < q → Op.bytesLess (R k j).most.toList (R k (j + 1)).least.toList = true)
theorem GoodVP.at {nx lg sq : Int} {N k q : Nat} {R : Nat → Nat → Met} {M : Nat → Nat} (h : GoodVP nx lg sq N R M) (hk : k < N) (hq : q < M k) :
    gm (R k q) = true ∧ (R k q).file < nx ∧ (R k q).file ≠ lg ∧ (R k q).file ∉ flsR R M k ++ fls (R k) q ∧ (0 < k → ∀ j, j + 1 = q → Op.bytesLess (R k j).most.toList (R k q).least.toList = true) := by
  obtain ⟨_, _, _, _, hl, hf⟩ := h
  have hp := hf.pre (flsR_at R M hk hq)
  have hm := hp.1 (R k q).file (by simp)
  refine ⟨(hl.2 k hk).1.2 q hq, hm.1, hm.2, fun hx => ?_, fun h0 j hj => ?_⟩
  · have := (List.nodup_append.1 hp.2).2.2 _ hx _ (List.mem_singleton.2 rfl)
    exact this rfl
  · subst hj
    exact (hl.2 k hk).2 h0 j hq

set_option maxRecDepth 100000 in
set_option maxHeartbeats 8000000 in
theorem goodVersion_spec (nx lg sq : Int) (ao : Option Addr) (N cap : Nat) (R : Nat → Nat → Met) (M : Nat → Nat) (w : World) (hr : VRow w ao N R M) (hN : N ≤ 1048576) (hM : sumM M N ≤ 1048576) (hnx : -9223372036854775808 ≤ nx ∧ nx ≤ 9223372036854775807) :
    Calls Try.prog 17 #[.agg #[.int .i64 nx, .int .i64 lg, .int .i64 sq, .slice ao N cap]] w fun e w' => Ans (GoodVP nx lg sq N R M) w e w' := by
  have bn0 := below_new w (.cells #[.int .i64 nx, .int .i64 lg, .int .i64 sq, .slice ao N cap] 25)
  have hr0 := hr.keep bn0
  have hx : (w.alloc (.cells #[.int .i64 nx, .int .i64 lg, .int .i64 sq, .slice ao N cap] 25)).cell? ⟨w.heap.size, 0, none⟩ = some (.int .i64 nx) ∧ (w.alloc (.cells #[.int .i64 nx, .int .i64 lg, .int .i64 sq, .slice ao N cap] 25)).cell? ⟨w.heap.size, 1, none⟩ = some (.int .i64 lg) ∧ w.heap.size < (w.alloc (.cells #[.int .i64 nx, .int .i64 lg, .int .i64 sq, .slice ao N cap] 25)).heap.size := by
    refine ⟨?_, ?_, ?_⟩ <;> simp [go_sem]
  go_enter Try.func17, Try.ntmps17
  go_wp2_with fail
  refine (l9File_any nx _).mono ?_
  rintro e w1 ⟨rfl, rfl⟩
  cases h1 : fN nx
  · have H : Hid (¬ GoodVP nx lg sq N R M) := fun h => by have := h.1; rw [h1] at this; cases this
    go_wp2
    go_ret
    exact Ans.mk false (by have := H.out; simp [this]) bn0
  have hnb : 1 ≤ nx ∧ nx ≤ 100000 := by simpa [fN, btw] using h1
  have hw : IntKind.i64.wrap (nx - 1) = nx - 1 := by rw [IntKind.wrap_i64] <;> omega
  go_wp2_with fail
  refine (l1In_any lg 1 (nx - 1) _).mono ?_
  rintro e w1 ⟨rfl, rfl⟩
  cases h2 : btw 1 lg (nx - 1)
  · have H : Hid (¬ GoodVP nx lg sq N R M) := fun h => by
      have h3 : ¬ (1 ≤ lg ∧ lg ≤ nx - 1) := by simpa [btw] using h2
      exact h3 ⟨h.2.1, by have := h.2.2.1; omega⟩
    go_wp2
    go_ret
    exact Ans.mk false (by have := H.out; simp [this]) bn0
  have hlb : 1 ≤ lg ∧ lg ≤ nx - 1 := by simpa [btw] using h2
  go_wp2_with fail
  refine (l1In_any sq 0 1000000000 _).mono ?_
  rintro e w1 ⟨rfl, rfl⟩
  have he : btw 0 sq 1000000000 = isC sq := rfl
  rw [he]
  clear he
  cases h4 : isC sq
  · have H : Hid (¬ GoodVP nx lg sq N R M) := fun h => by have := h.2.2.2.1; rw [h4] at this; cases this
    go_wp2
    go_ret
    exact Ans.mk false (by have := H.out; simp [this]) bn0
  by_cases h5 : N = 3
  rotate_left
  · have H : Hid (¬ GoodVP nx lg sq N R M) := fun h => h5 h.2.2.2.2.1.1
    have hd : ((N : Int) == 3) = false := beq_eq_false_iff_ne.2 (by omega)
    clear h5
    go_wp2
    go_ret
    exact Ans.mk false (by have := H.out; simp [this]) bn0
  have HD : Hid (nx = nx ∧ fN nx = true ∧ 1 ≤ lg ∧ lg < nx ∧ isC sq = true ∧ N = 3) := ⟨rfl, h1, hlb.1, by omega, h4, h5⟩
  have hd : ((N : Int) == 3) = true := beq_iff_eq.2 (by omega)
  have hdn : ((N : Int) != 3) = false := by rw [bne, hd]; rfl
  clear h5 hnb hlb hw h1 h2 h4
  obtain ⟨hbd, hlen, hlies⟩ := hr0
  have HB : Hid (∀ k, k < N → ∀ q, q < M k → MB (R k q)) := hbd
  clear hbd hlen hr hnx
  obtain ⟨x0, x1, hvl⟩ := hx
  go_wp2
  generalize w.alloc (.cells #[.int .i64 nx, .int .i64 lg, .int .i64 sq, .slice ao N cap] 25) = w0 at *
  go_loopw [3, 38] (fun v i wr => ∃ k : Nat, k ≤ N ∧ i = .int .i64 k ∧ OwnI wr w0.heap.size v (flsR R M k) ∧ Hid ((∀ i, i < k → GoodMs (R i) (M i) ∧ (0 < i → Apart (R i) (M i))) ∧ Fits nx lg (flsR R M k)) ∧ Below w0.heap.size w0 wr) (fun _ i _ => N - (intOf i).toNat)
  case atStart => exact ⟨0, Nat.zero_le _, rfl, ownI_nil _ _, ⟨fun i h => by omega, fits_nil _ _⟩, Below.refl _ _⟩
  case round =>
    obtain ⟨k, hk, rfl, hO, HG, hbk⟩ := hrel
    by_cases hlt : k < N
    rotate_left
    · obtain rfl : k = N := by omega
      have H : Hid (GoodVP nx lg sq k R M) := by
        obtain ⟨_, g1, g2, g3, g4, g5⟩ := HD.out
        exact ⟨g1, g2, g3, g4, ⟨g5, HG.out.1⟩, HG.out.2⟩
      have bw := bn0.trans (hbk.mono bn0.size)
      clear HG HD hO
      go_wp2
      go_ret
      exact Ans.mk true (by have := H.out; simp [this]) bw
    obtain ⟨b, off, rfl, hblt, hc⟩ := hlies.resolve_left (by omega)
    obtain ⟨da, dc, ea, er⟩ := hc k hlt
    have a0 := (hbk.cell (p := ⟨b, off + k, none⟩) hblt).trans ea
    have hsk := sumM_mono (M := M) (show k + 1 ≤ N by omega)
    have hse : sumM M (k + 1) = sumM M k + M k := rfl
    have hmk : sumM M k + M k ≤ 1048576 := by omega
    have hln := flsR_len R M k
    obtain ⟨_, hel⟩ := er
    clear hc hlies ea hse hsk
    by_cases h12 : 12 < M k
    · have H : Hid (¬ GoodVP nx lg sq N R M) := fun h => by have := (h.2.2.2.2.1.2 k hlt).1.1; omega
      have hd1 : decide ((12 : Int) < (M k : Int)) = true := decide_eq_true (by omega)
      have bw := bn0.trans (hbk.mono bn0.size)
      clear HG HD hO hel
      go_wp2
      go_ret
      exact Ans.mk false (by have := H.out; simp [this]) bw
    have hd1 : decide ((12 : Int) < (M k : Int)) = false := decide_eq_false (by omega)
    go_wp2
    go_loopw [3, 48] (fun v i W => ∃ q : Nat, q ≤ M k ∧ i = .int .i64 q ∧ OwnI W w0.heap.size v (flsR R M k ++ fls (R k) q) ∧ Hid (LvTo R k q ∧ Fits nx lg (flsR R M k ++ fls (R k) q)) ∧ Below w0.heap.size w0 W) (fun _ i _ => M k - (intOf i).toNat)
    case atStart => exact ⟨0, Nat.zero_le _, rfl, by simpa [fls] using hO, ⟨⟨fun j h => by omega, fun _ j h => by omega⟩, by simpa [fls] using HG.out.2⟩, hbk⟩
    case round =>
      obtain ⟨q, hq, rfl, hOq, HQ, hbq⟩ := hrel
      by_cases hql : q < M k
      rotate_left
      · obtain rfl : q = M k := by omega
        have HG2 : Hid ((∀ i, i < k + 1 → GoodMs (R i) (M i) ∧ (0 < i → Apart (R i) (M i))) ∧ Fits nx lg (flsR R M (k + 1))) := ⟨fun i hi => by
          rcases Nat.lt_succ_iff_lt_or_eq.1 hi with h | rfl
          · exact HG.out.1 i h
          · exact ⟨⟨by omega, HQ.out.1.1⟩, fun h0 j hj => HQ.out.1.2 h0 j hj⟩, HQ.out.2⟩
        clear HG HQ hO hel
        go_wp2
        go_roundw
        case rel => exact ⟨k + 1, by omega, by go_num, hOq, HG2, hbq⟩
        case measure => simp [intOf]; omega
      obtain ⟨b2, off2, rfl, hblt2, hc2⟩ := hel.resolve_left (by omega)
      have eq0 := (hc2 q hql).keep hbq
      obtain ⟨_, y0, y1, y2, y3⟩ := id eq0
      obtain ⟨W1, hW1⟩ : ∃ W1, W1 = wr.alloc (.cells #[.int .i64 (R k q).file, .string (R k q).least, .string (R k q).most, .int .i64 (R k q).many] 52) := ⟨_, rfl⟩
      have N1 : MAt W1 wr.heap.size 0 (R k q) := by rw [hW1]; exact MAt.new wr (R k q) 52
      have B1 : Below wr.heap.size wr W1 := by rw [hW1]; exact below_new _ _
      have bw1 := hbq.trans (B1.mono hbq.size)
      have hO1 := hOq.keep B1
      have hfb := (HB.out k hlt q hql).file
      have hlq : (flsR R M k ++ fls (R k) q).length ≤ 1048576 := by rw [List.length_append, hln, fls_len]; omega
      have HES : Hid (flsR R M k ++ fls (R k) (q + 1) = (flsR R M k ++ fls (R k) q) ++ [(R k q).file]) := by simp [Hid, fls]
      have HAT : Hid (GoodVP nx lg sq N R M → gm (R k q) = true ∧ (R k q).file < nx ∧ (R k q).file ≠ lg ∧ (R k q).file ∉ flsR R M k ++ fls (R k) q ∧ (0 < k → ∀ j, j + 1 = q → Op.bytesLess (R k j).most.toList (R k q).least.toList = true)) := fun h => h.at hlt hql
      have v0 := (bw1.cell (p := ⟨w.heap.size, 0, none⟩) hvl).trans x0
      have v1 := (bw1.cell (p := ⟨w.heap.size, 1, none⟩) hvl).trans x1
      have hvl1 : w.heap.size < W1.heap.size := Nat.lt_of_lt_of_le hvl bw1.size
      obtain ⟨so, sc, rfl, hsc, hS1⟩ := hO1.form
      generalize flsR R M k ++ fls (R k) q = L at *
      have hcall := fun W => l9Meta_any (R k q) W
      obtain ⟨lx, m0, m1, m2, m3⟩ := N1.z
      obtain ⟨Idx, hne, F, hFb, hFc, hF0⟩ := class_of W1
      have g0 : ∀ n, (F n).cell? ⟨wr.heap.size, 0, none⟩ = some (.int .i64 (R k q).file) := fun n => ((hFb n).cell (p := ⟨wr.heap.size, 0, none⟩) lx).trans m0
      have g1 : ∀ n, (F n).cell? ⟨wr.heap.size, 1, none⟩ = some (.string (R k q).least) := fun n => ((hFb n).cell (p := ⟨wr.heap.size, 1, none⟩) lx).trans m1
      have g2 : ∀ n, (F n).cell? ⟨wr.heap.size, 2, none⟩ = some (.string (R k q).most) := fun n => ((hFb n).cell (p := ⟨wr.heap.size, 2, none⟩) lx).trans m2
      have g3 : ∀ n, (F n).cell? ⟨wr.heap.size, 3, none⟩ = some (.int .i64 (R k q).many) := fun n => ((hFb n).cell (p := ⟨wr.heap.size, 3, none⟩) lx).trans m3
      have g4 : ∀ n, (F n).cell? ⟨w.heap.size, 0, none⟩ = some (.int .i64 nx) := fun n => ((hFb n).cell (p := ⟨w.heap.size, 0, none⟩) hvl1).trans v0
      have g5 : ∀ n, (F n).cell? ⟨w.heap.size, 1, none⟩ = some (.int .i64 lg) := fun n => ((hFb n).cell (p := ⟨w.heap.size, 1, none⟩) hvl1).trans v1
      cases hg : gm (R k q)
      · have H : Hid (¬ GoodVP nx lg sq N R M) := fun h => by have := (HAT.out h).1; rw [hg] at this; cases this
        rw [hg] at hcall
        clear HD HQ HG HAT hO hel hc2 hOq eq0
        go_wp2
        rw [← hW1]
        clear hW1
        refine region_class F hF0 (by kernel_rfl) (by kernel_rfl) ?_
        repeat (go_big_quiet_step ((go_at_call 43; exact (hcall _).mono fun e w' h => ⟨h.1, hFc _ w' h.2⟩)))
        refine wpQuiet_nil ?_
        rintro _ ⟨n6, rfl⟩
        obtain ⟨w6, hw6⟩ : ∃ w6, w6 = F n6 := ⟨_, rfl⟩
        have q6' : Below W1.heap.size W1 w6 := by rw [hw6]; exact hFb n6
        rw [← hw6]
        clear hw6 hFb hFc hF0 g0 g1 g2 g3 g4 g5
        have N6 := N1.keep q6'
        obtain ⟨lp, p0, p1, p2, p3⟩ := N6.z
        have bw6 := bw1.trans (q6'.mono bw1.size)
        have hO6 := hO1.keep q6'
        have hS6 := hS1.keep q6'
        have s0 := (q6'.cell (p := ⟨w.heap.size, 0, none⟩) hvl1).trans v0
        have s1 := (q6'.cell (p := ⟨w.heap.size, 1, none⟩) hvl1).trans v1
        clear q6'
        have bwf := bn0.trans (bw6.mono bn0.size)
        go_wp2
        go_ret
        exact Ans.mk false (by have := H.out; simp [this]) bwf
      rw [hg] at hcall
      by_cases hf1 : nx ≤ (R k q).file
      · have H : Hid (¬ GoodVP nx lg sq N R M) := fun h => by have := (HAT.out h).2.1; omega
        clear HD HQ HG HAT hO hel hc2 hOq eq0
        go_wp2
        rw [← hW1]
        clear hW1
        refine region_class F hF0 (by kernel_rfl) (by kernel_rfl) ?_
        repeat (go_big_quiet_step ((go_at_call 43; exact (hcall _).mono fun e w' h => ⟨h.1, hFc _ w' h.2⟩)))
        refine wpQuiet_nil ?_
        rintro _ ⟨n6, rfl⟩
        obtain ⟨w6, hw6⟩ : ∃ w6, w6 = F n6 := ⟨_, rfl⟩
        have q6' : Below W1.heap.size W1 w6 := by rw [hw6]; exact hFb n6
        rw [← hw6]
        clear hw6 hFb hFc hF0 g0 g1 g2 g3 g4 g5
        have N6 := N1.keep q6'
        obtain ⟨lp, p0, p1, p2, p3⟩ := N6.z
        have bw6 := bw1.trans (q6'.mono bw1.size)
        have hO6 := hO1.keep q6'
        have hS6 := hS1.keep q6'
        have s0 := (q6'.cell (p := ⟨w.heap.size, 0, none⟩) hvl1).trans v0
        have s1 := (q6'.cell (p := ⟨w.heap.size, 1, none⟩) hvl1).trans v1
        clear q6'
        have bwf := bn0.trans (bw6.mono bn0.size)
        go_wp2
        go_ret
        exact Ans.mk false (by have := H.out; simp [this]) bwf
      have hfd1 : decide (nx ≤ (R k q).file) = false := decide_eq_false hf1
      have hfd2 : decide ((R k q).file < nx) = true := decide_eq_true (by omega)
      have hfx1 : (R k q).file < nx := by omega
      by_cases hf2 : (R k q).file = lg
      · have H : Hid (¬ GoodVP nx lg sq N R M) := fun h => (HAT.out h).2.2.1 hf2
        have hf3 : ((R k q).file == lg) = true := by simpa using hf2
        clear hf2
        clear HD HQ HG HAT hO hel hc2 hOq eq0
        go_wp2
        rw [← hW1]
        clear hW1
        refine region_class F hF0 (by kernel_rfl) (by kernel_rfl) ?_
        repeat (go_big_quiet_step ((go_at_call 43; exact (hcall _).mono fun e w' h => ⟨h.1, hFc _ w' h.2⟩)))
        refine wpQuiet_nil ?_
        rintro _ ⟨n6, rfl⟩
        obtain ⟨w6, hw6⟩ : ∃ w6, w6 = F n6 := ⟨_, rfl⟩
        have q6' : Below W1.heap.size W1 w6 := by rw [hw6]; exact hFb n6
        rw [← hw6]
        clear hw6 hFb hFc hF0 g0 g1 g2 g3 g4 g5
        have N6 := N1.keep q6'
        obtain ⟨lp, p0, p1, p2, p3⟩ := N6.z
        have bw6 := bw1.trans (q6'.mono bw1.size)
        have hO6 := hO1.keep q6'
        have hS6 := hS1.keep q6'
        have s0 := (q6'.cell (p := ⟨w.heap.size, 0, none⟩) hvl1).trans v0
        have s1 := (q6'.cell (p := ⟨w.heap.size, 1, none⟩) hvl1).trans v1
        clear q6'
        have bwf := bn0.trans (bw6.mono bn0.size)
        go_wp2
        go_ret
        exact Ans.mk false (by have := H.out; simp [this]) bwf
      have hf3 : ((R k q).file == lg) = false := by simpa using hf2
      have HFX2 : Hid ((R k q).file ≠ lg) := hf2
      clear hf2
      by_cases hk0 : 0 < k
      rotate_left
      · have hkd : decide ((0 : Int) < (k : Int)) = false := decide_eq_false (by omega); have hkd2 : decide (0 < k) = false := decide_eq_false (by omega)
        have HLV : Hid (LvTo R k q → LvTo R k (q + 1)) := fun h => ⟨fun j hj => by
          rcases Nat.lt_succ_iff_lt_or_eq.1 hj with h1 | rfl
          · exact h.1 j h1
          · exact hg, fun h0 => absurd h0 hk0⟩
        clear HD HG hO hel hc2 hOq eq0
        go_wp2
        rw [← hW1]
        clear hW1
        refine region_class F hF0 (by kernel_rfl) (by kernel_rfl) ?_
        repeat (go_big_quiet_step ((go_at_call 43; exact (hcall _).mono fun e w' h => ⟨h.1, hFc _ w' h.2⟩)))
        refine wpQuiet_nil ?_
        rintro _ ⟨n6, rfl⟩
        obtain ⟨w6, hw6⟩ : ∃ w6, w6 = F n6 := ⟨_, rfl⟩
        have q6' : Below W1.heap.size W1 w6 := by rw [hw6]; exact hFb n6
        rw [← hw6]
        clear hw6 hFb hFc hF0 g0 g1 g2 g3 g4 g5
        have N6 := N1.keep q6'
        obtain ⟨lp, p0, p1, p2, p3⟩ := N6.z
        have bw6 := bw1.trans (q6'.mono bw1.size)
        have hO6 := hO1.keep q6'
        have hS6 := hS1.keep q6'
        have s0 := (q6'.cell (p := ⟨w.heap.size, 0, none⟩) hvl1).trans v0
        have s1 := (q6'.cell (p := ⟨w.heap.size, 1, none⟩) hvl1).trans v1
        clear q6'
        clear N6 hcall hg
        obtain ⟨_, hSl⟩ := hS6
        go_wp2
        go_loopw [91] (fun i W => ∃ r : Nat, r ≤ L.length ∧ i = .int .i64 r ∧ Hid (∀ j, j < r → fi L j ≠ (R k q).file) ∧ W = w6) (fun i _ => L.length - (intOf i).toNat)
        case atStart => exact ⟨0, Nat.zero_le _, rfl, fun j h => by omega, rfl⟩
        case round =>
          obtain ⟨r, hr2, rfl, HR, hW⟩ := hrel
          have hW2 := hW.symm
          clear hW
          subst hW2
          by_cases hrl : r < L.length
          · obtain ⟨bs, os, rfl, hbs, hc⟩ := hSl.resolve_left (by omega)
            have c1 := hc r hrl
            clear hc hSl
            by_cases hee : fi L r = (R k q).file
            · have H : Hid (¬ GoodVP nx lg sq N R M) := fun h => (HAT.out h).2.2.2.1 (hee ▸ fi_mem hrl)
              have heb : (fi L r == (R k q).file) = true := by simp [hee]
              have bwf := bn0.trans (bw6.mono bn0.size)
              clear hee HR HQ HAT
              go_wp2
              go_ret
              exact Ans.mk false (by have := H.out; simp [this]) bwf
            · have heb : (fi L r == (R k q).file) = false := by simpa using hee
              have HR2 : Hid (∀ j, j < r + 1 → fi L j ≠ (R k q).file) := fun j hj => by
                rcases Nat.lt_succ_iff_lt_or_eq.1 hj with h | rfl
                · exact HR.out j h
                · exact hee
              clear hee HR
              go_wp2
              go_roundw
              case rel => exact ⟨r + 1, by omega, by go_num, HR2, by trivial⟩
              case measure => simp [intOf]; omega
          · obtain rfl : r = L.length := by omega
            have HQ2 : Hid (LvTo R k (q + 1) ∧ Fits nx lg (L ++ [(R k q).file])) := ⟨HLV.out HQ.out.1, HQ.out.2.push hfx1 HFX2.out (fun hx => by
              obtain ⟨i, hi, e⟩ := List.getElem_of_mem hx
              exact HR.out i hi (by simpa [fi, hi] using e))⟩
            clear HR HQ hSl HAT HLV
            have sz6 := bw6.size
            go_wp2_with (at_builtin; refine wpList_pushI2 rfl (.tmp 100) (.tmp 103) rfl w0.heap.size _ _ L (R k q).file rfl hO6 hfb rfl (by simp) hlq sz6 ?_; intro v8 w8 hO8 hg8)
            have bw8 : Below w0.heap.size w0 w8 := (hO6.keep (below_new _ _)).below (bw6.alloc sz6 _) hg8 (Nat.le_refl _) (Nat.le_trans sz6 (by simp))
            go_roundw
            case rel => exact ⟨q + 1, by omega, by go_num, by rw [HES.out]; exact hO8, by rw [HES.out]; exact HQ2, bw8⟩
            case measure => simp [intOf]; omega
      have hkd : decide ((0 : Int) < (k : Int)) = true := decide_eq_true (by omega); have hkd2 : decide (0 < k) = true := decide_eq_true (by omega)
      by_cases hq0 : 0 < q
      rotate_left
      · have hqd : decide ((0 : Int) < (q : Int)) = false := decide_eq_false (by omega); have hqd2 : decide (0 < q) = false := decide_eq_false (by omega)
        have HLV : Hid (LvTo R k q → LvTo R k (q + 1)) := fun h => ⟨fun j hj => by
          rcases Nat.lt_succ_iff_lt_or_eq.1 hj with h1 | rfl
          · exact h.1 j h1
          · exact hg, fun _ j hj => by omega⟩
        clear HD HG hO hel hc2 hOq eq0
        go_wp2
        rw [← hW1]
        clear hW1
        refine region_class F hF0 (by kernel_rfl) (by kernel_rfl) ?_
        repeat (go_big_quiet_step ((go_at_call 43; exact (hcall _).mono fun e w' h => ⟨h.1, hFc _ w' h.2⟩)))
        refine wpQuiet_nil ?_
        rintro _ ⟨n6, rfl⟩
        obtain ⟨w6, hw6⟩ : ∃ w6, w6 = F n6 := ⟨_, rfl⟩
        have q6' : Below W1.heap.size W1 w6 := by rw [hw6]; exact hFb n6
        rw [← hw6]
        clear hw6 hFb hFc hF0 g0 g1 g2 g3 g4 g5
        have N6 := N1.keep q6'
        obtain ⟨lp, p0, p1, p2, p3⟩ := N6.z
        have bw6 := bw1.trans (q6'.mono bw1.size)
        have hO6 := hO1.keep q6'
        have hS6 := hS1.keep q6'
        have s0 := (q6'.cell (p := ⟨w.heap.size, 0, none⟩) hvl1).trans v0
        have s1 := (q6'.cell (p := ⟨w.heap.size, 1, none⟩) hvl1).trans v1
        clear q6'
        clear N6 hcall hg
        obtain ⟨_, hSl⟩ := hS6
        go_wp2
        go_loopw [91] (fun i W => ∃ r : Nat, r ≤ L.length ∧ i = .int .i64 r ∧ Hid (∀ j, j < r → fi L j ≠ (R k q).file) ∧ W = w6) (fun i _ => L.length - (intOf i).toNat)
        case atStart => exact ⟨0, Nat.zero_le _, rfl, fun j h => by omega, rfl⟩
        case round =>
          obtain ⟨r, hr2, rfl, HR, hW⟩ := hrel
          have hW2 := hW.symm
          clear hW
          subst hW2
          by_cases hrl : r < L.length
          · obtain ⟨bs, os, rfl, hbs, hc⟩ := hSl.resolve_left (by omega)
            have c1 := hc r hrl
            clear hc hSl
            by_cases hee : fi L r = (R k q).file
            · have H : Hid (¬ GoodVP nx lg sq N R M) := fun h => (HAT.out h).2.2.2.1 (hee ▸ fi_mem hrl)
              have heb : (fi L r == (R k q).file) = true := by simp [hee]
              have bwf := bn0.trans (bw6.mono bn0.size)
              clear hee HR HQ HAT
              go_wp2
              go_ret
              exact Ans.mk false (by have := H.out; simp [this]) bwf
            · have heb : (fi L r == (R k q).file) = false := by simpa using hee
              have HR2 : Hid (∀ j, j < r + 1 → fi L j ≠ (R k q).file) := fun j hj => by
                rcases Nat.lt_succ_iff_lt_or_eq.1 hj with h | rfl
                · exact HR.out j h
                · exact hee
              clear hee HR
              go_wp2
              go_roundw
              case rel => exact ⟨r + 1, by omega, by go_num, HR2, by trivial⟩
              case measure => simp [intOf]; omega
          · obtain rfl : r = L.length := by omega
            have HQ2 : Hid (LvTo R k (q + 1) ∧ Fits nx lg (L ++ [(R k q).file])) := ⟨HLV.out HQ.out.1, HQ.out.2.push hfx1 HFX2.out (fun hx => by
              obtain ⟨i, hi, e⟩ := List.getElem_of_mem hx
              exact HR.out i hi (by simpa [fi, hi] using e))⟩
            clear HR HQ hSl HAT HLV
            have sz6 := bw6.size
            go_wp2_with (at_builtin; refine wpList_pushI2 rfl (.tmp 100) (.tmp 103) rfl w0.heap.size _ _ L (R k q).file rfl hO6 hfb rfl (by simp) hlq sz6 ?_; intro v8 w8 hO8 hg8)
            have bw8 : Below w0.heap.size w0 w8 := (hO6.keep (below_new _ _)).below (bw6.alloc sz6 _) hg8 (Nat.le_refl _) (Nat.le_trans sz6 (by simp))
            go_roundw
            case rel => exact ⟨q + 1, by omega, by go_num, by rw [HES.out]; exact hO8, by rw [HES.out]; exact HQ2, bw8⟩
            case measure => simp [intOf]; omega
      have hqd : decide ((0 : Int) < (q : Int)) = true := decide_eq_true (by omega); have hqd2 : decide (0 < q) = true := decide_eq_true (by omega)
      obtain ⟨j, hj⟩ : ∃ j, q = j + 1 := ⟨q - 1, by omega⟩
      have ej := (hc2 j (by omega)).keep hbq
      have ej1 := ej.keep B1
      have g6 : ∀ n, (F n).cell? ⟨b2, off2 + j * 4 + 2, none⟩ = some (.string (R k j).most) := fun n => ((hFb n).cell (p := ⟨b2, off2 + j * 4 + 2, none⟩) ej1.lt).trans ej1.c2
      have HJ : Hid (q = j + 1) := hj
      have hjw : IntKind.i64.wrap ((q : Int) - 1) = (j : Int) := by rw [IntKind.wrap_i64] <;> omega
      have hj0 : (0 : Int) ≤ (j : Int) := by omega
      have hj1 : (j : Int) < (M k : Int) := by omega
      clear hj
      cases hbl : Op.bytesLess (R k j).most.toList (R k q).least.toList
      · have H : Hid (¬ GoodVP nx lg sq N R M) := fun h => by have := (HAT.out h).2.2.2.2 hk0 j HJ.out.symm; rw [hbl] at this; cases this
        clear HD HQ HG HAT hO hel hc2 hOq eq0
        go_wp2
        rw [← hW1]
        clear hW1
        refine region_class F hF0 (by kernel_rfl) (by kernel_rfl) ?_
        repeat (go_big_quiet_step ((go_at_call 43; exact (hcall _).mono fun e w' h => ⟨h.1, hFc _ w' h.2⟩)))
        refine wpQuiet_nil ?_
        rintro _ ⟨n6, rfl⟩
        obtain ⟨w6, hw6⟩ : ∃ w6, w6 = F n6 := ⟨_, rfl⟩
        have q6' : Below W1.heap.size W1 w6 := by rw [hw6]; exact hFb n6
        rw [← hw6]
        clear hw6 hFb hFc hF0 g0 g1 g2 g3 g4 g5 g6
        have N6 := N1.keep q6'
        obtain ⟨lp, p0, p1, p2, p3⟩ := N6.z
        have bw6 := bw1.trans (q6'.mono bw1.size)
        have hO6 := hO1.keep q6'
        have hS6 := hS1.keep q6'
        have s0 := (q6'.cell (p := ⟨w.heap.size, 0, none⟩) hvl1).trans v0
        have s1 := (q6'.cell (p := ⟨w.heap.size, 1, none⟩) hvl1).trans v1
        clear q6'
        have bwf := bn0.trans (bw6.mono bn0.size)
        go_wp2
        go_ret
        exact Ans.mk false (by have := H.out; simp [this]) bwf
      · have HLV : Hid (LvTo R k q → LvTo R k (q + 1)) := fun h => ⟨fun j hj => by
          rcases Nat.lt_succ_iff_lt_or_eq.1 hj with h1 | rfl
          · exact h.1 j h1
          · exact hg, fun h0 i hi => by
          by_cases e : i + 1 = q
          · obtain rfl : i = j := by have := HJ.out; omega
            rw [e]; exact hbl
          · exact h.2 h0 i (by omega)⟩
        clear HD HG hO hel hc2 hOq eq0
        go_wp2
        rw [← hW1]
        clear hW1
        refine region_class F hF0 (by kernel_rfl) (by kernel_rfl) ?_
        repeat (go_big_quiet_step ((go_at_call 43; exact (hcall _).mono fun e w' h => ⟨h.1, hFc _ w' h.2⟩)))
        refine wpQuiet_nil ?_
        rintro _ ⟨n6, rfl⟩
        obtain ⟨w6, hw6⟩ : ∃ w6, w6 = F n6 := ⟨_, rfl⟩
        have q6' : Below W1.heap.size W1 w6 := by rw [hw6]; exact hFb n6
        rw [← hw6]
        clear hw6 hFb hFc hF0 g0 g1 g2 g3 g4 g5 g6
        have N6 := N1.keep q6'
        obtain ⟨lp, p0, p1, p2, p3⟩ := N6.z
        have bw6 := bw1.trans (q6'.mono bw1.size)
        have hO6 := hO1.keep q6'
        have hS6 := hS1.keep q6'
        have s0 := (q6'.cell (p := ⟨w.heap.size, 0, none⟩) hvl1).trans v0
        have s1 := (q6'.cell (p := ⟨w.heap.size, 1, none⟩) hvl1).trans v1
        clear q6'
        clear N6 hcall hg
        obtain ⟨_, hSl⟩ := hS6
        go_wp2
        go_loopw [91] (fun i W => ∃ r : Nat, r ≤ L.length ∧ i = .int .i64 r ∧ Hid (∀ j, j < r → fi L j ≠ (R k q).file) ∧ W = w6) (fun i _ => L.length - (intOf i).toNat)
        case atStart => exact ⟨0, Nat.zero_le _, rfl, fun j h => by omega, rfl⟩
        case round =>
          obtain ⟨r, hr2, rfl, HR, hW⟩ := hrel
          have hW2 := hW.symm
          clear hW
          subst hW2
          by_cases hrl : r < L.length
          · obtain ⟨bs, os, rfl, hbs, hc⟩ := hSl.resolve_left (by omega)
            have c1 := hc r hrl
            clear hc hSl
            by_cases hee : fi L r = (R k q).file
            · have H : Hid (¬ GoodVP nx lg sq N R M) := fun h => (HAT.out h).2.2.2.1 (hee ▸ fi_mem hrl)
              have heb : (fi L r == (R k q).file) = true := by simp [hee]
              have bwf := bn0.trans (bw6.mono bn0.size)
              clear hee HR HQ HAT
              go_wp2
              go_ret
              exact Ans.mk false (by have := H.out; simp [this]) bwf
            · have heb : (fi L r == (R k q).file) = false := by simpa using hee
              have HR2 : Hid (∀ j, j < r + 1 → fi L j ≠ (R k q).file) := fun j hj => by
                rcases Nat.lt_succ_iff_lt_or_eq.1 hj with h | rfl
                · exact HR.out j h
                · exact hee
              clear hee HR
              go_wp2
              go_roundw
              case rel => exact ⟨r + 1, by omega, by go_num, HR2, by trivial⟩
              case measure => simp [intOf]; omega
          · obtain rfl : r = L.length := by omega
            have HQ2 : Hid (LvTo R k (q + 1) ∧ Fits nx lg (L ++ [(R k q).file])) := ⟨HLV.out HQ.out.1, HQ.out.2.push hfx1 HFX2.out (fun hx => by
              obtain ⟨i, hi, e⟩ := List.getElem_of_mem hx
              exact HR.out i hi (by simpa [fi, hi] using e))⟩
            clear HR HQ hSl HAT HLV
            have sz6 := bw6.size
            go_wp2_with (at_builtin; refine wpList_pushI2 rfl (.tmp 100) (.tmp 103) rfl w0.heap.size _ _ L (R k q).file rfl hO6 hfb rfl (by simp) hlq sz6 ?_; intro v8 w8 hO8 hg8)
            have bw8 : Below w0.heap.size w0 w8 := (hO6.keep (below_new _ _)).below (bw6.alloc sz6 _) hg8 (Nat.le_refl _) (Nat.le_trans sz6 (by simp))
            go_roundw
            case rel => exact ⟨q + 1, by omega, by go_num, by rw [HES.out]; exact hO8, by rw [HES.out]; exact HQ2, bw8⟩
            case measure => simp [intOf]; omega
end Go.Proofs.Ytagkhohglpjjlaa
