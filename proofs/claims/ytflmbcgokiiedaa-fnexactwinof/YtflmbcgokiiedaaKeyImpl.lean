/- KeyBytes, the program's text. -/
import Derived.Test.YtflmbcgokiiedaaKeyRoom
namespace Go.Proofs.Ytflmbcgokiiedaa
open Go.RowKit
set_option linter.unusedSimpArgs false
set_option linter.unusedVariables false

theorem zero130 : Try.zeroCells140.toList = List.replicate 130 (Value.int .u8 0) := by kernel_rfl

set_option maxHeartbeats 4000000 in
set_option maxRecDepth 100000 in
theorem keyBytes_impl_good (m : ByteArray) (st : Int) (ao : Option Addr) (n cap : Nat) (nm vl : Nat → ByteArray) (w : World) (hr : TRow w ao n nm vl) (hG : Hid (goodB m n nm vl st = true)) :
    Calls Try.prog 93 #[.agg #[.string m, .slice ao n cap, .int .i64 st]] w fun e w' => KBOut (kbytes m n nm vl st) w e w' := by
  obtain ⟨hm, hn, hs, hst⟩ := goodB_sizes hG.out
  have hs' : TSize n nm vl 1048576 := fun i hi => by have := hs i hi; omega
  have hB : Below w.heap.size w (w.alloc (.cells #[.string m, .slice ao n cap, .int .i64 st] 49)) := (Below.refl _ _).alloc (Nat.le_refl _) _
  have ka := KAt.new w m (.slice ao n cap) st 49
  go_enter Try.func93, Try.ntmps93
  go_wp2_with fail
  refine (goodKey_impl m st ao n cap nm vl _ (hr.keep hB) (by omega) (by omega) hs').mono ?_
  rintro e w1 ⟨rfl, hb1⟩
  rw [hG.out]
  have ka1 := ka.keep hb1
  have hbw1 : Below w.heap.size w w1 := hB.trans (hb1.mono (by simp))
  clear ka hB hb1
  obtain ⟨la, a0, a1, a2⟩ := ka1
  go_wp2_with fail
  refine (putFixed_impl_yes st 8 _ ⟨hst.1, by omega⟩ (by omega) (by omega) (by have := hst; omega)).mono ?_
  rintro e w2 ⟨gs, os, cs, rfl, hgs, ho2, hb2⟩
  have ka2 := KAt.keep ⟨la, a0, a1, a2⟩ hb2
  have hbw2 : Below w.heap.size w w2 := hbw1.trans (hb2.mono hbw1.size)
  clear hb2 hbw1 la a0 a1 a2
  obtain ⟨la, a0, a1, a2⟩ := ka2
  have hsl := slice_arr_0m 140 130 Try.underlying140 ⟨w2.heap.size, 0, none⟩ 130 rfl
  have F0 := fil_new w2 130 Try.zeroCells140 140 zero130
  have hB2 : Below w2.heap.size w2 (w2.alloc (.cells Try.zeroCells140 140)) := (Below.refl _ _).alloc (Nat.le_refl _) _
  have K0 : KR w (w2.alloc (.cells Try.zeroCells140 140)) w2.heap.size m (.slice ao n cap) st gs os := ⟨KAt.keep ⟨la, a0, a1, a2⟩ hB2, ho2.keep hB2, hbw2.trans (hB2.mono hbw2.size), by omega, Nat.ne_of_lt ho2.lt⟩
  have n0 : (w2.alloc (.cells Try.zeroCells140 140)).cell? ⟨w.heap.size, 0, none⟩ = some (.string m) := K0.box.c0
  go_wp2
  go_region_law (refine step_append_fil rfl (.tmp 21) (.tmp 23) 9 rfl w2.heap.size 130 0 [] (F0.keep (Below.refl _ _).drew) (by simp [Act.eval, Act.put]) (.string m) (by simp [Act.eval, Act.put]) m.size (bytesOf m) (bytesOf_bd m) (src_text _ m) (by omega) ?_; intro w3 L3 hL3 F3 X3; have K3 := K0.step (Below.refl _ _).drew X3)
  clear F0 K0 n0 hB2 ho2 la a0 a1 a2 hbw2 hsl X3
  have hR : w.heap.size < w2.heap.size := K3.neB
  go_wp2_with (at_builtin; refine wpList_append_fil _ rfl (.tmp 25) (.tmp 26) 112 rfl w2.heap.size 130 L3 _ (F3.keep (below_new _ _)) rfl _ rfl 1 [0] (by simp) (src_byte _ 0) (by omega) ?_; intro w4 L4 hL4 F4 X4; have K4 := K3.step (below_new _ _) X4; obtain ⟨la, a0, a1, a2⟩ := K4.box)
  go_loopw [7, 31] (fun v i wr => ∃ k L : Nat, k ≤ n ∧ i = .int .i64 k ∧ v = .slice (some ⟨w2.heap.size, 0, none⟩) L 130 ∧ L ≤ 13 + 27 * k ∧ Fil wr w2.heap.size 130 L (bytesOf m ++ [0] ++ ktags nm vl k) ∧ KR w wr w2.heap.size m (.slice ao n cap) st gs os) (fun _ i _ => n - (intOf i).toNat)
  case atStart => exact ⟨0, L4, by omega, rfl, rfl, by omega, by simpa [ktags] using F4, K4⟩
  case round =>
    clear F3 K3 F4 K4 X4 la a0 a1 a2
    obtain ⟨k, L, hk, rfl, rfl, hL, hF, hK⟩ := hrel
    by_cases hlt : k < n
    · have hbw := hK.below
      obtain ⟨b, off, rfl, hblt, hc⟩ := hr.lies.resolve_left (by omega)
      have d1 : wr.cell? ⟨b, off + k * 2, none⟩ = some (.string (nm k)) := (hbw.cell (p := ⟨b, off + k * 2, none⟩) hblt).trans (hc k hlt).1
      have d2 : wr.cell? ⟨b, off + k * 2 + 1, none⟩ = some (.string (vl k)) := (hbw.cell (p := ⟨b, off + k * 2 + 1, none⟩) hblt).trans (hc k hlt).2
      have hsk := hs k hlt
      have hne : wr.heap.size ≠ w2.heap.size := Nat.ne_of_gt hF.lt
      have T0 := TBox.new wr (nm k) (vl k) 114
      clear hc
      go_wp2_with (first | (at_builtin; refine wpList_append_fil _ rfl (.tmp 35) (.tmp 36) 112 rfl w2.heap.size 130 L _ (hF.keep (below_new2 _ _ _)) rfl _ rfl 1 [2] (by simp) (src_byte2 _ _ 2) (by omega) ?_; intro w5 L5 hL5 F5 X5; have K5 := hK.step (below_new2 _ _ _) X5; have T5 := T0.step (below_new _ _) X5 hne; obtain ⟨lt5, t50, t51⟩ := T5) | (at_builtin; refine wpList_append_fil _ rfl (.tmp 38) (.tmp 40) 9 rfl w2.heap.size 130 L5 _ F5 rfl (.string (nm k)) rfl (nm k).size (bytesOf (nm k)) (bytesOf_bd _) (src_text _ _) (by omega) ?_; intro w6 L6 hL6 F6 X6; have K6 := K5.step (Below.refl _ _) X6; have T6 := TBox.step ⟨lt5, t50, t51⟩ (Below.refl _ _) X6 hne) | (at_builtin; refine wpList_append_fil _ rfl (.tmp 42) (.tmp 43) 112 rfl w2.heap.size 130 L6 _ (F6.keep (below_new _ _)) rfl _ rfl 1 [1] (by simp) (src_byte _ 1) (by omega) ?_; intro w7 L7 hL7 F7 X7; have K7 := K6.step (below_new _ _) X7; have T7 := T6.step (below_new _ _) X7 hne; obtain ⟨lt7, t70, t71⟩ := T7) | (at_builtin; refine wpList_append_fil _ rfl (.tmp 45) (.tmp 47) 9 rfl w2.heap.size 130 L7 _ F7 rfl (.string (vl k)) rfl (vl k).size (bytesOf (vl k)) (bytesOf_bd _) (src_text _ _) (by omega) ?_; intro w8 L8 hL8 F8 X8; have K8 := K7.step (Below.refl _ _) X8) | (at_builtin; refine wpList_append_fil _ rfl (.tmp 49) (.tmp 50) 112 rfl w2.heap.size 130 L8 _ (F8.keep (below_new _ _)) rfl _ rfl 1 [0] (by simp) (src_byte _ 0) (by omega) ?_; intro w9 L9 hL9 F9 X9; have K9 := K8.step (below_new _ _) X9))
      have hl : bytesOf m ++ [0] ++ ktags nm vl k ++ [2] ++ bytesOf (nm k) ++ [1] ++ bytesOf (vl k) ++ [0] = bytesOf m ++ [0] ++ ktags nm vl (k + 1) := by simp [ktags, tagB]
      rw [hl] at F9
      go_roundw
      case rel => exact ⟨k + 1, L9, by omega, by go_num, rfl, by omega, F9, K9⟩
      case measure => simp [intOf]; omega
    · have e : k = n := by omega
      subst e
      go_wp2_with (first | (at_builtin; refine wpList_append_fil _ rfl (.tmp 53) (.tmp 54) 112 rfl w2.heap.size 130 L _ (hF.keep (below_new _ _)) rfl _ rfl 1 [1] (by simp) (src_byte _ 1) (by omega) ?_; intro w5 L5 hL5 F5 X5; have K5 := hK.step (below_new _ _) X5) | (at_builtin; refine wpList_append_fil _ rfl (.tmp 56) (.tmp 57) 112 rfl w2.heap.size 130 L5 _ F5 rfl _ rfl 8 (pfl st) (pfl_bd st) (src_row K5.start) (by omega) ?_; intro w6 L6 hL6 F6 X6; have K6 := K5.step (Below.refl _ _) X6; have hle6 := F6.le))
      go_ret2
      have hl : bytesOf m ++ [0] ++ ktags nm vl k ++ [1] ++ pfl st = kbytes m k nm vl st := rfl
      rw [hl] at F6
      exact ⟨w2.heap.size, L6, by rw [F6.len]; rfl, Nat.le_of_lt hR, F6.own, K6.below⟩
end Go.Proofs.Ytflmbcgokiiedaa
