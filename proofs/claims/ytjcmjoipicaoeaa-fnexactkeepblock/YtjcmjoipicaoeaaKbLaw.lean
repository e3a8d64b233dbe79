/- The law of KeepBlock, walked. -/
import Derived.Test.YtjcmjoipicaoeaaKs
import Derived.Test.YtjcmjoipicaoeaaBV
namespace Go.Proofs.Ytjcmjoipicaoeaa
open Go.RowKit
set_option linter.unusedSimpArgs false
set_option linter.unusedVariables false

set_option maxHeartbeats 400000 in
theorem markI_any (g off n cap : Nat) (f : Nat → Int) (k0 : Nat) (w : World) (ho : IOwn w g off n f) (hn : n ≤ 1048576) (hk0 : k0 ≤ 16777216) :
    Calls Try.prog 39 #[.slice (some ⟨g, off, none⟩) n cap, .int .i64 k0] w fun e w' => e = .returned (.int .i64 ((k0 + n : Nat) : Int)) ∧ (∃ fy, IOwn w' g off n fy ∧ ∀ i, i < n → fy i = ((k0 + i : Nat) : Int)) ∧ Others g w w' := by
  go_enter Try.func39, Try.ntmps39
  go_wp2
  go_loopw [1, 5] (fun q i wr => ∃ k : Nat, k ≤ n ∧ i = .int .i64 k ∧ q = .int .i64 ((k0 + k : Nat) : Int) ∧ IOwn wr g off n (fun j => if j < k then ((k0 + j : Nat) : Int) else f j) ∧ Others g w wr) (fun _ i _ => n - (intOf i).toNat)
  case atStart => exact ⟨0, Nat.zero_le _, rfl, by simp, by simpa using ho, Others.refl _ _⟩
  case round =>
    obtain ⟨k, hk, rfl, rfl, hok, hbk⟩ := hrel
    by_cases hlt : k < n
    · have hd := hok.cell k hlt
      have hfz := hok.free k hlt
      have hst := hok.store k hlt (((k0 + k : Nat) : Int)) (by omega)
      rw [Int.natCast_add] at hst
      clear ho
      go_wp2
      go_roundw
      case rel =>
        refine ⟨k + 1, by omega, by go_num, by go_num, hst.congr (fun i => ?_) (fun i _ => ?_), hbk.trans (Others.setCell _ _ _ _)⟩
        · have := hok.bd i
          by_cases h : i < k + 1
          · simp only [h, if_true]; omega
          · rw [if_neg (by omega)] at this; rw [if_neg h]; exact this
        · by_cases h1 : i = k
          · subst h1; rw [if_pos rfl, if_pos (by omega), Int.natCast_add]
          · by_cases h2 : i < k
            · rw [if_neg h1, if_pos h2, if_pos (by omega)]
            · rw [if_neg h1, if_neg h2, if_neg (by omega)]
      case measure => simp [intOf]; omega
    · go_wp2
      go_ret
      have : k = n := by omega
      subst this
      exact ⟨rfl, ⟨_, hok, fun i hi => by rw [if_pos hi]⟩, hbk⟩

set_option maxHeartbeats 400000 in
theorem markI_none (ao : Option Addr) (cap : Nat) (w : World) :
    Calls Try.prog 39 #[.slice ao 0 cap, .int .i64 1] w fun e w' => e = .returned (.int .i64 1) ∧ w' = w := by
  go_enter Try.func39, Try.ntmps39
  go_wp2
  go_loopw [1, 5] (fun q i wr => i = .int .i64 0 ∧ q = .int .i64 1 ∧ wr = w) (fun _ _ _ => 0)
  case atStart => exact ⟨rfl, rfl, rfl⟩
  case round =>
    obtain ⟨rfl, rfl, rfl⟩ := hrel
    go_wp2
    go_ret
    exact ⟨rfl, rfl⟩

set_option maxHeartbeats 400000 in
theorem heldI_yes (ao : Option Addr) (n cap : Nat) (f : Nat → Int) (w : World) (hr : IRow w ao n f) (hf : ∀ i, i < n → f i = ((1 + i : Nat) : Int)) (hn : n ≤ 1048576) :
    Calls Try.prog 40 #[.slice ao n cap, .int .i64 1] w fun e w' => e = .returned (.int .i64 ((1 + n : Nat) : Int)) ∧ Below w.heap.size w w' := by
  obtain ⟨hbd, hl⟩ := hr
  go_enter Try.func40, Try.ntmps40
  go_wp2
  go_loopw [1, 5] (fun q i wr => ∃ k : Nat, k ≤ n ∧ i = .int .i64 k ∧ q = .int .i64 ((1 + k : Nat) : Int) ∧ Below w.heap.size w wr) (fun _ i _ => n - (intOf i).toNat)
  case atStart => exact ⟨0, Nat.zero_le _, rfl, by simp, Below.refl _ _⟩
  case round =>
    obtain ⟨k, hk, rfl, rfl, hbk⟩ := hrel
    by_cases hlt : k < n
    · obtain ⟨b, off, rfl, hblt, hc⟩ := hl.resolve_left (by omega)
      have h1 : wr.cell? ⟨b, off + k, none⟩ = some (.int .i64 ((1 + k : Nat) : Int)) := by rw [← hf k hlt]; exact (hbk.cell (p := ⟨b, off + k, none⟩) hblt).trans (hc k hlt)
      clear hc hl hbd hf
      go_wp2
      go_roundw
      case rel => exact ⟨k + 1, by omega, by go_num, by go_num, hbk⟩
      case measure => simp [intOf]; omega
    · go_wp2
      go_ret
      have : k = n := by omega
      subst this
      exact ⟨rfl, hbk⟩


theorem IV.mid {w w' : World} {lo hi lo' hi' : Nat} {ao : Option Addr} {L : List Int} (h : IV w lo hi ao L) (hw : Mid lo' hi' w w') (hd : hi ≤ lo' ∨ hi' ≤ lo) : IV w' lo hi ao L := by
  refine ⟨h.bd, Nat.le_trans h.top hw.size, ?_⟩
  rcases h.is with h0 | ⟨g, off, e, h1, h2, ho⟩
  · exact .inl h0
  · exact .inr ⟨g, off, e, h1, h2, hw.iown ho (by omega)⟩
theorem eqIV (ao bo : Option Addr) (ca cb lo hi lo' hi' : Nat) (L : List Int) (w : World) (h : IV w lo hi ao L) (k : IV w lo' hi' bo L) (hl : L.length ≤ 1048576) :
    Calls Try.prog 38 #[.slice ao L.length ca, .slice bo L.length cb] w fun e w' => e = .returned (.bool true) ∧ Below w.heap.size w w' :=
  eqIntS_same ao bo L.length ca cb (fi L) w h.row k.row hl
/-- Marks in n ints. -/
def IMk (w : World) (ao : Option Addr) (n : Nat) : Prop := ∃ f, IRow w ao n f ∧ ∀ i, i < n → f i = ((1 + i : Nat) : Int)
theorem IMk.keep {w w' : World} {ao : Option Addr} {n : Nat} (h : IMk w ao n) (hb : Below w.heap.size w w') : IMk w' ao n := by
  obtain ⟨f, h1, h2⟩ := h
  exact ⟨f, h1.keep hb, h2⟩
theorem markIV (ao : Option Addr) (c lo hi : Nat) (L : List Int) (w : World) (h : IV w lo hi ao L) (hl : L.length ≤ 1048576) :
    Calls Try.prog 39 #[.slice ao L.length c, .int .i64 1] w fun e w' => e = .returned (.int .i64 ((1 + L.length : Nat) : Int)) ∧ IMk w' ao L.length ∧ Mid lo hi w w' := by
  rcases h.is with ⟨rfl, rfl⟩ | ⟨g, off, rfl, h1, h2, ho⟩
  · refine (markI_none none c w).mono fun e w' hh => ?_
    obtain ⟨rfl, rfl⟩ := hh
    exact ⟨rfl, ⟨fun _ => 0, ⟨fun i => by omega, .inl rfl⟩, fun i hi => by simp at hi⟩, Mid.refl _ _ _⟩
  · refine (markI_any g off L.length c (fi L) 1 w ho hl (by omega)).mono fun e w' hh => ?_
    obtain ⟨rfl, ⟨fy, hm, hv⟩, hX⟩ := hh
    exact ⟨rfl, ⟨fy, hm.row, hv⟩, Mid.of_others hX h1 h2⟩
theorem heldIMk (ao : Option Addr) (n c : Nat) (w : World) (h : IMk w ao n) (hn : n ≤ 1048576) :
    Calls Try.prog 40 #[.slice ao n c, .int .i64 1] w fun e w' => e = .returned (.int .i64 ((1 + n : Nat) : Int)) ∧ Below w.heap.size w w' := by
  obtain ⟨f, h1, h2⟩ := h
  exact heldI_yes ao n c f w h1 h2 hn

/-- L, z, ok: what KeepBlock answers. -/
def IsK (f : Nat → Int) (n : Nat) (M c : Int) (L : List Int) (z : Int) (ok : Bool) : Prop := ∀ w e w', KBO f n M c w e w' → KO L z ok w e w'
theorem isK_ex (f : Nat → Int) (n : Nat) (M c : Int) (hn : n ≤ 1048576) : ∃ L z ok, IsK f n M c L z ok ∧ L.length ≤ 1048576 := by
  have hl := kF_len f c n
  have hl2 : (kF f c n ++ [c]).length = (kF f c n).length + 1 := by simp
  by_cases h : KG f n M
  · have hk1 := h.1.2
    have hk2 := h.2.1
    by_cases h2 : M < ((kF f c n ++ [c]).length : Int)
    · exact ⟨_, _, _, fun w e w' hh => hh.2.1 h h2, by rw [List.length_drop]; omega⟩
    · exact ⟨_, _, _, fun w e w' hh => hh.2.2 h h2, by omega⟩
  · exact ⟨_, _, _, fun w e w' hh => hh.1 h, by simp⟩

set_option maxHeartbeats 4000000 in
theorem keepBlock_law (ao : Option Addr) (n cap : Nat) (f : Nat → Int) (M c : Int) (w : World) (hr : IRow w ao n f) (hnx : n ≤ 9223372036854775807) (hMb : -9223372036854775808 ≤ M ∧ M ≤ 9223372036854775807) (hc : -9223372036854775808 ≤ c ∧ c ≤ 9223372036854775807) :
    Calls Try.prog 9 #[.slice ao n cap, .int .i64 M, .int .i64 c] w fun e w' => e = .returned (.bool true) ∧ Below w.heap.size w w' := by
  by_cases hks : 1048576 < n
  · go_enter Try.func9, Try.ntmps9
    go_wp2
    go_ret
    exact ⟨rfl, Below.refl _ _⟩
  have hn : n ≤ 1048576 := by omega
  clear hnx
  obtain ⟨L, z, ok, hI, hLm⟩ := isK_ex f n M c hn
  have hok : (ok != ok) = false := by simp
  have hzz : (z != z) = false := by simp
  go_enter Try.func9, Try.ntmps9
  go_wp2_with fail
  refine (toIntS_any ao n cap f _ hr hn).mono ?_
  rintro e w1 ⟨rfl, o1, bw1⟩
  have s1 := bw1.size
  go_wp2_with fail
  refine ((keepBlock_spec _ n f M c _ o1 hn hc).mono (hI _)).mono ?_
  rintro e w2 ⟨wo, wc, rfl, V2, b2⟩
  have bw2 := bw1.trans (b2.mono s1)
  have s2 := b2.size
  have hso1 := o1.lt
  clear b2 o1
  go_wp2_with fail
  refine (toIntS_any ao n cap f _ (hr.keep bw2) hn).mono ?_
  rintro e w3 ⟨rfl, o3, b3⟩
  have bw3 := bw2.trans (b3.mono bw2.size)
  have V3 := V2.keep b3
  have s3 := b3.size
  have hg3 := o3.lt
  clear b3 V2
  go_wp2_with fail
  refine ((keepBlock_impl _ n f M c _ o3 hn hc).mono (hI _)).mono ?_
  rintro e w4 ⟨go, gc, rfl, U4, b4⟩
  have bw4 := bw3.trans (b4.mono bw3.size)
  have V4 := V3.keep b4
  have o4 := o3.keep b4
  have s4 := b4.size
  clear b4 bw3 V3 o3
  go_wp2_with fail
  refine (eqIV _ _ gc wc _ _ _ _ L _ U4 V4 hLm).mono ?_
  rintro e w5 ⟨rfl, b5⟩
  have bw5 := bw4.trans (b5.mono bw4.size)
  have V5 := V4.keep b5
  have U5 := U4.keep b5
  have o5 := o4.keep b5
  have s5 := b5.size
  clear b5 bw4 V4 U4 o4
  go_wp2_with fail
  refine (toIntS_any ao n cap f _ (hr.keep bw5) hn).mono ?_
  rintro e w6 ⟨rfl, o6, b6⟩
  have bw6 := bw5.trans (b6.mono bw5.size)
  have V6 := V5.keep b6
  have U6 := U5.keep b6
  have p6 := o5.keep b6
  have s6 := b6.size
  clear b6 bw5 V5 U5 o5
  go_wp2_with fail
  refine (eqIntS_same _ _ n n n f _ p6.row o6.row hn).mono ?_
  rintro e w7 ⟨rfl, b7⟩
  have bw7 := bw6.trans (b7.mono bw6.size)
  have V7 := V6.keep b7
  have U7 := U6.keep b7
  have p7 := p6.keep b7
  have s7 := b7.size
  clear b7 bw6 V6 U6 p6 o6
  go_wp2_with fail
  refine (markI_any _ _ n n f 1 _ p7 hn (by omega)).mono ?_
  rintro e w8 ⟨rfl, _, X8⟩
  have hsz := bw2.size
  have M8 := Mid.of_others (B := w2.heap.size) (U := w2.heap.size + 1) X8 (Nat.le_refl _) (Nat.lt_succ_self _)
  have bw8 := bw7.trans (M8.below (C := w.heap.size) (by omega) (by omega))
  have V8 := V7.mid M8 (by omega)
  have U8 := U7.mid M8 (by omega)
  have s8 := M8.size
  have hpos : ¬ (((1 + n : Nat) : Int) < 0) := by omega
  have hposd : decide (((1 + n : Nat) : Int) < 0) = false := by simp; omega
  generalize ((1 + n : Nat) : Int) = kk at hpos hposd ⊢
  clear M8 X8 V7 U7 p7 bw7
  go_wp2_with fail
  refine (eqIV _ _ gc wc _ _ _ _ L _ U8 V8 hLm).mono ?_
  rintro e w9 ⟨rfl, b9⟩
  have bw9 := bw8.trans (b9.mono bw8.size)
  have V9 := V8.keep b9
  have U9 := U8.keep b9
  have s9 := b9.size
  clear b9 bw8 V8 U8
  have HP : Hid (((1 + L.length : Nat) : Int) = ((1 + L.length : Nat) : Int)) := rfl
  have cM := markIV go gc _ _ L _ U9 hLm
  have hqn : ¬ (((1 + L.length : Nat) : Int) < 0) := by omega
  have cH := fun W (h : IMk W go L.length) => heldIMk go L.length gc W h hLm
  generalize ((1 + L.length : Nat) : Int) = qq at cM cH hqn
  have hqd : decide (qq < 0) = false := by simpa using hqn
  have hqq : (qq != qq) = false := by simp
  go_wp2_with fail
  refine cM.mono ?_
  rintro e w10 ⟨rfl, G10, M10⟩
  have bw10 := bw9.trans (M10.below (C := w.heap.size) (by omega) (by omega))
  have V10 := V9.mid M10 (by omega)
  have s10 := M10.size
  clear M10 V9 U9 bw9 cM
  go_wp2_with fail
  refine (cH _ G10).mono ?_
  rintro e w11 ⟨rfl, b11⟩
  have bw11 := bw10.trans (b11.mono bw10.size)
  have V11 := V10.keep b11
  have G11 := G10.keep b11
  clear b11 bw10 V10 G10
  go_wp2_with fail
  refine (toIntS_any ao n cap f _ (hr.keep bw11) hn).mono ?_
  rintro e w12 ⟨rfl, o12, b12⟩
  have bw12 := bw11.trans (b12.mono bw11.size)
  have V12 := V11.keep b12
  have G12 := G11.keep b12
  clear b12 bw11 V11 G11
  go_wp2_with fail
  refine ((keepBlock_impl _ n f M c _ o12 hn hc).mono (hI _)).mono ?_
  rintro e w13 ⟨ho, hcc, rfl, H13, b13⟩
  have bw13 := bw12.trans (b13.mono bw12.size)
  have V13 := V12.keep b13
  have G13 := G12.keep b13
  clear b13 bw12 V12 G12 o12
  go_wp2_with fail
  refine (eqIV _ _ hcc wc _ _ _ _ L _ H13 V13 hLm).mono ?_
  rintro e w14 ⟨rfl, b14⟩
  have bw14 := bw13.trans (b14.mono bw13.size)
  have G14 := G13.keep b14
  clear b14 V13 G13 H13 bw13
  go_wp2_with fail
  refine (cH _ G14).mono ?_
  rintro e w15 ⟨rfl, b15⟩
  have bw15 := bw14.trans (b15.mono bw14.size)
  go_wp2
  go_ret
  exact ⟨rfl, bw15⟩
end Go.Proofs.Ytjcmjoipicaoeaa
