/- The bytes of an agg, in the model. / What AggBytes answers, in the model. / The bytes of an agg, in the program. -/
import Derived.Test.YtpfjflbbpecbkaaGreatTb
import Derived.Test.YtpfjflbbpecbkaaGreatGdS
namespace Go.Proofs.YtpfjflbbpecbkaaGreat
set_option maxRecDepth 100000
open Go.RowKit
set_option linter.unusedSimpArgs false
set_option linter.unusedVariables false

set_option maxHeartbeats 1600000 in
theorem l4Bytes_false (c s lo hi : Int) (ao : Option Addr) (cap : Nat) (f : Nat → Int) (N : Nat → Int) (eN : nm c s lo hi f = N) (w : World) (hr : IRow w ao 8 f) (hN : ∀ i, i < 12 → -1000000000000000000 ≤ N i ∧ N i ≤ 1000000000000000000) :
    Calls Tryz.prog 79 #[.agg #[.int .i64 c, .int .i64 s, .int .i64 lo, .int .i64 hi, .slice ao 8 cap, .bool false]] w fun e w' => ∃ v, e = .returned v ∧ OwnL w' w.heap.size v (bl false N 12) ∧ Below w.heap.size w w' := by
  obtain ⟨b, off, rfl, hblt, hcell⟩ := hr.lies.resolve_left (by omega)
  have hB0 : Below w.heap.size w (((w.alloc (.cells #[.int .i64 c, .int .i64 s, .int .i64 lo, .int .i64 hi, .slice (some ⟨b, off, none⟩) 8 cap, .bool false] 48)).alloc (.cells #[.int .u8 0] 5))) := (below_new w _).alloc (by simp) _
  have hB1 := fun o => hB0.alloc (by simp; omega) o
  have hM : ∀ o i, i < 8 → ((((w.alloc (.cells #[.int .i64 c, .int .i64 s, .int .i64 lo, .int .i64 hi, .slice (some ⟨b, off, none⟩) 8 cap, .bool false] 48)).alloc (.cells #[.int .u8 0] 5))).alloc o).cell? ⟨b, off + i, none⟩ = some (.int .i64 (f i)) := fun o i hi => ((hB1 o).cell (p := ⟨b, off + i, none⟩) hblt).trans (hcell i hi)
  have oL : OwnL (((w.alloc (.cells #[.int .i64 c, .int .i64 s, .int .i64 lo, .int .i64 hi, .slice (some ⟨b, off, none⟩) 8 cap, .bool false] 48)).alloc (.cells #[.int .u8 0] 5))) w.heap.size (.slice (some ⟨w.heap.size + 1, 0, none⟩) 1 1) [0] := by
    have := ownL_lit (w.alloc (.cells #[.int .i64 c, .int .i64 s, .int .i64 lo, .int .i64 hi, .slice (some ⟨b, off, none⟩) 8 cap, .bool false] 48)) w.heap.size [0] (byt_one (by omega)) (by simp) (by unfold maxLen; simp)
    simpa [vb] using this
  clear hcell hB1
  go_enter Tryz.func79, Tryz.ntmps79
  go_wp2_with (at_builtin; refine wpList_nums rfl (.tmp 19) (.tmp 21) rfl c s lo hi f _ rfl _ rfl (by simp) b off cap rfl (hM _) ?_; intro gi ci w3 hgi hI hB3)
  rw [eN] at hI
  have o3 := oL.keep hB3
  have bw3 := hB0.trans (hB3.mono (by simp; omega))
  simp only [World.size_alloc] at hgi
  clear hM oL hB0 hB3
  go_loopw [3, 24] (fun v i wr => ∃ (k m cp : Nat) (a : Option Addr), k ≤ 12 ∧ i = .int .i64 k ∧ v = .slice a m cp ∧ m = (bl false N k).length ∧ OwnL wr w.heap.size (.slice a (bl false N k).length cp) (bl false N k) ∧ INum wr gi N ∧ (Value.slice a (bl false N k).length cp).ownBlock ≠ some gi ∧ Below w.heap.size w wr) (fun _ i _ => 12 - (intOf i).toNat)
  case atStart => exact ⟨0, 1, 1, some ⟨w.heap.size + 1, 0, none⟩, Nat.zero_le _, rfl, rfl, rfl, o3, hI, by simp [Value.ownBlock]; omega, bw3⟩
  case round =>
    obtain ⟨k, m, cp, a, hk, rfl, rfl, rfl, hown, hIk, hne, hbk⟩ := hrel
    have hlen := bl_len false N k
    by_cases hlt : k < 12
    · have h1 := hIk.cell k hlt
      have hnk := hN k hlt
      have hsz := hbk.size
      have HL : Hid (bl false N (k + 1) = bl false N k ++ pvL (foldI (N k))) := rfl
      clear hN o3 hI
      go_wp2_with fail
      refine (l4Put_any w.heap.size a cp (bl false N k) (N k) hnk _ hown (by omega) hsz).mono ?_
      rintro e w4 ⟨v4, rfl, o4, g4, n4⟩
      have I4 := hIk.grown g4 hne
      have ne4 := n4.ne hne hIk.lt
      have b4 := hown.below hbk g4 (Nat.le_refl _) hsz
      rw [← HL.out] at o4
      obtain ⟨a4, cp4, rfl⟩ := o4.form
      go_wp2
      go_roundw
      case rel => exact ⟨k + 1, _, cp4, a4, by omega, by go_num, rfl, rfl, o4, I4, ne4, b4⟩
      case measure => simp [intOf]; omega
    · obtain rfl : k = 12 := by omega
      go_wp2
      go_ret
      exact ⟨_, rfl, hown, hbk⟩

set_option maxHeartbeats 1600000 in
theorem l4Bytes_true (c s lo hi : Int) (ao : Option Addr) (cap : Nat) (f : Nat → Int) (N : Nat → Int) (eN : nm c s lo hi f = N) (w : World) (hr : IRow w ao 8 f) (hN : ∀ i, i < 12 → -1000000000000000000 ≤ N i ∧ N i ≤ 1000000000000000000) :
    Calls Tryz.prog 79 #[.agg #[.int .i64 c, .int .i64 s, .int .i64 lo, .int .i64 hi, .slice ao 8 cap, .bool true]] w fun e w' => ∃ v, e = .returned v ∧ OwnL w' w.heap.size v (bl true N 12) ∧ Below w.heap.size w w' := by
  obtain ⟨b, off, rfl, hblt, hcell⟩ := hr.lies.resolve_left (by omega)
  have hB0 : Below w.heap.size w (((w.alloc (.cells #[.int .i64 c, .int .i64 s, .int .i64 lo, .int .i64 hi, .slice (some ⟨b, off, none⟩) 8 cap, .bool true] 48)).alloc (.cells #[.int .u8 1] 5))) := (below_new w _).alloc (by simp) _
  have hB1 := fun o => hB0.alloc (by simp; omega) o
  have hM : ∀ o i, i < 8 → ((((w.alloc (.cells #[.int .i64 c, .int .i64 s, .int .i64 lo, .int .i64 hi, .slice (some ⟨b, off, none⟩) 8 cap, .bool true] 48)).alloc (.cells #[.int .u8 1] 5))).alloc o).cell? ⟨b, off + i, none⟩ = some (.int .i64 (f i)) := fun o i hi => ((hB1 o).cell (p := ⟨b, off + i, none⟩) hblt).trans (hcell i hi)
  have oL : OwnL (((w.alloc (.cells #[.int .i64 c, .int .i64 s, .int .i64 lo, .int .i64 hi, .slice (some ⟨b, off, none⟩) 8 cap, .bool true] 48)).alloc (.cells #[.int .u8 1] 5))) w.heap.size (.slice (some ⟨w.heap.size + 1, 0, none⟩) 1 1) [1] := by
    have := ownL_lit (w.alloc (.cells #[.int .i64 c, .int .i64 s, .int .i64 lo, .int .i64 hi, .slice (some ⟨b, off, none⟩) 8 cap, .bool true] 48)) w.heap.size [1] (byt_one (by omega)) (by simp) (by unfold maxLen; simp)
    simpa [vb] using this
  clear hcell hB1
  go_enter Tryz.func79, Tryz.ntmps79
  go_wp2_with (at_builtin; refine wpList_nums rfl (.tmp 19) (.tmp 21) rfl c s lo hi f _ rfl _ rfl (by simp) b off cap rfl (hM _) ?_; intro gi ci w3 hgi hI hB3)
  rw [eN] at hI
  have o3 := oL.keep hB3
  have bw3 := hB0.trans (hB3.mono (by simp; omega))
  simp only [World.size_alloc] at hgi
  clear hM oL hB0 hB3
  go_loopw [3, 24] (fun v i wr => ∃ (k m cp : Nat) (a : Option Addr), k ≤ 12 ∧ i = .int .i64 k ∧ v = .slice a m cp ∧ m = (bl true N k).length ∧ OwnL wr w.heap.size (.slice a (bl true N k).length cp) (bl true N k) ∧ INum wr gi N ∧ (Value.slice a (bl true N k).length cp).ownBlock ≠ some gi ∧ Below w.heap.size w wr) (fun _ i _ => 12 - (intOf i).toNat)
  case atStart => exact ⟨0, 1, 1, some ⟨w.heap.size + 1, 0, none⟩, Nat.zero_le _, rfl, rfl, rfl, o3, hI, by simp [Value.ownBlock]; omega, bw3⟩
  case round =>
    obtain ⟨k, m, cp, a, hk, rfl, rfl, rfl, hown, hIk, hne, hbk⟩ := hrel
    have hlen := bl_len true N k
    by_cases hlt : k < 12
    · have h1 := hIk.cell k hlt
      have hnk := hN k hlt
      have hsz := hbk.size
      have HL : Hid (bl true N (k + 1) = bl true N k ++ pvL (foldI (N k))) := rfl
      clear hN o3 hI
      go_wp2_with fail
      refine (l4Put_any w.heap.size a cp (bl true N k) (N k) hnk _ hown (by omega) hsz).mono ?_
      rintro e w4 ⟨v4, rfl, o4, g4, n4⟩
      have I4 := hIk.grown g4 hne
      have ne4 := n4.ne hne hIk.lt
      have b4 := hown.below hbk g4 (Nat.le_refl _) hsz
      rw [← HL.out] at o4
      obtain ⟨a4, cp4, rfl⟩ := o4.form
      go_wp2
      go_roundw
      case rel => exact ⟨k + 1, _, cp4, a4, by omega, by go_num, rfl, rfl, o4, I4, ne4, b4⟩
      case measure => simp [intOf]; omega
    · obtain rfl : k = 12 := by omega
      go_wp2
      go_ret
      exact ⟨_, rfl, hown, hbk⟩
end Go.Proofs.YtpfjflbbpecbkaaGreat

namespace Go.Proofs.YtpfjflbbpecbkaaGreat
set_option maxRecDepth 100000
open Go.RowKit
set_option linter.unusedSimpArgs false
set_option linter.unusedVariables false

theorem GoodA.nums {c s lo hi : Int} {n : Nat} {f : Nat → Int} {fu : Bool} (h : GoodA c s lo hi n f fu) : ∀ i, i < 12 → -1000000000000000000 ≤ nm c s lo hi f i ∧ nm c s lo hi f i ≤ 1000000000000000000 := by
  obtain ⟨hc, _, hf, ht, hfu, h0, h1⟩ := h
  have hc' : 0 ≤ c ∧ c ≤ 1000000000 := by simpa [isC, btw] using hc
  have hs : -1000000000000000000 ≤ s ∧ s ≤ 1000000000000000000 := by
    cases fu
    · have := ht rfl; omega
    · have := hfu rfl; omega
  have hl : (-1000000000 ≤ lo ∧ lo ≤ 1000000000) ∧ (-1000000000 ≤ hi ∧ hi ≤ 1000000000) := by
    by_cases e : c = 0
    · have := h0 e; omega
    · obtain ⟨a, b, _⟩ := h1 e
      exact ⟨by simpa [isV, btw] using a, by simpa [isV, btw] using b⟩
  intro i hi'
  unfold nm
  repeat' split
  · omega
  · omega
  · omega
  · omega
  · have := hf (i - 4) (by omega)
    simp [isC, btw] at this
    omega

/-- What AggBytes leaves. -/
def BO (c s lo hi : Int) (n : Nat) (f : Nat → Int) (fu : Bool) (w : World) (e : Ending) (w' : World) : Prop :=
  Below w.heap.size w w' ∧ ((GoodA c s lo hi n f fu ∧ ∃ v, e = .returned (.tuple #[v, .bool true]) ∧ OwnL w' w.heap.size v (bl fu (nm c s lo hi f) 12)) ∨
    (¬ GoodA c s lo hi n f fu ∧ e = .returned (.tuple #[.slice none 0 0, .bool false])))

end Go.Proofs.YtpfjflbbpecbkaaGreat

namespace Go.Proofs.YtpfjflbbpecbkaaGreat
set_option maxRecDepth 100000
open Go.RowKit
set_option linter.unusedSimpArgs false
set_option linter.unusedVariables false

set_option maxHeartbeats 1600000 in
theorem aggBytes_impl_false (c s lo hi : Int) (ao : Option Addr) (n cap : Nat) (f : Nat → Int) (N : Nat → Int) (eN : nm c s lo hi f = N) (w : World) (hr : IRow w ao n f) (hn : n ≤ 1048576) (hs : -9223372036854775808 ≤ s ∧ s ≤ 9223372036854775807) :
    Calls Tryz.prog 167 #[.agg #[.int .i64 c, .int .i64 s, .int .i64 lo, .int .i64 hi, .slice ao n cap, .bool false]] w fun e w' => BO c s lo hi n f false w e w' := by
  have hB := below_new w (.cells #[.int .i64 c, .int .i64 s, .int .i64 lo, .int .i64 hi, .slice ao n cap, .bool false] 48)
  have A0 := AAt.new w c s lo hi (.slice ao n cap) false 48
  go_enter Tryz.func167, Tryz.ntmps167
  go_wp2_with fail
  refine (goodAgg_impl c s lo hi ao n cap f false _ (hr.keep hB) hn hs).mono ?_
  rintro e w1 ⟨b1, rfl, h1, q1⟩
  have A1 := A0.keep q1
  have B1 : Below w.heap.size w w1 := hB.trans (q1.mono (by simp))
  have r1 := hr.keep B1
  clear q1 hB A0
  cases b1
  · have K : Hid (¬ GoodA c s lo hi n f false) := fun h => by
      have := h1.2 h
      cases this
    clear h1
    go_wp2
    exact bodyPost_ret (v := .tuple #[.slice none 0 0, .bool false]) (by simp [results, Tryz.results167, go_sem]) rfl (⟨B1, .inr ⟨K.out, rfl⟩⟩)
  · have hg := h1.1 rfl
    have HG : Hid (GoodA c s lo hi n f false) := hg
    have e8 := hg.2.1
    have hN : ∀ i, i < 12 → -1000000000000000000 ≤ N i ∧ N i ≤ 1000000000000000000 := by rw [← eN]; exact hg.nums
    clear h1 hg
    subst e8
    obtain ⟨b, off, rfl, hblt, hcell⟩ := r1.lies.resolve_left (by omega)
    have hB0 : Below w1.heap.size w1 (w1.alloc (.cells #[.int .u8 0] 5)) := below_new w1 _
    have hB1 := fun o => hB0.alloc (by simp) o
    have hM : ∀ o i, i < 8 → ((w1.alloc (.cells #[.int .u8 0] 5)).alloc o).cell? ⟨b, off + i, none⟩ = some (.int .i64 (f i)) := fun o i hi => ((hB1 o).cell (p := ⟨b, off + i, none⟩) hblt).trans (hcell i hi)
    have oL : OwnL (w1.alloc (.cells #[.int .u8 0] 5)) w1.heap.size (.slice (some ⟨w1.heap.size, 0, none⟩) 1 1) [0] := by
      have := ownL_lit w1 w1.heap.size [0] (byt_one (by omega)) (Nat.le_refl _) (by unfold maxLen; simp)
      simpa [vb] using this
    obtain ⟨la, a0, a1, a2, a3, a4, a5⟩ := A1
    have hsw := B1.size
    clear hcell hB1 r1
    go_wp2_with (at_builtin; refine wpList_nums rfl (.tmp 23) (.tmp 25) rfl c s lo hi f _ rfl _ rfl (by simp) b off cap rfl (hM _) ?_; intro gi ci w3 hgi hI hB3)
    rw [eN] at hI
    have o3 := oL.keep hB3
    have bw3 := B1.trans ((hB0.trans (hB3.mono (by simp))).mono hsw)
    have s3 : w1.heap.size ≤ w3.heap.size := by have := hB3.size; simp at this; omega
    simp only [World.size_alloc] at hgi
    clear hM oL hB0 hB3 la a0 a1 a2 a3 a4 a5
    go_loopw [4, 28] (fun v i wr => ∃ (k m cp : Nat) (a : Option Addr), k ≤ 12 ∧ i = .int .i64 k ∧ v = .slice a m cp ∧ m = (bl false N k).length ∧ OwnL wr w1.heap.size (.slice a (bl false N k).length cp) (bl false N k) ∧ INum wr gi N ∧ (Value.slice a (bl false N k).length cp).ownBlock ≠ some gi ∧ Below w.heap.size w wr ∧ w1.heap.size ≤ wr.heap.size) (fun _ i _ => 12 - (intOf i).toNat)
    case atStart => exact ⟨0, 1, 1, some ⟨w1.heap.size, 0, none⟩, Nat.zero_le _, rfl, rfl, rfl, o3, hI, by simp [Value.ownBlock]; omega, bw3, s3⟩
    case round =>
      obtain ⟨k, m, cp, a, hk, rfl, rfl, rfl, hown, hIk, hne, hbk, hszk⟩ := hrel
      have hlen := bl_len false N k
      by_cases hlt : k < 12
      · have h1 := hIk.cell k hlt
        have hnk := hN k hlt
        have hfb := foldI_bd hnk
        have hpk : (pvL (foldI (N k))).length ≤ 10 := by
          have h1 := pvL_length (foldI (N k))
          have h2 := pk_le (foldI (N k))
          omega
        have hsz := hbk.size
        have HL : Hid (bl false N (k + 1) = bl false N k ++ pvL (foldI (N k))) := rfl
        clear hN o3 hI
        go_wp2_with fail
        refine (foldSign_any (N k) hnk _).mono ?_
        rintro e w4 ⟨rfl, rfl⟩
        go_wp2_with fail
        refine (putVar_impl (foldI (N k)) _ hfb).mono ?_
        intro e w4 hp
        obtain ⟨g4, c4, rfl, hg4, A4, b4⟩ := pvl_of hp
        clear hp
        have o4 := hown.keep b4
        have s4 := b4.size
        have bw4 := hbk.trans (b4.mono hsz)
        have I4 := hIk.keep b4
        go_wp2_with (at_builtin; refine wpList_app rfl (.tmp 32) (.tmp 35) rfl w1.heap.size (.slice a (bl false N k).length cp) (bl false N k) rfl o4 g4 0 (pvL (foldI (N k))).length c4 (pvL (foldI (N k))) rfl rfl A4 (by omega) (by omega) ?_; intro v5 w5 o5 g5 n5)
        have I5 := I4.grown g5 hne
        have ne5 := (nb_of n5).ne hne I4.lt
        have b5 := o4.below bw4 g5 hsw (by omega)
        have s5 := g5.size
        rw [← HL.out] at o5
        obtain ⟨a5, cp5, rfl⟩ := o5.form
        go_roundw
        case rel => exact ⟨k + 1, _, cp5, a5, by omega, by go_num, rfl, rfl, o5, I5, ne5, b5, by omega⟩
        case measure => simp [intOf]; omega
      · obtain rfl : k = 12 := by omega
        have o6 := hown.mono hsw
        go_wp2
        exact bodyPost_ret (v := .tuple #[.slice a (bl false N 12).length cp, .bool true]) (by simp [results, Tryz.results167, go_sem]) rfl (⟨hbk, .inl ⟨HG.out, _, rfl, by rw [eN]; exact o6⟩⟩)

set_option maxHeartbeats 1600000 in
theorem aggBytes_impl_true (c s lo hi : Int) (ao : Option Addr) (n cap : Nat) (f : Nat → Int) (N : Nat → Int) (eN : nm c s lo hi f = N) (w : World) (hr : IRow w ao n f) (hn : n ≤ 1048576) (hs : -9223372036854775808 ≤ s ∧ s ≤ 9223372036854775807) :
    Calls Tryz.prog 167 #[.agg #[.int .i64 c, .int .i64 s, .int .i64 lo, .int .i64 hi, .slice ao n cap, .bool true]] w fun e w' => BO c s lo hi n f true w e w' := by
  have hB := below_new w (.cells #[.int .i64 c, .int .i64 s, .int .i64 lo, .int .i64 hi, .slice ao n cap, .bool true] 48)
  have A0 := AAt.new w c s lo hi (.slice ao n cap) true 48
  go_enter Tryz.func167, Tryz.ntmps167
  go_wp2_with fail
  refine (goodAgg_impl c s lo hi ao n cap f true _ (hr.keep hB) hn hs).mono ?_
  rintro e w1 ⟨b1, rfl, h1, q1⟩
  have A1 := A0.keep q1
  have B1 : Below w.heap.size w w1 := hB.trans (q1.mono (by simp))
  have r1 := hr.keep B1
  clear q1 hB A0
  cases b1
  · have K : Hid (¬ GoodA c s lo hi n f true) := fun h => by
      have := h1.2 h
      cases this
    clear h1
    go_wp2
    exact bodyPost_ret (v := .tuple #[.slice none 0 0, .bool false]) (by simp [results, Tryz.results167, go_sem]) rfl (⟨B1, .inr ⟨K.out, rfl⟩⟩)
  · have hg := h1.1 rfl
    have HG : Hid (GoodA c s lo hi n f true) := hg
    have e8 := hg.2.1
    have hN : ∀ i, i < 12 → -1000000000000000000 ≤ N i ∧ N i ≤ 1000000000000000000 := by rw [← eN]; exact hg.nums
    clear h1 hg
    subst e8
    obtain ⟨b, off, rfl, hblt, hcell⟩ := r1.lies.resolve_left (by omega)
    have hB0 : Below w1.heap.size w1 (w1.alloc (.cells #[.int .u8 1] 5)) := below_new w1 _
    have hB1 := fun o => hB0.alloc (by simp) o
    have hM : ∀ o i, i < 8 → ((w1.alloc (.cells #[.int .u8 1] 5)).alloc o).cell? ⟨b, off + i, none⟩ = some (.int .i64 (f i)) := fun o i hi => ((hB1 o).cell (p := ⟨b, off + i, none⟩) hblt).trans (hcell i hi)
    have oL : OwnL (w1.alloc (.cells #[.int .u8 1] 5)) w1.heap.size (.slice (some ⟨w1.heap.size, 0, none⟩) 1 1) [1] := by
      have := ownL_lit w1 w1.heap.size [1] (byt_one (by omega)) (Nat.le_refl _) (by unfold maxLen; simp)
      simpa [vb] using this
    obtain ⟨la, a0, a1, a2, a3, a4, a5⟩ := A1
    have hsw := B1.size
    clear hcell hB1 r1
    go_wp2_with (at_builtin; refine wpList_nums rfl (.tmp 23) (.tmp 25) rfl c s lo hi f _ rfl _ rfl (by simp) b off cap rfl (hM _) ?_; intro gi ci w3 hgi hI hB3)
    rw [eN] at hI
    have o3 := oL.keep hB3
    have bw3 := B1.trans ((hB0.trans (hB3.mono (by simp))).mono hsw)
    have s3 : w1.heap.size ≤ w3.heap.size := by have := hB3.size; simp at this; omega
    simp only [World.size_alloc] at hgi
    clear hM oL hB0 hB3 la a0 a1 a2 a3 a4 a5
    go_loopw [4, 28] (fun v i wr => ∃ (k m cp : Nat) (a : Option Addr), k ≤ 12 ∧ i = .int .i64 k ∧ v = .slice a m cp ∧ m = (bl true N k).length ∧ OwnL wr w1.heap.size (.slice a (bl true N k).length cp) (bl true N k) ∧ INum wr gi N ∧ (Value.slice a (bl true N k).length cp).ownBlock ≠ some gi ∧ Below w.heap.size w wr ∧ w1.heap.size ≤ wr.heap.size) (fun _ i _ => 12 - (intOf i).toNat)
    case atStart => exact ⟨0, 1, 1, some ⟨w1.heap.size, 0, none⟩, Nat.zero_le _, rfl, rfl, rfl, o3, hI, by simp [Value.ownBlock]; omega, bw3, s3⟩
    case round =>
      obtain ⟨k, m, cp, a, hk, rfl, rfl, rfl, hown, hIk, hne, hbk, hszk⟩ := hrel
      have hlen := bl_len true N k
      by_cases hlt : k < 12
      · have h1 := hIk.cell k hlt
        have hnk := hN k hlt
        have hfb := foldI_bd hnk
        have hpk : (pvL (foldI (N k))).length ≤ 10 := by
          have h1 := pvL_length (foldI (N k))
          have h2 := pk_le (foldI (N k))
          omega
        have hsz := hbk.size
        have HL : Hid (bl true N (k + 1) = bl true N k ++ pvL (foldI (N k))) := rfl
        clear hN o3 hI
        go_wp2_with fail
        refine (foldSign_any (N k) hnk _).mono ?_
        rintro e w4 ⟨rfl, rfl⟩
        go_wp2_with fail
        refine (putVar_impl (foldI (N k)) _ hfb).mono ?_
        intro e w4 hp
        obtain ⟨g4, c4, rfl, hg4, A4, b4⟩ := pvl_of hp
        clear hp
        have o4 := hown.keep b4
        have s4 := b4.size
        have bw4 := hbk.trans (b4.mono hsz)
        have I4 := hIk.keep b4
        go_wp2_with (at_builtin; refine wpList_app rfl (.tmp 32) (.tmp 35) rfl w1.heap.size (.slice a (bl true N k).length cp) (bl true N k) rfl o4 g4 0 (pvL (foldI (N k))).length c4 (pvL (foldI (N k))) rfl rfl A4 (by omega) (by omega) ?_; intro v5 w5 o5 g5 n5)
        have I5 := I4.grown g5 hne
        have ne5 := (nb_of n5).ne hne I4.lt
        have b5 := o4.below bw4 g5 hsw (by omega)
        have s5 := g5.size
        rw [← HL.out] at o5
        obtain ⟨a5, cp5, rfl⟩ := o5.form
        go_roundw
        case rel => exact ⟨k + 1, _, cp5, a5, by omega, by go_num, rfl, rfl, o5, I5, ne5, b5, by omega⟩
        case measure => simp [intOf]; omega
      · obtain rfl : k = 12 := by omega
        have o6 := hown.mono hsw
        go_wp2
        exact bodyPost_ret (v := .tuple #[.slice a (bl true N 12).length cp, .bool true]) (by simp [results, Tryz.results167, go_sem]) rfl (⟨hbk, .inl ⟨HG.out, _, rfl, by rw [eN]; exact o6⟩⟩)

theorem aggBytes_impl (c s lo hi : Int) (ao : Option Addr) (n cap : Nat) (f : Nat → Int) (fu : Bool) (w : World) (hr : IRow w ao n f) (hn : n ≤ 1048576) (hs : -9223372036854775808 ≤ s ∧ s ≤ 9223372036854775807) :
    Calls Tryz.prog 167 #[.agg #[.int .i64 c, .int .i64 s, .int .i64 lo, .int .i64 hi, .slice ao n cap, .bool fu]] w fun e w' => BO c s lo hi n f fu w e w' := by
  cases fu
  · exact aggBytes_impl_false c s lo hi ao n cap f _ rfl w hr hn hs
  · exact aggBytes_impl_true c s lo hi ao n cap f _ rfl w hr hn hs
end Go.Proofs.YtpfjflbbpecbkaaGreat
