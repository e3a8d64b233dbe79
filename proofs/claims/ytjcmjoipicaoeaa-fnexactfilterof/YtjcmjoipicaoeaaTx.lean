/- Rows of texts: measured, copied, compared, marked. -/
import Derived.Test.YtjcmjoipicaoeaaBase
import Derived.Laws.BytesArg
import Derived.Maps.AppendAt
import Derived.OwnWalk
namespace Go.Proofs.Ytjcmjoipicaoeaa
open Go.RowKit
set_option linter.unusedSimpArgs false
set_option linter.unusedVariables false

/-- n texts lie at ao. -/
structure TRow (w : World) (ao : Option Addr) (n : Nat) (K : Nat → ByteArray) : Prop where
  lies : n = 0 ∨ ∃ b off, ao = some ⟨b, off, none⟩ ∧ b < w.heap.size ∧ ∀ i, i < n → w.cell? ⟨b, off + i, none⟩ = some (.string (K i))
theorem TRow.keep {w w' : World} {ao : Option Addr} {n : Nat} {K : Nat → ByteArray} (h : TRow w ao n K) (hb : Below w.heap.size w w') : TRow w' ao n K :=
  ⟨h.lies.elim .inl fun ⟨b, off, e, hlt, hc⟩ => .inr ⟨b, off, e, Nat.lt_of_lt_of_le hlt hb.size, fun i hi => (hb.cell (p := ⟨b, off + i, none⟩) hlt).trans (hc i hi)⟩⟩

/-- Each text is short. -/
def TSz (K : Nat → ByteArray) (n : Nat) : Prop := n ≤ 1048576 ∧ ∀ i, i < n → (K i).size ≤ 1048576
set_option maxHeartbeats 800000 in
theorem szStringS_any (ao : Option Addr) (n cap : Nat) (K : Nat → ByteArray) (w : World) (hr : TRow w ao n K) (hn : n ≤ 9223372036854775807) (hs : ∀ i, i < n → (K i).size ≤ 9223372036854775807) :
    Calls Try.prog 17 #[.slice ao n cap, .int .i64 1048576] w fun e w' => ∃ v : Int, e = .returned (.int .i64 v) ∧ -1 ≤ v ∧ v ≤ 1048576 ∧ (0 ≤ v → TSz K n) ∧ w' = w := by
  obtain ⟨hlies⟩ := hr
  have hw : IntKind.i64.wrap (1048576 - (n : Int)) = 1048576 - (n : Int) := by rw [IntKind.wrap_i64] <;> omega
  by_cases h1 : 1048576 - (n : Int) < 0
  · go_enter Try.func17, Try.ntmps17
    go_wp2
    refine bodyPost_ret (v := .int .i64 (-1)) (by simp [results, Try.results17, go_sem]) rfl ⟨-1, rfl, by omega, by omega, fun h => by omega, rfl⟩
  · go_enter Try.func17, Try.ntmps17
    go_wp2
    go_loopw [1, 5] (fun q i wr => ∃ (k : Nat) (l : Int), k ≤ n ∧ i = .int .i64 k ∧ q = .int .i64 l ∧ 0 ≤ l ∧ l ≤ 1048576 ∧ Hid (∀ i, i < k → (K i).size ≤ 1048576) ∧ wr = w) (fun _ i _ => n - (intOf i).toNat)
    case atStart => exact ⟨0, _, Nat.zero_le _, rfl, rfl, by omega, by omega, fun i hi => by omega, rfl⟩
    case round =>
      obtain ⟨k, l, hk, rfl, rfl, hl0, hl1, HA, hw0⟩ := hrel
      have hw2 := hw0.symm
      clear hw0
      subst hw2
      by_cases hlt : k < n
      · obtain ⟨b, off, rfl, hblt, hc⟩ := hlies.resolve_left (by omega)
        have c1 := hc k hlt
        have hsk := hs k hlt
        have hwk : IntKind.i64.wrap (l - ((K k).size : Int)) = l - ((K k).size : Int) := by rw [IntKind.wrap_i64] <;> omega
        clear hc hlies hs
        by_cases hv : l - ((K k).size : Int) < 0
        · go_wp2
          refine bodyPost_ret (v := .int .i64 (-1)) (by simp [results, Try.results17, go_sem]) rfl ⟨-1, rfl, by omega, by omega, fun h => by omega, rfl⟩
        · have HB : Hid (∀ i, i < k + 1 → (K i).size ≤ 1048576) := fun i hi => by
            rcases Nat.lt_succ_iff_lt_or_eq.1 hi with h | rfl
            · exact HA.out i h
            · omega
          go_wp2
          go_roundw
          case rel => exact ⟨k + 1, _, by omega, by go_num, rfl, by omega, by omega, HB, by first | rfl | trivial⟩
          case measure => simp [intOf]; omega
      · have hkn : k = n := by omega
        have HT : Hid (TSz K n) := ⟨by omega, by rw [← hkn]; exact HA.out⟩
        clear hkn
        go_wp2
        refine bodyPost_ret (v := .int .i64 l) (by simp [results, Try.results17, go_sem]) rfl ⟨l, rfl, by omega, by omega, fun _ => HT.out, rfl⟩

def mtLoop : Nat → Int → ByteArray → ByteArray
  | 0, _, out => out
  | f + 1, k, out => if 0 < k then mtLoop f (k / 10) (strOfNums [48 + k % 10] ++ out) else out
/-- The mark of k. -/
def mt (k : Int) : ByteArray := (⟨#[109]⟩ : ByteArray) ++ mtLoop k.toNat k ⟨#[]⟩
theorem mtLoop_zero (f : Nat) (k : Int) (out : ByteArray) (h : ¬ 0 < k) : mtLoop f k out = out := by
  cases f with
  | zero => rfl
  | succ f => simp [mtLoop, h]
theorem mtLoop_fuel : ∀ (f g : Nat) (k : Int) (out : ByteArray), k.toNat ≤ f → k.toNat ≤ g → mtLoop f k out = mtLoop g k out
  | 0, g, k, out, h, _ => by rw [mtLoop_zero g k out (by omega)]; rfl
  | f + 1, 0, k, out, _, h => by rw [mtLoop_zero (f + 1) k out (by omega)]; rfl
  | f + 1, g + 1, k, out, h1, h2 => by
    simp only [mtLoop]
    split
    · exact mtLoop_fuel f g _ _ (by omega) (by omega)
    · rfl
theorem one_nums (z : Int) : (strOfNums [z]).size = 1 := rfl

set_option maxHeartbeats 1000000 in
theorem markText_any (k : Int) (w : World) (h1 : 1 ≤ k) (h2 : k ≤ 16777216) :
    Calls Try.prog 49 #[.int .i64 k] w fun e w' => e = .returned (.string (mt k)) ∧ Below w.heap.size w w' := by
  generalize hM : mt k = M
  have HM : Hid ((⟨#[109]⟩ : ByteArray) ++ mtLoop k.toNat k ⟨#[]⟩ = M) := hM
  clear hM
  have hk0 : ¬ k ≤ 0 := by omega
  go_enter Try.func49, Try.ntmps49
  go_wp2
  go_loopw [0, 3] (fun q v wr => ∃ (c : Int) (s : ByteArray), q = .int .i64 c ∧ v = .string s ∧ 0 ≤ c ∧ c ≤ 16777216 ∧ s.size + c.toNat ≤ 16777216 ∧ Hid ((⟨#[109]⟩ : ByteArray) ++ mtLoop c.toNat c s = M) ∧ Below w.heap.size w wr) (fun q _ _ => (intOf q).toNat)
  case atStart => exact ⟨k, _, rfl, rfl, by omega, by omega, by have : (⟨#[]⟩ : ByteArray).size = 0 := rfl; omega, HM, Below.refl _ _⟩
  case round =>
    obtain ⟨c, s, rfl, rfl, hc0, hc1, hcs, HC, hbk⟩ := hrel
    by_cases hc : 0 < c
    · have hcv := run_convert_bytes_arg (P := Try.prog) (wr.alloc (.cells #[.int .u8 (48 + c % 10)] 5)) 26 5 Try.underlying26 Try.underlying5 wr.heap.size 0 1 1 [48 + c % 10] rfl (fun i hi => by
        have : i = 0 := by omega
        subst this; simp [go_sem]) 9 Try.underlying9
      have HC' : Hid ((⟨#[109]⟩ : ByteArray) ++ mtLoop (c / 10).toNat (c / 10) (strOfNums [48 + c % 10] ++ s) = M) := by
        unfold Hid
        rw [← HC.out, show c.toNat = (c.toNat - 1) + 1 from by omega]
        conv => rhs; rw [mtLoop, if_pos hc]
        rw [mtLoop_fuel (c / 10).toNat (c.toNat - 1) _ _ (Nat.le_refl _) (by omega)]
      have hsz := one_nums (48 + c % 10)
      generalize strOfNums [48 + c % 10] = z at *
      have hz1 : z.size ≤ 1 := by omega
      have hz2 : (z ++ s).size + (c / 10).toNat ≤ 16777216 := by rw [ByteArray.size_append]; omega
      clear hsz
      go_wp2
      go_roundw
      case rel => exact ⟨c / 10, _, rfl, rfl, by omega, by omega, hz2, HC', hbk.alloc hbk.size _⟩
      case measure => simp [intOf]; omega
    · have HZ : Hid ((⟨#[109]⟩ : ByteArray) ++ s = M) := by unfold Hid; rw [← HC.out, mtLoop_zero _ _ _ hc]
      have hs2 : s.size ≤ 16777216 := by omega
      go_wp2
      go_ret
      rw [← HZ.out]
      exact ⟨rfl, hbk⟩


theorem Try.infoStr : (Try.prog.info? 9).map (fun i => (i.zero, i.size, i.bytes)) = some (some (.string ByteArray.empty), 1, 16) := by kernel_rfl

theorem Others.grown {b : Nat} {w w' : World} (h : Others b w w') : w.grownBy w' (some b) := ⟨h.os, h.tape, h.output, by rw [h.size]; exact Nat.le_refl _, fun i _ hne => h.block i (fun e => hne (by rw [e]))⟩
theorem grown_of_below {w w' : World} (h : Below w.heap.size w w') (r : Option Nat) : w.grownBy w' r := ⟨h.os, h.tape, h.output, h.size, fun i hi _ => h.block i hi⟩
theorem below_grown {B b : Nat} {w w1 w' : World} (hb : Below B w w1) (hg : w1.grownBy w' (some b)) (h1 : B ≤ b) (h2 : B ≤ w1.heap.size) : Below B w w' := hb.grown hg h2 (fun k hk => by injection hk with hk; omega)
/-- n texts of the call's own in block b. -/
structure TOwn (w : World) (b n : Nat) (K : Nat → ByteArray) : Prop where
  lt : b < w.heap.size
  cell : ∀ i, i < n → w.cell? ⟨b, i, none⟩ = some (.string (K i))
  free : ∀ i, i < n → w.frozen? ⟨b, i, none⟩ = false
section
variable {w w' : World} {b n : Nat} {K : Nat → ByteArray}
theorem TOwn.row (h : TOwn w b n K) : TRow w (some ⟨b, 0, none⟩) n K := ⟨.inr ⟨b, 0, rfl, h.lt, fun i hi => by rw [Nat.zero_add]; exact h.cell i hi⟩⟩
theorem TOwn.keep (h : TOwn w b n K) (hb : Below w.heap.size w w') : TOwn w' b n K :=
  ⟨Nat.lt_of_lt_of_le h.lt hb.size, fun i hi => (hb.cell (p := ⟨b, i, none⟩) h.lt).trans (h.cell i hi), fun i hi => (hb.frozen (p := ⟨b, i, none⟩) h.lt).trans (h.free i hi)⟩
theorem TOwn.store (h : TOwn w b n K) (k : Nat) (hk : k < n) (s : ByteArray) : TOwn (w.setCell ⟨b, k, none⟩ (.string s)) b n (fun i => if i = k then s else K i) := by
  refine ⟨by simpa using h.lt, fun i hi => ?_, fun i hi => by simpa using h.free i hi⟩
  by_cases e : i = k
  · subst e; simp [World.cell?_setCell_same _ _ _ (h.cell i hi)]
  · rw [World.cell?_setCell_other _ _ _ _ (by intro hh; injection hh with _ h2 _; omega), h.cell i hi]; simp [e]
theorem TOwn.congr {K' : Nat → ByteArray} (h : TOwn w b n K) (e : ∀ i, i < n → K i = K' i) : TOwn w b n K' := ⟨h.lt, fun i hi => by rw [h.cell i hi, e i hi], h.free⟩
end

set_option maxHeartbeats 800000 in
theorem toStringS_any (ao : Option Addr) (n cap : Nat) (K : Nat → ByteArray) (w : World) (hr : TRow w ao n K) (hn : n ≤ 1048576) :
    Calls Try.prog 19 #[.slice ao n cap] w fun e w' => e = .returned (.slice (some ⟨w.heap.size, 0, none⟩) n n) ∧ TOwn w' w.heap.size n K ∧ Below w.heap.size w w' := by
  obtain ⟨i0, hi, hz0, hz1, hz2⟩ := info_parts Try.infoStr
  obtain ⟨hlies⟩ := hr
  go_enter Try.func19, Try.ntmps19
  go_wp2_with (at_make; refine wpList_make_full _ rfl (.tmp 6) (.tmp 6) 35 rfl w.heap.size 9 i0 (.string ByteArray.empty) 1 Try.underlying35 hi hz0 hz1 .i64 .i64 _ _ n rfl rfl rfl rfl (by rw [hz2]; omega) (by unfold maxLen; omega) (Nat.le_refl _) ?_; intro w1 hown hgrow)
  have hb1 : Below w.heap.size w w1 := (Below.refl _ _).grown hgrow (Nat.le_refl _) (fun k h => by simp at h)
  have hlt1 : w.heap.size < w1.heap.size := by
    rcases hown.2 with ⟨h, _⟩ | ⟨g', cap', cur, h, _, hg, _⟩
    · simp at h
    · simp at h; obtain ⟨rfl, _⟩ := h
      exact (Array.getElem?_eq_some_iff.1 hg).1
  have ho : TOwn w1 w.heap.size n (fun _ => ByteArray.empty) := by
    refine ⟨hlt1, fun i hi => ?_, fun i _ => by simpa using hown.frozenAt i⟩
    have := hown.cellAt i (by omega)
    rw [this]
    simp only [Value.cells, toList_madeCells_one]
    rw [List.getElem?_replicate]
    simp [hi]
  clear hown hgrow
  go_loopw [4] (fun i wr => ∃ k : Nat, k ≤ n ∧ i = .int .i64 k ∧ TOwn wr w.heap.size n (fun j => if j < k then K j else ByteArray.empty) ∧ Below w.heap.size w wr) (fun i _ => n - (intOf i).toNat)
  case atStart => exact ⟨0, Nat.zero_le _, rfl, by simpa using ho, hb1⟩
  case round =>
    obtain ⟨k, hk, rfl, hok, hbk⟩ := hrel
    by_cases hlt : k < n
    · obtain ⟨b, off, rfl, hblt, hc⟩ := hlies.resolve_left (by omega)
      have hcell : wr.cell? ⟨b, off + k, none⟩ = some (.string (K k)) := (hbk.cell (p := ⟨b, off + k, none⟩) hblt).trans (hc k hlt)
      have hd := hok.cell k hlt
      have hfz := hok.free k hlt
      have hst := hok.store k hlt (K k)
      clear hc hlies ho
      go_wp2
      go_roundw
      case rel => exact ⟨k + 1, by omega, by go_num, hst.congr (fun i _ => by by_cases h1 : i = k <;> by_cases h2 : i < k <;> simp [h1, h2] <;> omega), hbk.setCell (Nat.le_refl _) _⟩
      case measure => simp [intOf]; omega
    · go_wp2
      go_ret
      exact ⟨rfl, hok.congr (fun i hi => by rw [if_pos (by omega)]), hbk⟩

set_option maxHeartbeats 800000 in
theorem eqStringS_same (ao bo : Option Addr) (n ca cb : Nat) (K : Nat → ByteArray) (w : World) (hr : TRow w ao n K) (hs : TRow w bo n K) (hn : n ≤ 1048576) :
    Calls Try.prog 21 #[.slice ao n ca, .slice bo n cb] w fun e w' => e = .returned (.bool true) ∧ Below w.heap.size w w' := by
  obtain ⟨hl⟩ := hr
  obtain ⟨hm⟩ := hs
  go_enter Try.func21, Try.ntmps21
  go_wp2
  go_loopw [5] (fun i wr => ∃ k : Nat, k ≤ n ∧ i = .int .i64 k ∧ Below w.heap.size w wr) (fun i _ => n - (intOf i).toNat)
  case atStart => exact ⟨0, Nat.zero_le _, rfl, Below.refl _ _⟩
  case round =>
    obtain ⟨k, hk, rfl, hbk⟩ := hrel
    by_cases hlt : k < n
    · obtain ⟨b, off, rfl, hblt, hc⟩ := hl.resolve_left (by omega)
      obtain ⟨b', off', rfl, hblt', hc'⟩ := hm.resolve_left (by omega)
      have h1 := (hbk.cell (p := ⟨b, off + k, none⟩) hblt).trans (hc k hlt)
      have h2 := (hbk.cell (p := ⟨b', off' + k, none⟩) hblt').trans (hc' k hlt)
      clear hc hc' hl hm
      go_wp2
      go_quiet (fail)
      go_wp2
      go_roundw
      case rel => exact ⟨k + 1, by omega, by go_num, below_drewN hbk _⟩
      case measure => simp [intOf]; omega
    · go_wp2
      go_ret
      exact ⟨rfl, hbk⟩

set_option maxHeartbeats 1000000 in
theorem markStringS_any (b n cap : Nat) (K : Nat → ByteArray) (w : World) (ho : TOwn w b n K) (hn : n ≤ 1048576) :
    Calls Try.prog 22 #[.slice (some ⟨b, 0, none⟩) n cap, .int .i64 1] w fun e w' => e = .returned (.int .i64 (1 + (n : Int))) ∧ w.grownBy w' (some b) := by
  go_enter Try.func22, Try.ntmps22
  go_wp2
  go_loopw [1, 5] (fun q i wr => ∃ (k : Nat) (Ky : Nat → ByteArray), k ≤ n ∧ i = .int .i64 k ∧ q = .int .i64 (1 + (k : Int)) ∧ TOwn wr b n Ky ∧ w.grownBy wr (some b)) (fun _ i _ => n - (intOf i).toNat)
  case atStart => exact ⟨0, K, Nat.zero_le _, rfl, by simp, ho, World.grownBy.refl _ _⟩
  case round =>
    obtain ⟨k, Ky, hk, rfl, rfl, hok, hgk⟩ := hrel
    clear ho
    by_cases hlt : k < n
    · have hkw : IntKind.i64.wrap (1 + (k : Int) + 1) = 1 + ((k + 1 : Nat) : Int) := by rw [IntKind.wrap_i64] <;> omega
      go_wp2_with fail
      refine (markText_any (1 + (k : Int)) _ (by omega) (by omega)).mono ?_
      rintro e w1 ⟨rfl, hb1⟩
      have ok1 := hok.keep hb1
      have hd := ok1.cell k hlt
      have hfz := ok1.free k hlt
      have hst := ok1.store k hlt (mt (1 + (k : Int)))
      have hg1 : w.grownBy (w1.setCell ⟨b, k, none⟩ (.string (mt (1 + (k : Int))))) (some b) := (hgk.trans (grown_of_below hb1 _)).trans (Others.setCell _ _ _ _).grown
      clear hb1 hok ok1 hgk
      go_wp2
      go_roundw
      case rel => exact ⟨k + 1, _, by omega, by go_num, by first | rfl | go_num, hst, hg1⟩
      case measure => simp [intOf]; omega
    · have e : k = n := by omega
      subst e
      go_wp2
      go_ret
      exact ⟨rfl, hgk⟩

end Go.Proofs.Ytjcmjoipicaoeaa
