/- The text of a key, in the program and in the model. -/
import Derived.Test.YtpddodjecbcmlaaDoorNum
import Derived.Test.YtpddodjecbcmlaaDoorGoodKeys
import Derived.Test.YtpddodjecbcmlaaDoorKeyAt
import Derived.Test.YtpddodjecbcmlaaDoorSzKey
namespace Go.Proofs.YtpddodjecbcmlaaDoor
open Go.RowKit
set_option linter.unusedSimpArgs false
set_option linter.unusedVariables false

/-- A tag's text, with its sign ahead. -/
def kxTag (a b : ByteArray) : ByteArray := ⟨#[44]⟩ ++ a ++ ⟨#[61]⟩ ++ b
/-- The text of a key's metric and of k tags. -/
def kxS (m : ByteArray) (nm vl : Nat → ByteArray) : Nat → ByteArray
  | 0 => m
  | k + 1 => kxS m nm vl k ++ kxTag (nm k) (vl k)
/-- A key's text. -/
def kxT (m : ByteArray) (n : Nat) (nm vl : Nat → ByteArray) (st : Int) : ByteArray := kxS m nm vl n ++ ⟨#[64]⟩ ++ tx st
theorem kxTag_size (a b : ByteArray) : (kxTag a b).size = a.size + b.size + 2 := by
  have h1 : (⟨#[44]⟩ : ByteArray).size = 1 := rfl
  have h2 : (⟨#[61]⟩ : ByteArray).size = 1 := rfl
  simp only [kxTag, ByteArray.size_append, h1, h2]
  omega
theorem kxS_size {m : ByteArray} {nm vl : Nat → ByteArray} {n : Nat} (hm : m.size ≤ 12) (hs : TSize n nm vl 12) : ∀ k, k ≤ n → (kxS m nm vl k).size ≤ 12 + 26 * k
  | 0, _ => hm
  | k + 1, hk => by
    have h1 := kxS_size hm hs k (by omega)
    have h2 := hs k (by omega)
    simp only [kxS, ByteArray.size_append, kxTag_size]
    omega
theorem goodB_sizes' {m : ByteArray} {n : Nat} {nm vl : Nat → ByteArray} {st : Int} (h : goodB m n nm vl st = true) : m.size ≤ 12 ∧ n ≤ 4 ∧ TSize n nm vl 12 ∧ 0 ≤ st ∧ st ≤ 1000000000 := by
  simp only [goodB, goodTagsB, tagsOk, Bool.and_eq_true, decide_eq_true_eq, List.all_eq_true, List.mem_range, tagOk] at h
  obtain ⟨⟨⟨h1, h2, h3⟩, h4⟩, h5⟩ := h
  refine ⟨(nmB_size h1).2, h2, fun i hi => ?_, h4, h5⟩
  have := h3 i hi
  exact ⟨(nmB_size this.1.1).2, (nmB_size this.1.2).2⟩
theorem tx_size' (n : Int) (h : -9223372036854775808 ≤ n ∧ n ≤ 9223372036854775807) : (tx n).size ≤ 21 := by
  have := Lib.itoa_length_le n h.1 h.2
  simpa [tx, ByteArray.size] using this
/-- What KeyText leaves. -/
def KxO (m : ByteArray) (n : Nat) (nm vl : Nat → ByteArray) (st : Int) (w : World) (e : Ending) (w' : World) : Prop :=
  e = .returned (.tuple #[.string (if goodB m n nm vl st = true then kxT m n nm vl st else ⟨#[]⟩), .bool (goodB m n nm vl st)]) ∧ Below w.heap.size w w'

set_option maxHeartbeats 2000000 in
theorem l12KeyText_any (m : ByteArray) (st : Int) (ao : Option Addr) (n cap : Nat) (nm vl : Nat → ByteArray) (w : World) (hr : TRow w ao n nm vl) (hm : m.size ≤ 12) (hn : n ≤ 4) (hs : TSize n nm vl 12) (hst : 0 ≤ st ∧ st ≤ 1000000000) :
    Calls Tryd.prog 22 #[.agg #[.string m, .slice ao n cap, .int .i64 st]] w fun e w' => e = .returned (.string (kxT m n nm vl st)) ∧ Below w.heap.size w w' := by
  have hB := below_new w (.cells #[.string m, .slice ao n cap, .int .i64 st] 25)
  have K0 := KAt.new w m (.slice ao n cap) st 25
  have hsz := kxS_size (m := m) hm hs
  obtain ⟨F, hF⟩ : ∃ F : Nat → ByteArray, kxS m nm vl = F := ⟨_, rfl⟩
  have hF0 : Hid (F 0 = m) := by unfold Hid; rw [← hF]; rfl
  have hF1 : ∀ k, F k ++ kxTag (nm k) (vl k) = F (k + 1) := fun k => by rw [← hF]; rfl
  have HF : Hid (kxS m nm vl = F) := hF
  rw [hF] at hsz
  clear hF
  obtain ⟨k0l, k00, k01, k02⟩ := id K0
  go_enter Tryd.func22, Tryd.ntmps22
  go_wp2
  go_loopw [3, 11] (fun t i wr => ∃ k : Nat, k ≤ n ∧ i = .int .i64 k ∧ t = .string (F k) ∧ Below (w.heap.size + 1) (w.alloc (.cells #[.string m, .slice ao n cap, .int .i64 st] 25)) wr) (fun _ i _ => n - (intOf i).toNat)
  case atStart => exact ⟨0, by omega, rfl, by rw [hF0.out], Below.refl _ _⟩
  case round =>
    obtain ⟨k, hk, rfl, rfl, hbk⟩ := hrel
    have hbw : Below w.heap.size w wr := hB.trans (hbk.mono (by omega))
    by_cases hlt : k < n
    · obtain ⟨b, off, rfl, hblt, hc⟩ := hr.lies.resolve_left (by omega)
      have d1 : wr.cell? ⟨b, off + k * 2, none⟩ = some (.string (nm k)) := (hbw.cell (p := ⟨b, off + k * 2, none⟩) hblt).trans (hc k hlt).1
      have d2 : wr.cell? ⟨b, off + k * 2 + 1, none⟩ = some (.string (vl k)) := (hbw.cell (p := ⟨b, off + k * 2 + 1, none⟩) hblt).trans (hc k hlt).2
      have hsk := hs k hlt
      have hz := hsz k hk
      have e1 := hF1 k
      have z1 : ((⟨#[44]⟩ : ByteArray) ++ nm k).size ≤ 20 := by have : (⟨#[44]⟩ : ByteArray).size = 1 := rfl; rw [ByteArray.size_append]; omega
      obtain ⟨X1, hX1⟩ : ∃ X, (⟨#[44]⟩ : ByteArray) ++ nm k = X := ⟨_, rfl⟩
      rw [hX1] at z1
      obtain ⟨X2, hX2⟩ : ∃ X, X1 ++ (⟨#[61]⟩ : ByteArray) = X := ⟨_, rfl⟩
      have z2 : X2.size ≤ 21 := by have : (⟨#[61]⟩ : ByteArray).size = 1 := rfl; rw [← hX2, ByteArray.size_append]; omega
      obtain ⟨X3, hX3⟩ : ∃ X, X2 ++ vl k = X := ⟨_, rfl⟩
      have z3 : X3.size ≤ 33 := by rw [← hX3, ByteArray.size_append]; omega
      have e2 : F k ++ X3 = F (k + 1) := by rw [← e1, kxTag, hX1, hX2, hX3]
      clear e1 hF1 hc
      go_wp2
      go_roundw
      case rel => exact ⟨k + 1, by omega, by go_num, by first | rfl | rw [e2], hbk.alloc (by simpa using hbk.size) _⟩
      case measure => simp [intOf]; omega
    · have e : k = n := by omega
      subst e
      have hz := hsz k hk
      obtain ⟨kl, c0, c1, c2⟩ := K0.keep (hbk.mono (by simp))
      obtain ⟨X1, hX1⟩ : ∃ X, F k ++ (⟨#[64]⟩ : ByteArray) = X := ⟨_, rfl⟩
      have z1 : X1.size ≤ 200 := by have : (⟨#[64]⟩ : ByteArray).size = 1 := rfl; rw [← hX1, ByteArray.size_append]; omega
      have z2 := tx_size' st (by omega)
      have HT : Hid (kxT m k nm vl st = X1 ++ tx st) := by unfold Hid kxT; rw [HF.out, hX1]
      go_wp2_with fail
      refine (l1Num_any st (by omega) _).mono ?_
      rintro e w2 ⟨rfl, q2⟩
      generalize tx st = T at *
      go_wp2
      go_ret
      rw [HT.out]
      exact ⟨rfl, hbw.trans (q2.mono hbw.size)⟩

theorem keyText_spec (m : ByteArray) (st : Int) (ao : Option Addr) (n cap : Nat) (nm vl : Nat → ByteArray) (w : World) (hr : TRow w ao n nm vl) (hm : m.size ≤ 1048576) (hn : n ≤ 1048576) (hs : TSize n nm vl 1048576) :
    Calls Tryd.prog 8 #[.agg #[.string m, .slice ao n cap, .int .i64 st]] w fun e w' => KxO m n nm vl st w e w' := by
  have hB := below_new w (.cells #[.string m, .slice ao n cap, .int .i64 st] 25)
  have K0 := KAt.new w m (.slice ao n cap) st 25
  unfold KxO
  generalize hG : goodB m n nm vl st = G
  have HG : Hid (goodB m n nm vl st = G) := hG
  clear hG
  go_enter Tryd.func8, Tryd.ntmps8
  go_wp2_with fail
  refine (goodKey_spec m st ao n cap nm vl _ (hr.keep hB) hm hn hs).mono ?_
  rintro e w1 ⟨rfl, q1⟩
  rw [HG.out]
  obtain ⟨la, a0, a1, a2⟩ := K0.keep q1
  have B1 : Below w.heap.size w w1 := hB.trans (q1.mono (by simp))
  clear q1 hB K0
  cases G
  · go_wp2
    exact bodyPost_ret (v := .tuple #[.string ⟨#[]⟩, .bool false]) (by simp [results, Tryd.results8, go_sem]) rfl ⟨by simp, B1⟩
  · obtain ⟨z1, z2, z3, z4⟩ := goodB_sizes' HG.out
    go_wp2_with fail
    refine (l12KeyText_any m st ao n cap nm vl _ (hr.keep B1) z1 z2 z3 z4).mono ?_
    rintro e w2 ⟨rfl, q2⟩
    have B2 : Below w.heap.size w w2 := B1.trans (q2.mono B1.size)
    obtain ⟨T, hT⟩ : ∃ T, kxT m n nm vl st = T := ⟨_, rfl⟩
    rw [hT]
    go_wp2
    exact bodyPost_ret (v := .tuple #[.string T, .bool true]) (by simp [results, Tryd.results8, go_sem]) rfl ⟨by simp, B2⟩

set_option maxHeartbeats 2000000 in
theorem keyText_impl (m : ByteArray) (st : Int) (ao : Option Addr) (n cap : Nat) (nm vl : Nat → ByteArray) (w : World) (hr : TRow w ao n nm vl) (hm' : m.size ≤ 1048576) (hn' : n ≤ 1048576) (hs' : TSize n nm vl 1048576) (ht : TabP w) :
    Calls Tryd.prog 7 #[.agg #[.string m, .slice ao n cap, .int .i64 st]] w fun e w' => KxO m n nm vl st w e w' := by
  have hB := below_new w (.cells #[.string m, .slice ao n cap, .int .i64 st] 25)
  have K0 := KAt.new w m (.slice ao n cap) st 25
  unfold KxO
  generalize hG : goodB m n nm vl st = G
  have HG : Hid (goodB m n nm vl st = G) := hG
  clear hG
  go_enter Tryd.func7, Tryd.ntmps7
  go_wp2_with fail
  refine (goodKey_impl m st ao n cap nm vl _ (hr.keep hB) hm' hn' hs').mono ?_
  rintro e w1 ⟨rfl, q1⟩
  rw [HG.out]
  obtain ⟨la, a0, a1, a2⟩ := K0.keep q1
  have B1 : Below w.heap.size w w1 := hB.trans (q1.mono (by simp))
  clear q1 hB K0
  cases G
  · go_wp2
    exact bodyPost_ret (v := .tuple #[.string ⟨#[]⟩, .bool false]) (by simp [results, Tryd.results7, go_sem]) rfl ⟨by simp, B1⟩
  · obtain ⟨hm, hn, hs, hst⟩ := goodB_sizes' HG.out
    have hsz := kxS_size (m := m) hm hs
    obtain ⟨F, hF⟩ : ∃ F : Nat → ByteArray, kxS m nm vl = F := ⟨_, rfl⟩
    have hF0 : Hid (F 0 = m) := by unfold Hid; rw [← hF]; rfl
    have hF1 : ∀ k, F k ++ kxTag (nm k) (vl k) = F (k + 1) := fun k => by rw [← hF]; rfl
    have HF : Hid (kxS m nm vl = F) := hF
    rw [hF] at hsz
    clear hF
    go_wp2
    go_loopw [4, 15] (fun t i wr => ∃ k : Nat, k ≤ n ∧ i = .int .i64 k ∧ t = .string (F k) ∧ Below w1.heap.size w1 wr) (fun _ i _ => n - (intOf i).toNat)
    case atStart => exact ⟨0, by omega, rfl, by rw [hF0.out], Below.refl _ _⟩
    case round =>
      obtain ⟨k, hk, rfl, rfl, hbk⟩ := hrel
      have hbw : Below w.heap.size w wr := B1.trans (hbk.mono B1.size)
      by_cases hlt : k < n
      · obtain ⟨b, off, rfl, hblt, hc⟩ := hr.lies.resolve_left (by omega)
        have d1 : wr.cell? ⟨b, off + k * 2, none⟩ = some (.string (nm k)) := (hbw.cell (p := ⟨b, off + k * 2, none⟩) hblt).trans (hc k hlt).1
        have d2 : wr.cell? ⟨b, off + k * 2 + 1, none⟩ = some (.string (vl k)) := (hbw.cell (p := ⟨b, off + k * 2 + 1, none⟩) hblt).trans (hc k hlt).2
        have hsk := hs k hlt
        have hz := hsz k hk
        have e1 := hF1 k
        have z1 : ((⟨#[44]⟩ : ByteArray) ++ nm k).size ≤ 20 := by have : (⟨#[44]⟩ : ByteArray).size = 1 := rfl; rw [ByteArray.size_append]; omega
        obtain ⟨X1, hX1⟩ : ∃ X, (⟨#[44]⟩ : ByteArray) ++ nm k = X := ⟨_, rfl⟩
        rw [hX1] at z1
        obtain ⟨X2, hX2⟩ : ∃ X, X1 ++ (⟨#[61]⟩ : ByteArray) = X := ⟨_, rfl⟩
        have z2 : X2.size ≤ 21 := by have : (⟨#[61]⟩ : ByteArray).size = 1 := rfl; rw [← hX2, ByteArray.size_append]; omega
        obtain ⟨X3, hX3⟩ : ∃ X, X2 ++ vl k = X := ⟨_, rfl⟩
        have z3 : X3.size ≤ 33 := by rw [← hX3, ByteArray.size_append]; omega
        have e2 : F k ++ X3 = F (k + 1) := by rw [← e1, kxTag, hX1, hX2, hX3]
        clear e1 hF1 hc
        go_wp2
        go_roundw
        case rel => exact ⟨k + 1, by omega, by go_num, by first | rfl | rw [e2], hbk.alloc hbk.size _⟩
        case measure => simp [intOf]; omega
      · have e : k = n := by omega
        subst e
        have hz := hsz k hk
        obtain ⟨kl, c0, c1, c2⟩ := KAt.keep ⟨la, a0, a1, a2⟩ hbk
        obtain ⟨X1, hX1⟩ : ∃ X, F k ++ (⟨#[64]⟩ : ByteArray) = X := ⟨_, rfl⟩
        have z1 : X1.size ≤ 200 := by have : (⟨#[64]⟩ : ByteArray).size = 1 := rfl; rw [← hX1, ByteArray.size_append]; omega
        have z2 := tx_size' st (by omega)
        have HT : Hid (kxT m k nm vl st = X1 ++ tx st) := by unfold Hid kxT; rw [HF.out, hX1]
        go_wp2_with fail
        refine (itoa_any st (by omega) _ (ht.keep hbw)).mono ?_
        rintro e w2 ⟨rfl, q2⟩
        generalize tx st = T at *
        go_wp2
        exact bodyPost_ret (v := .tuple #[.string (X1 ++ T), .bool true]) (by simp [results, Tryd.results7, go_sem]) rfl ⟨by simp [HT.out], hbw.trans (q2.mono hbw.size)⟩
end Go.Proofs.YtpddodjecbcmlaaDoor
