/- The law of EntriesOf, walked. -/
import Derived.Test.YtijondokppainaaMo
namespace Go.Proofs.Ytijondokppainaa
open Go.RowKit
set_option linter.unusedSimpArgs false
set_option linter.unusedVariables false

theorem tot_congr {X Y : Nat → Ent} : ∀ {n : Nat}, (∀ i, i < n → X i = Y i) → tot X n = tot Y n
  | 0, _ => rfl
  | n + 1, h => by
    unfold tot
    rw [tot_congr (n := n) (fun i hi => h i (by omega)), h n (by omega)]
theorem fX_tot (X : Nat → Ent) (key : ByteArray) : ∀ k, tot (eL (fX X key k)) (fX X key k).length ≤ tot X k
  | 0 => by simp [fX, tot]
  | k + 1 => by
    have ih := fX_tot X key k
    unfold fX
    split
    · have e1 : eL (fX X key k ++ [X k]) (fX X key k).length = X k := by rw [← eL_push _ _ _ (by omega), if_pos rfl]
      have e2 : tot (eL (fX X key k ++ [X k])) (fX X key k).length = tot (eL (fX X key k)) (fX X key k).length := tot_congr (fun i hi => by rw [← eL_push _ _ i (by omega), if_neg (by omega)])
      rw [List.length_append, List.length_singleton]
      show tot (eL (fX X key k ++ [X k])) (fX X key k).length + ((eL (fX X key k ++ [X k]) (fX X key k).length).key.size + (eL (fX X key k ++ [X k]) (fX X key k).length).n) ≤ tot X k + ((X k).key.size + (X k).n)
      rw [e1, e2]
      omega
    · show _ ≤ tot X k + ((X k).key.size + (X k).n)
      omega
theorem eoa_of {X : Nat → Ent} {key : ByteArray} {n : Nat} : ∃ (E : List Ent) (c : Bool), E.length ≤ n ∧ tot (eL E) E.length ≤ tot X n ∧ (∀ P : Ent → Prop, (∀ i, i < n → P (X i)) → ∀ i, i < E.length → P (eL E i)) ∧ ∀ w e w', EoO (GoodL X n) (fX X key n) w e w' → EoA E c w e w' := by
  by_cases h : GoodL X n
  · refine ⟨fX X key n, true, fX_len X key n, fX_tot X key n, fun P hP => fX_all hP, ?_⟩
    rintro w e w' (⟨hn, _⟩ | ⟨_, ha⟩)
    · exact absurd h hn
    · exact ha
  · refine ⟨[], false, by simp, by simp [tot], fun P hP i hi => by simp at hi, ?_⟩
    rintro w e w' (⟨_, ha⟩ | ⟨hg, _⟩)
    · exact ha
    · exact absurd hg h
theorem kOf_tot (X : Nat → Ent) : ∀ n, kOf X 1 n ≤ 1 + 8 * n + tot X n
  | 0 => by simp [kOf, tot]
  | n + 1 => by
    have := kOf_tot X n
    unfold kOf tot
    omega
set_option maxHeartbeats 4000000 in
theorem entriesOf_law (ao : Option Addr) (n cap : Nat) (X : Nat → Ent) (key : ByteArray) (w : World) (hr : ERow w ao n X) (hnx : n ≤ 9223372036854775807) (hkx : key.size ≤ maxLen) :
    Calls Try.prog 5 #[.slice ao n cap, .string key] w fun e w' => e = .returned (.bool true) ∧ Below w.heap.size w w' := by
  by_cases hks : 1048576 < key.size
  · go_enter Try.func5, Try.ntmps5
    go_wp2
    go_ret
    exact ⟨rfl, Below.refl _ _⟩
  obtain ⟨E, c, hEl, hEt, hEP, hA⟩ := eoa_of (X := X) (key := key) (n := n)
  have hEb := hEP EB hr.bd
  go_enter Try.func5, Try.ntmps5
  go_wp2_with fail
  refine (szEntryS_tot ao n cap X 1048576 _ hr (by omega) hnx).mono ?_
  rintro e w1 ⟨v, rfl, hv1, hv2, hv3, bw1⟩
  by_cases hv : v < 0
  · clear hv3
    go_wp2
    go_ret
    exact ⟨rfl, bw1⟩
  have htot := hv3 (by omega)
  have hn : n ≤ 1048576 := by omega
  have hz : ESize n X := tot_size (by omega)
  have hzE : ESize E.length (eL E) := hEP (fun x => x.key.size ≤ 1048576 ∧ x.n ≤ 1048576) hz
  have hE1 : E.length ≤ 1048576 := by omega
  have hkX := kOf_tot X n
  clear hv3 hnx
  go_wp2_with fail
  refine (toEntryS_any ao n cap X _ (hr.keep bw1) hn hz).mono ?_
  rintro e w2 ⟨G2, rfl, o2, hb2⟩
  have bw2 := bw1.trans (hb2.mono bw1.size)
  go_wp2_with fail
  refine ((entriesOf_spec _ n n X key _ (o2.row hr.bd) hn hz).mono (hA _)).mono ?_
  rintro e w3 ⟨vw, Vw, rfl, OW, hb3⟩
  have bw3 := bw2.trans (hb3.mono bw2.size)
  obtain ⟨wo, wc, rfl⟩ := ownsRow_form OW.own
  have gW : ∀ W, OutE W w2.heap.size (.slice wo E.length wc) E.length (eL E) Vw → ERow W wo E.length (eL E) := fun W h => by
    obtain ⟨a, d, e, hh⟩ := h.erow hEb
    injection e with e1 _ _
    subst e1
    exact hh
  have ltW : ∀ q, ((Value.slice wo E.length wc).ownBlock = some q ∨ ∃ i, i < E.length ∧ (Vw i).ownBlock = some q) → q < w3.heap.size := fun q hq => by
    rcases hq with hq | ⟨i, hi, hq⟩
    · exact (OW.own.lt q hq).2
    · exact ((OW.row i hi).own.lt q hq).2
  clear hb2 hb3 o2
  go_wp2_with fail
  refine (toEntryS_any ao n cap X _ (hr.keep bw3) hn hz).mono ?_
  rintro e w4 ⟨G4, rfl, o4, hb4⟩
  have bw4 := bw3.trans (hb4.mono bw3.size)
  have OW4 := OW.keep hb4
  have s34 := o4.lt
  have ltG4 := fun i hi => (o4.data i hi).2.lt
  have s4 := hb4.size
  go_wp2_with fail
  refine ((entriesOf_impl _ n n X key _ (o4.row hr.bd) hn hz).mono (hA _)).mono ?_
  rintro e w5 ⟨vg, Vg, rfl, OG, hb5⟩
  have bw5 := bw4.trans (hb5.mono bw4.size)
  obtain ⟨go, gc, rfl⟩ := ownsRow_form OG.own
  have gG : ∀ W, OutE W w4.heap.size (.slice go E.length gc) E.length (eL E) Vg → ERow W go E.length (eL E) := fun W h => by
    obtain ⟨a, d, e, hh⟩ := h.erow hEb
    injection e with e1 _ _
    subst e1
    exact hh
  have OW5 := OW4.keep hb5
  have x5 := o4.keep hb5
  have s5 := hb5.size
  clear OW OW4 o4 hb4 hb5
  go_wp2_with fail
  refine (eqEntryS_same go wo E.length gc wc (eL E) _ (gG _ OG) (gW _ OW5) hE1 hzE).mono ?_
  rintro e w6 ⟨rfl, hb6⟩
  have bw6 := bw5.trans (hb6.mono bw5.size)
  have OW6 := OW5.keep hb6
  have OG6 := OG.keep hb6
  have x6 := x5.keep hb6
  have s6 := hb6.size
  clear OW5 OG x5 hb6
  go_wp2_with fail
  refine (toEntryS_any ao n cap X _ (hr.keep bw6) hn hz).mono ?_
  rintro e w7 ⟨G7, rfl, o7, hb7⟩
  have bw7 := bw6.trans (hb7.mono bw6.size)
  have OW7 := OW6.keep hb7
  have OG7 := OG6.keep hb7
  have x7 := x6.keep hb7
  have s7 := hb7.size
  clear OW6 OG6 x6 hb7
  go_wp2_with fail
  refine (eqEntryS_same _ _ n n n X _ (x7.row hr.bd) (o7.row hr.bd) hn hz).mono ?_
  rintro e w8 ⟨rfl, hb8⟩
  have bw8 := bw7.trans (hb8.mono bw7.size)
  have OW8 := OW7.keep hb8
  have OG8 := OG7.keep hb8
  have x8 := x7.keep hb8
  have s8 := hb8.size
  clear OW7 OG7 x7 hb8 o7
  have hmx := markEntryS_any _ n n 1 X _ _ _ x8.ce (by omega) (fun i hi => (hz i hi).2) hn (by omega)
  go_wp2_with fail
  refine hmx.mono ?_
  rintro e w9 ⟨rfl, _, hco⟩
  have bw9 : Below w.heap.size w w9 := bw8.trans ⟨hco.os, hco.tape, hco.output, hco.size, fun q hq => hco.block q (by have := bw8.size; omega) (by have := bw3.size; omega) (fun i hi _ e => by have h1 := (x8.data i hi).1; injection e with e; injection e with e _ _; have := bw3.size; omega)⟩
  have OW9 : OutE w9 w2.heap.size (.slice wo E.length wc) E.length (eL E) Vw := OW8.same (fun q _ _ hq => hco.block q (by have := ltW q hq; omega) (by have := ltW q hq; omega) (fun i hi _ e => by have h1 := (x8.data i hi).1; injection e with e; injection e with e _ _; have := ltW q hq; omega))
  have OG9 : OutE w9 w4.heap.size (.slice go E.length gc) E.length (eL E) Vg := OG8.same (fun q hq1 hq2 _ => hco.block q hq2 (by omega) (fun i hi _ e => by have h1 := ltG4 i hi; injection e with e; injection e with e _ _; omega))
  have s9 := hco.size
  have hpos : ¬ ((kOf X 1 n : Nat) : Int) < 0 := by omega
  have hposd : decide (((kOf X 1 n : Nat) : Int) < 0) = false := by simp
  generalize ((kOf X 1 n : Nat) : Int) = kk at hpos hposd ⊢
  clear OW8 OG8 x8 hco hmx
  go_wp2_with fail
  refine (eqEntryS_same go wo E.length gc wc (eL E) _ (gG _ OG9) (gW _ OW9) hE1 hzE).mono ?_
  rintro e w10 ⟨rfl, hb10⟩
  have bw10 := bw9.trans (hb10.mono bw9.size)
  have OW10 := OW9.keep hb10
  have OG10 := OG9.keep hb10
  have s10 := hb10.size
  clear OW9 OG9 hb10
  have hkE := kOf_tot (eL E) E.length
  go_wp2_with fail
  refine (markOut_any go gc _ E.length (eL E) Vg _ OG10 (by omega) (fun i hi => (hzE i hi).2) hE1 (by omega)).mono ?_
  rintro e w11 ⟨rfl, hheld, hb11⟩
  have bw11 : Below w.heap.size w w11 := bw10.trans (hb11.mono bw4.size)
  have OW11 : OutE w11 w2.heap.size (.slice wo E.length wc) E.length (eL E) Vw := OW10.same (fun q _ _ hq => hb11.block q (by have := ltW q hq; omega))
  have hqp : ¬ ((kOf (eL E) 1 E.length : Nat) : Int) < 0 := by omega
  have hqd : decide (((kOf (eL E) 1 E.length : Nat) : Int) < 0) = false := by simp
  generalize ((kOf (eL E) 1 E.length : Nat) : Int) = qq at hheld hqp hqd ⊢
  clear OW10 OG10 hb11
  go_wp2_with fail
  refine (hheld _ (Below.refl _ _)).mono ?_
  rintro e w12 ⟨rfl, hb12⟩
  have bw12 := bw11.trans (hb12.mono bw11.size)
  have OW12 := OW11.keep hb12
  go_wp2_with fail
  refine (toEntryS_any ao n cap X _ (hr.keep bw12) hn hz).mono ?_
  rintro e w13 ⟨G13, rfl, o13, hb13⟩
  have bw13 := bw12.trans (hb13.mono bw12.size)
  have OW13 := OW12.keep hb13
  go_wp2_with fail
  refine ((entriesOf_impl _ n n X key _ (o13.row hr.bd) hn hz).mono (hA _)).mono ?_
  rintro e w14 ⟨vh, Vh, rfl, OH, hb14⟩
  have bw14 := bw13.trans (hb14.mono bw13.size)
  have OW14 := OW13.keep hb14
  obtain ⟨po, pc, rfl, rH⟩ := OH.erow hEb
  have rW := gW _ OW14
  go_wp2_with fail
  refine (eqEntryS_same po wo E.length pc wc (eL E) _ rH rW hE1 hzE).mono ?_
  rintro e w15 ⟨rfl, hb15⟩
  have bw15 := bw14.trans (hb15.mono bw14.size)
  have hfar : Below w11.heap.size w11 w15 := ((hb12.trans (hb13.mono hb12.size)).trans (hb14.mono (Nat.le_trans hb12.size hb13.size))).trans (hb15.mono (Nat.le_trans (Nat.le_trans hb12.size hb13.size) hb14.size))
  clear hb12 hb13 hb14 hb15 OW11 OW12 OW13 OW14 OH rH rW o13
  go_wp2_with fail
  refine (hheld _ hfar).mono ?_
  rintro e w16 ⟨rfl, hb16⟩
  have bw16 := bw15.trans (hb16.mono bw15.size)
  clear hb16
  go_wp2
  go_ret
  exact ⟨rfl, bw16⟩
end Go.Proofs.Ytijondokppainaa
