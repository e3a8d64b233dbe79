/- Told ones copied as they lie (slices.Clone). / LastTold in the program: too many, or a key that is not good. -/
import Derived.Test.YtjdijikmdlklkaaYl
import Derived.Test.YtjdijikmdlklkaaCn
import Derived.Test.YtjdijikmdlklkaaOt
namespace Go.Proofs.Ytjdijikmdlklkaa
open Go.RowKit
set_option linter.unusedSimpArgs false
set_option linter.unusedVariables false

/-- The cells of n of them. -/
def cellsC (C : Nat → Nat → Value) (n : Nat) : List Value := (List.range n).flatMap fun p => (List.range 10).map (C p)
theorem cellsC_succ (C : Nat → Nat → Value) (n : Nat) : cellsC C (n + 1) = cellsC C n ++ (List.range 10).map (C n) := by
  unfold cellsC; rw [List.range_succ (n := n), List.flatMap_append]; simp
theorem cellsC_len (C : Nat → Nat → Value) : ∀ n, (cellsC C n).length = n * 10
  | 0 => rfl
  | n + 1 => by rw [cellsC_succ, List.length_append, cellsC_len C n]; simp; omega
theorem cellsC_get (C : Nat → Nat → Value) : ∀ (n p q : Nat), p < n → q < 10 → (cellsC C n)[p * 10 + q]? = some (C p q)
  | 0, p, q, h, _ => by omega
  | n + 1, p, q, h, hq => by
    rw [cellsC_succ]
    by_cases e : p < n
    · rw [List.getElem?_append_left (by rw [cellsC_len]; omega)]
      exact cellsC_get C n p q e hq
    · obtain rfl : p = n := by omega
      rw [List.getElem?_append_right (by rw [cellsC_len]; omega), cellsC_len, show p * 10 + q - p * 10 = q by omega]
      rw [List.getElem?_map, List.getElem?_range hq]; rfl
theorem addr_add (b off j : Nat) : (⟨b, off, none⟩ : Addr).add j = ⟨b, off + j, none⟩ := by unfold Addr.add; split <;> simp_all
theorem wpList_copyL {w : World} {ops : Array Oper} {rest : List Oper} {o : Oper} {a : Act} {Q : Exit → Act → World → Prop} (hgd : o.guard = none) (s y : Operand)
    (ho : o.op = .call { callee := .builtin .append, args := #[s, y], argTypes := #[24, 24] })
    (base : Nat) (v0 : Value) (hs : a.eval s = v0) (h0 : w.ownsRow base 45 10 v0 0 []) (b off n hc : Nat) (C : Nat → Nat → Value) (hy : a.eval y = .slice (some ⟨b, off, none⟩) n hc) (hr : ∀ p, p < n → Lie10 w b (off + p * 10) (C p)) (h1 : ∀ v j, j < 10 → (C v j).oneCell' = true) (hn : n ≤ 1000) (hbase : base ≤ w.heap.size)
    (hk : ∀ hv w', w'.ownsRow base 45 10 hv n (cellsC C n) → w.grownBy w' v0.ownBlock → (hv.ownBlock = v0.ownBlock ∨ hv.ownBlock = some w.heap.size) → wpList Try.prog ops Q rest (a.put o.dst hv) w') : wpList Try.prog ops Q (o :: rest) a w := by
  obtain ⟨i0, hi, hz0, hz1, hz2⟩ := info_parts Try.infoTo
  obtain ⟨hv, w', hrun, h1, h2, _, h3⟩ := run_append_own_at (P := Try.prog) w base 24 o.type 45 i0 _ 10 120 Try.underlying24 hi hz0 hz1 hz2 rfl (by decide) v0 0 [] h0 ⟨b, off, none⟩ n hc (cellsC C n) (cellsC_len _ _) (fun j u hj => by
    have hlt : j < n * 10 := by rw [← cellsC_len C n]; exact (List.getElem?_eq_some_iff.1 hj).1
    have e : j = j / 10 * 10 + j % 10 := by omega
    rw [addr_add]
    rw [e, cellsC_get C n (j / 10) (j % 10) (by omega) (by omega)] at hj
    injection hj with hj
    rw [← hj, e, show off + (j / 10 * 10 + j % 10) = off + j / 10 * 10 + j % 10 by omega, show (j / 10 * 10 + j % 10) / 10 = j / 10 by omega, show (j / 10 * 10 + j % 10) % 10 = j % 10 by omega]
    exact hr (j / 10) (by omega) (j % 10) (by omega)) (fun u hu => by
    unfold cellsC at hu
    rw [List.mem_flatMap] at hu
    obtain ⟨p, _, hu⟩ := hu
    rw [List.mem_map] at hu
    obtain ⟨q, hq, rfl⟩ := hu
    exact h1 p q (List.mem_range.1 hq)) (by unfold maxLen; omega) (by omega) hbase
  rw [Nat.zero_add, List.nil_append] at h1
  exact wpList_append_eq w hgd s y 24 o.type ho rfl v0 _ hv hs hy w' hrun (hk hv w' h1 h2 h3)
theorem ar_of_row {w : World} {base n : Nat} {v : Value} {C : Nat → Nat → Value} (h : w.ownsRow base 45 10 v n (cellsC C n)) {g : Nat} (hg : v.ownBlock = some g) : ∃ gc, v = .slice (some ⟨g, 0, none⟩) n gc ∧ n ≤ gc ∧ base ≤ g ∧ AR w g n C (fun i => i) := by
  have hcells := h.cells hg
  rcases h.2 with ⟨rfl, _⟩ | ⟨g', gc, cur, rfl, h1, h2, h3, h4, h5, h6⟩
  · cases hg
  · injection hg with hg
    obtain rfl : g' = g := hg
    refine ⟨gc, rfl, h3, h1, (Array.getElem?_eq_some_iff.1 h2).1, fun p hp j hj => ?_, fun j hj => ?_⟩
    · have := hcells (p * 10 + j) _ (cellsC_get C n p j hp hj)
      rw [addr_add, Nat.zero_add] at this
      exact this
    · unfold World.frozen?
      rw [h2]
      simp

theorem eql_nilL (a : Addr) (n cap : Nat) (w : World) : (binOp .eql 24 (.slice (some a) n cap) (.slice none 0 0)).run Try.prog w = .ok (.bool false) w := by
  have h : ∀ d : Nat, (Op.equalIn (d + 1 + 1) 24 (.slice (some a) n cap) (.slice none 0 0)).run Try.prog w = .ok false w := fun d => by
    simp [Op.equalIn, run_underlying Try.underlying24]
  simp only [binOp]
  simp [Op.equal, Op.maxDepth, h 9998]
set_option maxHeartbeats 2000000 in
theorem clone_any (b off n cap : Nat) (C : Nat → Nat → Value) (w : World) (hb : b < w.heap.size) (hr : ∀ p, p < n → Lie10 w b (off + p * 10) (C p)) (h1 : ∀ v j, j < 10 → (C v j).oneCell' = true) (hn : n ≤ 1000) :
    Calls Try.prog 17 #[.slice (some ⟨b, off, none⟩) n cap] w fun e w' => ∃ g gc, e = .returned (.slice (some ⟨g, 0, none⟩) n gc) ∧ n ≤ gc ∧ w.heap.size ≤ g ∧ AR w' g n C (fun i => i) ∧ Below w.heap.size w w' := by
  have hr2 : ∀ o, ∀ p, p < n → Lie10 (w.alloc o) b (off + p * 10) (C p) := fun o p hp j hj => ((below_new w o).cell (p := ⟨b, off + p * 10 + j, none⟩) hb).trans (hr p hp j hj)
  clear hr
  have hnil := eql_nilL ⟨b, off, none⟩ n cap w
  go_enter Try.func17, Try.ntmps17
  go_wp2_with (at_builtin; refine wpList_copyL rfl _ _ rfl w.heap.size (.slice (some ⟨w.heap.size, 0, none⟩) 0 0) rfl (empty_own2 _ _ _ _ (Nat.le_refl _) _ rfl) b off n cap C rfl (hr2 _) h1 hn (by simp) ?_; intro hv w1 hown hg hv2; have hb1 := (below_new w _).trans ((grown_old (B := w.heap.size) hg (Nat.le_refl _) (by simp)).mono (Nat.le_refl _)); obtain ⟨g, hgb⟩ : ∃ g, hv.ownBlock = some g := by { rcases hv2 with h | h <;> exact ⟨_, h⟩ }; obtain ⟨gc, rfl, hgc, hge, hAR⟩ := ar_of_row hown hgb)
  go_ret
  exact ⟨g, gc, rfl, hgc, hge, hAR, hb1⟩
end Go.Proofs.Ytjdijikmdlklkaa
namespace Go.Proofs.Ytjdijikmdlklkaa
open Go.RowKit
set_option linter.unusedSimpArgs false
set_option linter.unusedVariables false

/-- No answer. -/
def LtNo (w : World) (e : Ending) (w' : World) : Prop := e = .returned (.tuple #[.slice none 0 0, .bool false]) ∧ Below w.heap.size w w'

set_option maxHeartbeats 4000000 in
theorem lastTold_many (b n cap : Nat) (w : World) (hn : 200 < n) (hn2 : n ≤ 1048576) : Calls Try.prog 7 #[.slice (some ⟨b, 0, none⟩) n cap] w fun e w' => LtNo w e w' := by
  have hgt : (200 : Int) < (n : Int) := by omega
  go_enter Try.func7, Try.ntmps7
  go_wp2
  exact bodyPost_ret (v := .tuple #[.slice none 0 0, .bool false]) (by simp [results, Try.results7, go_sem]) rfl ⟨rfl, Below.refl _ _⟩

set_option maxHeartbeats 8000000 in
theorem lastTold_bad (b n cap : Nat) (X : Nat → Wn) (G0 G1 : Nat → Nat) (w : World) (h : ToOwn w b n n X G0 G1) (hn : n ≤ 200) (hz : ToSize n X) (hbad : Hid (∃ i, i < n ∧ gK (X i) = false)) :
    Calls Try.prog 7 #[.slice (some ⟨b, 0, none⟩) n cap] w fun e w' => LtNo w e w' := by
  have hgt : ¬ (200 : Int) < (n : Int) := by omega
  go_enter Try.func7, Try.ntmps7
  go_wp2
  go_loopw [15] (fun i wr => ∃ k : Nat, k ≤ n ∧ i = .int .i64 k ∧ Hid (∀ j, j < k → gK (X j) = true) ∧ Below w.heap.size w wr) (fun i _ => n - (intOf i).toNat)
  case atStart => exact ⟨0, Nat.zero_le _, rfl, fun j hj => by omega, Below.refl _ _⟩
  case round =>
    obtain ⟨k, hk, rfl, HG, hb⟩ := hrel
    by_cases hlt : k < n
    · have hR := h.keep hb
      obtain ⟨hbl, d0, d1, d2, d3, d4, d5, d6, d7, d8, d9⟩ := hR.ent k hlt
      obtain ⟨_, o0, o1, _⟩ := hR.data k hlt
      have r0 := o0.row
      have hS : WiS (X k) := hz k hlt
      have hki : (k : Int) < (n : Int) := by omega
      have hc := fun W h => goodKey_impl (X k).m (X k).st (some ⟨G0 k, 0, none⟩) (X k).tn (X k).tn (X k).nm (X k).vl W h hS.m hS.tn hS.ts
      have e0 : goodB (X k).m (X k).tn (X k).nm (X k).vl (X k).st = gK (X k) := rfl
      rw [e0] at hc
      generalize hg : gK (X k) = g at hc
      have HGK : Hid (gK (X k) = g) := hg
      have hbs := hb.size
      clear hg e0 o0 o1 hS hR
      have k1 := hc _ (r0.keep (below_new wr (.cells #[.string (X k).m, .slice (some ⟨G0 k, 0, none⟩) (X k).tn (X k).tn, .int .i64 (X k).st, .int .i64 (X k).ver, .int .i64 (X k).c, .int .i64 (X k).s, .int .i64 (X k).lo, .int .i64 (X k).hi, .slice (some ⟨G1 k, 0, none⟩) (X k).n (X k).n, .bool (X k).fu] 45)))
      clear hc h
      go_wp2_with fail
      refine k1.mono ?_
      rintro e w2 ⟨rfl, hb2⟩
      have bw2 : Below w.heap.size w w2 := hb.trans (((below_new wr _).trans (hb2.mono (by simp))).mono hbs)
      clear k1 hb2 d0 d1 d2 d3 d4 d5 d6 d7 d8 d9 r0
      cases g
      · clear hbad
        go_wp2
        exact bodyPost_ret (v := .tuple #[.slice none 0 0, .bool false]) (by simp [results, Try.results7, go_sem]) rfl ⟨rfl, bw2⟩
      · have HG2 : Hid (∀ j, j < k + 1 → gK (X j) = true) := fun j hj => by
          by_cases e : j = k
          · rw [e]; exact HGK.out
          · exact HG.out j (by omega)
        clear HG HGK
        go_wp2
        go_roundw
        case rel => exact ⟨k + 1, by omega, by go_num, HG2, bw2⟩
        case measure => simp [intOf]; omega
    · have HN : Hid False := by
        obtain ⟨i, hi, hf⟩ := hbad.out
        have := HG.out i (by omega)
        rw [this] at hf
        cases hf
      exact HN.out.elim
end Go.Proofs.Ytjdijikmdlklkaa
