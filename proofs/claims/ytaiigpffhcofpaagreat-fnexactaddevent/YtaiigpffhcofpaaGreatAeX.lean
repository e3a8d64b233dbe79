/- The model's agg of one value with its list told; appends of windows; slices of windows. / A window put in among windows, in another list. -/
import Derived.Test.YtaiigpffhcofpaaGreatAeM
import Derived.Test.YtaiigpffhcofpaaGreatIo
namespace Go.Proofs.YtaiigpffhcofpaaGreat
set_option maxRecDepth 100000
open Go.RowKit
set_option linter.unusedSimpArgs false
set_option linter.unusedVariables false

/-- An agg of one value, its list told. -/
def OfO (v : Int) (f : Nat → Int) (w : World) (e : Ending) (w' : World) : Prop :=
  ∃ g, e = .returned (.agg #[.int .i64 1, .int .i64 v, .int .i64 v, .int .i64 v, .slice (some ⟨g, 0, none⟩) 8 8, .bool false]) ∧ w.heap.size ≤ g ∧ w'.ownsRow w.heap.size 3 1 (.slice (some ⟨g, 0, none⟩) 8 8) 8 (icells f 8) ∧ Below w.heap.size w w'
theorem set8 {q : Nat} (hq : q < 8) : (icells (fun _ => 0) 8).set q (.int .i64 1) = icells (fun i => if i = q then 1 else 0) 8 := by
  have : q = 0 ∨ q = 1 ∨ q = 2 ∨ q = 3 ∨ q = 4 ∨ q = 5 ∨ q = 6 ∨ q = 7 := by omega
  rcases this with rfl | rfl | rfl | rfl | rfl | rfl | rfl | rfl <;> rfl
set_option maxRecDepth 100000 in
set_option maxHeartbeats 4000000 in
theorem l4Of_own (v : Int) (w : World) (hv : isV v = true) :
    Calls Tryz.prog 25 #[.int .i64 v] w fun e w' => OfO v (oA v).f w e w' := by
  obtain ⟨q, hq, eq⟩ := bk_nat v
  have hcall : ∀ W, Calls Tryz.prog 43 #[.int .i64 v] W fun e w' => e = .returned (.int .i64 (q : Int)) ∧ w' = W := fun W => by rw [← eq]; exact l4Bucket_any v W hv
  rw [oA_f eq]
  clear eq
  obtain ⟨i0, hi, hz0, hz1, hz2⟩ := info_parts Tryz.infoInt
  have hB := below_new w (.cells #[.int .i64 0, .int .i64 0, .int .i64 0, .int .i64 0, .slice none 0 0, .bool false] 56)
  have R0 := AAt.new w 0 0 0 0 (.slice none 0 0) false 56
  have F0 : ∀ j, (w.alloc (.cells #[.int .i64 0, .int .i64 0, .int .i64 0, .int .i64 0, .slice none 0 0, .bool false] 56)).frozen? ⟨w.heap.size, j, none⟩ = false := fun j => by simp [go_sem]
  go_enter Tryz.func25, Tryz.ntmps25
  go_wp2_with (at_make; generalize w.alloc (.cells #[.int .i64 0, .int .i64 0, .int .i64 0, .int .i64 0, .slice none 0 0, .bool false] 56) = w0 at hB R0 F0 ⊢; refine wpList_make_full _ rfl (.const (.int .i64 8)) (.const (.int .i64 8)) 54 rfl w0.heap.size 3 i0 (.int .i64 0) 1 Tryz.underlying54 hi hz0 hz1 .i64 .i64 _ _ 8 rfl rfl rfl rfl (by rw [hz2]; omega) (by unfold maxLen; omega) (Nat.le_refl _) ?_; intro w1 hown hgrow; have hb1 : Below w0.heap.size w0 w1 := (Below.refl _ _).grown hgrow (Nat.le_refl _) (fun k h => by simp at h))
  have hGl : w0.heap.size < w1.heap.size := by
    rcases hown.2 with ⟨h, _⟩ | ⟨g', cap', cur, h, _, hg, _⟩
    · simp at h
    · simp at h; obtain ⟨rfl, _⟩ := h
      exact (Array.getElem?_eq_some_iff.1 hg).1
  have oG := iown_of_made hown hGl
  have oR := ownsRow_mono hown (base' := w.heap.size) hB.size
  rw [made8] at oR
  have hB2 := below_new w1 (.cells #[.int .i64 1, .int .i64 v, .int .i64 v, .int .i64 v, .slice (some ⟨w0.heap.size, 0, none⟩) 8 8, .bool false] 56)
  have A4 := AAt.new w1 1 v v v (.slice (some ⟨w0.heap.size, 0, none⟩) 8 8) false 56
  have z4 : ∀ j, (w1.alloc (.cells #[.int .i64 1, .int .i64 v, .int .i64 v, .int .i64 v, .slice (some ⟨w0.heap.size, 0, none⟩) 8 8, .bool false] 56)).frozen? ⟨w1.heap.size, j, none⟩ = false := fun j => by simp [go_sem]
  have R1 := R0.keep hb1
  have R4 := R1.keep hB2
  have F4 := fun j => (hB2.frozen (p := ⟨w.heap.size, j, none⟩) R1.lt).trans ((hb1.frozen (p := ⟨w.heap.size, j, none⟩) R0.lt).trans (F0 j))
  have H4 := oG.keep hB2
  have oR := ownsRow_keep oR hB2
  have hlt : w.heap.size < w1.heap.size := R1.lt
  have hGw : w.heap.size ≠ w0.heap.size := by have := R0.lt; omega
  have hwG : w.heap.size ≤ w0.heap.size := hB.size
  have bw4 : Below w.heap.size w (w1.alloc (.cells #[.int .i64 1, .int .i64 v, .int .i64 v, .int .i64 v, .slice (some ⟨w0.heap.size, 0, none⟩) 8 8, .bool false] 56)) := (hB.trans (hb1.mono hB.size)).trans (hB2.mono (Nat.le_of_lt hlt))
  clear hown hgrow hb1 hB2 hB R0 F0 oG R1 hi hz0 hz1 hz2
  generalize w1.alloc (.cells #[.int .i64 1, .int .i64 v, .int .i64 v, .int .i64 v, .slice (some ⟨w0.heap.size, 0, none⟩) 8 8, .bool false] 56) = w4 at A4 z4 R4 F4 H4 bw4 oR ⊢
  generalize w0.heap.size = G at A4 R4 H4 hGw hwG hGl oR ⊢
  obtain ⟨A5, H5, R5, F5⟩ := ago_set (w1 := w1) A4 H4 R4 F4 (by omega) hGw hq
  have bw5 : Below w.heap.size w (w4.setCell ⟨G, q, none⟩ (.int .i64 1)).drew := (Below.setCell bw4 (by simpa using hwG) _).drew
  have oR5 := ((oR.stored q (.int .i64 1)).1).drew
  rw [set8 hq] at oR5
  have hc := H4.cell q hq
  have hf := H4.free q hq
  rw [Nat.zero_add] at hc hf
  obtain ⟨_, b0, b1, b2, b3, b4, b5⟩ := A4
  clear R4 F4 H4 bw4 oR
  go_region_with (first | (go_at_call 43; refine (hcall _).mono ?_; rintro e w6 ⟨rfl, rfl⟩))
  all_goals
    clear hcall b0 b1 b2 b3 b4 b5 z4 hc hf
    generalize (w4.setCell ⟨G, q, none⟩ (.int .i64 1)).drew = w5 at A5 H5 R5 F5 bw5 oR5 ⊢
    obtain ⟨_, c0, c1, c2, c3, c4, c5⟩ := A5
    obtain ⟨_, r0, r1, r2, r3, r4, r5⟩ := R5
    go_wp2
    show bodyPost Tryz.prog Tryz.f25 (fun e w' => OfO v (fun i => if i = q then 1 else 0) w e w') _ _ _
    refine bodyPost_ret (v := .agg #[.int .i64 1, .int .i64 v, .int .i64 v, .int .i64 v, .slice (some ⟨G, 0, none⟩) 8 8, .bool false]) (by simp [results, Tryz.results25, go_sem, r0, r1, r2, r3, r4, r5]) rfl ⟨G, rfl, hwG, ?_, ?_⟩
    · repeat' refine ownsRow_others ?_ (Others.setCell _ _ _ _) (fun hk => by injection hk with hk; exact hGw hk.symm)
      exact oR5
    · repeat' refine Below.setCell ?_ (by first | (simp; done) | (simp; omega)) _
      exact bw5


/-- Windows put behind windows of the call's own. -/
theorem appW (w : World) (base : Nat) (v0 : Value) (m : Nat) (xs : List Value) (h0 : w.ownsRow base 59 11 v0 m xs) (ao : Option Addr) (n hc : Nat) (cs : List Value) (hl : cs.length = n * 11)
    (hrd : n = 0 ∨ ∃ b off, ao = some ⟨b, off, none⟩ ∧ ∀ j u, cs[j]? = some u → w.cell? ⟨b, off + j, none⟩ = some u) (h1 : ∀ u ∈ cs, u.oneCell' = true) (hn : n ≤ 1000) (hm : m ≤ 1000) (hbase : base ≤ w.heap.size) (ty : TypeId) :
    ∃ va vc w', (Builtin.append_ #[30, 30] ty #[v0, .slice ao n hc]).run Tryz.prog w = .ok (.slice va (m + n) vc) w' ∧ w'.ownsRow base 59 11 (.slice va (m + n) vc) (m + n) (xs ++ cs) ∧ w.grownBy w' v0.ownBlock ∧ ((Value.slice va (m + n) vc).ownBlock = v0.ownBlock ∨ (Value.slice va (m + n) vc).ownBlock = some w.heap.size) := by
  obtain ⟨i0, hi, hz0, hz1, hz2⟩ := info_parts Tryz.infoWi
  have key : ∀ a : Addr, (∀ j u, cs[j]? = some u → w.cell? (a.add j) = some u) → ∃ va vc w', (Builtin.append_ #[30, 30] ty #[v0, .slice (some a) n hc]).run Tryz.prog w = .ok (.slice va (m + n) vc) w' ∧ w'.ownsRow base 59 11 (.slice va (m + n) vc) (m + n) (xs ++ cs) ∧ w.grownBy w' v0.ownBlock ∧ ((Value.slice va (m + n) vc).ownBlock = v0.ownBlock ∨ (Value.slice va (m + n) vc).ownBlock = some w.heap.size) := fun a ha => by
    obtain ⟨v', w', hr, ho, hg, _, hb⟩ := run_append_own_at (P := Tryz.prog) w base 30 ty 59 i0 _ 11 128 Tryz.underlying30 hi hz0 hz1 hz2 rfl (by decide) v0 m xs h0 a n hc cs hl ha h1 (by unfold maxLen; omega) (by omega) hbase
    obtain ⟨va, vc, rfl⟩ := ownsRow_form ho
    exact ⟨va, vc, w', hr, ho, hg, hb⟩
  by_cases hn0 : n = 0
  · subst hn0
    obtain rfl : cs = [] := List.eq_nil_of_length_eq_zero (by simpa using hl)
    cases ao with
    | some a => exact key a (fun j u hu => by simp at hu)
    | none =>
      obtain ⟨a0, c0, rfl⟩ := ownsRow_form h0
      refine ⟨a0, c0, w, ?_, by simpa using h0, ⟨rfl, rfl, rfl, Nat.le_refl _, fun _ _ _ => rfl⟩, .inl rfl⟩
      have hmc : m ≤ c0 := by
        rcases h0.2 with ⟨e, _⟩ | ⟨g, cap, cur, e, _, _, h3, _⟩
        · injection e with _ e2 e3; omega
        · injection e with _ e2 e3; omega
      cases a0 <;> simp [Builtin.append_, run_underlying Tryz.underlying30, sizeOf, typeInfo, hi, Builtin.lenOf, Builtin.firstCells, loadCells, loadCellsFrom, storeCells, hmc]
  · obtain ⟨b, off, rfl, hcl⟩ := hrd.resolve_left hn0
    exact key ⟨b, off, none⟩ (fun j u hu => by
      rw [show (⟨b, off, none⟩ : Addr).add j = ⟨b, off + j, none⟩ from by unfold Addr.add; split <;> simp_all]
      exact hcl j u hu)
/-- The first q of a slice of windows. -/
theorem run_front (va : Option Addr) (n vc q : Nat) (hq : q ≤ vc) (hv : ∃ g, va = none ∨ va = some ⟨g, 0, none⟩) (w : World) : (Instr.slice 30 (.slice va n vc) none (some (.int .i64 (q : Int))) none).run Tryz.prog w = .ok (.slice va q vc) w := by
  obtain ⟨i0, hi, hz0, hz1, hz2⟩ := info_parts Tryz.infoWi
  have h1 : (0 : Int) ≤ (q : Int) ∧ (q : Int) ≤ (vc : Int) := by omega
  obtain ⟨g, rfl | rfl⟩ := hv
  · simp [Instr.slice, Instr.sliceBounds, Instr.sliceBound, asIntOf, run_underlying Tryz.underlying30, sizeOf, typeInfo, hi, hq, Result.andThen]
  · simp [Instr.slice, Instr.sliceBounds, Instr.sliceBound, asIntOf, run_underlying Tryz.underlying30, sizeOf, typeInfo, hi, hq, Result.andThen, Addr.add]
/-- Where the rest of a slice of windows lies. -/
def vtl (va : Option Addr) (vc q : Nat) : Option Addr := if vc = q then va else va.map (·.add (q * 11))
theorem run_rest (va : Option Addr) (n vc q : Nat) (hq : q ≤ n) (hn : n ≤ vc) (w : World) : (Instr.slice 30 (.slice va n vc) (some (.int .i64 (q : Int))) none none).run Tryz.prog w = .ok (.slice (vtl va vc q) (n - q) (vc - q)) w := by
  obtain ⟨i0, hi, hz0, hz1, hz2⟩ := info_parts Tryz.infoWi
  have h1 : (0 : Int) ≤ (q : Int) ∧ (q : Int) ≤ (n : Int) := by omega
  simp [Instr.slice, Instr.sliceBounds, Instr.sliceBound, asIntOf, run_underlying Tryz.underlying30, sizeOf, typeInfo, hi, hq, hz1, Result.andThen, vtl]
theorem vtl_some {g vc q : Nat} (h : q < vc) : vtl (some ⟨g, 0, none⟩) vc q = some ⟨g, q * 11, none⟩ := by
  unfold vtl
  rw [if_neg (by omega)]
  simp [Addr.add]
  intro h; exact h.symm
end Go.Proofs.YtaiigpffhcofpaaGreat
namespace Go.Proofs.YtaiigpffhcofpaaGreat
set_option maxRecDepth 100000
open Go.RowKit
set_option linter.unusedSimpArgs false
set_option linter.unusedVariables false

set_option maxHeartbeats 1600000 in
/-- Windows with one put in, in another list. -/
theorem OutW.ins2 {w : World} {base : Nat} {so : Option Addr} {sc n i : Nat} {v' h0 h1 : Value} {X : Nat → Wn} {V : Nat → Value} {x : Wn} (h : OutW w base (.slice so n sc) n X V) (hx0 : TV w base h0 x) (hx1 : HV w base h1 x)
    (hd0 : ∀ k, h0.ownBlock = some k → (Value.slice so n sc).ownBlock ≠ some k ∧ ∀ p, p < n * 2 → (V p).ownBlock ≠ some k) (hd1 : ∀ k, h1.ownBlock = some k → (Value.slice so n sc).ownBlock ≠ some k ∧ (∀ p, p < n * 2 → (V p).ownBlock ≠ some k) ∧ h0.ownBlock ≠ some k) (hi : i ≤ n)
    (hown : w.ownsRow base 59 11 v' (n + 1) (((List.range n).flatMap fun j => wcells (X j) (V (j * 2 + 0)) (V (j * 2 + 1))).take (i * 11) ++ (wcells x h0 h1 ++ ((List.range n).flatMap fun j => wcells (X j) (V (j * 2 + 0)) (V (j * 2 + 1))).drop (i * 11))))
    (hap : ∀ k, v'.ownBlock = some k → (∀ p, p < n * 2 → (V p).ownBlock ≠ some k) ∧ h0.ownBlock ≠ some k ∧ h1.ownBlock ≠ some k) : OutW w base v' (n + 1) (inX X i x) (inV V i h0 h1) := by
  have far : ∀ (u : Value) (e' s' m' : Nat) (ys : List Value), w.ownsRow base e' s' u m' ys → (∀ k, u.ownBlock = some k → (Value.slice so n sc).ownBlock ≠ some k) → w.ownsRow base e' s' u m' ys ∧ True := fun u e' s' m' ys hu _ => ⟨hu, trivial⟩
  have k0 : ∀ j, j < n → ∀ k, (V (j * 2 + 0)).ownBlock = some k → (Value.slice so n sc).ownBlock ≠ some k := fun j hj k hk => h.apart _ (by omega) k hk
  have k1 : ∀ j, j < n → ∀ k, (V (j * 2 + 1)).ownBlock = some k → (Value.slice so n sc).ownBlock ≠ some k := fun j hj k hk => h.apart _ (by omega) k hk
  refine ⟨?_, fun j hj => ?_, fun j hj => ?_, fun p p' hp hp' hne k hk => ?_, fun p hp k hk => ?_⟩
  · have e := flat_in 11 (fun j => wcells (X j) (V (j * 2 + 0)) (V (j * 2 + 1))) (wcells x h0 h1) (fun j => rfl) i n hi
    rw [← e] at hown
    have e2 : ((List.range (n + 1)).flatMap fun j => wcells (inX X i x j) (inV V i h0 h1 (j * 2 + 0)) (inV V i h0 h1 (j * 2 + 1))) = ((List.range (n + 1)).flatMap fun j => if j < i then wcells (X j) (V (j * 2 + 0)) (V (j * 2 + 1)) else if j = i then wcells x h0 h1 else wcells (X (j - 1)) (V ((j - 1) * 2 + 0)) (V ((j - 1) * 2 + 1))) := by
      unfold List.flatMap
      congr 1
      refine List.map_congr_left fun j hj => ?_
      rw [inV0, inV1]
      unfold inX
      by_cases h1 : j < i
      · simp only [h1, if_true]
      · by_cases h2 : j = i
        · simp only [h1, h2, if_true, if_false]
          simp
        · simp only [h1, h2, if_false]
    rw [e2]
    exact hown
  · rw [inV0]
    unfold inX
    by_cases h1' : j < i
    · rw [if_pos h1', if_pos h1']; exact (far _ _ _ _ _ (h.r0 j (by omega)) (k0 j (by omega))).1
    · by_cases h2' : j = i
      · rw [if_neg h1', if_pos h2', if_neg h1', if_pos h2']; exact (far _ _ _ _ _ hx0 (fun k hk => (hd0 k hk).1)).1
      · rw [if_neg h1', if_neg h2', if_neg h1', if_neg h2']; exact (far _ _ _ _ _ (h.r0 (j - 1) (by omega)) (k0 (j - 1) (by omega))).1
  · rw [inV1]
    unfold inX
    by_cases h1' : j < i
    · rw [if_pos h1', if_pos h1']; exact (far _ _ _ _ _ (h.r1 j (by omega)) (k1 j (by omega))).1
    · by_cases h2' : j = i
      · rw [if_neg h1', if_pos h2', if_neg h1', if_pos h2']; exact (far _ _ _ _ _ hx1 (fun k hk => (hd1 k hk).1)).1
      · rw [if_neg h1', if_neg h2', if_neg h1', if_neg h2']; exact (far _ _ _ _ _ (h.r1 (j - 1) (by omega)) (k1 (j - 1) (by omega))).1
  · have key : ∀ p, p < (n + 1) * 2 → (∃ q, q < n * 2 ∧ inV V i h0 h1 p = V q ∧ (p < i * 2 ∧ q = p ∨ i * 2 + 2 ≤ p ∧ q + 2 = p)) ∨ (p = i * 2 ∧ inV V i h0 h1 p = h0) ∨ (p = i * 2 + 1 ∧ inV V i h0 h1 p = h1) := fun p hp => by
      unfold inV
      by_cases q1 : p < i * 2
      · exact .inl ⟨p, by omega, by rw [if_pos q1], .inl ⟨q1, rfl⟩⟩
      · by_cases q2 : p = i * 2
        · exact .inr (.inl ⟨q2, by rw [if_neg q1, if_pos q2]⟩)
        · by_cases q3 : p = i * 2 + 1
          · exact .inr (.inr ⟨q3, by rw [if_neg q1, if_neg q2, if_pos q3]⟩)
          · exact .inl ⟨p - 2, by omega, by rw [if_neg q1, if_neg q2, if_neg q3], .inr ⟨by omega, by omega⟩⟩
    rcases key p hp with ⟨q, hq, e2, hq2⟩ | ⟨e3, e2⟩ | ⟨e3, e2⟩ <;> rcases key p' hp' with ⟨q', hq', e2', hq2'⟩ | ⟨e3', e2'⟩ | ⟨e3', e2'⟩ <;> rw [e2] at hk <;> rw [e2']
    · exact h.dis q q' hq hq' (by omega) k hk
    · intro hh; exact (hd0 k hh).2 q hq hk
    · intro hh; exact (hd1 k hh).2.1 q hq hk
    · exact (hd0 k hk).2 q' hq'
    · omega
    · intro hh; exact (hd1 k hh).2.2 hk
    · exact (hd1 k hk).2.1 q' hq'
    · exact (hd1 k hk).2.2
    · omega
  · intro hv
    obtain ⟨a1, a2, a3⟩ := hap k hv
    unfold inV at hk
    split at hk
    · exact a1 p (by omega) hk
    · split at hk
      · exact a2 hk
      · split at hk
        · exact a3 hk
        · exact a1 (p - 2) (by omega) hk
end Go.Proofs.YtaiigpffhcofpaaGreat
