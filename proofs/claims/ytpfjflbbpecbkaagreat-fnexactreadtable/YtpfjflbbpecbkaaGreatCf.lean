/- The program's readEntries. -/
import Derived.Test.YtpfjflbbpecbkaaGreatCe
namespace Go.Proofs.YtpfjflbbpecbkaaGreat
set_option maxRecDepth 100000
open Go.RowKit
set_option linter.unusedSimpArgs false
set_option linter.unusedVariables false

/-- What readEntries leaves. -/
def REsR (f : Nat → Int) (n : Nat) (w : World) (e : Ending) (w' : World) : Prop :=
  ∃ v t, e = .returned (.tuple #[v, .bool (!t)]) ∧ Below w.heap.size w w' ∧ ((t = false ∧ ∃ k X V, RdK f n X k n ∧ k ≤ n ∧ OutH w' (w.heap.size + 1) v k X V) ∨ (t = true ∧ ∀ Y m, ¬ RdK f n Y m n))
/-- How many rounds are left at most. -/
def msr (n B : Nat) (w : World) : Nat := match w.cell? ⟨B, 2, none⟩ with
  | some (.bool true) => 0
  | _ => n + 1 - (match w.cell? ⟨B, 1, none⟩ with | some x => (intOf x).toNat | none => 0)
theorem msr_eq {w : World} {B n cap q : Nat} {ao : Option Addr} {t : Bool} (h : BR w B ao n cap q t) : msr n B w = if t = true then 0 else n + 1 - q := by
  unfold msr
  rw [h.c2, h.c1]
  cases t <;> simp [intOf]
theorem wpList_pushH2 {w : World} {ops : Array Oper} {rest : List Oper} {o : Oper} {a : Act} {Q : Exit → Act → World → Prop} (nb : Nat) (hnb : w.heap.size = nb) (hgd : o.guard = none) (s y : Operand)
    (ho : o.op = .call { callee := .builtin .append, args := #[s, y], argTypes := #[23, 23] })
    (base : Nat) (v hv : Value) (n : Nat) (X : Nat → Ent) (V : Nat → Value) (x : Ent) (hs : a.eval s = v) (h : OutH w base v n X V) (hx : HRow w base hv x v) (hnw : ∀ i, i < n → ∀ k, (V i).ownBlock = some k → hv.ownBlock ≠ some k)
    (hy : a.eval y = .slice (some ⟨nb, 0, none⟩) 1 1) (hn : n ≤ 1048576) (hbase : base ≤ w.heap.size) (h1 : hv.oneCell' = true)
    (hk : ∀ v' w', OutH w' base v' (n + 1) (fun i => if i = n then x else X i) (fun i => if i = n then hv else V i) → (w.alloc (.cells #[.string x.key, .int .i64 x.seq, .int .i64 x.kind, .int .i64 x.c, .int .i64 x.s, .int .i64 x.lo, .int .i64 x.hi, hv, .bool x.fu] 50)).grownBy w' v.ownBlock → wpList Tryz.prog ops Q rest (a.put o.dst v') w') :
    wpList Tryz.prog ops Q (o :: rest) a (w.alloc (.cells #[.string x.key, .int .i64 x.seq, .int .i64 x.kind, .int .i64 x.c, .int .i64 x.s, .int .i64 x.lo, .int .i64 x.hi, hv, .bool x.fu] 50)) := by
  subst hnb
  exact wpList_pushH hgd s y ho base v hv n X V x hs h hx hnw hy hn hbase h1 hk
theorem wpList_pushO2 {w : World} {ops : Array Oper} {rest : List Oper} {o : Oper} {a : Act} {Q : Exit → Act → World → Prop} (nb : Nat) (hnb : w.heap.size = nb) (hgd : o.guard = none) (s y : Operand)
    (ho : o.op = .call { callee := .builtin .append, args := #[s, y], argTypes := #[23, 23] })
    (base : Nat) (v hv : Value) (n : Nat) (C : List Value) (x : Ent) (hs : a.eval s = v) (h : w.ownsRow base 50 9 v n C)
    (hy : a.eval y = .slice (some ⟨nb, 0, none⟩) 1 1) (hn : n ≤ 1048576) (hbase : base ≤ w.heap.size) (h1 : hv.oneCell' = true)
    (hk : ∀ v' w', w'.ownsRow base 50 9 v' (n + 1) (C ++ ecells x hv) → (w.alloc (.cells #[.string x.key, .int .i64 x.seq, .int .i64 x.kind, .int .i64 x.c, .int .i64 x.s, .int .i64 x.lo, .int .i64 x.hi, hv, .bool x.fu] 50)).grownBy w' v.ownBlock → wpList Tryz.prog ops Q rest (a.put o.dst v') w') :
    wpList Tryz.prog ops Q (o :: rest) a (w.alloc (.cells #[.string x.key, .int .i64 x.seq, .int .i64 x.kind, .int .i64 x.c, .int .i64 x.s, .int .i64 x.lo, .int .i64 x.hi, hv, .bool x.fu] 50)) := by
  subst hnb
  exact wpList_pushO hgd s y ho base v hv n C x hs h hy hn hbase h1 hk
theorem Nm.below {w w' : World} {base B : Nat} (h : Nm w.heap.size B w w') (hB : base ≤ B) (hw : base ≤ w.heap.size) : Below base w w' := ⟨h.os, h.tape, h.output, h.size, fun k hk => h.block k (by omega) (by omega)⟩
theorem BR.grown {w w' : World} {B : Nat} {ao : Option Addr} {n cap q : Nat} {t : Bool} {row : Option Nat} (h : BR w B ao n cap q t) (hg : w.grownBy w' row) (hne : some B ≠ row) : BR w' B ao n cap q t :=
  have cl : ∀ j, w'.cell? ⟨B, j, none⟩ = w.cell? ⟨B, j, none⟩ := fun j => World.cell?_of_block (w := w) (a := ⟨B, j, none⟩) (hg.block B h.lt hne)
  ⟨Nat.lt_of_lt_of_le h.lt hg.size, (cl _).trans h.c0, (cl _).trans h.c1, (cl _).trans h.c2, fun j => (World.frozen?_of_block (w := w) (a := ⟨B, j, none⟩) (hg.block B h.lt hne)).trans (h.fz j)⟩
/-- The loop's state. -/
def RLi (f : Nat → Int) (bb bo n cap B : Nat) (w : World) (v a : Value) (wr : World) : Prop :=
  ∃ (k q : Nat) (t : Bool) (s : ByteArray) (ao : Option Addr) (c : Nat), a = .string s ∧ v = .slice ao k c ∧ BR wr B (some ⟨bb, bo, none⟩) n cap q t ∧ q ≤ n ∧ k ≤ n + 1 ∧ Below B w wr ∧
    Hid ((t = false ∧ k ≤ q ∧ s.size ≤ q ∧ ∃ X V, RdK f n X k q ∧ (k = 0 ∨ s = (X (k - 1)).key) ∧ OutH wr (B + 1) v k X V) ∨ (t = true ∧ ∀ Y m, ¬ RdK f n Y m n))
set_option maxHeartbeats 3200000 in
theorem readEntries_any (f : Nat → Int) (bb bo n cap : Nat) (w : World) (hr : Row w (some ⟨bb, bo, none⟩) n f) (hbb : bb < w.heap.size) (hn : n ≤ 1048576) (hcap : n ≤ cap) :
    Calls Tryz.prog 62 #[.slice (some ⟨bb, bo, none⟩) n cap] w fun e w' => REsR f n w e w' := by
  have hB0 := below_new w (.cells #[.slice (some ⟨bb, bo, none⟩) n cap, .int .i64 0, .bool false] 113)
  have B0 : BR (w.alloc (.cells #[.slice (some ⟨bb, bo, none⟩) n cap, .int .i64 0, .bool false] 113)) w.heap.size (some ⟨bb, bo, none⟩) n cap 0 false := by
    refine ⟨by simp, ?_, ?_, ?_, fun j => ?_⟩ <;> simp [go_sem]
  go_enter Tryz.func62, Tryz.ntmps62
  go_wp2
  generalize w.alloc (.cells #[.slice (some ⟨bb, bo, none⟩) n cap, .int .i64 0, .bool false] 113) = w0 at *
  go_loopw [5, 6] (fun v a wr => RLi f bb bo n cap w.heap.size w v a wr) (fun _ _ wr => msr n w.heap.size wr)
  case atStart => exact ⟨0, 0, false, ⟨#[]⟩, none, 0, rfl, rfl, B0, by omega, by omega, hB0, .inl ⟨rfl, by omega, by decide, fun _ => ⟨⟨#[]⟩, 0, 0, 0, 0, 0, 0, 0, fun _ => 0, false⟩, _, RdK.zero _ _ _, .inl rfl, outH_nil _ _ _⟩⟩
  case round =>
    obtain ⟨k, q, t, s, ao, c, rfl, rfl, BR1, hq, hk, bw, HI⟩ := hrel
    have BR1' := BR1
    obtain ⟨_, d0, d1, d2, dz⟩ := BR1'
    by_cases hc : q < n ∧ t = false
    · obtain ⟨hqn, rfl⟩ := hc
      have hqi : (q : Int) < (n : Int) := by omega
      obtain ⟨_, hkq, hsq, X, V, hRd, hah, hO⟩ := (HI.out).resolve_right (by rintro ⟨h, _⟩; cases h)
      by_cases hk4 : k % 4 = 0
      · have hk4i : (k : Int) % 4 = 0 := by omega
        have HA : ahR X k = ⟨#[]⟩ := if_pos hk4
        have hcall := entry_any f w.heap.size bb bo n cap q false ⟨#[]⟩ (by decide) wr BR1 (hr.keep bw) (by have := bw.size; omega) (by omega) hn hcap hq
        go_wp2_with fail
        refine hcall.mono ?_
        rintro e w1 ⟨x, A, c1, q1, t1, rfl, hq1, BRb, Nb, Db⟩
        have hO1 := hO.nm Nb (by omega)
        have hwr := bw.size
        have hs1 := Nb.size
        have bw1 : Below w.heap.size w w1 := bw.trans (Nb.below (Nat.le_refl _) hwr)
        have bE := below_new w1 (.cells #[.string x.key, .int .i64 x.seq, .int .i64 x.kind, .int .i64 x.c, .int .i64 x.s, .int .i64 x.lo, .int .i64 x.hi, .slice A x.n c1, .bool x.fu] 50)
        have bE2 := below_new (w1.alloc (.cells #[.string x.key, .int .i64 x.seq, .int .i64 x.kind, .int .i64 x.c, .int .i64 x.s, .int .i64 x.lo, .int .i64 x.hi, .slice A x.n c1, .bool x.fu] 50)) (.cells #[.string x.key, .int .i64 x.seq, .int .i64 x.kind, .int .i64 x.c, .int .i64 x.s, .int .i64 x.lo, .int .i64 x.hi, .slice A x.n c1, .bool x.fu] 50)
        have hsz1 : (w1.alloc (.cells #[.string x.key, .int .i64 x.seq, .int .i64 x.kind, .int .i64 x.c, .int .i64 x.s, .int .i64 x.lo, .int .i64 x.hi, .slice A x.n c1, .bool x.fu] 50)).heap.size = w1.heap.size + 1 := by simp
        have hlt := hO.own.lt
        have nB : some w.heap.size ≠ (Value.slice ao k c).ownBlock := fun e => by have := (hlt _ e.symm).1; omega
        have nE : some w1.heap.size ≠ (Value.slice ao k c).ownBlock := fun e => by have := (hlt _ e.symm).2; omega
        have BR2 := (BRb.keep bE).keep bE2
        have xc : ((w1.alloc (.cells #[.string x.key, .int .i64 x.seq, .int .i64 x.kind, .int .i64 x.c, .int .i64 x.s, .int .i64 x.lo, .int .i64 x.hi, .slice A x.n c1, .bool x.fu] 50)).alloc (.cells #[.string x.key, .int .i64 x.seq, .int .i64 x.kind, .int .i64 x.c, .int .i64 x.s, .int .i64 x.lo, .int .i64 x.hi, .slice A x.n c1, .bool x.fu] 50)).cell? ⟨w1.heap.size, 0, none⟩ = some (.string x.key) := (bE2.cell (p := ⟨w1.heap.size, 0, none⟩) (show w1.heap.size < _ from by rw [hsz1]; exact Nat.lt_succ_self _)).trans (by simp [go_sem])
        have bw2 : Below w.heap.size w ((w1.alloc (.cells #[.string x.key, .int .i64 x.seq, .int .i64 x.kind, .int .i64 x.c, .int .i64 x.s, .int .i64 x.lo, .int .i64 x.hi, .slice A x.n c1, .bool x.fu] 50)).alloc (.cells #[.string x.key, .int .i64 x.seq, .int .i64 x.kind, .int .i64 x.c, .int .i64 x.s, .int .i64 x.lo, .int .i64 x.hi, .slice A x.n c1, .bool x.fu] 50)) := (bw1.trans (bE.mono (by omega))).trans (bE2.mono (by simp; omega))
        rcases Db with ⟨rfl, _, hEY, hOwn⟩ | ⟨rfl, hno⟩
        · have hRd' := hRd.step hqn (HA ▸ hEY)
          have hsz := ey_size hEY
          have HR : HRow w1 (w.heap.size + 1) (.slice A x.n c1) x (.slice ao k c) := by
            refine ⟨A, c1, rfl, ?_⟩
            rcases hOwn with h | ⟨h8, G, h1, h2, h3⟩
            · exact .inl h
            · refine .inr ⟨G, h1, by have := BR1.lt; omega, by rw [h8]; exact h3, fun e => ?_⟩
              have := (hlt _ e).2
              omega
          have HN : Hid (∀ i, i < k → ∀ z, (V i).ownBlock = some z → (Value.slice A x.n c1).ownBlock ≠ some z) := fun i hi z hz h2 => by
            have hz2 := ((hO.row i hi).at z hz).2
            rcases hOwn with h | ⟨h8, G, h1, h3, _⟩
            · rw [h.2] at h2; simp [Value.ownBlock] at h2
            · rw [h1] at h2
              have e : G = z := by simpa [Value.ownBlock] using h2
              omega
          go_wp2_with (at_builtin; refine wpList_pushH2 (w := w1.alloc (.cells #[.string x.key, .int .i64 x.seq, .int .i64 x.kind, .int .i64 x.c, .int .i64 x.s, .int .i64 x.lo, .int .i64 x.hi, .slice A x.n c1, .bool x.fu] 50)) (w1.heap.size + 1) (by simp) rfl (.tmp 26) (.tmp 28) rfl (w.heap.size + 1) (.slice ao k c) (.slice A x.n c1) k X V x rfl (hO1.keep bE) (HR.keep bE) HN.out rfl (by omega) (by rw [hsz1]; omega) rfl ?_; intro v2 w2 hO2 hg2; obtain ⟨ao2, c2, rfl⟩ := ownsRow_form hO2.own; have xc2 := hg2.cell xc nE)
          have BR3 := BR2.grown hg2 nB
          have bw3 := bw2.grown hg2 bw2.size (fun k hk => by have := (hlt _ hk).1; omega)
          go_wp2
          refine ⟨⟨k + 1, q1, false, x.key, ao2, c2, rfl, rfl, BR3, hq1, by omega, bw3, .inl ⟨rfl, by omega, ?_, _, _, hRd', .inr (by simp), hO2⟩⟩, ?_⟩
          · have e0 : (⟨#[]⟩ : ByteArray).size = 0 := rfl
            omega
          · rw [msr_eq BR3, msr_eq BR1, if_neg (by decide), if_neg (by decide)]
            omega
        · have hno' := hno.resolve_left (by decide)
          go_wp2_with (at_builtin; refine wpList_pushO2 (w := w1.alloc (.cells #[.string x.key, .int .i64 x.seq, .int .i64 x.kind, .int .i64 x.c, .int .i64 x.s, .int .i64 x.lo, .int .i64 x.hi, .slice A x.n c1, .bool x.fu] 50)) (w1.heap.size + 1) (by simp) rfl (.tmp 26) (.tmp 28) rfl (w.heap.size + 1) (.slice ao k c) (.slice A x.n c1) k _ x rfl (hO1.keep bE).own rfl (by omega) (by rw [hsz1]; omega) rfl ?_; intro v2 w2 hO2 hg2; obtain ⟨ao2, c2, rfl⟩ := ownsRow_form hO2; have xc2 := hg2.cell xc nE)
          have BR3 := BR2.grown hg2 nB
          have bw3 := bw2.grown hg2 bw2.size (fun k hk => by have := (hlt _ hk).1; omega)
          go_wp2
          refine ⟨⟨k + 1, q1, true, x.key, ao2, c2, rfl, rfl, BR3, hq1, by omega, bw3, .inr ⟨rfl, rdK_torn hRd hqn (fun y q'' h => hno' y q'' (HA ▸ h))⟩⟩, ?_⟩
          rw [msr_eq BR3, msr_eq BR1, if_pos rfl, if_neg (by decide)]
          omega
      · have hk4i : ¬ (k : Int) % 4 = 0 := by omega
        have HA : ahR X k = s := by
          unfold ahR
          rw [if_neg hk4]
          rcases hah with h | h
          · omega
          · exact h.symm
        have hcall := entry_any f w.heap.size bb bo n cap q false s (by omega) wr BR1 (hr.keep bw) (by have := bw.size; omega) (by omega) hn hcap hq
        go_wp2_with fail
        refine hcall.mono ?_
        rintro e w1 ⟨x, A, c1, q1, t1, rfl, hq1, BRb, Nb, Db⟩
        have hO1 := hO.nm Nb (by omega)
        have hwr := bw.size
        have hs1 := Nb.size
        have bw1 : Below w.heap.size w w1 := bw.trans (Nb.below (Nat.le_refl _) hwr)
        have bE := below_new w1 (.cells #[.string x.key, .int .i64 x.seq, .int .i64 x.kind, .int .i64 x.c, .int .i64 x.s, .int .i64 x.lo, .int .i64 x.hi, .slice A x.n c1, .bool x.fu] 50)
        have bE2 := below_new (w1.alloc (.cells #[.string x.key, .int .i64 x.seq, .int .i64 x.kind, .int .i64 x.c, .int .i64 x.s, .int .i64 x.lo, .int .i64 x.hi, .slice A x.n c1, .bool x.fu] 50)) (.cells #[.string x.key, .int .i64 x.seq, .int .i64 x.kind, .int .i64 x.c, .int .i64 x.s, .int .i64 x.lo, .int .i64 x.hi, .slice A x.n c1, .bool x.fu] 50)
        have hsz1 : (w1.alloc (.cells #[.string x.key, .int .i64 x.seq, .int .i64 x.kind, .int .i64 x.c, .int .i64 x.s, .int .i64 x.lo, .int .i64 x.hi, .slice A x.n c1, .bool x.fu] 50)).heap.size = w1.heap.size + 1 := by simp
        have hlt := hO.own.lt
        have nB : some w.heap.size ≠ (Value.slice ao k c).ownBlock := fun e => by have := (hlt _ e.symm).1; omega
        have nE : some w1.heap.size ≠ (Value.slice ao k c).ownBlock := fun e => by have := (hlt _ e.symm).2; omega
        have BR2 := (BRb.keep bE).keep bE2
        have xc : ((w1.alloc (.cells #[.string x.key, .int .i64 x.seq, .int .i64 x.kind, .int .i64 x.c, .int .i64 x.s, .int .i64 x.lo, .int .i64 x.hi, .slice A x.n c1, .bool x.fu] 50)).alloc (.cells #[.string x.key, .int .i64 x.seq, .int .i64 x.kind, .int .i64 x.c, .int .i64 x.s, .int .i64 x.lo, .int .i64 x.hi, .slice A x.n c1, .bool x.fu] 50)).cell? ⟨w1.heap.size, 0, none⟩ = some (.string x.key) := (bE2.cell (p := ⟨w1.heap.size, 0, none⟩) (show w1.heap.size < _ from by rw [hsz1]; exact Nat.lt_succ_self _)).trans (by simp [go_sem])
        have bw2 : Below w.heap.size w ((w1.alloc (.cells #[.string x.key, .int .i64 x.seq, .int .i64 x.kind, .int .i64 x.c, .int .i64 x.s, .int .i64 x.lo, .int .i64 x.hi, .slice A x.n c1, .bool x.fu] 50)).alloc (.cells #[.string x.key, .int .i64 x.seq, .int .i64 x.kind, .int .i64 x.c, .int .i64 x.s, .int .i64 x.lo, .int .i64 x.hi, .slice A x.n c1, .bool x.fu] 50)) := (bw1.trans (bE.mono (by omega))).trans (bE2.mono (by simp; omega))
        rcases Db with ⟨rfl, _, hEY, hOwn⟩ | ⟨rfl, hno⟩
        · have hRd' := hRd.step hqn (HA ▸ hEY)
          have hsz := ey_size hEY
          have HR : HRow w1 (w.heap.size + 1) (.slice A x.n c1) x (.slice ao k c) := by
            refine ⟨A, c1, rfl, ?_⟩
            rcases hOwn with h | ⟨h8, G, h1, h2, h3⟩
            · exact .inl h
            · refine .inr ⟨G, h1, by have := BR1.lt; omega, by rw [h8]; exact h3, fun e => ?_⟩
              have := (hlt _ e).2
              omega
          have HN : Hid (∀ i, i < k → ∀ z, (V i).ownBlock = some z → (Value.slice A x.n c1).ownBlock ≠ some z) := fun i hi z hz h2 => by
            have hz2 := ((hO.row i hi).at z hz).2
            rcases hOwn with h | ⟨h8, G, h1, h3, _⟩
            · rw [h.2] at h2; simp [Value.ownBlock] at h2
            · rw [h1] at h2
              have e : G = z := by simpa [Value.ownBlock] using h2
              omega
          go_wp2_with (at_builtin; refine wpList_pushH2 (w := w1.alloc (.cells #[.string x.key, .int .i64 x.seq, .int .i64 x.kind, .int .i64 x.c, .int .i64 x.s, .int .i64 x.lo, .int .i64 x.hi, .slice A x.n c1, .bool x.fu] 50)) (w1.heap.size + 1) (by simp) rfl (.tmp 26) (.tmp 28) rfl (w.heap.size + 1) (.slice ao k c) (.slice A x.n c1) k X V x rfl (hO1.keep bE) (HR.keep bE) HN.out rfl (by omega) (by rw [hsz1]; omega) rfl ?_; intro v2 w2 hO2 hg2; obtain ⟨ao2, c2, rfl⟩ := ownsRow_form hO2.own; have xc2 := hg2.cell xc nE)
          have BR3 := BR2.grown hg2 nB
          have bw3 := bw2.grown hg2 bw2.size (fun k hk => by have := (hlt _ hk).1; omega)
          go_wp2
          refine ⟨⟨k + 1, q1, false, x.key, ao2, c2, rfl, rfl, BR3, hq1, by omega, bw3, .inl ⟨rfl, by omega, ?_, _, _, hRd', .inr (by simp), hO2⟩⟩, ?_⟩
          · have e0 : (⟨#[]⟩ : ByteArray).size = 0 := rfl
            omega
          · rw [msr_eq BR3, msr_eq BR1, if_neg (by decide), if_neg (by decide)]
            omega
        · have hno' := hno.resolve_left (by decide)
          go_wp2_with (at_builtin; refine wpList_pushO2 (w := w1.alloc (.cells #[.string x.key, .int .i64 x.seq, .int .i64 x.kind, .int .i64 x.c, .int .i64 x.s, .int .i64 x.lo, .int .i64 x.hi, .slice A x.n c1, .bool x.fu] 50)) (w1.heap.size + 1) (by simp) rfl (.tmp 26) (.tmp 28) rfl (w.heap.size + 1) (.slice ao k c) (.slice A x.n c1) k _ x rfl (hO1.keep bE).own rfl (by omega) (by rw [hsz1]; omega) rfl ?_; intro v2 w2 hO2 hg2; obtain ⟨ao2, c2, rfl⟩ := ownsRow_form hO2; have xc2 := hg2.cell xc nE)
          have BR3 := BR2.grown hg2 nB
          have bw3 := bw2.grown hg2 bw2.size (fun k hk => by have := (hlt _ hk).1; omega)
          go_wp2
          refine ⟨⟨k + 1, q1, true, x.key, ao2, c2, rfl, rfl, BR3, hq1, by omega, bw3, .inr ⟨rfl, rdK_torn hRd hqn (fun y q'' h => hno' y q'' (HA ▸ h))⟩⟩, ?_⟩
          rw [msr_eq BR3, msr_eq BR1, if_pos rfl, if_neg (by decide)]
          omega
    · rcases Nat.lt_or_ge q n with hqn | hqn
      · obtain rfl : t = true := by
          cases t
          · exact absurd ⟨hqn, rfl⟩ hc
          · rfl
        have hqi : (q : Int) < (n : Int) := by omega
        have HT : ∀ Y m, ¬ RdK f n Y m n := by
          rcases HI.out with ⟨h, _⟩ | ⟨_, h⟩
          · cases h
          · exact h
        go_wp2
        go_region
        go_wp2
        exact bodyPost_ret (v := .tuple #[.slice ao k c, .bool false]) (by simp [results, Tryz.results62, go_sem]) rfl ⟨_, true, rfl, bw.drew, .inr ⟨rfl, HT⟩⟩
      · obtain rfl : q = n := by omega
        have hqi : ¬ (q : Int) < (q : Int) := by omega
        go_wp2
        go_region
        go_wp2
        refine bodyPost_ret (v := .tuple #[.slice ao k c, .bool (!t)]) (by simp [results, Tryz.results62, go_sem]) rfl ⟨_, t, rfl, bw.drew, ?_⟩
        rcases HI.out with ⟨h, h1, h2, X, V, h3, h4, h5⟩ | h
        · exact .inl ⟨h, k, X, V, h3, h1, h5.keep (Below.refl _ _).drew⟩
        · exact .inr h
end Go.Proofs.YtpfjflbbpecbkaaGreat
