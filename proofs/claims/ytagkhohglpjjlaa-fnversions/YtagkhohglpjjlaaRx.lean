/- The reader of edits in the program: drops and adds. -/
import Derived.Test.YtagkhohglpjjlaaRd
import Derived.Test.YtagkhohglpjjlaaDp
namespace Go.Proofs.Ytagkhohglpjjlaa
open Go.RowKit
set_option linter.unusedSimpArgs false
set_option linter.unusedVariables false

/-- So many numbers from place q on. -/
def pNs (f : Nat → Int) (n : Nat) : Nat → Nat → Option (List Int × Nat)
  | 0, q => some ([], q)
  | k + 1, q => match pNs f n k q with
    | none => none
    | some (L, q1) => match rdNum f n q1 with
      | none => none
      | some (u, q2) => some (L ++ [u], q2)
def pAs (f : Nat → Int) (n : Nat) : Nat → Nat → Option (List Adm × Nat)
  | 0, q => some ([], q)
  | k + 1, q => match pAs f n k q with
    | none => none
    | some (L, q1) => match rdNum f n q1 with
      | none => none
      | some (u, q2) => match pMe f n q2 with
        | none => none
        | some (m, q3) => some (L ++ [⟨u, m⟩], q3)
theorem pNs_none {f : Nat → Int} {n k q : Nat} (h : pNs f n k q = none) : ∀ d, pNs f n (k + d) q = none
  | 0 => h
  | d + 1 => by show pNs f n (k + d + 1) q = none; unfold pNs; rw [pNs_none h d]
theorem pAs_none {f : Nat → Int} {n k q : Nat} (h : pAs f n k q = none) : ∀ d, pAs f n (k + d) q = none
  | 0 => h
  | d + 1 => by show pAs f n (k + d + 1) q = none; unfold pAs; rw [pAs_none h d]
def pDr (f : Nat → Int) (n q : Nat) : Option (List Int × Nat) :=
  match pMn f n q with
  | none => none
  | some (k, q1) => pNs f n k q1
def pAd (f : Nat → Int) (n q : Nat) : Option (List Adm × Nat) :=
  match pMn f n q with
  | none => none
  | some (k, q1) => pAs f n k q1

/-- All blocks below base but B are as they were. -/
structure KC (base B : Nat) (w w' : World) : Prop where
  os : w'.os = w.os
  tape : w'.tape = w.tape
  output : w'.output = w.output
  size : w.heap.size ≤ w'.heap.size
  block : ∀ c, c < base → c ≠ B → w'.heap[c]? = w.heap[c]?
section
variable {base B : Nat} {u w w' : World}
theorem KC.refl (base B : Nat) (w : World) : KC base B w w := ⟨rfl, rfl, rfl, Nat.le_refl _, fun _ _ _ => rfl⟩
theorem KC.trans (h : KC base B u w) (k : KC base B w w') : KC base B u w' := ⟨k.os.trans h.os, k.tape.trans h.tape, k.output.trans h.output, Nat.le_trans h.size k.size, fun c hc hne => (k.block c hc hne).trans (h.block c hc hne)⟩
theorem KC.of_mid (h : Mid B (B + 1) w w') (hb : base ≤ w.heap.size) : KC base B w w' := ⟨h.os, h.tape, h.output, h.size, fun c hc hne => h.block c (by omega) (by omega)⟩
theorem KC.of_below (h : Below base w w') : KC base B w w' := ⟨h.os, h.tape, h.output, h.size, fun c hc _ => h.block c hc⟩
theorem KC.of_grown {v : Value} (h : w.grownBy w' v.ownBlock) (hv : ∀ c, v.ownBlock = some c → base ≤ c) (hb : base ≤ w.heap.size) : KC base B w w' := ⟨h.os, h.tape, h.output, h.size, fun c hc _ => h.block c (by omega) (fun e => by have := hv c e.symm; omega)⟩
theorem KC.row (h : KC base B w w') {ao : Option Addr} {n : Nat} {f : Nat → Int} (hr : Row w ao n f) (hne : ∀ b off, ao = some ⟨b, off, none⟩ → b < base ∧ b ≠ B) : Row w' ao n f := by
  refine ⟨hr.bd, ?_⟩
  rcases hr.lies with h0 | ⟨b, off, e, hlt, hc⟩
  · exact .inl h0
  · have := hne b off e
    exact .inr ⟨b, off, e, Nat.lt_of_lt_of_le hlt h.size, fun i hi => (World.cell?_of_block (w := w) (a := ⟨b, off + i, none⟩) (h.block b this.1 this.2)).trans (hc i hi)⟩
theorem BR.grown {ao : Option Addr} {n cap q : Nat} {t : Bool} (h : BR w B ao n cap q t) (hs : w.heap.size ≤ w'.heap.size) (hb : w'.heap[B]? = w.heap[B]?) : BR w' B ao n cap q t :=
  have c := fun j => World.cell?_of_block (w := w) (w' := w') (a := ⟨B, j, none⟩) hb
  ⟨Nat.lt_of_lt_of_le h.lt hs, (c 0).trans h.c0, (c 1).trans h.c1, (c 2).trans h.c2, fun j => (World.frozen?_of_block (w := w) (w' := w') (a := ⟨B, j, none⟩) hb).trans (h.fz j)⟩
end
theorem OwnI.mid {w w' : World} {base B : Nat} {v : Value} {L : List Int} (h : OwnI w base v L) (hm : Mid B (B + 1) w w') (hB : B < base) : OwnI w' base v L := by
  refine ⟨h.bd, h.own.1, ?_⟩
  rcases h.own.2 with ⟨rfl, h0⟩ | ⟨g, cap, cur, rfl, h1, h2, h3⟩
  · exact .inl ⟨rfl, h0⟩
  · exact .inr ⟨g, cap, cur, rfl, h1, (hm.block g (Array.getElem?_eq_some_iff.1 h2).1 (by omega)).trans h2, h3⟩
theorem OwnD.mid {w w' : World} {base B : Nat} {v : Value} {L : List Adm} (h : OwnD w base v L) (hm : Mid B (B + 1) w w') (hB : B < base) : OwnD w' base v L := by
  refine h.same fun c hc => ?_
  have := h.own.lt c hc
  exact hm.block c this.2 (by omega)

section
variable (f : Nat → Int) (B bb bo n cap q : Nat) (t : Bool)
def DrU (w : World) (e : Ending) (w' : World) : Prop :=
  ∃ (v : Value) (L : List Int) (q' : Nat) (t' : Bool), e = .returned v ∧ OwnI w' w.heap.size v L ∧ L.length ≤ 24 ∧ q' ≤ n ∧ BR w' B (some ⟨bb, bo, none⟩) n cap q' t' ∧ KC w.heap.size B w w' ∧
    ((t' = false ∧ t = false ∧ pDr f n q = some (L, q')) ∨ (t' = true ∧ (t = true ∨ pDr f n q = none)))
def AdU (w : World) (e : Ending) (w' : World) : Prop :=
  ∃ (v : Value) (L : List Adm) (q' : Nat) (t' : Bool), e = .returned v ∧ OwnD w' w.heap.size v L ∧ L.length ≤ 24 ∧ q' ≤ n ∧ BR w' B (some ⟨bb, bo, none⟩) n cap q' t' ∧ KC w.heap.size B w w' ∧
    ((t' = false ∧ t = false ∧ pAd f n q = some (L, q')) ∨ (t' = true ∧ (t = true ∨ pAd f n q = none)))

set_option maxHeartbeats 3200000 in
theorem drops_u (w : World) (hB : BR w B (some ⟨bb, bo, none⟩) n cap q t) (hr : Row w (some ⟨bb, bo, none⟩) n f) (hbb : bb < w.heap.size) (hne : bb ≠ B) (hn : n ≤ 1048576) (hcap : n ≤ cap) (hq : q ≤ n) :
    Calls Try.prog 28 #[.pointer (some ⟨B, 0, none⟩)] w fun e w' => DrU f B bb bo n cap q t w e w' := by
  have hBl := hB.lt
  have hbn : ∀ b off, some (⟨bb, bo, none⟩ : Addr) = some ⟨b, off, none⟩ → b < w.heap.size ∧ b ≠ B := fun b off e => by injection e with e; injection e with e1 _ _; omega
  have HBN : Hid (∀ b off, some (⟨bb, bo, none⟩ : Addr) = some ⟨b, off, none⟩ → b < w.heap.size ∧ b ≠ B) := hbn
  clear hbn
  go_enter Try.func28, Try.ntmps28
  go_wp2_with fail
  refine (many_u f B bb bo n cap q t w hB hr hn hcap hq).mono ?_
  rintro e w1 ⟨k, q1, t1, rfl, hk, hq1, B1, M1, D1⟩
  have K1 : KC w.heap.size B w w1 := KC.of_mid M1 (Nat.le_refl _)
  clear M1
  go_wp2
  go_loopw [3, 6] (fun v i wr => ∃ (j : Nat) (L : List Int) (qj : Nat) (tj : Bool), j ≤ k ∧ i = .int .i64 j ∧ OwnI wr w.heap.size v L ∧ L.length ≤ 24 ∧ Hid (L.length = j) ∧ qj ≤ n ∧ BR wr B (some ⟨bb, bo, none⟩) n cap qj tj ∧ KC w.heap.size B w wr ∧ Hid ((tj = false ∧ t1 = false ∧ pNs f n j q1 = some (L, qj)) ∨ (tj = true ∧ (t1 = true ∨ pNs f n j q1 = none)))) (fun _ i _ => k - (intOf i).toNat)
  case atStart => exact ⟨0, [], q1, t1, Nat.zero_le _, rfl, ownI_nil _ _, by simp, rfl, hq1, B1, K1, by
    cases t1
    · exact .inl ⟨rfl, rfl, rfl⟩
    · exact .inr ⟨rfl, .inl rfl⟩⟩
  case round =>
    obtain ⟨j, L, qj, tj, hj, rfl, hO, hL, HL, hqj, Bj, Kj, HD⟩ := hrel
    have hrj := Kj.row hr HBN.out
    by_cases hlt : j < k
    · go_wp2_with fail
      refine (number_u f B bb bo n cap qj tj wr Bj hrj hn hcap hqj).mono ?_
      rintro e w2 ⟨u, q2, t2, rfl, hu, hq2, B2, M2, D2⟩
      have O2 := hO.mid M2 hBl
      have K2 := Kj.trans (KC.of_mid M2 Kj.size)
      have s2 := K2.size
      have HD2 : Hid ((t2 = false ∧ t1 = false ∧ pNs f n (j + 1) q1 = some (L ++ [(u : Int)], q2)) ∨ (t2 = true ∧ (t1 = true ∨ pNs f n (j + 1) q1 = none))) := by
        rcases HD.out with ⟨a1, a2, a3⟩ | ⟨a1, a2⟩
        · rcases D2 with ⟨b1, b2, b3⟩ | ⟨b1, b2 | b2⟩
          · left
            refine ⟨b1, a2, ?_⟩
            unfold pNs
            rw [a3]
            simp only
            rw [b3]
          · rw [a1] at b2; cases b2
          · refine .inr ⟨b1, .inr ?_⟩
            unfold pNs
            rw [a3]
            simp only
            rw [b2]
        · refine .inr ⟨?_, a2.imp_right fun h => pNs_none h 1⟩
          rcases D2 with ⟨_, b2, _⟩ | ⟨b1, _⟩
          · rw [a1] at b2; cases b2
          · exact b1
      have hub : -9223372036854775808 ≤ (u : Int) ∧ (u : Int) ≤ 9223372036854775807 := ⟨by omega, hu⟩
      have hL2 : (L ++ [(u : Int)]).length ≤ 24 := by have := HL.out; simp; omega
      have HL2 : Hid ((L ++ [(u : Int)]).length = j + 1) := by have := HL.out; simp [Hid]; omega
      have bna := below_new w2 (.cells #[.int .i64 (u : Int)] 3)
      clear HD D2 M2 hO Bj Kj hrj HL
      go_wp2_with (at_builtin; refine wpList_pushI2 rfl (.tmp 8) (.tmp 13) rfl w.heap.size _ _ L (u : Int) rfl O2 hub rfl rfl (by omega) s2 ?_; intro v8 w8 hO8 hg8)
      have K8 : KC w.heap.size B w w8 := (K2.trans (KC.of_below (bna.mono s2))).trans (KC.of_grown hg8 (fun c hc => (O2.own.lt c hc).1) (Nat.le_trans s2 bna.size))
      have B8 : BR w8 B (some ⟨bb, bo, none⟩) n cap q2 t2 := (B2.keep bna).grown hg8.size (hg8.block B (Nat.lt_of_lt_of_le (Nat.lt_of_lt_of_le hBl s2) bna.size) (fun e => by have := (O2.own.lt B e.symm).1; omega))
      go_roundw
      case rel => exact ⟨j + 1, _, q2, t2, by omega, by go_num, hO8, hL2, HL2, hq2, B8, K8, HD2⟩
      case measure => simp [intOf]; omega
    · obtain rfl : j = k := by omega
      have H : Hid ((tj = false ∧ t = false ∧ pDr f n q = some (L, qj)) ∨ (tj = true ∧ (t = true ∨ pDr f n q = none))) := by
        rcases HD.out with ⟨a1, a2, a3⟩ | ⟨a1, a2⟩
        · rcases D1 with ⟨_, b2, b3⟩ | ⟨b1, _⟩
          · left
            refine ⟨a1, b2, ?_⟩
            unfold pDr
            rw [b3]
            exact a3
          · rw [b1] at a2; cases a2
        · refine .inr ⟨a1, ?_⟩
          rcases D1 with ⟨b1, b2, b3⟩ | ⟨b1, b2 | b2⟩
          · rcases a2 with a2 | a2
            · rw [b1] at a2; cases a2
            · right
              unfold pDr
              rw [b3]
              exact a2
          · exact .inl b2
          · right
            unfold pDr
            rw [b2]
      obtain ⟨so, sc, rfl, _⟩ := hO.form
      clear HD D1 HL
      go_wp2
      go_ret
      exact ⟨_, L, qj, tj, rfl, hO, hL, hqj, Bj, Kj, H.out⟩
set_option maxHeartbeats 3200000 in
theorem adds_u (w : World) (hB : BR w B (some ⟨bb, bo, none⟩) n cap q t) (hr : Row w (some ⟨bb, bo, none⟩) n f) (hbb : bb < w.heap.size) (hne : bb ≠ B) (hn : n ≤ 1048576) (hcap : n ≤ cap) (hq : q ≤ n) :
    Calls Try.prog 29 #[.pointer (some ⟨B, 0, none⟩)] w fun e w' => AdU f B bb bo n cap q t w e w' := by
  have hBl := hB.lt
  have hbn : ∀ b off, some (⟨bb, bo, none⟩ : Addr) = some ⟨b, off, none⟩ → b < w.heap.size ∧ b ≠ B := fun b off e => by injection e with e; injection e with e1 _ _; omega
  have HBN : Hid (∀ b off, some (⟨bb, bo, none⟩ : Addr) = some ⟨b, off, none⟩ → b < w.heap.size ∧ b ≠ B) := hbn
  clear hbn
  go_enter Try.func29, Try.ntmps29
  go_wp2_with fail
  refine (many_u f B bb bo n cap q t w hB hr hn hcap hq).mono ?_
  rintro e w1 ⟨k, q1, t1, rfl, hk, hq1, B1, M1, D1⟩
  have K1 : KC w.heap.size B w w1 := KC.of_mid M1 (Nat.le_refl _)
  clear M1
  go_wp2
  go_loopw [3, 7] (fun v i wr => ∃ (j : Nat) (L : List Adm) (qj : Nat) (tj : Bool), j ≤ k ∧ i = .int .i64 j ∧ OwnD wr w.heap.size v L ∧ L.length ≤ 24 ∧ Hid (L.length = j) ∧ qj ≤ n ∧ BR wr B (some ⟨bb, bo, none⟩) n cap qj tj ∧ KC w.heap.size B w wr ∧ Hid ((tj = false ∧ t1 = false ∧ pAs f n j q1 = some (L, qj)) ∨ (tj = true ∧ (t1 = true ∨ pAs f n j q1 = none)))) (fun _ i _ => k - (intOf i).toNat)
  case atStart => exact ⟨0, [], q1, t1, Nat.zero_le _, rfl, ownD_nil _ _, by simp, rfl, hq1, B1, K1, by
    cases t1
    · exact .inl ⟨rfl, rfl, rfl⟩
    · exact .inr ⟨rfl, .inl rfl⟩⟩
  case round =>
    obtain ⟨j, L, qj, tj, hj, rfl, hO, hL, HL, hqj, Bj, Kj, HD⟩ := hrel
    have hrj := Kj.row hr HBN.out
    by_cases hlt : j < k
    · go_wp2_with fail
      refine (number_u f B bb bo n cap qj tj wr Bj hrj hn hcap hqj).mono ?_
      rintro e w2 ⟨u, q2, t2, rfl, hu, hq2, B2, M2, D2⟩
      have O2 := hO.mid M2 hBl
      have K2 := Kj.trans (KC.of_mid M2 Kj.size)
      have s2 := K2.size
      have r2 := K2.row hr HBN.out
      clear M2 hO Bj Kj hrj
      go_wp2_with fail
      refine (meta_u f B bb bo n cap q2 t2 w2 B2 r2 (by omega) hne hn hcap hq2).mono ?_
      rintro e w3 ⟨x, q3, t3, rfl, hx, hq3, B3, M3, D3⟩
      have O3 := O2.mid M3 hBl
      have K3 := K2.trans (KC.of_mid M3 s2)
      have s3 := K3.size
      have HD3 : Hid ((t3 = false ∧ t1 = false ∧ pAs f n (j + 1) q1 = some (L ++ [⟨(u : Int), x⟩], q3)) ∨ (t3 = true ∧ (t1 = true ∨ pAs f n (j + 1) q1 = none))) := by
        rcases HD.out with ⟨a1, a2, a3⟩ | ⟨a1, a2⟩
        · rcases D2 with ⟨b1, b2, b3⟩ | ⟨b1, b2 | b2⟩
          · rcases D3 with ⟨c1, c2, c3⟩ | ⟨c1, c2 | c2⟩
            · left
              refine ⟨c1, a2, ?_⟩
              unfold pAs
              rw [a3]
              simp only
              rw [b3]
              simp only
              rw [c3]
            · rw [b1] at c2; cases c2
            · refine .inr ⟨c1, .inr ?_⟩
              unfold pAs
              rw [a3]
              simp only
              rw [b3]
              simp only
              rw [c2]
          · rw [a1] at b2; cases b2
          · refine .inr ⟨?_, .inr ?_⟩
            · rcases D3 with ⟨_, c2, _⟩ | ⟨c1, _⟩
              · rw [b1] at c2; cases c2
              · exact c1
            · unfold pAs
              rw [a3]
              simp only
              rw [b2]
        · refine .inr ⟨?_, a2.imp_right fun h => pAs_none h 1⟩
          rcases D3 with ⟨_, c2, _⟩ | ⟨c1, _⟩
          · rcases D2 with ⟨_, b2, _⟩ | ⟨b1, _⟩
            · rw [a1] at b2; cases b2
            · rw [b1] at c2; cases c2
          · exact c1
      have hyb : DB ⟨(u : Int), x⟩ := ⟨⟨by show _ ≤ (u : Int); omega, hu⟩, hx⟩
      have hL2 : (L ++ [(⟨(u : Int), x⟩ : Adm)]).length ≤ 24 := by have := HL.out; simp; omega
      have HL2 : Hid ((L ++ [(⟨(u : Int), x⟩ : Adm)]).length = j + 1) := by have := HL.out; simp [Hid]; omega
      have bna := below_new w3 (.cells #[.int .i64 (u : Int), .int .i64 x.file, .string x.least, .string x.most, .int .i64 x.many] 54)
      clear HD D2 D3 M3 O2 K2 HL r2 B2
      go_wp2_with (at_builtin; refine wpList_pushD rfl (.tmp 13) (.tmp 18) rfl w.heap.size _ _ L ⟨(u : Int), x⟩ rfl O3 hyb rfl rfl (by omega) s3 ?_; intro v8 w8 hO8 hg8)
      have K8 : KC w.heap.size B w w8 := (K3.trans (KC.of_below (bna.mono s3))).trans (KC.of_grown hg8 (fun c hc => (O3.own.lt c hc).1) (Nat.le_trans s3 bna.size))
      have B8 : BR w8 B (some ⟨bb, bo, none⟩) n cap q3 t3 := (B3.keep bna).grown hg8.size (hg8.block B (Nat.lt_of_lt_of_le (Nat.lt_of_lt_of_le hBl s3) bna.size) (fun e => by have := (O3.own.lt B e.symm).1; omega))
      go_roundw
      case rel => exact ⟨j + 1, _, q3, t3, by omega, by go_num, hO8, hL2, HL2, hq3, B8, K8, HD3⟩
      case measure => simp [intOf]; omega
    · obtain rfl : j = k := by omega
      have H : Hid ((tj = false ∧ t = false ∧ pAd f n q = some (L, qj)) ∨ (tj = true ∧ (t = true ∨ pAd f n q = none))) := by
        rcases HD.out with ⟨a1, a2, a3⟩ | ⟨a1, a2⟩
        · rcases D1 with ⟨_, b2, b3⟩ | ⟨b1, _⟩
          · left
            refine ⟨a1, b2, ?_⟩
            unfold pAd
            rw [b3]
            exact a3
          · rw [b1] at a2; cases a2
        · refine .inr ⟨a1, ?_⟩
          rcases D1 with ⟨b1, b2, b3⟩ | ⟨b1, b2 | b2⟩
          · rcases a2 with a2 | a2
            · rw [b1] at a2; cases a2
            · right
              unfold pAd
              rw [b3]
              exact a2
          · exact .inl b2
          · right
            unfold pAd
            rw [b2]
      obtain ⟨so, sc, rfl, _⟩ := hO.form
      clear HD D1 HL
      go_wp2
      go_ret
      exact ⟨_, L, qj, tj, rfl, hO, hL, hqj, Bj, Kj, H.out⟩
end
end Go.Proofs.Ytagkhohglpjjlaa
