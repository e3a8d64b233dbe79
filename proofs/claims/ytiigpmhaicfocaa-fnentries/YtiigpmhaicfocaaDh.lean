/- Entries and one more, drawn. -/
import Derived.Test.YtiigpmhaicfocaaDg
namespace Go.Proofs.Ytiigpmhaicfocaa
open Go.RowKit
set_option linter.unusedSimpArgs false
set_option linter.unusedVariables false

/-- The cursor and the result's box. -/
structure PW (w w1 wr : World) (R CB : Nat) (ao : Option Addr) (n cap : Nat) (f : Nat → Int) (A : Nat) : Prop where
  C : CS w1 wr CB ao n cap f A
  RA : EAt wr R 0 zE none 0
  RF : ∀ j, wr.frozen? ⟨R, j, none⟩ = false
  ne : R < w1.heap.size ∧ R ≠ CB ∧ w.heap.size ≤ R ∧ w.heap.size ≤ CB
  bw : Below w.heap.size w w1
section
variable {w w1 wr w' : World} {R CB : Nat} {ao : Option Addr} {n cap : Nat} {f : Nat → Int} {A A' : Nat}
theorem PW.draw (h : PW w w1 wr R CB ao n cap f A) (k : CS wr w' CB ao n cap f A') : PW w w1 w' R CB ao n cap f A' := ⟨h.C.trans k, eat_grown h.RA k.gr h.ne.2.1, froz_grown h.RF h.RA.lt k.gr h.ne.2.1, h.ne, h.bw⟩
theorem PW.keep (h : PW w w1 wr R CB ao n cap f A) (hb : Below wr.heap.size wr w') : PW w w1 w' R CB ao n cap f A := ⟨h.C.keep hb, h.RA.keep hb, froz_keep h.RF h.RA.lt hb, h.ne, h.bw⟩
theorem PW.far {row : Option Nat} (h : PW w w1 wr R CB ao n cap f A) (g : wr.grownBy w' row) (hr : ∀ k, row = some k → w1.heap.size ≤ k) : PW w w1 w' R CB ao n cap f A := by
  have hn : some R ≠ row := fun e => by have := hr R e.symm; have := h.ne.1; omega
  refine ⟨h.C.far g hr, h.RA.move (Nat.lt_of_lt_of_le h.RA.lt g.size) fun j => World.cell?_of_block (w := wr) (a := ⟨R, j, none⟩) (g.block R h.RA.lt hn), fun j => (World.frozen?_of_block (w := wr) (a := ⟨R, j, none⟩) (g.block R h.RA.lt hn)).trans (h.RF j), h.ne, h.bw⟩
theorem PW.below (h : PW w w1 wr R CB ao n cap f A) : Below w.heap.size w wr := h.bw.trans (h.C.below h.ne.2.2.2)
end
/-- Entries and one more, drawn. -/
def DpO (w : World) (e : Ending) (w' : World) : Prop :=
  ∃ (m : Nat) (lo : Option Addr) (lc : Nat) (X : Nat → Ent) (x : Ent) (xo : Option Addr) (xc : Nat), e = .returned (.tuple #[.slice lo m lc, .agg #[.string x.key, .int .i64 x.seq, .int .i64 x.kind, .int .i64 x.c, .int .i64 x.s, .int .i64 x.lo, .int .i64 x.hi, .slice xo x.n xc, .bool x.fu]]) ∧ m ≤ 60 ∧ ERow w' lo m X ∧ m ≤ lc ∧ Nls lo m lc ∧ ESize m X ∧ IRow w' xo x.n x.f ∧ Sm x ∧ Below w.heap.size w w'

theorem conv2 (w : World) (a b : Int) : (convert 22 9 (.slice (some ⟨w.heap.size, 0, none⟩) 2 2)).run Try.prog (w.alloc (.cells #[.int .u8 a, .int .u8 b] 5)) = .ok (.string (strOfNums [a, b])) (w.alloc (.cells #[.int .u8 a, .int .u8 b] 5)) := by
  refine run_convert_bytes_arg (P := Try.prog) _ 22 5 Try.underlying22 Try.underlying5 w.heap.size 0 2 2 [a, b] rfl (fun i hi => ?_) 9 Try.underlying9
  have : i = 0 ∨ i = 1 := by omega
  rcases this with rfl | rfl <;> simp [go_sem]

set_option maxRecDepth 100000 in
set_option maxHeartbeats 8000000 in
theorem drawPutEntry_any (ao : Option Addr) (n cap : Nat) (f : Nat → Int) (w : World) (hr : Row w ao n f) (hn : n ≤ 1048576) :
    Calls Try.prog 4 #[.slice ao n cap] w fun e w' => DpO w e w' := by
  have P0 : PW w ((w.alloc (.cells #[.string ⟨#[]⟩, .int .i64 0, .int .i64 0, .int .i64 0, .int .i64 0, .int .i64 0, .int .i64 0, .slice none 0 0, .bool false] 28)).alloc (.cells #[.slice ao n cap, .int .i64 0, .int .u64 0] 46)) ((w.alloc (.cells #[.string ⟨#[]⟩, .int .i64 0, .int .i64 0, .int .i64 0, .int .i64 0, .int .i64 0, .int .i64 0, .slice none 0 0, .bool false] 28)).alloc (.cells #[.slice ao n cap, .int .i64 0, .int .u64 0] 46)) w.heap.size (w.heap.size + 1) ao n cap f 0 := by
    have hB := below_new w (.cells #[.string ⟨#[]⟩, .int .i64 0, .int .i64 0, .int .i64 0, .int .i64 0, .int .i64 0, .int .i64 0, .slice none 0 0, .bool false] 28)
    have RA0 : EAt (w.alloc (.cells #[.string ⟨#[]⟩, .int .i64 0, .int .i64 0, .int .i64 0, .int .i64 0, .int .i64 0, .int .i64 0, .slice none 0 0, .bool false] 28)) w.heap.size 0 zE none 0 := EAt.new w zE none 0 28
    have RF0 : ∀ j, (w.alloc (.cells #[.string ⟨#[]⟩, .int .i64 0, .int .i64 0, .int .i64 0, .int .i64 0, .int .i64 0, .int .i64 0, .slice none 0 0, .bool false] 28)).frozen? ⟨w.heap.size, j, none⟩ = false := fun j => by simp [go_sem]
    have sz0 : (w.alloc (.cells #[.string ⟨#[]⟩, .int .i64 0, .int .i64 0, .int .i64 0, .int .i64 0, .int .i64 0, .int .i64 0, .slice none 0 0, .bool false] 28)).heap.size = w.heap.size + 1 := by simp
    generalize w.alloc (.cells #[.string ⟨#[]⟩, .int .i64 0, .int .i64 0, .int .i64 0, .int .i64 0, .int .i64 0, .int .i64 0, .slice none 0 0, .bool false] 28) = w0 at *
    have b1 := below_new w0 (.cells #[.slice ao n cap, .int .i64 0, .int .u64 0] 46)
    have sz1 : (w0.alloc (.cells #[.slice ao n cap, .int .i64 0, .int .u64 0] 46)).heap.size = w0.heap.size + 1 := by simp
    rw [← sz0]
    exact ⟨⟨⟨0, 0, Nat.le_refl _, cu_new w0 _ 46⟩, cb_new (hr.keep hB) _, grown_refl _ _, by omega, hn⟩, RA0.keep b1, froz_keep RF0 RA0.lt b1, by omega, hB.trans (b1.mono hB.size)⟩
  go_enter Try.func4, Try.ntmps4
  go_wp2_with fail
  generalize (w.alloc (.cells #[.string ⟨#[]⟩, .int .i64 0, .int .i64 0, .int .i64 0, .int .i64 0, .int .i64 0, .int .i64 0, .slice none 0 0, .bool false] 28)).alloc (.cells #[.slice ao n cap, .int .i64 0, .int .u64 0] 46) = w1 at P0 ⊢
  have hl1 := P0.C.lt
  refine (entries_any P0.C.self (by omega)).mono ?_
  rintro e w2 ⟨m, lo, lc, X, V, rfl, hm, G2, K2⟩
  have P2 := P0.draw K2
  clear P0 K2
  go_wp2_with fail
  refine (one_s 30 (by omega) P2.C.self (by omega)).mono ?_
  rintro e w3 ⟨b3, rfl, K3⟩
  have P3 := P2.draw K3
  have G3 := G2.grown K3.gr (fun k e => by injection e with e; omega)
  clear P2 G2 K3
  have hne := P3.ne
  go_upto_if 13 with fail
  go_cut [5] from 14 to 37 (fun s5 wx => ∃ (m : Nat) (lo : Option Addr) (lc : Nat) (X : Nat → Ent) (V : Nat → Value), s5 = .slice lo m lc ∧ m ≤ 60 ∧ GL wx w1.heap.size (.slice lo m lc) m X V ∧ PW w w1 wx w.heap.size (w.heap.size + 1) ao n cap f 1000)
  case first =>
    cases b3
    · go_wp2
      go_meet
      exact ⟨m, lo, lc, X, V, rfl, by omega, G3, ⟨P3.C.mono (by omega), P3.RA, P3.RF, P3.ne, P3.bw⟩⟩
    · clear G3
      go_wp2
      go_loopw [5, 6] (fun u q wr => ∃ (k B : Nat) (lo : Option Addr) (lc : Nat) (X : Nat → Ent) (V : Nat → Value), u = .slice lo k lc ∧ q = .int .i64 k ∧ k ≤ 60 ∧ B + (60 - k) ≤ 600 ∧ GL wr w1.heap.size (.slice lo k lc) k X V ∧ PW w w1 wr w.heap.size (w.heap.size + 1) ao n cap f B) (fun _ q _ => 60 - (intOf q).toNat)
      case atStart => exact ⟨0, 401, none, 0, fun _ => dE, _, rfl, rfl, by omega, by omega, gl_nil _ _ _, ⟨P3.C.mono (by omega), P3.RA, P3.RF, P3.ne, P3.bw⟩⟩
      case round =>
        clear P3
        obtain ⟨k, B, lo, lc, X, V, rfl, rfl, hk, hBk, G, P⟩ := hrel
        go_wp2_with fail
        refine (pick_s 2 (by omega) P.C.self (by omega)).mono ?_
        rintro e w4 ⟨x4, rfl, x40, x41, K4⟩
        have P4 := P.draw K4
        have G4 := G.grown K4.gr (fun k e => by injection e with e; omega)
        clear P G K4
        have hw4 : IntKind.i64.wrap (60 - x4) = 60 - x4 := by rw [IntKind.wrap_i64] <;> omega
        by_cases hlt : (k : Int) < 60 - x4
        · have hd : decide ((k : Int) < 60 - x4) = true := decide_eq_true hlt
          have hw5 : IntKind.i64.wrap (100 + (k : Int)) = 100 + (k : Int) := by rw [IntKind.wrap_i64] <;> omega
          have hcv := conv2 w4
          have b5 := below_new w4 (.cells #[.int .u8 (97 + (k : Int) / 10), .int .u8 (48 + (k : Int) % 10)] 5)
          have P5 := P4.keep b5
          have G5 := G4.keep b5
          have hs5 := P5.C.gr.size
          obtain ⟨v6, w6, hrun, G6, g6⟩ := G5.push ⟨⟨#[107]⟩ ++ strOfNums [97 + (k : Int) / 10, 48 + (k : Int) % 10], 100 + (k : Int), 2, 0, 0, 0, 0, 0, fun _ => 0, false⟩ none 0 (HR.none (fun _ => by show -9223372036854775808 ≤ (0 : Int) ∧ (0 : Int) ≤ 9223372036854775807; omega)) (fun g off e => by cases e) (by
            have h1 : (⟨#[107]⟩ ++ strOfNums [97 + (k : Int) / 10, 48 + (k : Int) % 10] : ByteArray).size = 3 := by rw [ByteArray.size_append, strOfNums_size]; rfl
            exact ⟨⟨by show -9223372036854775808 ≤ 100 + (k : Int) ∧ 100 + (k : Int) ≤ 9223372036854775807; omega, by show -9223372036854775808 ≤ (0 : Int) ∧ (0 : Int) ≤ 9223372036854775807; omega, by show (⟨#[107]⟩ ++ strOfNums [97 + (k : Int) / 10, 48 + (k : Int) % 10] : ByteArray).size ≤ _; omega, by show 0 ≤ _; omega⟩, by show (⟨#[107]⟩ ++ strOfNums [97 + (k : Int) / 10, 48 + (k : Int) % 10] : ByteArray).size ≤ 200; omega, by show 0 ≤ 8; omega⟩) (by omega) hs5 23
          obtain ⟨lo6, lc6, rfl⟩ := ownsRow_form G6.own
          have P6 := (P5.keep (below_new _ (.cells #[.string (⟨#[107]⟩ ++ strOfNums [97 + (k : Int) / 10, 48 + (k : Int) % 10]), .int .i64 (100 + (k : Int)), .int .i64 2, .int .i64 0, .int .i64 0, .int .i64 0, .int .i64 0, .slice none 0 0, .bool false] 28))).far g6 (fun k e => (G5.own.lt k e).1)
          rw [World.size_alloc] at hrun
          clear P5 G5 P4 G4 b5 g6
          go_wp2_with (at_builtin; refine wpList_append_eq _ rfl (.tmp 21) (.tmp 36) 23 23 rfl rfl (.slice lo k lc) (.slice (some ⟨w4.heap.size + 1, 0, none⟩) 1 1) (.slice lo6 (k + 1) lc6) rfl rfl w6 hrun ?_)
          go_roundw
          case rel => exact ⟨k + 1, B + 1, lo6, lc6, _, _, rfl, by go_num, by omega, by omega, G6, P6⟩
          case measure => simp [intOf]; omega
        · have hd : decide ((k : Int) < 60 - x4) = false := decide_eq_false hlt
          go_wp2
          go_meet
          exact ⟨k, lo, lc, X, V, rfl, hk, G4, ⟨P4.C.mono (by omega), P4.RA, P4.RF, P4.ne, P4.bw⟩⟩
  case rest =>
    obtain ⟨m, lo, lc, X, V, rfl, hm, G4, P4⟩ := hcut
    clear P3 G3
    go_wp2_with fail
    refine (entry_any P4.C.self (by omega)).mono ?_
    rintro e w5 ⟨x, xo, xc, rfl, H5, S5, K5⟩
    have P5 := P4.draw K5
    have G5 := G4.grown K5.gr (fun k e => by injection e with e; omega)
    have hws := P4.C.gr.size
    obtain ⟨_, r0, r1, r2, r3, r4, r5, r6, r7, r8⟩ := id P5.RA
    simp only [Nat.zero_add] at r1 r2 r3 r4 r5 r6 r7 r8
    have rf := P5.RF
    clear G4 P4 K5
    go_wp2
    have og : ∀ (W : World) (i : Nat) (v : Value), (GL W w1.heap.size (.slice lo m lc) m X V ∧ HR W wc.heap.size xo x.n x.f ∧ Below w.heap.size w W) → (GL (W.setCell ⟨w.heap.size, i, none⟩ v) w1.heap.size (.slice lo m lc) m X V ∧ HR (W.setCell ⟨w.heap.size, i, none⟩ v) wc.heap.size xo x.n x.f ∧ Below w.heap.size w (W.setCell ⟨w.heap.size, i, none⟩ v)) := fun W i v hh =>
      ⟨hh.1.grown (grown_set W w.heap.size i v) (fun k e => by injection e with e; omega), hh.2.1.grown (grown_set W w.heap.size i v) (fun g off e h0 e2 => by have := hh.2.1.at' g off e h0; injection e2 with e2; omega), hh.2.2.setCell (Nat.le_refl _) _⟩
    have fin := og _ 8 (.bool x.fu) (og _ 7 (.slice xo x.n xc) (og _ 6 (.int .i64 x.hi) (og _ 5 (.int .i64 x.lo) (og _ 4 (.int .i64 x.s) (og _ 3 (.int .i64 x.c) (og _ 2 (.int .i64 x.kind) (og _ 1 (.int .i64 x.seq) (og _ 0 (.string x.key) ⟨G5, H5, P5.below⟩))))))))
    obtain ⟨GF, HF, bF⟩ := fin
    obtain ⟨_, _, e5, E5, hcap, hnls⟩ := GF.erow
    injection e5 with e51 _ e53
    subst e51 e53
    refine bodyPost_ret (v := .tuple #[.slice lo m lc, .agg #[.string x.key, .int .i64 x.seq, .int .i64 x.kind, .int .i64 x.c, .int .i64 x.s, .int .i64 x.lo, .int .i64 x.hi, .slice xo x.n xc, .bool x.fu]]) (by simp [results, Try.results4, go_sem, r0, r1, r2, r3, r4, r5, r6, r7, r8]) rfl ⟨m, lo, lc, X, x, xo, xc, rfl, hm, E5, hcap, hnls, GF.sz, HF.row, S5, bF⟩
end Go.Proofs.Ytiigpmhaicfocaa
