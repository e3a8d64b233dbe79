/- The model's cursor: numbers drawn from bytes. / Rows of tags and of texts that the call itself makes. / The model's cursor draws a key: of what it is, only how long its parts are is told. / The model's cursor draws a key. -/
import Derived.Test.YtpggmgmdcccmeaaWr
import Derived.OpenShut
import Derived.Laws.BitsAllLaws
import Derived.Test.YtpggmgmdcccmeaaOw
import Derived.Maps.AppendAt
import Derived.OwnWalk
import Derived.Test.YtpggmgmdcccmeaaOh
import Derived.Test.YtpggmgmdcccmeaaSo
namespace Go.Proofs.Ytpggmgmdcccmeaa
open Go.RowKit
set_option linter.unusedSimpArgs false
set_option linter.unusedVariables false

theorem grown_of_below {w w' : World} (h : Below w.heap.size w w') (row : Option Nat) : w.grownBy w' row := ⟨h.os, h.tape, h.output, h.size, fun k hk _ => h.block k hk⟩
theorem grown_refl (w : World) (row : Option Nat) : w.grownBy w row := ⟨rfl, rfl, rfl, Nat.le_refl _, fun _ _ _ => rfl⟩
theorem grown_set (w : World) (RB i : Nat) (x : Value) : w.grownBy (w.setCell ⟨RB, i, none⟩ x) (some RB) :=
  ⟨rfl, rfl, rfl, by simp, fun k hk hne => Below.heap_setCell _ _ _ _ (fun e => hne (by rw [e]))⟩

/-- The cursor in block CB. -/
structure Cu (w : World) (CB : Nat) (cv : Value) (a : Nat) (sd : Int) : Prop where
  lt : CB < w.heap.size
  c0 : w.cell? ⟨CB, 0, none⟩ = some cv
  c1 : w.cell? ⟨CB, 1, none⟩ = some (.int .i64 a)
  c2 : w.cell? ⟨CB, 2, none⟩ = some (.int .u64 sd)
  fz : ∀ i, w.frozen? ⟨CB, i, none⟩ = false
  sb : 0 ≤ sd ∧ sd ≤ 18446744073709551615
theorem Cu.keep {w w' : World} {CB : Nat} {cv : Value} {a : Nat} {sd : Int} (h : Cu w CB cv a sd) (hb : Below w.heap.size w w') : Cu w' CB cv a sd :=
  ⟨Nat.lt_of_lt_of_le h.lt hb.size, (hb.cell (p := ⟨CB, 0, none⟩) h.lt).trans h.c0, (hb.cell (p := ⟨CB, 1, none⟩) h.lt).trans h.c1, (hb.cell (p := ⟨CB, 2, none⟩) h.lt).trans h.c2, fun i => (hb.frozen (p := ⟨CB, i, none⟩) h.lt).trans (h.fz i), h.sb⟩
theorem Cu.set1 {w : World} {CB : Nat} {cv : Value} {a : Nat} {sd : Int} (h : Cu w CB cv a sd) (a' : Nat) : Cu (w.setCell ⟨CB, 1, none⟩ (.int .i64 a')) CB cv a' sd :=
  ⟨by simpa using h.lt, by rw [World.cell?_setCell_other _ _ _ _ (by intro hh; injection hh with _ h2 _; omega)]; exact h.c0, by rw [World.cell?_setCell_same _ _ _ h.c1], by rw [World.cell?_setCell_other _ _ _ _ (by intro hh; injection hh with _ h2 _; omega)]; exact h.c2, fun i => by simpa using h.fz i, h.sb⟩
theorem Cu.set2 {w : World} {CB : Nat} {cv : Value} {a : Nat} {sd : Int} (h : Cu w CB cv a sd) (s' : Int) (hs : 0 ≤ s' ∧ s' ≤ 18446744073709551615) : Cu (w.setCell ⟨CB, 2, none⟩ (.int .u64 s')) CB cv a s' :=
  ⟨by simpa using h.lt, by rw [World.cell?_setCell_other _ _ _ _ (by intro hh; injection hh with _ h2 _; omega)]; exact h.c0, by rw [World.cell?_setCell_other _ _ _ _ (by intro hh; injection hh with _ h2 _; omega)]; exact h.c1, by rw [World.cell?_setCell_same _ _ _ h.c2], fun i => by simpa using h.fz i, hs⟩

/-- The cursor's bytes: they lie outside its block. -/
structure Cb (w : World) (CB : Nat) (ao : Option Addr) (n : Nat) (f : Nat → Int) : Prop where
  row : Row w ao n f
  ne : ∀ b off, ao = some ⟨b, off, none⟩ → n ≠ 0 → b ≠ CB
theorem Cb.grown {w w' : World} {CB : Nat} {ao : Option Addr} {n : Nat} {f : Nat → Int} (h : Cb w CB ao n f) (hg : w.grownBy w' (some CB)) : Cb w' CB ao n f := by
  refine ⟨⟨h.row.bd, ?_⟩, h.ne⟩
  rcases h.row.lies with h0 | ⟨b, off, e, hlt, hc⟩
  · exact .inl h0
  · by_cases h0 : n = 0
    · exact .inl h0
    · exact .inr ⟨b, off, e, Nat.lt_of_lt_of_le hlt hg.size, fun i hi => hg.cell (hc i hi) (fun e' => h.ne b off e h0 (Option.some.inj e'))⟩
theorem Cb.keep {w w' : World} {CB : Nat} {ao : Option Addr} {n : Nat} {f : Nat → Int} (h : Cb w CB ao n f) (hb : Below w.heap.size w w') : Cb w' CB ao n f := ⟨h.row.keep hb, h.ne⟩

theorem and255 {x : Int} (h : 0 ≤ x ∧ x ≤ 18446744073709551615) : 0 ≤ bits .and .u64 x 255 ∧ bits .and .u64 x 255 ≤ 255 := by
  obtain ⟨m, rfl⟩ := Int.eq_ofNat_of_zero_le h.1
  rw [show (255 : Int) = ((255 : Nat) : Int) from rfl, u64_and_nat _ _ (by omega) (by omega)]
  have : m &&& 255 ≤ 255 := Nat.and_le_right
  omega

/-- What a draw leaves. -/
def Drw (CB : Nat) (cv : Value) (a q : Nat) (w : World) (x : Int) (w' : World) : Prop :=
  0 ≤ x ∧ x < q ∧ (∃ sd, Cu w' CB cv (a + 1) sd) ∧ w.grownBy w' (some CB)

set_option maxHeartbeats 1000000 in
theorem next_any (CB : Nat) (ao : Option Addr) (n cap a : Nat) (f : Nat → Int) (sd : Int) (w : World) (hC : Cu w CB (.slice ao n cap) a sd) (hB : Cb w CB ao n f) (hn : n ≤ 1048576) (ha : a ≤ 1000000000) :
    Calls Try.prog 72 #[.pointer (some ⟨CB, 0, none⟩)] w fun e w' => ∃ x, e = .returned (.int .i64 x) ∧ Drw CB (.slice ao n cap) a 256 w x w' := by
  obtain ⟨hlt, c0, c1, c2, fz, sb⟩ := id hC
  have gw := grown_refl w (some CB)
  by_cases h : a < n
  · obtain ⟨b, off, rfl, hblt, hc⟩ := hB.row.lies.resolve_left (by omega)
    have hca := hc a h
    have hfa := hB.row.bd a
    have hlt' : (a : Int) < (n : Int) := by omega
    have hle' : (a : Int) + 1 ≤ (n : Int) := by omega
    clear hc
    go_enter Try.func72, Try.ntmps72
    go_wp2
    go_quiet (fail)
    have bx := below_drewN (Below.refl w.heap.size w) nq
    have C1 := hC.keep bx
    have g1 := gw.trans (grown_of_below bx (some CB))
    have hcax := (bx.cell (p := ⟨b, off + a, none⟩) hblt).trans hca
    generalize w.drewN nq = x at C1 g1 bx hcax ⊢
    obtain ⟨ltx, px0, px1, px2, fzx, _⟩ := id C1
    go_wp2
    go_quiet (fail)
    have bz := below_drewN (Below.refl x.heap.size x) nq
    have C2 := C1.keep bz
    have g2 := g1.trans (grown_of_below bz (some CB))
    generalize x.drewN nq = z at C2 g2 bz  ⊢
    obtain ⟨ltz, pz0, pz1, pz2, fzz, _⟩ := id C2
    have f1 := fzz 1
    have f2 := fzz 2
    go_wp2
    generalize hS : IntKind.u64.wrap (IntKind.u64.wrap (IntKind.u64.wrap (sd * 6364136223846793005) + f a) + 1442695040888963407) = s'
    have sb' : 0 ≤ s' ∧ s' ≤ 18446744073709551615 := by rw [← hS]; exact bounds_u64 (wf_wrap _ _)
    clear hS
    have C8 := (C2.set1 (a + 1)).set2 s' sb'
    have g8 := (g2.trans (grown_set z CB 1 (.int .i64 ((a + 1 : Nat) : Int)))).trans (grown_set _ CB 2 (.int .u64 s'))
    have ea : (((a + 1 : Nat) : Nat) : Int) = (a : Int) + 1 := by omega
    rw [ea] at C8 g8
    generalize (z.setCell ⟨CB, 1, none⟩ (.int .i64 ((a : Int) + 1))).setCell ⟨CB, 2, none⟩ (.int .u64 s') = u at C8 g8 ⊢
    obtain ⟨ult, u0, u1, u2, ufz, _⟩ := id C8
    rw [ea] at u1
    go_quiet (fail)
    have bv := below_drewN (Below.refl u.heap.size u) nq
    have C9 := C8.keep bv
    have g9 := g8.trans (grown_of_below bv (some CB))
    generalize u.drewN nq = v at C9 g9 bv  ⊢
    obtain ⟨ltv, pv0, pv1, pv2, fzv, _⟩ := id C9
    go_wp2
    go_ret
    exact ⟨f a, rfl, by omega, by omega, ⟨s', C9⟩, g9⟩
  · have hlt' : decide ((a : Int) < (n : Int)) = false := by simp; omega
    have hle' : decide ((a : Int) + 1 ≤ (n : Int)) = false := by simp; omega
    go_enter Try.func72, Try.ntmps72
    go_wp2
    go_quiet (fail)
    have bz := below_drewN (Below.refl w.heap.size w) nq
    have C2 := hC.keep bz
    have g2 := gw.trans (grown_of_below bz (some CB))
    generalize w.drewN nq = z at C2 g2 bz  ⊢
    obtain ⟨ltz, pz0, pz1, pz2, fzz, _⟩ := id C2
    have f1 := fzz 1
    have f2 := fzz 2
    go_wp2
    generalize hS : IntKind.u64.wrap (IntKind.u64.wrap (IntKind.u64.wrap (sd * 6364136223846793005)) + 1442695040888963407) = s'
    have sb' : 0 ≤ s' ∧ s' ≤ 18446744073709551615 := by rw [← hS]; exact bounds_u64 (wf_wrap _ _)
    clear hS
    have C8 := (C2.set1 (a + 1)).set2 s' sb'
    have g8 := (g2.trans (grown_set z CB 1 (.int .i64 ((a + 1 : Nat) : Int)))).trans (grown_set _ CB 2 (.int .u64 s'))
    have ea : (((a + 1 : Nat) : Nat) : Int) = (a : Int) + 1 := by omega
    rw [ea] at C8 g8
    generalize (z.setCell ⟨CB, 1, none⟩ (.int .i64 ((a : Int) + 1))).setCell ⟨CB, 2, none⟩ (.int .u64 s') = u at C8 g8 ⊢
    obtain ⟨ult, u0, u1, u2, ufz, _⟩ := id C8
    rw [ea] at u1
    go_quiet (fail)
    have bv := below_drewN (Below.refl u.heap.size u) nq
    have C9 := C8.keep bv
    have g9 := g8.trans (grown_of_below bv (some CB))
    generalize u.drewN nq = v at C9 g9 bv  ⊢
    obtain ⟨ltv, pv0, pv1, pv2, fzv, _⟩ := id C9
    have hb := and255 (x := s' / 1099511627776) (by omega)
    go_wp2
    go_ret
    exact ⟨_, rfl, hb.1, by omega, ⟨s', C9⟩, g9⟩

theorem pick_any (q : Nat) (hq : 2 ≤ q ∧ q ≤ 200) (CB : Nat) (ao : Option Addr) (n cap a : Nat) (f : Nat → Int) (sd : Int) (w : World) (hC : Cu w CB (.slice ao n cap) a sd) (hB : Cb w CB ao n f) (hn : n ≤ 1048576) (ha : a ≤ 1000000000) :
    Calls Try.prog 53 #[.pointer (some ⟨CB, 0, none⟩), .int .i64 q] w fun e w' => ∃ x, e = .returned (.int .i64 x) ∧ Drw CB (.slice ao n cap) a q w x w' := by
  have h1 : decide ((q : Int) ≤ 1) = false := by simp; omega
  have h2 : ¬ (200 : Int) < (q : Int) := by omega
  have h3 : ¬ (q : Int) = 0 := by omega
  go_enter Try.func53, Try.ntmps53
  go_wp2_with fail
  refine (next_any CB ao n cap a f sd _ hC hB hn ha).mono ?_
  rintro e w1 ⟨x, rfl, x0, x1, hC1, g1⟩
  have t0 := Int.emod_nonneg x h3
  have t1 := Int.emod_lt_of_pos x (show (0 : Int) < (q : Int) by omega)
  go_wp2
  go_ret
  exact ⟨_, rfl, t0, t1, hC1, g1⟩

theorem one_any (q : Nat) (hq : 2 ≤ q ∧ q ≤ 200) (CB : Nat) (ao : Option Addr) (n cap a : Nat) (f : Nat → Int) (sd : Int) (w : World) (hC : Cu w CB (.slice ao n cap) a sd) (hB : Cb w CB ao n f) (hn : n ≤ 1048576) (ha : a ≤ 1000000000) :
    Calls Try.prog 29 #[.pointer (some ⟨CB, 0, none⟩), .int .i64 q] w fun e w' => ∃ b, e = .returned (.bool b) ∧ (∃ sd, Cu w' CB (.slice ao n cap) (a + 1) sd) ∧ w.grownBy w' (some CB) := by
  go_enter Try.func29, Try.ntmps29
  go_wp2_with fail
  refine (pick_any q hq CB ao n cap a f sd _ hC hB hn ha).mono ?_
  rintro e w1 ⟨x, rfl, x0, x1, hC1, g1⟩
  go_wp2
  go_ret
  exact ⟨_, rfl, hC1, g1⟩

theorem pickW_any (q : Nat) (hq : 201 ≤ q ∧ q ≤ 100000) (CB : Nat) (ao : Option Addr) (n cap a : Nat) (f : Nat → Int) (sd : Int) (w : World) (hC : Cu w CB (.slice ao n cap) a sd) (hB : Cb w CB ao n f) (hn : n ≤ 1048576) (ha : a ≤ 999999999) :
    Calls Try.prog 53 #[.pointer (some ⟨CB, 0, none⟩), .int .i64 q] w fun e w' => ∃ x, e = .returned (.int .i64 x) ∧ 0 ≤ x ∧ x < q ∧ (∃ sd, Cu w' CB (.slice ao n cap) (a + 1 + 1) sd) ∧ w.grownBy w' (some CB) := by
  have h1 : decide ((q : Int) ≤ 1) = false := by simp; omega
  have h2 : (200 : Int) < (q : Int) := by omega
  have h3 : ¬ (q : Int) = 0 := by omega
  go_enter Try.func53, Try.ntmps53
  go_wp2_with fail
  refine (next_any CB ao n cap a f sd _ hC hB hn (by omega)).mono ?_
  rintro e w1 ⟨x, rfl, x0, x1, ⟨sd1, C1⟩, g1⟩
  go_wp2_with fail
  refine (next_any CB ao n cap (a + 1) f sd1 _ C1 (hB.grown g1) hn (by omega)).mono ?_
  rintro e w2 ⟨y, rfl, y0, y1, C2, g2⟩
  have t0 := Int.emod_nonneg (x * 256 + y) h3
  have t1 := Int.emod_lt_of_pos (x * 256 + y) (show (0 : Int) < (q : Int) by omega)
  go_wp2
  go_ret
  exact ⟨_, rfl, t0, t1, C2, g1.trans g2⟩

set_option maxHeartbeats 1000000 in
theorem wide_any (CB : Nat) (ao : Option Addr) (n cap a : Nat) (f : Nat → Int) (sd : Int) (w : World) (hC : Cu w CB (.slice ao n cap) a sd) (hB : Cb w CB ao n f) (hn : n ≤ 1048576) (ha : a ≤ 999999900) :
    Calls Try.prog 57 #[.pointer (some ⟨CB, 0, none⟩)] w fun e w' => ∃ x, e = .returned (.int .i64 x) ∧ (-9223372036854775808 ≤ x ∧ x ≤ 9223372036854775807) ∧ (∃ sd, Cu w' CB (.slice ao n cap) (a + 8) sd) ∧ w.grownBy w' (some CB) := by
  go_enter Try.func57, Try.ntmps57
  go_wp2
  go_loopw [3, 4] (fun q i wr => ∃ (k : Nat) (z sd' : Int), k ≤ 8 ∧ i = .int .i64 k ∧ q = .int .i64 z ∧ (-9223372036854775808 ≤ z ∧ z ≤ 9223372036854775807) ∧ Cu wr CB (.slice ao n cap) (a + k) sd' ∧ Cb wr CB ao n f ∧ w.grownBy wr (some CB)) (fun _ i _ => 8 - (intOf i).toNat)
  case atStart => exact ⟨0, 0, sd, Nat.zero_le _, rfl, rfl, by omega, hC, hB, grown_refl _ _⟩
  case round =>
    obtain ⟨k, z, sd', hk, rfl, rfl, hz, Ck, Bk, Gk⟩ := hrel
    by_cases hlt : k < 8
    · go_wp2_with fail
      refine (next_any CB ao n cap (a + k) f sd' _ Ck Bk hn (by omega)).mono ?_
      rintro e w1 ⟨x, rfl, x0, x1, ⟨sd1, C1⟩, g1⟩
      have B1 := Bk.grown g1
      have G1 := Gk.trans g1
      go_wp2
      go_roundw
      case rel => exact ⟨k + 1, _, sd1, by omega, by go_num, rfl, bounds_i64 (wf_bits _ _ _ _), C1, B1, G1⟩
      case measure => simp [intOf]; omega
    · obtain rfl : k = 8 := by omega
      go_wp2
      go_ret
      exact ⟨_, rfl, hz, ⟨sd', Ck⟩, Gk⟩
end Go.Proofs.Ytpggmgmdcccmeaa
namespace Go.Proofs.Ytpggmgmdcccmeaa
open Go.RowKit
set_option linter.unusedSimpArgs false
set_option linter.unusedVariables false

theorem Try.infoTag' : (Try.prog.info? 92).map (fun i => (i.zero, i.size, i.bytes)) = some (some (.agg #[.string ByteArray.empty, .string ByteArray.empty]), 2, 32) := by kernel_rfl
theorem Try.infoStr' : (Try.prog.info? 9).map (fun i => (i.zero, i.size, i.bytes)) = some (some (.string ByteArray.empty), 1, 16) := by kernel_rfl

/-- The cells of tags. -/
def tgl (T : List (ByteArray × ByteArray)) : List Value := T.flatMap fun p => [.string p.1, .string p.2]
def nmL (T : List (ByteArray × ByteArray)) (i : Nat) : ByteArray := (T.getD i (⟨#[]⟩, ⟨#[]⟩)).1
def vlL (T : List (ByteArray × ByteArray)) (i : Nat) : ByteArray := (T.getD i (⟨#[]⟩, ⟨#[]⟩)).2
theorem tgl_len (T : List (ByteArray × ByteArray)) : (tgl T).length = T.length * 2 := by
  unfold tgl
  induction T with
  | nil => rfl
  | cons p T ih => rw [List.flatMap_cons, List.length_append, ih]; simp; omega
theorem tgl_get : ∀ (T : List (ByteArray × ByteArray)) (i : Nat), i < T.length → (tgl T)[i * 2]? = some (.string (nmL T i)) ∧ (tgl T)[i * 2 + 1]? = some (.string (vlL T i))
  | [], i, h => by simp at h
  | p :: T, 0, h => by simp [tgl, nmL, vlL]
  | p :: T, i + 1, h => by
    have h1 := tgl_get T i (by simpa using h)
    have e : tgl (p :: T) = .string p.1 :: .string p.2 :: tgl T := by simp [tgl]
    rw [e, show (i + 1) * 2 = i * 2 + 1 + 1 by omega]
    simpa [nmL, vlL] using h1
theorem tgl_one (T : List (ByteArray × ByteArray)) : ∀ u ∈ tgl T, u.oneCell' = true := by
  intro u hu
  simp only [tgl, List.mem_flatMap, List.mem_cons, List.not_mem_nil, or_false] at hu
  obtain ⟨i, _, rfl | rfl⟩ := hu <;> rfl
theorem tgl_append (T U : List (ByteArray × ByteArray)) : tgl (T ++ U) = tgl T ++ tgl U := by simp [tgl]
/-- v is a slice of tags of the call's own. -/
def TgL (w : World) (base : Nat) (v : Value) (T : List (ByteArray × ByteArray)) : Prop := w.ownsRow base 92 2 v T.length (tgl T)
theorem tgL_nil (w : World) (base : Nat) : TgL w base (.slice none 0 0) [] := World.ownsRow_nil _ _ _ _
theorem TgL.row {w : World} {base : Nat} {ao : Option Addr} {n cap : Nat} {T : List (ByteArray × ByteArray)} (h : TgL w base (.slice ao n cap) T) : n = T.length ∧ TRow w ao T.length (nmL T) (vlL T) := by
  have h' := id h
  rcases h.2 with ⟨e, h0⟩ | ⟨g, cap, cur, e, h1, h2, h3⟩
  · injection e with e1 e2 e3
    exact ⟨by omega, ⟨.inl h0⟩⟩
  · injection e with e1 e2 e3
    subst e1 e2 e3
    refine ⟨rfl, ⟨.inr ⟨g, 0, rfl, (Array.getElem?_eq_some_iff.1 h2).1, fun i hi => ?_⟩⟩⟩
    have k1 := World.ownsRow.cellAt h' (i * 2) (by omega)
    have k2 := World.ownsRow.cellAt h' (i * 2 + 1) (by omega)
    rw [Nat.zero_add, k1, k2]
    exact tgl_get T i hi
theorem TgL.form {w : World} {base : Nat} {v : Value} {T : List (ByteArray × ByteArray)} (h : TgL w base v T) : ∃ ao cap, v = .slice ao T.length cap := ownsRow_form h
/-- A tag put behind the others. -/
theorem tgL_push {w : World} {base : Nat} {v : Value} {T : List (ByteArray × ByteArray)} (h : TgL w base v T) (B c : Nat) (a b : ByteArray) (h0 : w.cell? ⟨B, 0, none⟩ = some (.string a)) (h1 : w.cell? ⟨B, 1, none⟩ = some (.string b)) (hn : T.length ≤ 1048576) (hb : base ≤ w.heap.size) (ty : TypeId) :
    ∃ ao' c' w', (Builtin.append_ #[30, 30] ty #[v, .slice (some ⟨B, 0, none⟩) 1 c]).run Try.prog w = .ok (.slice ao' (T.length + 1) c') w' ∧ TgL w' base (.slice ao' (T.length + 1) c') (T ++ [(a, b)]) ∧ w.grownBy w' v.ownBlock ∧ ((Value.slice ao' (T.length + 1) c').ownBlock = v.ownBlock ∨ (Value.slice ao' (T.length + 1) c').ownBlock = some w.heap.size) := by
  obtain ⟨i0, hi, hz0, hz1, hz2⟩ := info_parts Try.infoTag'
  obtain ⟨v', w', hrun, hown, hg, _, hat⟩ := run_append_own_at (P := Try.prog) w base 30 ty 92 i0 _ 2 32 Try.underlying30 hi hz0 hz1 hz2 rfl (by decide) v T.length (tgl T) h ⟨B, 0, none⟩ 1 c [.string a, .string b] rfl (fun j u hu => by
      rcases j with _ | _ | j
      · simp at hu; subst hu; exact h0
      · simp at hu; subst hu; exact h1
      · simp at hu) (fun u hu => by simp at hu; rcases hu with rfl | rfl <;> rfl) (by unfold maxLen; omega) (by omega) hb
  have e : TgL w' base v' (T ++ [(a, b)]) := by
    unfold TgL
    rw [tgl_append, List.length_append]
    exact hown
  obtain ⟨ao', c', rfl⟩ := e.form
  rw [List.length_append] at hrun e hat
  exact ⟨ao', c', w', hrun, e, hg, hat⟩

/-- The cells of texts. -/
def stl (L : List ByteArray) : List Value := L.map Value.string
/-- v is a slice of texts of the call's own. -/
def StL (w : World) (base : Nat) (v : Value) (L : List ByteArray) : Prop := w.ownsRow base 9 1 v L.length (stl L)
theorem stL_nil (w : World) (base : Nat) : StL w base (.slice none 0 0) [] := World.ownsRow_nil _ _ _ _
theorem StL.form {w : World} {base : Nat} {v : Value} {L : List ByteArray} (h : StL w base v L) : ∃ ao cap, v = .slice ao L.length cap := ownsRow_form h
theorem StL.at {w : World} {base : Nat} {v : Value} {L : List ByteArray} (h : StL w base v L) (hn : 0 < L.length) : ∃ g cap, v = .slice (some ⟨g, 0, none⟩) L.length cap ∧ base ≤ g ∧ g < w.heap.size ∧ L.length ≤ cap ∧ ∀ i (hi : i < L.length), w.cell? ⟨g, i, none⟩ = some (.string L[i]) := by
  have h' := id h
  rcases h.2 with ⟨_, h0⟩ | ⟨g, cap, cur, e, h1, h2, h3, _⟩
  · omega
  · subst e
    refine ⟨g, cap, rfl, h1, (Array.getElem?_eq_some_iff.1 h2).1, h3, fun i hi => ?_⟩
    rw [World.ownsRow.cellAt h' i (by omega)]
    simp [stl, hi]
/-- A text put behind the others. -/
theorem stL_push {w : World} {base : Nat} {v : Value} {L : List ByteArray} (h : StL w base v L) (B c : Nat) (x : ByteArray) (h0 : w.cell? ⟨B, 0, none⟩ = some (.string x)) (hn : L.length ≤ 4194304) (hb : base ≤ w.heap.size) (ty : TypeId) :
    ∃ ao' c' w', (Builtin.append_ #[112, 112] ty #[v, .slice (some ⟨B, 0, none⟩) 1 c]).run Try.prog w = .ok (.slice ao' (L.length + 1) c') w' ∧ StL w' base (.slice ao' (L.length + 1) c') (L ++ [x]) ∧ w.grownBy w' v.ownBlock ∧ ((Value.slice ao' (L.length + 1) c').ownBlock = v.ownBlock ∨ (Value.slice ao' (L.length + 1) c').ownBlock = some w.heap.size) := by
  obtain ⟨i0, hi, hz0, hz1, hz2⟩ := info_parts Try.infoStr'
  obtain ⟨v', w', hrun, hown, hg, _, hat⟩ := run_append_own_at (P := Try.prog) w base 112 ty 9 i0 _ 1 16 Try.underlying112 hi hz0 hz1 hz2 rfl (by decide) v L.length (stl L) h ⟨B, 0, none⟩ 1 c [.string x] rfl (fun j u hu => by
      rcases j with _ | j
      · simp at hu; subst hu; exact h0
      · simp at hu) (fun u hu => by simp at hu; subst hu; rfl) (by unfold maxLen; omega) (by omega) hb
  have e : StL w' base v' (L ++ [x]) := by
    unfold StL stl
    rw [List.map_append, List.length_append]
    exact hown
  obtain ⟨ao', c', rfl⟩ := e.form
  rw [List.length_append] at hrun e hat
  exact ⟨ao', c', w', hrun, e, hg, hat⟩
end Go.Proofs.Ytpggmgmdcccmeaa
namespace Go.Proofs.Ytpggmgmdcccmeaa
open Go.RowKit
set_option linter.unusedSimpArgs false
set_option linter.unusedVariables false

theorem among_any (q : Nat) (hq : 2 ≤ q ∧ q ≤ 200) (LB : Nat) (g : Nat → Int) (CB : Nat) (ao : Option Addr) (n cap a : Nat) (f : Nat → Int) (sd : Int) (w : World) (hC : Cu w CB (.slice ao n cap) a sd) (hB : Cb w CB ao n f) (hn : n ≤ 1048576) (ha : a ≤ 1000000000) (hL : LB < w.heap.size) (hne : LB ≠ CB) (hc : ∀ i, i < q → w.cell? ⟨LB, i, none⟩ = some (.int .i64 (g i))) :
    Calls Try.prog 52 #[.pointer (some ⟨CB, 0, none⟩), .slice (some ⟨LB, 0, none⟩) q q] w fun e w' => ∃ i, i < q ∧ e = .returned (.int .i64 (g i)) ∧ (∃ sd, Cu w' CB (.slice ao n cap) (a + 1) sd) ∧ w.grownBy w' (some CB) := by
  go_enter Try.func52, Try.ntmps52
  go_wp2_with fail
  refine (pick_any q hq CB ao n cap a f sd _ hC hB hn ha).mono ?_
  rintro e w1 ⟨x, rfl, x0, x1, hC1, g1⟩
  obtain ⟨i, rfl⟩ := Int.eq_ofNat_of_zero_le x0
  have hi : i < q := by omega
  have h1 := g1.cell (hc i hi) (fun e => hne (Option.some.inj e))
  clear hc
  go_wp2
  go_ret
  exact ⟨i, hi, rfl, hC1, g1⟩
/-- What a drawn text is. -/
def OfOt (z CB : Nat) (cv : Value) (a : Nat) (w : World) (e : Ending) (w' : World) : Prop := ∃ s : ByteArray, s.size ≤ z ∧ e = .returned (.string s) ∧ (∃ sd, Cu w' CB cv (a + 1) sd) ∧ w.grownBy w' (some CB)
theorem of_any (q z : Nat) (hq : 2 ≤ q ∧ q ≤ 200) (LB : Nat) (g : Nat → ByteArray) (hz : ∀ i, i < q → (g i).size ≤ z) (CB : Nat) (ao : Option Addr) (n cap a : Nat) (f : Nat → Int) (sd : Int) (w : World) (hC : Cu w CB (.slice ao n cap) a sd) (hB : Cb w CB ao n f) (hn : n ≤ 1048576) (ha : a ≤ 1000000000) (hL : LB < w.heap.size) (hne : LB ≠ CB) (hc : ∀ i, i < q → w.cell? ⟨LB, i, none⟩ = some (.string (g i))) :
    Calls Try.prog 73 #[.pointer (some ⟨CB, 0, none⟩), .slice (some ⟨LB, 0, none⟩) q q] w fun e w' => OfOt z CB (.slice ao n cap) a w e w' := by
  go_enter Try.func73, Try.ntmps73
  go_wp2_with fail
  refine (pick_any q hq CB ao n cap a f sd _ hC hB hn ha).mono ?_
  rintro e w1 ⟨x, rfl, x0, x1, hC1, g1⟩
  obtain ⟨i, rfl⟩ := Int.eq_ofNat_of_zero_le x0
  have hi : i < q := by omega
  have h1 := g1.cell (hc i hi) (fun e => hne (Option.some.inj e))
  clear hc
  go_wp2
  go_ret
  exact ⟨g i, hz i hi, rfl, hC1, g1⟩
end Go.Proofs.Ytpggmgmdcccmeaa
namespace Go.Proofs.Ytpggmgmdcccmeaa
open Go.RowKit
set_option linter.unusedSimpArgs false
set_option linter.unusedVariables false

theorem below_new_tg (w : World) (o : Obj) : Below w.heap.size w (w.alloc o) := (Below.refl _ _).alloc (Nat.le_refl _) _
/-- A list of texts lies in a block. -/
def LsAt (w : World) (LB : Nat) (l : List ByteArray) : Prop := LB < w.heap.size ∧ ∀ i, i < l.length → w.cell? ⟨LB, i, none⟩ = some (.string (l.getD i ⟨#[]⟩))
theorem LsAt.new (w : World) (l : List ByteArray) (T : Nat) : LsAt (w.alloc (.cells (l.map Value.string).toArray T)) w.heap.size l := by
  have hh : (w.alloc (.cells (l.map Value.string).toArray T)).heap[w.heap.size]? = some (.cells (l.map Value.string).toArray T (0, 0)) := heap_alloc_new w _
  refine ⟨by simp, fun i hi => ?_⟩
  rw [cell_of_row _ _ _ _ _ _ hh]
  simp [hi]
theorem LsAt.grown {w w' : World} {LB CB : Nat} {l : List ByteArray} (h : LsAt w LB l) (hg : w.grownBy w' (some CB)) (hne : LB ≠ CB) : LsAt w' LB l :=
  ⟨Nat.lt_of_lt_of_le h.1 hg.size, fun i hi => hg.cell (h.2 i hi) (fun e => hne (Option.some.inj e))⟩
theorem LsAt.keep {w w' : World} {LB : Nat} {l : List ByteArray} (h : LsAt w LB l) (hb : Below w.heap.size w w') : LsAt w' LB l :=
  ⟨Nat.lt_of_lt_of_le h.1 hb.size, fun i hi => (hb.cell (p := ⟨LB, i, none⟩) h.1).trans (h.2 i hi)⟩
theorem of_list (l : List ByteArray) (z : Nat) (hq : 2 ≤ l.length ∧ l.length ≤ 200) (hz : ∀ i, i < l.length → (l.getD i ⟨#[]⟩).size ≤ z) (LB CB : Nat) (ao : Option Addr) (n cap a : Nat) (f : Nat → Int) (sd : Int) (w : World) (hC : Cu w CB (.slice ao n cap) a sd) (hB : Cb w CB ao n f) (hn : n ≤ 1048576) (ha : a ≤ 1000000000) (hL : LsAt w LB l) (hne : LB ≠ CB) :
    Calls Try.prog 73 #[.pointer (some ⟨CB, 0, none⟩), .slice (some ⟨LB, 0, none⟩) l.length l.length] w fun e w' => OfOt z CB (.slice ao n cap) a w e w' :=
  of_any l.length z hq LB (fun i => l.getD i ⟨#[]⟩) hz CB ao n cap a f sd w hC hB hn ha hL.1 hne hL.2

/-- A key that is being drawn: its box in kb, its tags behind it. -/
structure KS (w0 w : World) (CB r kb : Nat) (ao : Option Addr) (n cap : Nat) (f : Nat → Int) (a : Nat) (m : ByteArray) (v : Value) (T : List (ByteArray × ByteArray)) (st : Int) : Prop where
  cur : ∃ sd, Cu w CB (.slice ao n cap) a sd
  cb0 : Cb w0 CB ao n f
  o1 : CB < w0.heap.size
  o2 : w0.heap.size ≤ r
  o3 : r < kb
  box : KAt w kb m v st
  fz : ∀ j, w.frozen? ⟨kb, j, none⟩ = false
  rs : ∃ x0 x1 x2, w.cell? ⟨r, 0, none⟩ = some x0 ∧ w.cell? ⟨r, 1, none⟩ = some x1 ∧ w.cell? ⟨r, 2, none⟩ = some x2
  rz : ∀ j, w.frozen? ⟨r, j, none⟩ = false
  tg : TgL w (kb + 1) v T
  gr : w0.grownBy w (some CB)
variable {w0 w w' : World} {CB r kb : Nat} {ao : Option Addr} {n cap : Nat} {f : Nat → Int} {a a' : Nat} {m : ByteArray} {v : Value} {T : List (ByteArray × ByteArray)} {st : Int}
theorem frozen_grown {w w' : World} {row : Option Nat} {p : Addr} (h : w.grownBy w' row) (hp : p.block < w.heap.size) (hne : some p.block ≠ row) : w'.frozen? p = w.frozen? p := World.frozen?_of_block (h.block p.block hp hne)
theorem KS.grown (h : KS w0 w CB r kb ao n cap f a m v T st) (hg : w.grownBy w' (some CB)) (hc : ∃ sd, Cu w' CB (.slice ao n cap) a' sd) : KS w0 w' CB r kb ao n cap f a' m v T st := by
  have h1 := h.o1
  have h2 := h.o2
  have h3 := h.o3
  have hk := h.box.lt
  have n1 : ∀ j : Nat, (some kb : Option Nat) ≠ some CB := fun _ e => by injection e with e; omega
  have n2 : (some kb : Option Nat) ≠ some CB := fun e => by injection e with e; omega
  have n3 : (some r : Option Nat) ≠ some CB := fun e => by injection e with e; omega
  obtain ⟨x0, x1, x2, y0, y1, y2⟩ := h.rs
  refine ⟨hc, h.cb0, h1, h2, h3, ⟨Nat.lt_of_lt_of_le hk hg.size, hg.cell h.box.c0 n2, hg.cell h.box.c1 n2, hg.cell h.box.c2 n2⟩, fun j => ?_, ⟨x0, x1, x2, hg.cell y0 n3, hg.cell y1 n3, hg.cell y2 n3⟩, fun j => ?_, ownsRow_kept h.tg hg (fun k e1 e2 => ?_), ?_⟩
  · rw [frozen_grown (p := ⟨kb, j, none⟩) hg hk n2]; exact h.fz j
  · rw [frozen_grown (p := ⟨r, j, none⟩) hg (by show r < _; omega) n3]; exact h.rz j
  · injection e1 with e1
    have := (World.ownsRow.lt h.tg k e2).1
    omega
  · exact ⟨hg.os.trans h.gr.os, hg.tape.trans h.gr.tape, hg.output.trans h.gr.output, Nat.le_trans h.gr.size hg.size, fun i hi hne => (hg.block i (Nat.lt_of_lt_of_le hi h.gr.size) hne).trans (h.gr.block i hi hne)⟩
theorem KS.cb (h : KS w0 w CB r kb ao n cap f a m v T st) : Cb w CB ao n f := h.cb0.grown h.gr
theorem KS.keep (h : KS w0 w CB r kb ao n cap f a m v T st) (hb : Below w.heap.size w w') : KS w0 w' CB r kb ao n cap f a m v T st := by
  obtain ⟨sd, hc⟩ := h.cur
  exact h.grown (grown_of_below hb _) ⟨sd, hc.keep hb⟩
theorem others_grownK {w w' : World} {d CB : Nat} (ho : Others d w w') : w.grownBy w' (some d) := ⟨ho.os, ho.tape, ho.output, by rw [ho.size]; exact Nat.le_refl _, fun i _ hn => ho.block i (fun e => hn (by rw [e]))⟩
/-- Something is written into the key's box. -/
theorem KS.set (h : KS w0 w CB r kb ao n cap f a m v T st) (j : Nat) (x : Value) {m' : ByteArray} {v' : Value} {T' : List (ByteArray × ByteArray)} {st' : Int} (hb : KAt (w.setCell ⟨kb, j, none⟩ x) kb m' v' st') (ht : TgL w (kb + 1) v' T') : KS w0 (w.setCell ⟨kb, j, none⟩ x) CB r kb ao n cap f a m' v' T' st' := by
  have h1 := h.o1
  have h2 := h.o2
  have h3 := h.o3
  have ho := Others.setCell w kb j x
  obtain ⟨x0, x1, x2, y0, y1, y2⟩ := h.rs
  have hr : ∀ i, (w.setCell ⟨kb, j, none⟩ x).cell? ⟨r, i, none⟩ = w.cell? ⟨r, i, none⟩ := fun i => World.cell?_of_block (w := w) (a := ⟨r, i, none⟩) (ho.block r (by omega))
  obtain ⟨sd, hc⟩ := h.cur
  have hcc : ∀ i, (w.setCell ⟨kb, j, none⟩ x).cell? ⟨CB, i, none⟩ = w.cell? ⟨CB, i, none⟩ := fun i => World.cell?_of_block (w := w) (a := ⟨CB, i, none⟩) (ho.block CB (by omega))
  refine ⟨⟨sd, ⟨by rw [ho.size]; exact hc.lt, (hcc 0).trans hc.c0, (hcc 1).trans hc.c1, (hcc 2).trans hc.c2, fun i => ?_, hc.sb⟩⟩, h.cb0, h1, h2, h3, hb, fun i => ?_, ⟨x0, x1, x2, (hr 0).trans y0, (hr 1).trans y1, (hr 2).trans y2⟩, fun i => ?_, ownsRow_others ht ho (fun e => ?_), ?_⟩
  · rw [World.frozen?_of_block (w := w) (a := ⟨CB, i, none⟩) (ho.block CB (by omega))]; exact hc.fz i
  · have := h.fz i
    simpa using this
  · rw [World.frozen?_of_block (w := w) (a := ⟨r, i, none⟩) (ho.block r (by omega))]; exact h.rz i
  · have := (World.ownsRow.lt ht kb e).1
    omega
  · refine ⟨ho.os.trans h.gr.os, ho.tape.trans h.gr.tape, ho.output.trans h.gr.output, by rw [ho.size]; exact h.gr.size, fun i hi hne => (ho.block i (by omega)).trans (h.gr.block i hi hne)⟩
theorem KAt.set0 {w : World} {b : Nat} {m : ByteArray} {sv : Value} {st : Int} (h : KAt w b m sv st) (s : ByteArray) : KAt (w.setCell ⟨b, 0, none⟩ (.string s)) b s sv st :=
  ⟨by simpa using h.lt, by rw [World.cell?_setCell_same _ _ _ h.c0], by rw [World.cell?_setCell_other _ _ _ _ (by intro hh; injection hh with _ h2 _; omega)]; exact h.c1, by rw [World.cell?_setCell_other _ _ _ _ (by intro hh; injection hh with _ h2 _; omega)]; exact h.c2⟩
theorem KAt.set1 {w : World} {b : Nat} {m : ByteArray} {sv : Value} {st : Int} (h : KAt w b m sv st) (s : Value) : KAt (w.setCell ⟨b, 1, none⟩ s) b m s st :=
  ⟨by simpa using h.lt, by rw [World.cell?_setCell_other _ _ _ _ (by intro hh; injection hh with _ h2 _; omega)]; exact h.c0, by rw [World.cell?_setCell_same _ _ _ h.c1], by rw [World.cell?_setCell_other _ _ _ _ (by intro hh; injection hh with _ h2 _; omega)]; exact h.c2⟩
theorem KAt.set2 {w : World} {b : Nat} {m : ByteArray} {sv : Value} {st : Int} (h : KAt w b m sv st) (s : Int) : KAt (w.setCell ⟨b, 2, none⟩ (.int .i64 s)) b m sv s :=
  ⟨by simpa using h.lt, by rw [World.cell?_setCell_other _ _ _ _ (by intro hh; injection hh with _ h2 _; omega)]; exact h.c0, by rw [World.cell?_setCell_other _ _ _ _ (by intro hh; injection hh with _ h2 _; omega)]; exact h.c1, by rw [World.cell?_setCell_same _ _ _ h.c2]⟩
/-- A tag put behind the others; the row is written into the box. -/
theorem KS.push {ua : Option Addr} {uc : Nat} (h : KS w0 w CB r kb ao n cap f a m (.slice ua T.length uc) T st) (hT : T.length ≤ 100) (x y : ByteArray) (ty : TypeId) :
    ∃ va vc w', (Builtin.append_ #[30, 30] ty #[.slice ua T.length uc, .slice (some ⟨w.heap.size, 0, none⟩) 1 1]).run Try.prog (w.alloc (.cells #[.string x, .string y] 92)) = .ok (.slice va (T.length + 1) vc) w' ∧ w'.cell? ⟨kb, 1, none⟩ = some (.slice ua T.length uc) ∧ w'.frozen? ⟨kb, 1, none⟩ = false ∧ KS w0 (w'.setCell ⟨kb, 1, none⟩ (.slice va (T.length + 1) vc)) CB r kb ao n cap f a m (.slice va (T.length + 1) vc) (T ++ [(x, y)]) st := by
  have h1 := h.keep (below_new_tg w (.cells #[.string x, .string y] 92))
  have hk := h.box.lt
  obtain ⟨va, vc, w', hrun, h2, hg, hat⟩ := tgL_push h1.tg w.heap.size 1 x y (by simp [go_sem]) (by simp [go_sem]) (by omega) (by simp; omega) ty
  have hne : ∀ d, d ≤ kb → (Value.slice ua T.length uc).ownBlock ≠ some d := fun d hd e => by have := (World.ownsRow.lt h.tg d e).1; omega
  have hg' : ∀ d, d ≤ kb → w'.heap[d]? = (w.alloc (.cells #[.string x, .string y] 92)).heap[d]? := fun d hd => hg.block d (by simp; omega) (fun e => hne d hd e.symm)
  have o1 := h.o1
  have o2 := h.o2
  have o3 := h.o3
  have cl : ∀ d j, d ≤ kb → w'.cell? ⟨d, j, none⟩ = (w.alloc (.cells #[.string x, .string y] 92)).cell? ⟨d, j, none⟩ := fun d j hd => World.cell?_of_block (hg' d hd)
  have fr : ∀ d j, d ≤ kb → w'.frozen? ⟨d, j, none⟩ = (w.alloc (.cells #[.string x, .string y] 92)).frozen? ⟨d, j, none⟩ := fun d j hd => World.frozen?_of_block (hg' d hd)
  obtain ⟨sd, hc⟩ := h1.cur
  obtain ⟨x0, x1, x2, y0, y1, y2⟩ := h1.rs
  have B2 : KAt w' kb m (.slice ua T.length uc) st := ⟨Nat.lt_of_lt_of_le h1.box.lt hg.size, (cl kb 0 (by omega)).trans h1.box.c0, (cl kb 1 (by omega)).trans h1.box.c1, (cl kb 2 (by omega)).trans h1.box.c2⟩
  have ho := Others.setCell w' kb 1 (.slice va (T.length + 1) vc)
  refine ⟨va, vc, w', hrun, B2.c1, (fr kb 1 (by omega)).trans (h1.fz 1), ?_⟩
  have c2 : ∀ d j, d < kb → (w'.setCell ⟨kb, 1, none⟩ (.slice va (T.length + 1) vc)).cell? ⟨d, j, none⟩ = (w.alloc (.cells #[.string x, .string y] 92)).cell? ⟨d, j, none⟩ := fun d j hd => (World.cell?_of_block (ho.block d (by omega))).trans (cl d j (by omega))
  have f2 : ∀ d j, d < kb → (w'.setCell ⟨kb, 1, none⟩ (.slice va (T.length + 1) vc)).frozen? ⟨d, j, none⟩ = (w.alloc (.cells #[.string x, .string y] 92)).frozen? ⟨d, j, none⟩ := fun d j hd => (World.frozen?_of_block (ho.block d (by omega))).trans (fr d j (by omega))
  refine ⟨⟨sd, ⟨by rw [ho.size]; exact Nat.lt_of_lt_of_le hc.lt hg.size, (c2 CB 0 (by omega)).trans hc.c0, (c2 CB 1 (by omega)).trans hc.c1, (c2 CB 2 (by omega)).trans hc.c2, fun i => (f2 CB i (by omega)).trans (hc.fz i), hc.sb⟩⟩, h.cb0, o1, o2, o3, B2.set1 _, fun i => ?_, ⟨x0, x1, x2, (c2 r 0 (by omega)).trans y0, (c2 r 1 (by omega)).trans y1, (c2 r 2 (by omega)).trans y2⟩, fun i => (f2 r i (by omega)).trans (h1.rz i), ownsRow_others h2 ho (fun e => ?_), ?_⟩
  · have := (fr kb i (by omega)).trans (h1.fz i)
    simpa using this
  · have := (World.ownsRow.lt h2 kb e).1
    omega
  · refine ⟨ho.os.trans (hg.os.trans h1.gr.os), ho.tape.trans (hg.tape.trans h1.gr.tape), ho.output.trans (hg.output.trans h1.gr.output), by rw [ho.size]; exact Nat.le_trans h1.gr.size hg.size, fun i hi hne => ?_⟩
    rw [ho.block i (by omega), hg' i (by omega)]
    exact h1.gr.block i hi hne
end Go.Proofs.Ytpggmgmdcccmeaa
