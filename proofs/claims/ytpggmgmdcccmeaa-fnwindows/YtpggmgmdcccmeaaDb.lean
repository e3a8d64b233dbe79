/- Boards that are drawn (made by mkdb.py). -/
import Derived.Test.YtpggmgmdcccmeaaBo
namespace Go.Proofs.Ytpggmgmdcccmeaa
open Go.RowKit
set_option linter.unusedSimpArgs false
set_option linter.unusedVariables false

/-- What a drawn board is. -/
def DbO (w : World) (e : Ending) (w' : World) : Prop :=
  ∃ (z hz mk : Int) (va : Option Addr) (m vc : Nat) (X : Nat → Wn), e = .returned (.agg #[.int .i64 z, .int .i64 hz, .int .i64 mk, .slice va m vc]) ∧ BA w' w.heap.size w'.heap.size (.slice va m vc) m X ∧ WOk m X ∧ Below w.heap.size w w'
/-- A cursor made anew. -/
theorem cs_new {w : World} {ao : Option Addr} {n cap : Nat} {f : Nat → Int} (hr : Row w ao n f) (hn : n ≤ 1048576) : CS (w.alloc (.cells #[.slice ao n cap, .int .i64 0, .int .u64 0] 71)) (w.alloc (.cells #[.slice ao n cap, .int .i64 0, .int .u64 0] 71)) w.heap.size ao n cap f 0 :=
  ⟨⟨0, 0, Nat.le_refl _, cu_new w (.slice ao n cap) 71⟩, cb_new hr _, grown_refl _ _, by simp, hn⟩
set_option maxRecDepth 100000 in
set_option maxHeartbeats 1600000 in
theorem drawGoodBoard_any (ao : Option Addr) (n cap : Nat) (f : Nat → Int) (w : World) (hr : Row w ao n f) (hn : n ≤ 1048576) :
    Calls Try.prog 14 #[.slice ao n cap] w fun e w' => DbO w e w' := by
  have b0 := below_new w (.cells #[.int .i64 0, .int .i64 0, .int .i64 0, .slice none 0 0] 25)
  have R0 := BdAt.new w 0 0 0 (.slice none 0 0) 25
  have Rf : ∀ j, (w.alloc (.cells #[.int .i64 0, .int .i64 0, .int .i64 0, .slice none 0 0] 25)).frozen? ⟨w.heap.size, j, none⟩ = false := fun j => by simp [go_sem]
  have b1 := below_new (w.alloc (.cells #[.int .i64 0, .int .i64 0, .int .i64 0, .slice none 0 0] 25)) (.cells #[.slice ao n cap, .int .i64 0, .int .u64 0] 71)
  have C1 := cs_new (cap := cap) (hr.keep b0) hn
  have R1 := R0.keep b1
  have Rf1 := fun j => (b1.frozen (p := ⟨w.heap.size, j, none⟩) R0.lt).trans (Rf j)
  have bw1 := b0.trans (b1.mono b0.size)
  have s1 : (w.alloc (.cells #[.int .i64 0, .int .i64 0, .int .i64 0, .slice none 0 0] 25)).heap.size = w.heap.size + 1 := by simp
  have s2 : ((w.alloc (.cells #[.int .i64 0, .int .i64 0, .int .i64 0, .slice none 0 0] 25)).alloc (.cells #[.slice ao n cap, .int .i64 0, .int .u64 0] 71)).heap.size = w.heap.size + 2 := by simp
  rw [s1] at C1
  go_enter Try.func14, Try.ntmps14
  go_wp2_with fail
  generalize (w.alloc (.cells #[.int .i64 0, .int .i64 0, .int .i64 0, .slice none 0 0] 25)).alloc (.cells #[.slice ao n cap, .int .i64 0, .int .u64 0] 71) = w1 at C1 R1 Rf1 bw1 s2 ⊢
  refine (board_s C1 (by omega)).mono ?_
  rintro e w2 ⟨z, hz, mk, va, m, vc, X, rfl, hBA, hok, K⟩
  have R2 := R1.grown K.gr (by intro e; injection e with e; omega)
  have Rf2 := fz_grown Rf1 R1.lt K.gr (by intro e; injection e with e; omega)
  have bw2 : Below w.heap.size w w2 := bw1.grown K.gr bw1.size (fun k e => by injection e with e; omega)
  obtain ⟨_, r0, r1, r2, r3⟩ := id R2
  clear b0 b1 R0 Rf C1 R1 Rf1 bw1 K
  go_wp2
  refine bodyPost_ret (v := .agg #[.int .i64 z, .int .i64 hz, .int .i64 mk, .slice va m vc]) (by simp [results, Try.results14, go_sem, r0, r1, r2, r3]) rfl ⟨z, hz, mk, va, m, vc, X, rfl, ?_, hok, ?_⟩
  · have ho := setBd_oth w2 w.heap.size z hz mk (.slice va m vc)
    have hb := hBA.same (w' := setBd w2 w.heap.size z hz mk (.slice va m vc)) (by rw [ho.size]; exact Nat.le_refl _) (fun c h1 h2 => ho.block c (by omega))
    exact hb.mono (by omega) hb.1 (Nat.le_refl _)
  · exact bw2.trans ((setBd_oth w2 w.heap.size z hz mk (.slice va m vc)).below (Nat.le_refl _))
set_option maxRecDepth 100000 in
set_option maxHeartbeats 1600000 in
theorem drawTellDirty_any (ao : Option Addr) (n cap : Nat) (f : Nat → Int) (w : World) (hr : Row w ao n f) (hn : n ≤ 1048576) :
    Calls Try.prog 4 #[.slice ao n cap] w fun e w' => DbO w e w' := by
  have b0 := below_new w (.cells #[.int .i64 0, .int .i64 0, .int .i64 0, .slice none 0 0] 25)
  have R0 := BdAt.new w 0 0 0 (.slice none 0 0) 25
  have Rf : ∀ j, (w.alloc (.cells #[.int .i64 0, .int .i64 0, .int .i64 0, .slice none 0 0] 25)).frozen? ⟨w.heap.size, j, none⟩ = false := fun j => by simp [go_sem]
  have s1 : (w.alloc (.cells #[.int .i64 0, .int .i64 0, .int .i64 0, .slice none 0 0] 25)).heap.size = w.heap.size + 1 := by simp
  go_enter Try.func4, Try.ntmps4
  go_wp2_with fail
  generalize w.alloc (.cells #[.int .i64 0, .int .i64 0, .int .i64 0, .slice none 0 0] 25) = w1 at b0 R0 Rf s1 ⊢
  refine (drawGoodBoard_any ao n cap f w1 (hr.keep b0) hn).mono ?_
  rintro e w2 ⟨z, hz, mk, va, m, vc, X, rfl, hBA, hok, q⟩
  have R2 := R0.keep q
  have Rf2 : ∀ j, w2.frozen? ⟨w.heap.size, j, none⟩ = false := fun j => (q.frozen (p := ⟨w.heap.size, j, none⟩) R0.lt).trans (Rf j)
  have bw2 := b0.trans (q.mono b0.size)
  obtain ⟨_, r0, r1, r2, r3⟩ := id R2
  clear b0 R0 Rf q
  go_wp2
  refine bodyPost_ret (v := .agg #[.int .i64 z, .int .i64 hz, .int .i64 mk, .slice va m vc]) (by simp [results, Try.results4, go_sem, r0, r1, r2, r3]) rfl ⟨z, hz, mk, va, m, vc, X, rfl, ?_, hok, ?_⟩
  · have ho := setBd_oth w2 w.heap.size z hz mk (.slice va m vc)
    have hb := hBA.same (w' := setBd w2 w.heap.size z hz mk (.slice va m vc)) (by rw [ho.size]; exact Nat.le_refl _) (fun c h1 h2 => ho.block c (by omega))
    exact hb.mono (by omega) hb.1 (Nat.le_refl _)
  · exact bw2.trans ((setBd_oth w2 w.heap.size z hz mk (.slice va m vc)).below (Nat.le_refl _))
/-- What is drawn for AddEvent. -/
def DaO (w : World) (e : Ending) (w' : World) : Prop :=
  ∃ (z hz mk : Int) (va : Option Addr) (m vc : Nat) (X : Nat → Wn) (km : ByteArray) (ka : Option Addr) (kc : Nat) (T : List (ByteArray × ByteArray)) (st t v : Int), e = .returned (.tuple #[.agg #[.int .i64 z, .int .i64 hz, .int .i64 mk, .slice va m vc], .agg #[.string km, .slice ka T.length kc, .int .i64 st], .int .i64 t, .int .i64 v]) ∧ BA w' w.heap.size w'.heap.size (.slice va m vc) m X ∧ WOk m X ∧ TgL w' w.heap.size (.slice ka T.length kc) T ∧ km.size ≤ 20 ∧ T.length ≤ 3 ∧ TSz T ∧ Below w.heap.size w w'
/-- What is held while it is drawn. -/
structure DA (w w1 W : World) (CB : Nat) (ao : Option Addr) (n cap : Nat) (f : Nat → Int) (A bb kb top : Nat) (z hz mk : Int) (va : Option Addr) (m vc : Nat) (X : Nat → Wn) (km : ByteArray) (ka : Option Addr) (kc : Nat) (T : List (ByteArray × ByteArray)) (st : Int) : Prop where
  cs : CS w1 W CB ao n cap f A
  r : BdAt W w.heap.size 0 0 0 (.slice none 0 0)
  rf : ∀ j, W.frozen? ⟨w.heap.size, j, none⟩ = false
  q : KAt W (w.heap.size + 1) ⟨#[]⟩ (.slice none 0 0) 0
  qf : ∀ j, W.frozen? ⟨w.heap.size + 1, j, none⟩ = false
  b : BdAt W bb z hz mk (.slice va m vc)
  k : KAt W kb km (.slice ka T.length kc) st
  ba : BA W (w.heap.size + 2) top (.slice va m vc) m X
  tg : TgL W (w.heap.size + 2) (.slice ka T.length kc) T
  bw : Below w.heap.size w W
  h1 : w.heap.size + 2 ≤ bb
  h2 : w.heap.size + 2 ≤ kb
  hc : CB = w.heap.size + 2
  hb : w1.heap.size ≤ bb ∧ w1.heap.size ≤ kb
  lo : BA W w1.heap.size top (.slice va m vc) m X
  tl : TgL W w1.heap.size (.slice ka T.length kc) T
theorem DA.draw {w w1 W W' : World} {CB : Nat} {ao : Option Addr} {n cap : Nat} {f : Nat → Int} {A A' bb kb top : Nat} {z hz mk : Int} {va : Option Addr} {m vc : Nat} {X : Nat → Wn} {km : ByteArray} {ka : Option Addr} {kc : Nat} {T : List (ByteArray × ByteArray)} {st : Int} (h : DA w w1 W CB ao n cap f A bb kb top z hz mk va m vc X km ka kc T st) (k : CS W W' CB ao n cap f A') : DA w w1 W' CB ao n cap f A' bb kb top z hz mk va m vc X km ka kc T st := by
  have h1 := h.h1
  have h2 := h.h2
  have hc := h.hc
  have hb := h.hb
  have hl := h.cs.lt
  exact ⟨h.cs.trans k, h.r.grown k.gr (by intro e; injection e with e; omega), fz_grown h.rf h.r.lt k.gr (by intro e; injection e with e; omega), h.q.grown k.gr (by intro e; injection e with e; omega), fz_grown h.qf h.q.lt k.gr (by intro e; injection e with e; omega), h.b.grown k.gr (by intro e; injection e with e; omega), h.k.grown k.gr (by intro e; injection e with e; omega), (h.lo.grown k.gr (fun q e => by injection e with e; omega)).mono (by omega) (Nat.le_refl _) (Nat.le_trans h.lo.1 k.gr.size), ownsRow_mono (ownsRow_kept h.tl k.gr (fun q e hh => by injection e with e; have := (World.ownsRow.lt h.tl q hh).1; omega)) (by omega), h.bw.grown k.gr h.bw.size (fun q e => by injection e with e; omega), h1, h2, hc, hb, h.lo.grown k.gr (fun q e => by injection e with e; omega), ownsRow_kept h.tl k.gr (fun q e hh => by injection e with e; have := (World.ownsRow.lt h.tl q hh).1; omega)⟩
set_option maxRecDepth 100000 in
set_option maxHeartbeats 8000000 in
theorem drawAddEvent_any (ao : Option Addr) (n cap : Nat) (f : Nat → Int) (w : World) (hr : Row w ao n f) (hn : n ≤ 1048576) :
    Calls Try.prog 9 #[.slice ao n cap] w fun e w' => DaO w e w' := by
  have b0 := below_new w (.cells #[.int .i64 0, .int .i64 0, .int .i64 0, .slice none 0 0] 25)
  have R0 := BdAt.new w 0 0 0 (.slice none 0 0) 25
  have Rf0 : ∀ j, (w.alloc (.cells #[.int .i64 0, .int .i64 0, .int .i64 0, .slice none 0 0] 25)).frozen? ⟨w.heap.size, j, none⟩ = false := fun j => by simp [go_sem]
  have s0 : (w.alloc (.cells #[.int .i64 0, .int .i64 0, .int .i64 0, .slice none 0 0] 25)).heap.size = w.heap.size + 1 := by simp
  have b1 := below_new (w.alloc (.cells #[.int .i64 0, .int .i64 0, .int .i64 0, .slice none 0 0] 25)) (.cells #[.string ⟨#[]⟩, .slice none 0 0, .int .i64 0] 32)
  have Q1 := KAt.new (w.alloc (.cells #[.int .i64 0, .int .i64 0, .int .i64 0, .slice none 0 0] 25)) ⟨#[]⟩ (.slice none 0 0) 0 32
  have Qf1 : ∀ j, ((w.alloc (.cells #[.int .i64 0, .int .i64 0, .int .i64 0, .slice none 0 0] 25)).alloc (.cells #[.string ⟨#[]⟩, .slice none 0 0, .int .i64 0] 32)).frozen? ⟨w.heap.size + 1, j, none⟩ = false := fun j => by simp [go_sem]
  have s1 : ((w.alloc (.cells #[.int .i64 0, .int .i64 0, .int .i64 0, .slice none 0 0] 25)).alloc (.cells #[.string ⟨#[]⟩, .slice none 0 0, .int .i64 0] 32)).heap.size = w.heap.size + 2 := by simp
  have R1 := R0.keep b1
  have Rf1 := fun j => (b1.frozen (p := ⟨w.heap.size, j, none⟩) R0.lt).trans (Rf0 j)
  have bw1 := b0.trans (b1.mono b0.size)
  rw [s0] at Q1
  have b2 := below_new ((w.alloc (.cells #[.int .i64 0, .int .i64 0, .int .i64 0, .slice none 0 0] 25)).alloc (.cells #[.string ⟨#[]⟩, .slice none 0 0, .int .i64 0] 32)) (.cells #[.slice ao n cap, .int .i64 0, .int .u64 0] 71)
  have C2 := cs_new (cap := cap) (hr.keep bw1) hn
  have R2 := R1.keep b2
  have Q2 := Q1.keep b2
  have Rf2 := fun j => (b2.frozen (p := ⟨w.heap.size, j, none⟩) R1.lt).trans (Rf1 j)
  have Qf2 := fun j => (b2.frozen (p := ⟨w.heap.size + 1, j, none⟩) Q1.lt).trans (Qf1 j)
  have bw2 := bw1.trans (b2.mono bw1.size)
  rw [s1] at C2
  have s2 : (((w.alloc (.cells #[.int .i64 0, .int .i64 0, .int .i64 0, .slice none 0 0] 25)).alloc (.cells #[.string ⟨#[]⟩, .slice none 0 0, .int .i64 0] 32)).alloc (.cells #[.slice ao n cap, .int .i64 0, .int .u64 0] 71)).heap.size = w.heap.size + 3 := by simp
  clear b0 b1 b2 R0 Rf0 R1 Rf1 Q1 Qf1 bw1 s0 s1
  go_enter Try.func9, Try.ntmps9
  go_wp2_with fail
  generalize ((w.alloc (.cells #[.int .i64 0, .int .i64 0, .int .i64 0, .slice none 0 0] 25)).alloc (.cells #[.string ⟨#[]⟩, .slice none 0 0, .int .i64 0] 32)).alloc (.cells #[.slice ao n cap, .int .i64 0, .int .u64 0] 71) = w1 at C2 R2 Q2 Rf2 Qf2 bw2 s2 ⊢
  refine (board_s C2 (by omega)).mono ?_
  rintro e w2 ⟨z, hz, mk, va, m, vc, X, rfl, hBA, hok', K2⟩
  have hok : Hid (WOk m X) := hok'
  clear hok'
  have R3 := R2.grown K2.gr (by intro e; injection e with e; omega)
  have Rf3 := fz_grown Rf2 R2.lt K2.gr (by intro e; injection e with e; omega)
  have Q3 := Q2.grown K2.gr (by intro e; injection e with e; omega)
  have Qf3 := fz_grown Qf2 Q2.lt K2.gr (by intro e; injection e with e; omega)
  have bw3 : Below w.heap.size w w2 := bw2.grown K2.gr bw2.size (fun k e => by injection e with e; omega)
  have b4 := below_new w2 (.cells #[.int .i64 z, .int .i64 hz, .int .i64 mk, .slice va m vc] 25)
  have B4 := BdAt.new w2 z hz mk (.slice va m vc) 25
  have K4 := K2.keep b4
  have R4 := R3.keep b4
  have Q4 := Q3.keep b4
  have Rf4 := fun j => (b4.frozen (p := ⟨w.heap.size, j, none⟩) R3.lt).trans (Rf3 j)
  have Qf4 := fun j => (b4.frozen (p := ⟨w.heap.size + 1, j, none⟩) Q3.lt).trans (Qf3 j)
  have A4 := hBA.keep b4
  have bw4 := bw3.trans (b4.mono bw3.size)
  have hs2 := K2.gr.size
  clear R2 Rf2 Q2 Qf2 bw2 R3 Rf3 Q3 Qf3 bw3 b4 K2 hBA C2
  go_wp2_with fail
  generalize w2.alloc (.cells #[.int .i64 z, .int .i64 hz, .int .i64 mk, .slice va m vc] 25) = w4 at B4 K4 R4 Q4 Rf4 Qf4 A4 bw4 ⊢
  obtain ⟨top, htop⟩ : ∃ t, Hid (t = w2.heap.size) := ⟨_, rfl⟩
  obtain ⟨bb, hbb⟩ : ∃ t, Hid (t = w2.heap.size) := ⟨_, rfl⟩
  have hb0 : w1.heap.size ≤ bb := by have := hbb.out; omega
  rw [← htop.out] at A4
  rw [← hbb.out] at B4 ⊢
  refine (event_s K4.self (by omega)).mono ?_
  rintro e w5 ⟨km, ka, kc, T, st, t, v, rfl, hT, hm, hl, hts, K5⟩
  have SZ : Hid (km.size ≤ 20 ∧ T.length ≤ 3 ∧ TSz T) := ⟨hm, hl, hts⟩
  have s4 := K4.gr.size
  have s5 := K5.gr.size
  have R5 := R4.grown K5.gr (by intro e; injection e with e; omega)
  have Rf5 := fz_grown Rf4 R4.lt K5.gr (by intro e; injection e with e; omega)
  have Q5 := Q4.grown K5.gr (by intro e; injection e with e; omega)
  have Qf5 := fz_grown Qf4 Q4.lt K5.gr (by intro e; injection e with e; omega)
  have B5 := B4.grown K5.gr (by intro e; injection e with e; omega)
  have A5 := A4.grown K5.gr (fun q e => by injection e with e; omega)
  have bw5 : Below w.heap.size w w5 := bw4.grown K5.gr bw4.size (fun k e => by injection e with e; omega)
  have C5 := K4.trans K5
  have b6 := below_new w5 (.cells #[.string km, .slice ka T.length kc, .int .i64 st] 32)
  have V6 : DA w w1 (w5.alloc (.cells #[.string km, .slice ka T.length kc, .int .i64 st] 32)) (w.heap.size + 2) ao n cap f _ bb w5.heap.size top z hz mk va m vc X km ka kc T st := ⟨C5.keep b6, R5.keep b6, fun j => (b6.frozen (p := ⟨w.heap.size, j, none⟩) R5.lt).trans (Rf5 j), Q5.keep b6, fun j => (b6.frozen (p := ⟨w.heap.size + 1, j, none⟩) Q5.lt).trans (Qf5 j), B5.keep b6, KAt.new w5 km (.slice ka T.length kc) st 32, (A5.keep b6).mono (by omega) (Nat.le_refl _) (A5.keep b6).1, ownsRow_mono (ownsRow_keep hT b6) (by omega), bw5.trans (b6.mono bw5.size), by omega, by omega, rfl, ⟨hb0, by omega⟩, A5.keep b6, ownsRow_mono (ownsRow_keep hT b6) (by omega)⟩
  clear R4 Rf4 Q4 Qf4 B4 A4 bw4 K4 R5 Rf5 Q5 Qf5 B5 A5 bw5 C5 b6 hT hm hl hts K5
  go_wp2_with fail
  generalize w5.alloc (.cells #[.string km, .slice ka T.length kc, .int .i64 st] 32) = w6 at V6 ⊢
  generalize w5.heap.size = kb at V6 ⊢
  refine (one_s 20 (by omega) V6.cs.self (by omega)).mono ?_
  rintro e w7 ⟨bo, rfl, K7⟩
  have V7 := V6.draw K7
  clear V6 K7
  cases bo
  · skip
    go_wp2
    have bd : Below w7.heap.size w7 w7.drew := (Below.refl _ w7).drew
    obtain ⟨u0, hu0⟩ : ∃ u, u = w7.drew := ⟨_, rfl⟩
    rw [← hu0] at bd
    have Rb := V7.r.keep bd
    have Qb := V7.q.keep bd
    have Rf : ∀ j, u0.frozen? ⟨w.heap.size, j, none⟩ = false := fun j => (bd.frozen (p := ⟨w.heap.size, j, none⟩) V7.r.lt).trans (V7.rf j)
    have Qf : ∀ j, u0.frozen? ⟨w.heap.size + 1, j, none⟩ = false := fun j => (bd.frozen (p := ⟨w.heap.size + 1, j, none⟩) V7.q.lt).trans (V7.qf j)
    have Bb := V7.b.keep bd
    have Kb := V7.k.keep bd
    have Ab := V7.ba.keep bd
    have Tb := ownsRow_keep V7.tg bd
    have bw := V7.bw.trans (bd.mono V7.bw.size)
    have h1 := V7.h1
    have h2 := V7.h2
    clear V7 bd
    refine wp_region_w (fun w' : World => w'.cell? ⟨bb, 0, none⟩ = some (.int .i64 z) ∧ w'.cell? ⟨bb, 1, none⟩ = some (.int .i64 hz) ∧ w'.cell? ⟨bb, 2, none⟩ = some (.int .i64 mk) ∧ w'.cell? ⟨bb, 3, none⟩ = some (.slice va m vc) ∧ w'.cell? ⟨kb, 0, none⟩ = some (.string km) ∧ w'.cell? ⟨kb, 1, none⟩ = some (.slice ka T.length kc) ∧ w'.cell? ⟨kb, 2, none⟩ = some (.int .i64 st)) (fun _ => true) (by kernel_rfl) ?_
    change wpW _ _ _ _ _ _ 8 _ _ w7.drew
    rw [← hu0]
    clear hu0
    have hS0 : (fun w' : World => w'.cell? ⟨bb, 0, none⟩ = some (.int .i64 z) ∧ w'.cell? ⟨bb, 1, none⟩ = some (.int .i64 hz) ∧ w'.cell? ⟨bb, 2, none⟩ = some (.int .i64 mk) ∧ w'.cell? ⟨bb, 3, none⟩ = some (.slice va m vc) ∧ w'.cell? ⟨kb, 0, none⟩ = some (.string km) ∧ w'.cell? ⟨kb, 1, none⟩ = some (.slice ka T.length kc) ∧ w'.cell? ⟨kb, 2, none⟩ = some (.int .i64 st)) u0 := ⟨Bb.c0, Bb.c1, Bb.c2, Bb.c3, Kb.c0, Kb.c1, Kb.c2⟩
    refine wpW_take 0 _ (.agg #[.int .i64 z, .int .i64 hz, .int .i64 mk, .slice va m vc]) rfl (by kernel_rfl) (by kernel_rfl) (by kernel_rfl) (fun _ _ _ h => h) (by kernel_rfl) (.inl ⟨rfl, fun w' hS' => by obtain ⟨s0, s1, s2, s3, s4, s5, s6⟩ := hS'; go_simp⟩) hS0 ?_
    refine wpW_take 1 _ (.agg #[.string km, .slice ka T.length kc, .int .i64 st]) rfl (by kernel_rfl) (by kernel_rfl) (by kernel_rfl) (fun _ _ _ h => h) (by kernel_rfl) (.inl ⟨rfl, fun w' hS' => by obtain ⟨s0, s1, s2, s3, s4, s5, s6⟩ := hS'; go_simp⟩) hS0 ?_
    refine wpW_take 2 _ (.int .i64 t) rfl (by kernel_rfl) (by kernel_rfl) (by kernel_rfl) (fun _ _ _ h => h) (by kernel_rfl) (.inl ⟨rfl, fun w' hS' => by obtain ⟨s0, s1, s2, s3, s4, s5, s6⟩ := hS'; go_simp⟩) hS0 ?_
    refine wpW_take 3 _ (.int .i64 v) rfl (by kernel_rfl) (by kernel_rfl) (by kernel_rfl) (fun _ _ _ h => h) (by kernel_rfl) (.inl ⟨rfl, fun w' hS' => by obtain ⟨s0, s1, s2, s3, s4, s5, s6⟩ := hS'; go_simp⟩) hS0 ?_
    simp only [Act.put, List.getElem_toArray, List.getElem_cons_succ, List.getElem_cons_zero, List.setIfInBounds_toArray, List.set_cons_zero, List.set_cons_succ]
    refine wpW_one 4 _ rfl (by kernel_rfl) (step_stB rfl 2 26 rfl w.heap.size _ _ _ _ z hz mk va m vc (by simp [Act.eval, Act.put]) (by simp [Act.eval, Act.put]) Rb Rf ?_)
    have o1 := setBd_oth u0 w.heap.size z hz mk (.slice va m vc)
    have R1 := setBd_at Rb z hz mk (.slice va m vc)
    generalize setBd u0 w.heap.size z hz mk (.slice va m vc) = u1 at o1 R1 ⊢
    have hS1 : (fun w' : World => w'.cell? ⟨bb, 0, none⟩ = some (.int .i64 z) ∧ w'.cell? ⟨bb, 1, none⟩ = some (.int .i64 hz) ∧ w'.cell? ⟨bb, 2, none⟩ = some (.int .i64 mk) ∧ w'.cell? ⟨bb, 3, none⟩ = some (.slice va m vc) ∧ w'.cell? ⟨kb, 0, none⟩ = some (.string km) ∧ w'.cell? ⟨kb, 1, none⟩ = some (.slice ka T.length kc) ∧ w'.cell? ⟨kb, 2, none⟩ = some (.int .i64 st)) u1 := by
      have B1 := Bb.others o1 (by omega)
      have K1 := Kb.oth o1 (by omega)
      exact ⟨B1.c0, B1.c1, B1.c2, B1.c3, K1.c0, K1.c1, K1.c2⟩
    refine ⟨fun _ => hS1, ?_⟩
    simp only [Act.put, List.getElem_toArray, List.getElem_cons_succ, List.getElem_cons_zero, List.setIfInBounds_toArray, List.set_cons_zero, List.set_cons_succ]
    have Q1 := Qb.oth o1 (by omega)
    have Qf1 := fz_oth Qf o1 (by omega)
    refine wpW_one 5 _ rfl (by kernel_rfl) (step_stK rfl 3 27 rfl (w.heap.size + 1) _ km _ ka T.length kc _ st (by simp [Act.eval, Act.put]) (by simp [Act.eval, Act.put]) Q1 Qf1 ?_)
    have o2 : Others (w.heap.size + 1) u1 (((u1.setCell ⟨w.heap.size + 1, 0, none⟩ (.string km)).setCell ⟨w.heap.size + 1, 1, none⟩ (.slice ka T.length kc)).setCell ⟨w.heap.size + 1, 2, none⟩ (.int .i64 st)) := ((Others.setCell _ _ _ _).trans (Others.setCell _ _ _ _)).trans (Others.setCell _ _ _ _)
    obtain ⟨_, q0, q1, q2⟩ := id Q1
    have x0 : (((u1.setCell ⟨w.heap.size + 1, 0, none⟩ (.string km)).setCell ⟨w.heap.size + 1, 1, none⟩ (.slice ka T.length kc)).setCell ⟨w.heap.size + 1, 2, none⟩ (.int .i64 st)).cell? ⟨w.heap.size + 1, 0, none⟩ = some (.string km) := by simp [go_sem, q0, q1, q2]
    have x1 : (((u1.setCell ⟨w.heap.size + 1, 0, none⟩ (.string km)).setCell ⟨w.heap.size + 1, 1, none⟩ (.slice ka T.length kc)).setCell ⟨w.heap.size + 1, 2, none⟩ (.int .i64 st)).cell? ⟨w.heap.size + 1, 1, none⟩ = some (.slice ka T.length kc) := by simp [go_sem, q0, q1, q2]
    have x2 : (((u1.setCell ⟨w.heap.size + 1, 0, none⟩ (.string km)).setCell ⟨w.heap.size + 1, 1, none⟩ (.slice ka T.length kc)).setCell ⟨w.heap.size + 1, 2, none⟩ (.int .i64 st)).cell? ⟨w.heap.size + 1, 2, none⟩ = some (.int .i64 st) := by simp [go_sem, q0, q1, q2]
    change _ ∧ wpW _ _ _ _ _ _ _ _ _ (((u1.setCell ⟨w.heap.size + 1, 0, none⟩ (.string km)).setCell ⟨w.heap.size + 1, 1, none⟩ (.slice ka T.length kc)).setCell ⟨w.heap.size + 1, 2, none⟩ (.int .i64 st))
    generalize (((u1.setCell ⟨w.heap.size + 1, 0, none⟩ (.string km)).setCell ⟨w.heap.size + 1, 1, none⟩ (.slice ka T.length kc)).setCell ⟨w.heap.size + 1, 2, none⟩ (.int .i64 st)) = u2 at o2 x0 x1 x2 ⊢
    have R2 := R1.others o2 (by omega)
    have hS2 : (fun w' : World => w'.cell? ⟨bb, 0, none⟩ = some (.int .i64 z) ∧ w'.cell? ⟨bb, 1, none⟩ = some (.int .i64 hz) ∧ w'.cell? ⟨bb, 2, none⟩ = some (.int .i64 mk) ∧ w'.cell? ⟨bb, 3, none⟩ = some (.slice va m vc) ∧ w'.cell? ⟨kb, 0, none⟩ = some (.string km) ∧ w'.cell? ⟨kb, 1, none⟩ = some (.slice ka T.length kc) ∧ w'.cell? ⟨kb, 2, none⟩ = some (.int .i64 st)) u2 := by
      have B1 := (Bb.others o1 (by omega)).others o2 (by omega)
      have K1 := (Kb.oth o1 (by omega)).oth o2 (by omega)
      exact ⟨B1.c0, B1.c1, B1.c2, B1.c3, K1.c0, K1.c1, K1.c2⟩
    refine ⟨fun _ => hS2, ?_⟩
    simp only [Act.put, List.getElem_toArray, List.getElem_cons_succ, List.getElem_cons_zero, List.setIfInBounds_toArray, List.set_cons_zero, List.set_cons_succ]
    refine wpW_one 6 _ rfl (by kernel_rfl) (step_asI rfl 28 rfl t (by simp [Act.eval, Act.put]) ?_)
    refine ⟨fun _ => hS2, ?_⟩
    simp only [Act.put, List.getElem_toArray, List.getElem_cons_succ, List.getElem_cons_zero, List.setIfInBounds_toArray, List.set_cons_zero, List.set_cons_succ]
    refine wpW_one 7 _ rfl (by kernel_rfl) (step_asI rfl 29 rfl v (by simp [Act.eval, Act.put]) ?_)
    refine ⟨fun _ => hS2, ?_⟩
    refine wpW_done (by kernel_rfl) ?_
    simp only [Act.put, List.getElem_toArray, List.getElem_cons_succ, List.getElem_cons_zero, List.setIfInBounds_toArray, List.set_cons_zero, List.set_cons_succ]
    obtain ⟨_, r0, r1, r2, r3⟩ := id R2
    have A2 := (Ab.same (w' := u1) (by rw [o1.size]; exact Nat.le_refl _) (fun c h1 h2 => o1.block c (by omega))).same (w' := u2) (by rw [o2.size]; exact Nat.le_refl _) (fun c h1 h2 => o2.block c (by omega))
    have T2 := ownsRow_others (ownsRow_others Tb o1 (fun hh => by have := (World.ownsRow.lt Tb _ hh).1; omega)) o2 (fun hh => by have := (World.ownsRow.lt Tb _ hh).1; omega)
    have bw2 := (bw.trans (o1.below (Nat.le_refl _))).trans (o2.below (by omega))
    clear hS0 hS1 hS2 Rb Qb Bb Kb Ab Tb R1 R2 Q1 Qf1 q0 q1 q2 o1 o2 Rf Qf bw
    go_wp2
    exact bodyPost_ret (v := .tuple #[.agg #[.int .i64 z, .int .i64 hz, .int .i64 mk, .slice va m vc], .agg #[.string km, .slice ka T.length kc, .int .i64 st], .int .i64 t, .int .i64 v]) (by simp [results, Try.results9, go_sem, r0, r1, r2, r3, x0, x1, x2]) rfl ⟨z, hz, mk, va, m, vc, X, km, ka, kc, T, st, t, v, rfl, A2.mono (by omega) A2.1 (Nat.le_refl _), hok.out, ownsRow_mono T2 (by omega), SZ.out.1, SZ.out.2.1, SZ.out.2.2, bw2⟩
  · go_wp2_with fail
    refine (sized_s V7.cs.self (by omega)).mono ?_
    rintro e w8 ⟨vv, rfl, K8⟩
    have V8 := V7.draw K8
    clear V7 K8
    go_wp2
    have bd : Below w8.heap.size w8 w8.drew := (Below.refl _ w8).drew
    obtain ⟨u0, hu0⟩ : ∃ u, u = w8.drew := ⟨_, rfl⟩
    rw [← hu0] at bd
    have Rb := V8.r.keep bd
    have Qb := V8.q.keep bd
    have Rf : ∀ j, u0.frozen? ⟨w.heap.size, j, none⟩ = false := fun j => (bd.frozen (p := ⟨w.heap.size, j, none⟩) V8.r.lt).trans (V8.rf j)
    have Qf : ∀ j, u0.frozen? ⟨w.heap.size + 1, j, none⟩ = false := fun j => (bd.frozen (p := ⟨w.heap.size + 1, j, none⟩) V8.q.lt).trans (V8.qf j)
    have Bb := V8.b.keep bd
    have Kb := V8.k.keep bd
    have Ab := V8.ba.keep bd
    have Tb := ownsRow_keep V8.tg bd
    have bw := V8.bw.trans (bd.mono V8.bw.size)
    have h1 := V8.h1
    have h2 := V8.h2
    clear V8 bd
    refine wp_region_w (fun w' : World => w'.cell? ⟨bb, 0, none⟩ = some (.int .i64 z) ∧ w'.cell? ⟨bb, 1, none⟩ = some (.int .i64 hz) ∧ w'.cell? ⟨bb, 2, none⟩ = some (.int .i64 mk) ∧ w'.cell? ⟨bb, 3, none⟩ = some (.slice va m vc) ∧ w'.cell? ⟨kb, 0, none⟩ = some (.string km) ∧ w'.cell? ⟨kb, 1, none⟩ = some (.slice ka T.length kc) ∧ w'.cell? ⟨kb, 2, none⟩ = some (.int .i64 st)) (fun _ => true) (by kernel_rfl) ?_
    change wpW _ _ _ _ _ _ 8 _ _ w8.drew
    rw [← hu0]
    clear hu0
    have hS0 : (fun w' : World => w'.cell? ⟨bb, 0, none⟩ = some (.int .i64 z) ∧ w'.cell? ⟨bb, 1, none⟩ = some (.int .i64 hz) ∧ w'.cell? ⟨bb, 2, none⟩ = some (.int .i64 mk) ∧ w'.cell? ⟨bb, 3, none⟩ = some (.slice va m vc) ∧ w'.cell? ⟨kb, 0, none⟩ = some (.string km) ∧ w'.cell? ⟨kb, 1, none⟩ = some (.slice ka T.length kc) ∧ w'.cell? ⟨kb, 2, none⟩ = some (.int .i64 st)) u0 := ⟨Bb.c0, Bb.c1, Bb.c2, Bb.c3, Kb.c0, Kb.c1, Kb.c2⟩
    refine wpW_take 0 _ (.agg #[.int .i64 z, .int .i64 hz, .int .i64 mk, .slice va m vc]) rfl (by kernel_rfl) (by kernel_rfl) (by kernel_rfl) (fun _ _ _ h => h) (by kernel_rfl) (.inl ⟨rfl, fun w' hS' => by obtain ⟨s0, s1, s2, s3, s4, s5, s6⟩ := hS'; go_simp⟩) hS0 ?_
    refine wpW_take 1 _ (.agg #[.string km, .slice ka T.length kc, .int .i64 st]) rfl (by kernel_rfl) (by kernel_rfl) (by kernel_rfl) (fun _ _ _ h => h) (by kernel_rfl) (.inl ⟨rfl, fun w' hS' => by obtain ⟨s0, s1, s2, s3, s4, s5, s6⟩ := hS'; go_simp⟩) hS0 ?_
    refine wpW_take 2 _ (.int .i64 t) rfl (by kernel_rfl) (by kernel_rfl) (by kernel_rfl) (fun _ _ _ h => h) (by kernel_rfl) (.inl ⟨rfl, fun w' hS' => by obtain ⟨s0, s1, s2, s3, s4, s5, s6⟩ := hS'; go_simp⟩) hS0 ?_
    refine wpW_take 3 _ (.int .i64 vv) rfl (by kernel_rfl) (by kernel_rfl) (by kernel_rfl) (fun _ _ _ h => h) (by kernel_rfl) (.inl ⟨rfl, fun w' hS' => by obtain ⟨s0, s1, s2, s3, s4, s5, s6⟩ := hS'; go_simp⟩) hS0 ?_
    simp only [Act.put, List.getElem_toArray, List.getElem_cons_succ, List.getElem_cons_zero, List.setIfInBounds_toArray, List.set_cons_zero, List.set_cons_succ]
    refine wpW_one 4 _ rfl (by kernel_rfl) (step_stB rfl 2 26 rfl w.heap.size _ _ _ _ z hz mk va m vc (by simp [Act.eval, Act.put]) (by simp [Act.eval, Act.put]) Rb Rf ?_)
    have o1 := setBd_oth u0 w.heap.size z hz mk (.slice va m vc)
    have R1 := setBd_at Rb z hz mk (.slice va m vc)
    generalize setBd u0 w.heap.size z hz mk (.slice va m vc) = u1 at o1 R1 ⊢
    have hS1 : (fun w' : World => w'.cell? ⟨bb, 0, none⟩ = some (.int .i64 z) ∧ w'.cell? ⟨bb, 1, none⟩ = some (.int .i64 hz) ∧ w'.cell? ⟨bb, 2, none⟩ = some (.int .i64 mk) ∧ w'.cell? ⟨bb, 3, none⟩ = some (.slice va m vc) ∧ w'.cell? ⟨kb, 0, none⟩ = some (.string km) ∧ w'.cell? ⟨kb, 1, none⟩ = some (.slice ka T.length kc) ∧ w'.cell? ⟨kb, 2, none⟩ = some (.int .i64 st)) u1 := by
      have B1 := Bb.others o1 (by omega)
      have K1 := Kb.oth o1 (by omega)
      exact ⟨B1.c0, B1.c1, B1.c2, B1.c3, K1.c0, K1.c1, K1.c2⟩
    refine ⟨fun _ => hS1, ?_⟩
    simp only [Act.put, List.getElem_toArray, List.getElem_cons_succ, List.getElem_cons_zero, List.setIfInBounds_toArray, List.set_cons_zero, List.set_cons_succ]
    have Q1 := Qb.oth o1 (by omega)
    have Qf1 := fz_oth Qf o1 (by omega)
    refine wpW_one 5 _ rfl (by kernel_rfl) (step_stK rfl 3 27 rfl (w.heap.size + 1) _ km _ ka T.length kc _ st (by simp [Act.eval, Act.put]) (by simp [Act.eval, Act.put]) Q1 Qf1 ?_)
    have o2 : Others (w.heap.size + 1) u1 (((u1.setCell ⟨w.heap.size + 1, 0, none⟩ (.string km)).setCell ⟨w.heap.size + 1, 1, none⟩ (.slice ka T.length kc)).setCell ⟨w.heap.size + 1, 2, none⟩ (.int .i64 st)) := ((Others.setCell _ _ _ _).trans (Others.setCell _ _ _ _)).trans (Others.setCell _ _ _ _)
    obtain ⟨_, q0, q1, q2⟩ := id Q1
    have x0 : (((u1.setCell ⟨w.heap.size + 1, 0, none⟩ (.string km)).setCell ⟨w.heap.size + 1, 1, none⟩ (.slice ka T.length kc)).setCell ⟨w.heap.size + 1, 2, none⟩ (.int .i64 st)).cell? ⟨w.heap.size + 1, 0, none⟩ = some (.string km) := by simp [go_sem, q0, q1, q2]
    have x1 : (((u1.setCell ⟨w.heap.size + 1, 0, none⟩ (.string km)).setCell ⟨w.heap.size + 1, 1, none⟩ (.slice ka T.length kc)).setCell ⟨w.heap.size + 1, 2, none⟩ (.int .i64 st)).cell? ⟨w.heap.size + 1, 1, none⟩ = some (.slice ka T.length kc) := by simp [go_sem, q0, q1, q2]
    have x2 : (((u1.setCell ⟨w.heap.size + 1, 0, none⟩ (.string km)).setCell ⟨w.heap.size + 1, 1, none⟩ (.slice ka T.length kc)).setCell ⟨w.heap.size + 1, 2, none⟩ (.int .i64 st)).cell? ⟨w.heap.size + 1, 2, none⟩ = some (.int .i64 st) := by simp [go_sem, q0, q1, q2]
    change _ ∧ wpW _ _ _ _ _ _ _ _ _ (((u1.setCell ⟨w.heap.size + 1, 0, none⟩ (.string km)).setCell ⟨w.heap.size + 1, 1, none⟩ (.slice ka T.length kc)).setCell ⟨w.heap.size + 1, 2, none⟩ (.int .i64 st))
    generalize (((u1.setCell ⟨w.heap.size + 1, 0, none⟩ (.string km)).setCell ⟨w.heap.size + 1, 1, none⟩ (.slice ka T.length kc)).setCell ⟨w.heap.size + 1, 2, none⟩ (.int .i64 st)) = u2 at o2 x0 x1 x2 ⊢
    have R2 := R1.others o2 (by omega)
    have hS2 : (fun w' : World => w'.cell? ⟨bb, 0, none⟩ = some (.int .i64 z) ∧ w'.cell? ⟨bb, 1, none⟩ = some (.int .i64 hz) ∧ w'.cell? ⟨bb, 2, none⟩ = some (.int .i64 mk) ∧ w'.cell? ⟨bb, 3, none⟩ = some (.slice va m vc) ∧ w'.cell? ⟨kb, 0, none⟩ = some (.string km) ∧ w'.cell? ⟨kb, 1, none⟩ = some (.slice ka T.length kc) ∧ w'.cell? ⟨kb, 2, none⟩ = some (.int .i64 st)) u2 := by
      have B1 := (Bb.others o1 (by omega)).others o2 (by omega)
      have K1 := (Kb.oth o1 (by omega)).oth o2 (by omega)
      exact ⟨B1.c0, B1.c1, B1.c2, B1.c3, K1.c0, K1.c1, K1.c2⟩
    refine ⟨fun _ => hS2, ?_⟩
    simp only [Act.put, List.getElem_toArray, List.getElem_cons_succ, List.getElem_cons_zero, List.setIfInBounds_toArray, List.set_cons_zero, List.set_cons_succ]
    refine wpW_one 6 _ rfl (by kernel_rfl) (step_asI rfl 28 rfl t (by simp [Act.eval, Act.put]) ?_)
    refine ⟨fun _ => hS2, ?_⟩
    simp only [Act.put, List.getElem_toArray, List.getElem_cons_succ, List.getElem_cons_zero, List.setIfInBounds_toArray, List.set_cons_zero, List.set_cons_succ]
    refine wpW_one 7 _ rfl (by kernel_rfl) (step_asI rfl 29 rfl vv (by simp [Act.eval, Act.put]) ?_)
    refine ⟨fun _ => hS2, ?_⟩
    refine wpW_done (by kernel_rfl) ?_
    simp only [Act.put, List.getElem_toArray, List.getElem_cons_succ, List.getElem_cons_zero, List.setIfInBounds_toArray, List.set_cons_zero, List.set_cons_succ]
    obtain ⟨_, r0, r1, r2, r3⟩ := id R2
    have A2 := (Ab.same (w' := u1) (by rw [o1.size]; exact Nat.le_refl _) (fun c h1 h2 => o1.block c (by omega))).same (w' := u2) (by rw [o2.size]; exact Nat.le_refl _) (fun c h1 h2 => o2.block c (by omega))
    have T2 := ownsRow_others (ownsRow_others Tb o1 (fun hh => by have := (World.ownsRow.lt Tb _ hh).1; omega)) o2 (fun hh => by have := (World.ownsRow.lt Tb _ hh).1; omega)
    have bw2 := (bw.trans (o1.below (Nat.le_refl _))).trans (o2.below (by omega))
    clear hS0 hS1 hS2 Rb Qb Bb Kb Ab Tb R1 R2 Q1 Qf1 q0 q1 q2 o1 o2 Rf Qf bw
    go_wp2
    exact bodyPost_ret (v := .tuple #[.agg #[.int .i64 z, .int .i64 hz, .int .i64 mk, .slice va m vc], .agg #[.string km, .slice ka T.length kc, .int .i64 st], .int .i64 t, .int .i64 vv]) (by simp [results, Try.results9, go_sem, r0, r1, r2, r3, x0, x1, x2]) rfl ⟨z, hz, mk, va, m, vc, X, km, ka, kc, T, st, t, vv, rfl, A2.mono (by omega) A2.1 (Nat.le_refl _), hok.out, ownsRow_mono T2 (by omega), SZ.out.1, SZ.out.2.1, SZ.out.2.2, bw2⟩
end Go.Proofs.Ytpggmgmdcccmeaa
