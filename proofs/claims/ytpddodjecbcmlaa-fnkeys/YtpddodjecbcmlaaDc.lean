/- Two keys drawn from bytes. -/
import Derived.Test.YtpddodjecbcmlaaDg
import Derived.Deep.RegionHeld3
namespace Go.Proofs.Ytpddodjecbcmlaa
open Go.RowKit
set_option linter.unusedSimpArgs false
set_option linter.unusedVariables false

/-- Two drawn keys. -/
def DcO (w : World) (e : Ending) (w' : World) : Prop :=
  ∃ (m : ByteArray) (va : Option Addr) (vc : Nat) (T : List (ByteArray × ByteArray)) (st : Int) (m' : ByteArray) (va' : Option Addr) (vc' : Nat) (T' : List (ByteArray × ByteArray)) (st' : Int),
    e = .returned (.tuple #[.agg #[.string m, .slice va T.length vc, .int .i64 st], .agg #[.string m', .slice va' T'.length vc', .int .i64 st']]) ∧ TRow w' va T.length (nmL T) (vlL T) ∧ TRow w' va' T'.length (nmL T') (vlL T') ∧ m.size ≤ 20 ∧ m'.size ≤ 20 ∧ T.length ≤ 3 ∧ T'.length ≤ 3 ∧ TSz T ∧ TSz T' ∧ Below w.heap.size w w'
theorem trow_others {w w' : World} {ao : Option Addr} {cap B d U : Nat} {T : List (ByteArray × ByteArray)} (h : TgL w B (.slice ao T.length cap) T) (ho : Others d w w') (hd : d < B ∨ U ≤ d) (hU : ∀ k, (Value.slice ao T.length cap).ownBlock = some k → k < U) : TgL w' B (.slice ao T.length cap) T :=
  ownsRow_others h ho (fun e => by have h1 := (World.ownsRow.lt h d e).1; have h2 := hU d e; omega)

theorem kat_grown {w w' : World} {CB b : Nat} {m : ByteArray} {sv : Value} {st : Int} (h : KAt w b m sv st) (hg : w.grownBy w' (some CB)) (hne : b ≠ CB) : KAt w' b m sv st := by
  have n2 : (some b : Option Nat) ≠ some CB := fun e => hne (Option.some.inj e)
  exact ⟨Nat.lt_of_lt_of_le h.lt hg.size, hg.cell h.c0 n2, hg.cell h.c1 n2, hg.cell h.c2 n2⟩
theorem KAt.set2' {w : World} {b : Nat} {m : ByteArray} {sv : Value} {st : Int} (h : KAt w b m sv st) (s : Int) : KAt (w.setCell ⟨b, 2, none⟩ (.int .i64 s)) b m sv s :=
  ⟨by simpa using h.lt, by rw [World.cell?_setCell_other _ _ _ _ (by intro hh; injection hh with _ h2 _; omega)]; exact h.c0, by rw [World.cell?_setCell_other _ _ _ _ (by intro hh; injection hh with _ h2 _; omega)]; exact h.c1, by rw [World.cell?_setCell_same _ _ _ h.c2]⟩
theorem kat_others {w w' : World} {d b : Nat} {m : ByteArray} {sv : Value} {st : Int} (h : KAt w b m sv st) (ho : Others d w w') (hne : b ≠ d) : KAt w' b m sv st :=
  ⟨by rw [ho.size]; exact h.lt, (World.cell?_of_block (w := w) (a := ⟨b, 0, none⟩) (ho.block b hne)).trans h.c0, (World.cell?_of_block (w := w) (a := ⟨b, 1, none⟩) (ho.block b hne)).trans h.c1, (World.cell?_of_block (w := w) (a := ⟨b, 2, none⟩) (ho.block b hne)).trans h.c2⟩
theorem cu_others {w w' : World} {d CB : Nat} {cv : Value} {a : Nat} {sd : Int} (h : Cu w CB cv a sd) (ho : Others d w w') (hne : CB ≠ d) : Cu w' CB cv a sd :=
  ⟨by rw [ho.size]; exact h.lt, (World.cell?_of_block (w := w) (a := ⟨CB, 0, none⟩) (ho.block CB hne)).trans h.c0, (World.cell?_of_block (w := w) (a := ⟨CB, 1, none⟩) (ho.block CB hne)).trans h.c1, (World.cell?_of_block (w := w) (a := ⟨CB, 2, none⟩) (ho.block CB hne)).trans h.c2, fun i => (World.frozen?_of_block (w := w) (a := ⟨CB, i, none⟩) (ho.block CB hne)).trans (h.fz i), h.sb⟩
theorem grown_others {a w w' : World} {d CB : Nat} (h : a.grownBy w (some CB)) (ho : Others d w w') (hd : a.heap.size ≤ d) : a.grownBy w' (some CB) :=
  ⟨ho.os.trans h.os, ho.tape.trans h.tape, ho.output.trans h.output, by rw [ho.size]; exact h.size, fun i hi hne => (ho.block i (by omega)).trans (h.block i hi hne)⟩
theorem tg_grown {w w' : World} {B CB : Nat} {v : Value} {T : List (ByteArray × ByteArray)} (h : TgL w B v T) (hg : w.grownBy w' (some CB)) (hB : CB < B) : TgL w' B v T :=
  ownsRow_kept h hg (fun k e1 e2 => by injection e1 with e1; have := (World.ownsRow.lt h k e2).1; omega)
theorem tg_other {w w' : World} {B d U : Nat} {v : Value} {T : List (ByteArray × ByteArray)} (h : TgL w B v T) (ho : Others d w w') (hU : ∀ k, v.ownBlock = some k → k < U) (hd : d < B ∨ U ≤ d) : TgL w' B v T :=
  ownsRow_others h ho (fun e => by have h1 := (World.ownsRow.lt h d e).1; have h2 := hU d e; omega)
theorem fz_grown {w w' : World} {CB b : Nat} (h : ∀ j, w.frozen? ⟨b, j, none⟩ = false) (hg : w.grownBy w' (some CB)) (hb : b < w.heap.size) (hne : b ≠ CB) : ∀ j, w'.frozen? ⟨b, j, none⟩ = false := fun j => (World.frozen?_of_block (w := w) (a := ⟨b, j, none⟩) (hg.block b hb (fun e => hne (Option.some.inj e)))).trans (h j)
theorem fz_others {w w' : World} {d b : Nat} (h : ∀ j, w.frozen? ⟨b, j, none⟩ = false) (ho : Others d w w') (hne : b ≠ d) : ∀ j, w'.frozen? ⟨b, j, none⟩ = false := fun j => (World.frozen?_of_block (w := w) (a := ⟨b, j, none⟩) (ho.block b hne)).trans (h j)
theorem step_storeKy {w : World} {ops : Array Oper} {o : Oper} {a : Act} {K : Act → World → Prop} {Q : Exit → Act → World → Prop} {E : Prop} (hgd : o.guard = none) (k j : Nat)
    (ho : o.op = .store 37 (.tmp k) (.tmp j)) (b : Nat) (m : ByteArray) (va : Option Addr) (n c : Nat) (st : Int) (u0 u1 u2 : Value) (hx : a.eval (.tmp k) = .pointer (some ⟨b, 0, none⟩)) (hv : a.eval (.tmp j) = .agg #[.string m, .slice va n c, .int .i64 st]) (h0 : w.cell? ⟨b, 0, none⟩ = some u0) (h1 : w.cell? ⟨b, 1, none⟩ = some u1) (h2 : w.cell? ⟨b, 2, none⟩ = some u2) (f0 : w.frozen? ⟨b, 0, none⟩ = false) (f1 : w.frozen? ⟨b, 1, none⟩ = false) (f2 : w.frozen? ⟨b, 2, none⟩ = false)
    (h : K (a.put o.dst undef) (((w.setCell ⟨b, 0, none⟩ (.string m)).setCell ⟨b, 1, none⟩ (.slice va n c)).setCell ⟨b, 2, none⟩ (.int .i64 st))) :
    if Region.wanted o (yielded ops a.tmps) = true then Oper.wp Try.prog o a w K Q else E := by
  have hw : Region.wanted o (yielded ops a.tmps) = true := by simp [Region.wanted, hgd]
  rw [if_pos hw]
  have hx' : a.tmps.getD k undef = .pointer (some ⟨b, 0, none⟩) := hx
  have hv' : a.tmps.getD j undef = .agg #[.string m, .slice va n c, .int .i64 st] := hv
  unfold Oper.wp execOp
  simp only [ho, Act.eval, hx', hv']
  go_simp
  exact h
theorem three_others (w : World) (b : Nat) (x y z : Value) : Others b w (((w.setCell ⟨b, 0, none⟩ x).setCell ⟨b, 1, none⟩ y).setCell ⟨b, 2, none⟩ z) := ((Others.setCell w b 0 x).trans (Others.setCell _ b 1 y)).trans (Others.setCell _ b 2 z)

set_option maxHeartbeats 2000000 in
theorem drawCompareKeys_any (ao : Option Addr) (n cap : Nat) (f : Nat → Int) (w : World) (hr : Row w ao n f) (hn : n ≤ 1048576) :
    Calls Try.prog 14 #[.slice ao n cap] w fun e w' => DcO w e w' := by
  have b0 := (Below.refl w.heap.size w).alloc (Nat.le_refl _) (.cells #[.string ⟨#[]⟩, .slice none 0 0, .int .i64 0] 37)
  have b1 := b0.alloc (by simp) (.cells #[.string ⟨#[]⟩, .slice none 0 0, .int .i64 0] 37)
  have C1 := cu_new' ((w.alloc (.cells #[.string ⟨#[]⟩, .slice none 0 0, .int .i64 0] 37)).alloc (.cells #[.string ⟨#[]⟩, .slice none 0 0, .int .i64 0] 37)) (.slice ao n cap) 52
  have B1 := cb_new' (hr.keep b1) (.cells #[.slice ao n cap, .int .i64 0, .int .u64 0] 52)
  have K0 := KAt.keep (KAt.new w ⟨#[]⟩ (.slice none 0 0) 0 37) ((Below.refl _ _).alloc (Nat.le_refl _) (.cells #[.string ⟨#[]⟩, .slice none 0 0, .int .i64 0] 37))
  have K0' := KAt.new (w.alloc (.cells #[.string ⟨#[]⟩, .slice none 0 0, .int .i64 0] 37)) ⟨#[]⟩ (.slice none 0 0) 0 37
  have F0 : ∀ j, ((w.alloc (.cells #[.string ⟨#[]⟩, .slice none 0 0, .int .i64 0] 37)).alloc (.cells #[.string ⟨#[]⟩, .slice none 0 0, .int .i64 0] 37)).frozen? ⟨w.heap.size, j, none⟩ = false := fun j => by simp [go_sem]
  have F0' : ∀ j, ((w.alloc (.cells #[.string ⟨#[]⟩, .slice none 0 0, .int .i64 0] 37)).alloc (.cells #[.string ⟨#[]⟩, .slice none 0 0, .int .i64 0] 37)).frozen? ⟨w.heap.size + 1, j, none⟩ = false := fun j => by simp [go_sem]
  simp only [World.size_alloc] at C1 B1 K0'
  go_enter Try.func14, Try.ntmps14
  go_wp2_with fail
  refine (key_any (w.heap.size + 1 + 1) ao n cap 0 f 0 _ C1 B1 hn (by omega)).mono ?_
  rintro e w1 ⟨m, va, vc, T, st, rfl, TG, hm, hT, hTz, hst, ⟨a1, sd1, ha1, Cu1⟩, g1⟩
  have cA : ((w.alloc (.cells #[.string ⟨#[]⟩, .slice none 0 0, .int .i64 0] 37)).alloc (.cells #[.string ⟨#[]⟩, .slice none 0 0, .int .i64 0] 37)).heap.size = w.heap.size + 1 + 1 := by simp
  have bcur := (Below.refl (w.heap.size + 1 + 1) ((w.alloc (.cells #[.string ⟨#[]⟩, .slice none 0 0, .int .i64 0] 37)).alloc (.cells #[.string ⟨#[]⟩, .slice none 0 0, .int .i64 0] 37))).alloc (by simp) (.cells #[.slice ao n cap, .int .i64 0, .int .u64 0] 52)
  have bA0 := b1.trans (bcur.mono (by omega))
  have K0 := K0.keep (by rw [cA]; exact bcur)
  have K0' := K0'.keep (by rw [cA]; exact bcur)
  have F0 : ∀ j, _ := fun j => (bcur.frozen (p := ⟨w.heap.size, j, none⟩) (by show w.heap.size < _; omega)).trans (F0 j)
  have F0' : ∀ j, _ := fun j => (bcur.frozen (p := ⟨w.heap.size + 1, j, none⟩) (by show w.heap.size + 1 < _; omega)).trans (F0' j)
  have hAs : (((w.alloc (.cells #[.string ⟨#[]⟩, .slice none 0 0, .int .i64 0] 37)).alloc (.cells #[.string ⟨#[]⟩, .slice none 0 0, .int .i64 0] 37)).alloc (.cells #[.slice ao n cap, .int .i64 0, .int .u64 0] 52)).heap.size = w.heap.size + 3 := by simp
  clear bcur b0 b1 cA C1
  generalize (((w.alloc (.cells #[.string ⟨#[]⟩, .slice none 0 0, .int .i64 0] 37)).alloc (.cells #[.string ⟨#[]⟩, .slice none 0 0, .int .i64 0] 37)).alloc (.cells #[.slice ao n cap, .int .i64 0, .int .u64 0] 52)) = wA at *
  have s1 := g1.size
  have bA := (Below.refl w1.heap.size w1).alloc (Nat.le_refl _) (.cells #[.string m, .slice va T.length vc, .int .i64 st] 37)
  have g2 : wA.grownBy (w1.alloc (.cells #[.string m, .slice va T.length vc, .int .i64 st] 37)) (some (w.heap.size + 1 + 1)) := grown_trans g1 (grown_of_below bA _)
  have C2 := Cu1.keep bA
  have Cb2 := B1.grown g2
  have KA := KAt.new w1 m (.slice va T.length vc) st 37
  have TA : TgL (w1.alloc (.cells #[.string m, .slice va T.length vc, .int .i64 st] 37)) wA.heap.size (.slice va T.length vc) T := ownsRow_keep TG bA
  have hUA : ∀ k, (Value.slice va T.length vc).ownBlock = some k → k < w1.heap.size := fun k e => (World.ownsRow.lt TG k e).2
  have hsA : (w1.alloc (.cells #[.string m, .slice va T.length vc, .int .i64 st] 37)).heap.size = w1.heap.size + 1 := by simp
  clear TG bA Cu1
  obtain ⟨w2, hw2⟩ : ∃ w2, w1.alloc (.cells #[.string m, .slice va T.length vc, .int .i64 st] 37) = w2 := ⟨_, rfl⟩
  rw [hw2] at g2 C2 Cb2 KA TA hsA
  go_wp2_with fail
  try rw [hw2]
  clear hw2
  refine (key_any (w.heap.size + 1 + 1) ao n cap a1 f sd1 _ C2 Cb2 hn (by omega)).mono ?_
  rintro e w3 ⟨m', va', vc', T', st', rfl, TG', hm', hT', hTz', hst', ⟨a3, sd3, ha3, Cu3⟩, g3⟩
  have s3 := g3.size
  have bB := (Below.refl w3.heap.size w3).alloc (Nat.le_refl _) (.cells #[.string m', .slice va' T'.length vc', .int .i64 st'] 37)
  have KA3 := (kat_grown KA g3 (by omega)).keep bB
  have TA3 := ownsRow_keep (tg_grown TA g3 (by omega)) bB
  have KB := KAt.new w3 m' (.slice va' T'.length vc') st' 37
  have TB := ownsRow_keep TG' bB
  have hUB : ∀ k, (Value.slice va' T'.length vc').ownBlock = some k → k < w3.heap.size := fun k e => (World.ownsRow.lt TG' k e).2
  have zB : ∀ j, (w3.alloc (.cells #[.string m', .slice va' T'.length vc', .int .i64 st'] 37)).frozen? ⟨w3.heap.size, j, none⟩ = false := fun j => by simp [go_sem]
  have g4 : wA.grownBy (w3.alloc (.cells #[.string m', .slice va' T'.length vc', .int .i64 st'] 37)) (some (w.heap.size + 1 + 1)) := grown_trans (grown_trans g2 g3) (grown_of_below bB _)
  have C4 := Cu3.keep bB
  have Cb4 := B1.grown g4
  have hsB : (w3.alloc (.cells #[.string m', .slice va' T'.length vc', .int .i64 st'] 37)).heap.size = w3.heap.size + 1 := by simp
  clear TG' bB Cu3 KA TA g3 Cb2 C2
  obtain ⟨w4, hw4⟩ : ∃ w4, w3.alloc (.cells #[.string m', .slice va' T'.length vc', .int .i64 st'] 37) = w4 := ⟨_, rfl⟩
  rw [hw4] at g4 C4 Cb4 KA3 TA3 KB TB zB hsB
  go_wp2_with fail
  try rw [hw4]
  clear hw4
  refine (one_any 4 (by omega) (w.heap.size + 1 + 1) ao n cap _ f sd3 _ C4 Cb4 hn (by omega)).mono ?_
  rintro e w5 ⟨c5, rfl, ⟨sd5, C5⟩, g5⟩
  have KA5 := kat_grown KA3 g5 (by omega)
  have KB5 := kat_grown KB g5 (by omega)
  have TA5 : TgL w5 wA.heap.size (.slice va T.length vc) T := tg_grown TA3 g5 (by omega)
  have TB5 : TgL w5 w2.heap.size (.slice va' T'.length vc') T' := tg_grown TB g5 (by omega)
  have zB5 := fz_grown zB g5 (by omega) (by omega)
  have g05 := grown_trans g4 g5
  have s5 := g5.size
  clear KA3 KB TA3 TB zB C4 Cb4 g4
  cases c5
  · have KR := kat_grown K0 g05 (by omega)
    have KR' := kat_grown K0' g05 (by omega)
    have FR := fz_grown F0 g05 K0.lt (by omega)
    have FR' := fz_grown F0' g05 K0'.lt (by omega)
    obtain ⟨_, r0, r1, r2⟩ := id KR
    obtain ⟨_, q0, q1, q2⟩ := id KR'
    obtain ⟨_, x0, x1, x2⟩ := id KA5
    obtain ⟨_, y0, y1, y2⟩ := id KB5
    have f0 := FR 0
    have f1 := FR 1
    have f2 := FR 2
    have e0 := FR' 0
    have e1 := FR' 1
    have e2 := FR' 2
    have bW : Below w.heap.size w w5 := bA0.grown g05 (by omega) (fun k e => by injection e with e; omega)
    have hab : w1.heap.size ≠ w3.heap.size := by omega
    go_wp2
    refine wp_region_w (fun w' => KAt w' w1.heap.size m (.slice va T.length vc) st ∧ KAt w' w3.heap.size m' (.slice va' T'.length vc') st') (fun _ => true) (by kernel_rfl) ?_
    change wpW _ _ _ _ _ _ 4 _ _ w5.drew
    have hS0 : KAt w5.drew w1.heap.size m (.slice va T.length vc) st ∧ KAt w5.drew w3.heap.size m' (.slice va' T'.length vc') st' := ⟨KA5.keep (Below.refl _ _).drew, KB5.keep (Below.refl _ _).drew⟩
    refine wpW_take 0 _ (.agg #[.string m, .slice va T.length vc, .int .i64 st]) rfl (by kernel_rfl) (by kernel_rfl) (by kernel_rfl) (fun _ _ _ h => h) (by kernel_rfl) (.inl ⟨rfl, fun w' hS' => by obtain ⟨⟨_, x0, x1, x2⟩, _⟩ := hS'; go_simp⟩) hS0 ?_
    refine wpW_take 1 _ (.agg #[.string m', .slice va' T'.length vc', .int .i64 st']) rfl (by kernel_rfl) (by kernel_rfl) (by kernel_rfl) (fun _ _ _ h => h) (by kernel_rfl) (.inl ⟨rfl, fun w' hS' => by obtain ⟨_, ⟨_, y0, y1, y2⟩⟩ := hS'; go_simp⟩) hS0 ?_
    simp only [Act.put, List.getElem_toArray, List.getElem_cons_succ, List.getElem_cons_zero, List.setIfInBounds_toArray, List.set_cons_zero, List.set_cons_succ]
    have o1 := three_others w5.drew w.heap.size (.string m) (.slice va T.length vc) (.int .i64 st)
    refine wpW_one 2 _ rfl (by kernel_rfl) (step_storeKy rfl 2 21 rfl w.heap.size m va T.length vc st _ _ _ (by simp [Act.eval, Act.put]) (by simp [Act.eval, Act.put]) r0 r1 r2 f0 f1 f2 ?_)
    have hS1 := (⟨kat_others hS0.1 o1 (by omega), kat_others hS0.2 o1 (by omega)⟩ : _ ∧ _)
    refine ⟨fun _ => hS1, ?_⟩
    simp only [Act.put, List.getElem_toArray, List.getElem_cons_succ, List.getElem_cons_zero, List.setIfInBounds_toArray, List.set_cons_zero, List.set_cons_succ]
    have KR2 := kat_others (KR'.keep (Below.refl _ _).drew) o1 (by omega)
    have FR2 := fz_others (w := w5.drew) FR' o1 (by omega)
    obtain ⟨_, q0, q1, q2⟩ := id KR2
    generalize hw9 : (((w5.drew.setCell ⟨w.heap.size, 0, none⟩ (.string m)).setCell ⟨w.heap.size, 1, none⟩ (.slice va T.length vc)).setCell ⟨w.heap.size, 2, none⟩ (.int .i64 st)) = w9 at *
    have c9 : w9.cell? ⟨w.heap.size, 0, none⟩ = some (.string m) ∧ w9.cell? ⟨w.heap.size, 1, none⟩ = some (.slice va T.length vc) ∧ w9.cell? ⟨w.heap.size, 2, none⟩ = some (.int .i64 st) := by
      rw [← hw9]
      simp [go_sem, r0, r1, r2]
    have o2 := three_others w9 (w.heap.size + 1) (.string m') (.slice va' T'.length vc') (.int .i64 st')
    refine wpW_one 3 _ rfl (by kernel_rfl) (step_storeKy rfl 3 22 rfl (w.heap.size + 1) m' va' T'.length vc' st' _ _ _ (by simp [Act.eval, Act.put]) (by simp [Act.eval, Act.put]) q0 q1 q2 (FR2 0) (FR2 1) (FR2 2) ?_)
    refine ⟨fun _ => ⟨kat_others hS1.1 o2 (by omega), kat_others hS1.2 o2 (by omega)⟩, ?_⟩
    refine wpW_done (by kernel_rfl) ?_
    try simp only [Act.put, List.getElem_toArray, List.getElem_cons_succ, List.getElem_cons_zero, List.setIfInBounds_toArray, List.set_cons_zero, List.set_cons_succ]
    generalize hw10 : (((w9.setCell ⟨w.heap.size + 1, 0, none⟩ (.string m')).setCell ⟨w.heap.size + 1, 1, none⟩ (.slice va' T'.length vc')).setCell ⟨w.heap.size + 1, 2, none⟩ (.int .i64 st')) = w10 at *
    have c10 : w10.cell? ⟨w.heap.size + 1, 0, none⟩ = some (.string m') ∧ w10.cell? ⟨w.heap.size + 1, 1, none⟩ = some (.slice va' T'.length vc') ∧ w10.cell? ⟨w.heap.size + 1, 2, none⟩ = some (.int .i64 st') := by
      rw [← hw10]
      simp [go_sem, q0, q1, q2]
    have d10 := fun j => World.cell?_of_block (w := w9) (w' := w10) (a := ⟨w.heap.size, j, none⟩) (o2.block w.heap.size (by omega))
    have h00 := (d10 0).trans c9.1
    have h01 := (d10 1).trans c9.2.1
    have h02 := (d10 2).trans c9.2.2
    obtain ⟨h10, h11, h12⟩ := c10
    have TA9 := tg_other (tg_other (ownsRow_keep TA5 (Below.refl _ _).drew) o1 hUA (by omega)) o2 hUA (by omega)
    have TB9 := tg_other (tg_other (ownsRow_keep TB5 (Below.refl _ _).drew) o1 hUB (by omega)) o2 hUB (by omega)
    have b10 : Below w.heap.size w w10 := (bW.drew.trans (o1.below (Nat.le_refl _))).trans (o2.below (by omega))
    clear KR KR' FR FR' KR2 FR2 hS0 hS1 hw9 hw10 d10 c9 o1 o2 q0 q1 q2 r0 r1 r2
    go_wp2
    exact bodyPost_ret (v := .tuple #[.agg #[.string m, .slice va T.length vc, .int .i64 st], .agg #[.string m', .slice va' T'.length vc', .int .i64 st']]) (by simp [results, Try.results14, go_sem, h00, h01, h02, h10, h11, h12]) rfl ⟨m, va, vc, T, st, m', _, _, T', st', rfl, (TgL.row TA9).2, (TgL.row TB9).2, hm, hm', hT, hT', hTz, hTz', b10⟩
  · obtain ⟨_, x0, x1, x2⟩ := id KA5
    obtain ⟨_, y0, y1, y2⟩ := id KB5
    have z0 := zB5 0
    have z1 := zB5 1
    have z2 := zB5 2
    have hab : w1.heap.size ≠ w3.heap.size := by omega
    have oB := three_others w5 w3.heap.size (.string m) (.slice va T.length vc) (.int .i64 st)
    have C6 := cu_others C5 oB (by omega)
    have g6 := grown_others g05 oB (by omega)
    have Cb6 := B1.grown g6
    have KA6 := kat_others KA5 oB (by omega)
    have KB6 : KAt (((w5.setCell ⟨w3.heap.size, 0, none⟩ (.string m)).setCell ⟨w3.heap.size, 1, none⟩ (.slice va T.length vc)).setCell ⟨w3.heap.size, 2, none⟩ (.int .i64 st)) w3.heap.size m (.slice va T.length vc) st := ⟨by rw [oB.size]; exact KB5.lt, by simp [go_sem, y0, y1, y2], by simp [go_sem, y0, y1, y2], by simp [go_sem, y0, y1, y2]⟩
    have TA6 := tg_other TA5 oB hUA (by omega)
    have zB6 : ∀ j, (((w5.setCell ⟨w3.heap.size, 0, none⟩ (.string m)).setCell ⟨w3.heap.size, 1, none⟩ (.slice va T.length vc)).setCell ⟨w3.heap.size, 2, none⟩ (.int .i64 st)).frozen? ⟨w3.heap.size, j, none⟩ = false := fun j => by simpa using zB5 j
    go_wp2_with fail
    refine (pick_any 6 (by omega) (w.heap.size + 1 + 1) ao n cap _ f sd5 _ C6 Cb6 hn (by omega)).mono ?_
    rintro e w7 ⟨x, rfl, u0, u1, _, g7⟩
    have hx : IntKind.i64.wrap (10 * x) = 10 * x := by rw [IntKind.wrap_i64] <;> omega
    have KA7 := kat_grown KA6 g7 (by omega)
    have KB7 := kat_grown KB6 g7 (by omega)
    have TA7 : TgL w7 wA.heap.size (.slice va T.length vc) T := tg_grown TA6 g7 (by omega)
    have zB7 := fz_grown zB6 g7 (by rw [oB.size]; omega) (by omega)
    have g07 := grown_trans g6 g7
    have oC := Others.setCell w7 w3.heap.size 2 (.int .i64 (10 * x))
    have g08 := grown_others g07 oC (by omega)
    have KA8 := kat_others KA7 oC (by omega)
    have KB8 := KAt.set2' KB7 (10 * x)
    have TA8 := tg_other TA7 oC hUA (by omega)
    have z7 := zB7 2
    obtain ⟨_, v0, v1, v2⟩ := id KB7
    clear KA5 KB5 TA5 TB5 zB5 C5 g05 x0 x1 x2 y0 y1 y2 z0 z1 z2 oB C6 g6 Cb6 KA6 KB6 TA6 zB6 g7 KA7 KB7 TA7 zB7 g07 oC hUB
    have KR := kat_grown K0 g08 (by omega)
    have KR' := kat_grown K0' g08 (by omega)
    have FR := fz_grown F0 g08 K0.lt (by omega)
    have FR' := fz_grown F0' g08 K0'.lt (by omega)
    obtain ⟨_, r0, r1, r2⟩ := id KR
    obtain ⟨_, q0, q1, q2⟩ := id KR'
    obtain ⟨_, x0, x1, x2⟩ := id KA8
    obtain ⟨_, y0, y1, y2⟩ := id KB8
    have f0 := FR 0
    have f1 := FR 1
    have f2 := FR 2
    have e0 := FR' 0
    have e1 := FR' 1
    have e2 := FR' 2
    have bW : Below w.heap.size w (w7.setCell ⟨w3.heap.size, 2, none⟩ (.int .i64 (10 * x))) := bA0.grown g08 (by omega) (fun k e => by injection e with e; omega)
    have hab : w1.heap.size ≠ w3.heap.size := by omega
    go_wp2
    refine wp_region_w (fun w' => KAt w' w1.heap.size m (.slice va T.length vc) st ∧ KAt w' w3.heap.size m (.slice va T.length vc) (10 * x)) (fun _ => true) (by kernel_rfl) ?_
    change wpW _ _ _ _ _ _ 4 _ _ (w7.setCell ⟨w3.heap.size, 2, none⟩ (.int .i64 (10 * x))).drew
    have hS0 : KAt (w7.setCell ⟨w3.heap.size, 2, none⟩ (.int .i64 (10 * x))).drew w1.heap.size m (.slice va T.length vc) st ∧ KAt (w7.setCell ⟨w3.heap.size, 2, none⟩ (.int .i64 (10 * x))).drew w3.heap.size m (.slice va T.length vc) (10 * x) := ⟨KA8.keep (Below.refl _ _).drew, KB8.keep (Below.refl _ _).drew⟩
    refine wpW_take 0 _ (.agg #[.string m, .slice va T.length vc, .int .i64 st]) rfl (by kernel_rfl) (by kernel_rfl) (by kernel_rfl) (fun _ _ _ h => h) (by kernel_rfl) (.inl ⟨rfl, fun w' hS' => by obtain ⟨⟨_, x0, x1, x2⟩, _⟩ := hS'; go_simp⟩) hS0 ?_
    refine wpW_take 1 _ (.agg #[.string m, .slice va T.length vc, .int .i64 (10 * x)]) rfl (by kernel_rfl) (by kernel_rfl) (by kernel_rfl) (fun _ _ _ h => h) (by kernel_rfl) (.inl ⟨rfl, fun w' hS' => by obtain ⟨_, ⟨_, y0, y1, y2⟩⟩ := hS'; go_simp⟩) hS0 ?_
    simp only [Act.put, List.getElem_toArray, List.getElem_cons_succ, List.getElem_cons_zero, List.setIfInBounds_toArray, List.set_cons_zero, List.set_cons_succ]
    have o1 := three_others (w7.setCell ⟨w3.heap.size, 2, none⟩ (.int .i64 (10 * x))).drew w.heap.size (.string m) (.slice va T.length vc) (.int .i64 st)
    refine wpW_one 2 _ rfl (by kernel_rfl) (step_storeKy rfl 2 21 rfl w.heap.size m va T.length vc st _ _ _ (by simp [Act.eval, Act.put]) (by simp [Act.eval, Act.put]) r0 r1 r2 f0 f1 f2 ?_)
    have hS1 := (⟨kat_others hS0.1 o1 (by omega), kat_others hS0.2 o1 (by omega)⟩ : _ ∧ _)
    refine ⟨fun _ => hS1, ?_⟩
    simp only [Act.put, List.getElem_toArray, List.getElem_cons_succ, List.getElem_cons_zero, List.setIfInBounds_toArray, List.set_cons_zero, List.set_cons_succ]
    have KR2 := kat_others (KR'.keep (Below.refl _ _).drew) o1 (by omega)
    have FR2 := fz_others (w := (w7.setCell ⟨w3.heap.size, 2, none⟩ (.int .i64 (10 * x))).drew) FR' o1 (by omega)
    obtain ⟨_, q0, q1, q2⟩ := id KR2
    generalize hw9 : ((((w7.setCell ⟨w3.heap.size, 2, none⟩ (.int .i64 (10 * x))).drew.setCell ⟨w.heap.size, 0, none⟩ (.string m)).setCell ⟨w.heap.size, 1, none⟩ (.slice va T.length vc)).setCell ⟨w.heap.size, 2, none⟩ (.int .i64 st)) = w9 at *
    have c9 : w9.cell? ⟨w.heap.size, 0, none⟩ = some (.string m) ∧ w9.cell? ⟨w.heap.size, 1, none⟩ = some (.slice va T.length vc) ∧ w9.cell? ⟨w.heap.size, 2, none⟩ = some (.int .i64 st) := by
      rw [← hw9]
      simp [go_sem, r0, r1, r2]
    have o2 := three_others w9 (w.heap.size + 1) (.string m) (.slice va T.length vc) (.int .i64 (10 * x))
    refine wpW_one 3 _ rfl (by kernel_rfl) (step_storeKy rfl 3 22 rfl (w.heap.size + 1) m va T.length vc (10 * x) _ _ _ (by simp [Act.eval, Act.put]) (by simp [Act.eval, Act.put]) q0 q1 q2 (FR2 0) (FR2 1) (FR2 2) ?_)
    refine ⟨fun _ => ⟨kat_others hS1.1 o2 (by omega), kat_others hS1.2 o2 (by omega)⟩, ?_⟩
    refine wpW_done (by kernel_rfl) ?_
    try simp only [Act.put, List.getElem_toArray, List.getElem_cons_succ, List.getElem_cons_zero, List.setIfInBounds_toArray, List.set_cons_zero, List.set_cons_succ]
    generalize hw10 : (((w9.setCell ⟨w.heap.size + 1, 0, none⟩ (.string m)).setCell ⟨w.heap.size + 1, 1, none⟩ (.slice va T.length vc)).setCell ⟨w.heap.size + 1, 2, none⟩ (.int .i64 (10 * x))) = w10 at *
    have c10 : w10.cell? ⟨w.heap.size + 1, 0, none⟩ = some (.string m) ∧ w10.cell? ⟨w.heap.size + 1, 1, none⟩ = some (.slice va T.length vc) ∧ w10.cell? ⟨w.heap.size + 1, 2, none⟩ = some (.int .i64 (10 * x)) := by
      rw [← hw10]
      simp [go_sem, q0, q1, q2]
    have d10 := fun j => World.cell?_of_block (w := w9) (w' := w10) (a := ⟨w.heap.size, j, none⟩) (o2.block w.heap.size (by omega))
    have h00 := (d10 0).trans c9.1
    have h01 := (d10 1).trans c9.2.1
    have h02 := (d10 2).trans c9.2.2
    obtain ⟨h10, h11, h12⟩ := c10
    have TA9 := tg_other (tg_other (ownsRow_keep TA8 (Below.refl _ _).drew) o1 hUA (by omega)) o2 hUA (by omega)
    have TB9 := tg_other (tg_other (ownsRow_keep TA8 (Below.refl _ _).drew) o1 hUA (by omega)) o2 hUA (by omega)
    have b10 : Below w.heap.size w w10 := (bW.drew.trans (o1.below (Nat.le_refl _))).trans (o2.below (by omega))
    clear KR KR' FR FR' KR2 FR2 hS0 hS1 hw9 hw10 d10 c9 o1 o2 q0 q1 q2 r0 r1 r2
    go_wp2
    exact bodyPost_ret (v := .tuple #[.agg #[.string m, .slice va T.length vc, .int .i64 st], .agg #[.string m, .slice va T.length vc, .int .i64 (10 * x)]]) (by simp [results, Try.results14, go_sem, h00, h01, h02, h10, h11, h12]) rfl ⟨m, va, vc, T, st, m, _, _, T, (10 * x), rfl, (TgL.row TA9).2, (TgL.row TB9).2, hm, hm, hT, hT, hTz, hTz, b10⟩
end Go.Proofs.Ytpddodjecbcmlaa
