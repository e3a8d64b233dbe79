/- AddEvent in the model: a good board, and a late event (made by mkaq.py). / The windows of a board that is a value. / WinOf, in both texts. / WinOf in the model. / A window marked, and looked for. / What WinOf answers, in both texts. / What the law of WinOf holds in memory. -/
import Derived.Test.YtaiigpffhcofpaaGreatAeQ
import Derived.Test.YtaiigpffhcofpaaGreatRm
import Derived.Test.YtaiigpffhcofpaaGreatPm
import Derived.Test.YtaiigpffhcofpaaGreatWb
namespace Go.Proofs.YtaiigpffhcofpaaGreat
set_option maxRecDepth 100000
open Go.RowKit
set_option linter.unusedSimpArgs false
set_option linter.unusedVariables false

set_option maxRecDepth 100000 in
set_option maxHeartbeats 8000000 in
theorem addEvent_spec_late (z h mk t v : Int) (ao : Option Addr) (n cap : Nat) (X : Nat → Wn) (x : Wn) (a0 : Option Addr) (c00 : Nat) (w : World) (hr : WiRow w ao n X) (hn : n ≤ 1048576) (hz : WiSize n X) (hG : Hid (GBd z h mk n X)) (rt : TRow w a0 x.tn x.nm x.vl) (hk : KSz x) (hE : Hid (evK x t v)) (hmh : -9223372036854775808 ≤ mk - h ∧ mk - h ≤ 9223372036854775807) (hl : t < mk - h) :
    Calls Tryz.prog 6 #[.agg #[.int .i64 z, .int .i64 h, .int .i64 mk, .slice ao n cap], .agg #[.string x.m, .slice a0 x.tn c00, .int .i64 x.st], .int .i64 t, .int .i64 v] w fun e w' => BAns z h mk n X 2 w e w' := by
  have hw : IntKind.i64.wrap (mk - h) = mk - h := by rw [IntKind.wrap_i64] <;> omega
  have hB : ∀ o o' o'', Below w.heap.size w (((w.alloc o).alloc o').alloc o'') := fun o o' o'' => ((below_new w o).alloc (by simp) _).alloc (by simp; omega) _
  have hfX := hr.fb
  go_enter Tryz.func6, Tryz.ntmps6
  go_wp2_with fail
  refine (goodBoard_spec z h mk ao n cap X _ (hr.keep (hB _ _ _)) hn hz).mono ?_
  rintro e w1 ⟨b1, rfl, h1, q1⟩
  have bw : Below w.heap.size w w1 := (hB _ _ _).trans (q1.mono (by simp; omega))
  have c0 := q1.cell (p := ⟨w.heap.size, 0, none⟩) (by simp; omega)
  have c1 := q1.cell (p := ⟨w.heap.size, 1, none⟩) (by simp; omega)
  have c2 := q1.cell (p := ⟨w.heap.size, 2, none⟩) (by simp; omega)
  have c3 := q1.cell (p := ⟨w.heap.size, 3, none⟩) (by simp; omega)
  have g0 := q1.cell (p := ⟨w.heap.size + 1, 0, none⟩) (by simp)
  have g1 := q1.cell (p := ⟨w.heap.size + 1, 1, none⟩) (by simp)
  have g2 := q1.cell (p := ⟨w.heap.size + 1, 2, none⟩) (by simp)
  have d0 := q1.cell (p := ⟨w.heap.size + 1 + 1, 0, none⟩) (by simp)
  have d1 := q1.cell (p := ⟨w.heap.size + 1 + 1, 1, none⟩) (by simp)
  have d2 := q1.cell (p := ⟨w.heap.size + 1 + 1, 2, none⟩) (by simp)
  have d3 := q1.cell (p := ⟨w.heap.size + 1 + 1, 3, none⟩) (by simp)
  have cf : ∀ j, w1.frozen? ⟨w.heap.size, j, none⟩ = false := fun j => (q1.frozen (p := ⟨w.heap.size, j, none⟩) (by simp; omega)).trans (by simp [go_sem])
  have df : ∀ j, w1.frozen? ⟨w.heap.size + 1 + 1, j, none⟩ = false := fun j => (q1.frozen (p := ⟨w.heap.size + 1 + 1, j, none⟩) (by simp)).trans (by simp [go_sem])
  simp [go_sem] at c0 c1 c2 c3 g0 g1 g2 d0 d1 d2 d3
  have sz1 : w.heap.size + 3 ≤ w1.heap.size := by have := q1.size; simp at this; omega
  have e1 : b1 = true := h1.2 hG.out
  subst e1
  clear h1 q1 hB
  go_wp2_with fail
  refine (l11Own_any z h mk ao n cap X _ (hr.keep bw) hn hz).mono ?_
  rintro e w2 ⟨v', V, rfl, hO, q2⟩
  have hA := ba_of hO hfX
  obtain ⟨va, vc, rfl⟩ := ownsRow_form hO.own
  have c0 := (q2.cell (p := ⟨w.heap.size, 0, none⟩) (by show w.heap.size < w1.heap.size; omega)).trans c0
  have c1 := (q2.cell (p := ⟨w.heap.size, 1, none⟩) (by show w.heap.size < w1.heap.size; omega)).trans c1
  have c2 := (q2.cell (p := ⟨w.heap.size, 2, none⟩) (by show w.heap.size < w1.heap.size; omega)).trans c2
  have c3 := (q2.cell (p := ⟨w.heap.size, 3, none⟩) (by show w.heap.size < w1.heap.size; omega)).trans c3
  have g0 := (q2.cell (p := ⟨w.heap.size + 1, 0, none⟩) (by show w.heap.size + 1 < w1.heap.size; omega)).trans g0
  have g1 := (q2.cell (p := ⟨w.heap.size + 1, 1, none⟩) (by show w.heap.size + 1 < w1.heap.size; omega)).trans g1
  have g2 := (q2.cell (p := ⟨w.heap.size + 1, 2, none⟩) (by show w.heap.size + 1 < w1.heap.size; omega)).trans g2
  have d0 := (q2.cell (p := ⟨w.heap.size + 1 + 1, 0, none⟩) (by show w.heap.size + 1 + 1 < w1.heap.size; omega)).trans d0
  have d1 := (q2.cell (p := ⟨w.heap.size + 1 + 1, 1, none⟩) (by show w.heap.size + 1 + 1 < w1.heap.size; omega)).trans d1
  have d2 := (q2.cell (p := ⟨w.heap.size + 1 + 1, 2, none⟩) (by show w.heap.size + 1 + 1 < w1.heap.size; omega)).trans d2
  have d3 := (q2.cell (p := ⟨w.heap.size + 1 + 1, 3, none⟩) (by show w.heap.size + 1 + 1 < w1.heap.size; omega)).trans d3
  have cf : ∀ j, w2.frozen? ⟨w.heap.size, j, none⟩ = false := fun j => (q2.frozen (p := ⟨w.heap.size, j, none⟩) (by show w.heap.size < w1.heap.size; omega)).trans (cf j)
  have df : ∀ j, w2.frozen? ⟨w.heap.size + 1 + 1, j, none⟩ = false := fun j => (q2.frozen (p := ⟨w.heap.size + 1 + 1, j, none⟩) (by show w.heap.size + 1 + 1 < w1.heap.size; omega)).trans (df j)
  have bw2 : Below w.heap.size w w2 := bw.trans (q2.mono (by omega))
  have s2 := q2.size
  clear q2 hO
  obtain ⟨w4, hw4⟩ : ∃ u, u = (((w2.setCell ⟨w.heap.size, 0, none⟩ (.int .i64 z)).setCell ⟨w.heap.size, 1, none⟩ (.int .i64 h)).setCell ⟨w.heap.size, 2, none⟩ (.int .i64 mk)).setCell ⟨w.heap.size, 3, none⟩ (.slice va n vc) := ⟨_, rfl⟩
  have oth : Others w.heap.size w2 w4 := by rw [hw4]; exact (((Others.setCell _ _ _ _).trans (Others.setCell _ _ _ _)).trans (Others.setCell _ _ _ _)).trans (Others.setCell _ _ _ _)
  have b0 : w4.cell? ⟨w.heap.size, 0, none⟩ = some (.int .i64 z) := by rw [hw4]; simp [go_sem, c0, c1, c2, c3]
  have b1 : w4.cell? ⟨w.heap.size, 1, none⟩ = some (.int .i64 h) := by rw [hw4]; simp [go_sem, c0, c1, c2, c3]
  have b2 : w4.cell? ⟨w.heap.size, 2, none⟩ = some (.int .i64 mk) := by rw [hw4]; simp [go_sem, c0, c1, c2, c3]
  have b3 : w4.cell? ⟨w.heap.size, 3, none⟩ = some (.slice va n vc) := by rw [hw4]; simp [go_sem, c0, c1, c2, c3]
  have bf : ∀ j, w4.frozen? ⟨w.heap.size, j, none⟩ = false := fun j => by rw [hw4]; simp [go_sem, cf]
  have ol : ∀ j, w4.cell? ⟨w.heap.size + 1 + 1, j, none⟩ = w2.cell? ⟨w.heap.size + 1 + 1, j, none⟩ := fun j => World.cell?_of_block (w := w2) (a := ⟨w.heap.size + 1 + 1, j, none⟩) (oth.block (w.heap.size + 1 + 1) (by omega))
  have om : ∀ j, w4.cell? ⟨w.heap.size + 1, j, none⟩ = w2.cell? ⟨w.heap.size + 1, j, none⟩ := fun j => World.cell?_of_block (w := w2) (a := ⟨w.heap.size + 1, j, none⟩) (oth.block (w.heap.size + 1) (by omega))
  have d0 := (ol 0).trans d0
  have d1 := (ol 1).trans d1
  have d2 := (ol 2).trans d2
  have d3 := (ol 3).trans d3
  have g0 := (om 0).trans g0
  have g1 := (om 1).trans g1
  have g2 := (om 2).trans g2
  have df : ∀ j, w4.frozen? ⟨w.heap.size + 1 + 1, j, none⟩ = false := fun j => (World.frozen?_of_block (w := w2) (a := ⟨w.heap.size + 1 + 1, j, none⟩) (oth.block (w.heap.size + 1 + 1) (by omega))).trans (df j)
  have hA := hA.same (w' := w4) (by rw [oth.size]; exact Nat.le_refl _) (fun c h1 h2 => oth.block c (by omega))
  have bw4 : Below w.heap.size w w4 := bw2.trans (oth.below (Nat.le_refl _))
  have s4 := oth.size
  go_wp2_with fail
  rw [← hw4]
  clear hw4 oth ol om c0 c1 c2 c3 cf bw2
  refine (goodKey_spec x.m x.st a0 x.tn c00 x.nm x.vl _ (rt.keep bw4) hk.m hk.tn hk.ts).mono ?_
  rintro e w5 ⟨rfl, q5⟩
  have s5 := q5.size
  have b0 := (q5.cell (p := ⟨w.heap.size, 0, none⟩) (by show w.heap.size < w4.heap.size; omega)).trans b0
  have b1 := (q5.cell (p := ⟨w.heap.size, 1, none⟩) (by show w.heap.size < w4.heap.size; omega)).trans b1
  have b2 := (q5.cell (p := ⟨w.heap.size, 2, none⟩) (by show w.heap.size < w4.heap.size; omega)).trans b2
  have b3 := (q5.cell (p := ⟨w.heap.size, 3, none⟩) (by show w.heap.size < w4.heap.size; omega)).trans b3
  have g0 := (q5.cell (p := ⟨w.heap.size + 1, 0, none⟩) (by show w.heap.size + 1 < w4.heap.size; omega)).trans g0
  have g1 := (q5.cell (p := ⟨w.heap.size + 1, 1, none⟩) (by show w.heap.size + 1 < w4.heap.size; omega)).trans g1
  have g2 := (q5.cell (p := ⟨w.heap.size + 1, 2, none⟩) (by show w.heap.size + 1 < w4.heap.size; omega)).trans g2
  have d0 := (q5.cell (p := ⟨w.heap.size + 1 + 1, 0, none⟩) (by show w.heap.size + 1 + 1 < w4.heap.size; omega)).trans d0
  have d1 := (q5.cell (p := ⟨w.heap.size + 1 + 1, 1, none⟩) (by show w.heap.size + 1 + 1 < w4.heap.size; omega)).trans d1
  have d2 := (q5.cell (p := ⟨w.heap.size + 1 + 1, 2, none⟩) (by show w.heap.size + 1 + 1 < w4.heap.size; omega)).trans d2
  have d3 := (q5.cell (p := ⟨w.heap.size + 1 + 1, 3, none⟩) (by show w.heap.size + 1 + 1 < w4.heap.size; omega)).trans d3
  have bf : ∀ j, w5.frozen? ⟨w.heap.size, j, none⟩ = false := fun j => (q5.frozen (p := ⟨w.heap.size, j, none⟩) (by show w.heap.size < w4.heap.size; omega)).trans (bf j)
  have df : ∀ j, w5.frozen? ⟨w.heap.size + 1 + 1, j, none⟩ = false := fun j => (q5.frozen (p := ⟨w.heap.size + 1 + 1, j, none⟩) (by show w.heap.size + 1 + 1 < w4.heap.size; omega)).trans (df j)
  have hA := hA.keep q5
  have bw5 := bw4.trans (q5.mono bw4.size)
  clear q5 bw4
  obtain ⟨hv, ht, hgx, hst⟩ := hE.out
  have hgx' : goodB x.m x.tn x.nm x.vl x.st = true := hgx
  rw [hgx']
  rw [hst] at g2
  have HST : Hid (x.st = 0) := hst
  clear hst hgx hgx'
  go_wp2_with fail
  refine (l11Time_any t _).mono ?_
  rintro e w6 ⟨rfl, rfl⟩
  rw [ht]
  go_wp2_with fail
  refine (l4Value_any v _).mono ?_
  rintro e w7 ⟨rfl, rfl⟩
  rw [hv]
  go_wp2
  refine bodyPost_ret (v := .tuple #[.agg #[.int .i64 z, .int .i64 h, .int .i64 mk, .slice va n vc], .int .i64 2]) (by simp [results, Tryz.results6, go_sem, b0, b1, b2, b3, d0, d1, d2, d3]) rfl ⟨.slice va n vc, rfl, ?_, ?_⟩
  · refine BA.mono (hA.same (by simp) (fun c h1 h2 => ?_)) (by omega) (by simp; try omega) (Nat.le_refl _)
    repeat rw [set_blk _ _ _ _ _ (by omega)]
  · repeat' refine Below.setCell ?_ (by first | (simp; done) | (simp; omega)) _
    exact bw5
end Go.Proofs.YtaiigpffhcofpaaGreat
namespace Go.Proofs.YtaiigpffhcofpaaGreat
set_option maxRecDepth 100000
open Go.RowKit
set_option linter.unusedSimpArgs false
set_option linter.unusedVariables false

theorem field_wins (z h mk : Int) (ao : Option Addr) (n c : Nat) (w : World) : (Instr.field 32 (.agg #[.int .i64 z, .int .i64 h, .int .i64 mk, .slice ao n c]) 3).run Tryz.prog w = .ok (.slice ao n c) w := by
  unfold Instr.field
  simp [go_sem, Tryz.underlying32, part, asAgg]
end Go.Proofs.YtaiigpffhcofpaaGreat
namespace Go.Proofs.YtaiigpffhcofpaaGreat
set_option maxRecDepth 100000
open Go.RowKit
set_option linter.unusedSimpArgs false
set_option linter.unusedVariables false

/-- A window's lists, in memory of their own between the blocks base and top. -/
structure WA (w : World) (base top : Nat) (x : Wn) (a0 a1 : Option Addr) : Prop where
  tp : top ≤ w.heap.size
  l0 : 0 < x.tn → ∃ g, a0 = some ⟨g, 0, none⟩ ∧ base ≤ g ∧ g < top ∧ TOwn w g x.tn x.tn x.nm x.vl ∧ ∀ g', 0 < x.n → a1 = some ⟨g', 0, none⟩ → g ≠ g'
  l1 : 0 < x.n → ∃ g, a1 = some ⟨g, 0, none⟩ ∧ base ≤ g ∧ g < top ∧ IOwn w g 0 x.n x.f
theorem BA.win {w : World} {base top n : Nat} {v : Value} {X : Nat → Wn} (h : BA w base top v n X) {i : Nat} (hi : i < n) : ∃ g cap a0 a1 c0 c1, v = .slice (some ⟨g, 0, none⟩) n cap ∧ g < top ∧ WiAt w g (i * 11) (X i) a0 a1 c0 c1 ∧ WA w base top (X i) a0 a1 := by
  rcases h.2 with ⟨rfl, _⟩ | ⟨g, cap, A0, A1, K0, K1, G, e1, h1, h2, h3, h4, h5⟩
  · omega
  · refine ⟨g, cap, A0 i, A1 i, K0 i, K1 i, e1, h2, h3.ent i hi, h.1, fun hp => ?_, fun hp => ?_⟩
    · obtain ⟨e, _, o⟩ := h3.l0 i hi hp
      refine ⟨_, e, (h4 i hi hp).1, (h4 i hi hp).2, o, fun g' hq e' => ?_⟩
      obtain ⟨e2, _, _⟩ := h3.l1 i hi hq
      rw [e2] at e'
      injection e' with e'
      injection e' with e3 _ _
      rw [← e3]
      exact h3.dis _ _ (by omega) (by omega) (by omega)
    · obtain ⟨e, _, o⟩ := h3.l1 i hi hp
      exact ⟨_, e, (h5 i hi hp).1, (h5 i hi hp).2, o⟩
theorem WA.same {w w' : World} {base top : Nat} {x : Wn} {a0 a1 : Option Addr} (h : WA w base top x a0 a1) (hs : w.heap.size ≤ w'.heap.size) (hb : ∀ c, base ≤ c → c < top → w'.heap[c]? = w.heap[c]?) : WA w' base top x a0 a1 := by
  refine ⟨Nat.le_trans h.tp hs, fun hp => ?_, fun hp => ?_⟩
  · obtain ⟨g, e, h1, h2, h3, h4⟩ := h.l0 hp
    exact ⟨g, e, h1, h2, h3.blk (hb g h1 h2) hs, h4⟩
  · obtain ⟨g, e, h1, h2, h3⟩ := h.l1 hp
    exact ⟨g, e, h1, h2, h3.blk (hb g h1 h2) hs⟩
theorem WA.keep {w w' : World} {base top : Nat} {x : Wn} {a0 a1 : Option Addr} (h : WA w base top x a0 a1) (hb : Below w.heap.size w w') : WA w' base top x a0 a1 :=
  h.same hb.size (fun c _ hc => hb.block c (Nat.lt_of_lt_of_le hc h.tp))
theorem WA.mono {w : World} {base base' top top' : Nat} {x : Wn} {a0 a1 : Option Addr} (h : WA w base top x a0 a1) (hb : base' ≤ base) (ht : top ≤ top') (ht2 : top' ≤ w.heap.size) : WA w base' top' x a0 a1 := by
  refine ⟨ht2, fun hp => ?_, fun hp => ?_⟩
  · obtain ⟨g, e, h1, h2, h3, h4⟩ := h.l0 hp
    exact ⟨g, e, by omega, by omega, h3, h4⟩
  · obtain ⟨g, e, h1, h2, h3⟩ := h.l1 hp
    exact ⟨g, e, by omega, by omega, h3⟩
/-- No window. -/
def wn0 : Wn := ⟨⟨#[]⟩, 0, fun _ => ⟨#[]⟩, fun _ => ⟨#[]⟩, 0, 0, 0, 0, 0, 0, fun _ => 0, false, 0, false⟩
/-- An answer: a window with lists of its own, and whether there is one. -/
def WAns (x : Wn) (ok : Bool) (w : World) (e : Ending) (w' : World) : Prop :=
  ∃ a0 a1 c0 c1, e = .returned (.tuple #[.agg #[.string x.m, .slice a0 x.tn c0, .int .i64 x.st, .int .i64 x.c, .int .i64 x.s, .int .i64 x.lo, .int .i64 x.hi, .slice a1 x.n c1, .bool x.fu, .int .i64 x.ver, .bool x.di], .bool ok]) ∧ WA w' w.heap.size w'.heap.size x a0 a1 ∧ Below w.heap.size w w'

/-- Whether there is a window of that key, at the place q. -/
def WinOk (n : Nat) (X : Nat → Wn) (t : Wn) (q : Nat) : Prop := gK t = true ∧ q < n ∧ kc (X q) t = 0

end Go.Proofs.YtaiigpffhcofpaaGreat
namespace Go.Proofs.YtaiigpffhcofpaaGreat
set_option maxRecDepth 100000
open Go.RowKit
set_option linter.unusedSimpArgs false
set_option linter.unusedVariables false

end Go.Proofs.YtaiigpffhcofpaaGreat
namespace Go.Proofs.YtaiigpffhcofpaaGreat
set_option maxRecDepth 100000
open Go.RowKit
set_option linter.unusedSimpArgs false
set_option linter.unusedVariables false

theorem markKey_any (m : ByteArray) (st : Int) (g n cap : Nat) (w : World) (nm vl : Nat → ByteArray) (ho : TOwn w g n n nm vl) (hn : n ≤ 1048576) :
    Calls Tryz.prog 13 #[.agg #[.string m, .slice (some ⟨g, 0, none⟩) n cap, .int .i64 st], .int .i64 1] w fun e w' => e = .returned (.int .i64 (1 + 2 * (n : Int))) ∧ TOwn w' g n n (mtN 1) (mtV 1) ∧ Thru g w w' := by
  have bn := (Below.refl w.heap.size w).alloc (Nat.le_refl _) (.cells #[.string m, .slice (some ⟨g, 0, none⟩) n cap, .int .i64 st] 38)
  go_enter Tryz.func13, Tryz.ntmps13
  go_wp2_with fail
  refine (markTagS_any g n cap 1 _ nm vl (ho.keep bn) hn (by omega) (by omega)).mono ?_
  rintro e w1 ⟨rfl, o1, t1⟩
  go_wp2
  go_ret
  exact ⟨rfl, o1, (Thru.of_below bn).trans t1⟩
theorem markKey_none (m : ByteArray) (st : Int) (ao : Option Addr) (cap : Nat) (w : World) :
    Calls Tryz.prog 13 #[.agg #[.string m, .slice ao 0 cap, .int .i64 st], .int .i64 1] w fun e w' => e = .returned (.int .i64 1) ∧ Below w.heap.size w w' := by
  have bn := (Below.refl w.heap.size w).alloc (Nat.le_refl _) (.cells #[.string m, .slice ao 0 cap, .int .i64 st] 38)
  go_enter Tryz.func13, Tryz.ntmps13
  go_wp2_with fail
  refine (markT_zero ao cap 1 _).mono ?_
  rintro e w1 ⟨rfl, h1⟩
  subst h1
  go_wp2
  go_ret
  exact ⟨rfl, bn⟩
theorem WA.markT {w : World} {base top : Nat} {x : Wn} {a0 a1 : Option Addr} (hA : WA w base top x a0 a1) (c0 : Nat) (hn : x.tn ≤ 1048576) :
    Calls Tryz.prog 13 #[.agg #[.string x.m, .slice a0 x.tn c0, .int .i64 x.st], .int .i64 1] w fun e w' => e = .returned (.int .i64 (1 + 2 * (x.tn : Int))) ∧ WA w' base top (x.wl_T (mtN 1) (mtV 1)) a0 a1 ∧ Rng base top w w' := by
  by_cases hp : 0 < x.tn
  · obtain ⟨g, rfl, h1, h2, h3, h4⟩ := hA.l0 hp
    refine (markKey_any x.m x.st g x.tn c0 w x.nm x.vl h3 hn).mono ?_
    rintro e w' ⟨rfl, o, t⟩
    refine ⟨rfl, ⟨Nat.le_trans hA.tp t.size, fun _ => ⟨g, rfl, h1, h2, o, h4⟩, fun hp1 => ?_⟩, t.rng h1 h2⟩
    obtain ⟨g', e', k1, k2, k3⟩ := hA.l1 hp1
    exact ⟨g', e', k1, k2, k3.blk (t.block g' (by have := hA.tp; omega) (Ne.symm (h4 g' hp1 e'))) t.size⟩
  · have h0 : x.tn = 0 := by omega
    rw [h0]
    refine (markKey_none x.m x.st a0 c0 w).mono ?_
    rintro e w' ⟨rfl, hb⟩
    refine ⟨by simp, ⟨Nat.le_trans hA.tp hb.size, fun h => absurd h hp, fun hp1 => ?_⟩, Rng.of_below hb⟩
    obtain ⟨g', e', k1, k2, k3⟩ := hA.l1 hp1
    exact ⟨g', e', k1, k2, k3.keep hb⟩
/-- A window with its marks. -/
def WMk (w : World) (base top : Nat) (x : Wn) (a0 a1 : Option Addr) : Prop := ∃ fy, WA w base top ((x.wl_T (mtN 1) (mtV 1)).wl_N fy) a0 a1 ∧ ∀ i, i < x.n → fy i = (1 + 2 * (x.tn : Int)) + i

theorem WMk.keep {w w' : World} {base top : Nat} {x : Wn} {a0 a1 : Option Addr} (h : WMk w base top x a0 a1) (hb : Below w.heap.size w w') : WMk w' base top x a0 a1 := by
  obtain ⟨fy, h1, h2⟩ := h
  exact ⟨fy, h1.keep hb, h2⟩
theorem WMk.rows {w : World} {base top : Nat} {x : Wn} {a0 a1 : Option Addr} (h : WMk w base top x a0 a1) : TRow w a0 x.tn (mtN 1) (mtV 1) ∧ ∃ fy, (0 < x.n → IRow w a1 x.n fy) ∧ ∀ i, i < x.n → fy i = (1 + 2 * (x.tn : Int)) + i := by
  obtain ⟨fy, h1, h2⟩ := h
  refine ⟨?_, fy, fun hp => ?_, h2⟩
  · by_cases hp : 0 < x.tn
    · obtain ⟨g, e, _, _, o, _⟩ := h1.l0 hp
      rw [e]; exact TOwn.row o
    · exact ⟨.inl (by omega)⟩
  · obtain ⟨g, e, _, _, o⟩ := h1.l1 hp
    rw [e]; exact IOwn.row o

end Go.Proofs.YtaiigpffhcofpaaGreat
namespace Go.Proofs.YtaiigpffhcofpaaGreat
set_option maxRecDepth 100000
open Go.RowKit
set_option linter.unusedSimpArgs false
set_option linter.unusedVariables false

/-- The rows of an answer. -/
theorem WA.rows {w : World} {base top : Nat} {x : Wn} {a0 a1 : Option Addr} (h : WA w base top x a0 a1) (hf : ∀ i, -9223372036854775808 ≤ x.f i ∧ x.f i ≤ 9223372036854775807) : TRow w a0 x.tn x.nm x.vl ∧ IRow w a1 x.n x.f := by
  refine ⟨?_, ?_⟩
  · by_cases hp : 0 < x.tn
    · obtain ⟨g, e, _, _, o, _⟩ := h.l0 hp
      rw [e]; exact TOwn.row o
    · exact ⟨.inl (by omega)⟩
  · by_cases hp : 0 < x.n
    · obtain ⟨g, e, _, _, o⟩ := h.l1 hp
      rw [e]; exact IOwn.row o
    · exact ⟨hf, .inl (by omega)⟩
theorem WA.rng {w w' : World} {base top lo hi : Nat} {x : Wn} {a0 a1 : Option Addr} (h : WA w base top x a0 a1) (hr : Rng lo hi w w') (hd : top ≤ lo ∨ hi ≤ base) : WA w' base top x a0 a1 :=
  h.same hr.size (fun c h1 h2 => hr.block c (by have := h.tp; omega) (by omega))
end Go.Proofs.YtaiigpffhcofpaaGreat
namespace Go.Proofs.YtaiigpffhcofpaaGreat
set_option maxRecDepth 100000
open Go.RowKit
set_option linter.unusedSimpArgs false
set_option linter.unusedVariables false

theorem BdAt.rng {w w' : World} {b lo hi : Nat} {z h mk : Int} {sv : Value} (H : BdAt w b z h mk sv) (hr : Rng lo hi w w') (hb : b < lo ∨ hi ≤ b) : BdAt w' b z h mk sv :=
  have k : ∀ j, w'.cell? ⟨b, j, none⟩ = w.cell? ⟨b, j, none⟩ := fun j => World.cell?_of_block (w := w) (a := ⟨b, j, none⟩) (hr.block b H.lt hb)
  ⟨Nat.lt_of_lt_of_le H.lt hr.size, (k _).trans H.c0, (k _).trans H.c1, (k _).trans H.c2, (k _).trans H.c3⟩
theorem BA.rng {w w' : World} {base top lo hi n : Nat} {v : Value} {X : Nat → Wn} (h : BA w base top v n X) (hr : Rng lo hi w w') (hd : top ≤ lo ∨ hi ≤ base) : BA w' base top v n X :=
  h.same hr.size (fun c h1 h2 => hr.block c (by have := h.1; omega) (by omega))
theorem KAt.rng {w w' : World} {b lo hi : Nat} {m : ByteArray} {sv : Value} {st : Int} (H : KAt w b m sv st) (hr : Rng lo hi w w') (hb : b < lo ∨ hi ≤ b) : KAt w' b m sv st :=
  have k : ∀ j, w'.cell? ⟨b, j, none⟩ = w.cell? ⟨b, j, none⟩ := fun j => World.cell?_of_block (w := w) (a := ⟨b, j, none⟩) (hr.block b H.lt hb)
  ⟨Nat.lt_of_lt_of_le H.lt hr.size, (k _).trans H.c0, (k _).trans H.c1, (k _).trans H.c2⟩
theorem WiAt.rng {w w' : World} {b off lo hi : Nat} {x : Wn} {a0 a1 : Option Addr} {k0 k1 : Nat} (H : WiAt w b off x a0 a1 k0 k1) (hr : Rng lo hi w w') (hb : b < lo ∨ hi ≤ b) : WiAt w' b off x a0 a1 k0 k1 :=
  H.move (Nat.lt_of_lt_of_le H.lt hr.size) fun j => World.cell?_of_block (w := w) (a := ⟨b, j, none⟩) (hr.block b H.lt hb)
theorem TOwn.rng {w w' : World} {b lo hi n k : Nat} {nm vl : Nat → ByteArray} (H : TOwn w b n k nm vl) (hr : Rng lo hi w w') (hb : b < lo ∨ hi ≤ b) : TOwn w' b n k nm vl :=
  H.blk (hr.block b H.lt hb) hr.size
theorem markKey_k (m : ByteArray) (st : Int) (g n cap k0 : Nat) (w : World) (nm vl : Nat → ByteArray) (ho : TOwn w g n n nm vl) (hn : n ≤ 1048576) (hk1 : 1 ≤ k0) (hk2 : k0 ≤ 8796093022208) :
    Calls Tryz.prog 13 #[.agg #[.string m, .slice (some ⟨g, 0, none⟩) n cap, .int .i64 st], .int .i64 k0] w fun e w' => e = .returned (.int .i64 ((k0 : Int) + 2 * (n : Int))) ∧ Thru g w w' := by
  have bn := (Below.refl w.heap.size w).alloc (Nat.le_refl _) (.cells #[.string m, .slice (some ⟨g, 0, none⟩) n cap, .int .i64 st] 38)
  go_enter Tryz.func13, Tryz.ntmps13
  go_wp2_with fail
  refine (markTagS_any g n cap k0 _ nm vl (ho.keep bn) hn hk1 hk2).mono ?_
  rintro e w1 ⟨rfl, o1, t1⟩
  go_wp2
  go_ret
  exact ⟨rfl, (Thru.of_below bn).trans t1⟩

/-- The cells of no window. -/
structure WZ (w : World) (B : Nat) : Prop where
  at' : WiAt w B 0 wn0 none none 0 0
  fz : ∀ j, w.frozen? ⟨B, j, none⟩ = false
theorem WZ.new (w : World) (T : Nat) : WZ (w.alloc (.cells #[.string ⟨#[]⟩, .slice none 0 0, .int .i64 0, .int .i64 0, .int .i64 0, .int .i64 0, .int .i64 0, .slice none 0 0, .bool false, .int .i64 0, .bool false] T)) w.heap.size :=
  ⟨WiAt.new w wn0 none none 0 0 T, fun j => by simp [go_sem]⟩
theorem WZ.keep {w w' : World} {B : Nat} (h : WZ w B) (hb : Below w.heap.size w w') : WZ w' B :=
  ⟨h.at'.keep hb, fun j => (hb.frozen (p := ⟨B, j, none⟩) h.at'.lt).trans (h.fz j)⟩
/-- All eleven cells of a window laid. -/
def layW (w : World) (B : Nat) (x : Wn) (a0 a1 : Option Addr) (c0 c1 : Nat) : World :=
  ((((((((((w.setCell ⟨B, 0, none⟩ (.string x.m)).setCell ⟨B, 1, none⟩ (.slice a0 x.tn c0)).setCell ⟨B, 2, none⟩ (.int .i64 x.st)).setCell ⟨B, 3, none⟩ (.int .i64 x.c)).setCell ⟨B, 4, none⟩ (.int .i64 x.s)).setCell ⟨B, 5, none⟩ (.int .i64 x.lo)).setCell ⟨B, 6, none⟩ (.int .i64 x.hi)).setCell ⟨B, 7, none⟩ (.slice a1 x.n c1)).setCell ⟨B, 8, none⟩ (.bool x.fu)).setCell ⟨B, 9, none⟩ (.int .i64 x.ver)).setCell ⟨B, 10, none⟩ (.bool x.di)
theorem layW_size (w : World) (B : Nat) (x : Wn) (a0 a1 : Option Addr) (c0 c1 : Nat) : (layW w B x a0 a1 c0 c1).heap.size = w.heap.size := by simp [layW]
theorem layW_blk (w : World) (B : Nat) (x : Wn) (a0 a1 : Option Addr) (c0 c1 k : Nat) (h : k ≠ B) : (layW w B x a0 a1 c0 c1).heap[k]? = w.heap[k]? := by
  unfold layW
  repeat rw [set_blk _ _ _ _ _ h]
theorem layW_below {C : Nat} {u w : World} {B : Nat} (hb : Below C u w) (hB : C ≤ B) (x : Wn) (a0 a1 : Option Addr) (c0 c1 : Nat) : Below C u (layW w B x a0 a1 c0 c1) := by
  unfold layW
  repeat' refine Below.setCell ?_ hB _
  exact hb
theorem WZ.put {w : World} {B : Nat} (h : WZ w B) (x : Wn) (a0 a1 : Option Addr) (c0 c1 : Nat) : WiAt (layW w B x a0 a1 c0 c1) B 0 x a0 a1 c0 c1 := by
  obtain ⟨⟨lt, h0, h1, h2, h3, h4, h5, h6, h7, h8, h9, h10⟩, fz⟩ := h
  simp only [Nat.zero_add] at h1 h2 h3 h4 h5 h6 h7 h8 h9 h10
  unfold layW
  refine ⟨by simp; exact lt, ?_, ?_, ?_, ?_, ?_, ?_, ?_, ?_, ?_, ?_, ?_⟩ <;> simp [go_sem, h0, h1, h2, h3, h4, h5, h6, h7, h8, h9, h10]
/-- A window that was answered and lies in a box. -/
structure BoxW (w2 w : World) (B : Nat) (x : Wn) (a0 a1 : Option Addr) (c0 c1 : Nat) : Prop where
  at' : WiAt w B 0 x a0 a1 c0 c1
  wa : WA w w2.heap.size w.heap.size x a0 a1
  bl : Below w2.heap.size w2 w
  ge : w2.heap.size ≤ B
theorem BoxW.last {w2 w : World} {x : Wn} {a0 a1 : Option Addr} {c0 c1 lo : Nat} (hW : WA w lo w.heap.size x a0 a1) (hlo : w2.heap.size ≤ lo) (hb : Below w2.heap.size w2 w) (T : Nat) :
    BoxW w2 (w.alloc (.cells #[.string x.m, .slice a0 x.tn c0, .int .i64 x.st, .int .i64 x.c, .int .i64 x.s, .int .i64 x.lo, .int .i64 x.hi, .slice a1 x.n c1, .bool x.fu, .int .i64 x.ver, .bool x.di] T)) w.heap.size x a0 a1 c0 c1 :=
  have bn := below_new w (.cells #[.string x.m, .slice a0 x.tn c0, .int .i64 x.st, .int .i64 x.c, .int .i64 x.s, .int .i64 x.lo, .int .i64 x.hi, .slice a1 x.n c1, .bool x.fu, .int .i64 x.ver, .bool x.di] T)
  ⟨WiAt.new w x a0 a1 c0 c1 T, (hW.keep bn).mono hlo bn.size (Nat.le_refl _), hb.trans (bn.mono hb.size), hb.size⟩
theorem BoxW.early {w2 w : World} {B : Nat} {x : Wn} {a0 a1 : Option Addr} {c0 c1 lo hi : Nat} (Z : WZ w B) (hW : WA w lo hi x a0 a1) (hlo : w2.heap.size ≤ lo) (hB : B < lo ∨ hi ≤ B) (hB2 : w2.heap.size ≤ B) (hb : Below w2.heap.size w2 w) :
    BoxW w2 (layW w B x a0 a1 c0 c1) B x a0 a1 c0 c1 := by
  refine ⟨Z.put x a0 a1 c0 c1, ?_, layW_below hb hB2 _ _ _ _ _, hB2⟩
  have := hW.same (w' := layW w B x a0 a1 c0 c1) (by rw [layW_size]; exact Nat.le_refl _) (fun k h1 h2 => layW_blk _ _ _ _ _ _ _ _ (by omega))
  exact this.mono hlo (by rw [layW_size]; exact hW.tp) (Nat.le_refl _)

section
variable {P : Program} {ops : Array Oper} {Q : Exit → Act → World → Prop} {md : Region.Mode} {S : World → Prop} {W : Nat → Bool}
/-- The only two that may come up. -/
theorem wpW_two (i j : Nat) (oi oj : Oper) {f : Nat} {L : Array Bool} {a : Act} {w : World} (hi : ops[i]? = some oi) (hj : ops[j]? = some oj) (hr : Region.ready md ops L = [i, j])
    (h1 : if Region.wanted oi (yielded ops a.tmps) = true then Oper.wp P oi a w (fun a' w' => (W i = true → S w') ∧ wpW P md ops Q S W f (L.setIfInBounds i true) a' w') Q else False)
    (h2 : if Region.wanted oj (yielded ops a.tmps) = true then Oper.wp P oj a w (fun a' w' => (W j = true → S w') ∧ wpW P md ops Q S W f (L.setIfInBounds j true) a' w') Q else False) : wpW P md ops Q S W (f + 1) L a w := by
  refine ⟨fun h0 => (by rw [hr] at h0; cases h0), fun q hq => ?_⟩
  rw [hr] at hq
  have hq' : q = i ∨ q = j := by simpa using hq
  rcases hq' with rfl | rfl
  · unfold wpOp
    rw [hi]
    dsimp only
    by_cases hw : Region.wanted oi (yielded ops a.tmps) = true
    · rw [if_pos hw] at h1 ⊢
      exact .inl h1
    · rw [if_neg hw] at h1
      exact h1.elim
  · unfold wpOp
    rw [hj]
    dsimp only
    by_cases hw : Region.wanted oj (yielded ops a.tmps) = true
    · rw [if_pos hw] at h2 ⊢
      exact .inl h2
    · rw [if_neg hw] at h2
      exact h2.elim
end
section
variable {w : World} {ops : Array Oper} {o : Oper} {a : Act} {K : Act → World → Prop} {Q : Exit → Act → World → Prop} {E : Prop}
/-- A call of one argument in a region that draws. -/
theorem step_call1 (hgd : o.guard = none) (k f ty : Nat) (ho : o.op = .call { callee := .value (.func f), args := #[.tmp k], argTypes := #[ty] }) (l : Array Value) (hx : a.eval (.tmp k) = .agg l) (hcf : ∀ (args : Array Value) (w : World), Sem.run Tryz.prog (callFunc f args) w = .ok (.enter f args) w) {post : Ending → World → Prop} (hc : Calls Tryz.prog f #[.agg l] w post)
    (h : ∀ e w', post e w' → ∃ v', e = .returned v' ∧ K (a.put o.dst v') w') :
    if Region.wanted o (yielded ops a.tmps) = true then Oper.wp Tryz.prog o a w K Q else E := by
  have hw : Region.wanted o (yielded ops a.tmps) = true := by simp [Region.wanted, hgd]
  rw [if_pos hw]
  have hx' : a.tmps.getD k undef = .agg l := hx
  unfold Oper.wp execOp
  simp only [ho, resolve, Act.eval, hx']
  go_simp
  refine hc.mono ?_
  intro e w' hp
  obtain ⟨v', rfl, hK⟩ := h e w' hp
  exact hK
/-- A call of two arguments in a region that draws. -/
theorem step_call2 (hgd : o.guard = none) (k k2 f ty ty2 : Nat) (ho : o.op = .call { callee := .value (.func f), args := #[.tmp k, .tmp k2], argTypes := #[ty, ty2] }) (l l2 : Array Value) (hx : a.eval (.tmp k) = .agg l) (hx2 : a.eval (.tmp k2) = .agg l2) (hcf : ∀ (args : Array Value) (w : World), Sem.run Tryz.prog (callFunc f args) w = .ok (.enter f args) w) {post : Ending → World → Prop} (hc : Calls Tryz.prog f #[.agg l, .agg l2] w post)
    (h : ∀ e w', post e w' → ∃ v', e = .returned v' ∧ K (a.put o.dst v') w') :
    if Region.wanted o (yielded ops a.tmps) = true then Oper.wp Tryz.prog o a w K Q else E := by
  have hw : Region.wanted o (yielded ops a.tmps) = true := by simp [Region.wanted, hgd]
  rw [if_pos hw]
  have hx' : a.tmps.getD k undef = .agg l := hx
  have hx2' : a.tmps.getD k2 undef = .agg l2 := hx2
  unfold Oper.wp execOp
  simp only [ho, resolve, Act.eval, hx', hx2', List.map_toArray, List.map_cons, List.map_nil]
  go_simp
  refine hc.mono ?_
  intro e w' hp
  obtain ⟨v', rfl, hK⟩ := h e w' hp
  exact hK
theorem cf_toBoard (args : Array Value) (w : World) : Sem.run Tryz.prog (callFunc 7 args) w = .ok (.enter 7 args) w := by go_simp
theorem cf_toKey (args : Array Value) (w : World) : Sem.run Tryz.prog (callFunc 8 args) w = .ok (.enter 8 args) w := by go_simp
/-- A truth assigned in a region that draws. -/
theorem step_assignB (hgd : o.guard = none) (k : Nat) (ho : o.op = .assign (.tmp k)) (b : Bool) (hx : a.eval (.tmp k) = .bool b) (h : K (a.put o.dst (.bool b)) w) :
    if Region.wanted o (yielded ops a.tmps) = true then Oper.wp Tryz.prog o a w K Q else E := by
  have hw : Region.wanted o (yielded ops a.tmps) = true := by simp [Region.wanted, hgd]
  rw [if_pos hw]
  have hx' : a.tmps.getD k undef = .bool b := hx
  unfold Oper.wp execOp
  simp only [ho, Act.eval, hx']
  go_simp
  exact h
/-- A window's box made in a region that draws. -/
theorem step_allocW (hgd : o.guard = none) (ho : o.op = .alloc 59)
    (h : K (a.put o.dst (.pointer (some ⟨w.heap.size, 0, none⟩))) (w.alloc (.cells #[.string ⟨#[]⟩, .slice none 0 0, .int .i64 0, .int .i64 0, .int .i64 0, .int .i64 0, .int .i64 0, .slice none 0 0, .bool false, .int .i64 0, .bool false] 59))) :
    if Region.wanted o (yielded ops a.tmps) = true then Oper.wp Tryz.prog o a w K Q else E := by
  have hw : Region.wanted o (yielded ops a.tmps) = true := by simp [Region.wanted, hgd]
  rw [if_pos hw]
  unfold Oper.wp execOp
  simp only [ho]
  go_simp
  exact h
/-- A window stored in a region that draws. -/
theorem step_storeW (hgd : o.guard = none) (k j : Nat) (ho : o.op = .store 59 (.tmp k) (.tmp j)) (B : Nat) (x : Wn) (a0 a1 : Option Addr) (c0 c1 : Nat) (hx : a.eval (.tmp k) = .pointer (some ⟨B, 0, none⟩)) (hv : a.eval (.tmp j) = .agg #[.string x.m, .slice a0 x.tn c0, .int .i64 x.st, .int .i64 x.c, .int .i64 x.s, .int .i64 x.lo, .int .i64 x.hi, .slice a1 x.n c1, .bool x.fu, .int .i64 x.ver, .bool x.di]) (Z : WZ w B)
    (h : K (a.put o.dst undef) (layW w B x a0 a1 c0 c1)) :
    if Region.wanted o (yielded ops a.tmps) = true then Oper.wp Tryz.prog o a w K Q else E := by
  have hw : Region.wanted o (yielded ops a.tmps) = true := by simp [Region.wanted, hgd]
  rw [if_pos hw]
  have hx' : a.tmps.getD k undef = .pointer (some ⟨B, 0, none⟩) := hx
  have hv' : a.tmps.getD j undef = .agg #[.string x.m, .slice a0 x.tn c0, .int .i64 x.st, .int .i64 x.c, .int .i64 x.s, .int .i64 x.lo, .int .i64 x.hi, .slice a1 x.n c1, .bool x.fu, .int .i64 x.ver, .bool x.di] := hv
  obtain ⟨⟨lt, h0, h1, h2, h3, h4, h5, h6, h7, h8, h9, h10⟩, fz⟩ := Z
  simp only [Nat.zero_add] at h1 h2 h3 h4 h5 h6 h7 h8 h9 h10
  unfold layW at h
  unfold Oper.wp execOp
  simp only [ho, Act.eval, hx', hv']
  go_simp
  exact h
end
end Go.Proofs.YtaiigpffhcofpaaGreat
