/- The windows of a board that is a value. / WinOf, in both texts. / WinOf in the model. / A window marked, and looked for. / What WinOf answers, in both texts. -/
import Derived.Test.YtpggmgmdcccmeaaRm
import Derived.Test.YtpggmgmdcccmeaaPm
import Derived.Test.YtpggmgmdcccmeaaWb
namespace Go.Proofs.Ytpggmgmdcccmeaa
open Go.RowKit
set_option linter.unusedSimpArgs false
set_option linter.unusedVariables false

theorem field_wins (z h mk : Int) (ao : Option Addr) (n c : Nat) (w : World) : (Instr.field 25 (.agg #[.int .i64 z, .int .i64 h, .int .i64 mk, .slice ao n c]) 3).run Try.prog w = .ok (.slice ao n c) w := by
  unfold Instr.field
  simp [go_sem, Try.underlying25, part, asAgg]
end Go.Proofs.Ytpggmgmdcccmeaa
namespace Go.Proofs.Ytpggmgmdcccmeaa
open Go.RowKit
set_option linter.unusedSimpArgs false
set_option linter.unusedVariables false

/-- A window's lists, in memory of their own between the blocks base and top. -/
structure WA (w : World) (base top : Nat) (x : Wn) (a0 a1 : Option Addr) : Prop where
  tp : top ≤ w.heap.size
  l0 : 0 < x.tn → ∃ g, a0 = some ⟨g, 0, none⟩ ∧ base ≤ g ∧ g < top ∧ TOwn w g x.tn x.tn x.nm x.vl ∧ ∀ g', 0 < x.n → a1 = some ⟨g', 0, none⟩ → g ≠ g'
  l1 : 0 < x.n → ∃ g, a1 = some ⟨g, 0, none⟩ ∧ base ≤ g ∧ g < top ∧ IOwn w g 0 x.n x.f
theorem BA.win {w : World} {base top n : Nat} {v : Value} {X : Nat → Wn} (h : BA w base top v n X) {i : Nat} (hi : i < n) : ∃ g cap a0 a1 c0 c1, v = .slice (some ⟨g, 0, none⟩) n cap ∧ g < top ∧ WiAt w g (i * 11) (X i) a0 a1 c0 c1 ∧ WA w base top (X i) a0 a1 := by
  rcases h.2 with ⟨rfl, _⟩ | ⟨g, cap, A0, A1, K0, K1, G, e1, h1, h2, h3, h4, h5⟩
  · omega
  · refine ⟨g, cap, A0 i, A1 i, K0 i, K1 i, e1, h2, h3.ent i hi, h.1, fun hp => ?_, fun hp => ?_⟩
    · obtain ⟨e, _, o⟩ := h3.l0 i hi hp
      refine ⟨_, e, (h4 i hi hp).1, (h4 i hi hp).2, o, fun g' hq e' => ?_⟩
      obtain ⟨e2, _, _⟩ := h3.l1 i hi hq
      rw [e2] at e'
      injection e' with e'
      injection e' with e3 _ _
      rw [← e3]
      exact h3.dis _ _ (by omega) (by omega) (by omega)
    · obtain ⟨e, _, o⟩ := h3.l1 i hi hp
      exact ⟨_, e, (h5 i hi hp).1, (h5 i hi hp).2, o⟩
theorem WA.same {w w' : World} {base top : Nat} {x : Wn} {a0 a1 : Option Addr} (h : WA w base top x a0 a1) (hs : w.heap.size ≤ w'.heap.size) (hb : ∀ c, base ≤ c → c < top → w'.heap[c]? = w.heap[c]?) : WA w' base top x a0 a1 := by
  refine ⟨Nat.le_trans h.tp hs, fun hp => ?_, fun hp => ?_⟩
  · obtain ⟨g, e, h1, h2, h3, h4⟩ := h.l0 hp
    exact ⟨g, e, h1, h2, h3.blk (hb g h1 h2) hs, h4⟩
  · obtain ⟨g, e, h1, h2, h3⟩ := h.l1 hp
    exact ⟨g, e, h1, h2, h3.blk (hb g h1 h2) hs⟩
theorem WA.keep {w w' : World} {base top : Nat} {x : Wn} {a0 a1 : Option Addr} (h : WA w base top x a0 a1) (hb : Below w.heap.size w w') : WA w' base top x a0 a1 :=
  h.same hb.size (fun c _ hc => hb.block c (Nat.lt_of_lt_of_le hc h.tp))
theorem WA.mono {w : World} {base base' top top' : Nat} {x : Wn} {a0 a1 : Option Addr} (h : WA w base top x a0 a1) (hb : base' ≤ base) (ht : top ≤ top') (ht2 : top' ≤ w.heap.size) : WA w base' top' x a0 a1 := by
  refine ⟨ht2, fun hp => ?_, fun hp => ?_⟩
  · obtain ⟨g, e, h1, h2, h3, h4⟩ := h.l0 hp
    exact ⟨g, e, by omega, by omega, h3, h4⟩
  · obtain ⟨g, e, h1, h2, h3⟩ := h.l1 hp
    exact ⟨g, e, by omega, by omega, h3⟩
/-- No window. -/
def wn0 : Wn := ⟨⟨#[]⟩, 0, fun _ => ⟨#[]⟩, fun _ => ⟨#[]⟩, 0, 0, 0, 0, 0, 0, fun _ => 0, false, 0, false⟩
/-- An answer: a window with lists of its own, and whether there is one. -/
def WAns (x : Wn) (ok : Bool) (w : World) (e : Ending) (w' : World) : Prop :=
  ∃ a0 a1 c0 c1, e = .returned (.tuple #[.agg #[.string x.m, .slice a0 x.tn c0, .int .i64 x.st, .int .i64 x.c, .int .i64 x.s, .int .i64 x.lo, .int .i64 x.hi, .slice a1 x.n c1, .bool x.fu, .int .i64 x.ver, .bool x.di], .bool ok]) ∧ WA w' w.heap.size w'.heap.size x a0 a1 ∧ Below w.heap.size w w'

set_option maxRecDepth 100000 in
set_option maxHeartbeats 3200000 in
theorem winOf_impl_bad (z h mk : Int) (ao b : Option Addr) (n cap d : Nat) (X : Nat → Wn) (t : Wn) (w : World) (hr : WiRow w ao n X) (hn : n ≤ 1048576) (hz : WiSize n X) (hG : Hid (¬ GBd z h mk n X)) :
    Calls Try.prog 13 #[.agg #[.int .i64 z, .int .i64 h, .int .i64 mk, .slice ao n cap], .agg #[.string t.m, .slice b t.tn d, .int .i64 t.st]] w fun e w' => WAns wn0 false w e w' := by
  have hB : ∀ o o' o'', Below w.heap.size w (((w.alloc o).alloc o').alloc o'') := fun o o' o'' => ((below_new w o).alloc (by simp) _).alloc (by simp; omega) _
  go_enter Try.func13, Try.ntmps13
  go_wp2_with fail
  refine (openBoard_bad z h mk ao n cap X _ (hr.keep (hB _ _ _)) hn hz hG).mono ?_
  rintro e w1 ⟨rfl, q1⟩
  have bw : Below w.heap.size w w1 := (hB _ _ _).trans (q1.mono (by simp; omega))
  have d0 := q1.cell (p := ⟨w.heap.size + 1 + 1, 0, none⟩) (by simp)
  have d1 := q1.cell (p := ⟨w.heap.size + 1 + 1, 1, none⟩) (by simp)
  have d2 := q1.cell (p := ⟨w.heap.size + 1 + 1, 2, none⟩) (by simp)
  have d3 := q1.cell (p := ⟨w.heap.size + 1 + 1, 3, none⟩) (by simp)
  have d4 := q1.cell (p := ⟨w.heap.size + 1 + 1, 4, none⟩) (by simp)
  have d5 := q1.cell (p := ⟨w.heap.size + 1 + 1, 5, none⟩) (by simp)
  have d6 := q1.cell (p := ⟨w.heap.size + 1 + 1, 6, none⟩) (by simp)
  have d7 := q1.cell (p := ⟨w.heap.size + 1 + 1, 7, none⟩) (by simp)
  have d8 := q1.cell (p := ⟨w.heap.size + 1 + 1, 8, none⟩) (by simp)
  have d9 := q1.cell (p := ⟨w.heap.size + 1 + 1, 9, none⟩) (by simp)
  have d10 := q1.cell (p := ⟨w.heap.size + 1 + 1, 10, none⟩) (by simp)
  have df : ∀ j, w1.frozen? ⟨w.heap.size + 1 + 1, j, none⟩ = false := fun j => (q1.frozen (p := ⟨w.heap.size + 1 + 1, j, none⟩) (by simp)).trans (by simp [go_sem])
  simp [go_sem] at d0 d1 d2 d3 d4 d5 d6 d7 d8 d9 d10
  clear q1 hB
  go_wp2
  refine bodyPost_ret (v := .tuple #[.agg #[.string ⟨#[]⟩, .slice none 0 0, .int .i64 0, .int .i64 0, .int .i64 0, .int .i64 0, .int .i64 0, .slice none 0 0, .bool false, .int .i64 0, .bool false], .bool false]) (by simp [results, Try.results13, go_sem, d0, d1, d2, d3, d4, d5, d6, d7, d8, d9, d10]) rfl ⟨none, none, 0, 0, rfl, ⟨Nat.le_refl _, fun h => absurd h (Nat.lt_irrefl 0), fun h => absurd h (Nat.lt_irrefl 0)⟩, ?_⟩
  repeat' refine Below.setCell ?_ (by first | (simp; done) | (simp; omega)) _
  exact bw

/-- Whether there is a window of that key, at the place q. -/
def WinOk (n : Nat) (X : Nat → Wn) (t : Wn) (q : Nat) : Prop := gK t = true ∧ q < n ∧ kc (X q) t = 0

set_option maxRecDepth 100000 in
set_option maxHeartbeats 8000000 in
theorem winOf_impl_good (z h mk : Int) (ao b : Option Addr) (n cap d q : Nat) (X : Nat → Wn) (t : Wn) (w : World) (hr : WiRow w ao n X) (hn : n ≤ 1048576) (hz : WiSize n X) (hG : Hid (GBd z h mk n X)) (rt : TRow w b t.tn t.nm t.vl) (ht1 : t.m.size ≤ 1048576) (ht2 : t.tn ≤ 1048576) (ht3 : TSize t.tn t.nm t.vl 1048576) (hP : Hid (PosK X n t q)) :
    Calls Try.prog 13 #[.agg #[.int .i64 z, .int .i64 h, .int .i64 mk, .slice ao n cap], .agg #[.string t.m, .slice b t.tn d, .int .i64 t.st]] w fun e w' => (WinOk n X t q → WAns (X q) true w e w') ∧ (¬ WinOk n X t q → WAns wn0 false w e w') := by
  have hB : ∀ o o' o'', Below w.heap.size w (((w.alloc o).alloc o').alloc o'') := fun o o' o'' => ((below_new w o).alloc (by simp) _).alloc (by simp; omega) _
  have hfX : FBw n (cln X) := hr.fb
  have hgX : Hid (∀ i, i < n → gK (cln X i) = true) := fun i hi => (hG.out.wins.each i hi).key
  have hbX : Hid (∀ i, i < n → WiB (cln X i)) := fun i hi => by cases hr.bd i hi; constructor <;> assumption
  have hPX : Hid (PosK (cln X) n t q) := ⟨hP.out.le, hP.out.lt, hP.out.ge⟩
  go_enter Try.func13, Try.ntmps13
  go_wp2_with fail
  refine (openBoard_good z h mk ao n cap X _ (hr.keep (hB _ _ _)) hn hz hG).mono ?_
  rintro e w1 ⟨base, p, r, v, V, rfl, hp, hrr, rfl, HW, q1⟩
  have bw : Below w.heap.size w w1 := (hB _ _ _).trans (q1.mono (by simp; omega))
  have d0 := q1.cell (p := ⟨w.heap.size + 1 + 1, 0, none⟩) (by simp)
  have d1 := q1.cell (p := ⟨w.heap.size + 1 + 1, 1, none⟩) (by simp)
  have d2 := q1.cell (p := ⟨w.heap.size + 1 + 1, 2, none⟩) (by simp)
  have d3 := q1.cell (p := ⟨w.heap.size + 1 + 1, 3, none⟩) (by simp)
  have d4 := q1.cell (p := ⟨w.heap.size + 1 + 1, 4, none⟩) (by simp)
  have d5 := q1.cell (p := ⟨w.heap.size + 1 + 1, 5, none⟩) (by simp)
  have d6 := q1.cell (p := ⟨w.heap.size + 1 + 1, 6, none⟩) (by simp)
  have d7 := q1.cell (p := ⟨w.heap.size + 1 + 1, 7, none⟩) (by simp)
  have d8 := q1.cell (p := ⟨w.heap.size + 1 + 1, 8, none⟩) (by simp)
  have d9 := q1.cell (p := ⟨w.heap.size + 1 + 1, 9, none⟩) (by simp)
  have d10 := q1.cell (p := ⟨w.heap.size + 1 + 1, 10, none⟩) (by simp)
  have df : ∀ j, w1.frozen? ⟨w.heap.size + 1 + 1, j, none⟩ = false := fun j => (q1.frozen (p := ⟨w.heap.size + 1 + 1, j, none⟩) (by simp)).trans (by simp [go_sem])
  have k0 := q1.cell (p := ⟨w.heap.size + 1, 0, none⟩) (by simp)
  have k1 := q1.cell (p := ⟨w.heap.size + 1, 1, none⟩) (by simp)
  have k2 := q1.cell (p := ⟨w.heap.size + 1, 2, none⟩) (by simp)
  simp [go_sem] at d0 d1 d2 d3 d4 d5 d6 d7 d8 d9 d10 k0 k1 k2 hp hrr
  have hs1 : w.heap.size + 3 ≤ w1.heap.size := by have := q1.size; simp at this; omega
  have hpl := HW.box.lt
  clear q1 hB
  obtain ⟨gt, hgt⟩ : ∃ g, gK t = g := ⟨_, rfl⟩
  have HT : Hid (gK t = gt) := hgt
  clear hgt
  go_wp2_with fail
  refine (goodKey_impl t.m t.st b t.tn d t.nm t.vl _ (rt.keep bw) ht1 ht2 ht3).mono ?_
  rintro e w2 ⟨rfl, q2⟩
  rw [show goodB t.m t.tn t.nm t.vl t.st = gt from HT.out]
  have lt2 : w.heap.size + 1 + 1 < w1.heap.size := by omega
  have d0 := (q2.cell (p := ⟨w.heap.size + 1 + 1, 0, none⟩) (lt2)).trans d0
  have d1 := (q2.cell (p := ⟨w.heap.size + 1 + 1, 1, none⟩) (lt2)).trans d1
  have d2 := (q2.cell (p := ⟨w.heap.size + 1 + 1, 2, none⟩) (lt2)).trans d2
  have d3 := (q2.cell (p := ⟨w.heap.size + 1 + 1, 3, none⟩) (lt2)).trans d3
  have d4 := (q2.cell (p := ⟨w.heap.size + 1 + 1, 4, none⟩) (lt2)).trans d4
  have d5 := (q2.cell (p := ⟨w.heap.size + 1 + 1, 5, none⟩) (lt2)).trans d5
  have d6 := (q2.cell (p := ⟨w.heap.size + 1 + 1, 6, none⟩) (lt2)).trans d6
  have d7 := (q2.cell (p := ⟨w.heap.size + 1 + 1, 7, none⟩) (lt2)).trans d7
  have d8 := (q2.cell (p := ⟨w.heap.size + 1 + 1, 8, none⟩) (lt2)).trans d8
  have d9 := (q2.cell (p := ⟨w.heap.size + 1 + 1, 9, none⟩) (lt2)).trans d9
  have d10 := (q2.cell (p := ⟨w.heap.size + 1 + 1, 10, none⟩) (lt2)).trans d10
  have df : ∀ j, w2.frozen? ⟨w.heap.size + 1 + 1, j, none⟩ = false := fun j => (q2.frozen (p := ⟨w.heap.size + 1 + 1, j, none⟩) (lt2)).trans (df j)
  have k0 := (q2.cell (p := ⟨w.heap.size + 1, 0, none⟩) (by show w.heap.size + 1 < w1.heap.size; omega)).trans k0
  have k1 := (q2.cell (p := ⟨w.heap.size + 1, 1, none⟩) (by show w.heap.size + 1 < w1.heap.size; omega)).trans k1
  have k2 := (q2.cell (p := ⟨w.heap.size + 1, 2, none⟩) (by show w.heap.size + 1 < w1.heap.size; omega)).trans k2
  have HW := HW.keep q2
  have bw2 := bw.trans (q2.mono bw.size)
  have hs2 := q2.size
  clear q2
  cases gt
  · have HN : Hid (¬ WinOk n X t q) := fun hh => by have := hh.1; rw [HT.out] at this; cases this
    clear HT
    go_wp2
    refine bodyPost_ret (v := .tuple #[.agg #[.string ⟨#[]⟩, .slice none 0 0, .int .i64 0, .int .i64 0, .int .i64 0, .int .i64 0, .int .i64 0, .slice none 0 0, .bool false, .int .i64 0, .bool false], .bool false]) (by simp [results, Try.results13, go_sem, d0, d1, d2, d3, d4, d5, d6, d7, d8, d9, d10]) rfl ⟨fun hh => absurd hh HN.out, fun _ => ⟨none, none, 0, 0, rfl, ⟨Nat.le_refl _, fun h => absurd h (Nat.lt_irrefl 0), fun h => absurd h (Nat.lt_irrefl 0)⟩, ?_⟩⟩
    repeat' refine Below.setCell ?_ (by first | (simp; done) | (simp; omega)) _
    exact bw2
  have hm : Hid (∀ i j, i ≤ j → j < n → kc (cln X j) t < 0 → kc (cln X i) t < 0) := fun i j hij hj hk => at_mono hG.out.wins HT.out hij hj hk
  go_wp2_with fail
  refine (place_any (p + 1) p r q z h mk v n (cln X) V (dS X n) t b d _ HW hbX.out hfX hgX hn HT (rt.keep bw2) hm hPX).mono ?_
  rintro e w3 ⟨b1, rfl, h1, q3⟩
  have lt3 : w.heap.size + 1 + 1 < w2.heap.size := by omega
  have d0 := (q3.cell (p := ⟨w.heap.size + 1 + 1, 0, none⟩) (lt3)).trans d0
  have d1 := (q3.cell (p := ⟨w.heap.size + 1 + 1, 1, none⟩) (lt3)).trans d1
  have d2 := (q3.cell (p := ⟨w.heap.size + 1 + 1, 2, none⟩) (lt3)).trans d2
  have d3 := (q3.cell (p := ⟨w.heap.size + 1 + 1, 3, none⟩) (lt3)).trans d3
  have d4 := (q3.cell (p := ⟨w.heap.size + 1 + 1, 4, none⟩) (lt3)).trans d4
  have d5 := (q3.cell (p := ⟨w.heap.size + 1 + 1, 5, none⟩) (lt3)).trans d5
  have d6 := (q3.cell (p := ⟨w.heap.size + 1 + 1, 6, none⟩) (lt3)).trans d6
  have d7 := (q3.cell (p := ⟨w.heap.size + 1 + 1, 7, none⟩) (lt3)).trans d7
  have d8 := (q3.cell (p := ⟨w.heap.size + 1 + 1, 8, none⟩) (lt3)).trans d8
  have d9 := (q3.cell (p := ⟨w.heap.size + 1 + 1, 9, none⟩) (lt3)).trans d9
  have d10 := (q3.cell (p := ⟨w.heap.size + 1 + 1, 10, none⟩) (lt3)).trans d10
  have df : ∀ j, w3.frozen? ⟨w.heap.size + 1 + 1, j, none⟩ = false := fun j => (q3.frozen (p := ⟨w.heap.size + 1 + 1, j, none⟩) (lt3)).trans (df j)
  have HW := HW.keep q3
  have bw3 := bw2.trans (q3.mono bw2.size)
  have hs3 := q3.size
  clear q3 hm k0 k1 k2
  cases b1
  · have HN : Hid (¬ WinOk n X t q) := fun hh => by have := h1.2 ⟨hh.2.1, hh.2.2⟩; cases this
    clear h1
    go_wp2
    refine bodyPost_ret (v := .tuple #[.agg #[.string ⟨#[]⟩, .slice none 0 0, .int .i64 0, .int .i64 0, .int .i64 0, .int .i64 0, .int .i64 0, .slice none 0 0, .bool false, .int .i64 0, .bool false], .bool false]) (by simp [results, Try.results13, go_sem, d0, d1, d2, d3, d4, d5, d6, d7, d8, d9, d10]) rfl ⟨fun hh => absurd hh HN.out, fun _ => ⟨none, none, 0, 0, rfl, ⟨Nat.le_refl _, fun h => absurd h (Nat.lt_irrefl 0), fun h => absurd h (Nat.lt_irrefl 0)⟩, ?_⟩⟩
    repeat' refine Below.setCell ?_ (by first | (simp; done) | (simp; omega)) _
    exact bw3
  have HY : Hid (WinOk n X t q) := ⟨HT.out, (h1.1 rfl).1, (h1.1 rfl).2⟩
  clear h1
  have tl := tell_any (p + 1) p r z h mk v n (cln X) V (dS X n) _ HW hfX hgX hn (by omega)
  go_wp2_with fail
  refine tl.mono ?_
  clear tl
  rintro e w4 ⟨v', bt, rfl, hbt, hA, q4⟩
  have hA' := hA.congr (told_back hG.out.wins hbt)
  obtain ⟨g, vc, a0, a1, c0, c1, rfl, hgt, eg, WAw⟩ := hA'.win HY.out.2.1
  have lt4 : w.heap.size + 1 + 1 < p + 1 := by omega
  have d0 := (q4.cell (p := ⟨w.heap.size + 1 + 1, 0, none⟩) (lt4)).trans d0
  have d1 := (q4.cell (p := ⟨w.heap.size + 1 + 1, 1, none⟩) (lt4)).trans d1
  have d2 := (q4.cell (p := ⟨w.heap.size + 1 + 1, 2, none⟩) (lt4)).trans d2
  have d3 := (q4.cell (p := ⟨w.heap.size + 1 + 1, 3, none⟩) (lt4)).trans d3
  have d4 := (q4.cell (p := ⟨w.heap.size + 1 + 1, 4, none⟩) (lt4)).trans d4
  have d5 := (q4.cell (p := ⟨w.heap.size + 1 + 1, 5, none⟩) (lt4)).trans d5
  have d6 := (q4.cell (p := ⟨w.heap.size + 1 + 1, 6, none⟩) (lt4)).trans d6
  have d7 := (q4.cell (p := ⟨w.heap.size + 1 + 1, 7, none⟩) (lt4)).trans d7
  have d8 := (q4.cell (p := ⟨w.heap.size + 1 + 1, 8, none⟩) (lt4)).trans d8
  have d9 := (q4.cell (p := ⟨w.heap.size + 1 + 1, 9, none⟩) (lt4)).trans d9
  have d10 := (q4.cell (p := ⟨w.heap.size + 1 + 1, 10, none⟩) (lt4)).trans d10
  have df : ∀ j, w4.frozen? ⟨w.heap.size + 1 + 1, j, none⟩ = false := fun j => (q4.frozen (p := ⟨w.heap.size + 1 + 1, j, none⟩) (lt4)).trans (df j)
  have bw4 : Below w.heap.size w w4 := bw3.trans (q4.mono (by omega))
  have hs4 := q4.size
  have hq0 : (0 : Int) ≤ (q : Int) := by omega
  have hq1 : (q : Int) < (n : Int) := by have := HY.out.2.1; omega
  obtain ⟨_, x0, x1, x2, x3, x4, x5, x6, x7, x8, x9, x10⟩ := id eg
  have fw := field_wins z h mk (some ⟨g, 0, none⟩) n vc w4
  clear q4 hA hA' hbt
  go_wp2
  refine bodyPost_ret (v := .tuple #[.agg #[.string (X q).m, .slice a0 (X q).tn c0, .int .i64 (X q).st, .int .i64 (X q).c, .int .i64 (X q).s, .int .i64 (X q).lo, .int .i64 (X q).hi, .slice a1 (X q).n c1, .bool (X q).fu, .int .i64 (X q).ver, .bool (X q).di], .bool true]) (by simp [results, Try.results13, go_sem, d0, d1, d2, d3, d4, d5, d6, d7, d8, d9, d10]) rfl ⟨fun _ => ⟨a0, a1, c0, c1, rfl, ?_, ?_⟩, fun hh => absurd HY.out hh⟩
  · refine WA.mono (WAw.same (by simp) (fun c h1 h2 => ?_)) (by omega) (by simp; omega) (Nat.le_refl _)
    repeat rw [set_blk _ _ _ _ _ (by omega)]
  · repeat' refine Below.setCell ?_ (by first | (simp; done) | (simp; omega)) _
    exact bw4
end Go.Proofs.Ytpggmgmdcccmeaa
namespace Go.Proofs.Ytpggmgmdcccmeaa
open Go.RowKit
set_option linter.unusedSimpArgs false
set_option linter.unusedVariables false

set_option maxRecDepth 100000 in
set_option maxHeartbeats 3200000 in
theorem winOf_spec_bad (z h mk : Int) (ao b : Option Addr) (n cap d : Nat) (X : Nat → Wn) (t : Wn) (w : World) (hr : WiRow w ao n X) (hn : n ≤ 1048576) (hz : WiSize n X) (hG : Hid (¬ GBd z h mk n X)) :
    Calls Try.prog 7 #[.agg #[.int .i64 z, .int .i64 h, .int .i64 mk, .slice ao n cap], .agg #[.string t.m, .slice b t.tn d, .int .i64 t.st]] w fun e w' => WAns wn0 false w e w' := by
  have hB : ∀ o o' o'', Below w.heap.size w (((w.alloc o).alloc o').alloc o'') := fun o o' o'' => ((below_new w o).alloc (by simp) _).alloc (by simp; omega) _
  go_enter Try.func7, Try.ntmps7
  go_wp2_with fail
  refine (goodBoard_spec z h mk ao n cap X _ (hr.keep (hB _ _ _)) hn hz).mono ?_
  rintro e w1 ⟨b1, rfl, h1, q1⟩
  have e1 : b1 = false := by
    cases b1 with
    | false => rfl
    | true => exact absurd (h1.1 rfl) hG.out
  subst e1
  clear h1
  have bw : Below w.heap.size w w1 := (hB _ _ _).trans (q1.mono (by simp; omega))
  have d0 := q1.cell (p := ⟨w.heap.size + 1 + 1, 0, none⟩) (by simp)
  have d1 := q1.cell (p := ⟨w.heap.size + 1 + 1, 1, none⟩) (by simp)
  have d2 := q1.cell (p := ⟨w.heap.size + 1 + 1, 2, none⟩) (by simp)
  have d3 := q1.cell (p := ⟨w.heap.size + 1 + 1, 3, none⟩) (by simp)
  have d4 := q1.cell (p := ⟨w.heap.size + 1 + 1, 4, none⟩) (by simp)
  have d5 := q1.cell (p := ⟨w.heap.size + 1 + 1, 5, none⟩) (by simp)
  have d6 := q1.cell (p := ⟨w.heap.size + 1 + 1, 6, none⟩) (by simp)
  have d7 := q1.cell (p := ⟨w.heap.size + 1 + 1, 7, none⟩) (by simp)
  have d8 := q1.cell (p := ⟨w.heap.size + 1 + 1, 8, none⟩) (by simp)
  have d9 := q1.cell (p := ⟨w.heap.size + 1 + 1, 9, none⟩) (by simp)
  have d10 := q1.cell (p := ⟨w.heap.size + 1 + 1, 10, none⟩) (by simp)
  have df : ∀ j, w1.frozen? ⟨w.heap.size + 1 + 1, j, none⟩ = false := fun j => (q1.frozen (p := ⟨w.heap.size + 1 + 1, j, none⟩) (by simp)).trans (by simp [go_sem])
  simp [go_sem] at d0 d1 d2 d3 d4 d5 d6 d7 d8 d9 d10
  clear q1 hB
  go_wp2
  refine bodyPost_ret (v := .tuple #[.agg #[.string ⟨#[]⟩, .slice none 0 0, .int .i64 0, .int .i64 0, .int .i64 0, .int .i64 0, .int .i64 0, .slice none 0 0, .bool false, .int .i64 0, .bool false], .bool false]) (by simp [results, Try.results7, go_sem, d0, d1, d2, d3, d4, d5, d6, d7, d8, d9, d10]) rfl ⟨none, none, 0, 0, rfl, ⟨Nat.le_refl _, fun h => absurd h (Nat.lt_irrefl 0), fun h => absurd h (Nat.lt_irrefl 0)⟩, ?_⟩
  repeat' refine Below.setCell ?_ (by first | (simp; done) | (simp; omega)) _
  exact bw

set_option maxRecDepth 100000 in
set_option maxHeartbeats 8000000 in
theorem winOf_spec_good (z h mk : Int) (ao b : Option Addr) (n cap d q : Nat) (X : Nat → Wn) (t : Wn) (w : World) (hr : WiRow w ao n X) (hn : n ≤ 1048576) (hz : WiSize n X) (hG : Hid (GBd z h mk n X)) (rt : TRow w b t.tn t.nm t.vl) (ht1 : t.m.size ≤ 1048576) (ht2 : t.tn ≤ 1048576) (ht3 : TSize t.tn t.nm t.vl 1048576) (hP : Hid (PosK X n t q)) :
    Calls Try.prog 7 #[.agg #[.int .i64 z, .int .i64 h, .int .i64 mk, .slice ao n cap], .agg #[.string t.m, .slice b t.tn d, .int .i64 t.st]] w fun e w' => (WinOk n X t q → WAns (X q) true w e w') ∧ (¬ WinOk n X t q → WAns wn0 false w e w') := by
  have hB : ∀ o o' o'', Below w.heap.size w (((w.alloc o).alloc o').alloc o'') := fun o o' o'' => ((below_new w o).alloc (by simp) _).alloc (by simp; omega) _
  have hfX : FBw n (cln X) := hr.fb
  have hgX : Hid (∀ i, i < n → gK (cln X i) = true) := fun i hi => (hG.out.wins.each i hi).key
  have hbX : Hid (∀ i, i < n → WiB (cln X i)) := fun i hi => by cases hr.bd i hi; constructor <;> assumption
  have hPX : Hid (PosK (cln X) n t q) := ⟨hP.out.le, hP.out.lt, hP.out.ge⟩
  go_enter Try.func7, Try.ntmps7
  go_wp2_with fail
  refine (goodBoard_spec z h mk ao n cap X _ (hr.keep (hB _ _ _)) hn hz).mono ?_
  rintro e w1 ⟨b1, rfl, h1, q1⟩
  have e1 : b1 = true := h1.2 hG.out
  subst e1
  clear h1
  have bw : Below w.heap.size w w1 := (hB _ _ _).trans (q1.mono (by simp; omega))
  have d0 := q1.cell (p := ⟨w.heap.size + 1 + 1, 0, none⟩) (by simp)
  have d1 := q1.cell (p := ⟨w.heap.size + 1 + 1, 1, none⟩) (by simp)
  have d2 := q1.cell (p := ⟨w.heap.size + 1 + 1, 2, none⟩) (by simp)
  have d3 := q1.cell (p := ⟨w.heap.size + 1 + 1, 3, none⟩) (by simp)
  have d4 := q1.cell (p := ⟨w.heap.size + 1 + 1, 4, none⟩) (by simp)
  have d5 := q1.cell (p := ⟨w.heap.size + 1 + 1, 5, none⟩) (by simp)
  have d6 := q1.cell (p := ⟨w.heap.size + 1 + 1, 6, none⟩) (by simp)
  have d7 := q1.cell (p := ⟨w.heap.size + 1 + 1, 7, none⟩) (by simp)
  have d8 := q1.cell (p := ⟨w.heap.size + 1 + 1, 8, none⟩) (by simp)
  have d9 := q1.cell (p := ⟨w.heap.size + 1 + 1, 9, none⟩) (by simp)
  have d10 := q1.cell (p := ⟨w.heap.size + 1 + 1, 10, none⟩) (by simp)
  have df : ∀ j, w1.frozen? ⟨w.heap.size + 1 + 1, j, none⟩ = false := fun j => (q1.frozen (p := ⟨w.heap.size + 1 + 1, j, none⟩) (by simp)).trans (by simp [go_sem])
  have o0 := q1.cell (p := ⟨w.heap.size, 0, none⟩) (by simp; omega)
  have o1 := q1.cell (p := ⟨w.heap.size, 1, none⟩) (by simp; omega)
  have o2 := q1.cell (p := ⟨w.heap.size, 2, none⟩) (by simp; omega)
  have o3 := q1.cell (p := ⟨w.heap.size, 3, none⟩) (by simp; omega)
  have k0 := q1.cell (p := ⟨w.heap.size + 1, 0, none⟩) (by simp)
  have k1 := q1.cell (p := ⟨w.heap.size + 1, 1, none⟩) (by simp)
  have k2 := q1.cell (p := ⟨w.heap.size + 1, 2, none⟩) (by simp)
  simp [go_sem] at d0 d1 d2 d3 d4 d5 d6 d7 d8 d9 d10 k0 k1 k2 o0 o1 o2 o3
  have hs1 : w.heap.size + 3 ≤ w1.heap.size := by have := q1.size; simp at this; omega
  clear q1 hB
  obtain ⟨gt, hgt⟩ : ∃ g, gK t = g := ⟨_, rfl⟩
  have HT : Hid (gK t = gt) := hgt
  clear hgt
  go_wp2_with fail
  refine (goodKey_spec t.m t.st b t.tn d t.nm t.vl _ (rt.keep bw) ht1 ht2 ht3).mono ?_
  rintro e w2 ⟨rfl, q2⟩
  rw [show goodB t.m t.tn t.nm t.vl t.st = gt from HT.out]
  have lt2 : w.heap.size + 1 + 1 < w1.heap.size := by omega
  have d0 := (q2.cell (p := ⟨w.heap.size + 1 + 1, 0, none⟩) (lt2)).trans d0
  have d1 := (q2.cell (p := ⟨w.heap.size + 1 + 1, 1, none⟩) (lt2)).trans d1
  have d2 := (q2.cell (p := ⟨w.heap.size + 1 + 1, 2, none⟩) (lt2)).trans d2
  have d3 := (q2.cell (p := ⟨w.heap.size + 1 + 1, 3, none⟩) (lt2)).trans d3
  have d4 := (q2.cell (p := ⟨w.heap.size + 1 + 1, 4, none⟩) (lt2)).trans d4
  have d5 := (q2.cell (p := ⟨w.heap.size + 1 + 1, 5, none⟩) (lt2)).trans d5
  have d6 := (q2.cell (p := ⟨w.heap.size + 1 + 1, 6, none⟩) (lt2)).trans d6
  have d7 := (q2.cell (p := ⟨w.heap.size + 1 + 1, 7, none⟩) (lt2)).trans d7
  have d8 := (q2.cell (p := ⟨w.heap.size + 1 + 1, 8, none⟩) (lt2)).trans d8
  have d9 := (q2.cell (p := ⟨w.heap.size + 1 + 1, 9, none⟩) (lt2)).trans d9
  have d10 := (q2.cell (p := ⟨w.heap.size + 1 + 1, 10, none⟩) (lt2)).trans d10
  have df : ∀ j, w2.frozen? ⟨w.heap.size + 1 + 1, j, none⟩ = false := fun j => (q2.frozen (p := ⟨w.heap.size + 1 + 1, j, none⟩) (lt2)).trans (df j)
  have k0 := (q2.cell (p := ⟨w.heap.size + 1, 0, none⟩) (by show w.heap.size + 1 < w1.heap.size; omega)).trans k0
  have k1 := (q2.cell (p := ⟨w.heap.size + 1, 1, none⟩) (by show w.heap.size + 1 < w1.heap.size; omega)).trans k1
  have k2 := (q2.cell (p := ⟨w.heap.size + 1, 2, none⟩) (by show w.heap.size + 1 < w1.heap.size; omega)).trans k2
  have o0 := (q2.cell (p := ⟨w.heap.size, 0, none⟩) (by show w.heap.size < w1.heap.size; omega)).trans o0
  have o1 := (q2.cell (p := ⟨w.heap.size, 1, none⟩) (by show w.heap.size < w1.heap.size; omega)).trans o1
  have o2 := (q2.cell (p := ⟨w.heap.size, 2, none⟩) (by show w.heap.size < w1.heap.size; omega)).trans o2
  have o3 := (q2.cell (p := ⟨w.heap.size, 3, none⟩) (by show w.heap.size < w1.heap.size; omega)).trans o3
  have bw2 := bw.trans (q2.mono bw.size)
  have hs2 := q2.size
  clear q2
  cases gt
  · have HN : Hid (¬ WinOk n X t q) := fun hh => by have := hh.1; rw [HT.out] at this; cases this
    clear HT
    go_wp2
    refine bodyPost_ret (v := .tuple #[.agg #[.string ⟨#[]⟩, .slice none 0 0, .int .i64 0, .int .i64 0, .int .i64 0, .int .i64 0, .int .i64 0, .slice none 0 0, .bool false, .int .i64 0, .bool false], .bool false]) (by simp [results, Try.results7, go_sem, d0, d1, d2, d3, d4, d5, d6, d7, d8, d9, d10]) rfl ⟨fun hh => absurd hh HN.out, fun _ => ⟨none, none, 0, 0, rfl, ⟨Nat.le_refl _, fun h => absurd h (Nat.lt_irrefl 0), fun h => absurd h (Nat.lt_irrefl 0)⟩, ?_⟩⟩
    repeat' refine Below.setCell ?_ (by first | (simp; done) | (simp; omega)) _
    exact bw2
  have hgX' : Hid (∀ i, i < n → gK (X i) = true) := fun i hi => (hG.out.wins.each i hi).key
  go_wp2_with fail
  refine (l11At_any z h mk ao b n cap d q X t _ (hr.keep bw2) hn hgX' HT (rt.keep bw2) hP).mono ?_
  rintro e w3 ⟨b1, rfl, h1, q3⟩
  have lt3 : w.heap.size + 1 + 1 < w2.heap.size := by omega
  have d0 := (q3.cell (p := ⟨w.heap.size + 1 + 1, 0, none⟩) (lt3)).trans d0
  have d1 := (q3.cell (p := ⟨w.heap.size + 1 + 1, 1, none⟩) (lt3)).trans d1
  have d2 := (q3.cell (p := ⟨w.heap.size + 1 + 1, 2, none⟩) (lt3)).trans d2
  have d3 := (q3.cell (p := ⟨w.heap.size + 1 + 1, 3, none⟩) (lt3)).trans d3
  have d4 := (q3.cell (p := ⟨w.heap.size + 1 + 1, 4, none⟩) (lt3)).trans d4
  have d5 := (q3.cell (p := ⟨w.heap.size + 1 + 1, 5, none⟩) (lt3)).trans d5
  have d6 := (q3.cell (p := ⟨w.heap.size + 1 + 1, 6, none⟩) (lt3)).trans d6
  have d7 := (q3.cell (p := ⟨w.heap.size + 1 + 1, 7, none⟩) (lt3)).trans d7
  have d8 := (q3.cell (p := ⟨w.heap.size + 1 + 1, 8, none⟩) (lt3)).trans d8
  have d9 := (q3.cell (p := ⟨w.heap.size + 1 + 1, 9, none⟩) (lt3)).trans d9
  have d10 := (q3.cell (p := ⟨w.heap.size + 1 + 1, 10, none⟩) (lt3)).trans d10
  have df : ∀ j, w3.frozen? ⟨w.heap.size + 1 + 1, j, none⟩ = false := fun j => (q3.frozen (p := ⟨w.heap.size + 1 + 1, j, none⟩) (lt3)).trans (df j)
  have o0 := (q3.cell (p := ⟨w.heap.size, 0, none⟩) (by show w.heap.size < w2.heap.size; omega)).trans o0
  have o1 := (q3.cell (p := ⟨w.heap.size, 1, none⟩) (by show w.heap.size < w2.heap.size; omega)).trans o1
  have o2 := (q3.cell (p := ⟨w.heap.size, 2, none⟩) (by show w.heap.size < w2.heap.size; omega)).trans o2
  have o3 := (q3.cell (p := ⟨w.heap.size, 3, none⟩) (by show w.heap.size < w2.heap.size; omega)).trans o3
  have bw3 := bw2.trans (q3.mono bw2.size)
  have hs3 := q3.size
  clear q3 k0 k1 k2
  cases b1
  · have HN : Hid (¬ WinOk n X t q) := fun hh => by have := h1.2 ⟨hh.2.1, hh.2.2⟩; cases this
    clear h1
    go_wp2
    refine bodyPost_ret (v := .tuple #[.agg #[.string ⟨#[]⟩, .slice none 0 0, .int .i64 0, .int .i64 0, .int .i64 0, .int .i64 0, .int .i64 0, .slice none 0 0, .bool false, .int .i64 0, .bool false], .bool false]) (by simp [results, Try.results7, go_sem, d0, d1, d2, d3, d4, d5, d6, d7, d8, d9, d10]) rfl ⟨fun hh => absurd hh HN.out, fun _ => ⟨none, none, 0, 0, rfl, ⟨Nat.le_refl _, fun h => absurd h (Nat.lt_irrefl 0), fun h => absurd h (Nat.lt_irrefl 0)⟩, ?_⟩⟩
    repeat' refine Below.setCell ?_ (by first | (simp; done) | (simp; omega)) _
    exact bw3
  have HY : Hid (WinOk n X t q) := ⟨HT.out, (h1.1 rfl).1, (h1.1 rfl).2⟩
  clear h1
  go_wp2_with fail
  refine (l11Own_any z h mk ao n cap X _ (hr.keep bw3) hn hz).mono ?_
  rintro e w4 ⟨v, V, rfl, hO, q4⟩
  have hA := ba_of hO hr.fb
  obtain ⟨g, vc, a0, a1, c0, c1, rfl, hgt, eg, WAw⟩ := hA.win HY.out.2.1
  have lt4 : w.heap.size + 1 + 1 < w3.heap.size := by omega
  have d0 := (q4.cell (p := ⟨w.heap.size + 1 + 1, 0, none⟩) (lt4)).trans d0
  have d1 := (q4.cell (p := ⟨w.heap.size + 1 + 1, 1, none⟩) (lt4)).trans d1
  have d2 := (q4.cell (p := ⟨w.heap.size + 1 + 1, 2, none⟩) (lt4)).trans d2
  have d3 := (q4.cell (p := ⟨w.heap.size + 1 + 1, 3, none⟩) (lt4)).trans d3
  have d4 := (q4.cell (p := ⟨w.heap.size + 1 + 1, 4, none⟩) (lt4)).trans d4
  have d5 := (q4.cell (p := ⟨w.heap.size + 1 + 1, 5, none⟩) (lt4)).trans d5
  have d6 := (q4.cell (p := ⟨w.heap.size + 1 + 1, 6, none⟩) (lt4)).trans d6
  have d7 := (q4.cell (p := ⟨w.heap.size + 1 + 1, 7, none⟩) (lt4)).trans d7
  have d8 := (q4.cell (p := ⟨w.heap.size + 1 + 1, 8, none⟩) (lt4)).trans d8
  have d9 := (q4.cell (p := ⟨w.heap.size + 1 + 1, 9, none⟩) (lt4)).trans d9
  have d10 := (q4.cell (p := ⟨w.heap.size + 1 + 1, 10, none⟩) (lt4)).trans d10
  have df : ∀ j, w4.frozen? ⟨w.heap.size + 1 + 1, j, none⟩ = false := fun j => (q4.frozen (p := ⟨w.heap.size + 1 + 1, j, none⟩) (lt4)).trans (df j)
  have bw4 : Below w.heap.size w w4 := bw3.trans (q4.mono (by omega))
  have hs4 := q4.size
  have hq0 : (0 : Int) ≤ (q : Int) := by omega
  have hq1 : (q : Int) < (n : Int) := by have := HY.out.2.1; omega
  obtain ⟨_, x0, x1, x2, x3, x4, x5, x6, x7, x8, x9, x10⟩ := id eg
  have fw := field_wins z h mk (some ⟨g, 0, none⟩) n vc w4
  clear q4 hA hO
  go_wp2
  refine bodyPost_ret (v := .tuple #[.agg #[.string (X q).m, .slice a0 (X q).tn c0, .int .i64 (X q).st, .int .i64 (X q).c, .int .i64 (X q).s, .int .i64 (X q).lo, .int .i64 (X q).hi, .slice a1 (X q).n c1, .bool (X q).fu, .int .i64 (X q).ver, .bool (X q).di], .bool true]) (by simp [results, Try.results7, go_sem, d0, d1, d2, d3, d4, d5, d6, d7, d8, d9, d10]) rfl ⟨fun _ => ⟨a0, a1, c0, c1, rfl, ?_, ?_⟩, fun hh => absurd HY.out hh⟩
  · refine WA.mono (WAw.same (by simp) (fun c h1 h2 => ?_)) (by omega) (by simp; try omega) (Nat.le_refl _)
    repeat rw [set_blk _ _ _ _ _ (by omega)]
  · repeat' refine Below.setCell ?_ (by first | (simp; done) | (simp; omega)) _
    exact bw4
end Go.Proofs.Ytpggmgmdcccmeaa
namespace Go.Proofs.Ytpggmgmdcccmeaa
open Go.RowKit
set_option linter.unusedSimpArgs false
set_option linter.unusedVariables false

/-- A window with its marks. -/
def WMk (w : World) (base top : Nat) (x : Wn) (a0 a1 : Option Addr) : Prop := ∃ fy, WA w base top ((x.wl_T (mtN 1) (mtV 1)).wl_N fy) a0 a1 ∧ ∀ i, i < x.n → fy i = (1 + 2 * (x.tn : Int)) + i

theorem WMk.keep {w w' : World} {base top : Nat} {x : Wn} {a0 a1 : Option Addr} (h : WMk w base top x a0 a1) (hb : Below w.heap.size w w') : WMk w' base top x a0 a1 := by
  obtain ⟨fy, h1, h2⟩ := h
  exact ⟨fy, h1.keep hb, h2⟩
theorem WMk.rows {w : World} {base top : Nat} {x : Wn} {a0 a1 : Option Addr} (h : WMk w base top x a0 a1) : TRow w a0 x.tn (mtN 1) (mtV 1) ∧ ∃ fy, (0 < x.n → IRow w a1 x.n fy) ∧ ∀ i, i < x.n → fy i = (1 + 2 * (x.tn : Int)) + i := by
  obtain ⟨fy, h1, h2⟩ := h
  refine ⟨?_, fy, fun hp => ?_, h2⟩
  · by_cases hp : 0 < x.tn
    · obtain ⟨g, e, _, _, o, _⟩ := h1.l0 hp
      rw [e]; exact TOwn.row o
    · exact ⟨.inl (by omega)⟩
  · obtain ⟨g, e, _, _, o⟩ := h1.l1 hp
    rw [e]; exact IOwn.row o

end Go.Proofs.Ytpggmgmdcccmeaa
namespace Go.Proofs.Ytpggmgmdcccmeaa
open Go.RowKit
set_option linter.unusedSimpArgs false
set_option linter.unusedVariables false

theorem wo_out (z h mk : Int) (n : Nat) (X : Nat → Wn) (t : Wn) : ∃ (x : Wn) (ok : Bool), (x = wn0 ∨ ∃ q, q < n ∧ x = X q) ∧
    (∀ (ao b : Option Addr) (cap d : Nat) (w : World), WiRow w ao n X → n ≤ 1048576 → WiSize n X → TRow w b t.tn t.nm t.vl → t.m.size ≤ 1048576 → t.tn ≤ 1048576 → TSize t.tn t.nm t.vl 1048576 → Calls Try.prog 7 #[.agg #[.int .i64 z, .int .i64 h, .int .i64 mk, .slice ao n cap], .agg #[.string t.m, .slice b t.tn d, .int .i64 t.st]] w fun e w' => WAns x ok w e w') ∧
    (∀ (ao b : Option Addr) (cap d : Nat) (w : World), WiRow w ao n X → n ≤ 1048576 → WiSize n X → TRow w b t.tn t.nm t.vl → t.m.size ≤ 1048576 → t.tn ≤ 1048576 → TSize t.tn t.nm t.vl 1048576 → Calls Try.prog 13 #[.agg #[.int .i64 z, .int .i64 h, .int .i64 mk, .slice ao n cap], .agg #[.string t.m, .slice b t.tn d, .int .i64 t.st]] w fun e w' => WAns x ok w e w') := by
  by_cases hG : GBd z h mk n X
  · obtain ⟨q, hq⟩ := posK_ex X t n
    by_cases hk : WinOk n X t q
    · exact ⟨X q, true, .inr ⟨q, hk.2.1, rfl⟩, fun ao b cap d w hr hn hz rt h1 h2 h3 => (winOf_spec_good z h mk ao b n cap d q X t w hr hn hz hG rt h1 h2 h3 hq).mono (fun _ _ hh => hh.1 hk), fun ao b cap d w hr hn hz rt h1 h2 h3 => (winOf_impl_good z h mk ao b n cap d q X t w hr hn hz hG rt h1 h2 h3 hq).mono (fun _ _ hh => hh.1 hk)⟩
    · exact ⟨wn0, false, .inl rfl, fun ao b cap d w hr hn hz rt h1 h2 h3 => (winOf_spec_good z h mk ao b n cap d q X t w hr hn hz hG rt h1 h2 h3 hq).mono (fun _ _ hh => hh.2 hk), fun ao b cap d w hr hn hz rt h1 h2 h3 => (winOf_impl_good z h mk ao b n cap d q X t w hr hn hz hG rt h1 h2 h3 hq).mono (fun _ _ hh => hh.2 hk)⟩
  · exact ⟨wn0, false, .inl rfl, fun ao b cap d w hr hn hz rt h1 h2 h3 => winOf_spec_bad z h mk ao b n cap d X t w hr hn hz hG, fun ao b cap d w hr hn hz rt h1 h2 h3 => winOf_impl_bad z h mk ao b n cap d X t w hr hn hz hG⟩
/-- The rows of an answer. -/
theorem WA.rows {w : World} {base top : Nat} {x : Wn} {a0 a1 : Option Addr} (h : WA w base top x a0 a1) (hf : ∀ i, -9223372036854775808 ≤ x.f i ∧ x.f i ≤ 9223372036854775807) : TRow w a0 x.tn x.nm x.vl ∧ IRow w a1 x.n x.f := by
  refine ⟨?_, ?_⟩
  · by_cases hp : 0 < x.tn
    · obtain ⟨g, e, _, _, o, _⟩ := h.l0 hp
      rw [e]; exact TOwn.row o
    · exact ⟨.inl (by omega)⟩
  · by_cases hp : 0 < x.n
    · obtain ⟨g, e, _, _, o⟩ := h.l1 hp
      rw [e]; exact IOwn.row o
    · exact ⟨hf, .inl (by omega)⟩
theorem WA.rng {w w' : World} {base top lo hi : Nat} {x : Wn} {a0 a1 : Option Addr} (h : WA w base top x a0 a1) (hr : Rng lo hi w w') (hd : top ≤ lo ∨ hi ≤ base) : WA w' base top x a0 a1 :=
  h.same hr.size (fun c h1 h2 => hr.block c (by have := h.tp; omega) (by omega))
end Go.Proofs.Ytpggmgmdcccmeaa
