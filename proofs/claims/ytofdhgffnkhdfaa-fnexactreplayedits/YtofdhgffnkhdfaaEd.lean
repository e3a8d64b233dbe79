/- Edits: measured, copied, compared, marked, held. -/
import Derived.Test.YtofdhgffnkhdfaaDt
import Derived.Test.YtofdhgffnkhdfaaFo
namespace Go.Proofs.Ytofdhgffnkhdfaa
open Go.RowKit
set_option linter.unusedSimpArgs false
set_option linter.unusedVariables false

/-- An edit in a box. -/
structure EX (w : World) (b : Nat) (nx lg sq : Int) (dv av : Value) : Prop where
  lt : b < w.heap.size
  c0 : w.cell? ⟨b, 0, none⟩ = some (.int .i64 nx)
  c1 : w.cell? ⟨b, 1, none⟩ = some (.int .i64 lg)
  c2 : w.cell? ⟨b, 2, none⟩ = some (.int .i64 sq)
  c3 : w.cell? ⟨b, 3, none⟩ = some dv
  c4 : w.cell? ⟨b, 4, none⟩ = some av
theorem EX.same {w w' : World} {b : Nat} {nx lg sq : Int} {dv av : Value} (h : EX w b nx lg sq dv av) (hs : w.heap.size ≤ w'.heap.size) (hb : w'.heap[b]? = w.heap[b]?) : EX w' b nx lg sq dv av :=
  have c := fun j => World.cell?_of_block (w := w) (w' := w') (a := ⟨b, j, none⟩) hb
  ⟨Nat.lt_of_lt_of_le h.lt hs, (c 0).trans h.c0, (c 1).trans h.c1, (c 2).trans h.c2, (c 3).trans h.c3, (c 4).trans h.c4⟩
theorem EX.keep {w w' : World} {b : Nat} {nx lg sq : Int} {dv av : Value} (h : EX w b nx lg sq dv av) (hb : Below w.heap.size w w') : EX w' b nx lg sq dv av := h.same hb.size (hb.block b h.lt)
theorem EX.new (w : World) (nx lg sq : Int) (dv av : Value) (T : Nat) : EX (w.alloc (.cells #[.int .i64 nx, .int .i64 lg, .int .i64 sq, dv, av] T)) w.heap.size nx lg sq dv av := by
  refine ⟨by simp, ?_, ?_, ?_, ?_, ?_⟩ <;> simp [go_sem]

section
variable (nx lg sq : Int) (da : Option Addr) (nd cd : Nat) (f : Nat → Int) (aa : Option Addr) (na ca : Nat) (Y : Nat → Adm)
set_option maxHeartbeats 800000 in
theorem szEdit_ex (left : Int) (w : World) (hy : DRow w aa na Y) (hl : 0 ≤ left ∧ left ≤ 1048576) (hd : nd ≤ 9223372036854775807) (ha : na ≤ 9223372036854775807) :
    Calls Try.prog 13 #[.agg #[.int .i64 nx, .int .i64 lg, .int .i64 sq, .slice da nd cd, .slice aa na ca], .int .i64 left] w fun e w' => SzX left ((nd + na + dtot Y na : Nat) : Int) w e w' := by
  have bn0 := below_new w (.cells #[.int .i64 nx, .int .i64 lg, .int .i64 sq, .slice da nd cd, .slice aa na ca] 40)
  have A0 := EX.new w nx lg sq (.slice da nd cd) (.slice aa na ca) 40
  go_enter Try.func13, Try.ntmps13
  go_wp2_with fail
  refine (szIntS_ex da nd cd left _ hl hd).mono ?_
  rintro e w1 ⟨v, rfl, h1, h3, hb1⟩
  have A1 := A0.keep hb1
  have bw1 := bn0.trans (hb1.mono bn0.size)
  clear hb1 A0 bn0
  by_cases hv : v < 0
  · clear h3
    go_wp2
    go_ret
    exact ⟨-1, rfl, by omega, fun h => by omega, bw1⟩
  have h4 := h3 (by omega)
  have hv2 : v ≤ 1048576 := by omega
  have H4 : Hid (v = left - (nd : Int)) := h4
  clear h3 h4
  obtain ⟨_, x0, x1, x2, x3, x4⟩ := id A1
  go_wp2_with fail
  refine (szAddS_ex aa na ca Y v w1 (hy.keep bw1) (by omega) ha).mono ?_
  rintro e w2 ⟨u, rfl, g1, g3, hb2⟩
  have bw2 := bw1.trans (hb2.mono bw1.size)
  clear hb2 A1 x0 x1 x2 x3 x4
  by_cases hu : u < 0
  · clear g3
    go_wp2
    go_ret
    exact ⟨-1, rfl, by omega, fun h => by omega, bw2⟩
  have H5 : Hid (u = left - ((nd + na + dtot Y na : Nat) : Int)) := by have := g3 (by omega); have := H4.out; unfold Hid; omega
  clear g3
  go_wp2
  go_ret
  exact ⟨u, rfl, by omega, fun _ => H5.out, bw2⟩

/-- An edit whose lists lie in blocks from lo on and below hi, each in its own, and may be written. -/
structure EA (w : World) (lo hi : Nat) (da : Option Addr) (nd : Nat) (f : Nat → Int) (aa : Option Addr) (na : Nat) (Y : Nat → Adm) : Prop where
  top : hi ≤ w.heap.size
  bd : ∀ i, -9223372036854775808 ≤ f i ∧ f i ≤ 9223372036854775807
  dr : nd = 0 ∨ ∃ g, da = some ⟨g, 0, none⟩ ∧ lo ≤ g ∧ g < hi ∧ IOwn w g 0 nd f
  ad : na = 0 ∨ ∃ g, aa = some ⟨g, 0, none⟩ ∧ lo ≤ g ∧ g < hi ∧ DOwn w g na Y
  ne : 0 < nd → 0 < na → da ≠ aa
end
theorem IOwn.same {w w' : World} {g off n : Nat} {f : Nat → Int} (h : IOwn w g off n f) (hs : w.heap.size ≤ w'.heap.size) (hb : w'.heap[g]? = w.heap[g]?) : IOwn w' g off n f :=
  ⟨h.bd, Nat.lt_of_lt_of_le h.lt hs, fun i hi => (World.cell?_of_block (w := w) (a := ⟨g, off + i, none⟩) hb).trans (h.cell i hi), fun i hi => (World.frozen?_of_block (w := w) (a := ⟨g, off + i, none⟩) hb).trans (h.free i hi)⟩
section
variable {w w' : World} {lo hi lo' hi' nd na : Nat} {da aa : Option Addr} {f : Nat → Int} {Y : Nat → Adm}
theorem EA.same (h : EA w lo hi da nd f aa na Y) (hs : w.heap.size ≤ w'.heap.size) (hb : ∀ c, lo ≤ c → c < hi → w'.heap[c]? = w.heap[c]?) : EA w' lo hi da nd f aa na Y :=
  ⟨Nat.le_trans h.top hs, h.bd, h.dr.elim .inl fun ⟨g, e, h1, h2, h3⟩ => .inr ⟨g, e, h1, h2, h3.same hs (hb g h1 h2)⟩, h.ad.elim .inl fun ⟨g, e, h1, h2, h3⟩ => .inr ⟨g, e, h1, h2, h3.same hs (hb g h1 h2)⟩, h.ne⟩
theorem EA.keep (h : EA w lo hi da nd f aa na Y) (hb : Below w.heap.size w w') : EA w' lo hi da nd f aa na Y := h.same hb.size (fun c _ hc => hb.block c (Nat.lt_of_lt_of_le hc h.top))
theorem EA.mono (h : EA w lo hi da nd f aa na Y) (h1 : lo' ≤ lo) (h2 : hi ≤ hi') (h3 : hi' ≤ w.heap.size) : EA w lo' hi' da nd f aa na Y :=
  ⟨h3, h.bd, h.dr.elim .inl fun ⟨g, e, q1, q2, q3⟩ => .inr ⟨g, e, by omega, by omega, q3⟩, h.ad.elim .inl fun ⟨g, e, q1, q2, q3⟩ => .inr ⟨g, e, by omega, by omega, q3⟩, h.ne⟩
theorem EA.irow (h : EA w lo hi da nd f aa na Y) : IRow w da nd f := by
  rcases h.dr with h0 | ⟨g, e, _, _, h1⟩
  · exact ⟨h.bd, .inl h0⟩
  · rw [e]; exact h1.row
theorem EA.drow (h : EA w lo hi da nd f aa na Y) (hb : ∀ i, i < na → DB (Y i)) : DRow w aa na Y := by
  rcases h.ad with h0 | ⟨g, e, _, _, h1⟩
  · exact ⟨hb, .inl h0⟩
  · rw [e]; exact h1.row hb
end

section
variable (nx lg sq : Int) (da : Option Addr) (nd cd : Nat) (f : Nat → Int) (aa : Option Addr) (na ca : Nat) (Y : Nat → Adm)
set_option maxHeartbeats 1600000 in
theorem toEdit_any (w : World) (hr : IRow w da nd f) (hy : DRow w aa na Y) (hd : nd ≤ 1048576) (ha : na ≤ 1048576) :
    Calls Try.prog 15 #[.agg #[.int .i64 nx, .int .i64 lg, .int .i64 sq, .slice da nd cd, .slice aa na ca]] w
      fun e w' => ∃ g h, e = .returned (.agg #[.int .i64 nx, .int .i64 lg, .int .i64 sq, .slice (some ⟨g, 0, none⟩) nd nd, .slice (some ⟨h, 0, none⟩) na na]) ∧ EA w' w.heap.size w'.heap.size (some ⟨g, 0, none⟩) nd f (some ⟨h, 0, none⟩) na Y ∧ g < w'.heap.size ∧ Below w.heap.size w w' := by
  go_enter Try.func15, Try.ntmps15
  go_wp2_with fail
  refine (toIntS_any da nd cd f _ (hr.keep ?_) hd).mono ?_
  · repeat' refine Below.setCell ?_ (by first | (simp; done) | (simp; omega)) _
    exact (((Below.refl _ _).alloc (Nat.le_refl _) _).alloc (by simp) _).alloc (by simp; omega) _
  rintro e w1 ⟨rfl, hO, hb⟩
  have a0 := hb.cell (p := ⟨w.heap.size, 0, none⟩) (by simp; try omega)
  have a1 := hb.cell (p := ⟨w.heap.size, 1, none⟩) (by simp; try omega)
  have a2 := hb.cell (p := ⟨w.heap.size, 2, none⟩) (by simp; try omega)
  have a3 := hb.cell (p := ⟨w.heap.size, 3, none⟩) (by simp; try omega)
  have a4 := hb.cell (p := ⟨w.heap.size, 4, none⟩) (by simp; try omega)
  have b0 := hb.cell (p := ⟨w.heap.size + 1, 0, none⟩) (by simp; try omega)
  have b1 := hb.cell (p := ⟨w.heap.size + 1, 1, none⟩) (by simp; try omega)
  have b2 := hb.cell (p := ⟨w.heap.size + 1, 2, none⟩) (by simp; try omega)
  have b3 := hb.cell (p := ⟨w.heap.size + 1, 3, none⟩) (by simp; try omega)
  have b4 := hb.cell (p := ⟨w.heap.size + 1, 4, none⟩) (by simp; try omega)
  have bf : ∀ j, w1.frozen? ⟨w.heap.size + 1, j, none⟩ = false := fun j => (hb.frozen (p := ⟨w.heap.size + 1, j, none⟩) (by simp; try omega)).trans (by simp [go_sem])
  have k0 := hb.cell (p := ⟨w.heap.size + 1 + 1, 0, none⟩) (by simp; try omega)
  have k1 := hb.cell (p := ⟨w.heap.size + 1 + 1, 1, none⟩) (by simp; try omega)
  have k2 := hb.cell (p := ⟨w.heap.size + 1 + 1, 2, none⟩) (by simp; try omega)
  have k3 := hb.cell (p := ⟨w.heap.size + 1 + 1, 3, none⟩) (by simp; try omega)
  have k4 := hb.cell (p := ⟨w.heap.size + 1 + 1, 4, none⟩) (by simp; try omega)
  have kf : ∀ j, w1.frozen? ⟨w.heap.size + 1 + 1, j, none⟩ = false := fun j => (hb.frozen (p := ⟨w.heap.size + 1 + 1, j, none⟩) (by simp; try omega)).trans (by simp [go_sem])
  simp [go_sem] at a0 a1 a2 a3 a4 b0 b1 b2 b3 b4 k0 k1 k2 k3 k4
  have bw : Below w.heap.size w w1 := by
    refine Below.trans ?_ (hb.mono (by simp; omega))
    repeat' refine Below.setCell ?_ (by first | (simp; done) | (simp; omega)) _
    exact (((Below.refl _ _).alloc (Nat.le_refl _) _).alloc (by simp) _).alloc (by simp; omega) _
  have hs1 := hb.size
  simp at hs1 hO
  have hlt1 := hO.lt
  clear hb
  obtain ⟨w2, hw2⟩ : ∃ w2, w2 = w1.setCell ⟨w.heap.size + 1 + 1, 3, none⟩ (.slice (some ⟨w.heap.size + 1 + 1 + 1, 0, none⟩) nd nd) := ⟨_, rfl⟩
  have ot : Others (w.heap.size + 1 + 1) w1 w2 := by rw [hw2]; exact Others.setCell _ _ _ _
  have c0 : w2.cell? ⟨w.heap.size + 1 + 1, 0, none⟩ = some (.int .i64 nx) := by rw [hw2]; simp [go_sem, k0, k3]
  have c1 : w2.cell? ⟨w.heap.size + 1 + 1, 1, none⟩ = some (.int .i64 lg) := by rw [hw2]; simp [go_sem, k1, k3]
  have c2 : w2.cell? ⟨w.heap.size + 1 + 1, 2, none⟩ = some (.int .i64 sq) := by rw [hw2]; simp [go_sem, k2, k3]
  have c3 : w2.cell? ⟨w.heap.size + 1 + 1, 3, none⟩ = some (.slice (some ⟨w.heap.size + 1 + 1 + 1, 0, none⟩) nd nd) := by rw [hw2]; exact World.cell?_setCell_same _ _ _ k3
  have c4 : w2.cell? ⟨w.heap.size + 1 + 1, 4, none⟩ = some (.slice none 0 0) := by rw [hw2]; simp [go_sem, k4, k3]
  have cf : ∀ j, w2.frozen? ⟨w.heap.size + 1 + 1, j, none⟩ = false := fun j => by rw [hw2]; simpa using kf j
  have q := fun j => World.cell?_of_block (w := w1) (w' := w2) (a := ⟨w.heap.size + 1, j, none⟩) (ot.block (w.heap.size + 1) (by omega))
  have qf := fun j => World.frozen?_of_block (w := w1) (w' := w2) (a := ⟨w.heap.size + 1, j, none⟩) (ot.block (w.heap.size + 1) (by omega))
  have e0 := (q 0).trans b0
  have e1 := (q 1).trans b1
  have e2 := (q 2).trans b2
  have e3 := (q 3).trans b3
  have e4 := (q 4).trans b4
  have ef : ∀ j, w2.frozen? ⟨w.heap.size + 1, j, none⟩ = false := fun j => (qf j).trans (bf j)
  have bw2 : Below w.heap.size w w2 := by rw [hw2]; exact bw.setCell (by simp; omega) _
  have hO2 := hO.same (w' := w2) (by rw [ot.size]; exact Nat.le_refl _) (ot.block _ (by omega))
  have hs2 : w2.heap.size = w1.heap.size := ot.size
  go_wp2_with fail
  rw [← hw2]
  clear hw2 ot q qf b0 b1 b2 b3 b4 k0 k1 k2 k3 k4 bf kf a0 a1 a2 a3 hO bw
  refine (toAddS_any aa na ca Y w2 (hy.keep bw2) ha).mono ?_
  rintro e w3 ⟨rfl, hD, hb3⟩
  have l2 : w.heap.size + 1 + 1 < w2.heap.size := by omega
  have l1 : w.heap.size + 1 < w2.heap.size := by omega
  have c0 := (hb3.cell (p := ⟨w.heap.size + 1 + 1, 0, none⟩) l2).trans c0
  have c1 := (hb3.cell (p := ⟨w.heap.size + 1 + 1, 1, none⟩) l2).trans c1
  have c2 := (hb3.cell (p := ⟨w.heap.size + 1 + 1, 2, none⟩) l2).trans c2
  have c3 := (hb3.cell (p := ⟨w.heap.size + 1 + 1, 3, none⟩) l2).trans c3
  have c4 := (hb3.cell (p := ⟨w.heap.size + 1 + 1, 4, none⟩) l2).trans c4
  have cf : ∀ j, w3.frozen? ⟨w.heap.size + 1 + 1, j, none⟩ = false := fun j => (hb3.frozen (p := ⟨w.heap.size + 1 + 1, j, none⟩) l2).trans (cf j)
  have e0 := (hb3.cell (p := ⟨w.heap.size + 1, 0, none⟩) l1).trans e0
  have e1 := (hb3.cell (p := ⟨w.heap.size + 1, 1, none⟩) l1).trans e1
  have e2 := (hb3.cell (p := ⟨w.heap.size + 1, 2, none⟩) l1).trans e2
  have e3 := (hb3.cell (p := ⟨w.heap.size + 1, 3, none⟩) l1).trans e3
  have e4 := (hb3.cell (p := ⟨w.heap.size + 1, 4, none⟩) l1).trans e4
  have ef : ∀ j, w3.frozen? ⟨w.heap.size + 1, j, none⟩ = false := fun j => (hb3.frozen (p := ⟨w.heap.size + 1, j, none⟩) l1).trans (ef j)
  have bw3 := bw2.trans (hb3.mono bw2.size)
  have hO3 := hO2.keep hb3
  have hs3 := hb3.size
  have hl3 := hD.lt
  have HS : Hid (w2.heap.size = w1.heap.size) := hs2
  have hg2 : w.heap.size + 1 + 1 + 1 < w2.heap.size := hO2.lt
  clear hb3 hO2 bw2 hs2 hs1 hlt1
  go_wp2
  refine bodyPost_ret (v := .agg #[.int .i64 nx, .int .i64 lg, .int .i64 sq, .slice (some ⟨w.heap.size + 1 + 1 + 1, 0, none⟩) nd nd, .slice (some ⟨w2.heap.size, 0, none⟩) na na]) (by simp [results, Try.results15, go_sem, e0, e1, e2, e3, e4]) rfl ⟨w.heap.size + 1 + 1 + 1, w2.heap.size, rfl, ?_, by have := hO3.lt; simpa using this, ?_⟩
  · have hV2 : ∀ W, w3.heap.size = W.heap.size → (∀ c, w.heap.size + 1 + 1 + 1 ≤ c → W.heap[c]? = w3.heap[c]?) → EA W w.heap.size W.heap.size (some ⟨w.heap.size + 1 + 1 + 1, 0, none⟩) nd f (some ⟨w2.heap.size, 0, none⟩) na Y := fun W hs hc =>
      ⟨Nat.le_refl _, hr.bd, .inr ⟨_, rfl, by omega, by have := hO3.lt; omega, hO3.same (by omega) (hc _ (by omega))⟩, .inr ⟨_, rfl, by omega, by omega, hD.same (by omega) (hc _ (by omega))⟩, fun _ _ e => by injection e with e; injection e with e _ _; omega⟩
    refine hV2 _ (by simp) fun c hc => ?_
    repeat' refine (Below.heap_setCell _ _ _ _ (by first | omega | (dsimp only; omega))).trans ?_
    rfl
  · repeat' refine Below.setCell ?_ (by first | (simp; done) | (simp; omega)) _
    exact bw3
end

set_option maxHeartbeats 800000 in
theorem eqEdit_same (nx lg sq : Int) (da db : Option Addr) (nd cd ce : Nat) (f : Nat → Int) (aa ab : Option Addr) (na ca cb : Nat) (Y : Nat → Adm) (w : World) (hr : IRow w da nd f) (hs : IRow w db nd f) (hy : DRow w aa na Y) (hz : DRow w ab na Y) (hd : nd ≤ 1048576) (ha : na ≤ 1048576) :
    Calls Try.prog 19 #[.agg #[.int .i64 nx, .int .i64 lg, .int .i64 sq, .slice da nd cd, .slice aa na ca], .agg #[.int .i64 nx, .int .i64 lg, .int .i64 sq, .slice db nd ce, .slice ab na cb]] w fun e w' => e = .returned (.bool true) ∧ Below w.heap.size w w' := by
  have bn0 := below_new w (.cells #[.int .i64 nx, .int .i64 lg, .int .i64 sq, .slice da nd cd, .slice aa na ca] 45)
  have A0 := EX.new w nx lg sq (.slice da nd cd) (.slice aa na ca) 45
  go_enter Try.func19, Try.ntmps19
  go_wp2_with fail
  have hs0 : (w.alloc (.cells #[.int .i64 nx, .int .i64 lg, .int .i64 sq, .slice da nd cd, .slice aa na ca] 45)).heap.size = w.heap.size + 1 := by simp
  generalize w.alloc (.cells #[.int .i64 nx, .int .i64 lg, .int .i64 sq, .slice da nd cd, .slice aa na ca] 45) = w0 at *
  have bn1 := below_new w0 (.cells #[.int .i64 nx, .int .i64 lg, .int .i64 sq, .slice db nd ce, .slice ab na cb] 45)
  have B1 := EX.new w0 nx lg sq (.slice db nd ce) (.slice ab na cb) 45
  rw [hs0] at B1
  clear hs0
  have A1 := A0.keep bn1
  have bw1 := bn0.trans (bn1.mono bn0.size)
  clear bn1 A0 bn0
  generalize w0.alloc (.cells #[.int .i64 nx, .int .i64 lg, .int .i64 sq, .slice db nd ce, .slice ab na cb] 45) = w1 at *
  refine (eqIntS_same da db nd cd ce f w1 (hr.keep bw1) (hs.keep bw1) hd).mono ?_
  rintro e w2 ⟨rfl, hb2⟩
  have A2 := A1.keep hb2
  have B2 := B1.keep hb2
  have bw2 := bw1.trans (hb2.mono bw1.size)
  clear hb2 A1 B1
  obtain ⟨_, x0, x1, x2, x3, x4⟩ := id A2
  obtain ⟨_, y0, y1, y2, y3, y4⟩ := id B2
  go_wp2_with fail
  refine (eqAddS_same aa ab na ca cb Y w2 (hy.keep bw2) (hz.keep bw2) ha).mono ?_
  rintro e w3 ⟨rfl, hb3⟩
  have bw3 := bw2.trans (hb3.mono bw2.size)
  clear hb3
  go_wp2
  go_ret
  exact ⟨rfl, bw3⟩

set_option maxHeartbeats 400000 in
theorem markAddS_zero (ao : Option Addr) (cap : Nat) (q : Int) (w : World) :
    Calls Try.prog 21 #[.slice ao 0 cap, .int .i64 q] w fun e w' => e = .returned (.int .i64 q) ∧ w' = w := by
  go_enter Try.func21, Try.ntmps21
  go_wp2
  go_loopw [1, 5] (fun p i wr => i = .int .i64 0 ∧ p = .int .i64 q ∧ wr = w) (fun _ _ _ => 0)
  case atStart => exact ⟨rfl, rfl, rfl⟩
  case round =>
    obtain ⟨rfl, rfl, rfl⟩ := hrel
    go_wp2
    go_ret
    exact ⟨rfl, rfl⟩

/-- The ints that are marked from k on. -/
def mkI (k : Nat) (i : Nat) : Int := if i ≤ 4000000 then (k : Int) + i else 0
theorem EA.marks (w : World) (lo hi : Nat) (da : Option Addr) (nd cd : Nat) (f : Nat → Int) (aa : Option Addr) (na ca : Nat) (Y : Nat → Adm) (k0 : Nat) (h : EA w lo hi da nd f aa na Y) (hk : 1 ≤ k0 ∧ k0 ≤ 4000000) (hd : nd ≤ 1048576) (ha : na ≤ 1048576) :
    (Calls Try.prog 20 #[.slice da nd cd, .int .i64 k0] w fun e w' => e = .returned (.int .i64 ((k0 + nd : Nat) : Int)) ∧ EA w' lo hi da nd (mkI k0) aa na Y ∧ Rng lo hi w w') ∧
    (Calls Try.prog 21 #[.slice aa na ca, .int .i64 k0] w fun e w' => e = .returned (.int .i64 ((k0 + 5 * na : Nat) : Int)) ∧ EA w' lo hi da nd f aa na (fun i => mkD ((k0 + 5 * i : Nat) : Int)) ∧ Rng lo hi w w') := by
  have hbd : ∀ i, -9223372036854775808 ≤ mkI k0 i ∧ mkI k0 i ≤ 9223372036854775807 := fun i => by unfold mkI; split <;> omega
  constructor
  · by_cases hn : nd = 0
    · subst hn
      refine (markI_zero da cd (k0 : Int) w).mono ?_
      rintro e w' ⟨rfl, rfl⟩
      exact ⟨by simp, ⟨h.top, hbd, .inl rfl, h.ad, h.ne⟩, Rng.refl _ _ _⟩
    · obtain ⟨g, rfl, h1, h2, h3⟩ := h.dr.resolve_left hn
      refine (markI_any g 0 nd cd f k0 w h3 hd (by omega)).mono ?_
      rintro e w' ⟨rfl, ⟨fy, q1, q2⟩, q3⟩
      have hs : w.heap.size ≤ w'.heap.size := by rw [q3.size]; exact Nat.le_refl _
      refine ⟨rfl, ⟨Nat.le_trans h.top hs, hbd, .inr ⟨g, rfl, h1, h2, q1.congr hbd (fun i hi => by rw [q2 i hi]; unfold mkI; rw [if_pos (by omega)]; omega)⟩, ?_, h.ne⟩, Rng.of_only (Only.of_others q3) h1 h2⟩
      by_cases h0 : na = 0
      · exact .inl h0
      · obtain ⟨g2, e2, h5, h6, h7⟩ := h.ad.resolve_left h0
        exact .inr ⟨g2, e2, h5, h6, h7.same hs (q3.block g2 (fun e => h.ne (by omega) (by omega) (by rw [e2, e])))⟩
  · by_cases hn : na = 0
    · subst hn
      refine (markAddS_zero aa ca (k0 : Int) w).mono ?_
      rintro e w' ⟨rfl, rfl⟩
      exact ⟨by simp, ⟨h.top, h.bd, h.dr, .inl rfl, h.ne⟩, Rng.refl _ _ _⟩
    · obtain ⟨g, rfl, h1, h2, h3⟩ := h.ad.resolve_left hn
      refine (markAddS_any g na ca k0 Y w h3 (by omega) ha (by omega)).mono ?_
      rintro e w' ⟨rfl, q1, q3⟩
      refine ⟨rfl, ⟨Nat.le_trans h.top q3.size, h.bd, ?_, .inr ⟨g, rfl, h1, h2, q1⟩, h.ne⟩, Rng.of_only q3 h1 h2⟩
      by_cases h0 : nd = 0
      · exact .inl h0
      · obtain ⟨g2, e2, h5, h6, h7⟩ := h.dr.resolve_left h0
        exact .inr ⟨g2, e2, h5, h6, h7.same q3.size (q3.block g2 h7.lt (fun e => h.ne (by omega) (by omega) (by rw [e2, e])))⟩

end Go.Proofs.Ytofdhgffnkhdfaa
