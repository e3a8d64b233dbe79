/- l2Insert, l2Create. -/
import Derived.Test.YtiojjihonmonkaaDoorInsR
namespace Go.Proofs.YtiojjihonmonkaaDoor
open Go.RowKit
set_option linter.unusedSimpArgs false
set_option linter.unusedVariables false

def InsOut (Q : Int) (m : Nat) (Fo : Nat → Fil) (fb base : Nat) (w : World) (e : Ending) (w' : World) : Prop :=
  ∃ p' c', e = .returned (.tuple #[]) ∧ QAt w' fb Q (.slice p' m c') ∧ SRow w' base (.slice p' m c') m Fo ∧ w.heap.size ≤ w'.heap.size ∧ Below fb w w' ∧ ∀ k, k ≠ fb → k < w.heap.size → w'.heap[k]? = w.heap[k]?

theorem FTis.keep {w w' : World} {base : Nat} {own : Option Nat} {x : FT} {y : Fil} (h : FTis w base own x y) (hb : Below w.heap.size w w') : FTis w' base own x y := h.to hb.size (fun b _ hlt _ => hb.block b hlt) (fun _ _ h => h)

set_option maxHeartbeats 4000000 in
theorem l2Insert_nil (Q : Int) (fb : Nat) (base : Nat) (F : Nat → Fil) (nm : ByteArray) (da : Option Addr) (dl dc : Nat) (sy : Int) (y : Fil) (w : World) (hq : QAt w fb Q (.slice none 0 0)) (hfb : fb < base) (hbs : base ≤ w.heap.size) (hr : SRow w base (.slice none 0 0) 0 F) (hx : FTis w base (Value.slice none 0 0).ownBlock (nm, (da, dl, dc), sy) y) (hff : ∀ j, w.frozen? ⟨fb, j, none⟩ = false) :
    Calls Tryd.prog 50 #[.pointer (some ⟨fb, 0, none⟩), .agg #[.string nm, .slice da dl dc, .int .i64 sy]] w fun e w' => InsOut Q 1 (insG F y 0) fb base w e w' := by
  have hA : Below w.heap.size w (w.alloc (.cells #[.string nm, .slice da dl dc, .int .i64 sy] 35)) := (Below.refl _ _).alloc (Nat.le_refl _) _
  go_enter Tryd.func50, Tryd.ntmps50
  go_wp2
  have hb0 : w.heap.size < (w.alloc (.cells #[.string nm, .slice da dl dc, .int .i64 sy] 35)).heap.size := by simp
  have hc0 : ∀ j u, #[Value.string nm, .slice da dl dc, .int .i64 sy][j]? = some u → (w.alloc (.cells #[.string nm, .slice da dl dc, .int .i64 sy] 35)).cell? ⟨w.heap.size, j, none⟩ = some u := fun j u hu => by
    match j, hu with
    | 0, hu => simp at hu; subst hu; simp [go_sem]
    | 1, hu => simp at hu; subst hu; simp [go_sem]
    | 2, hu => simp at hu; subst hu; simp [go_sem]
    | j + 3, hu => simp at hu
  generalize w.alloc (.cells #[.string nm, .slice da dl dc, .int .i64 sy] 35) = wb at hA hb0 hc0 ⊢
  go_loopw [4] (fun i wr => i = .int .i64 0 ∧ Below wb.heap.size wb wr) (fun i _ => 0)
  case atStart => exact ⟨rfl, Below.refl _ _⟩
  case round =>
    obtain ⟨rfl, hbk⟩ := hrel
    have X := (hq.keep hA).keep hbk
    obtain ⟨lx, x0, x1⟩ := id X
    go_wp2
    go_quiet (fail)
    have hbu := below_drewN hbk nq
    clear x0 x1 lx X
    generalize wr.drewN nq = u at hbu ⊢
    have hAu : Below w.heap.size w u := hA.trans (hbu.mono hA.size)
    have hfu : ∀ j, u.frozen? ⟨fb, j, none⟩ = false := fun j => (hAu.frozen (p := ⟨fb, j, none⟩) hq.lt).trans (hff j)
    have X := hq.keep hAu
    have cx0 := (hbu.cell (p := ⟨w.heap.size, 0, none⟩) hb0).trans (hc0 0 _ rfl)
    have cx1 := (hbu.cell (p := ⟨w.heap.size, 1, none⟩) hb0).trans (hc0 1 _ rfl)
    have cx2 := (hbu.cell (p := ⟨w.heap.size, 2, none⟩) hb0).trans (hc0 2 _ rfl)
    have lu : w.heap.size < u.heap.size := Nat.lt_of_lt_of_le hb0 hbu.size
    have R := ins_runs Q fb none 0 0 base F (nm, (da, dl, dc), sy) y 0 (Nat.le_refl _) none (.inl ⟨rfl, rfl, rfl, rfl⟩) u X hfb (Nat.le_trans hbs hAu.size) (hr.keep hAu) (hx.keep hAu) (by omega)
    simp only [Nat.zero_add, Nat.sub_self] at R
    obtain ⟨p1, c1, w1, p2, c2, w2, p3, c3, w3, hrun1, hrun2, hrun3, bl1, bl2, bl3, hq4, hS4, hsz4, hbel4, hoth4⟩ := R
    obtain ⟨lx, x0, x1⟩ := id X
    have d0 := (World.cell?_of_block (w := u) (a := ⟨w.heap.size, 0, none⟩) (bl1 _ lu)).trans cx0
    have d1 := (World.cell?_of_block (w := u) (a := ⟨w.heap.size, 1, none⟩) (bl1 _ lu)).trans cx1
    have d2 := (World.cell?_of_block (w := u) (a := ⟨w.heap.size, 2, none⟩) (bl1 _ lu)).trans cx2
    have e1 := (World.cell?_of_block (w := u) (a := ⟨fb, 1, none⟩) (bl2 fb lx)).trans x1
    have v1 := (World.cell?_of_block (w := u) (a := ⟨fb, 1, none⟩) (bl3 fb lx)).trans x1
    have vf : ∀ j, w3.frozen? ⟨fb, j, none⟩ = false := fun j => (World.frozen?_of_block (w := u) (a := ⟨fb, j, none⟩) (bl3 fb lx)).trans (hfu j)
    have hout : Hid (QAt (w3.setCell ⟨fb, 1, none⟩ (.slice p3 1 c3)) fb Q (.slice p3 1 c3) ∧ SRow (w3.setCell ⟨fb, 1, none⟩ (.slice p3 1 c3)) base (.slice p3 1 c3) 1 (insG F y 0) ∧ w.heap.size ≤ (w3.setCell ⟨fb, 1, none⟩ (.slice p3 1 c3)).heap.size ∧ Below fb w (w3.setCell ⟨fb, 1, none⟩ (.slice p3 1 c3)) ∧ ∀ k, k ≠ fb → k < w.heap.size → (w3.setCell ⟨fb, 1, none⟩ (.slice p3 1 c3)).heap[k]? = w.heap[k]?) :=
      ⟨hq4, hS4, Nat.le_trans hAu.size hsz4, (hAu.mono (Nat.le_of_lt hq.lt)).trans hbel4, fun k h1 h2 => (hoth4 k h1 (Nat.lt_of_lt_of_le h2 hAu.size)).trans (hAu.block k h2)⟩
    clear bl1 bl2 bl3 hq4 hS4 hsz4 hbel4 hoth4 cx0 cx1 cx2 hfu hbu hAu hA hbk hc0 hr hx hq hff x0 X hbs hb0
    have t1 : True := trivial
    have t2 : True := trivial
    go_wp2_with (first
      | (at_builtin; clear t1; refine wpList_append_run _ rfl (.tmp 28) (.tmp 34) 23 rfl (.slice none 0 0) (.slice none 0 0) (.slice p1 0 c1) rfl rfl w1 hrun1 ?_)
      | (at_builtin; clear t2; refine wpList_append_run _ rfl (.tmp 36) (.tmp 38) 23 rfl (.slice p1 0 c1) (.slice (some ⟨w1.heap.size, 0, none⟩) 1 1) (.slice p2 1 c2) rfl rfl w2 hrun2 ?_)
      | (at_builtin; refine wpList_append_run _ rfl (.tmp 41) (.tmp 47) 23 rfl (.slice p2 1 c2) (.slice none 0 0) (.slice p3 1 c3) rfl rfl w3 hrun3 ?_))
    refine bodyPost_ret (v := .tuple #[]) (by simp [results, Tryd.results50, go_sem]) rfl ?_
    obtain ⟨o1, o2, o3, o4, o5⟩ := hout.out
    exact ⟨p3, c3, rfl, o1, o2, o3, o4, o5⟩

set_option maxHeartbeats 8000000 in
theorem l2Insert_some (Q : Int) (fb g n c base : Nat) (F : Nat → Fil) (nm : ByteArray) (da : Option Addr) (dl dc : Nat) (sy : Int) (y : Fil) (k : Nat) (HR : Hid (Rank F n nm k)) (hk : k ≤ n) (w : World) (hq : QAt w fb Q (.slice (some ⟨g, 0, none⟩) n c)) (hfb : fb < base) (hbs : base ≤ w.heap.size) (hr : SRow w base (.slice (some ⟨g, 0, none⟩) n c) n F) (hx : FTis w base (Value.slice (some ⟨g, 0, none⟩) n c).ownBlock (nm, (da, dl, dc), sy) y) (hff : ∀ j, w.frozen? ⟨fb, j, none⟩ = false) (hn : n < 1048576) :
    Calls Tryd.prog 50 #[.pointer (some ⟨fb, 0, none⟩), .agg #[.string nm, .slice da dl dc, .int .i64 sy]] w fun e w' => InsOut Q (n + 1) (insG F y k) fb base w e w' := by
  have hA : Below w.heap.size w (w.alloc (.cells #[.string nm, .slice da dl dc, .int .i64 sy] 35)) := (Below.refl _ _).alloc (Nat.le_refl _) _
  have hnc : n ≤ c := by
    obtain ⟨xs, hxl, hown, hdat⟩ := id hr
    rcases hown.2 with ⟨e, _⟩ | ⟨g', cap, cur, e, _, _, h, _⟩
    · cases e
    · injection e with _ _ e3
      omega
  go_enter Tryd.func50, Tryd.ntmps50
  go_wp2
  have hb0 : w.heap.size < (w.alloc (.cells #[.string nm, .slice da dl dc, .int .i64 sy] 35)).heap.size := by simp
  have hc0 : ∀ j u, #[Value.string nm, .slice da dl dc, .int .i64 sy][j]? = some u → (w.alloc (.cells #[.string nm, .slice da dl dc, .int .i64 sy] 35)).cell? ⟨w.heap.size, j, none⟩ = some u := fun j u hu => by
    match j, hu with
    | 0, hu => simp at hu; subst hu; simp [go_sem]
    | 1, hu => simp at hu; subst hu; simp [go_sem]
    | 2, hu => simp at hu; subst hu; simp [go_sem]
    | j + 3, hu => simp at hu
  generalize w.alloc (.cells #[.string nm, .slice da dl dc, .int .i64 sy] 35) = wb at hA hb0 hc0 ⊢
  go_loopw [4] (fun i wr => ∃ j : Nat, j ≤ k ∧ i = .int .i64 j ∧ Below wb.heap.size wb wr) (fun i _ => n - (intOf i).toNat)
  case atStart => exact ⟨0, Nat.zero_le _, rfl, Below.refl _ _⟩
  case round =>
    obtain ⟨j, hj, rfl, hbk⟩ := hrel
    have hAk : Below w.heap.size w wr := hA.trans (hbk.mono hA.size)
    have X := hq.keep hAk
    obtain ⟨lx, x0, x1⟩ := id X
    have cx0 := (hbk.cell (p := ⟨w.heap.size, 0, none⟩) hb0).trans (hc0 0 _ rfl)
    have nmc : j < n → wr.cell? ⟨g, j * 3, none⟩ = some (.string (F j).nm) := fun hlt => by
      obtain ⟨g', e, hg1, hg2, _, hf⟩ := (hr.keep hAk).at (by omega)
      obtain rfl : g = g' := by injection e with e; injection e
      obtain ⟨da, dc, h, _⟩ := hf j hlt
      exact h.c0
    have js1 : (j : Int) ≤ 1048576 := by omega
    by_cases hlt : j < k
    · have hc := nmc (by omega)
      have hl := HR.out.lo j hlt
      have hjn : (j : Int) < n := by omega
      have hw1 : IntKind.i64.wrap ((j : Int) + 1) = (j : Int) + 1 := by rw [IntKind.wrap_i64] <;> omega
      clear nmc hr hx hc0 hAk X hff hq
      go_wp2
      go_quiet (fail)
      go_wp2
      go_roundw
      case rel => exact ⟨j + 1, by omega, by go_num, below_drewN hbk _⟩
      case measure => simp [intOf]; omega
    · have e : j = k := by omega
      subst e
      by_cases h2 : j < n
      · have hc := nmc h2
        have hjn : (j : Int) < n := by omega
        have hl : Op.bytesLess (F j).nm.toList nm.toList = false := by
          cases h : Op.bytesLess (F j).nm.toList nm.toList with
          | false => rfl
          | true =>
            have := bl_trans _ _ _ h (HR.out.hi j (Nat.le_refl _) h2)
            rw [bl_self] at this
            exact absurd this (by decide)
        go_wp2
        go_quiet (fail)
        clear hc hl hjn
        have hbu := below_drewN hbk nq
        clear x0 x1 lx X cx0 nmc js1 hAk
        generalize wr.drewN nq = u at hbu ⊢
        clear hbk
        have hAu : Below w.heap.size w u := hA.trans (hbu.mono hA.size)
        have hfu : ∀ j, u.frozen? ⟨fb, j, none⟩ = false := fun j => (hAu.frozen (p := ⟨fb, j, none⟩) hq.lt).trans (hff j)
        have X := hq.keep hAu
        have cx0 := (hbu.cell (p := ⟨w.heap.size, 0, none⟩) hb0).trans (hc0 0 _ rfl)
        have cx1 := (hbu.cell (p := ⟨w.heap.size, 1, none⟩) hb0).trans (hc0 1 _ rfl)
        have cx2 := (hbu.cell (p := ⟨w.heap.size, 2, none⟩) hb0).trans (hc0 2 _ rfl)
        have lu : w.heap.size < u.heap.size := Nat.lt_of_lt_of_le hb0 hbu.size
        obtain ⟨p1, c1, w1, p2, c2, w2, p3, c3, w3, hrun1, hrun2, hrun3, bl1, bl2, bl3, hq4, hS4, hsz4, hbel4, hoth4⟩ := ins_runs Q fb (some ⟨g, 0, none⟩) n c base F (nm, (da, dl, dc), sy) y j hk (some ⟨g, j * 3, none⟩) (.inr ⟨g, rfl, hnc, .inr rfl⟩) u X hfb (Nat.le_trans hbs hAu.size) (hr.keep hAu) (hx.keep hAu) (by omega)
        obtain ⟨lx, x0, x1⟩ := id X
        have d0 := (World.cell?_of_block (w := u) (a := ⟨w.heap.size, 0, none⟩) (bl1 _ lu)).trans cx0
        have d1 := (World.cell?_of_block (w := u) (a := ⟨w.heap.size, 1, none⟩) (bl1 _ lu)).trans cx1
        have d2 := (World.cell?_of_block (w := u) (a := ⟨w.heap.size, 2, none⟩) (bl1 _ lu)).trans cx2
        have e1 := (World.cell?_of_block (w := u) (a := ⟨fb, 1, none⟩) (bl2 fb lx)).trans x1
        have v1 := (World.cell?_of_block (w := u) (a := ⟨fb, 1, none⟩) (bl3 fb lx)).trans x1
        have vf : ∀ j, w3.frozen? ⟨fb, j, none⟩ = false := fun j => (World.frozen?_of_block (w := u) (a := ⟨fb, j, none⟩) (bl3 fb lx)).trans (hfu j)
        have hout : Hid (QAt (w3.setCell ⟨fb, 1, none⟩ (.slice p3 (n + 1) c3)) fb Q (.slice p3 (n + 1) c3) ∧ SRow (w3.setCell ⟨fb, 1, none⟩ (.slice p3 (n + 1) c3)) base (.slice p3 (n + 1) c3) (n + 1) (insG F y j) ∧ w.heap.size ≤ (w3.setCell ⟨fb, 1, none⟩ (.slice p3 (n + 1) c3)).heap.size ∧ Below fb w (w3.setCell ⟨fb, 1, none⟩ (.slice p3 (n + 1) c3)) ∧ ∀ k, k ≠ fb → k < w.heap.size → (w3.setCell ⟨fb, 1, none⟩ (.slice p3 (n + 1) c3)).heap[k]? = w.heap[k]?) :=
          ⟨hq4, hS4, Nat.le_trans hAu.size hsz4, (hAu.mono (Nat.le_of_lt hq.lt)).trans hbel4, fun k h1 h2 => (hoth4 k h1 (Nat.lt_of_lt_of_le h2 hAu.size)).trans (hAu.block k h2)⟩
        have j1 : (0 : Int) ≤ j := by omega
        have j2 : (j : Int) ≤ n := by omega
        have j3 : (j : Int) ≤ c := by omega
        have j5 : (n : Int) ≤ c := by omega
        clear bl1 bl2 bl3 hq4 hS4 hsz4 hbel4 hoth4 cx0 cx1 cx2 hfu hbu hAu hA hc0 hr hx hq hff x0 X hbs hb0
        have t1 : True := trivial
        have t2 : True := trivial
        go_wp2_with (first
          | (at_builtin; clear t1; refine wpList_append_run _ rfl (.tmp 28) (.tmp 34) 23 rfl (.slice none 0 0) (.slice (some ⟨g, 0, none⟩) j c) (.slice p1 j c1) rfl rfl w1 hrun1 ?_)
          | (at_builtin; clear t2; refine wpList_append_run _ rfl (.tmp 36) (.tmp 38) 23 rfl (.slice p1 j c1) (.slice (some ⟨w1.heap.size, 0, none⟩) 1 1) (.slice p2 (j + 1) c2) rfl rfl w2 hrun2 ?_)
          | (at_builtin; refine wpList_append_run _ rfl (.tmp 41) (.tmp 47) 23 rfl (.slice p2 (j + 1) c2) (.slice (some ⟨g, j * 3, none⟩) (n - j) (c - j)) (.slice p3 (n + 1) c3) rfl rfl w3 hrun3 ?_))
        all_goals
          refine bodyPost_ret (v := .tuple #[]) (by simp [results, Tryd.results50, go_sem]) rfl ?_
          obtain ⟨o1, o2, o3, o4, o5⟩ := hout.out
          exact ⟨p3, c3, rfl, o1, o2, o3, o4, o5⟩
      · have hjn : ¬ (j : Int) < n := by omega
        go_wp2
        go_quiet (fail)
        clear hjn
        have hbu := below_drewN hbk nq
        clear x0 x1 lx X cx0 nmc js1 hAk
        generalize wr.drewN nq = u at hbu ⊢
        clear hbk
        have hAu : Below w.heap.size w u := hA.trans (hbu.mono hA.size)
        have hfu : ∀ j, u.frozen? ⟨fb, j, none⟩ = false := fun j => (hAu.frozen (p := ⟨fb, j, none⟩) hq.lt).trans (hff j)
        have X := hq.keep hAu
        have cx0 := (hbu.cell (p := ⟨w.heap.size, 0, none⟩) hb0).trans (hc0 0 _ rfl)
        have cx1 := (hbu.cell (p := ⟨w.heap.size, 1, none⟩) hb0).trans (hc0 1 _ rfl)
        have cx2 := (hbu.cell (p := ⟨w.heap.size, 2, none⟩) hb0).trans (hc0 2 _ rfl)
        have lu : w.heap.size < u.heap.size := Nat.lt_of_lt_of_le hb0 hbu.size
        obtain ⟨p1, c1, w1, p2, c2, w2, p3, c3, w3, hrun1, hrun2, hrun3, bl1, bl2, bl3, hq4, hS4, hsz4, hbel4, hoth4⟩ := ins_runs Q fb (some ⟨g, 0, none⟩) n c base F (nm, (da, dl, dc), sy) y j hk (if c = j then some ⟨g, 0, none⟩ else some ⟨g, j * 3, none⟩) (.inr ⟨g, rfl, hnc, (Decidable.em (c = j)).elim (fun h => .inl ⟨h, if_pos h⟩) (fun h => .inr (if_neg h))⟩) u X hfb (Nat.le_trans hbs hAu.size) (hr.keep hAu) (hx.keep hAu) (by omega)
        obtain ⟨lx, x0, x1⟩ := id X
        have d0 := (World.cell?_of_block (w := u) (a := ⟨w.heap.size, 0, none⟩) (bl1 _ lu)).trans cx0
        have d1 := (World.cell?_of_block (w := u) (a := ⟨w.heap.size, 1, none⟩) (bl1 _ lu)).trans cx1
        have d2 := (World.cell?_of_block (w := u) (a := ⟨w.heap.size, 2, none⟩) (bl1 _ lu)).trans cx2
        have e1 := (World.cell?_of_block (w := u) (a := ⟨fb, 1, none⟩) (bl2 fb lx)).trans x1
        have v1 := (World.cell?_of_block (w := u) (a := ⟨fb, 1, none⟩) (bl3 fb lx)).trans x1
        have vf : ∀ j, w3.frozen? ⟨fb, j, none⟩ = false := fun j => (World.frozen?_of_block (w := u) (a := ⟨fb, j, none⟩) (bl3 fb lx)).trans (hfu j)
        have hout : Hid (QAt (w3.setCell ⟨fb, 1, none⟩ (.slice p3 (n + 1) c3)) fb Q (.slice p3 (n + 1) c3) ∧ SRow (w3.setCell ⟨fb, 1, none⟩ (.slice p3 (n + 1) c3)) base (.slice p3 (n + 1) c3) (n + 1) (insG F y j) ∧ w.heap.size ≤ (w3.setCell ⟨fb, 1, none⟩ (.slice p3 (n + 1) c3)).heap.size ∧ Below fb w (w3.setCell ⟨fb, 1, none⟩ (.slice p3 (n + 1) c3)) ∧ ∀ k, k ≠ fb → k < w.heap.size → (w3.setCell ⟨fb, 1, none⟩ (.slice p3 (n + 1) c3)).heap[k]? = w.heap[k]?) :=
          ⟨hq4, hS4, Nat.le_trans hAu.size hsz4, (hAu.mono (Nat.le_of_lt hq.lt)).trans hbel4, fun k h1 h2 => (hoth4 k h1 (Nat.lt_of_lt_of_le h2 hAu.size)).trans (hAu.block k h2)⟩
        have j1 : (0 : Int) ≤ j := by omega
        have j2 : (j : Int) ≤ n := by omega
        have j3 : (j : Int) ≤ c := by omega
        have j5 : (n : Int) ≤ c := by omega
        clear bl1 bl2 bl3 hq4 hS4 hsz4 hbel4 hoth4 cx0 cx1 cx2 hfu hbu hAu hA hc0 hr hx hq hff x0 X hbs hb0
        have t1 : True := trivial
        have t2 : True := trivial
        go_wp2_with (first
          | (at_builtin; clear t1; refine wpList_append_run _ rfl (.tmp 28) (.tmp 34) 23 rfl (.slice none 0 0) (.slice (some ⟨g, 0, none⟩) j c) (.slice p1 j c1) rfl rfl w1 hrun1 ?_)
          | (at_builtin; clear t2; refine wpList_append_run _ rfl (.tmp 36) (.tmp 38) 23 rfl (.slice p1 j c1) (.slice (some ⟨w1.heap.size, 0, none⟩) 1 1) (.slice p2 (j + 1) c2) rfl rfl w2 hrun2 ?_)
          | (at_builtin; refine wpList_append_run _ rfl (.tmp 41) (.tmp 47) 23 rfl (.slice p2 (j + 1) c2) (.slice (if c = j then some ⟨g, 0, none⟩ else some ⟨g, j * 3, none⟩) (n - j) (c - j)) (.slice p3 (n + 1) c3) rfl rfl w3 hrun3 ?_))
        all_goals
          refine bodyPost_ret (v := .tuple #[]) (by simp [results, Tryd.results50, go_sem]) rfl ?_
          obtain ⟨o1, o2, o3, o4, o5⟩ := hout.out
          exact ⟨p3, c3, rfl, o1, o2, o3, o4, o5⟩
end Go.Proofs.YtiojjihonmonkaaDoor
