/- l9Apply: the model applies an edit. -/
import Derived.Test.YtagkhohglpjjlaaCr9
import Derived.Deep.DeepCutAuto
namespace Go.Proofs.Ytagkhohglpjjlaa
open Go.RowKit
set_option linter.unusedSimpArgs false
set_option linter.unusedVariables false

theorem hmk3 : ∀ w : World, (Instr.makeSlice 23 (.int .i64 3) (.int .i64 3)).run Try.prog w = .ok (.slice (some ⟨w.heap.size, 0, none⟩) 3 3) (w.alloc (.cells #[.slice none 0 0, .slice none 0 0, .slice none 0 0] 71)) := fun w => by kernel_rfl
theorem lv_new (w : World) (T : Nat) : Lv (w.alloc (.cells #[.slice none 0 0, .slice none 0 0, .slice none 0 0] T)) w.heap.size w.heap.size 3 (fun _ => .slice none 0 0) (fun _ => []) := by
  refine ⟨by simp, Nat.le_refl _, fun i hi => ?_, fun i hi => ownM_nil _ _, fun i hi => by simp [Value.ownBlock], fun i j hi hj hij c hc => by simp [Value.ownBlock] at hc, fun j hj => by simp [go_sem]⟩
  rcases (show i = 0 ∨ i = 1 ∨ i = 2 by omega) with rfl | rfl | rfl <;> simp [go_sem]
/-- It applies, as the model asks. -/
def GoodA2 (vx vs : Int) (LL : Nat → List Met) (nx lg sq : Int) (D : List Int) (A : List Adm) : Prop :=
  vx ≤ nx ∧ vs ≤ sq ∧ OkD 3 LL D ∧ GoodVP nx lg sq 3 (fun i => mL (apL LL D A i)) (fun i => (apL LL D A i).length)
theorem Lv.same2 {w W : World} {base g N : Nat} {V : Nat → Value} {LL : Nat → List Met} (h : Lv w base g N V LL) (hs : w.heap.size ≤ W.heap.size) (hc : ∀ c, base ≤ c → c < w.heap.size → W.heap[c]? = w.heap[c]?) : Lv W base g N V LL := by
  refine ⟨Nat.lt_of_lt_of_le h.lt hs, h.bs, fun i hi => ?_, fun i hi => ⟨(h.own i hi).bd, (h.own i hi).own.1, ?_⟩, h.apart, h.dis, fun j hj => ?_⟩
  · exact (World.cell?_of_block (w := w) (a := ⟨g, i, none⟩) (hc g h.bs h.lt)).trans (h.cell i hi)
  · rcases (h.own i hi).own.2 with h1 | ⟨g', cap, cur, e, hb, hh, hr⟩
    · exact .inl h1
    · exact .inr ⟨g', cap, cur, e, hb, (hc g' hb (Array.getElem?_eq_some_iff.1 hh).1).trans hh, hr⟩
  · exact (World.frozen?_of_block (w := w) (a := ⟨g, j, none⟩) (hc g h.bs h.lt)).trans (h.free j hj)
theorem Lv.mono2 {w : World} {base base' g N : Nat} {V : Nat → Value} {LL : Nat → List Met} (h : Lv w base g N V LL) (hb : base' ≤ base) : Lv w base' g N V LL :=
  ⟨h.lt, Nat.le_trans hb h.bs, h.cell, fun i hi => ⟨(h.own i hi).bd, (h.own i hi).own.1, by
    rcases (h.own i hi).own.2 with h1 | ⟨g', cap, cur, e, hb', hr⟩
    · exact .inl h1
    · exact .inr ⟨g', cap, cur, e, Nat.le_trans hb hb', hr⟩⟩, h.apart, h.dis, h.free⟩
/-- Levels of the call's own. -/
def LvA (w : World) (base : Nat) (ao : Option Addr) (LL : Nat → List Met) : Prop := ∃ g V, ao = some ⟨g, 0, none⟩ ∧ Lv w base g 3 V LL
/-- What l9Apply leaves. -/
def LaO (vx vs : Int) (LL : Nat → List Met) (nx lg sq : Int) (D : List Int) (A : List Adm) (w : World) (e : Ending) (w' : World) : Prop :=
  (GoodA2 vx vs LL nx lg sq D A ∧ ∃ ao c, e = .returned (.tuple #[.agg #[.int .i64 nx, .int .i64 lg, .int .i64 sq, .slice ao 3 c], .bool true]) ∧ 3 ≤ c ∧ LvA w' w.heap.size ao (apL LL D A) ∧ Below w.heap.size w w') ∨
  (¬ GoodA2 vx vs LL nx lg sq D A ∧ ∃ a b c o n k, e = .returned (.tuple #[.agg #[.int .i64 a, .int .i64 b, .int .i64 c, .slice o n k], .bool false]) ∧ Below w.heap.size w w')

set_option maxRecDepth 100000 in
set_option maxHeartbeats 200000000 in
theorem l9Apply_any (vx vl vs : Int) (ao : Option Addr) (cap : Nat) (LL : Nat → List Met) (nx lg sq : Int) (da : Option Addr) (cd : Nat) (D : List Int) (aa : Option Addr) (ca : Nat) (A : List Adm) (w : World)
    (hv : VRow w ao 3 (fun i => mL (LL i)) (fun i => (LL i).length)) (hr : IRow w da D.length (fi D)) (hy : DRow w aa A.length (dL A)) (hG4 : GoodVP vx vl vs 3 (fun i => mL (LL i)) (fun i => (LL i).length)) (hG5 : GoodEd nx lg sq D.length (fi D) A.length (dL A)) (hcd : D.length ≤ cd) :
    Calls Try.prog 19 #[.agg #[.int .i64 vx, .int .i64 vl, .int .i64 vs, .slice ao 3 cap], .agg #[.int .i64 nx, .int .i64 lg, .int .i64 sq, .slice da D.length cd, .slice aa A.length ca]] w fun e w' => LaO vx vs LL nx lg sq D A w e w' := by
  have hlen : Hid (∀ i, i < 3 → (LL i).length ≤ 12) := hG4.few.2
  have hd24 : D.length ≤ 24 := hG5.2.2.2.1.1
  have ha24 : A.length ≤ 24 := hG5.2.2.2.2.1
  have HA24 : Hid (∀ i, i < A.length → ga (dL A i) = true) := hG5.2.2.2.2.2
  have HNX : Hid (fN nx = true) := hG5.1
  have HG4 : Hid (GoodVP vx vl vs 3 (fun i => mL (LL i)) (fun i => (LL i).length)) := hG4
  have HV : Hid (VRow w ao 3 (fun i => mL (LL i)) (fun i => (LL i).length)) := hv
  clear hG4 hG5 hv
  have hmk := hmk3
  have b1 := below_new w (.cells #[.int .i64 vx, .int .i64 vl, .int .i64 vs, .slice ao 3 cap] 25)
  have A1 := VX.new w vx vl vs ao 3 cap 25
  have s1 : (w.alloc (.cells #[.int .i64 vx, .int .i64 vl, .int .i64 vs, .slice ao 3 cap] 25)).heap.size = w.heap.size + 1 := by simp
  go_enter Try.func19, Try.ntmps19
  go_upto_region 1 with fail
  generalize w.alloc (.cells #[.int .i64 vx, .int .i64 vl, .int .i64 vs, .slice ao 3 cap] 25) = wa at *
  have b2 := below_new wa (.cells #[.int .i64 nx, .int .i64 lg, .int .i64 sq, .slice da D.length cd, .slice aa A.length ca] 29)
  have E2 := EX.new wa nx lg sq (.slice da D.length cd) (.slice aa A.length ca) 29
  have A2 := A1.keep b2
  have bw2 := b1.trans (b2.mono b1.size)
  have s2 : (wa.alloc (.cells #[.int .i64 nx, .int .i64 lg, .int .i64 sq, .slice da D.length cd, .slice aa A.length ca] 29)).heap.size = w.heap.size + 2 := by simp [s1]
  rw [s1] at E2
  clear A1 b1 b2
  generalize wa.alloc (.cells #[.int .i64 nx, .int .i64 lg, .int .i64 sq, .slice da D.length cd, .slice aa A.length ca] 29) = wb at *
  have b3 := below_new wb (.cells #[.int .i64 0, .int .i64 0, .int .i64 0, .slice none 0 0] 25)
  have Z3 := VZ.new wb 0 0 0 none 0 0 25
  have A3 := A2.keep b3
  have E3 := E2.keep b3
  have bw3 := bw2.trans (b3.mono bw2.size)
  have s3 : (wb.alloc (.cells #[.int .i64 0, .int .i64 0, .int .i64 0, .slice none 0 0] 25)).heap.size = w.heap.size + 3 := by simp [s2]
  rw [s2] at Z3
  clear A2 E2 b3 bw2 s1
  generalize wb.alloc (.cells #[.int .i64 0, .int .i64 0, .int .i64 0, .slice none 0 0] 25) = w3 at *
  clear s2
  obtain ⟨la, a0, a1, a2, a3⟩ := id A3
  obtain ⟨lx, x0, x1, x2, x3, x4⟩ := id E3
  by_cases hnx : nx < vx
  · have HN : Hid (¬ GoodA2 vx vs LL nx lg sq D A) := fun h => by have := h.1; omega
    obtain ⟨⟨lz, z0, z1, z2, z3⟩, zf⟩ := id Z3
    have f0 := zf 0
    have f1 := zf 1
    have f2 := zf 2
    have f3 := zf 3
    clear zf 
    go_wp2
    refine bodyPost_ret (v := .tuple #[.agg #[.int .i64 vx, .int .i64 vl, .int .i64 vs, .slice ao 3 cap], .bool false]) (by simp [results, Try.results19, go_sem, z0, z1, z2, z3]) rfl (.inr ⟨HN.out, _, _, _, _, _, _, rfl, ?_⟩)
    repeat' refine Below.setCell ?_ (by first | (simp; done) | (simp; omega)) _
    exact bw3
  by_cases hsq : sq < vs
  · have HN : Hid (¬ GoodA2 vx vs LL nx lg sq D A) := fun h => by have := h.2.1; omega
    obtain ⟨⟨lz, z0, z1, z2, z3⟩, zf⟩ := id Z3
    have f0 := zf 0
    have f1 := zf 1
    have f2 := zf 2
    have f3 := zf 3
    clear zf 
    go_wp2
    refine bodyPost_ret (v := .tuple #[.agg #[.int .i64 vx, .int .i64 vl, .int .i64 vs, .slice ao 3 cap], .bool false]) (by simp [results, Try.results19, go_sem, z0, z1, z2, z3]) rfl (.inr ⟨HN.out, _, _, _, _, _, _, rfl, ?_⟩)
    repeat' refine Below.setCell ?_ (by first | (simp; done) | (simp; omega)) _
    exact bw3
  go_upto_region 3 with fail
  go_cut [6] from 24 (fun s6 wx => ∃ o g, s6 = .pointer (some ⟨o, 0, none⟩) ∧ g ≠ o ∧ w.heap.size + 3 ≤ g ∧ w.heap.size + 3 ≤ o ∧ Lv wx (w.heap.size + 3) g 3 (fun _ => .slice none 0 0) (fun _ => []) ∧ VX wx o nx lg sq (some ⟨g, 0, none⟩) 3 3 ∧ Below w3.heap.size w3 wx)
  case first =>
    have hsz : w3.drew.heap.size = w.heap.size + 3 := s3
    have p1 : Hid (Lv ((w3.alloc (.cells #[.slice none 0 0, .slice none 0 0, .slice none 0 0] 71)).alloc (.cells #[.int .i64 nx, .int .i64 lg, .int .i64 sq, .slice (some ⟨w.heap.size + 3, 0, none⟩) 3 3] 25)).drew (w.heap.size + 3) (w.heap.size + 3) 3 (fun _ => .slice none 0 0) (fun _ => []) ∧ VX ((w3.alloc (.cells #[.slice none 0 0, .slice none 0 0, .slice none 0 0] 71)).alloc (.cells #[.int .i64 nx, .int .i64 lg, .int .i64 sq, .slice (some ⟨w.heap.size + 3, 0, none⟩) 3 3] 25)).drew (w.heap.size + 3 + 1) nx lg sq (some ⟨w.heap.size + 3, 0, none⟩) 3 3 ∧ Below w3.heap.size w3 ((w3.alloc (.cells #[.slice none 0 0, .slice none 0 0, .slice none 0 0] 71)).alloc (.cells #[.int .i64 nx, .int .i64 lg, .int .i64 sq, .slice (some ⟨w.heap.size + 3, 0, none⟩) 3 3] 25)).drew) := by
      have h1 := lv_new w3 71
      have e1 : (w3.alloc (.cells #[.slice none 0 0, .slice none 0 0, .slice none 0 0] 71)).heap.size = w.heap.size + 3 + 1 := by simp [s3]
      have h2 := VX.new (w3.alloc (.cells #[.slice none 0 0, .slice none 0 0, .slice none 0 0] 71)) nx lg sq (some ⟨w.heap.size + 3, 0, none⟩) 3 3 25
      rw [s3] at h1
      rw [e1] at h2
      have n1 := below_new w3 (.cells #[.slice none 0 0, .slice none 0 0, .slice none 0 0] 71)
      have n2 := below_new (w3.alloc (.cells #[.slice none 0 0, .slice none 0 0, .slice none 0 0] 71)) (.cells #[.int .i64 nx, .int .i64 lg, .int .i64 sq, .slice (some ⟨w.heap.size + 3, 0, none⟩) 3 3] 25)
      exact ⟨(h1.keep n2).keep (Below.refl _ _).drew, h2.keep (Below.refl _ _).drew, (n1.trans (n2.mono n1.size)).drew⟩
    have p2 : Hid (Lv ((w3.alloc (.cells #[.int .i64 nx, .int .i64 lg, .int .i64 sq, .slice (some ⟨w.heap.size + 3 + 1, 0, none⟩) 3 3] 25)).alloc (.cells #[.slice none 0 0, .slice none 0 0, .slice none 0 0] 71)).drew (w.heap.size + 3) (w.heap.size + 3 + 1) 3 (fun _ => .slice none 0 0) (fun _ => []) ∧ VX ((w3.alloc (.cells #[.int .i64 nx, .int .i64 lg, .int .i64 sq, .slice (some ⟨w.heap.size + 3 + 1, 0, none⟩) 3 3] 25)).alloc (.cells #[.slice none 0 0, .slice none 0 0, .slice none 0 0] 71)).drew (w.heap.size + 3) nx lg sq (some ⟨w.heap.size + 3 + 1, 0, none⟩) 3 3 ∧ Below w3.heap.size w3 ((w3.alloc (.cells #[.int .i64 nx, .int .i64 lg, .int .i64 sq, .slice (some ⟨w.heap.size + 3 + 1, 0, none⟩) 3 3] 25)).alloc (.cells #[.slice none 0 0, .slice none 0 0, .slice none 0 0] 71)).drew) := by
      have h1 := lv_new (w3.alloc (.cells #[.int .i64 nx, .int .i64 lg, .int .i64 sq, .slice (some ⟨w.heap.size + 3 + 1, 0, none⟩) 3 3] 25)) 71
      have e1 : (w3.alloc (.cells #[.int .i64 nx, .int .i64 lg, .int .i64 sq, .slice (some ⟨w.heap.size + 3 + 1, 0, none⟩) 3 3] 25)).heap.size = w.heap.size + 3 + 1 := by simp [s3]
      have h2 := VX.new w3 nx lg sq (some ⟨w.heap.size + 3 + 1, 0, none⟩) 3 3 25
      rw [e1] at h1
      rw [s3] at h2
      have n1 := below_new w3 (.cells #[.int .i64 nx, .int .i64 lg, .int .i64 sq, .slice (some ⟨w.heap.size + 3 + 1, 0, none⟩) 3 3] 25)
      have n2 := below_new (w3.alloc (.cells #[.int .i64 nx, .int .i64 lg, .int .i64 sq, .slice (some ⟨w.heap.size + 3 + 1, 0, none⟩) 3 3] 25)) (.cells #[.slice none 0 0, .slice none 0 0, .slice none 0 0] 71)
      exact ⟨(h1.keep (Below.refl _ _).drew).lower (by omega), (h2.keep n2).keep (Below.refl _ _).drew, (n1.trans (n2.mono n1.size)).drew⟩
    go_region
    all_goals
      go_wp2_with fail
      go_meet
      case rel => first
        | exact ⟨w.heap.size + 3 + 1, w.heap.size + 3, rfl, by omega, by omega, by omega, p1.out.1, p1.out.2.1, p1.out.2.2⟩
        | exact ⟨w.heap.size + 3, w.heap.size + 3 + 1, rfl, by omega, by omega, by omega, p2.out.1, p2.out.2.1, p2.out.2.2⟩
  case rest =>
    obtain ⟨o, g, rfl, hgo, hg3, ho3, L4, X4, b4⟩ := hcut
    generalize wc = w4 at *
    have A4 := A3.keep b4
    have E4 := E3.keep b4
    have Z4 := Z3.keep b4
    have bw4 := bw3.trans (b4.mono bw3.size)
    have s4 := b4.size
    clear A3 E3 Z3 b4 bw3 la a0 a1 a2 a3 lx x0 x1 x2 x3 x4
    obtain ⟨base, hbase⟩ : ∃ base, w.heap.size + 3 = base := ⟨_, rfl⟩
    rw [hbase] at L4 hg3 ho3 s3
    have HB : Hid (w.heap.size + 3 = base) := hbase
    have hb0 : w.heap.size < base := by omega
    have hb1 : w.heap.size + 1 < base := by omega
    have hb2 : w.heap.size + 2 < base := by omega
    clear hbase
    have hob : o < w4.heap.size := X4.lt
    obtain ⟨la, a0, a1, a2, a3⟩ := id A4
    go_wp2
    go_loopw [7, 48] (fun c i wr => ∃ (j c0 : Nat) (V : Nat → Value), j ≤ 3 ∧ i = .int .i64 (j : Int) ∧ c = .int .i64 (c0 : Int) ∧ c0 ≤ 100 ∧ Hid (c0 = gonS D LL j) ∧ Lv wr base g 3 V (fun t => if t < j then dropd D (LL t) else []) ∧ VX wr o nx lg sq (some ⟨g, 0, none⟩) 3 3 ∧ Hid (∀ i, i < 3 → (V i).ownBlock ≠ some o) ∧ Below base w4 wr) (fun _ i _ => 3 - (intOf i).toNat)
    case atStart => exact ⟨0, 0, _, by omega, rfl, rfl, by omega, rfl, by simpa using L4, X4, fun i hi => by simp [Value.ownBlock], Below.refl _ _⟩
    case round =>
      obtain ⟨j, c0, V, hj, rfl, rfl, hc0, HC0, Lj, Xj, hVj, hbj⟩ := hrel
      have bwj : Below w.heap.size w wr := bw4.trans (hbj.mono (by omega))
      have Ej := E4.same hbj.size (hbj.block _ hb1)
      by_cases hlt : j < 3
      · obtain ⟨b, off, rfl, hblt, hc⟩ := HV.out.lies.resolve_left (by omega)
        obtain ⟨da1, dc1, hcw, hrow⟩ := hc j hlt
        have hcell := (bwj.cell (p := ⟨b, off + j, none⟩) hblt).trans hcw
        have hLj : (LL j).length ≤ 12 := hlen.out j hlt
        have hjd : decide ((j : Int) < 3) = true := decide_eq_true (by omega)
        have HROW : Hid (MRow w da1 (LL j).length (mL (LL j))) := hrow
        clear hc hrow hcw
        have Lj2 : Lv wr base g 3 V (fun t => if t < j then dropd D (LL t) else if t = j then dropd D ((LL j).take 0) else []) := Lj.congr (V' := V) (fun t ht => by
          by_cases h1 : t < j
          · simp only [h1, if_true]
          · by_cases h2 : t = j
            · simp [h1, h2, dropd]
            · simp only [h1, h2, if_false])
        go_wp2
        go_loopw [7, 55] (fun c i wr => ∃ (k c1 : Nat) (V : Nat → Value), k ≤ (LL j).length ∧ i = .int .i64 (k : Int) ∧ c = .int .i64 (c1 : Int) ∧ c1 ≤ 100 + k ∧ Hid (c1 = gonS D LL j + gon D ((LL j).take k)) ∧ Lv wr base g 3 V (fun t => if t < j then dropd D (LL t) else if t = j then dropd D ((LL j).take k) else []) ∧ VX wr o nx lg sq (some ⟨g, 0, none⟩) 3 3 ∧ Hid (∀ i, i < 3 → (V i).ownBlock ≠ some o) ∧ Below base w4 wr) (fun _ i _ => (LL j).length - (intOf i).toNat)
        case atStart => exact ⟨0, c0, V, Nat.zero_le _, rfl, rfl, by omega, by have := HC0.out; simp [Hid, gon]; exact this, Lj2, Xj, hVj, hbj⟩
        case round =>
          clear Lj Lj2 Xj hVj hbj bwj HC0 hc0 hcell V Ej hjd
          obtain ⟨k, c1, V, hk, rfl, rfl, hc1, HC1, Lk, Xk, hVk, hbk⟩ := hrel
          have bwk : Below w.heap.size w wr := bw4.trans (hbk.mono (by omega))
          have Ek := E4.same hbk.size (hbk.block _ hb1)
          by_cases hlt2 : k < (LL j).length
          · go_upto_block 3 with fail
            go_cut [7, 11, 12, 14] (fun s7 s11 s12 s14 wx => ∃ (c2 : Nat) (V2 : Nat → Value), s7 = .int .i64 (c2 : Int) ∧ c2 ≤ 100 + (k + 1) ∧ Hid (c2 = gonS D LL j + gon D ((LL j).take (k + 1))) ∧ Lv wx base g 3 V2 (fun t => if t < j then dropd D (LL t) else if t = j then dropd D ((LL j).take (k + 1)) else []) ∧ VX wx o nx lg sq (some ⟨g, 0, none⟩) 3 3 ∧ Hid (∀ i, i < 3 → (V2 i).ownBlock ≠ some o) ∧ Below base w4 wx)
            case first =>
              obtain ⟨hMb, hlies⟩ := HROW.out.keep bwk
              have hmb := hMb k hlt2
              obtain ⟨b2, off2, rfl, hblt2, hc2⟩ := hlies.resolve_left (by omega)
              obtain ⟨_, m0, m1, m2, m3⟩ := hc2 k hlt2
              have HT1 : Hid (gon D ((LL j).take (k + 1)) = gon D ((LL j).take k) + (if (mL (LL j) k).file ∈ D then 1 else 0)) := gon_take hlt2
              have HT2 : Hid (dropd D ((LL j).take (k + 1)) = dropd D ((LL j).take k) ++ (if (mL (LL j) k).file ∈ D then [] else [mL (LL j) k])) := dropd_take hlt2
              clear hc2 hlies hMb
              generalize mL (LL j) k = m at *
              have bnq := below_new wr (.cells #[.int .i64 m.file, .string m.least, .string m.most, .int .i64 m.many] 52)
              have Mq := MAt.new wr m 52
              have Eq := Ek.keep bnq
              have Lq := Lk.keep bnq
              have Xq := Xk.keep bnq
              have swr : base ≤ wr.heap.size := by have := Lk.bs; have := Lk.lt; omega
              have hbq := hbk.trans (bnq.mono swr)
              have bwq := bwk.trans (bnq.mono bwk.size)
              obtain ⟨_, x0, x1, x2, x3, x4⟩ := id Eq
              go_upto_block 4 with fail
              generalize wr.alloc (.cells #[.int .i64 m.file, .string m.least, .string m.most, .int .i64 m.many] 52) = wq at *
              obtain ⟨P, hP⟩ : ∃ P, wr.heap.size = P := ⟨_, rfl⟩
              rw [hP] at Mq swr ⊢
              have HP : Hid (wr.heap.size = P) := hP
              clear hP
              obtain ⟨_, z0, z1, z2, z3⟩ := Mq.z
              go_wp2_with fail
              go_loopw [12, 62] (fun fg i wi => ∃ t : Nat, t ≤ D.length ∧ i = .int .i64 (t : Int) ∧ fg = .bool (decide (m.file ∈ D.take t)) ∧ wi = wq) (fun _ i _ => D.length - (intOf i).toNat)
              case atStart => exact ⟨0, Nat.zero_le _, rfl, by simp, rfl⟩
              case round =>
                obtain ⟨t, ht, rfl, rfl, rfl⟩ := hrel
                generalize wr = wq at *
                by_cases hlt3 : t < D.length
                · obtain ⟨_, hl3⟩ := hr.keep bwq
                  obtain ⟨b3, off3, rfl, hblt3, hc3⟩ := hl3.resolve_left (by omega)
                  have hcel := hc3 t hlt3
                  have HTK := take_fi hlt3
                  clear hc3 hl3
                  by_cases hin : m.file ∈ D.take t
                  · have h1 : decide (m.file ∈ D.take t) = true := decide_eq_true hin
                    have h2 : Hid (decide (m.file ∈ D.take (t + 1)) = true) := decide_eq_true (by rw [HTK]; exact List.mem_append_left _ hin)
                    clear hin HTK
                    rw [h1]
                    go_wp2
                    go_roundw
                    case rel => exact ⟨t + 1, by omega, by go_num, by rw [h2.out], by first | rfl | trivial⟩
                    case measure => simp [intOf]; omega
                  · have h1 : decide (m.file ∈ D.take t) = false := decide_eq_false hin
                    rw [h1]
                    by_cases he : fi D t = m.file
                    · have h2 : Hid (decide (m.file ∈ D.take (t + 1)) = true) := decide_eq_true (by rw [HTK, he]; simp)
                      have h3 : (fi D t == m.file) = true := beq_iff_eq.2 he
                      clear hin HTK he
                      go_wp2
                      go_roundw
                      case rel => exact ⟨t + 1, by omega, by go_num, by rw [h2.out], by first | rfl | trivial⟩
                      case measure => simp [intOf]; omega
                    · have h2 : Hid (decide (m.file ∈ D.take (t + 1)) = false) := decide_eq_false (by rw [HTK]; intro h; rcases List.mem_append.1 h with h | h; exact hin h; exact he (List.mem_singleton.1 h).symm)
                      have h3 : (fi D t == m.file) = false := beq_eq_false_iff_ne.2 he
                      clear hin HTK he
                      go_wp2
                      go_roundw
                      case rel => exact ⟨t + 1, by omega, by go_num, by rw [h2.out], by first | rfl | trivial⟩
                      case measure => simp [intOf]; omega
                · obtain rfl : t = D.length := by omega
                  rw [List.take_length]
                  by_cases hin : m.file ∈ D
                  · have h1 : decide (m.file ∈ D) = true := decide_eq_true hin
                    have HC : Hid (c1 + 1 = gonS D LL j + gon D ((LL j).take (k + 1))) := by have := HC1.out; have := HT1.out; rw [if_pos hin] at this; unfold Hid; omega
                    have HD2 : dropd D ((LL j).take (k + 1)) = dropd D ((LL j).take k) := by have := HT2.out; rw [if_pos hin, List.append_nil] at this; exact this
                    rw [h1]
                    rw [← HD2] at Lq
                    clear HD2 hin HT1 HT2
                    go_wp2
                    go_meet
                    case rel => exact ⟨c1 + 1, V, by go_num, by omega, HC, Lq, Xq, hVk, hbq⟩
                  · have h1 : decide (m.file ∈ D) = false := decide_eq_false hin
                    have HC : Hid (c1 = gonS D LL j + gon D ((LL j).take (k + 1))) := by have := HC1.out; have := HT1.out; rw [if_neg hin] at this; unfold Hid; omega
                    have HD2 : Hid (dropd D ((LL j).take (k + 1)) = dropd D ((LL j).take k) ++ [m]) := by have := HT2.out; rw [if_neg hin] at this; exact this
                    rw [h1]
                    have hOj : OwnM wq base (V j) (dropd D ((LL j).take k)) := by have := Lq.own j hlt; simpa using this
                    have hWl : (dropd D ((LL j).take k)).length ≤ 1000 := by have := dropd_len D ((LL j).take k); rw [List.length_take] at this; omega
                    clear hin HT1 HT2
                    obtain ⟨so, sc, eV, _⟩ := hOj.form
                    have bd := (Below.refl wq.heap.size wq).drew
                    have Od := hOj.keep bd
                    rw [eV] at Od
                    have Ld := Lq.keep bd
                    have Xd := Xq.keep bd
                    obtain ⟨so2, sc2, y2, hrun, O2, G2, H2⟩ := pushM_run wq.drew base so sc (dropd D ((LL j).take k)) m Od hmb (by omega) (by have := Ld.bs; have := Ld.lt; omega)
                    have bn2 := below_new wq.drew (.cells #[.int .i64 m.file, .string m.least, .string m.most, .int .i64 m.many] 52)
                    have Ln := Ld.keep bn2
                    have Xn := Xd.keep bn2
                    have bw2' := (hbq.trans (bd.mono (Nat.le_trans Lq.bs (Nat.le_of_lt Lq.lt)))).trans (bn2.mono (by have := Ld.bs; have := Ld.lt; omega))
                    have hda : wq.drew.alloc (.cells #[.int .i64 m.file, .string m.least, .string m.most, .int .i64 m.many] 52) = (wq.alloc (.cells #[.int .i64 m.file, .string m.least, .string m.most, .int .i64 m.many] 52)).drew := rfl
                    rw [hda] at hrun G2 H2 Ln Xn bw2'
                    clear hda bn2 bd
                    have hGV : (wq.alloc (.cells #[.int .i64 m.file, .string m.least, .string m.most, .int .i64 m.many] 52)).drew.grownBy y2 (V j).ownBlock := by rw [eV]; exact G2
                    have hHV : (Value.slice so2 (dropd D ((LL j).take k) ++ [m]).length sc2).ownBlock = (V j).ownBlock ∨ (Value.slice so2 (dropd D ((LL j).take k) ++ [m]).length sc2).ownBlock = some (wq.alloc (.cells #[.int .i64 m.file, .string m.least, .string m.most, .int .i64 m.many] 52)).drew.heap.size := by rw [eV]; exact H2
                    have Xy := Xn.same G2.size (G2.block o Xn.lt (fun e => hVk.out j hlt (by rw [eV]; exact e.symm)))
                    have hgb := hGV.block g Ln.lt (fun e => Ln.apart j hlt e.symm)
                    have gk := (World.cell?_of_block (a := ⟨g, j, none⟩) hgb).trans (Ln.cell j hlt)
                    have gf := (World.frozen?_of_block (a := ⟨g, j, none⟩) hgb).trans (Ln.free j hlt)
                    have Ls := (Ln.swap hlt hGV O2 hHV).congr (V' := V) (LL' := fun t => if t < j then dropd D (LL t) else if t = j then dropd D ((LL j).take (k + 1)) else []) (fun t ht => by
                      by_cases e : t = j
                      · simp [e, HD2.out]
                      · simp [e])
                    have hVs : (∀ i, i < 3 → (if i = j then Value.slice so2 (dropd D ((LL j).take k) ++ [m]).length sc2 else V i).ownBlock ≠ some o) := fun i hi => by
                      by_cases e : i = j
                      · simp only [e, if_true]
                        rcases hHV with e2 | e2
                        · rw [e2]; exact hVk.out j hlt
                        · rw [e2]; intro e3; injection e3 with e3; have := Xn.lt; omega
                      · simp only [e, if_false]; exact hVk.out i hi
                    have Xs := Xy.same (w' := y2.setCell ⟨g, j, none⟩ (.slice so2 (dropd D ((LL j).take k) ++ [m]).length sc2)) (by simp) ((Others.setCell y2 g j _).block o (Ne.symm hgo))
                    have hbs := ((bw2'.grown G2 (by have := Ln.bs; have := Ln.lt; omega) (fun c hc => (Od.own.lt c hc).1)).setCell (p := ⟨g, j, none⟩) Ln.bs (.slice so2 (dropd D ((LL j).take k) ++ [m]).length sc2))
                    have HLs : (Lv (y2.setCell ⟨g, j, none⟩ (.slice so2 (dropd D ((LL j).take k) ++ [m]).length sc2)) base g 3 (fun i => if i = j then Value.slice so2 (dropd D ((LL j).take k) ++ [m]).length sc2 else V i) (fun t => if t < j then dropd D (LL t) else if t = j then dropd D ((LL j).take (k + 1)) else [])) := Ls
                    have q1 := Xd.c3
                    have q2 := Xn.c3
                    have q3 := Xy.c3
                    have r1 := Ld.cell j hlt
                    have r2 := Ln.cell j hlt
                    rw [eV] at gk r1 r2
                    obtain ⟨_, z0', z1', z2', z3'⟩ := (Mq.keep (Below.refl _ wq).drew).z
                    generalize dropd D ((LL j).take k) = W at *
                    clear Ls Ln Xn Xy Ld Xd Od hGV hHV hgb G2 H2 bw2' HD2 Lq Xq Lk Xk hOj Mq
                    obtain ⟨n1, hn1⟩ : ∃ n1, (W ++ [m]).length = n1 := ⟨_, rfl⟩
                    rw [hn1] at hrun HLs Xs hVs hbs
                    clear hn1
                    go_upto_region 19 with fail
                    have hji : (j : Int) < 3 := by omega
                    clear HROW HA24 HG4 HV hlen hr hy E4 Z4 bw4 Eq Ek bwq bwk hbq hbk L4 X4 O2
                    go_region_law (first | (refine step_append_run (by rfl) (.tmp 84) (.tmp 86) 71 (by rfl) (.slice so W.length sc) (.slice (some ⟨wq.heap.size, 0, none⟩) 1 1) (.slice so2 n1 sc2) (by simp [Act.eval, Act.put]) (by simp [Act.eval, Act.put]) y2 hrun ?_) | fail)
                    all_goals
                      go_wp2_with fail
                      go_meet
                      case rel => exact ⟨c1, _, rfl, by omega, HC, HLs, Xs, hVs, hbs⟩
            case rest =>
              obtain ⟨c2, V2, rfl, hc2, HC2, L2, X2, hV2, hb2'⟩ := hcut
              clear Lk Xk hVk hbk bwk Ek HC1
              go_wp2
              go_roundw
              case rel => exact ⟨k + 1, c2, V2, by omega, by go_num, rfl, hc2, HC2, L2, X2, hV2, hb2'⟩
              case measure => simp [intOf]; omega
          · obtain rfl : k = (LL j).length := by omega
            rw [List.take_length] at HC1 Lk
            have HC2 : Hid (c1 = gonS D LL (j + 1)) := by unfold Hid gonS; exact HC1.out
            have Lz := Lk.congr (V' := V) (LL' := fun t => if t < j + 1 then dropd D (LL t) else []) (fun t ht => by
              by_cases h1 : t < j
              · simp [h1, show t < j + 1 by omega]
              · by_cases h2 : t = j
                · simp [h2]
                · simp [h1, h2, show ¬ t < j + 1 by omega])
            have hc2 : c1 ≤ 100 := by have := HC2.out; have h2 := gonS_le (D := D) (LL := LL) (N := j + 1) (fun i hi => hlen.out i (by omega)); omega
            clear HC1 Lk
            go_wp2
            go_roundw
            case rel => exact ⟨j + 1, c1, V, by omega, by go_num, rfl, hc2, HC2, Lz, Xk, hVk, hbk⟩
            case measure => simp [intOf]; omega
      · obtain rfl : j = 3 := by omega
        have Z9 := Z4.same hbj.size (hbj.block _ hb2)
        have A9 := A4.same hbj.size (hbj.block _ hb0)
        have L9 := Lj.congr (V' := V) (LL' := fun t => dropd D (LL t)) (fun t ht => by simp [ht])
        clear Lj L4 X4 E4 Z4 A4 a0 a1 a2 a3 la bw4 hbj
        generalize wr = w9 at *
        obtain ⟨la, a0, a1, a2, a3⟩ := id A9
        obtain ⟨_, x0, x1, x2, x3, x4⟩ := id Ej
        obtain ⟨⟨lz, z0, z1, z2, z3⟩, zf⟩ := id Z9
        have f0 := zf 0
        have f1 := zf 1
        have f2 := zf 2
        have f3 := zf 3
        clear zf
        have hIR := hr.keep bwj
        go_wp2
        go_loopw [94] (fun i wi => ∃ t : Nat, t ≤ D.length ∧ i = .int .i64 (t : Int) ∧ Hid ((D.take t).Nodup) ∧ wi = w9) (fun i _ => D.length - (intOf i).toNat)
        case atStart => exact ⟨0, Nat.zero_le _, rfl, by simp [Hid], rfl⟩
        case round =>
          obtain ⟨t, ht, rfl, HND, rfl⟩ := hrel
          by_cases hltt : t < D.length
          · obtain ⟨_, hl3⟩ := id hIR
            obtain ⟨b3, off3, rfl, hblt3, hc3⟩ := hl3.resolve_left (by omega)
            have hcel := hc3 t hltt
            have htc : t ≤ cd := by omega
            have htd : decide ((t : Int) < (D.length : Int)) = true := decide_eq_true (by omega)
            go_wp2
            go_loopw [104] (fun i wi => ∃ r : Nat, r ≤ t ∧ i = .int .i64 (r : Int) ∧ Hid (∀ x, x < r → fi D x ≠ fi D t) ∧ wi = wr) (fun i _ => t - (intOf i).toNat)
            case atStart => exact ⟨0, Nat.zero_le _, rfl, fun x hx => by omega, rfl⟩
            case round =>
              obtain ⟨r, hrr, rfl, HNE, rfl⟩ := hrel
              by_cases hlr : r < t
              · have hcr := hc3 r (by omega)
                by_cases he : fi D r = fi D t
                · have HN : Hid (¬ GoodA2 vx vs LL nx lg sq D A) := fun h => by
                    have hnd := h.2.2.1.1
                    have := (List.nodup_iff_pairwise_ne.1 hnd)
                    have h2 := List.pairwise_iff_getElem.1 this r t (by omega) hltt hlr
                    simp only [fi, List.getD, List.getElem?_eq_getElem (show r < D.length by omega), List.getElem?_eq_getElem hltt, Option.getD_some] at he
                    exact h2 he
                  have heb : (fi D r == fi D t) = true := beq_iff_eq.2 he
                  clear he htd
                  go_wp2
                  refine bodyPost_ret (v := .tuple #[.agg #[.int .i64 vx, .int .i64 vl, .int .i64 vs, .slice ao 3 cap], .bool false]) (by simp [results, Try.results19, go_sem, z0, z1, z2, z3]) rfl (.inr ⟨HN.out, _, _, _, _, _, _, rfl, ?_⟩)
                  repeat' refine Below.setCell ?_ (by first | (simp; done) | (simp; omega)) _
                  exact bwj
                · have heb : (fi D r == fi D t) = false := beq_eq_false_iff_ne.2 he
                  have HNE2 : Hid (∀ x, x < r + 1 → fi D x ≠ fi D t) := fun x hx => by
                    rcases Nat.lt_succ_iff_lt_or_eq.1 hx with h | rfl
                    · exact HNE.out x h
                    · exact he
                  clear he htd HNE
                  go_wp2
                  go_roundw
                  case rel => exact ⟨r + 1, by omega, by go_num, HNE2, by first | rfl | trivial⟩
                  case measure => simp [intOf]; omega
              · obtain rfl : r = t := by omega
                have HND2 : Hid ((D.take (r + 1)).Nodup) := by
                  unfold Hid
                  rw [take_fi hltt]
                  refine List.nodup_append.2 ⟨HND.out, by simp, fun x hx y hy => ?_⟩
                  rw [List.mem_singleton.1 hy]
                  obtain ⟨i, hi, rfl⟩ := List.getElem_of_mem hx
                  rw [List.length_take] at hi
                  have := HNE.out i (by omega)
                  simp only [fi, List.getD, List.getElem?_eq_getElem (show i < D.length by omega), Option.getD_some] at this
                  rw [List.getElem_take]
                  simpa [fi] using this
                clear HND HNE htd
                go_wp2
                go_roundw
                case rel => exact ⟨r + 1, by omega, by go_num, HND2, by first | rfl | trivial⟩
                case measure => simp [intOf]; omega
          · obtain rfl : t = D.length := by omega
            have HNd : Hid D.Nodup := by have := HND.out; rw [List.take_length] at this; exact this
            have Hiff : Hid (c0 = D.length ↔ OkD 3 LL D) := by
              have := okD_iff HG4.out HNd.out
              unfold Hid
              rw [HC0.out]
              exact this
            clear HND
            by_cases hcc : c0 = D.length
            · have hok : Hid (OkD 3 LL D) := Hiff.out.1 hcc
              have heb : ((c0 : Int) == (D.length : Int)) = true := beq_iff_eq.2 (by omega)
              have hec : ((c0 : Int) != (D.length : Int)) = false := by rw [bne, heb]; rfl
              have hl9 : Hid (∀ i, i < 3 → (dropd D (LL i)).length ≤ 12 + 0) := fun i hi => by have := dropd_len D (LL i); have := hlen.out i hi; omega
              clear hcc Hiff HNd HC0 hIR a0 a1 a2 a3 la A9
              generalize wr = w9 at *
              go_wp2
              go_loopw [123] (fun i wr => ∃ (k : Nat) (V : Nat → Value) (LLk : Nat → List Met), k ≤ A.length ∧ i = .int .i64 (k : Int) ∧ Lv wr base g 3 V LLk ∧ VX wr o nx lg sq (some ⟨g, 0, none⟩) 3 3 ∧ Hid (∀ i, i < 3 → (V i).ownBlock ≠ some o) ∧ Hid (∀ i, i < 3 → (LLk i).length ≤ 12 + k) ∧ Below base w9 wr ∧ Hid (∀ i, i < 3 → LLk i = apL LL D (A.take k) i)) (fun i _ => A.length - (intOf i).toNat)
              case atStart => exact ⟨0, V, _, Nat.zero_le _, rfl, L9, Xj, hVj, hl9, Below.refl _ _, fun i hi => by simp [apL, addsL]⟩
              case round =>
                clear L9 Xj hVj hl9 V
                obtain ⟨k, V, LLk, hk, rfl, Lk, Xk, hVk, hlk, hbk, HE⟩ := hrel
                have bwr : Below w.heap.size w wr := bwj.trans (hbk.mono (by omega))
                by_cases hltk : k < A.length
                · obtain ⟨_, hlies⟩ := hy.keep bwr
                  obtain ⟨b, off, rfl, hblt, hc⟩ := hlies.resolve_left (by omega)
                  have hat := hc k hltk
                  have hga := HA24.out k hltk
                  have hmb := (hy.bd k hltk).m
                  obtain ⟨y, ey⟩ : ∃ y, dL A k = y := ⟨_, rfl⟩
                  rw [ey] at hat hga hmb
                  obtain ⟨lv, m⟩ := y
                  have hlv : 0 ≤ lv ∧ lv ≤ 2 := by simp only [ga, btw, Bool.and_eq_true, decide_eq_true_eq] at hga; exact hga.1
                  obtain ⟨kk, rfl⟩ : ∃ kk : Nat, lv = (kk : Int) := ⟨lv.toNat, by omega⟩
                  have hkk : kk < 3 := by omega
                  have hkA : k ≤ 24 := by omega
                  have HS : Hid (∀ i, i < 3 → (if i = kk then plP (LLk kk) kk m else LLk i) = apL LL D (A.take (k + 1)) i) := apL_step hltk ey HE.out
                  have hl2 : Hid (∀ j, j < 3 → (if j = kk then plP (LLk kk) kk m else LLk j).length ≤ 12 + (k + 1)) := fun j hj => by
                    split
                    · rw [plP_len]; have := hlk.out kk hkk; omega
                    · have := hlk.out j hj; omega
                  have hLn : (LLk kk).length ≤ 100 := by have := hlk.out kk hkk; omega
                  obtain ⟨_, e0, e1, e2, e3, e4⟩ := hat
                  simp only at e0 e1 e2 e3 e4
                  clear ey HE hlies hc hga hlv hlk
                  go_upto_block 11 with fail
                  go_cut [20, 21, 22, 23] (fun s20 s21 s22 s23 wx => ∃ V2 : Nat → Value, Lv wx base g 3 V2 (fun j => if j = kk then plP (LLk kk) kk m else LLk j) ∧ VX wx o nx lg sq (some ⟨g, 0, none⟩) 3 3 ∧ Hid (∀ i, i < 3 → (V2 i).ownBlock ≠ some o) ∧ Below base w9 wx)
                  case first =>
                    have bnp := below_new wr (.cells #[.int .i64 (kk : Int), .int .i64 m.file, .string m.least, .string m.most, .int .i64 m.many] 54)
                    have Dp := DAt.new wr ⟨(kk : Int), m⟩ 54
                    have swr : base ≤ wr.heap.size := Nat.le_trans Lk.bs (Nat.le_of_lt Lk.lt)
                    have Lp := Lk.keep bnp
                    have Xp := Xk.keep bnp
                    have hbp := hbk.trans (bnp.mono swr)
                    have HPV : Hid (∀ i, i < 3 → ∀ c, (V i).ownBlock = some c → c < wr.heap.size) := fun i hi c hc => ((Lk.own i hi).own.lt c hc).2
                    go_upto_region 37 with fail
                    clear e0 e1 e2 e3 e4 bnp Lk Xk hbk bwr HA24 HG4 HV hlen hr hy hl2 HS
                    generalize wr.alloc (.cells #[.int .i64 (kk : Int), .int .i64 m.file, .string m.least, .string m.most, .int .i64 m.many] 54) = wp at *
                    generalize wr.heap.size = P at *
                    obtain ⟨so, sc, eV, hsc⟩ := (Lp.own kk hkk).form
                    have gc := Lp.cell kk hkk
                    have Ow := Lp.own kk hkk
                    rw [eV] at gc Ow
                    obtain ⟨_, o0, o1, o2, o3⟩ := id Xp
                    obtain ⟨_, d0, d1, d2, d3, d4⟩ := id Dp
                    simp only [Nat.zero_add] at d0 d1 d2 d3 d4
                    have hki : (kk : Int) < 3 := by omega
                    obtain ⟨ix, hix⟩ : ∃ ix, (if 0 < kk then plc (LLk kk) m.least else (LLk kk).length) = ix := ⟨_, rfl⟩
                    have hixl : ix ≤ (LLk kk).length := by
                      rw [← hix]
                      split
                      · exact plc_le _ _
                      · exact Nat.le_refl _
                    have HIX : Hid ((if 0 < kk then plc (LLk kk) m.least else (LLk kk).length) = ix) := hix
                    clear hix
                    go_upto_if 137 with fail
                    go_cut [22] from 137 to 154 (fun s22 wx => s22 = .int .i64 (ix : Int) ∧ Below wp.heap.size wp wx)
                    case first =>
                      have hrowp := Ow.row
                      by_cases hk0 : 0 < kk
                      · have HI : Hid (plc (LLk kk) m.least = ix) := by have := HIX.out; rw [if_pos hk0] at this; exact this
                        have HA : Hid (∀ k, k < (LLk kk).length → (∀ i, i < k → leS (mL (LLk kk) i).least m.least = true) → leS (mL (LLk kk) k).least m.least = false → k = ix) := fun k h1 h2 h3 => (plc_at h1 h2 h3).symm.trans HI.out
                        have HZ : Hid ((∀ i, i < (LLk kk).length → leS (mL (LLk kk) i).least m.least = true) → (LLk kk).length = ix) := fun h => (plc_all h).symm.trans HI.out
                        have hk1 : (0 : Int) < (kk : Int) := by omega
                        clear HIX HI
                        go_wp2_with fail
                        go_loopw [22] (fun i wi => ∃ r : Nat, r ≤ (LLk kk).length ∧ i = .int .i64 (r : Int) ∧ Hid (∀ x, x < r → leS (mL (LLk kk) x).least m.least = true) ∧ Below wp.heap.size wp wi) (fun i _ => (LLk kk).length - (intOf i).toNat)
                        case atStart => exact ⟨0, Nat.zero_le _, rfl, fun x hx => by omega, Below.refl _ _⟩
                        case round =>
                          obtain ⟨r, hr2, rfl, HG, hbr⟩ := hrel
                          by_cases hlr : r < (LLk kk).length
                          · obtain ⟨gb, go', eso, hlt', hc'⟩ := (hrowp.keep hbr).lies.resolve_left (by omega)
                            obtain ⟨_, m0, m1, m2, m3⟩ := hc' r hlr
                            have q2 := (Dp.keep hbr).c2
                            simp only [Nat.zero_add] at q2
                            subst eso
                            have hl : Hid (leS (mL (LLk kk) r).least m.least = (Op.bytesLess (mL (LLk kk) r).least.toList m.least.toList || (mL (LLk kk) r).least.toList == m.least.toList)) := rfl
                            cases hg : leS (mL (LLk kk) r).least m.least
                            · have HP2 : Hid (r = ix) := HA.out r hlr HG.out hg
                              have h5 : (Op.bytesLess (mL (LLk kk) r).least.toList m.least.toList || (mL (LLk kk) r).least.toList == m.least.toList) = false := by rw [← hl.out, hg]
                              simp only [Bool.or_eq_false_iff] at h5
                              obtain ⟨h6, h7⟩ := h5
                              clear hl hg HG HA HZ hc' hrowp
                              go_wp2
                              go_region
                              go_wp2
                              go_meet
                              case rel => exact ⟨by rw [HP2.out], below_drewN hbr _⟩
                            · have HG2 : Hid (∀ x, x < r + 1 → leS (mL (LLk kk) x).least m.least = true) := fun i hi => by
                                rcases Nat.lt_succ_iff_lt_or_eq.1 hi with h | rfl
                                · exact HG.out i h
                                · exact hg
                              have h4 : (Op.bytesLess (mL (LLk kk) r).least.toList m.least.toList || (mL (LLk kk) r).least.toList == m.least.toList) = true := by rw [← hl.out, hg]
                              have hx : (Op.bytesLess (mL (LLk kk) r).least.toList m.least.toList = true) ∨ (Op.bytesLess (mL (LLk kk) r).least.toList m.least.toList = false ∧ ((mL (LLk kk) r).least.toList == m.least.toList) = true) := by
                                cases h : Op.bytesLess (mL (LLk kk) r).least.toList m.least.toList
                                · rw [h] at h4; exact .inr ⟨rfl, by simpa using h4⟩
                                · exact .inl rfl
                              clear h4 hl hg HG hc' hrowp
                              rcases hx with h5 | ⟨h5, h6⟩
                              all_goals
                                go_wp2
                                go_region
                                go_wp2
                                go_roundw
                                case rel => exact ⟨r + 1, by omega, by go_num, HG2, below_drewN hbr _⟩
                                case measure => simp [intOf]; omega
                          · obtain rfl : r = (LLk kk).length := by omega
                            have HP2 : Hid ((LLk kk).length = ix) := HZ.out HG.out
                            clear HG HA HZ hrowp
                            go_wp2
                            go_region
                            go_wp2
                            go_meet
                            case rel => exact ⟨by rw [HP2.out], below_drewN hbr _⟩
                      · have HI : Hid ((LLk kk).length = ix) := by have := HIX.out; rw [if_neg hk0] at this; exact this
                        have hk1 : ¬ (0 : Int) < (kk : Int) := by omega
                        go_wp2_with fail
                        go_meet
                        case rel => exact ⟨by rw [HI.out], Below.refl _ _⟩
                    case rest =>
                      obtain ⟨rfl, hb5⟩ := hcut
                      generalize wc = w5 at *
                      have L5 := Lp.keep hb5
                      have X5 := Xp.keep hb5
                      have D5 := Dp.keep hb5
                      have hbw5 := hbp.trans (hb5.mono (Nat.le_trans Lp.bs (Nat.le_of_lt Lp.lt)))
                      have S5 : base ≤ w5.heap.size := Nat.le_trans L5.bs (Nat.le_of_lt L5.lt)
                      have O5 := Ow.keep hb5
                      have row5 := O5.row
                      have hixs : ix ≤ sc := by omega
                      obtain ⟨T, hT⟩ : ∃ T, (LLk kk).take ix = T := ⟨_, rfl⟩
                      obtain ⟨U, hU⟩ : ∃ U, (LLk kk).drop ix = U := ⟨_, rfl⟩
                      have rowT := row5.take ix
                      rw [hT] at rowT
                      have HTl : Hid (ix = T.length) := by unfold Hid; rw [← hT, List.length_take]; omega
                      have HUl : Hid (U.length = (LLk kk).length - ix) := by unfold Hid; rw [← hU, List.length_drop]
                      have HTU : Hid (plP (LLk kk) kk m = (T ++ [m]) ++ U) := by unfold Hid plP; rw [HIX.out, putAt_app, hT, hU]
                      have HU : Hid ((LLk kk).drop ix = U) := hU
                      have hTs : T.length ≤ 1000 := by have := HTl.out; omega
                      clear hT hU Lp Xp Dp Ow hbp hb5 gc o0 o1 o2 o3 d0 d1 d2 d3 d4
                      obtain ⟨_, d0, d1, d2, d3, d4⟩ := id D5
                      simp only [Nat.zero_add] at d0 d1 d2 d3 d4
                      go_upto_region 45 with (at_builtin; refine wpList_appM rfl (.tmp 155) (.tmp 158) rfl w5.heap.size (.slice none 0 0) [] rfl (ownM_nil _ _) so ix sc T rfl HTl.out rowT (by simp; omega) (Nat.le_refl _) ?_; intro v8 w8 hO8 hg8 hb8)
                      rw [List.nil_append] at hO8
                      obtain ⟨po, pc, rfl, _⟩ := hO8.form
                      have B8 : Below w5.heap.size w5 w8 := ⟨hg8.os, hg8.tape, hg8.output, hg8.size, fun k hk => hg8.block k hk (by simp [Value.ownBlock])⟩
                      have D8 := D5.keep B8
                      clear hg8 hb8 d0 d1 d2 d3 d4 rowT
                      obtain ⟨_, d0, d1, d2, d3, d4⟩ := id D8
                      simp only [Nat.zero_add] at d0 d1 d2 d3 d4
                      go_upto_region 46 with (at_builtin; refine wpList_pushM rfl (.tmp 160) (.tmp 163) rfl w5.heap.size _ _ T m rfl hO8 hmb rfl rfl (by omega) B8.size ?_; intro v9 y9 hO9 hg9)
                      obtain ⟨T2, hT2⟩ : ∃ T2, T ++ [m] = T2 := ⟨_, rfl⟩
                      rw [hT2] at hO9 HTU
                      have hT2l : T2.length ≤ 2000 := by rw [← hT2, List.length_append, List.length_singleton]; omega
                      clear hT2
                      obtain ⟨qo, qc, rfl, _⟩ := hO9.form
                      have bn8 := below_new w8 (.cells #[.int .i64 m.file, .string m.least, .string m.most, .int .i64 m.many] 52)
                      have B9 : Below w5.heap.size w5 y9 := (B8.trans (bn8.mono B8.size)).grown hg9 (Nat.le_trans B8.size bn8.size) (fun c hc => (hO8.own.lt c hc).1)
                      have bd := (Below.refl y9.heap.size y9).drew
                      have Bd : Below w5.heap.size w5 y9.drew := B9.trans (bd.mono B9.size)
                      have Od := hO9.keep bd
                      have Ld := L5.keep Bd
                      have Xd := X5.keep Bd
                      have Dd := D5.keep Bd
                      have rowd := row5.keep Bd
                      have HK : Hid (∀ (ro : Option Addr) (rc : Nat), MRow y9.drew ro U.length (mL U) → ∃ (vo : Option Addr) (vc n3 : Nat) (y10 : World), (∀ ty, (Builtin.append_ #[71, 71] ty #[.slice qo T2.length qc, .slice ro ((LLk kk).length - ix) rc]).run Try.prog y9.drew = .ok (.slice vo n3 vc) y10) ∧ y10.cell? ⟨o, 3, none⟩ = some (.slice (some ⟨g, 0, none⟩) 3 3) ∧ y10.cell? ⟨P, 0, none⟩ = some (.int .i64 (kk : Int)) ∧ y10.cell? ⟨g, kk, none⟩ = some (V kk) ∧ y10.frozen? ⟨g, kk, none⟩ = false ∧
                          Hid (∃ V2 : Nat → Value, Lv (y10.setCell ⟨g, kk, none⟩ (.slice vo n3 vc)) base g 3 V2 (fun j => if j = kk then plP (LLk kk) kk m else LLk j) ∧ VX (y10.setCell ⟨g, kk, none⟩ (.slice vo n3 vc)) o nx lg sq (some ⟨g, 0, none⟩) 3 3 ∧ Hid (∀ i, i < 3 → (V2 i).ownBlock ≠ some o) ∧ Below base w9 (y10.setCell ⟨g, kk, none⟩ (.slice vo n3 vc)))) := fun ro rc hro => by
                        obtain ⟨vo, vc, y10, hrun, O10, G10, _⟩ := appM_run y9.drew w5.heap.size qo qc T2 ro rc U Od hro (by have := HUl.out; omega) Bd.size
                        have B10 : Below w5.heap.size w5 y10 := Bd.grown G10 Bd.size (fun c hc => (Od.own.lt c hc).1)
                        have L10 := L5.keep B10
                        have X10 := X5.keep B10
                        have D10 := D5.keep B10
                        have hlo : ∀ c, (Value.slice vo (T2 ++ U).length vc).ownBlock = some c → w5.heap.size ≤ c := fun c hc => (O10.own.lt c hc).1
                        have hgl := L5.lt
                        have hol := X5.lt
                        have hst := (L10.store hkk (O10.lower S5) (fun h => by have := hlo _ h; omega) (fun i hi _ c hc hc2 => by
                          have h1 := hlo _ hc2
                          have h2 := ((L5.own i hi).own.lt c hc).2
                          omega)).congr (V' := V) (LL' := fun j => if j = kk then plP (LLk kk) kk m else LLk j) (fun i hi => by
                            by_cases e : i = kk
                            · simp only [e, if_true]; exact HTU.out.symm
                            · simp only [e, if_false])
                        refine ⟨vo, vc, (T2 ++ U).length, y10, fun ty => by rw [← HUl.out]; exact hrun ty, X10.c3, D10.c0, L10.cell kk hkk, L10.free kk hkk, ⟨_, hst, X10.same (by simp) ((Others.setCell y10 g kk _).block o (Ne.symm hgo)), fun i hi => ?_, ((hbw5.trans (B10.mono S5)).setCell (p := ⟨g, kk, none⟩) L5.bs _)⟩⟩
                        by_cases e : i = kk
                        · simp only [e, if_true]
                          exact fun h => by have := hlo _ h; omega
                        · simp only [e, if_false]
                          exact hVk.out i hi
                      have q3 := Xd.c3
                      have q0 := Dd.c0
                      rw [eV] at HK
                      have hoc := O5.own.2
                      clear B8 B9 Bd Od Ld Xd Dd hg9 bn8 hO8 hO9 D8 d0 d1 d2 d3 d4 bd L5 X5 D5 hbw5 HTU HIX HTl row5
                      rcases hoc with ⟨e1, e2⟩ | ⟨gl, cap', cur, e1, _, _, _, _⟩
                      · injection e1 with e1 e3 e4
                        subst e1 e4
                        obtain rfl : ix = 0 := by omega
                        obtain ⟨vo, vc, n3, y10, hrun, g3, g0, gk, gf, HF⟩ := HK.out none 0 ⟨fun i hi => by have := HUl.out; omega, .inl (by have := HUl.out; omega)⟩
                        rw [show (LLk kk).length - 0 = 0 by omega] at hrun
                        clear HK rowd
                        go_region_law (first | (refine step_append_run (by rfl) (.tmp 169) (.tmp 172) 71 (by rfl) (.slice qo T2.length qc) (.slice none 0 0) (.slice vo n3 vc) (by simp [Act.eval, Act.put]) (by simp [Act.eval, Act.put]) y10 hrun ?_) | fail)
                        all_goals
                          go_wp2_with fail
                          go_meet
                          case rel => exact HF.out
                      · injection e1 with e1 e3 e4
                        subst e1 e4
                        by_cases hcq : sc = ix
                        · subst hcq
                          obtain ⟨vo, vc, n3, y10, hrun, g3, g0, gk, gf, HF⟩ := HK.out (some ⟨gl, 0, none⟩) 0 ⟨fun i hi => by have := HUl.out; omega, .inl (by have := HUl.out; omega)⟩
                          rw [show (LLk kk).length - sc = 0 by omega] at hrun
                          clear HK rowd
                          go_region_law (first | (refine step_append_run (by rfl) (.tmp 169) (.tmp 172) 71 (by rfl) (.slice qo T2.length qc) (.slice (some ⟨gl, 0, none⟩) 0 0) (.slice vo n3 vc) (by simp [Act.eval, Act.put]) (by simp [Act.eval, Act.put]) y10 hrun ?_) | fail)
                          all_goals
                            go_wp2_with fail
                            go_meet
                            case rel => exact HF.out
                        · have hrd := rowd.drop ix
                          rw [HU.out, Nat.zero_add] at hrd
                          obtain ⟨vo, vc, n3, y10, hrun, g3, g0, gk, gf, HF⟩ := HK.out (some ⟨gl, ix * 4, none⟩) (sc - ix) hrd
                          have hlc : ix < sc := by omega
                          clear HK rowd hrd
                          go_region_law (first | (refine step_append_run (by rfl) (.tmp 169) (.tmp 172) 71 (by rfl) (.slice qo T2.length qc) (.slice (some ⟨gl, ix * 4, none⟩) ((LLk kk).length - ix) (sc - ix)) (.slice vo n3 vc) (by simp [Act.eval, Act.put]) (by simp [Act.eval, Act.put]) y10 hrun ?_) | fail)
                          all_goals
                            go_wp2_with fail
                            go_meet
                            case rel => exact HF.out
                  case rest =>
                    obtain ⟨V2, L2, X2, hV2, hbx⟩ := hcut
                    clear Lk Xk hVk hbk bwr e0 e1 e2 e3 e4
                    go_wp2
                    go_roundw
                    case rel => exact ⟨k + 1, V2, _, by omega, by go_num, L2, X2, hV2, hl2, hbx, HS⟩
                    case measure => simp [intOf]; omega
                · obtain rfl : k = A.length := by omega
                  have Z10 := Z9.same hbk.size (hbk.block _ hb2)
                  have La := Lk.congr (V' := V) (LL' := fun i => apL LL D A i) (fun i hi => by have := HE.out i hi; rw [List.take_length] at this; exact this)
                  have hll : Hid (∀ i, i < 3 → (apL LL D A i).length ≤ 100) := fun i hi => by have := HE.out i hi; rw [List.take_length] at this; rw [← this]; have := hlk.out i hi; omega
                  have hfn : fN nx = true := HNX.out
                  have bd := (Below.refl wr.heap.size wr).drew
                  have hgv := goodVersion_spec nx lg sq (some ⟨g, 0, none⟩) 3 3 (fun i => mL (apL LL D A i)) (fun i => (apL LL D A i).length) wr.drew ((La.keep bd).vrow (fun i hi => by have := hll.out i hi; omega)) (by omega) (sum3 rfl (fun i hi => by have := hll.out i hi; omega)) (by simp only [fN, btw, Bool.and_eq_true, decide_eq_true_eq] at hfn; omega)
                  have Xd := Xk.keep bd
                  have Zd := Z10.keep bd
                  have Ld := La.keep bd
                  have bwd := bwr.trans (bd.mono bwr.size)
                  clear z0 z1 z2 z3 f0 f1 f2 f3 lz Z9 Lk HE hlk hbk
                  obtain ⟨lo', o0, o1, o2, o3⟩ := id Xd
                  obtain ⟨_, p0, p1, p2, p3⟩ := id Xk
                  clear hfn
                  go_upto_region 48 with fail
                  go_region_with (first | (go_at_call 17; refine hgv.mono ?_; rintro e w11 ⟨g11, rfl, q11', h11⟩; have q11 : Hid (g11 = true ↔ GoodVP nx lg sq 3 (fun i => mL (apL LL D A i)) (fun i => (apL LL D A i).length)) := q11'; have Z11 := Zd.keep h11; have X11 := Xd.keep h11; have L11 := Ld.keep h11; have bw11 := bwd.trans (h11.mono bwd.size); obtain ⟨_, r0, r1, r2, r3⟩ := id X11; obtain ⟨⟨_, z0, z1, z2, z3⟩, zf⟩ := id Z11; have f0 := zf 0; have f1 := zf 1; have f2 := zf 2; have f3 := zf 3; clear q11' h11 hgv zf))
                  all_goals
                    have hVA : ∀ W, w11.heap.size = W.heap.size → (∀ c, base ≤ c → W.heap[c]? = w11.heap[c]?) → LvA W w.heap.size (some ⟨g, 0, none⟩) (apL LL D A) := fun W hs hc => ⟨g, _, rfl, (L11.same2 (W := W) (by omega) (fun c h1 _ => hc c h1)).mono2 (by omega)⟩
                    cases g11
                    · have HN : Hid (¬ GoodA2 vx vs LL nx lg sq D A) := fun h => by have := q11.out.2 h.2.2.2; cases this
                      go_wp2
                      refine bodyPost_ret (v := .tuple #[.agg #[.int .i64 nx, .int .i64 lg, .int .i64 sq, .slice (some ⟨g, 0, none⟩) 3 3], .bool false]) (by simp [results, Try.results19, go_sem, z0, z1, z2, z3]) rfl (.inr ⟨HN.out, _, _, _, _, _, _, rfl, ?_⟩)
                      repeat' refine Below.setCell ?_ (by first | (simp; done) | (simp; omega)) _
                      exact bw11
                    · have HY : Hid (GoodA2 vx vs LL nx lg sq D A) := ⟨by omega, by omega, hok.out, q11.out.1 rfl⟩
                      go_wp2
                      refine bodyPost_ret (v := .tuple #[.agg #[.int .i64 nx, .int .i64 lg, .int .i64 sq, .slice (some ⟨g, 0, none⟩) 3 3], .bool true]) (by simp [results, Try.results19, go_sem, z0, z1, z2, z3]) rfl (.inl ⟨HY.out, some ⟨g, 0, none⟩, 3, rfl, Nat.le_refl _, ?_, ?_⟩)
                      · refine hVA _ (by simp) fun c hc => ?_
                        repeat' refine (Below.heap_setCell _ _ _ _ (by first | omega | (dsimp only; omega))).trans ?_
                        rfl
                      · repeat' refine Below.setCell ?_ (by first | (simp; done) | (simp; omega)) _
                        exact bw11
            · have HN : Hid (¬ GoodA2 vx vs LL nx lg sq D A) := fun h => hcc (Hiff.out.2 h.2.2.1)
              have heb : ((c0 : Int) == (D.length : Int)) = false := beq_eq_false_iff_ne.2 (by omega)
              have hec : ((c0 : Int) != (D.length : Int)) = true := by rw [bne, heb]; rfl
              clear hcc
              go_wp2
              refine bodyPost_ret (v := .tuple #[.agg #[.int .i64 vx, .int .i64 vl, .int .i64 vs, .slice ao 3 cap], .bool false]) (by simp [results, Try.results19, go_sem, z0, z1, z2, z3]) rfl (.inr ⟨HN.out, _, _, _, _, _, _, rfl, ?_⟩)
              repeat' refine Below.setCell ?_ (by first | (simp; done) | (simp; omega)) _
              exact bwj
end Go.Proofs.Ytagkhohglpjjlaa
