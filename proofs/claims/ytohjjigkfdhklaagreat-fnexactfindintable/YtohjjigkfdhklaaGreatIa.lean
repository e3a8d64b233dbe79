/- The model: ReadFilter of bytes that lie anywhere, and l7Filter. -/
import Derived.Test.YtohjjigkfdhklaaGreatDg
import Derived.Test.YtohjjigkfdhklaaGreatDh
import Derived.Deep.RegionHeld3
import Derived.Deep.RegionLaw
import Derived.Deep.AppendLies
namespace Go.Proofs.YtohjjigkfdhklaaGreat
set_option maxRecDepth 100000
open Go.RowKit
set_option linter.unusedSimpArgs false
set_option linter.unusedVariables false

set_option maxRecDepth 100000 in
set_option maxHeartbeats 4000000 in
theorem readFilter_srow (b off n cap : Nat) (f : Nat → Int) (w : World) (hr : Row w (some ⟨b, off, none⟩) n f) (hn : n ≤ 1048576) (hcap : n ≤ cap) :
    Calls Tryz.prog 73 #[.slice (some ⟨b, off, none⟩) n cap] w fun e w' => RFO n f w e w' := by
  obtain ⟨i0, hi, hz0, hz1, hz2⟩ := info_parts Tryz.info5
  by_cases h0 : n = 0
  · subst h0
    go_enter Tryz.func73, Tryz.ntmps73
    go_wp2
    refine bodyPost_ret (v := .tuple #[.agg #[.int .i64 0, .slice none 0 0], .bool false]) (by simp [results, Tryz.results73, go_sem]) rfl ⟨fun h => absurd h.1 (by omega), fun _ => ro_zero ?_⟩
    repeat' refine Below.setCell ?_ (by first | (simp; done) | (simp; omega)) _
    exact below_new w _
  · have hblt := hr.lt (by omega)
    have c0 := hr.cell (i := 0) (by omega)
    have hb0 := hr.bd 0
    have hd1 : ((n : Int) == 0) = false := by simp; omega
    simp only [Nat.add_zero] at c0
    have W0 := below_new w (.cells #[.int .i64 0, .slice none 0 0] 55)
    have Z0 := FAt.new w 0 (.slice none 0 0) 55
    have c1 : (w.alloc (.cells #[.int .i64 0, .slice none 0 0] 55)).cell? ⟨b, off, none⟩ = some (.int .u8 (f 0)) := (W0.cell (p := ⟨b, off, none⟩) hblt).trans c0
    have hn1 : (1 : Int) ≤ (n : Int) := by omega
    have hn2 : 0 < n := by omega
    have hn1' : ¬ (n : Int) < 1 := by omega
    have hwf : IntKind.i64.wrap (f 0) = f 0 := by rw [IntKind.wrap_i64] <;> omega
    have hne := World.new_ne (w.alloc (.cells #[.int .i64 0, .slice none 0 0] 55)) _ c1
    have hfz : ∀ j, (w.alloc (.cells #[.int .i64 0, .slice none 0 0] 55)).frozen? ⟨w.heap.size, j, none⟩ = false := fun j => by simp [go_sem]
    obtain ⟨A, hA⟩ : ∃ A : Option Addr, (if cap = 1 then some ⟨b, off, none⟩ else some ⟨b, off + 1, none⟩) = A := ⟨_, rfl⟩
    have HA : Hid (n ≠ 1 → A = some ⟨b, off + 1, none⟩) := fun h => by rw [← hA, if_neg (by omega)]
    go_enter Tryz.func73, Tryz.ntmps73
    go_wp2
    generalize w.alloc (.cells #[.int .i64 0, .slice none 0 0] 55) = u at *
    have RA : ∀ W, Below u.heap.size u W → Row W A (n - 1) (fun i => f (i + 1)) := fun W hW => by
      refine ⟨fun i => hr.bd (i + 1), ?_⟩
      by_cases h1 : n = 1
      · exact .inl (by omega)
      · refine .inr ⟨b, off + 1, HA.out h1, Nat.lt_of_lt_of_le ((hr.keep W0).lt (by omega)) hW.size, fun i hi => ?_⟩
        rw [show off + 1 + i = off + (i + 1) by omega]
        exact ((hr.keep W0).keep hW).cell (i := i + 1) (by omega)
    have b1 : Below u.heap.size u (u.drew.alloc (.cells #[] 5)) := (Below.refl _ u).drew.alloc (Nat.le_refl _) _
    obtain ⟨g1, c1', w1, hrun1, V1, G1, L1⟩ := copyE_run (u.drew.alloc (.cells #[] 5)) u.heap.size (heap_alloc_new u.drew _) A (n - 1) (cap - 1) _ (RA _ b1) (by omega)
    have b2 : Below u.heap.size u ((u.drew.alloc (.cells #[] 5)).alloc (.cells #[.int .i64 0, .slice none 0 0] 55)) := b1.alloc (by simp) _
    obtain ⟨g2, c2', w2, hrun2, V2, G2, L2⟩ := copyE_run ((u.drew.alloc (.cells #[] 5)).alloc (.cells #[.int .i64 0, .slice none 0 0] 55)) u.heap.size ((Below.heap_alloc _ _ u.heap.size (by simp)).trans (heap_alloc_new u.drew _)) A (n - 1) (cap - 1) _ (RA _ b2) (by omega)
    have b3 : Below u.heap.size u ((u.drew.alloc (.cells #[.int .i64 0, .slice none 0 0] 55)).alloc (.cells #[] 5)) := ((Below.refl _ u).drew.alloc (Nat.le_refl _) _).alloc (by simp) _
    have hx3 : ((u.drew.alloc (.cells #[.int .i64 0, .slice none 0 0] 55)).alloc (.cells #[] 5)).heap[u.heap.size + 1]? = some (.cells #[] 5 (0, 0)) := by
      have := heap_alloc_new (u.drew.alloc (.cells #[.int .i64 0, .slice none 0 0] 55)) (.cells #[] 5)
      simpa using this
    obtain ⟨g3, c3', w3, hrun3, V3, G3, L3⟩ := copyE_run ((u.drew.alloc (.cells #[.int .i64 0, .slice none 0 0] 55)).alloc (.cells #[] 5)) (u.heap.size + 1) hx3 A (n - 1) (cap - 1) _ (RA _ b3) (by omega)
    have K1 : ∀ k, k < u.heap.size → w1.heap[k]? = u.heap[k]? := fun k hk => (G1.block k (by simp; omega) (fun e => by injection e with e; omega)).trans (b1.block k hk)
    have K2 : ∀ k, k < u.heap.size → w2.heap[k]? = u.heap[k]? := fun k hk => (G2.block k (by simp; omega) (fun e => by injection e with e; omega)).trans (b2.block k hk)
    have K3 : ∀ k, k < u.heap.size → w3.heap[k]? = u.heap[k]? := fun k hk => (G3.block k (by simp; omega) (fun e => by injection e with e; omega)).trans (b3.block k hk)
    have bu : b < u.heap.size := (hr.keep W0).lt (by omega)
    have d1 : w1.cell? ⟨b, off, none⟩ = some (.int .u8 (f 0)) := (World.cell?_of_block (w := u) (a := ⟨b, off, none⟩) (K1 b bu)).trans c1
    have d2 : w2.cell? ⟨b, off, none⟩ = some (.int .u8 (f 0)) := (World.cell?_of_block (w := u) (a := ⟨b, off, none⟩) (K2 b bu)).trans c1
    have d3 : w3.cell? ⟨b, off, none⟩ = some (.int .u8 (f 0)) := (World.cell?_of_block (w := u) (a := ⟨b, off, none⟩) (K3 b bu)).trans c1
    have N2 : w2.heap[u.heap.size + 1]? = some (.cells #[.int .i64 0, .slice none 0 0] 55 (0, 0)) := (G2.block (u.heap.size + 1) (by simp) (fun e => by injection e with e; omega)).trans (by
      have := heap_alloc_new (u.drew.alloc (.cells #[] 5)) (.cells #[.int .i64 0, .slice none 0 0] 55)
      simpa using this)
    have N3 : w3.heap[u.heap.size]? = some (.cells #[.int .i64 0, .slice none 0 0] 55 (0, 0)) := (G3.block u.heap.size (by simp; omega) (fun e => by injection e with e; omega)).trans ((Below.heap_alloc _ _ u.heap.size (by simp)).trans (heap_alloc_new u.drew _))
    have n20 : w2.cell? ⟨u.heap.size + 1, 0, none⟩ = some (.int .i64 0) := by rw [cell_of_row _ _ _ _ _ _ N2]; rfl
    have n21 : w2.cell? ⟨u.heap.size + 1, 1, none⟩ = some (.slice none 0 0) := by rw [cell_of_row _ _ _ _ _ _ N2]; rfl
    have m20 : w2.frozen? ⟨u.heap.size + 1, 0, none⟩ = false := frozen_of_row _ _ _ _ _ N2
    have m21 : w2.frozen? ⟨u.heap.size + 1, 1, none⟩ = false := frozen_of_row _ _ _ _ _ N2
    have n30 : w3.cell? ⟨u.heap.size, 0, none⟩ = some (.int .i64 0) := by rw [cell_of_row _ _ _ _ _ _ N3]; rfl
    have n31 : w3.cell? ⟨u.heap.size, 1, none⟩ = some (.slice none 0 0) := by rw [cell_of_row _ _ _ _ _ _ N3]; rfl
    have m30 : w3.frozen? ⟨u.heap.size, 0, none⟩ = false := frozen_of_row _ _ _ _ _ N3
    have m31 : w3.frozen? ⟨u.heap.size, 1, none⟩ = false := frozen_of_row _ _ _ _ _ N3
    have e1 : (w1.alloc (.cells #[.int .i64 0, .slice none 0 0] 55)).cell? ⟨b, off, none⟩ = some (.int .u8 (f 0)) := ((below_new w1 _).cell (p := ⟨b, off, none⟩) (lt_cell d1)).trans d1
    clear N2 N3
    have hzu : w.heap.size < u.heap.size := Z0.lt
    have S1 := G1.size
    have S2 := G2.size
    have S3 := G3.size
    simp at S1 S2 S3
    have E1 : Hid (RE w f n w1.heap.size g1 c1' (w1.alloc (.cells #[.int .i64 (f 0), .slice g1 (n - 1) c1'] 55))) := re_new W0 hzu Z0 hfz K1 (G1.os.trans b1.os) (G1.tape.trans b1.tape) (G1.output.trans b1.output) (by omega) V1 (Nat.le_refl _)
    have E2 : Hid (RE w f n (u.heap.size + 1) g2 c2' ((w2.setCell ⟨u.heap.size + 1, 0, none⟩ (.int .i64 (f 0))).setCell ⟨u.heap.size + 1, 1, none⟩ (.slice g2 (n - 1) c2'))) := re_set W0 hzu Z0 hfz K2 (G2.os.trans b2.os) (G2.tape.trans b2.tape) (G2.output.trans b2.output) (by omega) V2 (Nat.le_refl _) (by omega) (by omega) (fun o e => by
      have hu : u.drew.heap.size = u.heap.size := rfl
      rcases L2 o e with h | h
      · omega
      · rw [World.size_alloc, World.size_alloc] at h; omega) n20 n21
    have E3 : Hid (RE w f n u.heap.size g3 c3' ((w3.setCell ⟨u.heap.size, 0, none⟩ (.int .i64 (f 0))).setCell ⟨u.heap.size, 1, none⟩ (.slice g3 (n - 1) c3'))) := re_set W0 hzu Z0 hfz K3 (G3.os.trans b3.os) (G3.tape.trans b3.tape) (G3.output.trans b3.output) (by omega) V3 (by omega) (by omega) (by omega) (fun o e => by
      have hu : u.drew.heap.size = u.heap.size := rfl
      rcases L3 o e with h | h
      · omega
      · rw [World.size_alloc, World.size_alloc] at h; omega) n30 n31
    obtain ⟨W1, eW1⟩ : ∃ W1, w1.alloc (.cells #[.int .i64 (f 0), .slice g1 (n - 1) c1'] 55) = W1 := ⟨_, rfl⟩
    obtain ⟨W2, eW2⟩ : ∃ W2, (w2.setCell ⟨u.heap.size + 1, 0, none⟩ (.int .i64 (f 0))).setCell ⟨u.heap.size + 1, 1, none⟩ (.slice g2 (n - 1) c2') = W2 := ⟨_, rfl⟩
    obtain ⟨W3, eW3⟩ : ∃ W3, (w3.setCell ⟨u.heap.size, 0, none⟩ (.int .i64 (f 0))).setCell ⟨u.heap.size, 1, none⟩ (.slice g3 (n - 1) c3') = W3 := ⟨_, rfl⟩
    rw [eW1] at E1
    rw [eW2] at E2
    rw [eW3] at E3
    have Q1 : Hid (_ = W1) := eW1
    have Q2 : Hid (_ = W2) := eW2
    have Q3 : Hid (_ = W3) := eW3
    clear eW1 eW2 eW3 b1 b2 b3 K1 K2 K3 V1 V2 V3 G1 G2 G3 L1 L2 L3 S1 S2 S3 RA
    go_region_law (first
      | (refine step_append_run (by rfl) (.tmp 13) (.tmp 15) 22 (by rfl) (.slice (some ⟨u.heap.size, 0, none⟩) 0 0) (.slice A (n - 1) (cap - 1)) (.slice g1 (n - 1) c1') (by simp [Act.eval, Act.put]) (by simp [Act.eval, Act.put]) w1 hrun1 ?_)
      | (refine step_append_run (by rfl) (.tmp 13) (.tmp 15) 22 (by rfl) (.slice (some ⟨u.heap.size, 0, none⟩) 0 0) (.slice A (n - 1) (cap - 1)) (.slice g2 (n - 1) c2') (by simp [Act.eval, Act.put]) (by simp [Act.eval, Act.put]) w2 hrun2 ?_)
      | (refine step_append_run (by rfl) (.tmp 13) (.tmp 15) 22 (by rfl) (.slice (some ⟨u.heap.size + 1, 0, none⟩) 0 0) (.slice A (n - 1) (cap - 1)) (.slice g3 (n - 1) c3') (by simp [Act.eval, Act.put]) (by simp [Act.eval, Act.put]) w3 hrun3 ?_))
    all_goals first
      | (rw [Q1.out]; have HE := E1.out; generalize w1.heap.size = p4 at HE ⊢; generalize g1 = g at HE ⊢; generalize c1' = c at HE ⊢; generalize W1 = W at HE ⊢)
      | (rw [Q2.out]; have HE := E2.out; generalize u.heap.size + 1 = p4 at HE ⊢; generalize g2 = g at HE ⊢; generalize c2' = c at HE ⊢; generalize W2 = W at HE ⊢)
      | (rw [Q3.out]; have HE := E3.out; generalize u.heap.size = p4 at HE ⊢; generalize g3 = g at HE ⊢; generalize c3' = c at HE ⊢; generalize W3 = W at HE ⊢)
    all_goals
      clear E1 E2 E3 Q1 Q2 Q3 hrun1 hrun2 hrun3 d1 d2 d3 e1 n20 n21 n30 n31 m20 m21 m30 m31 hA HA hfz Z0 W0 c1 hne bu hzu
      obtain ⟨F1, Z1, fz1, V1, B1⟩ := HE
      obtain ⟨lf, f0, f1⟩ := id F1
      go_wp2_with fail
      refine (goodFilter_spec (f 0) g (n - 1) c _ (by omega)).mono ?_
      rintro e w5 ⟨b5, rfl, h5, q5⟩
      have Z5 := Z1.keep q5
      have F5 := F1.keep q5
      have V5 := V1.keep q5
      have B5 : Below w.heap.size w w5 := B1.trans (q5.mono B1.size)
      have g0 : w5.frozen? ⟨w.heap.size, 0, none⟩ = false := (q5.frozen (p := ⟨w.heap.size, 0, none⟩) Z1.lt).trans (fz1 0)
      have g1 : w5.frozen? ⟨w.heap.size, 1, none⟩ = false := (q5.frozen (p := ⟨w.heap.size, 1, none⟩) Z1.lt).trans (fz1 1)
      clear Z1 F1 V1 B1 fz1 q5 lf f0 f1
      obtain ⟨lz, z0, z1⟩ := id Z5
      obtain ⟨lf, f0, f1⟩ := id F5
      cases b5
      · have K : Hid (¬ IsFl n f) := fun h => by
          have := h5.2 h.2
          cases this
        clear h5
        go_wp2
        refine bodyPost_ret (v := .tuple #[.agg #[.int .i64 0, .slice none 0 0], .bool false]) (by simp [results, Tryz.results73, go_sem, z0, z1]) rfl ⟨fun h => absurd h K.out, fun _ => ro_zero ?_⟩
        repeat' refine Below.setCell ?_ (by first | (simp; done) | (simp; omega)) _
        exact B5
      · have HG : Hid (IsFl n f) := ⟨by omega, h5.1 rfl⟩
        clear h5
        go_wp2
        refine bodyPost_ret (v := .tuple #[.agg #[.int .i64 (f 0), .slice g (n - 1) c], .bool true]) (by simp [results, Tryz.results73, go_sem, z0, z1]) rfl ⟨fun _ => ?_, fun h => absurd HG.out h⟩
        refine ⟨g, c, by rw [ffl_len], ⟨V5.bd, Nat.le_refl _, ?_⟩, ?_⟩
        · rcases V5.is with h0 | ⟨q, off, e, h1, h2, ho⟩
          · exact .inl h0
          · refine .inr ⟨q, off, e, by omega, by simp; exact ho.lt, ?_⟩
            repeat' refine (Others.setCell _ _ _ _).row ?_ (by omega)
            exact ho
        · repeat' refine Below.setCell ?_ (by first | (simp; done) | (simp; omega)) _
          exact B5
end Go.Proofs.YtohjjigkfdhklaaGreat
