/- markEntryS. -/
import Derived.Test.YtfdbhkjmkpgomaaCe
namespace Go.Proofs.Ytfdbhkjmkpgomaa
open Go.RowKit
set_option linter.unusedSimpArgs false
set_option linter.unusedVariables false

theorem CE.congr {w : World} {b n : Nat} {X X' : Nat → Ent} {L : Nat → Option Addr} {C : Nat → Nat} (h : CE w b n X L C) (e : ∀ i, i < n → X i = X' i) : CE w b n X' L C :=
  ⟨h.lt, fun i hi => by rw [← e i hi]; exact h.ent i hi, h.free, fun i hi => by rw [← e i hi]; exact h.hist i hi, fun i j hi hj hij => by rw [← e i hi, ← e j hj]; exact h.dis i j hi hj hij⟩
/-- The next mark behind the first i entries. -/
def kOf (X : Nat → Ent) (k0 : Nat) : Nat → Nat
  | 0 => k0
  | i + 1 => kOf X k0 i + 8 + (X i).n
theorem kOf_mono (X : Nat → Ent) (k0 : Nat) : ∀ {i j : Nat}, i ≤ j → kOf X k0 i ≤ kOf X k0 j
  | i, 0, h => by rw [show i = 0 by omega]; exact Nat.le_refl _
  | i, j + 1, h => by
    by_cases e : i = j + 1
    · rw [e]; exact Nat.le_refl _
    · have := kOf_mono X k0 (show i ≤ j by omega)
      show _ ≤ kOf X k0 j + 8 + (X j).n
      omega
theorem kOf_ge (X : Nat → Ent) (k0 i : Nat) : k0 ≤ kOf X k0 i := kOf_mono X k0 (Nat.zero_le i)

set_option maxHeartbeats 400000 in
theorem markI_zero (ao : Option Addr) (cap : Nat) (q : Int) (w : World) :
    Calls Try.prog 35 #[.slice ao 0 cap, .int .i64 q] w fun e w' => e = .returned (.int .i64 q) ∧ w' = w := by
  go_enter Try.func35, Try.ntmps35
  go_wp2
  go_loopw [1, 5] (fun p i wr => i = .int .i64 0 ∧ p = .int .i64 q ∧ wr = w) (fun _ _ _ => 0)
  case atStart => exact ⟨rfl, rfl, rfl⟩
  case round =>
    obtain ⟨rfl, rfl, rfl⟩ := hrel
    go_wp2
    go_ret
    exact ⟨rfl, rfl⟩

set_option maxRecDepth 100000 in
set_option maxHeartbeats 4000000 in
theorem markEntryS_any (b n cap k0 : Nat) (X : Nat → Ent) (L : Nat → Option Addr) (C : Nat → Nat) (w : World) (h : CE w b n X L C) (hk0 : 1 ≤ k0) (hz : ∀ i, i < n → (X i).n ≤ 1048576) (hn : n ≤ 1048576) (hbd : kOf X k0 n ≤ 16000000) :
    Calls Try.prog 14 #[.slice (some ⟨b, 0, none⟩) n cap, .int .i64 k0] w fun e w' => e = .returned (.int .i64 (kOf X k0 n : Int)) ∧ CE w' b n (fun i => if i < n then mkE (kOf X k0 i) (X i) else X i) L C ∧ CO b n X L w w' := by
  go_enter Try.func14, Try.ntmps14
  go_wp2
  go_loopw [1, 5] (fun q i wr => ∃ k : Nat, k ≤ n ∧ i = .int .i64 k ∧ q = .int .i64 (kOf X k0 k : Int) ∧ CE wr b n (fun i => if i < k then mkE (kOf X k0 i) (X i) else X i) L C ∧ CO b n X L w wr) (fun _ i _ => n - (intOf i).toNat)
  case atStart => exact ⟨0, Nat.zero_le _, rfl, rfl, by simpa using h, CO.refl _ _ _ _ _⟩
  case round =>
    obtain ⟨k, hk, rfl, rfl, hC, hCO⟩ := hrel
    clear h
    by_cases hlt : k < n
    · have hkb := kOf_mono X k0 (show k + 1 ≤ n by omega)
      have hkg := kOf_ge X k0 k
      have hks : kOf X k0 (k + 1) = kOf X k0 k + 8 + (X k).n := rfl
      have hzk := hz k hlt
      obtain ⟨kk, hkk⟩ : ∃ kk, kk = kOf X k0 k := ⟨_, rfl⟩
      rw [← hkk] at hkg hks ⊢
      have HK : Hid (kk = kOf X k0 k) := hkk
      have HKS : Hid (kOf X k0 (k + 1) = kk + 8 + (X k).n) := hks
      have hkt : kk + 8 + (X k).n ≤ 16000000 := by omega
      clear hkk hks hkb
      have hwn : IntKind.i64.wrap ((kk : Int) + 7 + ((X k).n : Int) + 1) = (kk : Int) + 7 + ((X k).n : Int) + 1 := by rw [IntKind.wrap_i64] <;> omega
      have hw1 : IntKind.i64.wrap ((kk : Int) + 1) = (kk : Int) + 1 := by rw [IntKind.wrap_i64] <;> omega
      have hw2 : IntKind.i64.wrap ((kk : Int) + 1 + 1) = (kk : Int) + 2 := by rw [IntKind.wrap_i64] <;> omega
      have hw3 : IntKind.i64.wrap ((kk : Int) + 2 + 1) = (kk : Int) + 3 := by rw [IntKind.wrap_i64] <;> omega
      have hw4 : IntKind.i64.wrap ((kk : Int) + 3 + 1) = (kk : Int) + 4 := by rw [IntKind.wrap_i64] <;> omega
      have hw5 : IntKind.i64.wrap ((kk : Int) + 4 + 1) = (kk : Int) + 5 := by rw [IntKind.wrap_i64] <;> omega
      have hw6 : IntKind.i64.wrap ((kk : Int) + 5 + 1) = (kk : Int) + 6 := by rw [IntKind.wrap_i64] <;> omega
      have hw7 : IntKind.i64.wrap ((kk : Int) + 6 + 1) = (kk : Int) + 7 := by rw [IntKind.wrap_i64] <;> omega
      go_wp2_with fail
      refine (markText_any (kk : Int) _ (by omega) (by omega)).mono ?_
      rintro e w1 ⟨rfl, hb1⟩
      have h1 := hC.keep hb1
      have e1 := h1.ent k hlt
      simp only [Nat.lt_irrefl, if_false] at e1
      obtain ⟨_, c0, c1, c2, c3, c4, c5, c6, c7, c8⟩ := e1
      have f0 := h1.free (k * 9) (by omega)
      have f1 := h1.free (k * 9 + 1) (by omega)
      have f2 := h1.free (k * 9 + 2) (by omega)
      have f3 := h1.free (k * 9 + 3) (by omega)
      have f4 := h1.free (k * 9 + 4) (by omega)
      have f5 := h1.free (k * 9 + 5) (by omega)
      have f6 := h1.free (k * 9 + 6) (by omega)
      have f7 := h1.free (k * 9 + 7) (by omega)
      have f8 := h1.free (k * 9 + 8) (by omega)
      have CO1 : CO b n X L w w1 := hCO.trans (CO.of_below hb1)
      clear hb1 hC hCO
      obtain ⟨w2, hw2⟩ : ∃ w2, w2 = w1.setCells b (k * 9) [.string (mt (kk : Int)), .int .i64 ((kk : Int) + 1), .int .i64 ((kk : Int) + 2), .int .i64 ((kk : Int) + 3), .int .i64 ((kk : Int) + 4), .int .i64 ((kk : Int) + 5), .int .i64 ((kk : Int) + 6)] := ⟨_, rfl⟩
      have ot2 : Others b w1 w2 := by rw [hw2]; exact setCells_others _ _ _ _
      have in2 : ∀ j (hj : j < 7), w2.cell? ⟨b, k * 9 + j, none⟩ = some (([.string (mt (kk : Int)), .int .i64 ((kk : Int) + 1), .int .i64 ((kk : Int) + 2), .int .i64 ((kk : Int) + 3), .int .i64 ((kk : Int) + 4), .int .i64 ((kk : Int) + 5), .int .i64 ((kk : Int) + 6)] : List Value)[j]'(by simpa using hj)) := fun j hj => by
        rw [hw2]
        exact World.cell?_setCells_in b [.string (mt (kk : Int)), .int .i64 ((kk : Int) + 1), .int .i64 ((kk : Int) + 2), .int .i64 ((kk : Int) + 3), .int .i64 ((kk : Int) + 4), .int .i64 ((kk : Int) + 5), .int .i64 ((kk : Int) + 6)] (k * 9) w1 (fun q hq => by
          have hq' : q < 7 := by simpa using hq
          have : q = 0 ∨ q = 1 ∨ q = 2 ∨ q = 3 ∨ q = 4 ∨ q = 5 ∨ q = 6 := by omega
          rcases this with rfl | rfl | rfl | rfl | rfl | rfl | rfl
          · rw [Nat.add_zero, c0]; rfl
          · rw [c1]; rfl
          · rw [c2]; rfl
          · rw [c3]; rfl
          · rw [c4]; rfl
          · rw [c5]; rfl
          · rw [c6]; rfl) j (by simpa using hj)
      have out2 : ∀ j, j < k * 9 ∨ k * 9 + 7 ≤ j → w2.cell? ⟨b, j, none⟩ = w1.cell? ⟨b, j, none⟩ := fun j hj => by
        rw [hw2]
        exact World.cell?_setCells_out b [.string (mt (kk : Int)), .int .i64 ((kk : Int) + 1), .int .i64 ((kk : Int) + 2), .int .i64 ((kk : Int) + 3), .int .i64 ((kk : Int) + 4), .int .i64 ((kk : Int) + 5), .int .i64 ((kk : Int) + 6)] (k * 9) w1 ⟨b, j, none⟩ (fun _ _ => by simpa using hj)
      have fz2 : ∀ a, w2.frozen? a = w1.frozen? a := fun a => by rw [hw2]; exact World.frozen?_setCells b _ _ _ a
      have hmark : Calls Try.prog 35 #[.slice (L k) (X k).n (C k), .int .i64 ((kk : Int) + 7)] w2 fun e w' => e = .returned (.int .i64 ((kk : Int) + 7 + ((X k).n : Int))) ∧ ((X k).n = 0 ∧ w' = w2 ∨ 0 < (X k).n ∧ ∃ g, L k = some ⟨g, 0, none⟩ ∧ g ≠ b ∧ Others g w2 w' ∧ ∃ fy, IOwn w' g 0 (X k).n fy ∧ ∀ i, i < (X k).n → fy i = (kk : Int) + 7 + i) := by
        by_cases hn0 : (X k).n = 0
        · rw [hn0]
          refine (markI_zero (L k) (C k) _ w2).mono ?_
          rintro e w' ⟨rfl, rfl⟩
          exact ⟨by simp, .inl ⟨rfl, rfl⟩⟩
        · have hh := h1.hist k hlt
          simp only [Nat.lt_irrefl, if_false] at hh
          obtain ⟨g, hg1, hg2, hg3⟩ := hh.resolve_left hn0
          have hsl : Value.slice (L k) (X k).n (C k) = .slice (some ⟨g, 0, none⟩) (X k).n (C k) := by rw [hg1]
          rw [hsl]
          have := markI_any g 0 (X k).n (C k) (X k).f (kk + 7) w2 (ot2.irow hg3 hg2) hzk (by omega)
          rw [show (((kk + 7 : Nat)) : Int) = (kk : Int) + 7 from by omega] at this
          refine this.mono ?_
          rintro e w' ⟨rfl, ⟨fy, h3, h4⟩, h5⟩
          exact ⟨by rw [show (((kk + 7 + (X k).n : Nat)) : Int) = (kk : Int) + 7 + ((X k).n : Int) from by rw [Int.natCast_add, Int.natCast_add]; rfl], .inr ⟨Nat.pos_of_ne_zero hn0, g, hg1, hg2, h5, fy, h3, fun i hi => by rw [h4 i hi, Int.natCast_add, Int.natCast_add]; rfl⟩⟩
      go_wp2_with fail
      change Calls Try.prog 35 _ (w1.setCells b (k * 9) [.string (mt (kk : Int)), .int .i64 ((kk : Int) + 1), .int .i64 ((kk : Int) + 2), .int .i64 ((kk : Int) + 3), .int .i64 ((kk : Int) + 4), .int .i64 ((kk : Int) + 5), .int .i64 ((kk : Int) + 6)]) _
      rw [← hw2]
      refine hmark.mono ?_
      rintro e w3 ⟨rfl, h3⟩
      have cb3 : ∀ j, w3.cell? ⟨b, j, none⟩ = w2.cell? ⟨b, j, none⟩ := fun j => by
        rcases h3 with ⟨_, rfl⟩ | ⟨_, g, _, hg, ho, _⟩
        · rfl
        · exact World.cell?_of_block (w := w2) (a := ⟨b, j, none⟩) (ho.block b (Ne.symm hg))
      have fb3 : ∀ j, w3.frozen? ⟨b, j, none⟩ = w2.frozen? ⟨b, j, none⟩ := fun j => by
        rcases h3 with ⟨_, rfl⟩ | ⟨_, g, _, hg, ho, _⟩
        · rfl
        · exact World.frozen?_of_block (w := w2) (a := ⟨b, j, none⟩) (ho.block b (Ne.symm hg))
      have d8 : w3.cell? ⟨b, k * 9 + 3 + 5, none⟩ = some (.bool (X k).fu) := by rw [show k * 9 + 3 + 5 = k * 9 + 8 from rfl, cb3, out2 _ (by omega), c8]
      have g8 : w3.frozen? ⟨b, k * 9 + 3 + 5, none⟩ = false := by rw [show k * 9 + 3 + 5 = k * 9 + 8 from rfl, fb3, fz2, f8]
      have hfin : CE (w3.setCell ⟨b, k * 9 + 3 + 5, none⟩ (.bool (((kk : Int) + 7 + ((X k).n : Int)) % 3 == 0))) b n (fun i => if i < k + 1 then mkE (kOf X k0 i) (X i) else X i) L C := by
        have hput := CE.put (w2 := w3.setCell ⟨b, k * 9 + 3 + 5, none⟩ (.bool (((kk : Int) + 7 + ((X k).n : Int)) % 3 == 0))) (y := mkE (kk : Int) (X k)) h1 hlt (by simp [mkE]) (by
            have := ot2.size
            rcases h3 with ⟨_, rfl⟩ | ⟨_, g, _, hg, ho, _⟩
            · simp; omega
            · have := ho.size; simp; omega) (by
            have q : ∀ j, j < 8 → (w3.setCell ⟨b, k * 9 + 3 + 5, none⟩ (.bool (((kk : Int) + 7 + ((X k).n : Int)) % 3 == 0))).cell? ⟨b, k * 9 + j, none⟩ = w2.cell? ⟨b, k * 9 + j, none⟩ := fun j hj => by
              rw [World.cell?_setCell_other _ _ _ _ (by intro hh; injection hh with _ h2 _; omega), cb3]
            refine ⟨by have := h1.lt; have := ot2.size; rcases h3 with ⟨_, rfl⟩ | ⟨_, g, _, hg, ho, _⟩; (simp; omega); (have := ho.size; simp; omega), ?_, ?_, ?_, ?_, ?_, ?_, ?_, ?_, ?_⟩
            · exact (q 0 (by omega)).trans (in2 0 (by omega))
            · exact (q 1 (by omega)).trans (in2 1 (by omega))
            · exact (q 2 (by omega)).trans (in2 2 (by omega))
            · exact (q 3 (by omega)).trans (in2 3 (by omega))
            · exact (q 4 (by omega)).trans (in2 4 (by omega))
            · exact (q 5 (by omega)).trans (in2 5 (by omega))
            · exact (q 6 (by omega)).trans (in2 6 (by omega))
            · rw [q 7 (by omega), out2 _ (by omega), c7]; rfl
            · exact World.cell?_setCell_same _ _ _ d8) (fun j => by rw [World.frozen?_setCell, fb3, fz2]) (fun j hj => by
            rw [World.cell?_setCell_other _ _ _ _ (by intro hh; injection hh with _ h2 _; omega), cb3, out2 _ (by omega)]) (by
            rcases h3 with ⟨h0, _⟩ | ⟨h0, g, hL, hg, ho, fy, hI, hfy⟩
            · exact .inl h0
            · exact .inr ⟨g, hL, hg, (Others.setCell _ _ _ _).irow (hI.congr (fun i => by simp only [mkE]; split <;> omega) (fun i hi => by rw [hfy i hi]; simp [mkE, hi])) hg⟩) (fun i g' hi hik h0 hL' hgb => by
            rw [(Others.setCell w3 b _ _).block g' hgb]
            rcases h3 with ⟨_, rfl⟩ | ⟨hp, g, hL, hg, ho, _⟩
            · exact ot2.block g' hgb
            · have hne : g' ≠ g := fun e => by
                subst e
                have hN : ∀ j, ((if j < k then mkE (kOf X k0 j) (X j) else X j) : Ent).n = (X j).n := fun j => by split <;> rfl
                exact h1.dis i k hi hlt hik h0 (by rw [hN]; exact hp) g' hL' hL
              rw [ho.block g' hne, ot2.block g' hgb])
        have hk' := HK.out
        refine hput.congr (fun i _ => ?_)
        by_cases e : i = k
        · subst e; simp [← hk']
        · by_cases e2 : i < k
          · simp [e, e2, show i < k + 1 by omega]
          · simp [e, e2, show ¬ i < k + 1 by omega]
      have hco : CO b n X L w (w3.setCell ⟨b, k * 9 + 3 + 5, none⟩ (.bool (((kk : Int) + 7 + ((X k).n : Int)) % 3 == 0))) := by
        refine ((CO1.trans (CO.of_others ot2)).trans ?_).trans (CO.of_others (Others.setCell _ _ _ _))
        rcases h3 with ⟨_, rfl⟩ | ⟨hp, g, hL, hg, ho, _⟩
        · exact CO.refl _ _ _ _ _
        · exact CO.of_list ho hlt hp hL
      clear hmark c0 c1 c2 c3 c4 c5 c6 c7 c8 f0 f1 f2 f3 f4 f5 f6 f7 f8 hw2 cb3 fb3 in2 out2 fz2 h3 h1 ot2 CO1
      go_wp2
      go_roundw
      case rel => exact ⟨k + 1, by omega, by go_num, by rw [HKS.out]; congr 1; omega, hfin, hco⟩
      case measure => simp [intOf]; omega
    · have e : k = n := by omega
      subst e
      go_wp2
      go_ret
      exact ⟨rfl, hC, hCO⟩
end Go.Proofs.Ytfdbhkjmkpgomaa
