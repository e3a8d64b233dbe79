/- Numbers of varying length: what ReadVar reads. / ReadVar, the program. -/
import Derived.Test.YtpdgklgjfpkmbaaGreatIL
import Derived.OpenShut
namespace Go.Proofs.YtpdgklgjfpkmbaaGreat
set_option maxRecDepth 100000
open Go.RowKit
set_option linter.unusedSimpArgs false
set_option linter.unusedVariables false

def rvStep (acc x : Int) (k : Nat) : Int := bits .or .u64 acc (IntKind.u64.wrap (IntKind.u64.wrap (bits .and .u8 x 127) * 2 ^ (7 * k)))
/-- What is read from round k on; (0, 0) where there is no number. -/
def rv (f : Nat → Int) (n q : Nat) : Nat → Nat → Int → Int × Int
  | 0, _, _ => (0, 0)
  | t + 1, k, acc =>
    if q + k < n then
      (if k = 9 ∧ 1 < f (q + k) then (0, 0)
       else if f (q + k) < 128 then (if 0 < k ∧ f (q + k) = 0 then (0, 0) else (rvStep acc (f (q + k)) k, (q : Int) + k + 1))
       else rv f n q t (k + 1) (rvStep acc (f (q + k)) k))
    else (0, 0)
def rvAll (f : Nat → Int) (n q : Nat) : Int × Int := rv f n q 10 0 0

theorem rv_end (f : Nat → Int) (n q : Nat) (k : Nat) (acc : Int) (h : ¬ k < 10) : rv f n q (10 - k) k acc = (0, 0) := by
  rw [show 10 - k = 0 from by omega]; rfl
theorem rv_out (f : Nat → Int) (n q : Nat) (k : Nat) (acc : Int) (h : k < 10) (h1 : ¬ q + k < n) : rv f n q (10 - k) k acc = (0, 0) := by
  rw [show 10 - k = (9 - k) + 1 from by omega]; simp [rv, h1]
theorem rv_high (f : Nat → Int) (n q : Nat) (k : Nat) (acc : Int) (h : k < 10) (h2 : k = 9 ∧ 1 < f (q + k)) : rv f n q (10 - k) k acc = (0, 0) := by
  rw [show 10 - k = (9 - k) + 1 from by omega]; unfold rv; split
  · simp [h2]
  · rfl
theorem rv_nought (f : Nat → Int) (n q : Nat) (k : Nat) (acc : Int) (h : k < 10) (h3 : 0 < k ∧ f (q + k) = 0) : rv f n q (10 - k) k acc = (0, 0) := by
  rw [show 10 - k = (9 - k) + 1 from by omega]; unfold rv; split
  · simp [h3]
  · rfl
theorem rv_last (f : Nat → Int) (n q : Nat) (k : Nat) (acc : Int) (h : k < 10) (h1 : q + k < n) (h2 : ¬ (k = 9 ∧ 1 < f (q + k))) (h3 : f (q + k) < 128) (h4 : ¬ (0 < k ∧ f (q + k) = 0)) :
    rv f n q (10 - k) k acc = (rvStep acc (f (q + k)) k, (q : Int) + k + 1) := by
  rw [show 10 - k = (9 - k) + 1 from by omega]; unfold rv; rw [if_pos h1, if_neg h2, if_pos h3, if_neg h4]
theorem rv_more (f : Nat → Int) (n q : Nat) (k : Nat) (acc : Int) (h : k < 10) (h1 : q + k < n) (h2 : ¬ (k = 9 ∧ 1 < f (q + k))) (h3 : ¬ f (q + k) < 128) :
    rv f n q (10 - k) k acc = rv f n q (10 - (k + 1)) (k + 1) (rvStep acc (f (q + k)) k) := by
  rw [show 10 - k = (10 - (k + 1)) + 1 from by omega]; conv => lhs; unfold rv
  rw [if_pos h1, if_neg h2, if_neg h3]

end Go.Proofs.YtpdgklgjfpkmbaaGreat
namespace Go.Proofs.YtpdgklgjfpkmbaaGreat
set_option maxRecDepth 100000
open Go.RowKit
set_option linter.unusedSimpArgs false
set_option linter.unusedVariables false

/-- What ReadVar answers. -/
def rdVar (f : Nat → Int) (n : Nat) (a : Int) : Int × Int × Bool :=
  if 0 ≤ a ∧ a < n then ((rvAll f n a.toNat).1, (rvAll f n a.toNat).2, decide (0 < (rvAll f n a.toNat).2)) else (0, 0, false)

set_option maxHeartbeats 400000 in
theorem readVar_impl (ao : Option Addr) (n cap : Nat) (f : Nat → Int) (a : Int) (w : World) (hr : Row w ao n f) (hn : n ≤ 1048576) (hcap : n ≤ cap) :
    Calls Tryz.prog 150 #[.slice ao n cap, .int .i64 a] w fun e w' => e = .returned (.tuple #[.int .u64 (rdVar f n a).1, .int .i64 (rdVar f n a).2.1, .bool (rdVar f n a).2.2]) ∧ Below w.heap.size w w' := by
  by_cases h : 0 ≤ a ∧ a < n
  · obtain ⟨h0, h1⟩ := h
    obtain ⟨q, rfl⟩ := Int.eq_ofNat_of_zero_le h0
    have hq : q < n := by omega
    have E : Hid (rdVar f n (q : Int) = ((rvAll f n q).1, (rvAll f n q).2, decide (0 < (rvAll f n q).2))) := by
      unfold Hid rdVar; rw [if_pos ⟨h0, h1⟩]; simp
    generalize rdVar f n (q : Int) = T at *
    generalize hR : rvAll f n q = R at *
    have HR : Hid (rv f n q 10 0 0 = R) := hR
    clear hR
    obtain ⟨hbd, hl⟩ := hr
    obtain ⟨b, off, rfl, hblt, hc⟩ := hl.resolve_left (by omega)
    have hd : decide ((q : Int) < 0) = false := by simp
    by_cases hmin : n ≤ q + 10
    · go_enter Tryz.func150, Tryz.ntmps150
      go_wp2
      go_loopw [8, 30] (fun a i wr => ∃ k : Nat, ∃ acc : Int, k ≤ (n - q) ∧ i = .int .i64 k ∧ a = .int .u64 acc ∧ Hid (rv f n q (10 - k) k acc = R) ∧ Below w.heap.size w wr) (fun _ i _ => (n - q) - (intOf i).toNat)
      case atStart => exact ⟨0, 0, by omega, rfl, rfl, HR, Below.refl _ _⟩
      case round =>
        obtain ⟨k, acc, hk, rfl, rfl, HK, hbk⟩ := hrel
        by_cases hlt : k < (n - q)
        · have hin : q + k < n := by omega
          have hk10 : k < 10 := by omega
          have h1 : wr.cell? ⟨b, off + q + k, none⟩ = some (.int .u8 (f (q + k))) := by rw [Nat.add_assoc]; exact (hbk.cell (p := ⟨b, off + (q + k), none⟩) hblt).trans (hc _ hin)
          have hb := hbd (q + k)
          clear hc hl hbd
          by_cases h2 : k = 9 ∧ 1 < f (q + k)
          · have e := rv_high f n q k acc hk10 h2
            have HE : Hid (R = (0, 0)) := HK.out.symm.trans e
            clear e
            have e9 : ((k : Int) == 9) = true := by simp; omega
            have e1 := h2.2
            clear h2
            go_wp2
            go_ret3
            rw [E.out, HE.out]
            exact ⟨rfl, hbk⟩
          · have h9 : ((k : Int) == 9) = false ∨ (((k : Int) == 9) = true ∧ ¬ 1 < f (q + k)) := by
              by_cases h : k = 9
              · exact .inr ⟨by simp; omega, fun h5 => h2 ⟨h, h5⟩⟩
              · exact .inl (by simp; omega)
            by_cases h3 : f (q + k) < 128
            · by_cases h4 : 0 < k ∧ f (q + k) = 0
              · have e := rv_nought f n q k acc hk10 h4
                have HE : Hid (R = (0, 0)) := HK.out.symm.trans e
                clear e
                have e0 : (f (q + k) == 0) = true := by simp; omega
                have ek := h4.1
                clear h2 h4
                rcases h9 with h9 | ⟨h9, h10⟩
                all_goals
                  go_wp2
                  go_ret3
                  rw [E.out, HE.out]
                  exact ⟨rfl, hbk⟩
              · have e := rv_last f n q k acc hk10 hin h2 h3 h4
                have HE : Hid (R = (rvStep acc (f (q + k)) k, (q : Int) + k + 1)) := HK.out.symm.trans e
                clear e
                have hpos : Hid (decide (0 < (q : Int) + k + 1) = true) := by unfold Hid; simp; omega
                have h0' : (f (q + k) == 0) = false ∨ ((f (q + k) == 0) = true ∧ ¬ 0 < k) := by
                  by_cases h : f (q + k) = 0
                  · exact .inr ⟨by simp [h], fun h5 => h4 ⟨h5, h⟩⟩
                  · exact .inl (by simp [h])
                clear h2 h4
                rcases h9 with h9 | ⟨h9, h10⟩ <;> rcases h0' with h00 | ⟨h00, h01⟩
                all_goals
                  go_wp2
                  go_ret3
                  rw [E.out, HE.out]
                  simp only [hpos.out]
                  exact ⟨rfl, hbk⟩
            · have e := rv_more f n q k acc hk10 hin h2 h3
              have HE : Hid (rv f n q (10 - (k + 1)) (k + 1) (rvStep acc (f (q + k)) k) = R) := e.symm.trans HK.out
              clear e
              have hgt : 127 < f (q + k) := by omega
              clear h2
              rcases h9 with h9 | ⟨h9, h10⟩
              · go_wp2
                go_roundw
                case rel => exact ⟨k + 1, _, by omega, by go_num, rfl, HE, hbk⟩
                case measure => simp [intOf]; omega
              · omega
        · have HE : Hid (R = (0, 0)) := by
            refine HK.out.symm.trans ?_
            by_cases h10 : k < 10
            · exact rv_out f n q k acc h10 (by omega)
            · exact rv_end f n q k acc h10
          go_wp2
          go_ret3
          rw [E.out, HE.out]
          exact ⟨rfl, hbk⟩
    · go_enter Tryz.func150, Tryz.ntmps150
      go_wp2
      go_loopw [8, 30] (fun a i wr => ∃ k : Nat, ∃ acc : Int, k ≤ 10 ∧ i = .int .i64 k ∧ a = .int .u64 acc ∧ Hid (rv f n q (10 - k) k acc = R) ∧ Below w.heap.size w wr) (fun _ i _ => 10 - (intOf i).toNat)
      case atStart => exact ⟨0, 0, by omega, rfl, rfl, HR, Below.refl _ _⟩
      case round =>
        obtain ⟨k, acc, hk, rfl, rfl, HK, hbk⟩ := hrel
        by_cases hlt : k < 10
        · have hin : q + k < n := by omega
          have hk10 : k < 10 := by omega
          have h1 : wr.cell? ⟨b, off + q + k, none⟩ = some (.int .u8 (f (q + k))) := by rw [Nat.add_assoc]; exact (hbk.cell (p := ⟨b, off + (q + k), none⟩) hblt).trans (hc _ hin)
          have hb := hbd (q + k)
          clear hc hl hbd
          by_cases h2 : k = 9 ∧ 1 < f (q + k)
          · have e := rv_high f n q k acc hk10 h2
            have HE : Hid (R = (0, 0)) := HK.out.symm.trans e
            clear e
            have e9 : ((k : Int) == 9) = true := by simp; omega
            have e1 := h2.2
            clear h2
            go_wp2
            go_ret3
            rw [E.out, HE.out]
            exact ⟨rfl, hbk⟩
          · have h9 : ((k : Int) == 9) = false ∨ (((k : Int) == 9) = true ∧ ¬ 1 < f (q + k)) := by
              by_cases h : k = 9
              · exact .inr ⟨by simp; omega, fun h5 => h2 ⟨h, h5⟩⟩
              · exact .inl (by simp; omega)
            by_cases h3 : f (q + k) < 128
            · by_cases h4 : 0 < k ∧ f (q + k) = 0
              · have e := rv_nought f n q k acc hk10 h4
                have HE : Hid (R = (0, 0)) := HK.out.symm.trans e
                clear e
                have e0 : (f (q + k) == 0) = true := by simp; omega
                have ek := h4.1
                clear h2 h4
                rcases h9 with h9 | ⟨h9, h10⟩
                all_goals
                  go_wp2
                  go_ret3
                  rw [E.out, HE.out]
                  exact ⟨rfl, hbk⟩
              · have e := rv_last f n q k acc hk10 hin h2 h3 h4
                have HE : Hid (R = (rvStep acc (f (q + k)) k, (q : Int) + k + 1)) := HK.out.symm.trans e
                clear e
                have hpos : Hid (decide (0 < (q : Int) + k + 1) = true) := by unfold Hid; simp; omega
                have h0' : (f (q + k) == 0) = false ∨ ((f (q + k) == 0) = true ∧ ¬ 0 < k) := by
                  by_cases h : f (q + k) = 0
                  · exact .inr ⟨by simp [h], fun h5 => h4 ⟨h5, h⟩⟩
                  · exact .inl (by simp [h])
                clear h2 h4
                rcases h9 with h9 | ⟨h9, h10⟩ <;> rcases h0' with h00 | ⟨h00, h01⟩
                all_goals
                  go_wp2
                  go_ret3
                  rw [E.out, HE.out]
                  simp only [hpos.out]
                  exact ⟨rfl, hbk⟩
            · have e := rv_more f n q k acc hk10 hin h2 h3
              have HE : Hid (rv f n q (10 - (k + 1)) (k + 1) (rvStep acc (f (q + k)) k) = R) := e.symm.trans HK.out
              clear e
              have hgt : 127 < f (q + k) := by omega
              clear h2
              rcases h9 with h9 | ⟨h9, h10⟩
              · go_wp2
                go_roundw
                case rel => exact ⟨k + 1, _, by omega, by go_num, rfl, HE, hbk⟩
                case measure => simp [intOf]; omega
              · omega
        · have HE : Hid (R = (0, 0)) := by
            refine HK.out.symm.trans ?_
            by_cases h10 : k < 10
            · exact rv_out f n q k acc h10 (by omega)
            · exact rv_end f n q k acc h10
          go_wp2
          go_ret3
          rw [E.out, HE.out]
          exact ⟨rfl, hbk⟩
  · have e : Hid (rdVar f n a = (0, 0, false)) := by unfold Hid rdVar; rw [if_neg h]
    generalize rdVar f n a = T at *
    by_cases h0 : a < 0
    · go_enter Tryz.func150, Tryz.ntmps150
      go_wp2
      go_ret3
      rw [e.out]
      exact ⟨rfl, Below.refl _ _⟩
    · have hd : decide (a < 0) = false := by simpa using h0
      have h1 : (n : Int) ≤ a := by omega
      go_enter Tryz.func150, Tryz.ntmps150
      go_wp2
      go_ret3
      rw [e.out]
      exact ⟨rfl, Below.refl _ _⟩
end Go.Proofs.YtpdgklgjfpkmbaaGreat
