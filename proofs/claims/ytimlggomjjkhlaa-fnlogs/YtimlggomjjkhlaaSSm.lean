/- Marks laid into a list of bytes' lists, and looked for. -/
import Derived.Test.YtimlggomjjkhlaaSSb
namespace Go.Proofs.Ytimlggomjjkhlaa
open Go.RowKit
set_option linter.unusedSimpArgs false
set_option linter.unusedVariables false

def mk (s m : Nat) : List Int := (List.range m).map fun j => ((s + j : Nat) : Int) % 256
theorem mk_length (s m : Nat) : (mk s m).length = m := by simp [mk]
theorem mk_bd (s m : Nat) : Byt (mk s m) := fun x hx => by
  obtain ⟨i, _, rfl⟩ := List.mem_map.1 hx
  omega
theorem mk_fl {s m j : Nat} (h : j < m) : fl (mk s m) j = ((s + j : Nat) : Int) % 256 := by simp [fl, mk, h]
/-- The lists with their marks, counted on from s. -/
def mkS (Rs : Nat → List Int) (s i : Nat) : List Int := mk (s + tot Rs i) (Rs i).length

theorem OwS.congr {w : World} {lo hi : Nat} {ao : Option Addr} {n : Nat} {V : Nat → Value} {Rs Rs' : Nat → List Int} (h : OwS w lo hi ao n V Rs) (e : ∀ i, i < n → Rs i = Rs' i) : OwS w lo hi ao n V Rs' :=
  ⟨fun i hi => by rw [← e i hi]; exact h.bd i hi, fun i hi => by rw [← e i hi]; exact h.rows i hi, h.dis, h.lies, h.top⟩
theorem OwS.upd {w w' : World} {lo hi : Nat} {ao : Option Addr} {n : Nat} {V : Nat → Value} {Rs : Nat → List Int} (h : OwS w lo hi ao n V Rs) (k : Nat) (hk : k < n) (g off c : Nat) (e : V k = .slice (some ⟨g, off, none⟩) (Rs k).length c)
    (M : List Int) (hMl : M.length = (Rs k).length) (hMb : Byt M) (h1 : lo ≤ g) (h2 : g < hi) (ho : Own w' g off M.length (fl M)) (hX : Others g w w') : OwS w' lo hi ao n V (fun i => if i = k then M else Rs i) := by
  have hkb : (V k).ownBlock = some g := by rw [e]; rfl
  refine ⟨fun i hi => ?_, fun i hi => ?_, h.dis, ?_, by rw [hX.size]; exact h.top⟩
  · by_cases ek : i = k
    · simp only [ek, if_true]; exact hMb
    · simp only [ek, if_false]; exact h.bd i hi
  · by_cases ek : i = k
    · subst ek
      simp only [if_true]
      exact .inr ⟨g, off, c, by rw [e, hMl], h1, h2, ho⟩
    · simp only [ek, if_false]
      rcases h.rows i hi with h0 | ⟨g', off', c', e', h1', h2', ho'⟩
      · exact .inl h0
      · have hne : g' ≠ g := fun eg => h.dis k i hk hi (fun x => ek x.symm) g hkb (by rw [e', eg]; rfl)
        exact .inr ⟨g', off', c', e', h1', h2', hX.row ho' hne⟩
  · rcases h.lies with h0 | ⟨b, o, ea, hb1, hb2, hc, hne⟩
    · exact .inl h0
    · refine .inr ⟨b, o, ea, hb1, hb2, fun i hi => ?_, hne⟩
      have hbg : b ≠ g := fun eb => hne k hk (by rw [hkb, eb])
      exact (World.cell?_of_block (w := w) (a := ⟨b, o + i, none⟩) (hX.block b hbg)).trans (hc i hi)

set_option maxHeartbeats 400000 in
theorem markByteS_nil (ao : Option Addr) (cap : Nat) (k0 : Int) (w : World) :
    Calls Try.prog 16 #[.slice ao 0 cap, .int .i64 k0] w fun e w' => e = .returned (.int .i64 k0) ∧ w' = w := by
  go_enter Try.func16, Try.ntmps16
  go_wp2
  go_loopw [1, 5] (fun q i wr => i = .int .i64 0 ∧ q = .int .i64 k0 ∧ wr = w) (fun _ _ _ => 0)
  case atStart => exact ⟨rfl, rfl, rfl⟩
  case round =>
    obtain ⟨rfl, rfl, rfl⟩ := hrel
    go_wp2
    go_ret
    exact ⟨rfl, rfl⟩

set_option maxHeartbeats 1000000 in
theorem markByteSS_any (ao : Option Addr) (n cap lo hi : Nat) (V : Nat → Value) (Rs : Nat → List Int) (k0 : Nat) (w : World) (h : OwS w lo hi ao n V Rs) (ht : n + tot Rs n ≤ 1048576) (hk0 : k0 ≤ 1048576) :
    Calls Try.prog 20 #[.slice ao n cap, .int .i64 k0] w fun e w' => e = .returned (.int .i64 ((k0 + tot Rs n : Nat) : Int)) ∧ OwS w' lo hi ao n V (mkS Rs k0) ∧ Wit lo hi w w' := by
  go_enter Try.func20, Try.ntmps20
  go_wp2
  go_loopw [1, 5] (fun q i wr => ∃ k : Nat, k ≤ n ∧ i = .int .i64 k ∧ q = .int .i64 ((k0 + tot Rs k : Nat) : Int) ∧ OwS wr lo hi ao n V (fun i => if i < k then mkS Rs k0 i else Rs i) ∧ Wit lo hi w wr) (fun _ i _ => n - (intOf i).toNat)
  case atStart => exact ⟨0, Nat.zero_le _, rfl, by simp [tot], by simpa using h, Wit.refl _ _ _⟩
  case round =>
    obtain ⟨k, hk, rfl, rfl, hO, hW⟩ := hrel
    by_cases hlt : k < n
    · have hle := tot_mono Rs (show k + 1 ≤ n by omega)
      have HT : Hid (tot Rs (k + 1) = tot Rs k + (Rs k).length) := rfl
      rw [HT.out] at hle
      obtain ⟨b, off, ea, hb1, hb2, hc, hne⟩ := hO.lies.resolve_left (by omega)
      have hck := hc k hlt
      subst ea
      rcases hO.rows k hlt with ⟨c, e, h0⟩ | ⟨g, o, c, e, h1, h2, ho⟩
      · have h0' : (Rs k).length = 0 := by simpa using h0
        simp only [Nat.lt_irrefl, if_false] at e
        rw [e, h0'] at hck
        have hO' : OwS wr lo hi (some ⟨b, off, none⟩) n V (fun i => if i < k + 1 then mkS Rs k0 i else Rs i) := hO.congr fun i hi => by
          by_cases hl : i < k
          · simp [hl, show i < k + 1 by omega]
          · by_cases ek : i = k
            · subst ek
              have e0 : Rs i = [] := List.eq_nil_of_length_eq_zero h0'
              simp [mkS, mk, e0]
            · simp [hl, show ¬ i < k + 1 by omega]
        have HQ : Hid (k0 + tot Rs (k + 1) = k0 + tot Rs k) := by unfold Hid; rw [HT.out, h0']; rfl
        clear hO h hc hne e h0
        go_wp2_with fail
        refine (markByteS_nil _ _ _ _).mono ?_
        rintro e w' ⟨rfl, rfl⟩
        go_wp2
        go_roundw
        case rel => exact ⟨k + 1, by omega, by go_num, by rw [HQ.out]; go_num, hO', hW⟩
        case measure => simp [intOf]; omega
      · simp only [Nat.lt_irrefl, if_false] at e ho
        rw [e] at hck
        have hupd := fun (w' : World) (hX : Others g wr w') (hoo : Own w' g o (mkS Rs k0 k).length (fl (mkS Rs k0 k))) => hO.upd k hlt g o c (by simpa using e) (mkS Rs k0 k) (by simp [mkS, mk_length]) (mk_bd _ _) h1 h2 hoo hX
        clear h hO hc hne e
        have HK : Hid (k0 + tot Rs (k + 1) = k0 + tot Rs k + (Rs k).length) := by unfold Hid; rw [HT.out]; omega
        have hcall := markByteS_any g o (Rs k).length c (fl (Rs k)) (k0 + tot Rs k) wr ho (by omega) (by omega)
        rw [Int.natCast_add k0] at hcall
        have HC : Hid (Calls Try.prog 16 #[.slice (some ⟨g, o, none⟩) (Rs k).length c, .int .i64 ((k0 : Int) + (tot Rs k : Int))] wr fun e w' => e = .returned (.int .i64 ((k0 + tot Rs k + (Rs k).length : Nat) : Int)) ∧ Own w' g o (Rs k).length (fun i => ((k0 + tot Rs k + i : Nat) : Int) % 256) ∧ Others g wr w') := hcall
        clear hcall
        go_wp2_with fail
        refine HC.out.mono ?_
        rintro e w' ⟨rfl, hm, hX⟩
        have hoo : Own w' g o (mkS Rs k0 k).length (fl (mkS Rs k0 k)) := by
          have el : (mkS Rs k0 k).length = (Rs k).length := by simp [mkS, mk_length]
          rw [el]
          exact hm.congr ((mk_bd _ _).fl) (fun i hi => (mk_fl hi).symm)
        have hO' := (hupd w' hX hoo).congr (Rs' := fun i => if i < k + 1 then mkS Rs k0 i else Rs i) (fun i hi => by
          by_cases ek : i = k
          · subst ek; simp
          · by_cases hl : i < k
            · simp [ek, hl, show i < k + 1 by omega]
            · simp [ek, hl, show ¬ i < k + 1 by omega])
        have hW' := hW.trans (Wit.ofOthers hX h1 h2)
        clear hupd
        go_wp2
        go_roundw
        case rel => exact ⟨k + 1, by omega, by go_num, by rw [HK.out]; go_num, hO', hW'⟩
        case measure => simp [intOf]; omega
    · obtain rfl : k = n := by omega
      go_wp2
      go_ret
      exact ⟨rfl, hO.congr (fun i hi => by simp [hi]), hW⟩

set_option maxHeartbeats 1000000 in
theorem heldByteSS_yes (ao : Option Addr) (n cap : Nat) (V : Nat → Value) (Rs : Nat → List Int) (k0 : Nat) (w : World) (h : RdS w ao n V (mkS Rs k0)) (ht : n + tot Rs n ≤ 1048576) (hk0 : k0 ≤ 1048576) :
    Calls Try.prog 21 #[.slice ao n cap, .int .i64 k0] w fun e w' => e = .returned (.int .i64 ((k0 + tot Rs n : Nat) : Int)) ∧ Below w.heap.size w w' := by
  obtain ⟨hrows, hl⟩ := h
  go_enter Try.func21, Try.ntmps21
  go_wp2
  go_loopw [1, 5] (fun q i wr => ∃ k : Nat, k ≤ n ∧ i = .int .i64 k ∧ q = .int .i64 ((k0 + tot Rs k : Nat) : Int) ∧ Below w.heap.size w wr) (fun _ i _ => n - (intOf i).toNat)
  case atStart => exact ⟨0, Nat.zero_le _, rfl, by simp [tot], Below.refl _ _⟩
  case round =>
    obtain ⟨k, hk, rfl, rfl, hbk⟩ := hrel
    by_cases hlt : k < n
    · have hle := tot_mono Rs (show k + 1 ≤ n by omega)
      have HT : Hid (tot Rs (k + 1) = tot Rs k + (Rs k).length) := rfl
      rw [HT.out] at hle
      obtain ⟨b, off, rfl, hblt, hc⟩ := hl.resolve_left (by omega)
      obtain ⟨a, c, hV, hr⟩ := hrows k hlt
      have el : (mkS Rs k0 k).length = (Rs k).length := by simp [mkS, mk_length]
      rw [el] at hV hr
      have h1 : wr.cell? ⟨b, off + k, none⟩ = some (.slice a (Rs k).length c) := ((hbk.cell (p := ⟨b, off + k, none⟩) hblt).trans (hc k hlt)).trans (by rw [hV])
      have hr' : Row wr a (Rs k).length (fun i => ((k0 + tot Rs k + i : Nat) : Int) % 256) := by
        obtain ⟨_, hcc⟩ := hr.keep hbk
        refine ⟨fun i => by omega, ?_⟩
        rcases hcc with h0 | ⟨b', o', e', hl', hc'⟩
        · exact .inl h0
        · exact .inr ⟨b', o', e', hl', fun i hi => by rw [hc' i hi]; rw [show fl (mkS Rs k0 k) i = ((k0 + tot Rs k + i : Nat) : Int) % 256 from mk_fl hi]⟩
      have hcall := heldByteS_yes a (Rs k).length c (k0 + tot Rs k) wr hr' (by omega) (by omega)
      rw [Int.natCast_add k0] at hcall
      have HC : Hid (Calls Try.prog 17 #[.slice a (Rs k).length c, .int .i64 ((k0 : Int) + (tot Rs k : Int))] wr fun e w' => e = .returned (.int .i64 ((k0 + tot Rs k + (Rs k).length : Nat) : Int)) ∧ Below wr.heap.size wr w') := hcall
      have HK : Hid (k0 + tot Rs (k + 1) = k0 + tot Rs k + (Rs k).length) := by unfold Hid; rw [HT.out]; omega
      clear hcall hc hl hrows hV hr hr' el
      go_wp2_with fail
      refine HC.out.mono ?_
      rintro e w' ⟨rfl, hb⟩
      have hbw := hbk.trans (hb.mono hbk.size)
      go_wp2
      go_roundw
      case rel => exact ⟨k + 1, by omega, by go_num, by rw [HK.out]; go_num, hbw⟩
      case measure => simp [intOf]; omega
    · obtain rfl : k = n := by omega
      go_wp2
      go_ret
      exact ⟨rfl, hbk⟩

theorem markSS_one (ao : Option Addr) (n cap lo hi : Nat) (V : Nat → Value) (Rs : Nat → List Int) (w : World) (h : OwS w lo hi ao n V Rs) (ht : n + tot Rs n ≤ 1048576) :
    Calls Try.prog 20 #[.slice ao n cap, .int .i64 1] w fun e w' => e = .returned (.int .i64 ((tot Rs n : Int) + 1)) ∧ OwS w' lo hi ao n V (mkS Rs 1) ∧ Wit lo hi w w' := by
  refine (markByteSS_any ao n cap lo hi V Rs 1 w h ht (by omega)).mono fun e w' h => ?_
  obtain ⟨rfl, h1, h2⟩ := h
  exact ⟨by rw [show ((1 + tot Rs n : Nat) : Int) = (tot Rs n : Int) + 1 from by omega], h1, h2⟩
theorem heldSS_one (ao : Option Addr) (n cap : Nat) (V : Nat → Value) (Rs : Nat → List Int) (w : World) (h : RdS w ao n V (mkS Rs 1)) (ht : n + tot Rs n ≤ 1048576) :
    Calls Try.prog 21 #[.slice ao n cap, .int .i64 1] w fun e w' => e = .returned (.int .i64 ((tot Rs n : Int) + 1)) ∧ Below w.heap.size w w' := by
  refine (heldByteSS_yes ao n cap V Rs 1 w h ht (by omega)).mono fun e w' h => ?_
  obtain ⟨rfl, h2⟩ := h
  exact ⟨by rw [show ((1 + tot Rs n : Nat) : Int) = (tot Rs n : Int) + 1 from by omega], h2⟩
end Go.Proofs.Ytimlggomjjkhlaa
