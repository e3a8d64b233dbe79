/- put: what it leaves. -/
import Derived.Test.YtgedpjabjoodjaaDoorDiskX
import Derived.Test.YtgedpjabjoodjaaDoorAppF
import Derived.Test.YtgedpjabjoodjaaDoorUsed
import Derived.Deep.RegionHeld3
namespace Go.Proofs.YtgedpjabjoodjaaDoor
open Go.RowKit
open Go.ChangeMaps (setBlock)
set_option linter.unusedSimpArgs false
set_option linter.unusedVariables false

def cat (f : Nat → Int) (n : Nat) (h : Nat → Int) (i : Nat) : Int := if i < n then f i else h (i - n)
theorem bl_cat (f h : Nat → Int) (n m : Nat) : bl f n ++ bl h m = bl (cat f n h) (n + m) := by
  unfold bl
  rw [List.range_add, List.map_append, List.map_map]
  congr 1
  · exact List.map_congr_left fun i hi => by simp [cat, List.mem_range.1 hi]
  · exact List.map_congr_left fun i hi => by
      show Value.int .u8 (h i) = Value.int .u8 (cat f n h (n + i))
      unfold cat
      rw [if_neg (by omega), Nat.add_sub_cancel_left]
/-- Bytes put behind a row of the call's own. -/
theorem bapp_run (w : World) (base : Nat) (p : Option Addr) (c n m : Nat) (f h : Nat → Int) (ad : Addr) (sc : Nat) (hown : w.ownsRow base 5 1 (.slice p n c) n (bl f n)) (hsrc : ∀ j, j < m → w.cell? (ad.add j) = some (.int .u8 (h j))) (hl : n + m ≤ 4194304) (hb : base ≤ w.heap.size) :
    ∃ p' c' w', (∀ ty, (Builtin.append_ #[35, 35] ty #[.slice p n c, .slice (some ad) m sc]).run Tryd.prog w = .ok (.slice p' (n + m) c') w') ∧
      w'.ownsRow base 5 1 (.slice p' (n + m) c') (n + m) (bl (cat f n h) (n + m)) ∧ w.grownBy w' (Value.slice p n c).ownBlock ∧ ∀ b, some b = (Value.slice p' (n + m) c').ownBlock → some b = (Value.slice p n c).ownBlock ∨ b = w.heap.size := by
  obtain ⟨i0, hi, hz0, hz1, hz2⟩ := info_parts Tryd.info5
  obtain ⟨v', w', hrun, hown', hgrow, _, hat⟩ := run_append_own_at (P := Tryd.prog) w base 35 0 5 i0 (.int .u8 0) 1 1 Tryd.underlying35 hi hz0 hz1 hz2 rfl (by decide) (.slice p n c) n (bl f n) hown ad m sc (bl h m) (by simp [bl]) (fun j u hu => by
      have hj : j < m := by
        have := (List.getElem?_eq_some_iff.1 hu).1
        simpa [bl] using this
      have e : u = .int .u8 (h j) := by simpa [bl, hj] using hu.symm
      subst e
      exact hsrc j hj)
    (fun u hu => by simp only [bl, List.mem_map] at hu; obtain ⟨i, _, rfl⟩ := hu; rfl) (by unfold maxLen; omega) (by omega) hb
  rw [bl_cat] at hown'
  obtain ⟨p', c', rfl⟩ : ∃ p' c', v' = .slice p' (n + m) c' := by
    rcases hown'.2 with ⟨rfl, h0⟩ | ⟨g, cap, cur, rfl, _⟩
    · exact ⟨none, 0, by rw [h0]⟩
    · exact ⟨_, cap, rfl⟩
  refine ⟨p', c', w', fun ty => hrun, hown', hgrow, fun b hb => ?_⟩
  rcases hat with h | h
  · exact .inl (by rw [hb, h])
  · rw [h] at hb
    exact .inr (Option.some.inj hb)

set_option maxHeartbeats 1000000 in
theorem put_miss (Q : Int) (bm n : Nat) (F : Nat → Fil) (S : Nat → Value) (s : ByteArray) (dv : Value) (hs : ∀ j, j < n → (F j).nm ≠ s) (w : World) (hb : w.heap[bm]? = some (.map (ents F S n) n)) :
    Calls Tryd.prog 49 #[.agg #[.int .i64 Q, .map (some bm)], .string s, dv] w fun e w' => e = .returned (.iface 90 (.agg #[.string s, .int .i64 2])) ∧ Below w.heap.size w w' := by
  have hlt : bm < w.heap.size := (Array.getElem?_eq_some_iff.1 hb).1
  have hB : Below w.heap.size w (w.alloc (.cells #[.int .i64 Q, .map (some bm)] 60)) := (Below.refl _ _).alloc (Nat.le_refl _) _
  have hbA : (w.alloc (.cells #[.int .i64 Q, .map (some bm)] 60)).heap[bm]? = some (.map (ents F S n) n) := (hB.block bm hlt).trans hb
  go_enter Tryd.func49, Tryd.ntmps49
  go_wp2_with fail
  refine (find_miss Q bm n F S s hs _ hbA).mono ?_
  rintro e w1 ⟨rfl, hb1⟩
  have bw1 : Below w.heap.size w w1 := hB.trans (hb1.mono (by simp))
  clear hb1 hB hbA
  go_wp2
  go_ret
  exact ⟨rfl, bw1.alloc bw1.size _⟩

set_option maxHeartbeats 2000000 in
theorem put_full (Q : Int) (bm n : Nat) (F : Nat → Fil) (S : Nat → Value) (j : Nat) (hj : j < n) (bo : Option Addr) (m bc : Nat) (hm : m ≤ 1048576) (hQ : 0 ≤ Q ∧ Q ≤ 60000) (hu : used F n ≤ 60000) (hfull : Q < ((used F n + m : Nat) : Int)) (HK : Hid (∀ i, i < n → fileOk F i = true)) (w : World) (hb : w.heap[bm]? = some (.map (ents F S n) n)) (hS : ∀ i, i < n → ∃ da dc, S i = .slice da (F i).len dc) :
    Calls Tryd.prog 49 #[.agg #[.int .i64 Q, .map (some bm)], .string (F j).nm, .slice bo m bc] w fun e w' => e = .returned (.iface 90 (.agg #[.string (F j).nm, .int .i64 4])) ∧ Below w.heap.size w w' := by
  have hlt : bm < w.heap.size := (Array.getElem?_eq_some_iff.1 hb).1
  obtain ⟨da, dc, hSj⟩ := hS j hj
  have hB : Below w.heap.size w (w.alloc (.cells #[.int .i64 Q, .map (some bm)] 60)) := (Below.refl _ _).alloc (Nat.le_refl _) _
  have X0 := QAt.new w Q (.map (some bm)) 60
  have hbA : (w.alloc (.cells #[.int .i64 Q, .map (some bm)] 60)).heap[bm]? = some (.map (ents F S n) n) := (hB.block bm hlt).trans hb
  go_enter Tryd.func49, Tryd.ntmps49
  go_wp2_with fail
  refine (find_hit Q bm n F S j hj HK _ hbA da dc hSj).mono ?_
  rintro e w1 ⟨rfl, hb1⟩
  have bw1 : Below w.heap.size w w1 := hB.trans (hb1.mono (by simp))
  have hA : Below w1.heap.size w1 (w1.alloc (.cells #[.string (F j).nm, .slice da (F j).len dc, .int .i64 (F j).sy] 73)) := (Below.refl _ _).alloc (Nat.le_refl _) _
  have bwA : Below w.heap.size w (w1.alloc (.cells #[.string (F j).nm, .slice da (F j).len dc, .int .i64 (F j).sy] 73)) := bw1.trans (hA.mono bw1.size)
  have XA := (X0.keep hb1).keep hA
  have hMd := ((bwA.block bm hlt).trans hb)
  have hwr : IntKind.i64.wrap (Q - ((used F n : Nat) : Int)) = Q - ((used F n : Nat) : Int) := by rw [IntKind.wrap_i64] <;> omega
  have hd : Q - ((used F n : Nat) : Int) < (m : Int) := by omega
  obtain ⟨lx, x0, x1⟩ := id XA
  clear hB X0 hbA hb1 hb bw1 hA XA
  go_wp2
  generalize w1.alloc (.cells #[.string (F j).nm, .slice da (F j).len dc, .int .i64 (F j).sy] 73) = wA at *
  have hMd' : wA.drew.heap[bm]? = some (.map (ents F S n) n) := hMd
  go_region_held3 (fun w' => w'.cell? ⟨w.heap.size, 0, none⟩ = some (.int .i64 Q) ∧ w'.cell? ⟨w.heap.size, 1, none⟩ = some (.map (some bm))) (go_keep) (first | (go_at_call 72; refine (used_any Q bm n F S _ hMd' hS (by omega)).mono ?_; rintro e w2 ⟨rfl, hb2⟩; have hb2' := (Below.refl _ wA).drew.trans hb2; have e0 := (hb2'.cell (p := ⟨w.heap.size, 0, none⟩) lx).trans x0; have e1 := (hb2'.cell (p := ⟨w.heap.size, 1, none⟩) lx).trans x1))
  go_wp2
  go_ret
  exact ⟨rfl, bwA.trans (hb2'.mono bwA.size)⟩
end Go.Proofs.YtgedpjabjoodjaaDoor
