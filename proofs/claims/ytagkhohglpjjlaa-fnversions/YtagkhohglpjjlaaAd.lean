/- slices.Insert over metas, at the end. / copy of rows of k cells; slices.Insert over metas where there is room. -/
import Derived.Test.YtagkhohglpjjlaaAb
import Derived.Lib.Overlaps
import Derived.Laws.Externs
import Derived.Laws.IdiomCopy
namespace Go.Proofs.Ytagkhohglpjjlaa
open Go.RowKit
set_option linter.unusedSimpArgs false
set_option linter.unusedVariables false

set_option maxRecDepth 100000 in
set_option maxHeartbeats 1600000 in
theorem insertM_end (base vb vc : Nat) (so : Option Addr) (sc : Nat) (L : List Met) (x : Met) (w : World) (hO : OwnM w base (.slice so L.length sc) L) (hx : MRow w (some ⟨vb, 0, none⟩) [x].length (mL [x])) (hn : L.length ≤ 1048576) (hb : base ≤ w.heap.size) :
    Calls Try.prog 40 #[.slice so L.length sc, .int .i64 (L.length : Nat), .slice (some ⟨vb, 0, none⟩) 1 vc] w
      fun e w' => ∃ v' , e = .returned v' ∧ OwnM w' base v' (L ++ [x]) ∧ w.grownBy w' (Value.slice so L.length sc).ownBlock ∧ (v'.ownBlock = (Value.slice so L.length sc).ownBlock ∨ v'.ownBlock = some w.heap.size) := by
  have hcap : L.length ≤ sc := by
    obtain ⟨_, _, e, h⟩ := hO.form
    injection e with _ _ e
    omega
  have hsz : L.length + [x].length ≤ 4194304 := by simp; omega
  rcases hO.own.2 with ⟨hv, h0⟩ | ⟨g, cap, cur, hv, hbg, hg, hnc, hcm, _⟩
  · injection hv with e1 e2 e3
    subst e1 e3
    have hL0 : L = [] := List.length_eq_zero_iff.1 h0
    subst hL0
    go_enter Try.func40, Try.ntmps40
    go_wp2_with (at_builtin; refine wpList_appM rfl (.tmp 23) (.tmp 24) rfl base _ [] rfl hO _ 1 vc [x] rfl rfl hx hsz hb ?_; intro v8 w8 hO8 hg8 hw8)
    go_ret
    exact ⟨_, rfl, hO8, hg8, hw8⟩
  · injection hv with e1 e2 e3
    subst e1 e3
    have hcm' : sc ≤ 9223372036854775807 := by unfold maxLen at hcm; omega
    clear hg
    by_cases hc : sc = L.length
    · subst hc
      go_enter Try.func40, Try.ntmps40
      go_wp2_with (at_builtin; refine wpList_appM rfl (.tmp 23) (.tmp 24) rfl base _ L rfl hO _ 1 vc [x] rfl rfl hx hsz hb ?_; intro v8 w8 hO8 hg8 hw8)
      go_ret
      exact ⟨_, rfl, hO8, hg8, hw8⟩
    · go_enter Try.func40, Try.ntmps40
      go_wp2_with (at_builtin; refine wpList_appM rfl (.tmp 23) (.tmp 24) rfl base _ L rfl hO _ 1 vc [x] rfl rfl hx hsz hb ?_; intro v8 w8 hO8 hg8 hw8)
      go_ret
      exact ⟨_, rfl, hO8, hg8, hw8⟩
end Go.Proofs.Ytagkhohglpjjlaa
namespace Go.Proofs.Ytagkhohglpjjlaa
open Go.RowKit
set_option linter.unusedSimpArgs false
set_option linter.unusedVariables false

/-- copy, where an element has k cells. -/
theorem run_copyK {P : Program} (w : World) (dT sT ty elem : TypeId) (k b o dLen dCap : Nat) (a : Addr) (sLen sCap : Nat) (cs : List Value)
    (hu : P.underlying dT = some (.slice elem)) (hs : (P.info? elem).map (·.size) = some k) (hn : cs.length = Nat.min sLen dLen * k)
    (hsrc : ∀ j v, cs[j]? = some v → w.cell? (a.add j) = some v) (hc : ∀ j, j < cs.length → (w.cell? ⟨b, o + j, none⟩).isSome = true) (hf : ∀ j, j < cs.length → w.frozen? ⟨b, o + j, none⟩ = false) (h1 : ∀ v ∈ cs, v.oneCell' = true) :
    (Builtin.copy_ #[dT, sT] ty #[.slice (some ⟨b, o, none⟩) dLen dCap, .slice (some a) sLen sCap]).run P w = .ok (goInt (Nat.min sLen dLen)) (w.setCells b o cs) := by
  have hl := run_loadCells_list (P := P) w a cs hsrc
  have hst := run_storeCells_cells (P := P) b o cs 0 w (by simpa using hc) (by simpa using hf) h1
  cases hq : P.info? elem with
  | none => simp [hq] at hs
  | some i =>
    have hi : i.size = k := by simpa [hq] using hs
    simp [Builtin.copy_, run_underlying hu, Builtin.lenOf, Builtin.firstCells, sizeOf, typeInfo, hq, hi, ← hn, hl, hst]

theorem overlapsM (w : World) (vb g o lb cb vc : Nat) (hne : vb ≠ g) (tA tB : TypeId) (kA kB : Nat) (hsa : w.shape? vb = some (tA, kA)) (hsb : w.shape? g = some (tB, kB)) (hkB : kB ≠ 0) (hfa : w.frozen? ⟨vb, 0, none⟩ = false) (hfe : w.frozen? ⟨vb, kA, none⟩ = false) :
    (callFunc 57 #[.slice (some ⟨vb, 0, none⟩) 1 vc, .slice (some ⟨g, o, none⟩) lb cb]).run Try.prog w = .ok (.value (.bool false)) w := by
  obtain ⟨i0, hi, hz0, hz1, hz2⟩ := info_parts Try.infoM
  have hz : ∀ w, (Go.sizeOf 52).run Try.prog w = .ok 4 w := fun w => by simp [Go.sizeOf, typeInfo, hi, hz1]
  rw [run_callFunc_extern Try.func57 (by kernel_rfl) (by kernel_rfl) (by kernel_rfl) (e := Extern.SlicesOverlaps.overlaps #[71, 71] #[4]) (by kernel_rfl),
    Lib.run_overlaps_apart w 71 4 52 Try.underlying71 4 hz ⟨vb, 0, none⟩ ⟨g, o, none⟩ 1 vc lb cb hne tA tB kA kB hsa hsb hkB hfa hfe]
  rfl
end Go.Proofs.Ytagkhohglpjjlaa
