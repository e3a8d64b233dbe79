/- slices.Insert over metas, at the end. -/
import Derived.Test.YtdcmclbbecnihaaAb
namespace Go.Proofs.Ytdcmclbbecnihaa
open Go.RowKit
set_option linter.unusedSimpArgs false
set_option linter.unusedVariables false

set_option maxRecDepth 100000 in
set_option maxHeartbeats 1600000 in
theorem insertM_end (base vb vc : Nat) (so : Option Addr) (sc : Nat) (L : List Met) (x : Met) (w : World) (hO : OwnM w base (.slice so L.length sc) L) (hx : MRow w (some ⟨vb, 0, none⟩) [x].length (mL [x])) (hn : L.length ≤ 1048576) (hb : base ≤ w.heap.size) :
    Calls Try.prog 98 #[.slice so L.length sc, .int .i64 (L.length : Nat), .slice (some ⟨vb, 0, none⟩) 1 vc] w
      fun e w' => ∃ v' , e = .returned v' ∧ OwnM w' base v' (L ++ [x]) ∧ w.grownBy w' (Value.slice so L.length sc).ownBlock ∧ (v'.ownBlock = (Value.slice so L.length sc).ownBlock ∨ v'.ownBlock = some w.heap.size) := by
  have hcap : L.length ≤ sc := by
    obtain ⟨_, _, e, h⟩ := hO.form
    injection e with _ _ e
    omega
  have hsz : L.length + [x].length ≤ 4194304 := by simp; omega
  rcases hO.own.2 with ⟨hv, h0⟩ | ⟨g, cap, cur, hv, hbg, hg, hnc, hcm, _⟩
  · injection hv with e1 e2 e3
    subst e1 e3
    have hL0 : L = [] := List.length_eq_zero_iff.1 h0
    subst hL0
    go_enter Try.func98, Try.ntmps98
    go_wp2_with (at_builtin; refine wpList_appM rfl (.tmp 23) (.tmp 24) rfl base _ [] rfl hO _ 1 vc [x] rfl rfl hx hsz hb ?_; intro v8 w8 hO8 hg8 hw8)
    go_ret
    exact ⟨_, rfl, hO8, hg8, hw8⟩
  · injection hv with e1 e2 e3
    subst e1 e3
    have hcm' : sc ≤ 9223372036854775807 := by unfold maxLen at hcm; omega
    clear hg
    by_cases hc : sc = L.length
    · subst hc
      go_enter Try.func98, Try.ntmps98
      go_wp2_with (at_builtin; refine wpList_appM rfl (.tmp 23) (.tmp 24) rfl base _ L rfl hO _ 1 vc [x] rfl rfl hx hsz hb ?_; intro v8 w8 hO8 hg8 hw8)
      go_ret
      exact ⟨_, rfl, hO8, hg8, hw8⟩
    · go_enter Try.func98, Try.ntmps98
      go_wp2_with (at_builtin; refine wpList_appM rfl (.tmp 23) (.tmp 24) rfl base _ L rfl hO _ 1 vc [x] rfl rfl hx hsz hb ?_; intro v8 w8 hO8 hg8 hw8)
      go_ret
      exact ⟨_, rfl, hO8, hg8, hw8⟩
end Go.Proofs.Ytdcmclbbecnihaa
