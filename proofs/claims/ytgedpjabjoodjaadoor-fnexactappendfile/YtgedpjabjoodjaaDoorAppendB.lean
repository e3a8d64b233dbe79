/- AppendFile: both texts leave the same files and the same code. -/
import Derived.Test.YtgedpjabjoodjaaDoorAppH
import Derived.Test.YtgedpjabjoodjaaDoorSpecAppend
import Derived.Test.YtgedpjabjoodjaaDoorImplAppend
import Derived.Test.YtgedpjabjoodjaaDoorLawG
namespace Go.Proofs.YtgedpjabjoodjaaDoor
open Go.RowKit
set_option linter.unusedSimpArgs false
set_option linter.unusedVariables false

theorem used_ge {F : Nat → Fil} {j : Nat} : ∀ n, j < n → (F j).len ≤ used F n
  | n + 1, h => by
    simp only [used]
    by_cases e : j = n
    · subst e; omega
    · have := used_ge (F := F) n (show j < n by omega); omega
theorem used_app {F : Nat → Fil} {j m : Nat} {h : Nat → Int} : ∀ n, j < n → used (appF F j m h) n = used F n + m
  | n + 1, hj => by
    by_cases e : j = n
    · subst e
      have e2 : used (appF F j m h) j = used F j := used_congr j (fun i hi => by unfold appF; rw [if_neg (by omega)])
      have e3 : (appF F j m h j).len = (F j).len + m := by unfold appF; rw [if_pos rfl]
      simp only [used]
      omega
    · have ih := used_app (F := F) (m := m) (h := h) n (show j < n by omega)
      have e3 : (appF F j m h n).len = (F n).len := by unfold appF; rw [if_neg (by omega)]
      simp only [used]
      omega

theorem appendFile_both (Q : Int) (n : Nat) (F : Nat → Fil) (s : ByteArray) (bn : Nat) (h : Nat → Int) (hs : s.size ≤ 1048576) (hbn : bn ≤ 1048576) (hq : -9223372036854775808 ≤ Q ∧ Q ≤ 9223372036854775807) (hn : n ≤ 1048576) (hz : FSize n F 1048576) (hbd : ∀ i, i < n → ∀ j, 0 ≤ (F i).f j ∧ (F i).f j ≤ 255) (hh : ∀ i, 0 ≤ h i ∧ h i ≤ 255) :
    ∃ (Q' c : Int) (m : Nat) (Fo : Nat → Fil), m ≤ 1048576 ∧ FSize m Fo 1048576 ∧ cK Fo m ≤ 4194304 ∧
      (∀ (w : World) (ao : Option Addr) (cap : Nat) (ad : Addr) (bc : Nat), FRow w ao n F → BA w ad bn h → Calls Tryd.prog 17 #[.agg #[.int .i64 Q, .slice ao n cap], .string s, .slice (some ad) bn bc] w fun e w' => SOut Q' c m Fo w e w') ∧
      (∀ (w : World) (ao : Option Addr) (cap : Nat) (ad : Addr) (bc : Nat), FRow w ao n F → BA w ad bn h → ET w → Calls Tryd.prog 19 #[.agg #[.int .i64 Q, .slice ao n cap], .string s, .slice (some ad) bn bc] w fun e w' => IOut Q' c m Fo w e w') := by
  by_cases hbad : (goodF Q n F && fnB s) = false
  · exact ⟨0, 1, 0, F, by omega, fun i h => by omega, by unfold cK; simp [used], fun w ao cap ad bc hr _ => appendFile_spec_bad Q ao n cap F F s ad bn bc hs _ _ rfl rfl hbad w hr hq hn hz, fun w ao cap ad bc hr _ _ => appendFile_impl_bad Q ao n cap F F s ad bn bc hs _ _ rfl rfl hbad w hr hq hn hz⟩
  · have hG : goodF Q n F = true := by cases h : goodF Q n F <;> simp_all
    have hN : fnB s = true := by cases h : fnB s <;> simp_all
    obtain ⟨p1, p2, p3, hK, p4⟩ := good_parts hG
    have hu : used F n ≤ 60000 := by omega
    have hcK : cK F n ≤ 4194304 := by unfold cK; omega
    by_cases hx : ∃ j, j < n ∧ (F j).nm = s
    · obtain ⟨j, hj, rfl⟩ := hx
      by_cases hfull : Q < ((used F n + bn : Nat) : Int)
      · refine ⟨Q, 4, n, F, hn, hz, hcK, fun w ao cap ad bc hr hA => appendFile_spec_good Q ao n cap F _ ad bn bc h hs hG hN 4 n F (fun w fb base p cc h1 h2 h5 h3 h4 _ => l2Append_full Q fb p n cc base F _ (some ad) bn bc (fun v hv => by rw [atN_hit hK hj rfl v hv]; omega) hu hbn hfull w h1 h3 hn hz) w hA hr hq hn hz, fun w ao cap ad bc hr hA hE => ?_⟩
        refine appendFile_impl_good Q ao n cap F _ ad bn bc h hs hG hK hN 4 n F (fun w bm S G hM hD hDR hBA => (put_full Q bm n F S j hj (some ad) bn bc hbn ⟨p1, p2⟩ hu hfull hK w hM hD.len).mono ?_) w hA hE hr hq hn hz
        rintro e w' ⟨he, hb⟩
        exact mout_same he (errFault (F j).nm 4 rfl) (.inr ⟨_, _, rfl⟩) hb hK hbd hn hM hD
      · have hroom : ((used F n + bn : Nat) : Int) ≤ Q := by omega
        have hlj := used_ge (F := F) n hj
        have hua := used_app (F := F) (m := bn) (h := h) n hj
        refine ⟨Q, 0, n, appF F j bn h, hn, fun i hi => ?_, by unfold cK; rw [hua]; omega, fun w ao cap ad bc hr hA => appendFile_spec_good Q ao n cap F _ ad bn bc h hs hG hN 0 n (appF F j bn h) (fun w fb base p cc h1 h2 h5 h3 h4 hB => l2Append_hit Q fb p n cc base F _ j hj ad bn bc h (atN_hit hK hj rfl) hu hbn hroom w h1 h2 h5 h3 hn hz (cat_bd (hbd j hj) hh) ⟨hB.1, hB.2.2⟩) w hA hr hq hn hz, fun w ao cap ad bc hr hA hE => ?_⟩
        · unfold appF
          by_cases e : i = j
          · rw [if_pos e]; exact ⟨(hz j hj).1, by show (F j).len + bn ≤ 1048576; omega⟩
          · rw [if_neg e]; exact hz i hi
        · exact appendFile_impl_good Q ao n cap F _ ad bn bc h hs hG hK hN 0 n (appF F j bn h) (fun w bm S G hM hD hDR hBA => put_out hj hbn ⟨p1, p2⟩ hu (hz j hj).2 hroom hK hbd hh hn w hM hD hDR (Nat.le_trans (hD.low j hj) (hD.up j hj)) hBA) w hA hE hr hq hn hz
    · have hm : ∀ j, j < n → (F j).nm ≠ s := fun j hj e => hx ⟨j, hj, e⟩
      refine ⟨Q, 2, n, F, hn, hz, hcK, fun w ao cap ad bc hr hA => appendFile_spec_good Q ao n cap F s ad bn bc h hs hG hN 2 n F (fun w fb base p cc h1 h2 h5 h3 h4 _ => l2Append_miss Q fb p n cc base F s (some ad) bn bc (atN_miss hm) w h1 h3 hn) w hA hr hq hn hz, fun w ao cap ad bc hr hA hE => ?_⟩
      refine appendFile_impl_good Q ao n cap F s ad bn bc h hs hG hK hN 2 n F (fun w bm S G hM hD hDR hBA => (put_miss Q bm n F S s _ hm w hM).mono ?_) w hA hE hr hq hn hz
      rintro e w' ⟨he, hb⟩
      exact mout_same he (errFault s 2 rfl) (.inr ⟨_, _, rfl⟩) hb hK hbd hn hM hD
end Go.Proofs.YtgedpjabjoodjaaDoor
