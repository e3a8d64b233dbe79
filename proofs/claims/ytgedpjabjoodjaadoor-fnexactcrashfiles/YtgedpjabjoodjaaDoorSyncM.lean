/- sync: what it leaves; both texts of SyncFile. -/
import Derived.Test.YtgedpjabjoodjaaDoorImplSync
import Derived.Test.YtgedpjabjoodjaaDoorReadLaw
namespace Go.Proofs.YtgedpjabjoodjaaDoor
open Go.RowKit
open Go.ChangeMaps (setBlock)
set_option linter.unusedSimpArgs false
set_option linter.unusedVariables false

set_option maxHeartbeats 1000000 in
theorem sync_miss (Q : Int) (bm n : Nat) (F : Nat → Fil) (S : Nat → Value) (s : ByteArray) (hs : ∀ j, j < n → (F j).nm ≠ s) (w : World) (hb : w.heap[bm]? = some (.map (ents F S n) n)) :
    Calls Tryd.prog 51 #[.agg #[.int .i64 Q, .map (some bm)], .string s] w fun e w' => e = .returned (.iface 90 (.agg #[.string s, .int .i64 2])) ∧ Below w.heap.size w w' := by
  have hlt : bm < w.heap.size := (Array.getElem?_eq_some_iff.1 hb).1
  have hB : Below w.heap.size w (w.alloc (.cells #[.int .i64 Q, .map (some bm)] 60)) := (Below.refl _ _).alloc (Nat.le_refl _) _
  have hbA : (w.alloc (.cells #[.int .i64 Q, .map (some bm)] 60)).heap[bm]? = some (.map (ents F S n) n) := (hB.block bm hlt).trans hb
  go_enter Tryd.func51, Tryd.ntmps51
  go_wp2_with fail
  refine (find_miss Q bm n F S s hs _ hbA).mono ?_
  rintro e w1 ⟨rfl, hb1⟩
  have bw1 : Below w.heap.size w w1 := hB.trans (hb1.mono (by simp))
  clear hb1 hB hbA
  go_wp2
  go_ret
  exact ⟨rfl, bw1.alloc bw1.size _⟩

/-- A method that refuses leaves all files. -/
theorem mout_same {c : Int} {n bm : Nat} {F : Nat → Fil} {S : Nat → Value} {G : Nat → Nat} {w w' : World} {e : Ending} {E : Value} (he : e = .returned E) (hE : ErrC E c) (hEf : E = .nilIface ∨ ∃ t v, E = .iface t v) (hb : Below w.heap.size w w') (hK : ∀ i, i < n → fileOk F i = true) (hbd : ∀ i, i < n → ∀ j, 0 ≤ (F i).f j ∧ (F i).f j ≤ 255) (hn : n ≤ 1048576) (hM : w.heap[bm]? = some (.map (ents F S n) n)) (hD : DOwn w (bm + 2) n F S G) : MOut c n F n F G bm w e w' := by
  have hlt : bm < w.heap.size := (Array.getElem?_eq_some_iff.1 hM).1
  exact ⟨E, lOf F S n, n, (lOf F S n).map (·.1), G, he, hE, hEf, mhas_of hK (hD.keep hb).len ((hb.block bm hlt).trans hM), by rw [lOf_len]; exact hn, List.Perm.refl _, rising_of hK, zown_of (hD.keep hb) hbd, hb.mono (Nat.le_of_lt hlt), fun k hk _ _ => hb.block k hk⟩

theorem sync_out {Q : Int} {n j bm : Nat} {F : Nat → Fil} {S : Nat → Value} {G : Nat → Nat} (hj : j < n) (hK : ∀ i, i < n → fileOk F i = true) (hbd : ∀ i, i < n → ∀ j, 0 ≤ (F i).f j ∧ (F i).f j ≤ 255) (hn : n ≤ 1048576) (w : World) (hM : w.heap[bm]? = some (.map (ents F S n) n)) (hD : DOwn w (bm + 2) n F S G) :
    Calls Tryd.prog 51 #[.agg #[.int .i64 Q, .map (some bm)], .string (F j).nm] w fun e w' => MOut 0 n (syncF F j) n F G bm w e w' := by
  have hlt : bm < w.heap.size := (Array.getElem?_eq_some_iff.1 hM).1
  have hS := hD.len
  refine (sync_hit Q bm n F S j hj hK w hM hS).mono ?_
  rintro e w' ⟨rfl, wX, hb, rfl⟩
  have hMX := mhas_of hK hS ((hb.block bm hlt).trans hM)
  have hltX : bm < wX.heap.size := hMX.lt
  have hup := hMX.upd (wX := wX) (lOf_at F S hj) ((F j).nm, (sAd (S j), (F j).len, sCp (S j)), ((F j).len : Int)) rfl hltX
  have hDX : DOwn (setBlock wX bm (.map (esOf ((lOf F S n).set j (((F j).nm, (sAd (S j), (F j).len, sCp (S j)), ((F j).len : Int)), j))) n)) (bm + 2) n F S G := (hD.keep hb).low' (size_setBlock _ _ _) (fun k hk => heap_setBlock_ne _ _ _ (by omega))
  have hz := zown_of hDX hbd
  have hlist : ((lOf F S n).set j (((F j).nm, (sAd (S j), (F j).len, sCp (S j)), ((F j).len : Int)), j)).map (·.1) = (lOf (syncF F j) S n).map (·.1) := by
    apply List.ext_getElem?
    intro i
    rw [List.getElem?_map, List.getElem?_map, List.getElem?_set, lOf_len]
    by_cases e : j = i
    · subst e
      rw [if_pos rfl, if_pos hj, lOf_at _ _ hj]
      simp [fOf, syncF]
    · rw [if_neg e]
      by_cases hi : i < n
      · rw [lOf_at _ _ hi, lOf_at _ _ hi]
        simp [fOf, syncF, Ne.symm e]
      · rw [List.getElem?_eq_none (by rw [lOf_len]; omega), List.getElem?_eq_none (by rw [lOf_len]; omega)]
  have hlen : ∀ i, (syncF F j i).len = (F i).len := fun i => by unfold syncF; split <;> simp_all
  have hf : ∀ i, (syncF F j i).f = (F i).f := fun i => by unfold syncF; split <;> simp_all
  have hnm : ∀ i, (syncF F j i).nm = (F i).nm := fun i => by unfold syncF; split <;> simp_all
  have hD2 : DOwn (setBlock wX bm (.map (esOf ((lOf F S n).set j (((F j).nm, (sAd (S j), (F j).len, sCp (S j)), ((F j).len : Int)), j))) n)) (bm + 2) n (syncF F j) S G :=
    ⟨fun i hi => by rw [hlen, hf]; exact hDX.data i hi, hDX.low, hDX.up, hDX.mono⟩
  refine ⟨_, _, n, (lOf (syncF F j) S n).map (·.1), G, rfl, errNil, .inl rfl, hup, by rw [List.length_set, lOf_len]; exact hn, by rw [hlist], ?_, zown_of hD2 (fun i hi k => by rw [hf]; exact hbd i hi k), below_setBlock (hb.mono (Nat.le_of_lt hlt)) (Nat.le_refl _) _, fun k hk hne _ => (heap_setBlock_ne _ _ _ hne).trans (hb.block k hk)⟩
  rw [List.pairwise_iff_getElem]
  intro i k hi hk hik
  simp only [lOf, List.map_map, List.length_map, List.length_range] at hi hk
  simp only [lOf, List.map_map, List.getElem_map, List.getElem_range, Function.comp_apply, fOf, hnm]
  have := names_rise hK (k - i - 1) i (by omega)
  rwa [show i + (k - i - 1 + 1) = k by omega] at this
end Go.Proofs.YtgedpjabjoodjaaDoor
