/- remove: what it leaves. -/
import Derived.Test.YtgedpjabjoodjaaDoorAppF
namespace Go.Proofs.YtgedpjabjoodjaaDoor
open Go.RowKit
open Go.ChangeMaps (setBlock)
set_option linter.unusedSimpArgs false
set_option linter.unusedVariables false

/-- Where file i stood before file j was struck. -/
def sh (j i : Nat) : Nat := if i < j then i else i + 1
theorem sh_lt {j i n : Nat} (hj : j < n) (hi : i < n - 1) : sh j i < n := by unfold sh; split <;> omega
theorem sh_mono {j i k : Nat} (h : i < k) : sh j i < sh j k := by unfold sh; split <;> split <;> omega
def remF (F : Nat → Fil) (j i : Nat) : Fil := F (sh j i)

set_option maxHeartbeats 1000000 in
theorem remove_miss (Q : Int) (bm n : Nat) (F : Nat → Fil) (S : Nat → Value) (s : ByteArray) (hs : ∀ j, j < n → (F j).nm ≠ s) (w : World) (hb : w.heap[bm]? = some (.map (ents F S n) n)) :
    Calls Tryd.prog 56 #[.agg #[.int .i64 Q, .map (some bm)], .string s] w fun e w' => e = .returned (.iface 90 (.agg #[.string s, .int .i64 2])) ∧ Below w.heap.size w w' := by
  have hlt : bm < w.heap.size := (Array.getElem?_eq_some_iff.1 hb).1
  have hB : Below w.heap.size w (w.alloc (.cells #[.int .i64 Q, .map (some bm)] 60)) := (Below.refl _ _).alloc (Nat.le_refl _) _
  have hbA : (w.alloc (.cells #[.int .i64 Q, .map (some bm)] 60)).heap[bm]? = some (.map (ents F S n) n) := (hB.block bm hlt).trans hb
  go_enter Tryd.func56, Tryd.ntmps56
  go_wp2_with fail
  refine (find_miss Q bm n F S s hs _ hbA).mono ?_
  rintro e w1 ⟨rfl, hb1⟩
  have bw1 : Below w.heap.size w w1 := hB.trans (hb1.mono (by simp))
  clear hb1 hB hbA
  go_wp2
  go_ret
  exact ⟨rfl, bw1.alloc bw1.size _⟩

set_option maxHeartbeats 2000000 in
theorem remove_hit (Q : Int) (bm n : Nat) (F : Nat → Fil) (S : Nat → Value) (j : Nat) (hj : j < n) (HK : Hid (∀ i, i < n → fileOk F i = true)) (w : World) (hb : w.heap[bm]? = some (.map (ents F S n) n)) (hS : ∀ i, i < n → ∃ da dc, S i = .slice da (F i).len dc) :
    Calls Tryd.prog 56 #[.agg #[.int .i64 Q, .map (some bm)], .string (F j).nm] w fun e w' => e = .returned .nilIface ∧ ∃ wX, Below w.heap.size w wX ∧ w' = setBlock wX bm (.map (esOf ((lOf F S n).eraseIdx j)) n) := by
  have hM := mhas_of HK.out hS hb
  obtain ⟨da, dc, hSj⟩ := hS j hj
  have hB : Below w.heap.size w (w.alloc (.cells #[.int .i64 Q, .map (some bm)] 60)) := (Below.refl _ _).alloc (Nat.le_refl _) _
  have X0 := QAt.new w Q (.map (some bm)) 60
  have hbA : (w.alloc (.cells #[.int .i64 Q, .map (some bm)] 60)).heap[bm]? = some (.map (ents F S n) n) := (hB.block bm hM.lt).trans hb
  go_enter Tryd.func56, Tryd.ntmps56
  go_wp2_with fail
  refine (find_hit Q bm n F S j hj HK _ hbA da dc hSj).mono ?_
  rintro e w1 ⟨rfl, hb1⟩
  have bw1 : Below w.heap.size w w1 := hB.trans (hb1.mono (by simp))
  obtain ⟨lx, x0, x1⟩ := X0.keep hb1
  have bwA := bw1.alloc (B := w.heap.size) bw1.size (.cells #[.string (F j).nm, .slice da (F j).len dc, .int .i64 (F j).sy] 73)
  have hMA := hM.keep bwA
  have hup := fun ty => run_delete (P := Tryd.prog) Tryd.underlying58 Tryd.underlying9 hMA (lOf_at F S hj) 9 ty
  change ∀ ty, (Builtin.delete_ #[58, 9] ty #[.map (some bm), .string (F j).nm]).run Tryd.prog _ = _ at hup
  clear hB X0 hbA hb1 hS hb hM
  go_wp2_with (at_builtin; refine wpList_delete_run _ rfl (.tmp 17) (.tmp 18) 58 9 rfl (.map (some bm)) (.string (F j).nm) _ rfl rfl _ hup ?_)
  go_ret
  exact ⟨rfl, _, bwA, rfl⟩

theorem remove_out {Q : Int} {n j bm : Nat} {F : Nat → Fil} {S : Nat → Value} {G : Nat → Nat} (hj : j < n) (hK : ∀ i, i < n → fileOk F i = true) (hbd : ∀ i, i < n → ∀ j, 0 ≤ (F i).f j ∧ (F i).f j ≤ 255) (hn : n ≤ 1048576) (w : World) (hM : w.heap[bm]? = some (.map (ents F S n) n)) (hD : DOwn w (bm + 2) n F S G) :
    Calls Tryd.prog 56 #[.agg #[.int .i64 Q, .map (some bm)], .string (F j).nm] w fun e w' => MOut 0 (n - 1) (remF F j) n F G bm w e w' := by
  have hlt : bm < w.heap.size := (Array.getElem?_eq_some_iff.1 hM).1
  have hS := hD.len
  refine (remove_hit Q bm n F S j hj hK w hM hS).mono ?_
  rintro e w' ⟨rfl, wX, hb, rfl⟩
  have hMX := mhas_of hK hS ((hb.block bm hlt).trans hM)
  have hltX : bm < wX.heap.size := hMX.lt
  have hup := hMX.del (wX := wX) (j := j) hltX
  have hDX : DOwn (setBlock wX bm (.map (esOf ((lOf F S n).eraseIdx j)) n)) (bm + 2) n F S G := (hD.keep hb).low' (size_setBlock _ _ _) (fun k hk => heap_setBlock_ne _ _ _ (by omega))
  have hz := zown_of hDX hbd
  have hlen : ((lOf F S n).eraseIdx j).length = n - 1 := by rw [List.length_eraseIdx, lOf_len, if_pos hj]
  have hzo : ZOwn (setBlock wX bm (.map (esOf ((lOf F S n).eraseIdx j)) n)) bm (n - 1) (((lOf F S n).eraseIdx j).map (·.1)) (remF F j) (fun i => G (sh j i)) := by
    refine ⟨by rw [List.length_map, hlen], fun i x hx => ?_, fun i hi k => hbd _ (sh_lt hj hi) k, fun i k hik hk h1 h2 => hz.apart _ _ (sh_mono hik) (sh_lt hj hk) h1 h2⟩
    refine hz.data (sh j i) x ?_
    rw [← hx, ← erase_map, List.getElem?_eraseIdx]
    unfold sh
    split <;> rfl
  refine ⟨_, _, n, _, _, rfl, errNil, .inl rfl, hup, by rw [hlen]; omega, List.Perm.refl _, (List.Pairwise.sublist ((List.eraseIdx_sublist (lOf F S n) j).map _) (rising_of hK)), hzo, below_setBlock (hb.mono (Nat.le_of_lt hlt)) (Nat.le_refl _) _, fun k hk hne _ => (heap_setBlock_ne _ _ _ hne).trans (hb.block k hk)⟩
end Go.Proofs.YtgedpjabjoodjaaDoor
