/- The sort of files by their names: its contract, from the library's. -/
import Derived.Test.YtapmbgmmonhdoaaGreatDoorRiseW
import Derived.Test.YtapmbgmmonhdoaaGreatDoorSortL
import Derived.Shelf.SlSortCmp.NoneTotal
namespace Go.Proofs.YtapmbgmmonhdoaaGreatDoor
set_option maxRecDepth 100000
open Go.RowKit
open Go.Shelf
open Go.Sort (HoldsK SWO PermIn SortedIn flatK size_flatK get_flatK)
set_option linter.unusedSimpArgs false
set_option linter.unusedVariables false

theorem bl_tot : ∀ a b : List UInt8, Op.bytesLess a b = false → Op.bytesLess b a = false → a = b
  | [], [], _, _ => rfl
  | [], _ :: _, h, _ => by simp [Op.bytesLess] at h
  | _ :: _, [], _, h => by simp [Op.bytesLess] at h
  | x :: a, y :: b, h, g => by
    simp only [Op.bytesLess, Bool.or_eq_false_iff, Bool.and_eq_false_iff, decide_eq_false_iff_not, beq_eq_false_iff_ne] at h g
    have e : x = y := UInt8.le_antisymm (UInt8.not_lt.1 g.1) (UInt8.not_lt.1 h.1)
    subst e
    rw [bl_tot a b (h.2.resolve_left (fun k => k rfl)) (g.2.resolve_left (fun k => k rfl))]
def cmpN (a b : ByteArray) : Int := if Op.bytesLess a.toList b.toList = true then -1 else if (a.toList == b.toList) = true then 0 else 1
def cmpF (x y : FT) : Int := cmpN x.1 y.1
theorem lt_cmpF (x y : FT) : ltOf cmpF x y = Op.bytesLess x.1.toList y.1.toList := by
  unfold ltOf cmpF cmpN
  cases h : Op.bytesLess x.1.toList y.1.toList with
  | true => rfl
  | false =>
    rw [if_neg (by decide)]
    by_cases h2 : (x.1.toList == y.1.toList) = true
    · rw [if_pos h2]; rfl
    · rw [if_neg h2]; rfl
theorem swoF : SWO (ltOf cmpF) where
  irrefl x := by rw [lt_cmpF]; exact bl_selfF _
  trans x y z h1 h2 := by rw [lt_cmpF] at *; exact bl_trans _ _ _ h1 h2
  ntrans x y z h1 h2 := by
    rw [lt_cmpF] at *
    cases h : Op.bytesLess x.1.toList z.1.toList with
    | false => rfl
    | true =>
      cases h3 : Op.bytesLess y.1.toList x.1.toList with
      | true => rw [bl_trans _ _ _ h3 h] at h2; exact absurd h2 (by decide)
      | false => rw [bl_tot _ _ h1 h3, h2] at h; exact absurd h (by decide)

theorem isNaNS_any (a : ByteArray) (W : World) : Calls Tryz.prog 196 #[.string a] W fun e w' => e = .returned (.bool false) ∧ w' = W := by
  go_enter Tryz.func196, Tryz.ntmps196
  go_wp2
  go_ret
  simp
set_option maxHeartbeats 1000000 in
theorem compare_any (a b : ByteArray) (W : World) : Calls Tryz.prog 157 #[.string a, .string b] W fun e w' => e = .returned (.int .i64 (cmpN a b)) ∧ w' = W := by
  unfold cmpN
  cases h1 : Op.bytesLess a.toList b.toList <;> cases h2 : a.toList == b.toList
  all_goals
    go_enter Tryz.func157, Tryz.ntmps157
    go_wp2_with (go_at_call 196; refine (isNaNS_any _ _).mono ?_; rintro e w' ⟨rfl, rfl⟩)
    go_ret
    simp
set_option maxHeartbeats 1000000 in
theorem compareFiles_any (x y : FT) (W : World) : Calls Tryz.prog 109 #[.agg #[.string x.1, .slice x.2.1.1 x.2.1.2.1 x.2.1.2.2, .int .i64 x.2.2], .agg #[.string y.1, .slice y.2.1.1 y.2.1.2.1 y.2.1.2.2, .int .i64 y.2.2]] W fun e w' => e = .returned (.int .i64 (cmpF x y)) ∧ ∃ q os', w' = Sort.grow (W.drewN q) os' := by
  obtain ⟨a, ⟨p1, p2, p3⟩, p4⟩ := x
  obtain ⟨b, ⟨q1, q2, q3⟩, q4⟩ := y
  have hc := fun W' => compare_any a b W'
  show Calls Tryz.prog 109 _ W fun e w' => e = .returned (.int .i64 (cmpN a b)) ∧ _
  generalize cmpN a b = r at hc ⊢
  go_enter Tryz.func109, Tryz.ntmps109
  go_wp2_with (go_at_call 157; refine (hc _).mono ?_; rintro e w' ⟨rfl, rfl⟩)
  go_ret
  exact ⟨rfl, 0, _, by rw [Sort.alloc_eq_grow, Sort.alloc_eq_grow, Sort.grow_grow]; rfl⟩

theorem fm_get : ∀ (xs : List FT) (t : Nat), t < xs.length * 3 → (xs.flatMap fenc)[t]! = (fenc (xs[t / 3]!))[t % 3]!
  | [], t, h => by simp at h
  | x :: xs, t, h => by
    rw [List.flatMap_cons]
    by_cases h3 : t < 3
    · have e : t = 0 ∨ t = 1 ∨ t = 2 := by omega
      rcases e with rfl | rfl | rfl <;> simp [fenc]
    · obtain ⟨u, rfl⟩ : ∃ u, t = u + 3 := ⟨t - 3, by omega⟩
      have ih := fm_get xs u (by simp only [List.length_cons] at h; omega)
      have e1 : (u + 3) / 3 = u / 3 + 1 := by omega
      have e2 : (u + 3) % 3 = u % 3 := by omega
      rw [e1, e2]
      simp only [fenc, List.cons_append, List.nil_append, List.getElem!_cons_succ] at ih ⊢
      exact ih
theorem fm_get? (xs : List FT) (t : Nat) (h : t < xs.length * 3) : (xs.flatMap fenc)[t]? = some ((fenc (xs[t / 3]!))[t % 3]!) := by
  have hl : t < (xs.flatMap fenc).length := by rw [fenc_len]; exact h
  rw [← fm_get xs t h, List.getElem?_eq_getElem hl]
  exact congrArg some (getElem!_pos (xs.flatMap fenc) t hl).symm
theorem row_holds {w : World} {g e : Nat} {cur : Array Value} (xs : List FT) (hg : w.heap[g]? = some (.cells cur e (0, 0))) (ht : cur.toList.take (xs.length * 3) = xs.flatMap fenc) : HoldsK fenc 3 w g 0 xs.toArray := by
  intro j hj
  rw [size_flatK, List.size_toArray] at hj
  have h1 : cur[j]? = some ((fenc (xs[j / 3]!))[j % 3]!) := by
    rw [← fm_get? xs j hj, ← ht, List.getElem?_take_of_lt hj, Array.getElem?_toList]
  rw [get_flatK _ _ _ _ (by simpa using hj)]
  simp only [World.cell?, World.frozen?, hg, Nat.zero_add, h1]
  simp
theorem sort_block {w : World} {g e m : Nat} {cur : Array Value} (ys : List FT) (os : Array Obj) (hg : w.heap[g]? = some (.cells cur e (0, 0))) (hl : ys.length * 3 ≤ cur.size) :
    ∃ cur', (sortWorldK fenc 3 w g 0 m ys.toArray os).heap[g]? = some (.cells cur' e (0, 0)) ∧ cur'.size = cur.size ∧ cur'.toList.take (ys.length * 3) = ys.flatMap fenc := by
  have hlt : g < w.heap.size := (Array.getElem?_eq_some_iff.1 hg).1
  refine ⟨Sort.putCells id 0 (flatK fenc 3 ys.toArray) cur, ?_, by simp [Sort.putCells], ?_⟩
  · unfold sortWorldK Sort.grow Sort.putRowK Sort.putRow Sort.mapBlock Sort.ahead
    rw [Array.getElem?_append_left (by simpa using hlt), Array.getElem?_modify, if_pos rfl, hg]
    rfl
  · apply List.ext_getElem?
    intro t
    by_cases h : t < ys.length * 3
    · rw [List.getElem?_take_of_lt h, Array.getElem?_toList, fm_get? ys t h]
      have hc : t < cur.size := by omega
      rw [Sort.putCells, Array.getElem?_mapIdx, Array.getElem?_eq_getElem hc, Option.map_some, if_pos ⟨Nat.zero_le _, by rw [size_flatK, List.size_toArray]; omega⟩, Nat.sub_zero, get_flatK _ _ _ _ (by simpa using h)]
      simp
    · rw [List.getElem?_eq_none (by rw [List.length_take]; omega), List.getElem?_eq_none (by rw [fenc_len]; omega)]
theorem sort_grown (w : World) (g m : Nat) (ys : Array FT) (os : Array Obj) (n cap : Nat) : w.grownBy (sortWorldK fenc 3 w g 0 m ys os) (Value.slice (some ⟨g, 0, none⟩) n cap).ownBlock where
  os := rfl
  tape := rfl
  output := rfl
  size := by simp [sortWorldK, Sort.grow, Sort.putRowK, Sort.putRow, Sort.mapBlock, Sort.ahead]
  block k hk hne := by
    have hne' : g ≠ k := fun e => hne (by rw [e]; rfl)
    unfold sortWorldK Sort.grow Sort.putRowK Sort.putRow Sort.mapBlock Sort.ahead
    rw [Array.getElem?_append_left (by simpa using hk), Array.getElem?_modify, if_neg hne']

theorem sort_any (base : Nat) : SortC base := by
  intro xs v W hown hnd hlen
  rcases hown with ⟨hl, ⟨rfl, h0⟩ | ⟨g, cap, cur, rfl, hbg, hg, hnc, hcm, hcs, ht⟩⟩
  · have hx : xs = [] := List.eq_nil_of_length_eq_zero h0
    subst hx
    refine (AnyF.slices_SortFunc_none sortFile none 0 (.func (.func 109) #[] #[]) W).mono ?_
    rintro e w' ⟨rfl, rfl⟩
    exact ⟨rfl, [], List.Perm.refl _, List.Pairwise.nil, World.ownsRow_nil _ _ _ _, ⟨rfl, rfl, rfl, Nat.le_refl _, fun _ _ _ => rfl⟩⟩
  · have hlt : g < W.heap.size := (Array.getElem?_eq_some_iff.1 hg).1
    have eg : ∀ args w, (callFunc 109 args).run Tryz.prog w = .ok (.enter 109 args) w := enters_of Tryz.func109 (by kernel_rfl) rfl
    have hcmp : CmpLays Tryz.prog 109 #[] fenc 3 cmpF g 0 xs.toArray.size W := fun m os dk hs x y => compareFiles_any x y _
    have hcon := AnyQ.slices_SortFunc sortFile 3 Tryz.isAgg40 Tryz.sizeOf40 fenc (fun _ => rfl) fenc_one cmpF swoF 109 #[] g 0 cap xs.toArray W eg hcmp (row_holds xs hg ht) hlt (by rw [List.size_toArray]; omega)
    rw [List.size_toArray] at hcon
    refine Calls.mono (P := Tryz.prog) hcon ?_
    rintro e w' ⟨rfl, d', n, os, hp, hs, rfl⟩
    have hsz : d'.size = xs.length := hp.1.trans (List.size_toArray ..)
    have hperm : d'.toList.Perm xs := by
      have := hp.2.2
      rw [← hsz] at this
      rw [Array.extract_size] at this
      have h2 : xs.toArray.extract 0 d'.size = xs.toArray := by rw [hsz]; exact Array.extract_size (xs := xs.toArray)
      rw [h2] at this
      exact this
    have hnd' : (d'.toList.map (·.1)).Nodup := (hperm.map _).nodup_iff.2 hnd
    obtain ⟨cur', b1, b2, b3⟩ := sort_block (m := n) d'.toList os hg (by rw [Array.length_toList, hsz, hcs]; exact Nat.mul_le_mul_right 3 hnc)
    refine ⟨rfl, d'.toList, hperm, ?_, ⟨fenc_len _, .inr ⟨g, cap, cur', by simp [hsz], hbg, b1, by rw [Array.length_toList, hsz]; exact hnc, hcm, b2.trans hcs, b3⟩⟩, sort_grown _ _ _ _ _ _ _⟩
    rw [List.pairwise_iff_getElem]
    intro i j hi hj hij
    have hi' : i < d'.size := by simpa using hi
    have hj' : j < d'.size := by simpa using hj
    have h1 := hs i j (Nat.zero_le _) hij (by omega)
    rw [lt_cmpF, getElem!_pos d' i hi', getElem!_pos d' j hj'] at h1
    rw [Array.getElem_toList, Array.getElem_toList]
    cases h2 : Op.bytesLess d'[i].1.toList d'[j].1.toList with
    | true => rfl
    | false =>
      exfalso
      have e1 := bl_tot _ _ h2 h1
      have e2 : d'[i].1 = d'[j].1 := ByteArray.ext (Array.toList_inj.1 (by rwa [ByteArray.toList_eq, ByteArray.toList_eq] at e1))
      have h3 := List.pairwise_iff_getElem.1 hnd' i j (by simpa using hi') (by simpa using hj') hij
      simp at h3
      exact h3 e2
end Go.Proofs.YtapmbgmmonhdoaaGreatDoor
