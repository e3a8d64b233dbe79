/- EntriesOf, in the model. -/
import Derived.Test.YtijondokppainaaLo
import Derived.Test.YtijondokppainaaGoS
namespace Go.Proofs.Ytijondokppainaa
open Go.RowKit
set_option linter.unusedSimpArgs false
set_option linter.unusedVariables false

theorem fX_all {X : Nat → Ent} {key : ByteArray} {P : Ent → Prop} : ∀ {k : Nat}, (∀ i, i < k → P (X i)) → ∀ i, i < (fX X key k).length → P (eL (fX X key k) i)
  | 0, _, i, hi => by simp [fX] at hi
  | k + 1, h, i, hi => by
    have ih := fX_all (X := X) (key := key) (P := P) (k := k) (fun i hi => h i (by omega))
    unfold fX at hi ⊢
    split at hi
    · rename_i hq
      rw [if_pos hq]
      rw [List.length_append, List.length_singleton] at hi
      rw [← eL_push _ _ i hi]
      split
      · exact h k (by omega)
      · exact ih i (by omega)
    · rename_i hq
      rw [if_neg hq]
      exact ih i hi

set_option maxRecDepth 100000 in
set_option maxHeartbeats 4000000 in
theorem l5Of_any (ao : Option Addr) (n cap : Nat) (X : Nat → Ent) (key : ByteArray) (w : World) (hr : ERow w ao n X) (hn : n ≤ 1048576) :
    Calls Try.prog 43 #[.slice ao n cap, .string key] w fun e w' => ∃ lo lc, e = .returned (.slice lo (fX X key n).length lc) ∧ ERow w' lo (fX X key n).length (eL (fX X key n)) ∧ Below w.heap.size w w' := by
  obtain ⟨i0, hi, hz0, hz1, hz2⟩ := info_parts Try.infoEnt
  obtain ⟨hbd, hlies⟩ := hr
  go_enter Try.func43, Try.ntmps43
  go_wp2
  go_loopw [5, 10] (fun u i wr => ∃ (k : Nat) (V : Nat → Value), k ≤ n ∧ i = .int .i64 k ∧ wr.ownsRow w.heap.size 39 9 u (fX X key k).length ((List.range (fX X key k).length).flatMap fun i => ecells (eL (fX X key k) i) (V i)) ∧ Hid (∀ i, i < (fX X key k).length → ∃ lo lc, V i = .slice lo (eL (fX X key k) i).n lc ∧ IRow w lo (eL (fX X key k) i).n (eL (fX X key k) i).f) ∧ Below w.heap.size w wr) (fun _ i _ => n - (intOf i).toNat)
  case atStart => exact ⟨0, fun _ => .slice none 0 0, Nat.zero_le _, rfl, World.ownsRow_nil _ _ _ _, fun i hi => by simp [fX] at hi, Below.refl _ _⟩
  case round =>
    obtain ⟨k, V, hk, rfl, hO, hV, hbk⟩ := hrel
    have hl := fX_len X key k
    by_cases hlt : k < n
    · obtain ⟨lo, lc, rfl⟩ := ownsRow_form hO
      obtain ⟨b, off, rfl, hblt, hc⟩ := hlies.resolve_left (by omega)
      obtain ⟨da, dc, ea, ir⟩ := hc k hlt
      obtain ⟨_, a0, a1, a2, a3, a4, a5, a6, a7, a8⟩ := ea.keep hbk
      have hsz := hbk.size
      clear hc hlies ea
      cases hq : (X k).key.toList == key.toList
      · have HF : Hid (fX X key (k + 1) = fX X key k) := by simp [Hid, fX, hq]
        have bwn := hbk.alloc hsz (.cells #[.string (X k).key, .int .i64 (X k).seq, .int .i64 (X k).kind, .int .i64 (X k).c, .int .i64 (X k).s, .int .i64 (X k).lo, .int .i64 (X k).hi, .slice da (X k).n dc, .bool (X k).fu] 39)
        have On := ownsRow_keep hO (below_new wr (.cells #[.string (X k).key, .int .i64 (X k).seq, .int .i64 (X k).kind, .int .i64 (X k).c, .int .i64 (X k).s, .int .i64 (X k).lo, .int .i64 (X k).hi, .slice da (X k).n dc, .bool (X k).fu] 39))
        clear hO
        go_wp2
        go_roundw
        case rel => exact ⟨k + 1, V, by omega, by go_num, by rw [HF.out]; exact On, by rw [HF.out]; exact hV, bwn⟩
        case measure => simp [intOf]; omega
      · have HF : Hid (fX X key (k + 1) = fX X key k ++ [X k]) := by simp [Hid, fX, hq]
        have hB2 : Below wr.heap.size wr ((wr.alloc (.cells #[.string (X k).key, .int .i64 (X k).seq, .int .i64 (X k).kind, .int .i64 (X k).c, .int .i64 (X k).s, .int .i64 (X k).lo, .int .i64 (X k).hi, .slice da (X k).n dc, .bool (X k).fu] 39)).alloc (.cells #[.string (X k).key, .int .i64 (X k).seq, .int .i64 (X k).kind, .int .i64 (X k).c, .int .i64 (X k).s, .int .i64 (X k).lo, .int .i64 (X k).hi, .slice da (X k).n dc, .bool (X k).fu] 39)) := (below_new wr _).alloc (by simp) _
        have O2 := ownsRow_keep hO hB2
        have bw2 := hbk.trans (hB2.mono hsz)
        have hnew := nine_new (wr.alloc (.cells #[.string (X k).key, .int .i64 (X k).seq, .int .i64 (X k).kind, .int .i64 (X k).c, .int .i64 (X k).s, .int .i64 (X k).lo, .int .i64 (X k).hi, .slice da (X k).n dc, .bool (X k).fu] 39)) (X k) (.slice da (X k).n dc) 39
        simp only [World.size_alloc] at hnew
        have ltv := hO.lt
        clear hO hB2
        go_wp2_with (at_builtin; refine wpList_append_own (w := ((wr.alloc (.cells #[.string (X k).key, .int .i64 (X k).seq, .int .i64 (X k).kind, .int .i64 (X k).c, .int .i64 (X k).s, .int .i64 (X k).lo, .int .i64 (X k).hi, .slice da (X k).n dc, .bool (X k).fu] 39)).alloc (.cells #[.string (X k).key, .int .i64 (X k).seq, .int .i64 (X k).kind, .int .i64 (X k).c, .int .i64 (X k).s, .int .i64 (X k).lo, .int .i64 (X k).hi, .slice da (X k).n dc, .bool (X k).fu] 39))) rfl (.tmp 18) (.tmp 20) 25 rfl w.heap.size 39 i0 _ 9 96 Try.underlying25 hi hz0 hz1 hz2 rfl (by decide) (.slice lo (fX X key k).length lc) (fX X key k).length ((List.range (fX X key k).length).flatMap fun i => ecells (eL (fX X key k) i) (V i)) rfl O2 ⟨wr.heap.size + 1, 0, none⟩ 1 1 (ecells (X k) (.slice da (X k).n dc)) rfl rfl hnew (fun u hu => by simp only [ecells, List.mem_cons, List.not_mem_nil, or_false] at hu; rcases hu with rfl | rfl | rfl | rfl | rfl | rfl | rfl | rfl | rfl <;> rfl) (by unfold maxLen; omega) (by omega) (by simp; omega) ?_; intro v8 w8 O8 g8 _)
        have B8 : Below w.heap.size w w8 := bw2.grown g8 (by simp; omega) (fun q hq => (ltv q hq).1)
        have E8 : w8.ownsRow w.heap.size 39 9 v8 (fX X key (k + 1)).length ((List.range (fX X key (k + 1)).length).flatMap fun i => ecells (eL (fX X key (k + 1)) i) (if i = (fX X key k).length then .slice da (X k).n dc else V i)) := by
          rw [HF.out, List.length_append, List.length_singleton, List.range_succ, List.flatMap_append]
          have e1 : ((List.range (fX X key k).length).flatMap fun i => ecells (eL (fX X key k ++ [X k]) i) (if i = (fX X key k).length then .slice da (X k).n dc else V i)) = ((List.range (fX X key k).length).flatMap fun i => ecells (eL (fX X key k) i) (V i)) := by
            unfold List.flatMap
            congr 1
            refine List.map_congr_left fun i hi => ?_
            have := List.mem_range.1 hi
            rw [← eL_push _ _ i (by omega), if_neg (by omega), if_neg (by omega)]
          rw [e1]
          have e2 : (List.flatMap (fun i => ecells (eL (fX X key k ++ [X k]) i) (if i = (fX X key k).length then Value.slice da (X k).n dc else V i)) [(fX X key k).length]) = ecells (X k) (.slice da (X k).n dc) := by
            simp only [List.flatMap_cons, List.flatMap_nil, List.append_nil, if_true]
            rw [← eL_push _ _ _ (by omega), if_pos rfl]
          rw [e2]
          exact O8
        have V8 : Hid (∀ i, i < (fX X key (k + 1)).length → ∃ lo lc, (if i = (fX X key k).length then Value.slice da (X k).n dc else V i) = .slice lo (eL (fX X key (k + 1)) i).n lc ∧ IRow w lo (eL (fX X key (k + 1)) i).n (eL (fX X key (k + 1)) i).f) := fun i hi => by
          rw [HF.out] at hi ⊢
          rw [List.length_append, List.length_singleton] at hi
          rw [← eL_push _ _ i hi]
          split
          · exact ⟨da, dc, rfl, ir⟩
          · exact hV.out i (by omega)
        clear O8 g8 O2 hV ltv
        go_roundw
        case rel => exact ⟨k + 1, _, by omega, by go_num, E8, V8, B8⟩
        case measure => simp [intOf]; omega
    · have e : k = n := by omega
      subst e
      clear hlies
      obtain ⟨lo, lc, rfl, hE⟩ := erow_of hO (fun i hi => by obtain ⟨p, q, h1, h2⟩ := hV.out i hi; exact ⟨p, q, h1, h2.keep hbk⟩) (fX_all hbd)
      clear hO hV
      go_wp2
      go_ret
      exact ⟨lo, lc, rfl, hE, hbk⟩

set_option maxHeartbeats 2000000 in
theorem entriesOf_spec (ao : Option Addr) (n cap : Nat) (X : Nat → Ent) (key : ByteArray) (w : World) (hr : ERow w ao n X) (hn : n ≤ 1048576) (hz : ESize n X) :
    Calls Try.prog 20 #[.slice ao n cap, .string key] w fun e w' => EoO (GoodL X n) (fX X key n) w e w' := by
  have hl := fX_len X key n
  go_enter Try.func20, Try.ntmps20
  go_wp2_with fail
  refine (goodEntries_spec ao n cap X _ hr hn hz).mono ?_
  rintro e w1 ⟨b1, rfl, h1, bw1⟩
  cases b1
  · have H : Hid (¬ GoodL X n) := fun h => by
      have := h1.2 h
      cases this
    clear h1
    go_wp2
    refine bodyPost_ret (v := .tuple #[.slice none 0 0, .bool false]) (by simp [results, Try.results20, go_sem]) rfl (.inl ⟨H.out, _, _, rfl, outE_nil _ _ _, bw1⟩)
  · have HG : Hid (GoodL X n) := h1.1 rfl
    clear h1
    go_wp2_with fail
    refine (l5Of_any ao n cap X key _ (hr.keep bw1) hn).mono ?_
    rintro e w2 ⟨lo, lc, rfl, hE, hb2⟩
    have bw2 := bw1.trans (hb2.mono bw1.size)
    clear hb2
    go_wp2_with fail
    refine (l5Own_any lo _ lc _ _ hE (by omega) (fX_all (P := fun x => x.key.size ≤ 1048576 ∧ x.n ≤ 1048576) hz)).mono ?_
    rintro e w3 ⟨v, V, rfl, hO, hb3⟩
    have bw3 := bw2.trans (hb3.mono bw2.size)
    have O3 : OutE w3 w.heap.size v (fX X key n).length (eL (fX X key n)) V := ⟨ownsRow_mono hO.own bw2.size, fun i hi => (hO.row i hi).mono bw2.size, hO.dis, hO.apart⟩
    obtain ⟨go, gc, rfl⟩ := ownsRow_form O3.own
    clear hO hb3
    go_wp2
    exact bodyPost_ret (v := .tuple #[.slice go (fX X key n).length gc, .bool true]) (by simp [results, Try.results20, go_sem]) rfl (.inr ⟨HG.out, _, _, rfl, O3, bw3⟩)
end Go.Proofs.Ytijondokppainaa
