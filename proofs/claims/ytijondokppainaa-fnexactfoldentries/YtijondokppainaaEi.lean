/- EntriesOf, in the program. -/
import Derived.Test.YtijondokppainaaAd
import Derived.Test.YtijondokppainaaGoI
namespace Go.Proofs.Ytijondokppainaa
open Go.RowKit
set_option linter.unusedSimpArgs false
set_option linter.unusedVariables false

def dE : Ent := ⟨.empty, 0, 0, 0, 0, 0, 0, 0, fun _ => 0, false⟩
def eL (E : List Ent) (i : Nat) : Ent := E.getD i dE
theorem eL_push (E : List Ent) (x : Ent) : ∀ i, i < E.length + 1 → (if i = E.length then x else eL E i) = eL (E ++ [x]) i := by
  intro i hi
  unfold eL
  by_cases h : i = E.length
  · subst h; simp
  · rw [if_neg h]
    simp [List.getD, List.getElem?_append_left (show i < E.length from by omega)]
/-- Those of a key among the first k. -/
def fX (X : Nat → Ent) (key : ByteArray) : Nat → List Ent
  | 0 => []
  | k + 1 => if ((X k).key.toList == key.toList) = true then fX X key k ++ [X k] else fX X key k
theorem fX_len (X : Nat → Ent) (key : ByteArray) : ∀ k, (fX X key k).length ≤ k
  | 0 => by simp [fX]
  | k + 1 => by
    have := fX_len X key k
    unfold fX
    split
    · simp; omega
    · omega
/-- An answer of entries of the call's own. -/
def EoA (E : List Ent) (c : Bool) (w : World) (e : Ending) (w' : World) : Prop :=
  ∃ v V, e = .returned (.tuple #[v, .bool c]) ∧ OutE w' w.heap.size v E.length (eL E) V ∧ Below w.heap.size w w'
/-- What EntriesOf leaves. -/
def EoO (good : Prop) (E : List Ent) (w : World) (e : Ending) (w' : World) : Prop := (¬ good ∧ EoA [] false w e w') ∨ (good ∧ EoA E true w e w')

set_option maxRecDepth 100000 in
set_option maxHeartbeats 4000000 in
theorem entriesOf_impl (ao : Option Addr) (n cap : Nat) (X : Nat → Ent) (key : ByteArray) (w : World) (hr : ERow w ao n X) (hn : n ≤ 1048576) (hz : ESize n X) :
    Calls Try.prog 21 #[.slice ao n cap, .string key] w fun e w' => EoO (GoodL X n) (fX X key n) w e w' := by
  go_enter Try.func21, Try.ntmps21
  go_wp2_with fail
  refine (goodEntries_impl ao n cap X _ hr hn hz).mono ?_
  rintro e w1 ⟨b1, rfl, h1, bw1⟩
  cases b1
  · have H : Hid (¬ GoodL X n) := fun h => by
      have := h1.2 h
      cases this
    clear h1
    go_wp2
    refine bodyPost_ret (v := .tuple #[.slice none 0 0, .bool false]) (by simp [results, Try.results21, go_sem]) rfl (.inl ⟨H.out, _, _, rfl, outE_nil _ _ _, bw1⟩)
  · have HG : Hid (GoodL X n) := h1.1 rfl
    clear h1
    obtain ⟨hbd, hlies⟩ := hr
    go_wp2
    go_loopw [6, 14] (fun u i wr => ∃ (k : Nat) (V : Nat → Value), k ≤ n ∧ i = .int .i64 k ∧ OutE wr w.heap.size u (fX X key k).length (eL (fX X key k)) V ∧ Below w.heap.size w wr) (fun _ i _ => n - (intOf i).toNat)
    case atStart => exact ⟨0, _, Nat.zero_le _, rfl, outE_nil _ _ _, bw1⟩
    case round =>
      obtain ⟨k, V, hk, rfl, hO, hbk⟩ := hrel
      obtain ⟨lo, lc, rfl⟩ := ownsRow_form hO.own
      have hl := fX_len X key k
      by_cases hlt : k < n
      · obtain ⟨b, off, rfl, hblt, hc⟩ := hlies.resolve_left (by omega)
        obtain ⟨da, dc, ea, ir⟩ := hc k hlt
        obtain ⟨_, a0, a1, a2, a3, a4, a5, a6, a7, a8⟩ := ea.keep hbk
        have hsz := hbk.size
        have hzk := (hz k hlt).2
        have irk := ir.keep hbk
        clear hc hlies ea ir
        cases hq : (X k).key.toList == key.toList
        · have HF : Hid (fX X key (k + 1) = fX X key k) := by simp [Hid, fX, hq]
          have bwn := hbk.alloc hsz (.cells #[.string (X k).key, .int .i64 (X k).seq, .int .i64 (X k).kind, .int .i64 (X k).c, .int .i64 (X k).s, .int .i64 (X k).lo, .int .i64 (X k).hi, .slice da (X k).n dc, .bool (X k).fu] 39)
          have On := hO.keep (below_new wr (.cells #[.string (X k).key, .int .i64 (X k).seq, .int .i64 (X k).kind, .int .i64 (X k).c, .int .i64 (X k).s, .int .i64 (X k).lo, .int .i64 (X k).hi, .slice da (X k).n dc, .bool (X k).fu] 39))
          clear hO irk
          go_wp2
          go_roundw
          case rel => exact ⟨k + 1, V, by omega, by go_num, by rw [HF.out]; exact On, bwn⟩
          case measure => simp [intOf]; omega
        · have HF : Hid (fX X key (k + 1) = fX X key k ++ [X k]) := by simp [Hid, fX, hq]
          have hB2 : Below wr.heap.size wr ((wr.alloc (.cells #[.string (X k).key, .int .i64 (X k).seq, .int .i64 (X k).kind, .int .i64 (X k).c, .int .i64 (X k).s, .int .i64 (X k).lo, .int .i64 (X k).hi, .slice da (X k).n dc, .bool (X k).fu] 39)).alloc (.cells #[.string (X k).key, .int .i64 (X k).seq, .int .i64 (X k).kind, .int .i64 (X k).c, .int .i64 (X k).s, .int .i64 (X k).lo, .int .i64 (X k).hi, .slice da (X k).n dc, .bool (X k).fu] 39)) := (below_new wr _).alloc (by simp) _
          have N2 := EAt.new (wr.alloc (.cells #[.string (X k).key, .int .i64 (X k).seq, .int .i64 (X k).kind, .int .i64 (X k).c, .int .i64 (X k).s, .int .i64 (X k).lo, .int .i64 (X k).hi, .slice da (X k).n dc, .bool (X k).fu] 39)) (X k) da dc 39
          simp only [World.size_alloc] at N2
          have O2 := hO.keep hB2
          have hA := addOne_any lo lc w.heap.size (fX X key k).length (eL (fX X key k)) V (wr.heap.size + 1) 0 1 (X k) da dc _ O2 N2 (irk.keep hB2) hzk (by omega) (by simp; omega)
          have bw2 := hbk.trans (hB2.mono hsz)
          clear N2 O2 hO irk hB2
          go_wp2_with fail
          refine hA.mono ?_
          rintro e w3 ⟨v3, V3, rfl, O3, q3⟩
          have bw3 := bw2.trans q3
          have E3 : OutE w3 w.heap.size v3 (fX X key (k + 1)).length (eL (fX X key (k + 1))) V3 := by
            rw [HF.out, List.length_append, List.length_singleton]
            exact O3.congr (eL_push _ _)
          clear hA q3 O3 bw2
          go_wp2
          go_roundw
          case rel => exact ⟨k + 1, V3, by omega, by go_num, E3, bw3⟩
          case measure => simp [intOf]; omega
      · have e : k = n := by omega
        subst e
        clear hlies
        go_wp2
        exact bodyPost_ret (v := .tuple #[.slice lo (fX X key k).length lc, .bool true]) (by simp [results, Try.results21, go_sem]) rfl (.inr ⟨HG.out, _, _, rfl, hO, hbk⟩)
end Go.Proofs.Ytijondokppainaa
