/- TellDirty at a bad board and at one that is worn out, in the program; at a bad one, in the model. -/
import Derived.Test.YtflmbcgokiiedaaTd
namespace Go.Proofs.Ytflmbcgokiiedaa
open Go.RowKit
set_option linter.unusedSimpArgs false
set_option linter.unusedVariables false

theorem tans_nil {w : World} {T : Nat → Wn} : TA w w.heap.size w.heap.size (.slice none 0 0) 0 T := ⟨Nat.le_refl _, .inl ⟨rfl, none, 0, rfl⟩⟩

set_option maxRecDepth 100000 in
set_option maxHeartbeats 3200000 in
theorem tellDirty_impl_bad (z h mk : Int) (ao : Option Addr) (n cap : Nat) (X T : Nat → Wn) (w : World) (hr : WiRow w ao n X) (hn : n ≤ 1048576) (hz : WiSize n X) (hG : Hid (¬ GBd z h mk n X)) :
    Calls Try.prog 9 #[.agg #[.int .i64 z, .int .i64 h, .int .i64 mk, .slice ao n cap]] w fun e w' => TAns 0 0 0 0 X 0 T 1 w e w' := by
  have hB : ∀ o o', Below w.heap.size w ((w.alloc o).alloc o') := fun o o' => (below_new w o).alloc (by simp) _
  go_enter Try.func9, Try.ntmps9
  go_wp2_with fail
  refine (openBoard_bad z h mk ao n cap X _ (hr.keep (hB _ _)) hn hz hG).mono ?_
  rintro e w1 ⟨rfl, q1⟩
  have bw : Below w.heap.size w w1 := (hB _ _).trans (q1.mono (by simp; omega))
  have d0 := q1.cell (p := ⟨w.heap.size + 1, 0, none⟩) (by simp)
  have d1 := q1.cell (p := ⟨w.heap.size + 1, 1, none⟩) (by simp)
  have d2 := q1.cell (p := ⟨w.heap.size + 1, 2, none⟩) (by simp)
  have d3 := q1.cell (p := ⟨w.heap.size + 1, 3, none⟩) (by simp)
  have df : ∀ j, w1.frozen? ⟨w.heap.size + 1, j, none⟩ = false := fun j => (q1.frozen (p := ⟨w.heap.size + 1, j, none⟩) (by simp)).trans (by simp [go_sem])
  simp [go_sem] at d0 d1 d2 d3
  clear q1 hB
  go_wp2
  refine bodyPost_ret (v := .tuple #[.agg #[.int .i64 0, .int .i64 0, .int .i64 0, .slice none 0 0], .slice none 0 0, .int .i64 1]) (by simp [results, Try.results9, go_sem, d0, d1, d2, d3]) rfl ⟨.slice none 0 0, .slice none 0 0, _, rfl, by simp; exact bw.size, ⟨Nat.le_refl _, .inl ⟨rfl, _, _, rfl⟩⟩, tans_nil, ?_⟩
  repeat' refine Below.setCell ?_ (by first | (simp; done) | (simp; omega)) _
  exact bw

set_option maxRecDepth 100000 in
set_option maxHeartbeats 8000000 in
theorem tellDirty_impl_worn (z h mk : Int) (ao : Option Addr) (n cap : Nat) (X T : Nat → Wn) (w : World) (hr : WiRow w ao n X) (hn : n ≤ 1048576) (hz : WiSize n X) (hG : Hid (GBd z h mk n X)) (hnw : Hid (Worn (cln X) n (dS X n))) :
    Calls Try.prog 9 #[.agg #[.int .i64 z, .int .i64 h, .int .i64 mk, .slice ao n cap]] w fun e w' => TAns z h mk n X 0 T 1 w e w' := by
  have hB : ∀ o o', Below w.heap.size w ((w.alloc o).alloc o') := fun o o' => (below_new w o).alloc (by simp) _
  have hfX : FBw n (cln X) := hr.fb
  have hbX : ∀ i, i < n → WiB (cln X i) := fun i hi => by cases hr.bd i hi; constructor <;> assumption
  have hgX : Hid (∀ i, i < n → gK (cln X i) = true) := fun i hi => (hG.out.wins.each i hi).key
  go_enter Try.func9, Try.ntmps9
  go_wp2_with fail
  refine (openBoard_good z h mk ao n cap X _ (hr.keep (hB _ _)) hn hz hG).mono ?_
  rintro e w1 ⟨base, p, r, v, V, rfl, hp, hrr, rfl, HW, q1⟩
  have bw : Below w.heap.size w w1 := (hB _ _).trans (q1.mono (by simp; omega))
  have d0 := q1.cell (p := ⟨w.heap.size + 1, 0, none⟩) (by simp)
  have d1 := q1.cell (p := ⟨w.heap.size + 1, 1, none⟩) (by simp)
  have d2 := q1.cell (p := ⟨w.heap.size + 1, 2, none⟩) (by simp)
  have d3 := q1.cell (p := ⟨w.heap.size + 1, 3, none⟩) (by simp)
  have df : ∀ j, w1.frozen? ⟨w.heap.size + 1, j, none⟩ = false := fun j => (q1.frozen (p := ⟨w.heap.size + 1, j, none⟩) (by simp)).trans (by simp [go_sem])
  simp [go_sem] at d0 d1 d2 d3 hp hrr
  have hpl := HW.box.lt
  clear q1 hB
  have wo := wornOut_any (p + 1) p r z h mk v n (cln X) V (dS X n) _ HW hbX hfX hgX hn
  go_wp2_with fail
  refine wo.mono ?_
  clear wo
  rintro e w2 ⟨b2, rfl, hb2, q2⟩
  have e2 : b2 = true := hb2.2 hnw.out
  subst e2
  clear hb2
  have s2 := q2.size
  have HW := HW.keep q2
  have d0 := (q2.cell (p := ⟨w.heap.size + 1, 0, none⟩) (by show w.heap.size + 1 < w1.heap.size; omega)).trans d0
  have d1 := (q2.cell (p := ⟨w.heap.size + 1, 1, none⟩) (by show w.heap.size + 1 < w1.heap.size; omega)).trans d1
  have d2 := (q2.cell (p := ⟨w.heap.size + 1, 2, none⟩) (by show w.heap.size + 1 < w1.heap.size; omega)).trans d2
  have d3 := (q2.cell (p := ⟨w.heap.size + 1, 3, none⟩) (by show w.heap.size + 1 < w1.heap.size; omega)).trans d3
  have df : ∀ j, w2.frozen? ⟨w.heap.size + 1, j, none⟩ = false := fun j => (q2.frozen (p := ⟨w.heap.size + 1, j, none⟩) (by show w.heap.size + 1 < w1.heap.size; omega)).trans (df j)
  have bw := bw.trans (q2.mono bw.size)
  clear q2
  have tl := tell_any (p + 1) p r z h mk v n (cln X) V (dS X n) _ HW hfX hgX hn (by omega)
  go_wp2_with fail
  refine tl.mono ?_
  clear tl
  rintro e w4 ⟨v', bt, rfl, hbt, hA, q4⟩
  have hA' := hA.congr (told_back hG.out.wins hbt)
  obtain ⟨va, vc, rfl⟩ := hA'.form
  have lt4 : w.heap.size + 1 < p + 1 := by omega
  have d0 := (q4.cell (p := ⟨w.heap.size + 1, 0, none⟩) (lt4)).trans d0
  have d1 := (q4.cell (p := ⟨w.heap.size + 1, 1, none⟩) (lt4)).trans d1
  have d2 := (q4.cell (p := ⟨w.heap.size + 1, 2, none⟩) (lt4)).trans d2
  have d3 := (q4.cell (p := ⟨w.heap.size + 1, 3, none⟩) (lt4)).trans d3
  have df : ∀ j, w4.frozen? ⟨w.heap.size + 1, j, none⟩ = false := fun j => (q4.frozen (p := ⟨w.heap.size + 1, j, none⟩) (lt4)).trans (df j)
  have bw4 : Below w.heap.size w w4 := bw.trans (q4.mono (by omega))
  have s4 := q4.size
  clear q4 hA hbt
  go_wp2
  refine bodyPost_ret (v := .tuple #[.agg #[.int .i64 z, .int .i64 h, .int .i64 mk, .slice va n vc], .slice none 0 0, .int .i64 1]) (by simp [results, Try.results9, go_sem, d0, d1, d2, d3]) rfl ⟨.slice va n vc, .slice none 0 0, _, rfl, by simp; exact bw4.size, ?_, tans_nil, ?_⟩
  · refine BA.mono (hA'.same (by simp) (fun c h1 h2 => ?_)) (by omega) (by simp; try omega) (Nat.le_refl _)
    repeat rw [set_blk _ _ _ _ _ (by omega)]
  · repeat' refine Below.setCell ?_ (by first | (simp; done) | (simp; omega)) _
    exact bw4

set_option maxRecDepth 100000 in
set_option maxHeartbeats 3200000 in
theorem tellDirty_spec_bad (z h mk : Int) (ao : Option Addr) (n cap : Nat) (X T : Nat → Wn) (w : World) (hr : WiRow w ao n X) (hn : n ≤ 1048576) (hz : WiSize n X) (hG : Hid (¬ GBd z h mk n X)) :
    Calls Try.prog 7 #[.agg #[.int .i64 z, .int .i64 h, .int .i64 mk, .slice ao n cap]] w fun e w' => TAns 0 0 0 0 X 0 T 1 w e w' := by
  have hB : ∀ o o', Below w.heap.size w ((w.alloc o).alloc o') := fun o o' => (below_new w o).alloc (by simp) _
  go_enter Try.func7, Try.ntmps7
  go_wp2_with fail
  refine (goodBoard_spec z h mk ao n cap X _ (hr.keep (hB _ _)) hn hz).mono ?_
  rintro e w1 ⟨b1, rfl, h1, q1⟩
  have bw : Below w.heap.size w w1 := (hB _ _).trans (q1.mono (by simp; omega))
  have d0 := q1.cell (p := ⟨w.heap.size + 1, 0, none⟩) (by simp)
  have d1 := q1.cell (p := ⟨w.heap.size + 1, 1, none⟩) (by simp)
  have d2 := q1.cell (p := ⟨w.heap.size + 1, 2, none⟩) (by simp)
  have d3 := q1.cell (p := ⟨w.heap.size + 1, 3, none⟩) (by simp)
  have df : ∀ j, w1.frozen? ⟨w.heap.size + 1, j, none⟩ = false := fun j => (q1.frozen (p := ⟨w.heap.size + 1, j, none⟩) (by simp)).trans (by simp [go_sem])
  simp [go_sem] at d0 d1 d2 d3
  have e1 : b1 = false := by
    cases b1 with
    | false => rfl
    | true => exact absurd (h1.1 rfl) hG.out
  subst e1
  clear h1 q1 hB
  go_wp2
  refine bodyPost_ret (v := .tuple #[.agg #[.int .i64 0, .int .i64 0, .int .i64 0, .slice none 0 0], .slice none 0 0, .int .i64 1]) (by simp [results, Try.results7, go_sem, d0, d1, d2, d3]) rfl ⟨.slice none 0 0, .slice none 0 0, _, rfl, by simp; exact bw.size, ⟨Nat.le_refl _, .inl ⟨rfl, _, _, rfl⟩⟩, tans_nil, ?_⟩
  repeat' refine Below.setCell ?_ (by first | (simp; done) | (simp; omega)) _
  exact bw
end Go.Proofs.Ytflmbcgokiiedaa
