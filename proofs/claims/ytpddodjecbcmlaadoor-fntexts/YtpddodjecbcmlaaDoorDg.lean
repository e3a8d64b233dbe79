/- A key drawn from bytes. -/
import Derived.Test.YtpddodjecbcmlaaDoorDm
namespace Go.Proofs.YtpddodjecbcmlaaDoor
open Go.RowKit
set_option linter.unusedSimpArgs false
set_option linter.unusedVariables false

/-- What a drawn key is, to whoever asked for it. -/
def DgO (w : World) (e : Ending) (w' : World) : Prop :=
  ∃ (m : ByteArray) (va : Option Addr) (vc : Nat) (T : List (ByteArray × ByteArray)) (st : Int), e = .returned (.agg #[.string m, .slice va T.length vc, .int .i64 st]) ∧ TgL w' w.heap.size (.slice va T.length vc) T ∧ m.size ≤ 20 ∧ T.length ≤ 3 ∧ TSz T ∧ (-1 ≤ st ∧ st ≤ 1000000001) ∧ Below w.heap.size w w'
theorem tsz_T {T : List (ByteArray × ByteArray)} (h : TSz T) {z : Nat} (hz : 20 ≤ z) : TSize T.length (nmL T) (vlL T) z := by
  intro i hi
  have := h _ (List.getElem_mem hi)
  simp only [nmL, vlL, List.getD_eq_getElem?_getD, List.getElem?_eq_getElem hi, Option.getD_some]
  omega
theorem cu_new' (w : World) (cv : Value) (T : Nat) : Cu (w.alloc (.cells #[cv, .int .i64 0, .int .u64 0] T)) w.heap.size cv 0 0 := by
  have hh : (w.alloc (.cells #[cv, .int .i64 0, .int .u64 0] T)).heap[w.heap.size]? = some (.cells #[cv, .int .i64 0, .int .u64 0] T (0, 0)) := heap_alloc_new w _
  exact ⟨by simp, cell_of_row _ _ _ _ _ _ hh, cell_of_row _ _ _ _ _ _ hh, cell_of_row _ _ _ _ _ _ hh, fun i => frozen_of_row _ _ _ _ _ hh, by omega⟩
theorem cb_new' {w : World} {ao : Option Addr} {n : Nat} {f : Nat → Int} (hr : Row w ao n f) (o : Obj) : Cb (w.alloc o) w.heap.size ao n f :=
  ⟨hr.keep ((Below.refl _ _).alloc (Nat.le_refl _) _), fun b off e h0 => by
    obtain ⟨b', off', e', h1, _⟩ := hr.lies.resolve_left h0
    rw [e'] at e
    injection e with e
    injection e with e _ _
    omega⟩

set_option maxHeartbeats 1000000 in
theorem drawGoodKey_any (ao : Option Addr) (n cap : Nat) (f : Nat → Int) (w : World) (hr : Row w ao n f) (hn : n ≤ 1048576) :
    Calls Tryd.prog 18 #[.slice ao n cap] w fun e w' => DgO w e w' := by
  have bw0 : Below w.heap.size w (w.alloc (.cells #[.string ⟨#[]⟩, .slice none 0 0, .int .i64 0] 25)) := (Below.refl _ _).alloc (Nat.le_refl _) _
  have K0 := KAt.new w ⟨#[]⟩ (.slice none 0 0) 0 25
  have fz0 : ∀ j, (w.alloc (.cells #[.string ⟨#[]⟩, .slice none 0 0, .int .i64 0] 25)).frozen? ⟨w.heap.size, j, none⟩ = false := fun j => by simp [go_sem]
  have bc := (Below.refl _ (w.alloc (.cells #[.string ⟨#[]⟩, .slice none 0 0, .int .i64 0] 25))).alloc (Nat.le_refl _) (.cells #[.slice ao n cap, .int .i64 0, .int .u64 0] 70)
  have C1 := cu_new' (w.alloc (.cells #[.string ⟨#[]⟩, .slice none 0 0, .int .i64 0] 25)) (.slice ao n cap) 70
  have B1 := cb_new' (hr.keep bw0) (.cells #[.slice ao n cap, .int .i64 0, .int .u64 0] 70)
  rw [World.size_alloc] at C1 B1
  go_enter Tryd.func18, Tryd.ntmps18
  go_wp2_with fail
  refine (key_any (w.heap.size + 1) ao n cap 0 f 0 _ C1 B1 hn (by omega)).mono ?_
  rintro e w1 ⟨m, va, vc, T, st, rfl, TG, hm, hT, hTz, hst, _, g1⟩
  have b1 : Below w.heap.size w w1 := (bw0.trans (bc.mono (by simp))).grown g1 (by simp; omega) (fun k e => by injection e with e; omega)
  have bb : Below (w.heap.size + 1) (w.alloc (.cells #[.string ⟨#[]⟩, .slice none 0 0, .int .i64 0] 25)) w1 := by
    refine Below.grown ?_ g1 (by simp) (fun k e => by injection e with e; omega)
    rw [World.size_alloc] at bc
    exact bc
  obtain ⟨_, r0, r1, r2⟩ := K0.keep (by rw [World.size_alloc]; exact bb)
  have fz1 : ∀ j, w1.frozen? ⟨w.heap.size, j, none⟩ = false := fun j => (bb.frozen (p := ⟨w.heap.size, j, none⟩) (by show w.heap.size < _; omega)).trans (fz0 j)
  have f0 := fz1 0
  have f1 := fz1 1
  have f2 := fz1 2
  have hne : (Value.slice va T.length vc).ownBlock ≠ some w.heap.size := fun e => by have h9 := (World.ownsRow.lt TG _ e).1; simp only [World.size_alloc] at h9; omega
  have HZ : Hid (TSz T) := hTz
  clear fz0 K0 fz1 C1 B1 bc bb g1 hTz
  go_wp2
  refine bodyPost_ret (v := .agg #[.string m, .slice va T.length vc, .int .i64 st]) (by simp [results, Tryd.results18, go_sem, r0, r1, r2]) rfl ⟨m, va, vc, T, st, rfl, ?_, hm, hT, HZ.out, hst, ?_⟩
  · refine ownsRow_mono (base := ((w.alloc (.cells #[.string ⟨#[]⟩, .slice none 0 0, .int .i64 0] 25)).alloc (.cells #[.slice ao n cap, .int .i64 0, .int .u64 0] 70)).heap.size) ?_ (by simp; omega)
    repeat' refine ownsRow_others ?_ (Others.setCell _ _ _ _) hne
    exact TG
  · repeat' refine Below.setCell ?_ (by first | exact Nat.le_refl _ | (simp; done) | (simp; omega)) _
    exact b1
set_option maxHeartbeats 1000000 in
theorem drawKeyText_any (ao : Option Addr) (n cap : Nat) (f : Nat → Int) (w : World) (hr : Row w ao n f) (hn : n ≤ 1048576) :
    Calls Tryd.prog 6 #[.slice ao n cap] w fun e w' => DgO w e w' := by
  have bw0 : Below w.heap.size w (w.alloc (.cells #[.string ⟨#[]⟩, .slice none 0 0, .int .i64 0] 25)) := (Below.refl _ _).alloc (Nat.le_refl _) _
  have K0 := KAt.new w ⟨#[]⟩ (.slice none 0 0) 0 25
  have fz0 : ∀ j, (w.alloc (.cells #[.string ⟨#[]⟩, .slice none 0 0, .int .i64 0] 25)).frozen? ⟨w.heap.size, j, none⟩ = false := fun j => by simp [go_sem]
  go_enter Tryd.func6, Tryd.ntmps6
  go_wp2_with fail
  refine (drawGoodKey_any ao n cap f _ (hr.keep bw0) hn).mono ?_
  rintro e w1 ⟨m, va, vc, T, st, rfl, TG, hm, hT, hTz, hst, q1⟩
  have b1 : Below w.heap.size w w1 := bw0.trans (q1.mono (by simp))
  obtain ⟨_, r0, r1, r2⟩ := K0.keep q1
  have fz1 : ∀ j, w1.frozen? ⟨w.heap.size, j, none⟩ = false := fun j => (q1.frozen (p := ⟨w.heap.size, j, none⟩) (by simp)).trans (fz0 j)
  have f0 := fz1 0
  have f1 := fz1 1
  have f2 := fz1 2
  have hne : (Value.slice va T.length vc).ownBlock ≠ some w.heap.size := fun e => by have h9 := (World.ownsRow.lt TG _ e).1; simp only [World.size_alloc] at h9; omega
  have HZ : Hid (TSz T) := hTz
  clear fz0 K0 fz1 q1 hTz
  go_wp2
  refine bodyPost_ret (v := .agg #[.string m, .slice va T.length vc, .int .i64 st]) (by simp [results, Tryd.results6, go_sem, r0, r1, r2]) rfl ⟨m, va, vc, T, st, rfl, ?_, hm, hT, HZ.out, hst, ?_⟩
  · refine ownsRow_mono (base := (w.alloc (.cells #[.string ⟨#[]⟩, .slice none 0 0, .int .i64 0] 25)).heap.size) ?_ (by simp)
    repeat' refine ownsRow_others ?_ (Others.setCell _ _ _ _) hne
    exact TG
  · repeat' refine Below.setCell ?_ (by first | exact Nat.le_refl _ | (simp; done) | (simp; omega)) _
    exact b1
end Go.Proofs.YtpddodjecbcmlaaDoor
