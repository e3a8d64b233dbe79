/- Keys and a number drawn from bytes, for a filter. -/
import Derived.Test.YtoccfmkciacomaaDo
namespace Go.Proofs.Ytoccfmkciacomaa
open Go.RowKit
set_option linter.unusedSimpArgs false
set_option linter.unusedVariables false

theorem keyText_any (CB : Nat) (ao : Option Addr) (n cap a : Nat) (f : Nat → Int) (sd : Int) (w : World) (hC : Cu w CB (.slice ao n cap) a sd) (hB : Cb w CB ao n f) (hn : n ≤ 1048576) (ha : a ≤ 1000000000) :
    Calls Try.prog 22 #[.pointer (some ⟨CB, 0, none⟩)] w fun e w' => OfO 3 CB (.slice ao n cap) a w e w' := by
  have b1 := below_new w (.cells #[.string ⟨#[97]⟩, .string ⟨#[97, 98]⟩, .string ⟨#[98]⟩, .string ⟨#[98, 97]⟩, .string ⟨#[99]⟩, .string ⟨#[99, 112, 117]⟩, .string ⟨#[100]⟩, .string ⟨#[109]⟩] 9)
  have C1 := hC.keep b1
  have B1 := hB.keep b1
  have L1 : LsAt (w.alloc (.cells #[.string ⟨#[97]⟩, .string ⟨#[97, 98]⟩, .string ⟨#[98]⟩, .string ⟨#[98, 97]⟩, .string ⟨#[99]⟩, .string ⟨#[99, 112, 117]⟩, .string ⟨#[100]⟩, .string ⟨#[109]⟩] 9)) w.heap.size [(⟨#[97]⟩ : ByteArray), ⟨#[97, 98]⟩, ⟨#[98]⟩, ⟨#[98, 97]⟩, ⟨#[99]⟩, ⟨#[99, 112, 117]⟩, ⟨#[100]⟩, ⟨#[109]⟩] := LsAt.new w [(⟨#[97]⟩ : ByteArray), ⟨#[97, 98]⟩, ⟨#[98]⟩, ⟨#[98, 97]⟩, ⟨#[99]⟩, ⟨#[99, 112, 117]⟩, ⟨#[100]⟩, ⟨#[109]⟩] 9
  have hlt := hC.lt
  go_enter Try.func22, Try.ntmps22
  go_wp2_with fail
  refine (of_list [(⟨#[97]⟩ : ByteArray), ⟨#[97, 98]⟩, ⟨#[98]⟩, ⟨#[98, 97]⟩, ⟨#[99]⟩, ⟨#[99, 112, 117]⟩, ⟨#[100]⟩, ⟨#[109]⟩] 3 (by decide) (by decide) w.heap.size CB ao n cap a f sd _ C1 B1 hn ha L1 (by omega)).mono ?_
  rintro e w2 ⟨s, hs, rfl, C2, g2⟩
  have g := (grown_of_below b1 (some CB)).trans g2
  clear C1 B1 L1 b1 g2
  go_wp2
  go_ret
  exact ⟨s, hs, rfl, C2, g⟩

/-- Texts drawn. -/
def KsO (CB : Nat) (w : World) (e : Ending) (w' : World) : Prop :=
  ∃ (L : List ByteArray) (va : Option Addr) (vc : Nat), e = .returned (.slice va L.length vc) ∧ StL w' w.heap.size (.slice va L.length vc) L ∧ (∀ s ∈ L, s.size ≤ 10) ∧ L.length ≤ 101 ∧ w.grownBy w' (some CB)

set_option maxRecDepth 100000 in
set_option maxHeartbeats 3200000 in
theorem keysOf_any (CB : Nat) (ao : Option Addr) (n cap a0 : Nat) (f : Nat → Int) (sd : Int) (w : World) (hC : Cu w CB (.slice ao n cap) a0 sd) (hB : Cb w CB ao n f) (hn : n ≤ 1048576) (ha : a0 ≤ 1000) :
    Calls Try.prog 13 #[.pointer (some ⟨CB, 0, none⟩)] w fun e w' => KsO CB w e w' := by
  have hlt := hC.lt
  go_enter Try.func13, Try.ntmps13
  go_wp2_with fail
  refine (pick_any 12 (by omega) CB ao n cap a0 f sd _ hC hB hn (by omega)).mono ?_
  rintro e w1 ⟨x, rfl, x0, x1, ⟨sd1, C1⟩, g1⟩
  have B1 := hB.grown g1
  go_wp2_with fail
  refine (one_any 20 (by omega) CB ao n cap _ f sd1 _ C1 B1 hn (by omega)).mono ?_
  rintro e w2 ⟨b2, rfl, ⟨sd2, C2⟩, g2⟩
  have g12 := g1.trans g2
  obtain ⟨k0, rfl⟩ := Int.eq_ofNat_of_zero_le x0
  clear B1 C1
  cases b2
  · clear g1 g2
    go_wp2
    go_loopw [3, 4] (fun v q wr => ∃ (L : List ByteArray) (va : Option Addr) (vc k a : Nat) (sd : Int), v = .slice va L.length vc ∧ q = .int .i64 k ∧ L.length + k ≤ 101 ∧ a + 2 * k ≤ 2300 ∧ StL wr w.heap.size (.slice va L.length vc) L ∧ Hid (∀ s ∈ L, s.size ≤ 10) ∧ Cu wr CB (.slice ao n cap) a sd ∧ w.grownBy wr (some CB)) (fun _ q _ => (intOf q).toNat)
    case atStart => exact ⟨[], none, 0, k0, a0 + 1 + 1, sd2, rfl, by go_num, by simp; omega, by omega, stL_nil _ _, (show Hid (∀ s ∈ ([] : List ByteArray), s.size ≤ 10) from fun s hs => by simp at hs), C2, g12⟩
    case round =>
      clear C2 g12
      obtain ⟨L, va, vc, k, a, sd', rfl, rfl, hk, hak, hS, HZ, hCr, hg⟩ := hrel
      by_cases hk0 : k = 0
      · subst hk0
        go_wp2
        go_ret
        exact ⟨L, va, vc, rfl, hS, HZ.out, by omega, hg⟩
      · have hkp : (0 : Int) < (k : Int) := by omega
        have hkd : decide ((0 : Int) < (k : Int)) = true := decide_eq_true hkp
        have hB1 := hB.grown hg
        have hsz := hg.size
        go_wp2_with fail
        refine (keyText_any CB ao n cap a f sd' _ hCr hB1 hn (by omega)).mono ?_
        rintro e u1 ⟨s1, hs1, rfl, ⟨sd1', Cu1⟩, gu1⟩
        have hne : ∀ q, (Value.slice va L.length vc).ownBlock = some q → w.heap.size ≤ q := fun q hq => (World.ownsRow.lt hS q hq).1
        have S1 : StL u1 w.heap.size (.slice va L.length vc) L := ownsRow_kept hS gu1 (fun q e h => by injection e with e; have := hne q h; omega)
        have B1' := hB1.grown gu1
        have bl := below_new u1 (.cells #[.string ⟨#[]⟩, .string ⟨#[49]⟩, .string ⟨#[50]⟩, .string ⟨#[120]⟩] 9)
        have C1' := Cu1.keep bl
        have B2' := B1'.keep bl
        have S2 : StL (u1.alloc (.cells #[.string ⟨#[]⟩, .string ⟨#[49]⟩, .string ⟨#[50]⟩, .string ⟨#[120]⟩] 9)) w.heap.size (.slice va L.length vc) L := ownsRow_keep S1 bl
        have L1 : LsAt (u1.alloc (.cells #[.string ⟨#[]⟩, .string ⟨#[49]⟩, .string ⟨#[50]⟩, .string ⟨#[120]⟩] 9)) u1.heap.size [(⟨#[]⟩ : ByteArray), ⟨#[49]⟩, ⟨#[50]⟩, ⟨#[120]⟩] := LsAt.new u1 [(⟨#[]⟩ : ByteArray), ⟨#[49]⟩, ⟨#[50]⟩, ⟨#[120]⟩] 9
        have gl := (hg.trans gu1).trans (grown_of_below bl (some CB))
        have hsu := gu1.size
        go_wp2_with fail
        refine (of_list [(⟨#[]⟩ : ByteArray), ⟨#[49]⟩, ⟨#[50]⟩, ⟨#[120]⟩] 3 (by decide) (by decide) u1.heap.size CB ao n cap (a + 1) f sd1' _ C1' B2' hn (by omega) L1 (by omega)).mono ?_
        rintro e u2 ⟨s2, hs2, rfl, ⟨sd2', Cu2⟩, gu2⟩
        have S3 : StL u2 w.heap.size (.slice va L.length vc) L := ownsRow_kept S2 gu2 (fun q e h => by injection e with e; have := hne q h; omega)
        have gl2 := gl.trans gu2
        have b3 := below_new u2 (.cells #[.string (s1 ++ s2)] 9)
        have S4 : StL (u2.alloc (.cells #[.string (s1 ++ s2)] 9)) w.heap.size (.slice va L.length vc) L := ownsRow_keep S3 b3
        have C4 := Cu2.keep b3
        have gl3 := gl2.trans (grown_of_below b3 (some CB))
        have hsw : w.heap.size ≤ (u2.alloc (.cells #[.string (s1 ++ s2)] 9)).heap.size := gl3.size
        obtain ⟨vb, vd, u4, hrun, S5, g5, _⟩ := stL_push S4 u2.heap.size 1 (s1 ++ s2) (by simp [go_sem]) (by omega) hsw 23
        have hcb : u4.heap[CB]? = (u2.alloc (.cells #[.string (s1 ++ s2)] 9)).heap[CB]? := g5.block CB C4.lt (fun e => by have := hne CB e.symm; omega)
        have C5 := C4.blk g5.size hcb
        have gl4 := grown_far gl3 g5 hne
        have HZ2 : Hid (∀ s ∈ L ++ [s1 ++ s2], s.size ≤ 10) := fun s hs => by
          rcases List.mem_append.1 hs with h | h
          · exact HZ.out s h
          · obtain rfl := List.mem_singleton.1 h
            rw [ByteArray.size_append]
            omega
        have hrun' := hrun
        clear hrun hcb gl3 gl2 gl C4 S4 S3 b3 gu2 L1 S2 B2' C1' bl B1' S1 gu1 hB1 hCr hS hg Cu1 Cu2 g5
        go_wp2_with (at_builtin; refine wpList_append_eq _ rfl (.tmp 16) (.tmp 23) 23 23 rfl rfl (.slice va L.length vc) (.slice (some ⟨u2.heap.size, 0, none⟩) 1 1) (.slice vb (L.length + 1) vd) rfl rfl u4 hrun' ?_)
        go_roundw
        case rel => exact ⟨L ++ [s1 ++ s2], vb, vd, k - 1, a + 2, sd2', by rw [List.length_append]; rfl, by go_num, by rw [List.length_append]; simp; omega, by omega, by rw [List.length_append]; exact S5, HZ2, C5, gl4⟩
        case measure => simp [intOf]; omega
  · go_wp2_with fail
    refine (pick_any 2 (by omega) CB ao n cap _ f sd2 _ C2 (hB.grown g12) hn (by omega)).mono ?_
    rintro e w3 ⟨x3, rfl, x30, x31, ⟨sd3, C3⟩, g3⟩
    have g13 := g12.trans g3
    obtain ⟨k3, rfl⟩ := Int.eq_ofNat_of_zero_le x30
    clear g1 g2 g3 g12 C2
    go_wp2
    go_loopw [3, 4] (fun v q wr => ∃ (L : List ByteArray) (va : Option Addr) (vc k a : Nat) (sd : Int), v = .slice va L.length vc ∧ q = .int .i64 k ∧ L.length + k ≤ 101 ∧ a + 2 * k ≤ 2300 ∧ StL wr w.heap.size (.slice va L.length vc) L ∧ Hid (∀ s ∈ L, s.size ≤ 10) ∧ Cu wr CB (.slice ao n cap) a sd ∧ w.grownBy wr (some CB)) (fun _ q _ => (intOf q).toNat)
    case atStart => exact ⟨[], none, 0, 100 + k3, a0 + 1 + 1 + 1, sd3, rfl, by go_num, by simp; omega, by omega, stL_nil _ _, (show Hid (∀ s ∈ ([] : List ByteArray), s.size ≤ 10) from fun s hs => by simp at hs), C3, g13⟩
    case round =>
      clear C3 g13
      obtain ⟨L, va, vc, k, a, sd', rfl, rfl, hk, hak, hS, HZ, hCr, hg⟩ := hrel
      by_cases hk0 : k = 0
      · subst hk0
        go_wp2
        go_ret
        exact ⟨L, va, vc, rfl, hS, HZ.out, by omega, hg⟩
      · have hkp : (0 : Int) < (k : Int) := by omega
        have hkd : decide ((0 : Int) < (k : Int)) = true := decide_eq_true hkp
        have hB1 := hB.grown hg
        have hsz := hg.size
        go_wp2_with fail
        refine (keyText_any CB ao n cap a f sd' _ hCr hB1 hn (by omega)).mono ?_
        rintro e u1 ⟨s1, hs1, rfl, ⟨sd1', Cu1⟩, gu1⟩
        have hne : ∀ q, (Value.slice va L.length vc).ownBlock = some q → w.heap.size ≤ q := fun q hq => (World.ownsRow.lt hS q hq).1
        have S1 : StL u1 w.heap.size (.slice va L.length vc) L := ownsRow_kept hS gu1 (fun q e h => by injection e with e; have := hne q h; omega)
        have B1' := hB1.grown gu1
        have bl := below_new u1 (.cells #[.string ⟨#[]⟩, .string ⟨#[49]⟩, .string ⟨#[50]⟩, .string ⟨#[120]⟩] 9)
        have C1' := Cu1.keep bl
        have B2' := B1'.keep bl
        have S2 : StL (u1.alloc (.cells #[.string ⟨#[]⟩, .string ⟨#[49]⟩, .string ⟨#[50]⟩, .string ⟨#[120]⟩] 9)) w.heap.size (.slice va L.length vc) L := ownsRow_keep S1 bl
        have L1 : LsAt (u1.alloc (.cells #[.string ⟨#[]⟩, .string ⟨#[49]⟩, .string ⟨#[50]⟩, .string ⟨#[120]⟩] 9)) u1.heap.size [(⟨#[]⟩ : ByteArray), ⟨#[49]⟩, ⟨#[50]⟩, ⟨#[120]⟩] := LsAt.new u1 [(⟨#[]⟩ : ByteArray), ⟨#[49]⟩, ⟨#[50]⟩, ⟨#[120]⟩] 9
        have gl := (hg.trans gu1).trans (grown_of_below bl (some CB))
        have hsu := gu1.size
        go_wp2_with fail
        refine (of_list [(⟨#[]⟩ : ByteArray), ⟨#[49]⟩, ⟨#[50]⟩, ⟨#[120]⟩] 3 (by decide) (by decide) u1.heap.size CB ao n cap (a + 1) f sd1' _ C1' B2' hn (by omega) L1 (by omega)).mono ?_
        rintro e u2 ⟨s2, hs2, rfl, ⟨sd2', Cu2⟩, gu2⟩
        have S3 : StL u2 w.heap.size (.slice va L.length vc) L := ownsRow_kept S2 gu2 (fun q e h => by injection e with e; have := hne q h; omega)
        have gl2 := gl.trans gu2
        have b3 := below_new u2 (.cells #[.string (s1 ++ s2)] 9)
        have S4 : StL (u2.alloc (.cells #[.string (s1 ++ s2)] 9)) w.heap.size (.slice va L.length vc) L := ownsRow_keep S3 b3
        have C4 := Cu2.keep b3
        have gl3 := gl2.trans (grown_of_below b3 (some CB))
        have hsw : w.heap.size ≤ (u2.alloc (.cells #[.string (s1 ++ s2)] 9)).heap.size := gl3.size
        obtain ⟨vb, vd, u4, hrun, S5, g5, _⟩ := stL_push S4 u2.heap.size 1 (s1 ++ s2) (by simp [go_sem]) (by omega) hsw 23
        have hcb : u4.heap[CB]? = (u2.alloc (.cells #[.string (s1 ++ s2)] 9)).heap[CB]? := g5.block CB C4.lt (fun e => by have := hne CB e.symm; omega)
        have C5 := C4.blk g5.size hcb
        have gl4 := grown_far gl3 g5 hne
        have HZ2 : Hid (∀ s ∈ L ++ [s1 ++ s2], s.size ≤ 10) := fun s hs => by
          rcases List.mem_append.1 hs with h | h
          · exact HZ.out s h
          · obtain rfl := List.mem_singleton.1 h
            rw [ByteArray.size_append]
            omega
        have hrun' := hrun
        clear hrun hcb gl3 gl2 gl C4 S4 S3 b3 gu2 L1 S2 B2' C1' bl B1' S1 gu1 hB1 hCr hS hg Cu1 Cu2 g5
        go_wp2_with (at_builtin; refine wpList_append_eq _ rfl (.tmp 16) (.tmp 23) 23 23 rfl rfl (.slice va L.length vc) (.slice (some ⟨u2.heap.size, 0, none⟩) 1 1) (.slice vb (L.length + 1) vd) rfl rfl u4 hrun' ?_)
        go_roundw
        case rel => exact ⟨L ++ [s1 ++ s2], vb, vd, k - 1, a + 2, sd2', by rw [List.length_append]; rfl, by go_num, by rw [List.length_append]; simp; omega, by omega, by rw [List.length_append]; exact S5, HZ2, C5, gl4⟩
        case measure => simp [intOf]; omega

/-- What is drawn for a filter. -/
def DfO (w : World) (e : Ending) (w' : World) : Prop :=
  ∃ (L : List ByteArray) (va : Option Addr) (vc : Nat) (p : Int), e = .returned (.tuple #[.slice va L.length vc, .int .i64 p]) ∧ StL w' w.heap.size (.slice va L.length vc) L ∧ (∀ s ∈ L, s.size ≤ 10) ∧ L.length ≤ 101 ∧ Below w.heap.size w w'
theorem cu_new (w : World) (cv : Value) (T : Nat) : Cu (w.alloc (.cells #[cv, .int .i64 0, .int .u64 0] T)) w.heap.size cv 0 0 := by
  have hh : (w.alloc (.cells #[cv, .int .i64 0, .int .u64 0] T)).heap[w.heap.size]? = some (.cells #[cv, .int .i64 0, .int .u64 0] T (0, 0)) := heap_alloc_new w _
  exact ⟨by simp, cell_of_row _ _ _ _ _ _ hh, cell_of_row _ _ _ _ _ _ hh, cell_of_row _ _ _ _ _ _ hh, fun i => frozen_of_row _ _ _ _ _ hh, by omega⟩
theorem cb_new {w : World} {ao : Option Addr} {n : Nat} {f : Nat → Int} (hr : Row w ao n f) (o : Obj) : Cb (w.alloc o) w.heap.size ao n f :=
  ⟨hr.keep (below_new w o), fun b off e h0 => by
    obtain ⟨b', off', e', h1, _⟩ := hr.lies.resolve_left h0
    rw [e'] at e
    injection e with e
    injection e with e _ _
    omega⟩
theorem below_cur {w w' : World} {o : Obj} (hg : (w.alloc o).grownBy w' (some w.heap.size)) : Below w.heap.size w w' :=
  (below_new w o).grown hg (by simp) (fun k e => by injection e with e; omega)

set_option maxRecDepth 100000 in
set_option maxHeartbeats 1600000 in
theorem drawFilterOf_any (ao : Option Addr) (n cap : Nat) (f : Nat → Int) (w : World) (hr : Row w ao n f) (hn : n ≤ 1048576) :
    Calls Try.prog 4 #[.slice ao n cap] w fun e w' => DfO w e w' := by
  have C0 := cu_new w (.slice ao n cap) 38
  have B0 := cb_new hr (.cells #[.slice ao n cap, .int .i64 0, .int .u64 0] 38)
  have sz0 : (w.alloc (.cells #[.slice ao n cap, .int .i64 0, .int .u64 0] 38)).heap.size = w.heap.size + 1 := by simp
  go_enter Try.func4, Try.ntmps4
  go_wp2_with fail
  refine (pick_any 12 (by omega) w.heap.size ao n cap 0 f 0 _ C0 B0 hn (by omega)).mono ?_
  rintro e w1 ⟨x, rfl, x0, x1, ⟨sd1, C1⟩, g1⟩
  have B1 := B0.grown g1
  have hwx : IntKind.i64.wrap (1 + x) = 1 + x := by rw [IntKind.wrap_i64] <;> omega
  go_wp2_with fail
  refine (one_any 16 (by omega) w.heap.size ao n cap _ f sd1 _ C1 B1 hn (by omega)).mono ?_
  rintro e w2 ⟨b2, rfl, ⟨sd2, C2⟩, g2⟩
  have B2 := B1.grown g2
  have g12 := g1.trans g2
  clear C0 B0 C1 B1 g1 g2
  cases b2
  · go_wp2_with fail
    refine (keysOf_any w.heap.size ao n cap _ f sd2 _ C2 B2 hn (by omega)).mono ?_
    rintro e w3 ⟨L, va, vc, rfl, S3, hz, hl, g3⟩
    have hb := below_cur (g12.trans g3)
    have s2 := g12.size
    have S3' : StL w3 w.heap.size (.slice va L.length vc) L := ownsRow_mono S3 (by omega)
    have HZ : Hid (∀ s ∈ L, s.size ≤ 10) := hz
    clear C2 B2 g12 g3 S3 hz
    go_wp2
    go_ret2
    exact ⟨L, va, vc, _, rfl, S3', HZ.out, hl, hb⟩
  · have bl := below_new w2 (.cells #[.int .i64 0, .int .i64 20, .int .i64 21] 3)
    have C3 := C2.keep bl
    have B3 := B2.keep bl
    have hlc := C2.lt
    have hc3 : ∀ i, i < 3 → (w2.alloc (.cells #[.int .i64 0, .int .i64 20, .int .i64 21] 3)).cell? ⟨w2.heap.size, i, none⟩ = some (.int .i64 ([0, 20, 21].getD i 0)) := by
      intro i hi
      have hh : (w2.alloc (.cells #[.int .i64 0, .int .i64 20, .int .i64 21] 3)).heap[w2.heap.size]? = some (.cells #[.int .i64 0, .int .i64 20, .int .i64 21] 3 (0, 0)) := heap_alloc_new w2 _
      rw [cell_of_row _ _ _ _ _ _ hh]
      rcases i with _ | _ | _ | i
      · rfl
      · rfl
      · rfl
      · omega
    go_wp2_with fail
    refine (among_any 3 (by omega) w2.heap.size (fun i => [0, 20, 21].getD i 0) w.heap.size ao n cap _ f sd2 _ C3 B3 hn (by omega) (by simp) (by omega) hc3).mono ?_
    rintro e w3 ⟨i, hi, rfl, ⟨sd3, C4⟩, g3⟩
    have B4 := B3.grown g3
    have g13 := (g12.trans (grown_of_below bl (some w.heap.size))).trans g3
    clear C2 B2 C3 B3 g12 g3 bl hc3
    generalize ([0, 20, 21] : List Int).getD i 0 = p
    go_wp2_with fail
    refine (keysOf_any w.heap.size ao n cap _ f sd3 _ C4 B4 hn (by omega)).mono ?_
    rintro e w4 ⟨L, va, vc, rfl, S3, hz, hl, g4⟩
    have hb := below_cur (g13.trans g4)
    have s2 := g13.size
    have S3' : StL w4 w.heap.size (.slice va L.length vc) L := ownsRow_mono S3 (by omega)
    have HZ : Hid (∀ s ∈ L, s.size ≤ 10) := hz
    clear C4 B4 g13 g4 S3 hz
    go_wp2
    go_ret2
    exact ⟨L, va, vc, _, rfl, S3', HZ.out, hl, hb⟩
end Go.Proofs.Ytoccfmkciacomaa
