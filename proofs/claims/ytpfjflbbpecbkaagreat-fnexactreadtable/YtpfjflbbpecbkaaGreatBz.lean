/- An entry comes back from its bytes, in the program's reading. / The reader's steps in one form: what is answered, the place, torn or not. -/
import Derived.Test.YtpfjflbbpecbkaaGreatBx
import Derived.Test.YtpfjflbbpecbkaaGreatRt
import Derived.Test.YtpfjflbbpecbkaaGreatBp
namespace Go.Proofs.YtpfjflbbpecbkaaGreat
set_option maxRecDepth 100000
open Go.RowKit
set_option linter.unusedSimpArgs false
set_option linter.unusedVariables false

/-- The agg of an entry as it is read out of m bytes at place q. -/
def AgE (f : Nat → Int) (n q m : Nat) (x : Ent) : Prop :=
  (m = 0 ∧ x.c = 0 ∧ x.s = 0 ∧ x.lo = 0 ∧ x.hi = 0 ∧ x.n = 0 ∧ x.fu = false) ∨
  (0 < m ∧ ∃ N, AgY f n q m N ∧ x.c = fi N 0 ∧ x.s = fi N 1 ∧ x.lo = fi N 2 ∧ x.hi = fi N 3 ∧ x.n = 8 ∧ (∀ i, i < 8 → x.f i = fi N (i + 4)) ∧ x.fu = (f q == 1))
/-- The entry x is read at place q behind the key ah, and q' is the place behind it. -/
def EY (f : Nat → Int) (n q : Nat) (ah : ByteArray) (x : Ent) (q' : Nat) : Prop :=
  ∃ (sh rs mn : Int) (q1 q2 q3 q5 : Nat), rdNum f n q = some (sh, q1) ∧ rdNum f n q1 = some (rs, q2) ∧ rdNum f n q2 = some (x.seq, q3) ∧ q3 + 1 ≤ n ∧ x.kind = f q3 ∧ rdNum f n (q3 + 1) = some (mn, q5) ∧
    sh ≤ ah.size ∧ q5 + rs.toNat ≤ n ∧ bytesOf x.key = (bytesOf ah).take sh.toNat ++ (List.range rs.toNat).map (fun i => f (q5 + i)) ∧ AgE f n (q5 + rs.toNat) mn.toNat x ∧ q' = q5 + rs.toNat + mn.toNat

theorem seg_list {f : Nat → Int} {q : Nat} {L : List Int} (h : Seg f q L) : (List.range L.length).map (fun i => f (q + i)) = L := by
  refine List.ext_getElem (by simp) fun i h1 h2 => ?_
  simp only [List.getElem_map, List.getElem_range]
  rw [h i h2]
  simp [fl, h2]
theorem ey_enE {f : Nat → Int} {n q : Nat} {ah : ByteArray} {x : Ent} (hg : GoodE x) (hs : Seg f q (enE ah x)) (hn : q + (enE ah x).length ≤ n) : EY f n q ah x (q + (enE ah x).length) := by
  have hsh := shK_le ah x
  have hkey : x.key.size ≤ 140 := by have := hg.1; unfold KeyOk at this; omega
  have haL := agL_len x
  have hseq := hg.2.1
  unfold enE at hs hn ⊢
  generalize hL1 : pvL ((shK ah x : Nat) : Int) = L1 at *
  generalize hL2 : pvL ((x.key.size - shK ah x : Nat) : Int) = L2 at *
  generalize hL3 : pvL x.seq = L3 at *
  generalize hL5 : pvL ((agL x).length : Nat) = L5 at *
  have hd : ((bytesOf x.key).drop (shK ah x)).length = x.key.size - shK ah x := by rw [List.length_drop, bytesOf_len]
  simp only [List.length_append, List.length_singleton, hd] at hn ⊢
  have s7 := hs.right
  have s6 := hs.left.right
  have s5 := hs.left.left.right
  have s4 := hs.left.left.left.right
  have s3 := hs.left.left.left.left.right
  have s2 := hs.left.left.left.left.left.right
  have s1 := hs.left.left.left.left.left.left
  simp only [List.length_append, List.length_singleton, hd] at s7 s6 s5 s4 s3 s2 s1
  rw [← hL1] at s1
  rw [← hL2] at s2
  rw [← hL3] at s3
  rw [← hL5] at s5
  have n1 := rdNum_pvL (n := n) (u := ((shK ah x : Nat) : Int)) (by omega) s1 (by rw [hL1]; omega)
  have n2 := rdNum_pvL (n := n) (u := ((x.key.size - shK ah x : Nat) : Int)) (by omega) s2 (by rw [hL2]; omega)
  have n3 := rdNum_pvL (n := n) (u := x.seq) (by omega) s3 (by rw [hL3]; omega)
  have n5 := rdNum_pvL (n := n) (u := (((agL x).length : Nat) : Int)) (by omega) s5 (by rw [hL5]; omega)
  rw [hL1] at n1
  rw [hL2] at n2
  rw [hL3] at n3
  rw [hL5] at n5
  have h4 := s4 0 (by simp)
  simp only [fl, Nat.add_zero] at h4
  refine ⟨((shK ah x : Nat) : Int), ((x.key.size - shK ah x : Nat) : Int), (((agL x).length : Nat) : Int), q + L1.length, q + (L1.length + L2.length), q + (L1.length + L2.length + L3.length), q + (L1.length + L2.length + L3.length + 1 + L5.length), n1, ?_, ?_, by omega, ?_, ?_, by omega, ?_, ?_, ?_, ?_⟩
  · rw [n2, Nat.add_assoc]
  · rw [n3, Nat.add_assoc q]
  · rw [h4]; simp
  · rw [Nat.add_assoc q _ 1, n5, Nat.add_assoc q]
  · rw [Int.toNat_natCast]; omega
  · rw [Int.toNat_natCast, Int.toNat_natCast]
    have e := seg_list s6
    rw [hd] at e
    rw [e, show (bytesOf ah).take (shK ah x) = (bytesOf x.key).take (shK ah x) from shr_take _ _, List.take_append_drop]
  · rw [Int.toNat_natCast, Int.toNat_natCast]
    rw [show q + (L1.length + L2.length + L3.length + 1 + L5.length + (x.key.size - shK ah x)) = q + (L1.length + L2.length + L3.length + 1 + L5.length) + (x.key.size - shK ah x) from by omega] at s7
    rcases hg.agg with ⟨hk, hA⟩ | ⟨hk, _⟩
    · have ea : agL x = bl x.fu (nm x.c x.s x.lo x.hi x.f) 12 := by unfold agL; rw [if_neg hk]
      have h8 : x.n = 8 := hA.2.1
      have hl := bl_len x.fu (nm x.c x.s x.lo x.hi x.f) 12
      rw [h8] at hA
      rw [ea] at s7 hn ⊢
      have hR := rag_bl hA s7.shift rfl
      have hf : ∀ i, i < 12 → fi ((List.range 12).map (nm x.c x.s x.lo x.hi x.f)) i = nm x.c x.s x.lo x.hi x.f i := fun i hi => by simp [fi, hi]
      refine .inr ⟨by omega, _, ⟨by omega, hR⟩, ?_, ?_, ?_, ?_, h8, fun i hi => ?_, ?_⟩
      · rw [hf 0 (by omega)]; rfl
      · rw [hf 1 (by omega)]; rfl
      · rw [hf 2 (by omega)]; rfl
      · rw [hf 3 (by omega)]; rfl
      · rw [hf (i + 4) (by omega)]
        unfold nm
        rw [if_neg (by omega), if_neg (by omega), if_neg (by omega), if_neg (by omega)]
        congr 1
      · have h0 := s7 0 (by omega)
        rw [bl_byt0, Nat.add_zero] at h0
        rw [h0]
        cases x.fu <;> simp
    · have ea : agL x = [] := by unfold agL; rw [if_pos hk]
      obtain ⟨_, _, h | h⟩ := hg
      · omega
      · obtain ⟨_, z1, z2, z3, z4, z5, z6⟩ := h
        exact .inl ⟨by rw [ea]; rfl, z1, z2, z3, z4, z5, z6⟩
  · rw [Int.toNat_natCast, Int.toNat_natCast]; omega
end Go.Proofs.YtpfjflbbpecbkaaGreat
namespace Go.Proofs.YtpfjflbbpecbkaaGreat
set_option maxRecDepth 100000
open Go.RowKit
set_option linter.unusedSimpArgs false
set_option linter.unusedVariables false

/-- What number leaves, torn ahead or not. -/
def NumU (f : Nat → Int) (B bb bo n cap q : Nat) (t : Bool) (w : World) (e : Ending) (w' : World) : Prop :=
  ∃ (u q' : Nat) (t' : Bool), e = .returned (.int .i64 (u : Int)) ∧ (u : Int) ≤ 9223372036854775807 ∧ q' ≤ n ∧ BR w' B (some ⟨bb, bo, none⟩) n cap q' t' ∧ Mid B (B + 1) w w' ∧
    ((t' = false ∧ t = false ∧ rdNum f n q = some ((u : Int), q')) ∨ (t' = true ∧ (t = true ∨ rdNum f n q = none)))
theorem number_u (f : Nat → Int) (B bb bo n cap q : Nat) (t : Bool) (w : World) (hB : BR w B (some ⟨bb, bo, none⟩) n cap q t) (hr : Row w (some ⟨bb, bo, none⟩) n f) (hn : n ≤ 1048576) (hcap : n ≤ cap) (hq : q ≤ n) :
    Calls Tryz.prog 91 #[.pointer (some ⟨B, 0, none⟩)] w fun e w' => NumU f B bb bo n cap q t w e w' := by
  refine (number_any f B _ n cap q t w hB hr hn hcap).mono ?_
  rintro e w' ⟨⟨u, q', h, rfl, hB'⟩ | ⟨h, rfl, hB'⟩, M⟩
  · obtain ⟨h1, h2, h3, h4⟩ := rdNum_pos h
    obtain ⟨u, rfl⟩ := Int.eq_ofNat_of_zero_le h3
    refine ⟨u, q', t, rfl, h4, h2, hB', M, ?_⟩
    cases t
    · exact .inl ⟨rfl, rfl, h⟩
    · exact .inr ⟨rfl, .inl rfl⟩
  · exact ⟨0, q, true, rfl, by decide, hq, hB', M, .inr ⟨rfl, .inr h⟩⟩

/-- What kind leaves, torn ahead or not. -/
def KinU (f : Nat → Int) (B bb bo n cap q : Nat) (t : Bool) (w : World) (e : Ending) (w' : World) : Prop :=
  ∃ (u : Int) (q' : Nat) (t' : Bool), e = .returned (.int .i64 u) ∧ q' ≤ n ∧ BR w' B (some ⟨bb, bo, none⟩) n cap q' t' ∧ Mid B (B + 1) w w' ∧
    ((t' = false ∧ t = false ∧ q + 1 ≤ n ∧ u = f q ∧ q' = q + 1) ∨ (t' = true ∧ (t = true ∨ ¬ q + 1 ≤ n)))
theorem kind_u (f : Nat → Int) (B bb bo n cap q : Nat) (t : Bool) (w : World) (hB : BR w B (some ⟨bb, bo, none⟩) n cap q t) (hr : Row w (some ⟨bb, bo, none⟩) n f) (hne : bb ≠ B) (hn : n ≤ 1048576) (hcap : n ≤ cap) (hq : q ≤ n) :
    Calls Tryz.prog 92 #[.pointer (some ⟨B, 0, none⟩)] w fun e w' => KinU f B bb bo n cap q t w e w' := by
  refine (kind_any f B bb bo n cap q t w hB hr hne hn hcap hq).mono ?_
  rintro e w' ⟨⟨h1, rfl, rfl, hB'⟩ | ⟨h, rfl, q', hq', hB'⟩, M⟩
  · exact ⟨f q, q + 1, false, rfl, h1, hB', M, .inl ⟨rfl, rfl, h1, rfl, rfl⟩⟩
  · refine ⟨0, q', true, rfl, hq', hB', M, .inr ⟨rfl, ?_⟩⟩
    cases t
    · exact .inr fun h1 => h ⟨h1, rfl⟩
    · exact .inl rfl

/-- The numbers of m bytes at place q. -/
def segL (f : Nat → Int) (q m : Nat) : List Int := (List.range m).map fun i => f (q + i)
theorem segL_len (f : Nat → Int) (q m : Nat) : (segL f q m).length = m := by simp [segL]
/-- What take leaves, torn ahead or not: k bytes, all that were asked for if it isn't torn. -/
def TakU (f : Nat → Int) (B bb bo n cap q : Nat) (t : Bool) (m : Nat) (w : World) (e : Ending) (w' : World) : Prop :=
  ∃ (A : Option Addr) (k c q' : Nat) (t' : Bool), e = .returned (.slice A k c) ∧ Row w' A (segL f q k).length (fl (segL f q k)) ∧ q' ≤ n ∧ BR w' B (some ⟨bb, bo, none⟩) n cap q' t' ∧ Mid B (B + 1) w w' ∧
    ((t' = false ∧ t = false ∧ q + m ≤ n ∧ k = m ∧ q' = q + m) ∨ (t' = true ∧ k ≤ n ∧ (t = true ∨ ¬ q + m ≤ n)))
theorem take_u (f : Nat → Int) (B bb bo n cap q : Nat) (t : Bool) (m : Nat) (hm : m ≤ 9223372036854775807) (w : World) (hB : BR w B (some ⟨bb, bo, none⟩) n cap q t) (hr : Row w (some ⟨bb, bo, none⟩) n f) (hne : bb ≠ B) (hn : n ≤ 1048576) (hcap : n ≤ cap) (hq : q ≤ n) :
    Calls Tryz.prog 93 #[.pointer (some ⟨B, 0, none⟩), .int .i64 (m : Nat)] w fun e w' => TakU f B bb bo n cap q t m w e w' := by
  refine (take_any f B bb bo n cap q t m hm w hB hn hcap hq).mono ?_
  have hfl : ∀ k i, i < k → fl (segL f q k) i = f (q + i) := fun k i hi => by simp [fl, segL, hi]
  have hbd : ∀ k i, 0 ≤ fl (segL f q k) i ∧ fl (segL f q k) i ≤ 255 := fun k i => by
    rcases Nat.lt_or_ge i k with h | h
    · rw [hfl k i h]; exact hr.bd _
    · have : fl (segL f q k) i = 0 := by simp [fl, segL, Nat.not_lt.mpr h]
      omega
  rintro e w' ⟨⟨h1, A, c, rfl, hc, hA, _, hB'⟩ | ⟨h1, rfl, hB'⟩, M⟩
  · refine ⟨A, m, c, q + m, t, rfl, ⟨hbd m, ?_⟩, h1, hB', M, ?_⟩
    · rw [segL_len]
      rcases Nat.eq_zero_or_pos m with rfl | hp
      · exact .inl rfl
      · obtain rfl := hA.resolve_right (by omega)
        have hr1 := M.row hr (fun b o e _ => by injection e with e; injection e with e1 e2; omega)
        obtain ⟨b', o', e, hlt, hcc⟩ := hr1.lies.resolve_left (by omega)
        injection e with e
        injection e with e1 e2 _
        subst e1 e2
        exact .inr ⟨bb, bo + q, rfl, hlt, fun i hi => by rw [hfl m i hi, Nat.add_assoc]; exact hcc (q + i) (by omega)⟩
    · cases t
      · exact .inl ⟨rfl, rfl, h1, rfl, rfl⟩
      · exact .inr ⟨rfl, by omega, .inl rfl⟩
  · exact ⟨none, 0, 0, q, true, rfl, ⟨hbd 0, .inl (segL_len f q 0)⟩, hq, hB', M, .inr ⟨rfl, by omega, .inr h1⟩⟩

theorem conv_row (w : World) (ao : Option Addr) (c : Nat) (L : List Int) (hr : Row w ao L.length (fl L)) : (convert 22 9 (.slice ao L.length c)).run Tryz.prog w = .ok (.string (strOfNums L)) w := by
  by_cases h0 : L.length = 0
  · have e : L = [] := List.eq_nil_of_length_eq_zero h0
    subst e
    cases ao with
    | none => exact run_convert_bytes_nil (P := Tryz.prog) w 22 5 Tryz.underlying22 Tryz.underlying5 0 c 9 Tryz.underlying9
    | some p =>
      show (convert 22 9 (.slice (some p) 0 c)).run Tryz.prog w = .ok (.string (strOfNums [])) w
      rw [run_convert_bytes_string w 22 9 5 (some p) 0 c Tryz.underlying22 Tryz.underlying5 Tryz.underlying9, run_bytesToString w p 0 c [] (by simp [loadCells, loadCellsFrom])]
      rfl
  · obtain ⟨b, off, rfl, hlt, hc⟩ := hr.lies.resolve_left h0
    exact run_convert_bytes_arg (P := Tryz.prog) w 22 5 Tryz.underlying22 Tryz.underlying5 b off L.length c L rfl (fun i hi => hc i hi) 9 Tryz.underlying9
end Go.Proofs.YtpfjflbbpecbkaaGreat
