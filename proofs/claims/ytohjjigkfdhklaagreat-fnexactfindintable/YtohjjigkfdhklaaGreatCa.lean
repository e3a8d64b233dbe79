/- An entry comes back from its bytes, in the program's reading. / The reader's steps in one form: what is answered, the place, torn or not. / The reader's agg in one form; the reader's entry. -/
import Derived.Test.YtohjjigkfdhklaaGreatBx
import Derived.Test.YtohjjigkfdhklaaGreatFixR
import Derived.Test.YtohjjigkfdhklaaGreatBp
import Derived.Deep.RegionWith
namespace Go.Proofs.YtohjjigkfdhklaaGreat
set_option maxRecDepth 100000
open Go.RowKit
set_option linter.unusedSimpArgs false
set_option linter.unusedVariables false

/-- The agg of an entry as it is read out of m bytes at place q. -/
def AgE (f : Nat → Int) (n q m : Nat) (x : Ent) : Prop :=
  (m = 0 ∧ x.c = 0 ∧ x.s = 0 ∧ x.lo = 0 ∧ x.hi = 0 ∧ x.n = 0 ∧ x.fu = false) ∨
  (0 < m ∧ ∃ N, AgY f n q m N ∧ x.c = fi N 0 ∧ x.s = fi N 1 ∧ x.lo = fi N 2 ∧ x.hi = fi N 3 ∧ x.n = 8 ∧ (∀ i, i < 8 → x.f i = fi N (i + 4)) ∧ x.fu = (f q == 1))
/-- The entry x is read at place q behind the key ah, and q' is the place behind it. -/
def EY (f : Nat → Int) (n q : Nat) (ah : ByteArray) (x : Ent) (q' : Nat) : Prop :=
  ∃ (sh rs mn : Int) (q1 q2 q3 q5 : Nat), rdNum f n q = some (sh, q1) ∧ rdNum f n q1 = some (rs, q2) ∧ rdNum f n q2 = some (x.seq, q3) ∧ q3 + 1 ≤ n ∧ x.kind = f q3 ∧ rdNum f n (q3 + 1) = some (mn, q5) ∧
    sh ≤ ah.size ∧ q5 + rs.toNat ≤ n ∧ bytesOf x.key = (bytesOf ah).take sh.toNat ++ (List.range rs.toNat).map (fun i => f (q5 + i)) ∧ AgE f n (q5 + rs.toNat) mn.toNat x ∧ q' = q5 + rs.toNat + mn.toNat

theorem seg_list {f : Nat → Int} {q : Nat} {L : List Int} (h : Seg f q L) : (List.range L.length).map (fun i => f (q + i)) = L := by
  refine List.ext_getElem (by simp) fun i h1 h2 => ?_
  simp only [List.getElem_map, List.getElem_range]
  rw [h i h2]
  simp [fl, h2]
theorem ey_enE {f : Nat → Int} {n q : Nat} {ah : ByteArray} {x : Ent} (hg : GoodE x) (hs : Seg f q (enE ah x)) (hn : q + (enE ah x).length ≤ n) : EY f n q ah x (q + (enE ah x).length) := by
  have hsh := shK_le ah x
  have hkey : x.key.size ≤ 140 := by have := hg.1; unfold KeyOk at this; omega
  have haL := agL_len x
  have hseq := hg.2.1
  unfold enE at hs hn ⊢
  generalize hL1 : pvL ((shK ah x : Nat) : Int) = L1 at *
  generalize hL2 : pvL ((x.key.size - shK ah x : Nat) : Int) = L2 at *
  generalize hL3 : pvL x.seq = L3 at *
  generalize hL5 : pvL ((agL x).length : Nat) = L5 at *
  have hd : ((bytesOf x.key).drop (shK ah x)).length = x.key.size - shK ah x := by rw [List.length_drop, bytesOf_len]
  simp only [List.length_append, List.length_singleton, hd] at hn ⊢
  have s7 := hs.right
  have s6 := hs.left.right
  have s5 := hs.left.left.right
  have s4 := hs.left.left.left.right
  have s3 := hs.left.left.left.left.right
  have s2 := hs.left.left.left.left.left.right
  have s1 := hs.left.left.left.left.left.left
  simp only [List.length_append, List.length_singleton, hd] at s7 s6 s5 s4 s3 s2 s1
  rw [← hL1] at s1
  rw [← hL2] at s2
  rw [← hL3] at s3
  rw [← hL5] at s5
  have n1 := rdNum_pvL (n := n) (u := ((shK ah x : Nat) : Int)) (by omega) s1 (by rw [hL1]; omega)
  have n2 := rdNum_pvL (n := n) (u := ((x.key.size - shK ah x : Nat) : Int)) (by omega) s2 (by rw [hL2]; omega)
  have n3 := rdNum_pvL (n := n) (u := x.seq) (by omega) s3 (by rw [hL3]; omega)
  have n5 := rdNum_pvL (n := n) (u := (((agL x).length : Nat) : Int)) (by omega) s5 (by rw [hL5]; omega)
  rw [hL1] at n1
  rw [hL2] at n2
  rw [hL3] at n3
  rw [hL5] at n5
  have h4 := s4 0 (by simp)
  simp only [fl, Nat.add_zero] at h4
  refine ⟨((shK ah x : Nat) : Int), ((x.key.size - shK ah x : Nat) : Int), (((agL x).length : Nat) : Int), q + L1.length, q + (L1.length + L2.length), q + (L1.length + L2.length + L3.length), q + (L1.length + L2.length + L3.length + 1 + L5.length), n1, ?_, ?_, by omega, ?_, ?_, by omega, ?_, ?_, ?_, ?_⟩
  · rw [n2, Nat.add_assoc]
  · rw [n3, Nat.add_assoc q]
  · rw [h4]; simp
  · rw [Nat.add_assoc q _ 1, n5, Nat.add_assoc q]
  · rw [Int.toNat_natCast]; omega
  · rw [Int.toNat_natCast, Int.toNat_natCast]
    have e := seg_list s6
    rw [hd] at e
    rw [e, show (bytesOf ah).take (shK ah x) = (bytesOf x.key).take (shK ah x) from shr_take _ _, List.take_append_drop]
  · rw [Int.toNat_natCast, Int.toNat_natCast]
    rw [show q + (L1.length + L2.length + L3.length + 1 + L5.length + (x.key.size - shK ah x)) = q + (L1.length + L2.length + L3.length + 1 + L5.length) + (x.key.size - shK ah x) from by omega] at s7
    rcases hg.agg with ⟨hk, hA⟩ | ⟨hk, _⟩
    · have ea : agL x = bl x.fu (nm x.c x.s x.lo x.hi x.f) 12 := by unfold agL; rw [if_neg hk]
      have h8 : x.n = 8 := hA.2.1
      have hl := bl_len x.fu (nm x.c x.s x.lo x.hi x.f) 12
      rw [h8] at hA
      rw [ea] at s7 hn ⊢
      have hR := rag_bl hA s7.shift rfl
      have hf : ∀ i, i < 12 → fi ((List.range 12).map (nm x.c x.s x.lo x.hi x.f)) i = nm x.c x.s x.lo x.hi x.f i := fun i hi => by simp [fi, hi]
      refine .inr ⟨by omega, _, ⟨by omega, hR⟩, ?_, ?_, ?_, ?_, h8, fun i hi => ?_, ?_⟩
      · rw [hf 0 (by omega)]; rfl
      · rw [hf 1 (by omega)]; rfl
      · rw [hf 2 (by omega)]; rfl
      · rw [hf 3 (by omega)]; rfl
      · rw [hf (i + 4) (by omega)]
        unfold nm
        rw [if_neg (by omega), if_neg (by omega), if_neg (by omega), if_neg (by omega)]
        congr 1
      · have h0 := s7 0 (by omega)
        rw [bl_byt0, Nat.add_zero] at h0
        rw [h0]
        cases x.fu <;> simp
    · have ea : agL x = [] := by unfold agL; rw [if_pos hk]
      obtain ⟨_, _, h | h⟩ := hg
      · omega
      · obtain ⟨_, z1, z2, z3, z4, z5, z6⟩ := h
        exact .inl ⟨by rw [ea]; rfl, z1, z2, z3, z4, z5, z6⟩
  · rw [Int.toNat_natCast, Int.toNat_natCast]; omega
end Go.Proofs.YtohjjigkfdhklaaGreat
namespace Go.Proofs.YtohjjigkfdhklaaGreat
set_option maxRecDepth 100000
open Go.RowKit
set_option linter.unusedSimpArgs false
set_option linter.unusedVariables false

/-- What number leaves, torn ahead or not. -/
def NumU (f : Nat → Int) (B bb bo n cap q : Nat) (t : Bool) (w : World) (e : Ending) (w' : World) : Prop :=
  ∃ (u q' : Nat) (t' : Bool), e = .returned (.int .i64 (u : Int)) ∧ (u : Int) ≤ 9223372036854775807 ∧ q' ≤ n ∧ BR w' B (some ⟨bb, bo, none⟩) n cap q' t' ∧ Mid B (B + 1) w w' ∧
    ((t' = false ∧ t = false ∧ rdNum f n q = some ((u : Int), q')) ∨ (t' = true ∧ (t = true ∨ rdNum f n q = none)))
theorem number_u (f : Nat → Int) (B bb bo n cap q : Nat) (t : Bool) (w : World) (hB : BR w B (some ⟨bb, bo, none⟩) n cap q t) (hr : Row w (some ⟨bb, bo, none⟩) n f) (hn : n ≤ 1048576) (hcap : n ≤ cap) (hq : q ≤ n) :
    Calls Tryz.prog 127 #[.pointer (some ⟨B, 0, none⟩)] w fun e w' => NumU f B bb bo n cap q t w e w' := by
  refine (number_any f B _ n cap q t w hB hr hn hcap).mono ?_
  rintro e w' ⟨⟨u, q', h, rfl, hB'⟩ | ⟨h, rfl, hB'⟩, M⟩
  · obtain ⟨h1, h2, h3, h4⟩ := rdNum_pos h
    obtain ⟨u, rfl⟩ := Int.eq_ofNat_of_zero_le h3
    refine ⟨u, q', t, rfl, h4, h2, hB', M, ?_⟩
    cases t
    · exact .inl ⟨rfl, rfl, h⟩
    · exact .inr ⟨rfl, .inl rfl⟩
  · exact ⟨0, q, true, rfl, by decide, hq, hB', M, .inr ⟨rfl, .inr h⟩⟩

/-- What kind leaves, torn ahead or not. -/
def KinU (f : Nat → Int) (B bb bo n cap q : Nat) (t : Bool) (w : World) (e : Ending) (w' : World) : Prop :=
  ∃ (u : Int) (q' : Nat) (t' : Bool), e = .returned (.int .i64 u) ∧ q' ≤ n ∧ BR w' B (some ⟨bb, bo, none⟩) n cap q' t' ∧ Mid B (B + 1) w w' ∧
    ((t' = false ∧ t = false ∧ q + 1 ≤ n ∧ u = f q ∧ q' = q + 1) ∨ (t' = true ∧ (t = true ∨ ¬ q + 1 ≤ n)))
theorem kind_u (f : Nat → Int) (B bb bo n cap q : Nat) (t : Bool) (w : World) (hB : BR w B (some ⟨bb, bo, none⟩) n cap q t) (hr : Row w (some ⟨bb, bo, none⟩) n f) (hne : bb ≠ B) (hn : n ≤ 1048576) (hcap : n ≤ cap) (hq : q ≤ n) :
    Calls Tryz.prog 128 #[.pointer (some ⟨B, 0, none⟩)] w fun e w' => KinU f B bb bo n cap q t w e w' := by
  refine (kind_any f B bb bo n cap q t w hB hr hne hn hcap hq).mono ?_
  rintro e w' ⟨⟨h1, rfl, rfl, hB'⟩ | ⟨h, rfl, q', hq', hB'⟩, M⟩
  · exact ⟨f q, q + 1, false, rfl, h1, hB', M, .inl ⟨rfl, rfl, h1, rfl, rfl⟩⟩
  · refine ⟨0, q', true, rfl, hq', hB', M, .inr ⟨rfl, ?_⟩⟩
    cases t
    · exact .inr fun h1 => h ⟨h1, rfl⟩
    · exact .inl rfl

/-- The numbers of m bytes at place q. -/
def segL (f : Nat → Int) (q m : Nat) : List Int := (List.range m).map fun i => f (q + i)
theorem segL_len (f : Nat → Int) (q m : Nat) : (segL f q m).length = m := by simp [segL]
/-- What take leaves, torn ahead or not: k bytes, all that were asked for if it isn't torn. -/
def TakU (f : Nat → Int) (B bb bo n cap q : Nat) (t : Bool) (m : Nat) (w : World) (e : Ending) (w' : World) : Prop :=
  ∃ (A : Option Addr) (k c q' : Nat) (t' : Bool), e = .returned (.slice A k c) ∧ Row w' A (segL f q k).length (fl (segL f q k)) ∧ q' ≤ n ∧ BR w' B (some ⟨bb, bo, none⟩) n cap q' t' ∧ Mid B (B + 1) w w' ∧
    ((t' = false ∧ t = false ∧ q + m ≤ n ∧ k = m ∧ q' = q + m) ∨ (t' = true ∧ k ≤ n ∧ (t = true ∨ ¬ q + m ≤ n)))
theorem take_u (f : Nat → Int) (B bb bo n cap q : Nat) (t : Bool) (m : Nat) (hm : m ≤ 9223372036854775807) (w : World) (hB : BR w B (some ⟨bb, bo, none⟩) n cap q t) (hr : Row w (some ⟨bb, bo, none⟩) n f) (hne : bb ≠ B) (hn : n ≤ 1048576) (hcap : n ≤ cap) (hq : q ≤ n) :
    Calls Tryz.prog 129 #[.pointer (some ⟨B, 0, none⟩), .int .i64 (m : Nat)] w fun e w' => TakU f B bb bo n cap q t m w e w' := by
  refine (take_any f B bb bo n cap q t m hm w hB hn hcap hq).mono ?_
  have hfl : ∀ k i, i < k → fl (segL f q k) i = f (q + i) := fun k i hi => by simp [fl, segL, hi]
  have hbd : ∀ k i, 0 ≤ fl (segL f q k) i ∧ fl (segL f q k) i ≤ 255 := fun k i => by
    rcases Nat.lt_or_ge i k with h | h
    · rw [hfl k i h]; exact hr.bd _
    · have : fl (segL f q k) i = 0 := by simp [fl, segL, Nat.not_lt.mpr h]
      omega
  rintro e w' ⟨⟨h1, A, c, rfl, hc, hA, _, hB'⟩ | ⟨h1, rfl, hB'⟩, M⟩
  · refine ⟨A, m, c, q + m, t, rfl, ⟨hbd m, ?_⟩, h1, hB', M, ?_⟩
    · rw [segL_len]
      rcases Nat.eq_zero_or_pos m with rfl | hp
      · exact .inl rfl
      · obtain rfl := hA.resolve_right (by omega)
        have hr1 := M.row hr (fun b o e _ => by injection e with e; injection e with e1 e2; omega)
        obtain ⟨b', o', e, hlt, hcc⟩ := hr1.lies.resolve_left (by omega)
        injection e with e
        injection e with e1 e2 _
        subst e1 e2
        exact .inr ⟨bb, bo + q, rfl, hlt, fun i hi => by rw [hfl m i hi, Nat.add_assoc]; exact hcc (q + i) (by omega)⟩
    · cases t
      · exact .inl ⟨rfl, rfl, h1, rfl, rfl⟩
      · exact .inr ⟨rfl, by omega, .inl rfl⟩
  · exact ⟨none, 0, 0, q, true, rfl, ⟨hbd 0, .inl (segL_len f q 0)⟩, hq, hB', M, .inr ⟨rfl, by omega, .inr h1⟩⟩

theorem conv_row (w : World) (ao : Option Addr) (c : Nat) (L : List Int) (hr : Row w ao L.length (fl L)) : (convert 22 9 (.slice ao L.length c)).run Tryz.prog w = .ok (.string (strOfNums L)) w := by
  by_cases h0 : L.length = 0
  · have e : L = [] := List.eq_nil_of_length_eq_zero h0
    subst e
    cases ao with
    | none => exact run_convert_bytes_nil (P := Tryz.prog) w 22 5 Tryz.underlying22 Tryz.underlying5 0 c 9 Tryz.underlying9
    | some p =>
      show (convert 22 9 (.slice (some p) 0 c)).run Tryz.prog w = .ok (.string (strOfNums [])) w
      rw [run_convert_bytes_string w 22 9 5 (some p) 0 c Tryz.underlying22 Tryz.underlying5 Tryz.underlying9, run_bytesToString w p 0 c [] (by simp [loadCells, loadCellsFrom])]
      rfl
  · obtain ⟨b, off, rfl, hlt, hc⟩ := hr.lies.resolve_left h0
    exact run_convert_bytes_arg (P := Tryz.prog) w 22 5 Tryz.underlying22 Tryz.underlying5 b off L.length c L rfl (fun i hi => hc i hi) 9 Tryz.underlying9
end Go.Proofs.YtohjjigkfdhklaaGreat
namespace Go.Proofs.YtohjjigkfdhklaaGreat
set_option maxRecDepth 100000
open Go.RowKit
set_option linter.unusedSimpArgs false
set_option linter.unusedVariables false

/-- The boxes of an entry's agg lie at A, a row of the call's own. -/
def OwnA (w w' : World) (A : Option Addr) (x : Ent) : Prop := (x.n = 0 ∧ A = none) ∨ (x.n = 8 ∧ ∃ G, A = some ⟨G, 0, none⟩ ∧ w.heap.size ≤ G ∧ IOwn w' G 0 8 x.f)
/-- What agg leaves, torn ahead or not. -/
def AggU (f : Nat → Int) (B bb bo n cap q : Nat) (t : Bool) (m : Nat) (w : World) (e : Ending) (w' : World) : Prop :=
  ∃ (x : Ent) (A : Option Addr) (c q' : Nat) (t' : Bool), e = .returned (.agg #[.int .i64 x.c, .int .i64 x.s, .int .i64 x.lo, .int .i64 x.hi, .slice A x.n c, .bool x.fu]) ∧ q' ≤ n ∧ BR w' B (some ⟨bb, bo, none⟩) n cap q' t' ∧ Nm w.heap.size B w w' ∧
    ((t' = false ∧ t = false ∧ AgE f n q m x ∧ OwnA w w' A x ∧ q' = q + m) ∨ (t' = true ∧ (t = true ∨ ∀ x, ¬ AgE f n q m x)))
theorem agg_u (f : Nat → Int) (B bb bo n cap q : Nat) (t : Bool) (m : Nat) (hm : m ≤ 9223372036854775807) (w : World) (hB : BR w B (some ⟨bb, bo, none⟩) n cap q t) (hr : Row w (some ⟨bb, bo, none⟩) n f) (hbb : bb < w.heap.size) (hne : bb ≠ B) (hn : n ≤ 1048576) (hcap : n ≤ cap) (hq : q ≤ n) :
    Calls Tryz.prog 130 #[.pointer (some ⟨B, 0, none⟩), .int .i64 (m : Nat)] w fun e w' => AggU f B bb bo n cap q t m w e w' := by
  refine (agg_any f B bb bo n cap q t m hm w hB hr hbb hne hn hcap hq).mono ?_
  rintro e w' ⟨⟨rfl, rfl, hB'⟩ | ⟨h0, N, G, c, hY, rfl, hG, oG, hB'⟩ | ⟨h0, hno, ⟨G, c, rfl⟩, q', hq', hB'⟩, M⟩
  · refine ⟨⟨⟨#[]⟩, 0, 0, 0, 0, 0, 0, 0, fun _ => 0, false⟩, none, 0, q, t, rfl, hq, hB', M, ?_⟩
    cases t
    · exact .inl ⟨rfl, rfl, .inl ⟨rfl, rfl, rfl, rfl, rfl, rfl, rfl⟩, .inl ⟨rfl, rfl⟩, rfl⟩
    · exact .inr ⟨rfl, .inl rfl⟩
  · refine ⟨⟨⟨#[]⟩, 0, 0, fi N 0, fi N 1, fi N 2, fi N 3, 8, fun i => fi N (i + 4), f q == 1⟩, some ⟨G, 0, none⟩, c, q + m, t, rfl, hY.1, hB', M, ?_⟩
    cases t
    · exact .inl ⟨rfl, rfl, .inr ⟨h0, N, hY, rfl, rfl, rfl, rfl, rfl, fun i _ => rfl, rfl⟩, .inr ⟨rfl, G, rfl, hG, oG⟩, rfl⟩
    · exact .inr ⟨rfl, .inl rfl⟩
  · refine ⟨⟨⟨#[]⟩, 0, 0, 0, 0, 0, 0, 8, fun _ => 0, false⟩, some ⟨G, 0, none⟩, c, q', true, rfl, hq', hB', M, .inr ⟨rfl, .inr ?_⟩⟩
    rintro x (h | ⟨_, N, h, _⟩)
    · omega
    · exact hno N h

/-- What entry leaves. -/
def EntR (f : Nat → Int) (B bb bo n cap q : Nat) (t : Bool) (ah : ByteArray) (w : World) (e : Ending) (w' : World) : Prop :=
  ∃ (x : Ent) (A : Option Addr) (c q' : Nat) (t' : Bool), e = .returned (.agg #[.string x.key, .int .i64 x.seq, .int .i64 x.kind, .int .i64 x.c, .int .i64 x.s, .int .i64 x.lo, .int .i64 x.hi, .slice A x.n c, .bool x.fu]) ∧ q' ≤ n ∧ BR w' B (some ⟨bb, bo, none⟩) n cap q' t' ∧ Nm w.heap.size B w w' ∧
    ((t' = false ∧ t = false ∧ EY f n q ah x q' ∧ OwnA w w' A x) ∨ (t' = true ∧ (t = true ∨ ∀ x q'', ¬ EY f n q ah x q'')))

theorem bytesOf_append (a b : ByteArray) : bytesOf (a ++ b) = bytesOf a ++ bytesOf b := by simp [bytesOf, ByteArray.data_append]
theorem bytesOf_front (s : ByteArray) (k : Nat) : bytesOf (s.extract 0 k) = (bytesOf s).take k := by simp [bytesOf, ByteArray.data_extract, List.map_take]
theorem bytesOf_nums (L : List Int) (h : ∀ z, z ∈ L → 0 ≤ z ∧ z ≤ 255) : bytesOf (strOfNums L) = L := by
  unfold bytesOf
  rw [strOfNums_data, List.map_map]
  conv => rhs; rw [← List.map_id L]
  refine List.map_congr_left fun z hz => ?_
  have := h z hz
  simp only [Function.comp_apply, id_eq, UInt8.toNat_ofNat']
  omega
/-- The steps of an entry put together. -/
theorem ent_end {f : Nat → Int} {n q q1 q2 q3 q4 q5 q6 q7 u1 u2 u3 u5 k : Nat} {u4 : Int} {t t1 t2 t3 t4 t5 t6 t7 : Bool} {ah : ByteArray} {x : Ent} {O : Prop} (hf : ∀ i, 0 ≤ f i ∧ f i ≤ 255) (hle : u1 ≤ ah.size)
    (D1 : (t1 = false ∧ t = false ∧ rdNum f n q = some ((u1 : Int), q1)) ∨ (t1 = true ∧ (t = true ∨ rdNum f n q = none)))
    (D2 : (t2 = false ∧ t1 = false ∧ rdNum f n q1 = some ((u2 : Int), q2)) ∨ (t2 = true ∧ (t1 = true ∨ rdNum f n q1 = none)))
    (D3 : (t3 = false ∧ t2 = false ∧ rdNum f n q2 = some ((u3 : Int), q3)) ∨ (t3 = true ∧ (t2 = true ∨ rdNum f n q2 = none)))
    (D4 : (t4 = false ∧ t3 = false ∧ q3 + 1 ≤ n ∧ u4 = f q3 ∧ q4 = q3 + 1) ∨ (t4 = true ∧ (t3 = true ∨ ¬ q3 + 1 ≤ n)))
    (D5 : (t5 = false ∧ t4 = false ∧ rdNum f n q4 = some ((u5 : Int), q5)) ∨ (t5 = true ∧ (t4 = true ∨ rdNum f n q4 = none)))
    (D6 : (t6 = false ∧ t5 = false ∧ q5 + u2 ≤ n ∧ k = u2 ∧ q6 = q5 + u2) ∨ (t6 = true ∧ k ≤ n ∧ (t5 = true ∨ ¬ q5 + u2 ≤ n)))
    (D7 : (t7 = false ∧ t6 = false ∧ AgE f n q6 u5 x ∧ O ∧ q7 = q6 + u5) ∨ (t7 = true ∧ (t6 = true ∨ ∀ x, ¬ AgE f n q6 u5 x))) :
    (t7 = false ∧ t = false ∧ EY f n q ah ⟨ah.extract 0 u1 ++ strOfNums (segL f q5 k), u3, u4, x.c, x.s, x.lo, x.hi, x.n, x.f, x.fu⟩ q7 ∧ O) ∨ (t7 = true ∧ (t = true ∨ ∀ x q'', ¬ EY f n q ah x q'')) := by
  rcases D7 with ⟨rfl, rfl, hA, hO, rfl⟩ | ⟨rfl, h7⟩
  · obtain ⟨rfl, h6, rfl, rfl⟩ : t5 = false ∧ q5 + u2 ≤ n ∧ k = u2 ∧ q6 = q5 + u2 := by
      rcases D6 with ⟨_, h⟩ | ⟨h, _⟩
      · exact h
      · cases h
    obtain ⟨rfl, h5⟩ : t4 = false ∧ rdNum f n q4 = some ((u5 : Int), q5) := by
      rcases D5 with ⟨_, h⟩ | ⟨h, _⟩
      · exact h
      · cases h
    obtain ⟨rfl, h4, rfl, rfl⟩ : t3 = false ∧ q3 + 1 ≤ n ∧ u4 = f q3 ∧ q4 = q3 + 1 := by
      rcases D4 with ⟨_, h⟩ | ⟨h, _⟩
      · exact h
      · cases h
    obtain ⟨rfl, h3⟩ : t2 = false ∧ rdNum f n q2 = some ((u3 : Int), q3) := by
      rcases D3 with ⟨_, h⟩ | ⟨h, _⟩
      · exact h
      · cases h
    obtain ⟨rfl, h2⟩ : t1 = false ∧ rdNum f n q1 = some ((k : Int), q2) := by
      rcases D2 with ⟨_, h⟩ | ⟨h, _⟩
      · exact h
      · cases h
    obtain ⟨rfl, h1⟩ : t = false ∧ rdNum f n q = some ((u1 : Int), q1) := by
      rcases D1 with ⟨_, h⟩ | ⟨h, _⟩
      · exact h
      · cases h
    refine .inl ⟨rfl, rfl, ⟨u1, k, u5, q1, q2, q3, q5, h1, h2, h3, h4, rfl, h5, by omega, by rw [Int.toNat_natCast]; exact h6, ?_, ?_, ?_⟩, hO⟩
    · show bytesOf (ah.extract 0 u1 ++ strOfNums (segL f q5 k)) = _
      rw [bytesOf_append, bytesOf_front, bytesOf_nums _ (fun z hz => by simp only [segL, List.mem_map] at hz; obtain ⟨i, _, rfl⟩ := hz; exact hf _), Int.toNat_natCast, Int.toNat_natCast]
      rfl
    · rw [Int.toNat_natCast, Int.toNat_natCast]; exact hA
    · rw [Int.toNat_natCast, Int.toNat_natCast]
  · refine .inr ⟨rfl, ?_⟩
    cases t
    · refine .inr ?_
      rintro y q'' ⟨sh, rs, mn, p1, p2, p3, p5, e1, e2, e3, e4, e5, e6, e7, e8, e9, e10, e11⟩
      rcases D1 with ⟨rfl, _, h1⟩ | ⟨_, h1 | h1⟩
      · rw [h1] at e1
        simp only [Option.some.injEq, Prod.mk.injEq] at e1
        obtain ⟨rfl, rfl⟩ := e1
        rcases D2 with ⟨rfl, _, h2⟩ | ⟨_, h2 | h2⟩
        · rw [h2] at e2
          simp only [Option.some.injEq, Prod.mk.injEq] at e2
          obtain ⟨rfl, rfl⟩ := e2
          rcases D3 with ⟨rfl, _, h3⟩ | ⟨_, h3 | h3⟩
          · rw [h3] at e3
            simp only [Option.some.injEq, Prod.mk.injEq] at e3
            obtain ⟨e30, rfl⟩ := e3
            rcases D4 with ⟨rfl, _, h4, _, rfl⟩ | ⟨_, h4 | h4⟩
            · rcases D5 with ⟨rfl, _, h5⟩ | ⟨_, h5 | h5⟩
              · rw [h5] at e6
                simp only [Option.some.injEq, Prod.mk.injEq] at e6
                obtain ⟨rfl, rfl⟩ := e6
                rw [Int.toNat_natCast] at e8 e10
                rw [Int.toNat_natCast] at e10
                rcases D6 with ⟨rfl, _, h6, _, rfl⟩ | ⟨_, _, h6 | h6⟩
                · rcases h7 with h7 | h7
                  · cases h7
                  · exact h7 _ e10
                · cases h6
                · exact h6 e8
              · cases h5
              · rw [h5] at e6; cases e6
            · cases h4
            · exact h4 e4
          · cases h3
          · rw [h3] at e3; cases e3
        · cases h2
        · rw [h2] at e2; cases e2
      · cases h1
      · rw [h1] at e1; cases e1
    · exact .inl rfl
/-- A box of nine cells. -/
structure V9 (w : World) (D : Nat) (v : Nat → Value) : Prop where
  lt : D < w.heap.size
  cell : ∀ j, j < 9 → w.cell? ⟨D, j, none⟩ = some (v j)
  fz : ∀ j, w.frozen? ⟨D, j, none⟩ = false
section
variable {w w' : World} {D : Nat} {v : Nat → Value}
theorem V9.keep (h : V9 w D v) (hb : Below w.heap.size w w') : V9 w' D v :=
  ⟨Nat.lt_of_lt_of_le h.lt hb.size, fun j hj => (hb.cell (p := ⟨D, j, none⟩) h.lt).trans (h.cell j hj), fun j => (hb.frozen (p := ⟨D, j, none⟩) h.lt).trans (h.fz j)⟩
theorem V9.mid {B U : Nat} (h : V9 w D v) (hm : Mid B U w w') (hne : D < B ∨ U ≤ D) : V9 w' D v :=
  ⟨Nat.lt_of_lt_of_le h.lt hm.size, fun j hj => (hm.cell h.lt hne).trans (h.cell j hj), fun j => (hm.frozen h.lt hne).trans (h.fz j)⟩
theorem V9.nm {base B : Nat} (h : V9 w D v) (hm : Nm base B w w') (h1 : D < base) (h2 : D ≠ B) : V9 w' D v :=
  ⟨Nat.lt_of_lt_of_le h.lt hm.size, fun j hj => (World.cell?_of_block (w := w) (a := ⟨D, j, none⟩) (hm.block D h1 h2)).trans (h.cell j hj), fun j => (World.frozen?_of_block (w := w) (a := ⟨D, j, none⟩) (hm.block D h1 h2)).trans (h.fz j)⟩
theorem V9.set (h : V9 w D v) (j : Nat) (hj : j < 9) (x : Value) : V9 (w.setCell ⟨D, j, none⟩ x) D (fun i => if i = j then x else v i) := by
  refine ⟨by simpa using h.lt, fun i hi => ?_, fun i => by simpa using h.fz i⟩
  by_cases e : i = j
  · subst e
    rw [if_pos rfl]
    exact World.cell?_setCell_same _ _ _ (h.cell i hi)
  · rw [if_neg e]
    exact (World.cell?_setCell_other _ _ _ _ (adr_ne (Ne.symm e))).trans (h.cell i hi)
theorem V9.other (h : V9 w D v) {B j : Nat} (hne : B ≠ D) (x : Value) : V9 (w.setCell ⟨B, j, none⟩ x) D v :=
  ⟨by simpa using h.lt, fun i hi => (World.cell?_setCell_other _ _ _ _ (fun e => by injection e with e1; omega)).trans (h.cell i hi), fun i => by simpa using h.fz i⟩
end

theorem V9.all {w : World} {D : Nat} {v : Nat → Value} (h : V9 w D v) (a0 a1 a2 a3 a4 a5 a6 a7 a8 : Value) : ∃ W, (((((((((w.setCell ⟨D, 0, none⟩ a0).setCell ⟨D, 1, none⟩ a1).setCell ⟨D, 2, none⟩ a2).setCell ⟨D, 3, none⟩ a3).setCell ⟨D, 4, none⟩ a4).setCell ⟨D, 5, none⟩ a5).setCell ⟨D, 6, none⟩ a6).setCell ⟨D, 7, none⟩ a7).setCell ⟨D, 8, none⟩ a8) = W ∧ W.cell? ⟨D, 0, none⟩ = some a0 ∧ W.cell? ⟨D, 1, none⟩ = some a1 ∧ W.cell? ⟨D, 2, none⟩ = some a2 ∧ W.cell? ⟨D, 3, none⟩ = some a3 ∧ W.cell? ⟨D, 4, none⟩ = some a4 ∧ W.cell? ⟨D, 5, none⟩ = some a5 ∧ W.cell? ⟨D, 6, none⟩ = some a6 ∧ W.cell? ⟨D, 7, none⟩ = some a7 ∧ W.cell? ⟨D, 8, none⟩ = some a8 ∧ Others D w W := by
  have H := (((((((((h.set 0 (by decide) a0).set 1 (by decide) a1).set 2 (by decide) a2).set 3 (by decide) a3).set 4 (by decide) a4).set 5 (by decide) a5).set 6 (by decide) a6).set 7 (by decide) a7).set 8 (by decide) a8)
  exact ⟨_, rfl, H.cell 0 (by decide), H.cell 1 (by decide), H.cell 2 (by decide), H.cell 3 (by decide), H.cell 4 (by decide), H.cell 5 (by decide), H.cell 6 (by decide), H.cell 7 (by decide), H.cell 8 (by decide), (((((((((Others.setCell w D 0 a0).trans (Others.setCell _ D 1 a1)).trans (Others.setCell _ D 2 a2)).trans (Others.setCell _ D 3 a3)).trans (Others.setCell _ D 4 a4)).trans (Others.setCell _ D 5 a5)).trans (Others.setCell _ D 6 a6)).trans (Others.setCell _ D 7 a7)).trans (Others.setCell _ D 8 a8))⟩
theorem BR.others {w w' : World} {B D : Nat} {ao : Option Addr} {n cap q : Nat} {t : Bool} (h : BR w B ao n cap q t) (ho : Others D w w') (hne : B ≠ D) : BR w' B ao n cap q t :=
  have cl : ∀ j, w'.cell? ⟨B, j, none⟩ = w.cell? ⟨B, j, none⟩ := fun j => World.cell?_of_block (w := w) (a := ⟨B, j, none⟩) (ho.block B hne)
  ⟨by rw [ho.size]; exact h.lt, (cl _).trans h.c0, (cl _).trans h.c1, (cl _).trans h.c2, fun j => (World.frozen?_of_block (w := w) (a := ⟨B, j, none⟩) (ho.block B hne)).trans (h.fz j)⟩

set_option maxHeartbeats 3200000 in
theorem entry_any (f : Nat → Int) (B bb bo n cap q : Nat) (t : Bool) (ah : ByteArray) (hah : ah.size ≤ 4194304) (w : World) (hB : BR w B (some ⟨bb, bo, none⟩) n cap q t) (hr : Row w (some ⟨bb, bo, none⟩) n f) (hbb : bb < w.heap.size) (hne : bb ≠ B) (hn : n ≤ 1048576) (hcap : n ≤ cap) (hq : q ≤ n) :
    Calls Tryz.prog 112 #[.pointer (some ⟨B, 0, none⟩), .string ah] w fun e w' => EntR f B bb bo n cap q t ah w e w' := by
  have hBl := hB.lt
  have hB0 := below_new w (.cells #[.string ⟨#[]⟩, .int .i64 0, .int .i64 0, .int .i64 0, .int .i64 0, .int .i64 0, .int .i64 0, .slice none 0 0, .bool false] 35)
  have V0 : V9 (w.alloc (.cells #[.string ⟨#[]⟩, .int .i64 0, .int .i64 0, .int .i64 0, .int .i64 0, .int .i64 0, .int .i64 0, .slice none 0 0, .bool false] 35)) w.heap.size (fun j => (#[.string ⟨#[]⟩, .int .i64 0, .int .i64 0, .int .i64 0, .int .i64 0, .int .i64 0, .int .i64 0, .slice none 0 0, .bool false] : Array Value)[j]!) := by
    refine ⟨by simp, fun j hj => ?_, fun j => by simp [go_sem]⟩
    rcases j with _ | _ | _ | _ | _ | _ | _ | _ | _ | j <;> first | (exfalso; omega) | simp [go_sem]
  have B0 := hB.keep hB0
  have r0 := hr.keep hB0
  have N0 : Nm w.heap.size B w (w.alloc (.cells #[.string ⟨#[]⟩, .int .i64 0, .int .i64 0, .int .i64 0, .int .i64 0, .int .i64 0, .int .i64 0, .slice none 0 0, .bool false] 35)) := Nm.of_below hB0
  have s0 : w.heap.size < (w.alloc (.cells #[.string ⟨#[]⟩, .int .i64 0, .int .i64 0, .int .i64 0, .int .i64 0, .int .i64 0, .int .i64 0, .slice none 0 0, .bool false] 35)).heap.size := by simp
  obtain ⟨v0, V0⟩ : ∃ v0, V9 (w.alloc (.cells #[.string ⟨#[]⟩, .int .i64 0, .int .i64 0, .int .i64 0, .int .i64 0, .int .i64 0, .int .i64 0, .slice none 0 0, .bool false] 35)) w.heap.size v0 := ⟨_, V0⟩
  have hrow : ∀ {W W' : World}, Row W (some ⟨bb, bo, none⟩) n f → Mid B (B + 1) W W' → Row W' (some ⟨bb, bo, none⟩) n f := fun h M => M.row h (fun b o e _ => by injection e with e; injection e with e1 e2; omega)
  go_enter Tryz.func112, Tryz.ntmps112
  go_wp2_with fail
  generalize w.alloc (.cells #[.string ⟨#[]⟩, .int .i64 0, .int .i64 0, .int .i64 0, .int .i64 0, .int .i64 0, .int .i64 0, .slice none 0 0, .bool false] 35) = w0 at *
  refine (number_u f B bb bo n cap q t w0 B0 r0 hn hcap hq).mono ?_
  rintro e w1 ⟨u1, q1, t1, rfl, hu1, hq1, B1, M1, D1⟩
  have r1 := hrow r0 M1
  have V1 := V0.mid M1 (by omega)
  have N1 := N0.trans (Nm.of_mid (base := w.heap.size) M1 (by omega))
  have s1 := M1.size
  clear B0 r0 V0 M1 N0 hB0
  go_wp2_with fail
  refine (number_u f B bb bo n cap q1 t1 w1 B1 r1 hn hcap hq1).mono ?_
  rintro e w2 ⟨u2, q2, t2, rfl, hu2, hq2, B2, M2, D2⟩
  have r2 := hrow r1 M2
  have V2 := V1.mid M2 (by omega)
  have N2 := N1.trans (Nm.of_mid (base := w.heap.size) M2 (by omega))
  have s2 := M2.size
  clear B1 r1 V1 M2 N1
  go_wp2_with fail
  refine (number_u f B bb bo n cap q2 t2 w2 B2 r2 hn hcap hq2).mono ?_
  rintro e w3 ⟨u3, q3, t3, rfl, hu3, hq3, B3, M3, D3⟩
  have r3 := hrow r2 M3
  have V3 := V2.mid M3 (by omega)
  have N3 := N2.trans (Nm.of_mid (base := w.heap.size) M3 (by omega))
  have s3 := M3.size
  clear B2 r2 V2 M3 N2
  go_wp2_with fail
  refine (kind_u f B bb bo n cap q3 t3 w3 B3 r3 hne hn hcap hq3).mono ?_
  rintro e w4 ⟨u4, q4, t4, rfl, hq4, B4, M4, D4⟩
  have r4 := hrow r3 M4
  have V4 := V3.mid M4 (by omega)
  have N4 := N3.trans (Nm.of_mid (base := w.heap.size) M4 (by omega))
  have s4 := M4.size
  clear B3 r3 V3 M4 N3
  go_wp2_with fail
  refine (number_u f B bb bo n cap q4 t4 w4 B4 r4 hn hcap hq4).mono ?_
  rintro e w5 ⟨u5, q5, t5, rfl, hu5, hq5, B5, M5, D5⟩
  have r5 := hrow r4 M5
  have V5 := V4.mid M5 (by omega)
  have N5 := N4.trans (Nm.of_mid (base := w.heap.size) M5 (by omega))
  have s5 := M5.size
  clear B4 r4 V4 M5 N4
  have hwB : B ≠ w.heap.size := by omega
  by_cases hc : ah.size < u1
  · have hci : (ah.size : Int) < (u1 : Int) := by omega
    have B6 := B5.set2 true
    have V6 := V5.other (j := 2) hwB (.bool true)
    have N6 := N5.trans (Nm.of_others (Others.setCell w5 B 2 (.bool true)) (.inl rfl))
    obtain ⟨_, d0, d1, d2, dz⟩ := B5
    obtain ⟨W, hW, x0, x1, x2, x3, x4, x5, x6, x7, x8, O⟩ := V6.all (.string ⟨#[]⟩) (.int .i64 0) (.int .i64 0) (.int .i64 0) (.int .i64 0) (.int .i64 0) (.int .i64 0) (.slice none 0 0) (.bool false)
    have BW := B6.others O hwB
    have NW := N6.trans (Nm.of_others O (.inr (Nat.le_refl _)))
    have v0 := V6.cell 0 (by decide)
    have v1 := V6.cell 1 (by decide)
    have v2 := V6.cell 2 (by decide)
    have v3 := V6.cell 3 (by decide)
    have v4 := V6.cell 4 (by decide)
    have v5 := V6.cell 5 (by decide)
    have v6 := V6.cell 6 (by decide)
    have v7 := V6.cell 7 (by decide)
    have v8 := V6.cell 8 (by decide)
    have vz := V6.fz
    have HU : Hid (t = true ∨ ∀ x q'', ¬ EY f n q ah x q'') := by
      cases t
      · refine .inr ?_
        rintro x q'' ⟨sh, rs, mn, p1, p2, p3, p5, e1, e2, e3, e4, e5, e6, e7, e8⟩
        rcases D1 with ⟨_, _, h1⟩ | ⟨rfl, h1 | h1⟩
        · rw [h1] at e1
          simp only [Option.some.injEq, Prod.mk.injEq] at e1
          omega
        · cases h1
        · rw [h1] at e1; cases e1
      · exact .inl rfl
    clear D1 D2 D3 D4 D5 V5 V6 N5 N6 B6 r5
    go_wp2
    exact bodyPost_ret (v := .agg #[.string ⟨#[]⟩, .int .i64 0, .int .i64 0, .int .i64 0, .int .i64 0, .int .i64 0, .int .i64 0, .slice none 0 0, .bool false]) (by simp [results, Tryz.results112, go_sem, x0, x1, x2, x3, x4, x5, x6, x7, x8]) rfl ⟨⟨⟨#[]⟩, 0, 0, 0, 0, 0, 0, 0, fun _ => 0, false⟩, none, 0, q5, true, rfl, hq5, BW, NW, .inr ⟨rfl, HU.out⟩⟩
  · have hci : ¬ (ah.size : Int) < (u1 : Int) := by omega
    have hule : u1 ≤ ah.size := by omega
    have hu1s : u1 ≤ 4194304 := by omega
    have hexs : (ah.extract 0 u1).size ≤ 4194304 := by rw [ByteArray.size_extract]; omega
    obtain ⟨E1, E2, E3, E4, E5⟩ : Hid ((t1 = false ∧ t = false ∧ rdNum f n q = some ((u1 : Int), q1)) ∨ (t1 = true ∧ (t = true ∨ rdNum f n q = none))) ∧ Hid ((t2 = false ∧ t1 = false ∧ rdNum f n q1 = some ((u2 : Int), q2)) ∨ (t2 = true ∧ (t1 = true ∨ rdNum f n q1 = none))) ∧ Hid ((t3 = false ∧ t2 = false ∧ rdNum f n q2 = some ((u3 : Int), q3)) ∨ (t3 = true ∧ (t2 = true ∨ rdNum f n q2 = none))) ∧ Hid ((t4 = false ∧ t3 = false ∧ q3 + 1 ≤ n ∧ u4 = f q3 ∧ q4 = q3 + 1) ∨ (t4 = true ∧ (t3 = true ∨ ¬ q3 + 1 ≤ n))) ∧ Hid ((t5 = false ∧ t4 = false ∧ rdNum f n q4 = some ((u5 : Int), q5)) ∨ (t5 = true ∧ (t4 = true ∨ rdNum f n q4 = none))) := ⟨D1, D2, D3, D4, D5⟩
    clear D1 D2 D3 D4 D5
    go_wp2
    have hcall := fun W (h1 : BR W B (some ⟨bb, bo, none⟩) n cap q5 t5) (h2 : Row W (some ⟨bb, bo, none⟩) n f) => take_u f B bb bo n cap q5 t5 u2 (by omega) W h1 h2 hne hn hcap hq5
    go_region_with (first | (go_at_call 129; refine (hcall _ (B5.keep (Below.refl _ _).drew) (r5.keep (Below.refl _ _).drew)).mono ?_; rintro e w6 ⟨A, k, c, q6, t6, rfl, rA, hq6, B6, M6, D6⟩; have cv := conv_row w6 A c (segL f q5 k) rA; rw [segL_len] at cv; obtain ⟨K, hK⟩ : ∃ K, strOfNums (segL f q5 k) = K := ⟨_, rfl⟩; rw [hK] at cv; have hKs : K.size ≤ 1048576 := by (rw [← hK, strOfNums_size, segL_len]; omega)) | fail)
    have s6 := M6.size
    have s6' : w5.heap.size ≤ w6.heap.size := by simpa using s6
    have r6 := hrow (r5.keep (Below.refl _ _).drew) M6
    have V6 := (V5.keep (Below.refl _ _).drew).mid M6 (by omega)
    have N6 := (N5.trans (Nm.of_below (base := w.heap.size) (Below.refl w.heap.size w5).drew)).trans (Nm.of_mid (base := w.heap.size) M6 (by simp; omega))
    have E6 : Hid ((t6 = false ∧ t5 = false ∧ q5 + u2 ≤ n ∧ k = u2 ∧ q6 = q5 + u2) ∨ (t6 = true ∧ k ≤ n ∧ (t5 = true ∨ ¬ q5 + u2 ≤ n))) := D6
    clear D6 hcall V5 N5 M6 B5 r5 cv
    go_wp2_with fail
    refine (agg_u f B bb bo n cap q6 t6 u5 (by omega) w6 B6 r6 (by omega) hne hn hcap hq6).mono ?_
    rintro e w7 ⟨x, A2, c2, q7, t7, rfl, hq7, B7, M7, D7⟩
    have V7 := V6.nm M7 (by omega) (Ne.symm hwB)
    have s7 := M7.size
    have N7 : Nm w.heap.size B w w7 := N6.trans ⟨M7.os, M7.tape, M7.output, M7.size, fun j h1 h2 => M7.block j (by omega) h2⟩
    have HE := ent_end hr.bd hule E1.out E2.out E3.out E4.out E5.out E6.out D7
    rw [hK] at HE
    obtain ⟨W, hW, x0, x1, x2, x3, x4, x5, x6, x7, x8, O⟩ := V7.all (.string (ah.extract 0 u1 ++ K)) (.int .i64 (u3 : Int)) (.int .i64 u4) (.int .i64 x.c) (.int .i64 x.s) (.int .i64 x.lo) (.int .i64 x.hi) (.slice A2 x.n c2) (.bool x.fu)
    have BW := B7.others O hwB
    have NW := N7.trans (Nm.of_others O (.inr (Nat.le_refl _)))
    have HF : Hid (EntR f B bb bo n cap q t ah w (.returned (.agg #[.string (ah.extract 0 u1 ++ K), .int .i64 (u3 : Int), .int .i64 u4, .int .i64 x.c, .int .i64 x.s, .int .i64 x.lo, .int .i64 x.hi, .slice A2 x.n c2, .bool x.fu])) W) := by
      refine ⟨⟨ah.extract 0 u1 ++ K, u3, u4, x.c, x.s, x.lo, x.hi, x.n, x.f, x.fu⟩, A2, c2, q7, t7, rfl, hq7, BW, NW, ?_⟩
      rcases HE with ⟨h1, h2, h3, h4⟩ | h
      · refine .inl ⟨h1, h2, h3, ?_⟩
        rcases h4 with ⟨g1, g2⟩ | ⟨g1, G, g2, g3, g4⟩
        · exact .inl ⟨g1, g2⟩
        · exact .inr ⟨g1, G, g2, by omega, O.irow g4 (by omega)⟩
      · exact .inr h
    have v0 := V7.cell 0 (by decide)
    have v1 := V7.cell 1 (by decide)
    have v2 := V7.cell 2 (by decide)
    have v3 := V7.cell 3 (by decide)
    have v4 := V7.cell 4 (by decide)
    have v5 := V7.cell 5 (by decide)
    have v6 := V7.cell 6 (by decide)
    have v7 := V7.cell 7 (by decide)
    have v8 := V7.cell 8 (by decide)
    have vz := V7.fz
    clear HE D7 E1 E2 E3 E4 E5 E6 V6 V7 N6 N7 M7 B6 B7 r6 BW NW
    go_wp2
    exact bodyPost_ret (by simp [results, Tryz.results112, go_sem, x0, x1, x2, x3, x4, x5, x6, x7, x8]) rfl HF.out
end Go.Proofs.YtohjjigkfdhklaaGreat
