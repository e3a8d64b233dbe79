/- An entry comes back from its bytes, in the program's reading. / The reader's steps in one form: what is answered, the place, torn or not. / The reader's agg in one form; the reader's entry. / Entries one behind the other: what a reading of k entries is; a table's blocks come back. / The bytes of good entries tell the entries. / Entries that the call itself gathers; their lists lie where they lie, apart from the list of entries. / What the loop of readEntries wants: a reading that stops, and an entry put behind whatever it is. / The program's readEntries. -/
import Derived.Test.YtohjjigkfdhklaaGreatFixR
import Derived.Test.YtohjjigkfdhklaaGreatBp
import Derived.Deep.RegionWith
import Derived.Test.YtohjjigkfdhklaaGreatOe
namespace Go.Proofs.YtohjjigkfdhklaaGreat
set_option maxRecDepth 100000
open Go.RowKit
set_option linter.unusedSimpArgs false
set_option linter.unusedVariables false

/-- The agg of an entry as it is read out of m bytes at place q. -/
def AgE (f : Nat → Int) (n q m : Nat) (x : Ent) : Prop :=
  (m = 0 ∧ x.c = 0 ∧ x.s = 0 ∧ x.lo = 0 ∧ x.hi = 0 ∧ x.n = 0 ∧ x.fu = false) ∨
  (0 < m ∧ ∃ N, AgY f n q m N ∧ x.c = fi N 0 ∧ x.s = fi N 1 ∧ x.lo = fi N 2 ∧ x.hi = fi N 3 ∧ x.n = 8 ∧ (∀ i, i < 8 → x.f i = fi N (i + 4)) ∧ x.fu = (f q == 1))
/-- The entry x is read at place q behind the key ah, and q' is the place behind it. -/
def EY (f : Nat → Int) (n q : Nat) (ah : ByteArray) (x : Ent) (q' : Nat) : Prop :=
  ∃ (sh rs mn : Int) (q1 q2 q3 q5 : Nat), rdNum f n q = some (sh, q1) ∧ rdNum f n q1 = some (rs, q2) ∧ rdNum f n q2 = some (x.seq, q3) ∧ q3 + 1 ≤ n ∧ x.kind = f q3 ∧ rdNum f n (q3 + 1) = some (mn, q5) ∧
    sh ≤ ah.size ∧ q5 + rs.toNat ≤ n ∧ bytesOf x.key = (bytesOf ah).take sh.toNat ++ (List.range rs.toNat).map (fun i => f (q5 + i)) ∧ AgE f n (q5 + rs.toNat) mn.toNat x ∧ q' = q5 + rs.toNat + mn.toNat

theorem seg_list {f : Nat → Int} {q : Nat} {L : List Int} (h : Seg f q L) : (List.range L.length).map (fun i => f (q + i)) = L := by
  refine List.ext_getElem (by simp) fun i h1 h2 => ?_
  simp only [List.getElem_map, List.getElem_range]
  rw [h i h2]
  simp [fl, h2]
theorem ey_enE {f : Nat → Int} {n q : Nat} {ah : ByteArray} {x : Ent} (hg : GoodE x) (hs : Seg f q (enE ah x)) (hn : q + (enE ah x).length ≤ n) : EY f n q ah x (q + (enE ah x).length) := by
  have hsh := shK_le ah x
  have hkey : x.key.size ≤ 140 := by have := hg.1; unfold KeyOk at this; omega
  have haL := agL_len x
  have hseq := hg.2.1
  unfold enE at hs hn ⊢
  generalize hL1 : pvL ((shK ah x : Nat) : Int) = L1 at *
  generalize hL2 : pvL ((x.key.size - shK ah x : Nat) : Int) = L2 at *
  generalize hL3 : pvL x.seq = L3 at *
  generalize hL5 : pvL ((agL x).length : Nat) = L5 at *
  have hd : ((bytesOf x.key).drop (shK ah x)).length = x.key.size - shK ah x := by rw [List.length_drop, bytesOf_len]
  simp only [List.length_append, List.length_singleton, hd] at hn ⊢
  have s7 := hs.right
  have s6 := hs.left.right
  have s5 := hs.left.left.right
  have s4 := hs.left.left.left.right
  have s3 := hs.left.left.left.left.right
  have s2 := hs.left.left.left.left.left.right
  have s1 := hs.left.left.left.left.left.left
  simp only [List.length_append, List.length_singleton, hd] at s7 s6 s5 s4 s3 s2 s1
  rw [← hL1] at s1
  rw [← hL2] at s2
  rw [← hL3] at s3
  rw [← hL5] at s5
  have n1 := rdNum_pvL (n := n) (u := ((shK ah x : Nat) : Int)) (by omega) s1 (by rw [hL1]; omega)
  have n2 := rdNum_pvL (n := n) (u := ((x.key.size - shK ah x : Nat) : Int)) (by omega) s2 (by rw [hL2]; omega)
  have n3 := rdNum_pvL (n := n) (u := x.seq) (by omega) s3 (by rw [hL3]; omega)
  have n5 := rdNum_pvL (n := n) (u := (((agL x).length : Nat) : Int)) (by omega) s5 (by rw [hL5]; omega)
  rw [hL1] at n1
  rw [hL2] at n2
  rw [hL3] at n3
  rw [hL5] at n5
  have h4 := s4 0 (by simp)
  simp only [fl, Nat.add_zero] at h4
  refine ⟨((shK ah x : Nat) : Int), ((x.key.size - shK ah x : Nat) : Int), (((agL x).length : Nat) : Int), q + L1.length, q + (L1.length + L2.length), q + (L1.length + L2.length + L3.length), q + (L1.length + L2.length + L3.length + 1 + L5.length), n1, ?_, ?_, by omega, ?_, ?_, by omega, ?_, ?_, ?_, ?_⟩
  · rw [n2, Nat.add_assoc]
  · rw [n3, Nat.add_assoc q]
  · rw [h4]; simp
  · rw [Nat.add_assoc q _ 1, n5, Nat.add_assoc q]
  · rw [Int.toNat_natCast]; omega
  · rw [Int.toNat_natCast, Int.toNat_natCast]
    have e := seg_list s6
    rw [hd] at e
    rw [e, show (bytesOf ah).take (shK ah x) = (bytesOf x.key).take (shK ah x) from shr_take _ _, List.take_append_drop]
  · rw [Int.toNat_natCast, Int.toNat_natCast]
    rw [show q + (L1.length + L2.length + L3.length + 1 + L5.length + (x.key.size - shK ah x)) = q + (L1.length + L2.length + L3.length + 1 + L5.length) + (x.key.size - shK ah x) from by omega] at s7
    rcases hg.agg with ⟨hk, hA⟩ | ⟨hk, _⟩
    · have ea : agL x = bl x.fu (nm x.c x.s x.lo x.hi x.f) 12 := by unfold agL; rw [if_neg hk]
      have h8 : x.n = 8 := hA.2.1
      have hl := bl_len x.fu (nm x.c x.s x.lo x.hi x.f) 12
      rw [h8] at hA
      rw [ea] at s7 hn ⊢
      have hR := rag_bl hA s7.shift rfl
      have hf : ∀ i, i < 12 → fi ((List.range 12).map (nm x.c x.s x.lo x.hi x.f)) i = nm x.c x.s x.lo x.hi x.f i := fun i hi => by simp [fi, hi]
      refine .inr ⟨by omega, _, ⟨by omega, hR⟩, ?_, ?_, ?_, ?_, h8, fun i hi => ?_, ?_⟩
      · rw [hf 0 (by omega)]; rfl
      · rw [hf 1 (by omega)]; rfl
      · rw [hf 2 (by omega)]; rfl
      · rw [hf 3 (by omega)]; rfl
      · rw [hf (i + 4) (by omega)]
        unfold nm
        rw [if_neg (by omega), if_neg (by omega), if_neg (by omega), if_neg (by omega)]
        congr 1
      · have h0 := s7 0 (by omega)
        rw [bl_byt0, Nat.add_zero] at h0
        rw [h0]
        cases x.fu <;> simp
    · have ea : agL x = [] := by unfold agL; rw [if_pos hk]
      obtain ⟨_, _, h | h⟩ := hg
      · omega
      · obtain ⟨_, z1, z2, z3, z4, z5, z6⟩ := h
        exact .inl ⟨by rw [ea]; rfl, z1, z2, z3, z4, z5, z6⟩
  · rw [Int.toNat_natCast, Int.toNat_natCast]; omega
end Go.Proofs.YtohjjigkfdhklaaGreat
namespace Go.Proofs.YtohjjigkfdhklaaGreat
set_option maxRecDepth 100000
open Go.RowKit
set_option linter.unusedSimpArgs false
set_option linter.unusedVariables false

/-- What number leaves, torn ahead or not. -/
def NumU (f : Nat → Int) (B bb bo n cap q : Nat) (t : Bool) (w : World) (e : Ending) (w' : World) : Prop :=
  ∃ (u q' : Nat) (t' : Bool), e = .returned (.int .i64 (u : Int)) ∧ (u : Int) ≤ 9223372036854775807 ∧ q' ≤ n ∧ BR w' B (some ⟨bb, bo, none⟩) n cap q' t' ∧ Mid B (B + 1) w w' ∧
    ((t' = false ∧ t = false ∧ rdNum f n q = some ((u : Int), q')) ∨ (t' = true ∧ (t = true ∨ rdNum f n q = none)))
theorem number_u (f : Nat → Int) (B bb bo n cap q : Nat) (t : Bool) (w : World) (hB : BR w B (some ⟨bb, bo, none⟩) n cap q t) (hr : Row w (some ⟨bb, bo, none⟩) n f) (hn : n ≤ 1048576) (hcap : n ≤ cap) (hq : q ≤ n) :
    Calls Tryz.prog 127 #[.pointer (some ⟨B, 0, none⟩)] w fun e w' => NumU f B bb bo n cap q t w e w' := by
  refine (number_any f B _ n cap q t w hB hr hn hcap).mono ?_
  rintro e w' ⟨⟨u, q', h, rfl, hB'⟩ | ⟨h, rfl, hB'⟩, M⟩
  · obtain ⟨h1, h2, h3, h4⟩ := rdNum_pos h
    obtain ⟨u, rfl⟩ := Int.eq_ofNat_of_zero_le h3
    refine ⟨u, q', t, rfl, h4, h2, hB', M, ?_⟩
    cases t
    · exact .inl ⟨rfl, rfl, h⟩
    · exact .inr ⟨rfl, .inl rfl⟩
  · exact ⟨0, q, true, rfl, by decide, hq, hB', M, .inr ⟨rfl, .inr h⟩⟩

/-- What kind leaves, torn ahead or not. -/
def KinU (f : Nat → Int) (B bb bo n cap q : Nat) (t : Bool) (w : World) (e : Ending) (w' : World) : Prop :=
  ∃ (u : Int) (q' : Nat) (t' : Bool), e = .returned (.int .i64 u) ∧ q' ≤ n ∧ BR w' B (some ⟨bb, bo, none⟩) n cap q' t' ∧ Mid B (B + 1) w w' ∧
    ((t' = false ∧ t = false ∧ q + 1 ≤ n ∧ u = f q ∧ q' = q + 1) ∨ (t' = true ∧ (t = true ∨ ¬ q + 1 ≤ n)))
theorem kind_u (f : Nat → Int) (B bb bo n cap q : Nat) (t : Bool) (w : World) (hB : BR w B (some ⟨bb, bo, none⟩) n cap q t) (hr : Row w (some ⟨bb, bo, none⟩) n f) (hne : bb ≠ B) (hn : n ≤ 1048576) (hcap : n ≤ cap) (hq : q ≤ n) :
    Calls Tryz.prog 128 #[.pointer (some ⟨B, 0, none⟩)] w fun e w' => KinU f B bb bo n cap q t w e w' := by
  refine (kind_any f B bb bo n cap q t w hB hr hne hn hcap hq).mono ?_
  rintro e w' ⟨⟨h1, rfl, rfl, hB'⟩ | ⟨h, rfl, q', hq', hB'⟩, M⟩
  · exact ⟨f q, q + 1, false, rfl, h1, hB', M, .inl ⟨rfl, rfl, h1, rfl, rfl⟩⟩
  · refine ⟨0, q', true, rfl, hq', hB', M, .inr ⟨rfl, ?_⟩⟩
    cases t
    · exact .inr fun h1 => h ⟨h1, rfl⟩
    · exact .inl rfl

/-- The numbers of m bytes at place q. -/
def segL (f : Nat → Int) (q m : Nat) : List Int := (List.range m).map fun i => f (q + i)
theorem segL_len (f : Nat → Int) (q m : Nat) : (segL f q m).length = m := by simp [segL]
/-- What take leaves, torn ahead or not: k bytes, all that were asked for if it isn't torn. -/
def TakU (f : Nat → Int) (B bb bo n cap q : Nat) (t : Bool) (m : Nat) (w : World) (e : Ending) (w' : World) : Prop :=
  ∃ (A : Option Addr) (k c q' : Nat) (t' : Bool), e = .returned (.slice A k c) ∧ Row w' A (segL f q k).length (fl (segL f q k)) ∧ q' ≤ n ∧ BR w' B (some ⟨bb, bo, none⟩) n cap q' t' ∧ Mid B (B + 1) w w' ∧
    ((t' = false ∧ t = false ∧ q + m ≤ n ∧ k = m ∧ q' = q + m) ∨ (t' = true ∧ k ≤ n ∧ (t = true ∨ ¬ q + m ≤ n)))
theorem take_u (f : Nat → Int) (B bb bo n cap q : Nat) (t : Bool) (m : Nat) (hm : m ≤ 9223372036854775807) (w : World) (hB : BR w B (some ⟨bb, bo, none⟩) n cap q t) (hr : Row w (some ⟨bb, bo, none⟩) n f) (hne : bb ≠ B) (hn : n ≤ 1048576) (hcap : n ≤ cap) (hq : q ≤ n) :
    Calls Tryz.prog 129 #[.pointer (some ⟨B, 0, none⟩), .int .i64 (m : Nat)] w fun e w' => TakU f B bb bo n cap q t m w e w' := by
  refine (take_any f B bb bo n cap q t m hm w hB hn hcap hq).mono ?_
  have hfl : ∀ k i, i < k → fl (segL f q k) i = f (q + i) := fun k i hi => by simp [fl, segL, hi]
  have hbd : ∀ k i, 0 ≤ fl (segL f q k) i ∧ fl (segL f q k) i ≤ 255 := fun k i => by
    rcases Nat.lt_or_ge i k with h | h
    · rw [hfl k i h]; exact hr.bd _
    · have : fl (segL f q k) i = 0 := by simp [fl, segL, Nat.not_lt.mpr h]
      omega
  rintro e w' ⟨⟨h1, A, c, rfl, hc, hA, _, hB'⟩ | ⟨h1, rfl, hB'⟩, M⟩
  · refine ⟨A, m, c, q + m, t, rfl, ⟨hbd m, ?_⟩, h1, hB', M, ?_⟩
    · rw [segL_len]
      rcases Nat.eq_zero_or_pos m with rfl | hp
      · exact .inl rfl
      · obtain rfl := hA.resolve_right (by omega)
        have hr1 := M.row hr (fun b o e _ => by injection e with e; injection e with e1 e2; omega)
        obtain ⟨b', o', e, hlt, hcc⟩ := hr1.lies.resolve_left (by omega)
        injection e with e
        injection e with e1 e2 _
        subst e1 e2
        exact .inr ⟨bb, bo + q, rfl, hlt, fun i hi => by rw [hfl m i hi, Nat.add_assoc]; exact hcc (q + i) (by omega)⟩
    · cases t
      · exact .inl ⟨rfl, rfl, h1, rfl, rfl⟩
      · exact .inr ⟨rfl, by omega, .inl rfl⟩
  · exact ⟨none, 0, 0, q, true, rfl, ⟨hbd 0, .inl (segL_len f q 0)⟩, hq, hB', M, .inr ⟨rfl, by omega, .inr h1⟩⟩

theorem conv_row (w : World) (ao : Option Addr) (c : Nat) (L : List Int) (hr : Row w ao L.length (fl L)) : (convert 22 9 (.slice ao L.length c)).run Tryz.prog w = .ok (.string (strOfNums L)) w := by
  by_cases h0 : L.length = 0
  · have e : L = [] := List.eq_nil_of_length_eq_zero h0
    subst e
    cases ao with
    | none => exact run_convert_bytes_nil (P := Tryz.prog) w 22 5 Tryz.underlying22 Tryz.underlying5 0 c 9 Tryz.underlying9
    | some p =>
      show (convert 22 9 (.slice (some p) 0 c)).run Tryz.prog w = .ok (.string (strOfNums [])) w
      rw [run_convert_bytes_string w 22 9 5 (some p) 0 c Tryz.underlying22 Tryz.underlying5 Tryz.underlying9, run_bytesToString w p 0 c [] (by simp [loadCells, loadCellsFrom])]
      rfl
  · obtain ⟨b, off, rfl, hlt, hc⟩ := hr.lies.resolve_left h0
    exact run_convert_bytes_arg (P := Tryz.prog) w 22 5 Tryz.underlying22 Tryz.underlying5 b off L.length c L rfl (fun i hi => hc i hi) 9 Tryz.underlying9
end Go.Proofs.YtohjjigkfdhklaaGreat
namespace Go.Proofs.YtohjjigkfdhklaaGreat
set_option maxRecDepth 100000
open Go.RowKit
set_option linter.unusedSimpArgs false
set_option linter.unusedVariables false

/-- The boxes of an entry's agg lie at A, a row of the call's own. -/
def OwnA (w w' : World) (A : Option Addr) (x : Ent) : Prop := (x.n = 0 ∧ A = none) ∨ (x.n = 8 ∧ ∃ G, A = some ⟨G, 0, none⟩ ∧ w.heap.size ≤ G ∧ IOwn w' G 0 8 x.f)
/-- What agg leaves, torn ahead or not. -/
def AggU (f : Nat → Int) (B bb bo n cap q : Nat) (t : Bool) (m : Nat) (w : World) (e : Ending) (w' : World) : Prop :=
  ∃ (x : Ent) (A : Option Addr) (c q' : Nat) (t' : Bool), e = .returned (.agg #[.int .i64 x.c, .int .i64 x.s, .int .i64 x.lo, .int .i64 x.hi, .slice A x.n c, .bool x.fu]) ∧ q' ≤ n ∧ BR w' B (some ⟨bb, bo, none⟩) n cap q' t' ∧ Nm w.heap.size B w w' ∧
    ((t' = false ∧ t = false ∧ AgE f n q m x ∧ OwnA w w' A x ∧ q' = q + m) ∨ (t' = true ∧ (t = true ∨ ∀ x, ¬ AgE f n q m x)))
theorem agg_u (f : Nat → Int) (B bb bo n cap q : Nat) (t : Bool) (m : Nat) (hm : m ≤ 9223372036854775807) (w : World) (hB : BR w B (some ⟨bb, bo, none⟩) n cap q t) (hr : Row w (some ⟨bb, bo, none⟩) n f) (hbb : bb < w.heap.size) (hne : bb ≠ B) (hn : n ≤ 1048576) (hcap : n ≤ cap) (hq : q ≤ n) :
    Calls Tryz.prog 130 #[.pointer (some ⟨B, 0, none⟩), .int .i64 (m : Nat)] w fun e w' => AggU f B bb bo n cap q t m w e w' := by
  refine (agg_any f B bb bo n cap q t m hm w hB hr hbb hne hn hcap hq).mono ?_
  rintro e w' ⟨⟨rfl, rfl, hB'⟩ | ⟨h0, N, G, c, hY, rfl, hG, oG, hB'⟩ | ⟨h0, hno, ⟨G, c, rfl⟩, q', hq', hB'⟩, M⟩
  · refine ⟨⟨⟨#[]⟩, 0, 0, 0, 0, 0, 0, 0, fun _ => 0, false⟩, none, 0, q, t, rfl, hq, hB', M, ?_⟩
    cases t
    · exact .inl ⟨rfl, rfl, .inl ⟨rfl, rfl, rfl, rfl, rfl, rfl, rfl⟩, .inl ⟨rfl, rfl⟩, rfl⟩
    · exact .inr ⟨rfl, .inl rfl⟩
  · refine ⟨⟨⟨#[]⟩, 0, 0, fi N 0, fi N 1, fi N 2, fi N 3, 8, fun i => fi N (i + 4), f q == 1⟩, some ⟨G, 0, none⟩, c, q + m, t, rfl, hY.1, hB', M, ?_⟩
    cases t
    · exact .inl ⟨rfl, rfl, .inr ⟨h0, N, hY, rfl, rfl, rfl, rfl, rfl, fun i _ => rfl, rfl⟩, .inr ⟨rfl, G, rfl, hG, oG⟩, rfl⟩
    · exact .inr ⟨rfl, .inl rfl⟩
  · refine ⟨⟨⟨#[]⟩, 0, 0, 0, 0, 0, 0, 8, fun _ => 0, false⟩, some ⟨G, 0, none⟩, c, q', true, rfl, hq', hB', M, .inr ⟨rfl, .inr ?_⟩⟩
    rintro x (h | ⟨_, N, h, _⟩)
    · omega
    · exact hno N h

/-- What entry leaves. -/
def EntR (f : Nat → Int) (B bb bo n cap q : Nat) (t : Bool) (ah : ByteArray) (w : World) (e : Ending) (w' : World) : Prop :=
  ∃ (x : Ent) (A : Option Addr) (c q' : Nat) (t' : Bool), e = .returned (.agg #[.string x.key, .int .i64 x.seq, .int .i64 x.kind, .int .i64 x.c, .int .i64 x.s, .int .i64 x.lo, .int .i64 x.hi, .slice A x.n c, .bool x.fu]) ∧ q' ≤ n ∧ BR w' B (some ⟨bb, bo, none⟩) n cap q' t' ∧ Nm w.heap.size B w w' ∧
    ((t' = false ∧ t = false ∧ EY f n q ah x q' ∧ OwnA w w' A x) ∨ (t' = true ∧ (t = true ∨ ∀ x q'', ¬ EY f n q ah x q'')))

theorem bytesOf_append (a b : ByteArray) : bytesOf (a ++ b) = bytesOf a ++ bytesOf b := by simp [bytesOf, ByteArray.data_append]
theorem bytesOf_front (s : ByteArray) (k : Nat) : bytesOf (s.extract 0 k) = (bytesOf s).take k := by simp [bytesOf, ByteArray.data_extract, List.map_take]
theorem bytesOf_nums (L : List Int) (h : ∀ z, z ∈ L → 0 ≤ z ∧ z ≤ 255) : bytesOf (strOfNums L) = L := by
  unfold bytesOf
  rw [strOfNums_data, List.map_map]
  conv => rhs; rw [← List.map_id L]
  refine List.map_congr_left fun z hz => ?_
  have := h z hz
  simp only [Function.comp_apply, id_eq, UInt8.toNat_ofNat']
  omega
/-- The steps of an entry put together. -/
theorem ent_end {f : Nat → Int} {n q q1 q2 q3 q4 q5 q6 q7 u1 u2 u3 u5 k : Nat} {u4 : Int} {t t1 t2 t3 t4 t5 t6 t7 : Bool} {ah : ByteArray} {x : Ent} {O : Prop} (hf : ∀ i, 0 ≤ f i ∧ f i ≤ 255) (hle : u1 ≤ ah.size)
    (D1 : (t1 = false ∧ t = false ∧ rdNum f n q = some ((u1 : Int), q1)) ∨ (t1 = true ∧ (t = true ∨ rdNum f n q = none)))
    (D2 : (t2 = false ∧ t1 = false ∧ rdNum f n q1 = some ((u2 : Int), q2)) ∨ (t2 = true ∧ (t1 = true ∨ rdNum f n q1 = none)))
    (D3 : (t3 = false ∧ t2 = false ∧ rdNum f n q2 = some ((u3 : Int), q3)) ∨ (t3 = true ∧ (t2 = true ∨ rdNum f n q2 = none)))
    (D4 : (t4 = false ∧ t3 = false ∧ q3 + 1 ≤ n ∧ u4 = f q3 ∧ q4 = q3 + 1) ∨ (t4 = true ∧ (t3 = true ∨ ¬ q3 + 1 ≤ n)))
    (D5 : (t5 = false ∧ t4 = false ∧ rdNum f n q4 = some ((u5 : Int), q5)) ∨ (t5 = true ∧ (t4 = true ∨ rdNum f n q4 = none)))
    (D6 : (t6 = false ∧ t5 = false ∧ q5 + u2 ≤ n ∧ k = u2 ∧ q6 = q5 + u2) ∨ (t6 = true ∧ k ≤ n ∧ (t5 = true ∨ ¬ q5 + u2 ≤ n)))
    (D7 : (t7 = false ∧ t6 = false ∧ AgE f n q6 u5 x ∧ O ∧ q7 = q6 + u5) ∨ (t7 = true ∧ (t6 = true ∨ ∀ x, ¬ AgE f n q6 u5 x))) :
    (t7 = false ∧ t = false ∧ EY f n q ah ⟨ah.extract 0 u1 ++ strOfNums (segL f q5 k), u3, u4, x.c, x.s, x.lo, x.hi, x.n, x.f, x.fu⟩ q7 ∧ O) ∨ (t7 = true ∧ (t = true ∨ ∀ x q'', ¬ EY f n q ah x q'')) := by
  rcases D7 with ⟨rfl, rfl, hA, hO, rfl⟩ | ⟨rfl, h7⟩
  · obtain ⟨rfl, h6, rfl, rfl⟩ : t5 = false ∧ q5 + u2 ≤ n ∧ k = u2 ∧ q6 = q5 + u2 := by
      rcases D6 with ⟨_, h⟩ | ⟨h, _⟩
      · exact h
      · cases h
    obtain ⟨rfl, h5⟩ : t4 = false ∧ rdNum f n q4 = some ((u5 : Int), q5) := by
      rcases D5 with ⟨_, h⟩ | ⟨h, _⟩
      · exact h
      · cases h
    obtain ⟨rfl, h4, rfl, rfl⟩ : t3 = false ∧ q3 + 1 ≤ n ∧ u4 = f q3 ∧ q4 = q3 + 1 := by
      rcases D4 with ⟨_, h⟩ | ⟨h, _⟩
      · exact h
      · cases h
    obtain ⟨rfl, h3⟩ : t2 = false ∧ rdNum f n q2 = some ((u3 : Int), q3) := by
      rcases D3 with ⟨_, h⟩ | ⟨h, _⟩
      · exact h
      · cases h
    obtain ⟨rfl, h2⟩ : t1 = false ∧ rdNum f n q1 = some ((k : Int), q2) := by
      rcases D2 with ⟨_, h⟩ | ⟨h, _⟩
      · exact h
      · cases h
    obtain ⟨rfl, h1⟩ : t = false ∧ rdNum f n q = some ((u1 : Int), q1) := by
      rcases D1 with ⟨_, h⟩ | ⟨h, _⟩
      · exact h
      · cases h
    refine .inl ⟨rfl, rfl, ⟨u1, k, u5, q1, q2, q3, q5, h1, h2, h3, h4, rfl, h5, by omega, by rw [Int.toNat_natCast]; exact h6, ?_, ?_, ?_⟩, hO⟩
    · show bytesOf (ah.extract 0 u1 ++ strOfNums (segL f q5 k)) = _
      rw [bytesOf_append, bytesOf_front, bytesOf_nums _ (fun z hz => by simp only [segL, List.mem_map] at hz; obtain ⟨i, _, rfl⟩ := hz; exact hf _), Int.toNat_natCast, Int.toNat_natCast]
      rfl
    · rw [Int.toNat_natCast, Int.toNat_natCast]; exact hA
    · rw [Int.toNat_natCast, Int.toNat_natCast]
  · refine .inr ⟨rfl, ?_⟩
    cases t
    · refine .inr ?_
      rintro y q'' ⟨sh, rs, mn, p1, p2, p3, p5, e1, e2, e3, e4, e5, e6, e7, e8, e9, e10, e11⟩
      rcases D1 with ⟨rfl, _, h1⟩ | ⟨_, h1 | h1⟩
      · rw [h1] at e1
        simp only [Option.some.injEq, Prod.mk.injEq] at e1
        obtain ⟨rfl, rfl⟩ := e1
        rcases D2 with ⟨rfl, _, h2⟩ | ⟨_, h2 | h2⟩
        · rw [h2] at e2
          simp only [Option.some.injEq, Prod.mk.injEq] at e2
          obtain ⟨rfl, rfl⟩ := e2
          rcases D3 with ⟨rfl, _, h3⟩ | ⟨_, h3 | h3⟩
          · rw [h3] at e3
            simp only [Option.some.injEq, Prod.mk.injEq] at e3
            obtain ⟨e30, rfl⟩ := e3
            rcases D4 with ⟨rfl, _, h4, _, rfl⟩ | ⟨_, h4 | h4⟩
            · rcases D5 with ⟨rfl, _, h5⟩ | ⟨_, h5 | h5⟩
              · rw [h5] at e6
                simp only [Option.some.injEq, Prod.mk.injEq] at e6
                obtain ⟨rfl, rfl⟩ := e6
                rw [Int.toNat_natCast] at e8 e10
                rw [Int.toNat_natCast] at e10
                rcases D6 with ⟨rfl, _, h6, _, rfl⟩ | ⟨_, _, h6 | h6⟩
                · rcases h7 with h7 | h7
                  · cases h7
                  · exact h7 _ e10
                · cases h6
                · exact h6 e8
              · cases h5
              · rw [h5] at e6; cases e6
            · cases h4
            · exact h4 e4
          · cases h3
          · rw [h3] at e3; cases e3
        · cases h2
        · rw [h2] at e2; cases e2
      · cases h1
      · rw [h1] at e1; cases e1
    · exact .inl rfl
/-- A box of nine cells. -/
structure V9 (w : World) (D : Nat) (v : Nat → Value) : Prop where
  lt : D < w.heap.size
  cell : ∀ j, j < 9 → w.cell? ⟨D, j, none⟩ = some (v j)
  fz : ∀ j, w.frozen? ⟨D, j, none⟩ = false
section
variable {w w' : World} {D : Nat} {v : Nat → Value}
theorem V9.keep (h : V9 w D v) (hb : Below w.heap.size w w') : V9 w' D v :=
  ⟨Nat.lt_of_lt_of_le h.lt hb.size, fun j hj => (hb.cell (p := ⟨D, j, none⟩) h.lt).trans (h.cell j hj), fun j => (hb.frozen (p := ⟨D, j, none⟩) h.lt).trans (h.fz j)⟩
theorem V9.mid {B U : Nat} (h : V9 w D v) (hm : Mid B U w w') (hne : D < B ∨ U ≤ D) : V9 w' D v :=
  ⟨Nat.lt_of_lt_of_le h.lt hm.size, fun j hj => (hm.cell h.lt hne).trans (h.cell j hj), fun j => (hm.frozen h.lt hne).trans (h.fz j)⟩
theorem V9.nm {base B : Nat} (h : V9 w D v) (hm : Nm base B w w') (h1 : D < base) (h2 : D ≠ B) : V9 w' D v :=
  ⟨Nat.lt_of_lt_of_le h.lt hm.size, fun j hj => (World.cell?_of_block (w := w) (a := ⟨D, j, none⟩) (hm.block D h1 h2)).trans (h.cell j hj), fun j => (World.frozen?_of_block (w := w) (a := ⟨D, j, none⟩) (hm.block D h1 h2)).trans (h.fz j)⟩
theorem V9.set (h : V9 w D v) (j : Nat) (hj : j < 9) (x : Value) : V9 (w.setCell ⟨D, j, none⟩ x) D (fun i => if i = j then x else v i) := by
  refine ⟨by simpa using h.lt, fun i hi => ?_, fun i => by simpa using h.fz i⟩
  by_cases e : i = j
  · subst e
    rw [if_pos rfl]
    exact World.cell?_setCell_same _ _ _ (h.cell i hi)
  · rw [if_neg e]
    exact (World.cell?_setCell_other _ _ _ _ (adr_ne (Ne.symm e))).trans (h.cell i hi)
theorem V9.other (h : V9 w D v) {B j : Nat} (hne : B ≠ D) (x : Value) : V9 (w.setCell ⟨B, j, none⟩ x) D v :=
  ⟨by simpa using h.lt, fun i hi => (World.cell?_setCell_other _ _ _ _ (fun e => by injection e with e1; omega)).trans (h.cell i hi), fun i => by simpa using h.fz i⟩
end

theorem V9.all {w : World} {D : Nat} {v : Nat → Value} (h : V9 w D v) (a0 a1 a2 a3 a4 a5 a6 a7 a8 : Value) : ∃ W, (((((((((w.setCell ⟨D, 0, none⟩ a0).setCell ⟨D, 1, none⟩ a1).setCell ⟨D, 2, none⟩ a2).setCell ⟨D, 3, none⟩ a3).setCell ⟨D, 4, none⟩ a4).setCell ⟨D, 5, none⟩ a5).setCell ⟨D, 6, none⟩ a6).setCell ⟨D, 7, none⟩ a7).setCell ⟨D, 8, none⟩ a8) = W ∧ W.cell? ⟨D, 0, none⟩ = some a0 ∧ W.cell? ⟨D, 1, none⟩ = some a1 ∧ W.cell? ⟨D, 2, none⟩ = some a2 ∧ W.cell? ⟨D, 3, none⟩ = some a3 ∧ W.cell? ⟨D, 4, none⟩ = some a4 ∧ W.cell? ⟨D, 5, none⟩ = some a5 ∧ W.cell? ⟨D, 6, none⟩ = some a6 ∧ W.cell? ⟨D, 7, none⟩ = some a7 ∧ W.cell? ⟨D, 8, none⟩ = some a8 ∧ Others D w W := by
  have H := (((((((((h.set 0 (by decide) a0).set 1 (by decide) a1).set 2 (by decide) a2).set 3 (by decide) a3).set 4 (by decide) a4).set 5 (by decide) a5).set 6 (by decide) a6).set 7 (by decide) a7).set 8 (by decide) a8)
  exact ⟨_, rfl, H.cell 0 (by decide), H.cell 1 (by decide), H.cell 2 (by decide), H.cell 3 (by decide), H.cell 4 (by decide), H.cell 5 (by decide), H.cell 6 (by decide), H.cell 7 (by decide), H.cell 8 (by decide), (((((((((Others.setCell w D 0 a0).trans (Others.setCell _ D 1 a1)).trans (Others.setCell _ D 2 a2)).trans (Others.setCell _ D 3 a3)).trans (Others.setCell _ D 4 a4)).trans (Others.setCell _ D 5 a5)).trans (Others.setCell _ D 6 a6)).trans (Others.setCell _ D 7 a7)).trans (Others.setCell _ D 8 a8))⟩
theorem BR.others {w w' : World} {B D : Nat} {ao : Option Addr} {n cap q : Nat} {t : Bool} (h : BR w B ao n cap q t) (ho : Others D w w') (hne : B ≠ D) : BR w' B ao n cap q t :=
  have cl : ∀ j, w'.cell? ⟨B, j, none⟩ = w.cell? ⟨B, j, none⟩ := fun j => World.cell?_of_block (w := w) (a := ⟨B, j, none⟩) (ho.block B hne)
  ⟨by rw [ho.size]; exact h.lt, (cl _).trans h.c0, (cl _).trans h.c1, (cl _).trans h.c2, fun j => (World.frozen?_of_block (w := w) (a := ⟨B, j, none⟩) (ho.block B hne)).trans (h.fz j)⟩

set_option maxHeartbeats 3200000 in
theorem entry_any (f : Nat → Int) (B bb bo n cap q : Nat) (t : Bool) (ah : ByteArray) (hah : ah.size ≤ 4194304) (w : World) (hB : BR w B (some ⟨bb, bo, none⟩) n cap q t) (hr : Row w (some ⟨bb, bo, none⟩) n f) (hbb : bb < w.heap.size) (hne : bb ≠ B) (hn : n ≤ 1048576) (hcap : n ≤ cap) (hq : q ≤ n) :
    Calls Tryz.prog 112 #[.pointer (some ⟨B, 0, none⟩), .string ah] w fun e w' => EntR f B bb bo n cap q t ah w e w' := by
  have hBl := hB.lt
  have hB0 := below_new w (.cells #[.string ⟨#[]⟩, .int .i64 0, .int .i64 0, .int .i64 0, .int .i64 0, .int .i64 0, .int .i64 0, .slice none 0 0, .bool false] 35)
  have V0 : V9 (w.alloc (.cells #[.string ⟨#[]⟩, .int .i64 0, .int .i64 0, .int .i64 0, .int .i64 0, .int .i64 0, .int .i64 0, .slice none 0 0, .bool false] 35)) w.heap.size (fun j => (#[.string ⟨#[]⟩, .int .i64 0, .int .i64 0, .int .i64 0, .int .i64 0, .int .i64 0, .int .i64 0, .slice none 0 0, .bool false] : Array Value)[j]!) := by
    refine ⟨by simp, fun j hj => ?_, fun j => by simp [go_sem]⟩
    rcases j with _ | _ | _ | _ | _ | _ | _ | _ | _ | j <;> first | (exfalso; omega) | simp [go_sem]
  have B0 := hB.keep hB0
  have r0 := hr.keep hB0
  have N0 : Nm w.heap.size B w (w.alloc (.cells #[.string ⟨#[]⟩, .int .i64 0, .int .i64 0, .int .i64 0, .int .i64 0, .int .i64 0, .int .i64 0, .slice none 0 0, .bool false] 35)) := Nm.of_below hB0
  have s0 : w.heap.size < (w.alloc (.cells #[.string ⟨#[]⟩, .int .i64 0, .int .i64 0, .int .i64 0, .int .i64 0, .int .i64 0, .int .i64 0, .slice none 0 0, .bool false] 35)).heap.size := by simp
  obtain ⟨v0, V0⟩ : ∃ v0, V9 (w.alloc (.cells #[.string ⟨#[]⟩, .int .i64 0, .int .i64 0, .int .i64 0, .int .i64 0, .int .i64 0, .int .i64 0, .slice none 0 0, .bool false] 35)) w.heap.size v0 := ⟨_, V0⟩
  have hrow : ∀ {W W' : World}, Row W (some ⟨bb, bo, none⟩) n f → Mid B (B + 1) W W' → Row W' (some ⟨bb, bo, none⟩) n f := fun h M => M.row h (fun b o e _ => by injection e with e; injection e with e1 e2; omega)
  go_enter Tryz.func112, Tryz.ntmps112
  go_wp2_with fail
  generalize w.alloc (.cells #[.string ⟨#[]⟩, .int .i64 0, .int .i64 0, .int .i64 0, .int .i64 0, .int .i64 0, .int .i64 0, .slice none 0 0, .bool false] 35) = w0 at *
  refine (number_u f B bb bo n cap q t w0 B0 r0 hn hcap hq).mono ?_
  rintro e w1 ⟨u1, q1, t1, rfl, hu1, hq1, B1, M1, D1⟩
  have r1 := hrow r0 M1
  have V1 := V0.mid M1 (by omega)
  have N1 := N0.trans (Nm.of_mid (base := w.heap.size) M1 (by omega))
  have s1 := M1.size
  clear B0 r0 V0 M1 N0 hB0
  go_wp2_with fail
  refine (number_u f B bb bo n cap q1 t1 w1 B1 r1 hn hcap hq1).mono ?_
  rintro e w2 ⟨u2, q2, t2, rfl, hu2, hq2, B2, M2, D2⟩
  have r2 := hrow r1 M2
  have V2 := V1.mid M2 (by omega)
  have N2 := N1.trans (Nm.of_mid (base := w.heap.size) M2 (by omega))
  have s2 := M2.size
  clear B1 r1 V1 M2 N1
  go_wp2_with fail
  refine (number_u f B bb bo n cap q2 t2 w2 B2 r2 hn hcap hq2).mono ?_
  rintro e w3 ⟨u3, q3, t3, rfl, hu3, hq3, B3, M3, D3⟩
  have r3 := hrow r2 M3
  have V3 := V2.mid M3 (by omega)
  have N3 := N2.trans (Nm.of_mid (base := w.heap.size) M3 (by omega))
  have s3 := M3.size
  clear B2 r2 V2 M3 N2
  go_wp2_with fail
  refine (kind_u f B bb bo n cap q3 t3 w3 B3 r3 hne hn hcap hq3).mono ?_
  rintro e w4 ⟨u4, q4, t4, rfl, hq4, B4, M4, D4⟩
  have r4 := hrow r3 M4
  have V4 := V3.mid M4 (by omega)
  have N4 := N3.trans (Nm.of_mid (base := w.heap.size) M4 (by omega))
  have s4 := M4.size
  clear B3 r3 V3 M4 N3
  go_wp2_with fail
  refine (number_u f B bb bo n cap q4 t4 w4 B4 r4 hn hcap hq4).mono ?_
  rintro e w5 ⟨u5, q5, t5, rfl, hu5, hq5, B5, M5, D5⟩
  have r5 := hrow r4 M5
  have V5 := V4.mid M5 (by omega)
  have N5 := N4.trans (Nm.of_mid (base := w.heap.size) M5 (by omega))
  have s5 := M5.size
  clear B4 r4 V4 M5 N4
  have hwB : B ≠ w.heap.size := by omega
  by_cases hc : ah.size < u1
  · have hci : (ah.size : Int) < (u1 : Int) := by omega
    have B6 := B5.set2 true
    have V6 := V5.other (j := 2) hwB (.bool true)
    have N6 := N5.trans (Nm.of_others (Others.setCell w5 B 2 (.bool true)) (.inl rfl))
    obtain ⟨_, d0, d1, d2, dz⟩ := B5
    obtain ⟨W, hW, x0, x1, x2, x3, x4, x5, x6, x7, x8, O⟩ := V6.all (.string ⟨#[]⟩) (.int .i64 0) (.int .i64 0) (.int .i64 0) (.int .i64 0) (.int .i64 0) (.int .i64 0) (.slice none 0 0) (.bool false)
    have BW := B6.others O hwB
    have NW := N6.trans (Nm.of_others O (.inr (Nat.le_refl _)))
    have v0 := V6.cell 0 (by decide)
    have v1 := V6.cell 1 (by decide)
    have v2 := V6.cell 2 (by decide)
    have v3 := V6.cell 3 (by decide)
    have v4 := V6.cell 4 (by decide)
    have v5 := V6.cell 5 (by decide)
    have v6 := V6.cell 6 (by decide)
    have v7 := V6.cell 7 (by decide)
    have v8 := V6.cell 8 (by decide)
    have vz := V6.fz
    have HU : Hid (t = true ∨ ∀ x q'', ¬ EY f n q ah x q'') := by
      cases t
      · refine .inr ?_
        rintro x q'' ⟨sh, rs, mn, p1, p2, p3, p5, e1, e2, e3, e4, e5, e6, e7, e8⟩
        rcases D1 with ⟨_, _, h1⟩ | ⟨rfl, h1 | h1⟩
        · rw [h1] at e1
          simp only [Option.some.injEq, Prod.mk.injEq] at e1
          omega
        · cases h1
        · rw [h1] at e1; cases e1
      · exact .inl rfl
    clear D1 D2 D3 D4 D5 V5 V6 N5 N6 B6 r5
    go_wp2
    exact bodyPost_ret (v := .agg #[.string ⟨#[]⟩, .int .i64 0, .int .i64 0, .int .i64 0, .int .i64 0, .int .i64 0, .int .i64 0, .slice none 0 0, .bool false]) (by simp [results, Tryz.results112, go_sem, x0, x1, x2, x3, x4, x5, x6, x7, x8]) rfl ⟨⟨⟨#[]⟩, 0, 0, 0, 0, 0, 0, 0, fun _ => 0, false⟩, none, 0, q5, true, rfl, hq5, BW, NW, .inr ⟨rfl, HU.out⟩⟩
  · have hci : ¬ (ah.size : Int) < (u1 : Int) := by omega
    have hule : u1 ≤ ah.size := by omega
    have hu1s : u1 ≤ 4194304 := by omega
    have hexs : (ah.extract 0 u1).size ≤ 4194304 := by rw [ByteArray.size_extract]; omega
    obtain ⟨E1, E2, E3, E4, E5⟩ : Hid ((t1 = false ∧ t = false ∧ rdNum f n q = some ((u1 : Int), q1)) ∨ (t1 = true ∧ (t = true ∨ rdNum f n q = none))) ∧ Hid ((t2 = false ∧ t1 = false ∧ rdNum f n q1 = some ((u2 : Int), q2)) ∨ (t2 = true ∧ (t1 = true ∨ rdNum f n q1 = none))) ∧ Hid ((t3 = false ∧ t2 = false ∧ rdNum f n q2 = some ((u3 : Int), q3)) ∨ (t3 = true ∧ (t2 = true ∨ rdNum f n q2 = none))) ∧ Hid ((t4 = false ∧ t3 = false ∧ q3 + 1 ≤ n ∧ u4 = f q3 ∧ q4 = q3 + 1) ∨ (t4 = true ∧ (t3 = true ∨ ¬ q3 + 1 ≤ n))) ∧ Hid ((t5 = false ∧ t4 = false ∧ rdNum f n q4 = some ((u5 : Int), q5)) ∨ (t5 = true ∧ (t4 = true ∨ rdNum f n q4 = none))) := ⟨D1, D2, D3, D4, D5⟩
    clear D1 D2 D3 D4 D5
    go_wp2
    have hcall := fun W (h1 : BR W B (some ⟨bb, bo, none⟩) n cap q5 t5) (h2 : Row W (some ⟨bb, bo, none⟩) n f) => take_u f B bb bo n cap q5 t5 u2 (by omega) W h1 h2 hne hn hcap hq5
    go_region_with (first | (go_at_call 129; refine (hcall _ (B5.keep (Below.refl _ _).drew) (r5.keep (Below.refl _ _).drew)).mono ?_; rintro e w6 ⟨A, k, c, q6, t6, rfl, rA, hq6, B6, M6, D6⟩; have cv := conv_row w6 A c (segL f q5 k) rA; rw [segL_len] at cv; obtain ⟨K, hK⟩ : ∃ K, strOfNums (segL f q5 k) = K := ⟨_, rfl⟩; rw [hK] at cv; have hKs : K.size ≤ 1048576 := by (rw [← hK, strOfNums_size, segL_len]; omega)) | fail)
    have s6 := M6.size
    have s6' : w5.heap.size ≤ w6.heap.size := by simpa using s6
    have r6 := hrow (r5.keep (Below.refl _ _).drew) M6
    have V6 := (V5.keep (Below.refl _ _).drew).mid M6 (by omega)
    have N6 := (N5.trans (Nm.of_below (base := w.heap.size) (Below.refl w.heap.size w5).drew)).trans (Nm.of_mid (base := w.heap.size) M6 (by simp; omega))
    have E6 : Hid ((t6 = false ∧ t5 = false ∧ q5 + u2 ≤ n ∧ k = u2 ∧ q6 = q5 + u2) ∨ (t6 = true ∧ k ≤ n ∧ (t5 = true ∨ ¬ q5 + u2 ≤ n))) := D6
    clear D6 hcall V5 N5 M6 B5 r5 cv
    go_wp2_with fail
    refine (agg_u f B bb bo n cap q6 t6 u5 (by omega) w6 B6 r6 (by omega) hne hn hcap hq6).mono ?_
    rintro e w7 ⟨x, A2, c2, q7, t7, rfl, hq7, B7, M7, D7⟩
    have V7 := V6.nm M7 (by omega) (Ne.symm hwB)
    have s7 := M7.size
    have N7 : Nm w.heap.size B w w7 := N6.trans ⟨M7.os, M7.tape, M7.output, M7.size, fun j h1 h2 => M7.block j (by omega) h2⟩
    have HE := ent_end hr.bd hule E1.out E2.out E3.out E4.out E5.out E6.out D7
    rw [hK] at HE
    obtain ⟨W, hW, x0, x1, x2, x3, x4, x5, x6, x7, x8, O⟩ := V7.all (.string (ah.extract 0 u1 ++ K)) (.int .i64 (u3 : Int)) (.int .i64 u4) (.int .i64 x.c) (.int .i64 x.s) (.int .i64 x.lo) (.int .i64 x.hi) (.slice A2 x.n c2) (.bool x.fu)
    have BW := B7.others O hwB
    have NW := N7.trans (Nm.of_others O (.inr (Nat.le_refl _)))
    have HF : Hid (EntR f B bb bo n cap q t ah w (.returned (.agg #[.string (ah.extract 0 u1 ++ K), .int .i64 (u3 : Int), .int .i64 u4, .int .i64 x.c, .int .i64 x.s, .int .i64 x.lo, .int .i64 x.hi, .slice A2 x.n c2, .bool x.fu])) W) := by
      refine ⟨⟨ah.extract 0 u1 ++ K, u3, u4, x.c, x.s, x.lo, x.hi, x.n, x.f, x.fu⟩, A2, c2, q7, t7, rfl, hq7, BW, NW, ?_⟩
      rcases HE with ⟨h1, h2, h3, h4⟩ | h
      · refine .inl ⟨h1, h2, h3, ?_⟩
        rcases h4 with ⟨g1, g2⟩ | ⟨g1, G, g2, g3, g4⟩
        · exact .inl ⟨g1, g2⟩
        · exact .inr ⟨g1, G, g2, by omega, O.irow g4 (by omega)⟩
      · exact .inr h
    have v0 := V7.cell 0 (by decide)
    have v1 := V7.cell 1 (by decide)
    have v2 := V7.cell 2 (by decide)
    have v3 := V7.cell 3 (by decide)
    have v4 := V7.cell 4 (by decide)
    have v5 := V7.cell 5 (by decide)
    have v6 := V7.cell 6 (by decide)
    have v7 := V7.cell 7 (by decide)
    have v8 := V7.cell 8 (by decide)
    have vz := V7.fz
    clear HE D7 E1 E2 E3 E4 E5 E6 V6 V7 N6 N7 M7 B6 B7 r6 BW NW
    go_wp2
    exact bodyPost_ret (by simp [results, Tryz.results112, go_sem, x0, x1, x2, x3, x4, x5, x6, x7, x8]) rfl HF.out
end Go.Proofs.YtohjjigkfdhklaaGreat
namespace Go.Proofs.YtohjjigkfdhklaaGreat
set_option maxRecDepth 100000
open Go.RowKit
set_option linter.unusedSimpArgs false
set_option linter.unusedVariables false

/-- The key ahead of entry k: none at a block's begin. -/
def ahR (X : Nat → Ent) (k : Nat) : ByteArray := if k % 4 = 0 then ByteArray.empty else (X (k - 1)).key
/-- The bytes of the first k entries. -/
def ens (X : Nat → Ent) : Nat → List Int
  | 0 => []
  | k + 1 => ens X k ++ enE (ahR X k) (X k)
theorem ahd_ahR (X : Nat → Ent) (j m : Nat) (h : m < 4) : ahd X (4 * j) m = ahR X (4 * j + m) := by
  unfold ahR
  cases m with
  | zero => rw [if_pos (by omega)]; rfl
  | succ m => rw [if_neg (by omega)]; rfl
theorem ens_blk (X : Nat → Ent) (j m : Nat) (h : m ≤ 4) : ens X (4 * j + m) = ens X (4 * j) ++ blk X (4 * j) m := by
  induction m with
  | zero => simp [blk]
  | succ m ih =>
    rw [← Nat.add_assoc]
    show ens X (4 * j + m) ++ enE (ahR X (4 * j + m)) (X (4 * j + m)) = _
    rw [ih (by omega)]
    show _ = ens X (4 * j) ++ (blk X (4 * j) m ++ enE (ahd X (4 * j) m) (X (4 * j + m)))
    rw [ahd_ahR X j m (by omega), List.append_assoc]
theorem blks_ens (X : Nat → Ent) (n j : Nat) : blks X n j = ens X (min n (4 * j)) := by
  induction j with
  | zero => simp [blks, ens]
  | succ j ih =>
    show blks X n j ++ blk X (4 * j) (bsz n j) = _
    rw [ih]
    rcases Nat.lt_or_ge (4 * j) n with h | h
    · rw [Nat.min_eq_right (by omega), ← ens_blk X j (bsz n j) (bsz_le n j).1]
      congr 1
      unfold bsz
      omega
    · have : bsz n j = 0 := by unfold bsz; omega
      rw [this, Nat.min_eq_left (by omega), Nat.min_eq_left (by omega)]
      simp [blk]
theorem blks_all (X : Nat → Ent) (n : Nat) : blks X n (nbl n) = ens X n := by
  rw [blks_ens]
  congr 1
  unfold nbl
  omega
/-- The first k entries of X are read, and q is the place behind them. -/
def RdK (f : Nat → Int) (n : Nat) (X : Nat → Ent) (k q : Nat) : Prop := ∃ P : Nat → Nat, P 0 = 0 ∧ P k = q ∧ ∀ i, i < k → P i < n ∧ EY f n (P i) (ahR X i) (X i) (P (i + 1))
theorem RdK.zero (f : Nat → Int) (n : Nat) (X : Nat → Ent) : RdK f n X 0 0 := ⟨fun _ => 0, rfl, rfl, fun i h => absurd h (Nat.not_lt_zero _)⟩
theorem ahR_congr {X Y : Nat → Ent} {k : Nat} (h : ∀ i, i < k → X i = Y i) : ahR X k = ahR Y k := by
  unfold ahR
  split
  · rfl
  · rw [h (k - 1) (by omega)]
theorem RdK.step {f : Nat → Int} {n : Nat} {X : Nat → Ent} {k q q' : Nat} {x : Ent} (h : RdK f n X k q) (hq : q < n) (hx : EY f n q (ahR X k) x q') : RdK f n (fun i => if i = k then x else X i) (k + 1) q' := by
  obtain ⟨P, h0, hk, hP⟩ := h
  have hX : ∀ i, i < k → (fun i => if i = k then x else X i) i = X i := fun i hi => if_neg (by omega)
  refine ⟨fun i => if i = k + 1 then q' else P i, by simp only []; rw [if_neg (by omega)]; exact h0, by simp, fun i hi => ?_⟩
  rcases Nat.lt_or_ge i k with h | h
  · simp only []
    rw [if_neg (by omega), if_neg (by omega), if_neg (by omega), ahR_congr (fun j hj => hX j (by omega))]
    exact hP i h
  · obtain rfl : i = k := by omega
    simp only []
    rw [if_neg (by omega), if_pos trivial, if_pos trivial, ahR_congr hX, hk]
    exact ⟨hq, hx⟩
theorem enE_pos (a : ByteArray) (x : Ent) : 0 < (enE a x).length := by
  unfold enE
  simp only [List.length_append, List.length_singleton]
  omega
/-- Good entries come back from their bytes. -/
theorem rdK_ens {f : Nat → Int} {n : Nat} {X : Nat → Ent} (k : Nat) (hg : ∀ i, i < k → GoodE (X i)) (hs : Seg f 0 (ens X k)) (hn : (ens X k).length ≤ n) : RdK f n X k (ens X k).length := by
  refine ⟨fun i => (ens X i).length, rfl, rfl, fun i hi => ?_⟩
  have key : ∀ m, i + 1 ≤ m → m ≤ k → Seg f 0 (ens X m) ∧ (ens X m).length ≤ n → Seg f 0 (ens X (i + 1)) ∧ (ens X (i + 1)).length ≤ n := by
    intro m hm
    induction m with
    | zero => omega
    | succ m ih =>
      intro hmk h
      rcases Nat.lt_or_ge m (i + 1) with h1 | h1
      · obtain rfl : m = i := by omega
        exact h
      · refine ih h1 (by omega) ⟨h.1.left, ?_⟩
        have := h.2
        simp only [ens, List.length_append] at this
        omega
  obtain ⟨h1, h2⟩ := key k (by omega) (Nat.le_refl _) ⟨hs, hn⟩
  have h3 := h1.right
  rw [Nat.zero_add] at h3
  have hl : (ens X (i + 1)).length = (ens X i).length + (enE (ahR X i) (X i)).length := by simp only [ens, List.length_append]
  have hp := enE_pos (ahR X i) (X i)
  refine ⟨by simp only []; omega, ?_⟩
  simp only []
  rw [hl]
  exact ey_enE (hg i hi) h3 (by omega)
theorem strOfNums_bytesOf (s : ByteArray) : strOfNums (bytesOf s) = s := by
  have h : (strOfNums (bytesOf s)).data.toList = s.data.toList := by
    rw [strOfNums_data]
    unfold bytesOf
    rw [List.map_map]
    conv => rhs; rw [← List.map_id s.data.toList]
    refine List.map_congr_left fun z _ => ?_
    simp
  have h' : (strOfNums (bytesOf s)).data = s.data := Array.toList_inj.mp h
  exact ByteArray.ext h'
theorem bytesOf_inj {a b : ByteArray} (h : bytesOf a = bytesOf b) : a = b := by rw [← strOfNums_bytesOf a, h, strOfNums_bytesOf]
/-- Two entries that hold the same. -/
def SameE (x y : Ent) : Prop := x.key = y.key ∧ x.seq = y.seq ∧ x.kind = y.kind ∧ x.c = y.c ∧ x.s = y.s ∧ x.lo = y.lo ∧ x.hi = y.hi ∧ x.n = y.n ∧ (∀ i, i < x.n → x.f i = y.f i) ∧ x.fu = y.fu
/-- An entry is read in one way. -/
theorem ey_det {f : Nat → Int} {n q q' q'' : Nat} {ah : ByteArray} {x y : Ent} (hx : EY f n q ah x q') (hy : EY f n q ah y q'') : q' = q'' ∧ SameE x y := by
  obtain ⟨sh, rs, mn, p1, p2, p3, p5, e1, e2, e3, e4, e5, e6, e7, e8, e9, e10, e11⟩ := hx
  obtain ⟨sh', rs', mn', p1', p2', p3', p5', g1, g2, g3, g4, g5, g6, g7, g8, g9, g10, g11⟩ := hy
  rw [e1] at g1
  simp only [Option.some.injEq, Prod.mk.injEq] at g1
  obtain ⟨rfl, rfl⟩ := g1
  rw [e2] at g2
  simp only [Option.some.injEq, Prod.mk.injEq] at g2
  obtain ⟨rfl, rfl⟩ := g2
  rw [e3] at g3
  simp only [Option.some.injEq, Prod.mk.injEq] at g3
  obtain ⟨hseq, rfl⟩ := g3
  rw [e6] at g6
  simp only [Option.some.injEq, Prod.mk.injEq] at g6
  obtain ⟨rfl, rfl⟩ := g6
  refine ⟨by rw [e11, g11], bytesOf_inj (e9.trans g9.symm), hseq, e5.trans g5.symm, ?_⟩
  rcases e10 with ⟨h0, a1, a2, a3, a4, a5, a6⟩ | ⟨h0, N, hN, a1, a2, a3, a4, a5, a6, a7⟩
  · rcases g10 with ⟨_, b1, b2, b3, b4, b5, b6⟩ | ⟨h1, _⟩
    · exact ⟨a1.trans b1.symm, a2.trans b2.symm, a3.trans b3.symm, a4.trans b4.symm, a5.trans b5.symm, fun i hi => by omega, a6.trans b6.symm⟩
    · omega
  · rcases g10 with ⟨h1, _⟩ | ⟨_, N', hN', b1, b2, b3, b4, b5, b6, b7⟩
    · omega
    · obtain rfl := hN.2.inj hN'.2
      exact ⟨a1.trans b1.symm, a2.trans b2.symm, a3.trans b3.symm, a4.trans b4.symm, a5.trans b5.symm, fun i hi => by rw [a6 i (by omega), b6 i (by omega)], a7.trans b7.symm⟩
/-- Entries are read in one way. -/
theorem rdK_det {f : Nat → Int} {n : Nat} {X Y : Nat → Ent} {k q q' : Nat} (hx : RdK f n X k q) (hy : RdK f n Y k q') : q = q' ∧ ∀ i, i < k → SameE (X i) (Y i) := by
  obtain ⟨P, a0, ak, hP⟩ := hx
  obtain ⟨Q, b0, bk, hQ⟩ := hy
  have key : ∀ i, i ≤ k → P i = Q i ∧ ∀ j, j < i → SameE (X j) (Y j) := by
    intro i
    induction i with
    | zero => intro _; exact ⟨a0.trans b0.symm, fun j hj => absurd hj (Nat.not_lt_zero _)⟩
    | succ i ih =>
      intro hi
      obtain ⟨h1, h2⟩ := ih (by omega)
      have ha : ahR X i = ahR Y i := by
        unfold ahR
        split
        · rfl
        · exact (h2 (i - 1) (by omega)).1
      have e1 := (hP i (by omega)).2
      have e2 := (hQ i (by omega)).2
      rw [h1, ha] at e1
      obtain ⟨h3, h4⟩ := ey_det e1 e2
      refine ⟨h3, fun j hj => ?_⟩
      rcases Nat.lt_or_ge j i with h | h
      · exact h2 j h
      · obtain rfl : j = i := by omega
        exact h4
  obtain ⟨h1, h2⟩ := key k (Nat.le_refl _)
  exact ⟨ak.symm.trans (h1.trans bk), h2⟩
end Go.Proofs.YtohjjigkfdhklaaGreat
namespace Go.Proofs.YtohjjigkfdhklaaGreat
set_option maxRecDepth 100000
open Go.RowKit
set_option linter.unusedSimpArgs false
set_option linter.unusedVariables false

theorem RdK.front {f : Nat → Int} {n : Nat} {X : Nat → Ent} {k m q : Nat} (h : RdK f n X m q) (hk : k < m) : ∃ q', q' < n ∧ RdK f n X k q' := by
  obtain ⟨P, h0, hm, hP⟩ := h
  exact ⟨P k, (hP k hk).1, P, h0, rfl, fun i hi => hP i (by omega)⟩
/-- Two readings of all the bytes are one. -/
theorem rdK_all {f : Nat → Int} {n : Nat} {X Y : Nat → Ent} {k m : Nat} (hx : RdK f n X k n) (hy : RdK f n Y m n) : k = m ∧ ∀ i, i < k → SameE (X i) (Y i) := by
  rcases Nat.lt_trichotomy k m with h | rfl | h
  · obtain ⟨q', hq, h'⟩ := hy.front h
    have := (rdK_det hx h').1
    omega
  · exact ⟨rfl, (rdK_det hx hy).2⟩
  · obtain ⟨q', hq, h'⟩ := hx.front h
    have := (rdK_det h' hy).1
    omega
theorem seg_self (L : List Int) : Seg (fl L) 0 L := fun i hi => by rw [Nat.zero_add]
theorem ens_inj {X Y : Nat → Ent} {k m : Nat} (hx : ∀ i, i < k → GoodE (X i)) (hy : ∀ i, i < m → GoodE (Y i)) (h : ens X k = ens Y m) : k = m ∧ ∀ i, i < k → SameE (X i) (Y i) := by
  have h1 := rdK_ens (f := fl (ens X k)) (n := (ens X k).length) k hx (seg_self _) (Nat.le_refl _)
  have h2 := rdK_ens (f := fl (ens Y m)) (n := (ens Y m).length) m hy (seg_self _) (Nat.le_refl _)
  rw [← h] at h2
  exact rdK_all h1 h2
theorem pf4_inj {a b : Int} (ha : 0 ≤ a) (ha' : a < 4294967296) (hb : 0 ≤ b) (hb' : b < 4294967296) (h : ∀ i, i < 4 → pf a 4 i = pf b 4 i) : a = b := by
  have h0 := h 0 (by omega)
  have h1 := h 1 (by omega)
  have h2 := h 2 (by omega)
  have h3 := h 3 (by omega)
  have e0 : a / 16777216 % 256 = b / 16777216 % 256 := h0
  have e1 : a / 65536 % 256 = b / 65536 % 256 := h1
  have e2 : a / 256 % 256 = b / 256 % 256 := h2
  have e3 : a / 1 % 256 = b / 1 % 256 := h3
  clear h h0 h1 h2 h3
  omega
/-- A table's bytes tell its entries. -/
theorem tbl_inj {X Y : Nat → Ent} {k m : Nat} {y z : Int} {F G : List Int} (hx : ∀ i, i < k → GoodE (X i)) (hy : ∀ i, i < m → GoodE (Y i)) (hkl : (ens X k).length < 4294967296) (hml : (ens Y m).length < 4294967296) (h : tbl X k y F = tbl Y m z G) : k = m ∧ ∀ i, i < k → SameE (X i) (Y i) := by
  unfold tbl at h
  have h1 := List.append_inj_left' h (by simp)
  have h2 := List.append_inj_left' h1 (by simp [pfL_length])
  unfold bodyT at h2
  rw [blks_all, blks_all] at h2
  have h3 := List.append_inj_left' h2 (by simp [pfL_length])
  have h4 := List.append_inj_left' h3 (by simp [pfL_length])
  have h5 := List.append_inj_right' h4 (by simp [pfL_length])
  have h6 := List.append_inj_left' h4 (by simp [pfL_length])
  have hl : (ens X k).length = (ens Y m).length := by
    have g : ∀ i, i < 4 → pf (((ens X k).length : Nat) : Int) 4 i = pf (((ens Y m).length : Nat) : Int) 4 i := fun i hi => by
      have e := congrArg (fun L => L[i]?) h5
      simpa [pfL, hi] using e
    have := pf4_inj (by omega) (by omega) (by omega) (by omega) g
    omega
  rw [List.append_assoc (ens X k), List.append_assoc (ens Y m)] at h6
  exact ens_inj hx hy (List.append_inj_left h6 hl)
end Go.Proofs.YtohjjigkfdhklaaGreat
namespace Go.Proofs.YtohjjigkfdhklaaGreat
set_option maxRecDepth 100000
open Go.RowKit
set_option linter.unusedSimpArgs false
set_option linter.unusedVariables false

/-- hv holds x's Hist, at a block that isn't v's. -/
def HRow (w : World) (base : Nat) (hv : Value) (x : Ent) (v : Value) : Prop :=
  ∃ lo lc, hv = .slice lo x.n lc ∧ ((x.n = 0 ∧ lo = none) ∨ ∃ G, lo = some ⟨G, 0, none⟩ ∧ base ≤ G ∧ IOwn w G 0 x.n x.f ∧ v.ownBlock ≠ some G)
structure OutH (w : World) (base : Nat) (v : Value) (n : Nat) (X : Nat → Ent) (V : Nat → Value) : Prop where
  own : w.ownsRow base 35 9 v n ((List.range n).flatMap fun i => ecells (X i) (V i))
  row : ∀ i, i < n → HRow w base (V i) (X i) v
  dis : ∀ i j, i < n → j < n → i ≠ j → ∀ k, (V i).ownBlock = some k → (V j).ownBlock ≠ some k
section
variable {w w' : World} {base : Nat} {v hv v' : Value} {n : Nat} {X : Nat → Ent} {V : Nat → Value} {x : Ent}
theorem outH_nil (w : World) (base : Nat) (X : Nat → Ent) : OutH w base (.slice none 0 0) 0 X (fun _ => .slice none 0 0) :=
  ⟨World.ownsRow_nil _ _ _ _, fun i hi => absurd hi (Nat.not_lt_zero _), fun i _ hi => absurd hi (Nat.not_lt_zero _)⟩
theorem HRow.at (h : HRow w base hv x v) : ∀ k, hv.ownBlock = some k → base ≤ k ∧ k < w.heap.size := by
  intro k hk
  obtain ⟨lo, lc, rfl, ⟨_, rfl⟩ | ⟨G, rfl, h1, h2, _⟩⟩ := h
  · simp [Value.ownBlock] at hk
  · have e : G = k := by simpa [Value.ownBlock] using hk
    subst e
    exact ⟨h1, h2.lt⟩
theorem HRow.keep (h : HRow w base hv x v) (hb : Below w.heap.size w w') : HRow w' base hv x v := by
  obtain ⟨lo, lc, e, h | ⟨G, e2, h1, h2, h3⟩⟩ := h
  · exact ⟨lo, lc, e, .inl h⟩
  · exact ⟨lo, lc, e, .inr ⟨G, e2, h1, h2.keep hb, h3⟩⟩
theorem OutH.keep (h : OutH w base v n X V) (hb : Below w.heap.size w w') : OutH w' base v n X V :=
  ⟨ownsRow_keep h.own hb, fun i hi => (h.row i hi).keep hb, h.dis⟩
theorem IOwn.grownH {g m : Nat} {f : Nat → Int} {row : Option Nat} (h : IOwn w g 0 m f) (hg : w.grownBy w' row) (hne : row ≠ some g) : IOwn w' g 0 m f :=
  ⟨h.bd, Nat.lt_of_lt_of_le h.lt hg.size, fun i hi => hg.cell (h.cell i hi) (fun e => hne e.symm), fun i hi => (World.frozen?_of_block (w := w) (a := ⟨g, 0 + i, none⟩) (hg.block g h.lt (fun e => hne e.symm))).trans (h.free i hi)⟩
theorem HRow.grown (h : HRow w base hv x v) (hg : w.grownBy w' v.ownBlock) (ha : v'.ownBlock = v.ownBlock ∨ v'.ownBlock = some w.heap.size) : HRow w' base hv x v' := by
  obtain ⟨lo, lc, e, h | ⟨G, e2, h1, h2, h3⟩⟩ := h
  · exact ⟨lo, lc, e, .inl h⟩
  · refine ⟨lo, lc, e, .inr ⟨G, e2, h1, h2.grownH hg h3, ?_⟩⟩
    rcases ha with ha | ha
    · rw [ha]; exact h3
    · rw [ha]
      intro e
      have := h2.lt
      injection e with e
      omega
theorem OutH.push (h : OutH w base v n X V) (hx : HRow w base hv x v) (hnw : ∀ i, i < n → ∀ k, (V i).ownBlock = some k → hv.ownBlock ≠ some k)
    (ho : w'.ownsRow base 35 9 v' (n + 1) (((List.range n).flatMap fun i => ecells (X i) (V i)) ++ ecells x hv)) (hg : w.grownBy w' v.ownBlock) (ha : v'.ownBlock = v.ownBlock ∨ v'.ownBlock = some w.heap.size) :
    OutH w' base v' (n + 1) (fun i => if i = n then x else X i) (fun i => if i = n then hv else V i) := by
  refine ⟨?_, fun i hi => ?_, fun i j hi hj hij k h1 => ?_⟩
  · have e : ((List.range (n + 1)).flatMap fun i => ecells (if i = n then x else X i) (if i = n then hv else V i)) = ((List.range n).flatMap fun i => ecells (X i) (V i)) ++ ecells x hv := by
      rw [List.range_succ, List.flatMap_append]
      congr 1
      · unfold List.flatMap
        congr 1
        refine List.map_congr_left fun i hi => ?_
        have := List.mem_range.1 hi
        rw [if_neg (by omega), if_neg (by omega)]
      · simp
    rw [e]; exact ho
  · by_cases e : i = n
    · simp only [e, if_true]; exact hx.grown hg ha
    · simp only [e, if_false]; exact (h.row i (by omega)).grown hg ha
  · by_cases e : i = n
    · simp only [e, if_true] at h1
      have e2 : j ≠ n := fun e2 => hij (e.trans e2.symm)
      simp only [e2, if_false]
      exact fun h2 => hnw j (by omega) k h2 h1
    · simp only [e, if_false] at h1
      by_cases e2 : j = n
      · simp only [e2, if_true]
        exact hnw i (by omega) k h1
      · simp only [e2, if_false]
        exact h.dis i j (by omega) (by omega) hij k h1
/-- What the reader does to its own box leaves the list alone. -/
theorem OutH.nm {B : Nat} (h : OutH w base v n X V) (hm : Nm w.heap.size B w w') (hB : B < base) : OutH w' base v n X V := by
  refine ⟨⟨h.own.1, ?_⟩, fun i hi => ?_, h.dis⟩
  · rcases h.own.2 with ⟨rfl, h0⟩ | ⟨g, cap, cur, rfl, h1, h2, h3⟩
    · exact .inl ⟨rfl, h0⟩
    · exact .inr ⟨g, cap, cur, rfl, h1, (hm.block g (Array.getElem?_eq_some_iff.1 h2).1 (by omega)).trans h2, h3⟩
  · obtain ⟨lo, lc, e, h | ⟨G, e2, h1, h2, h3⟩⟩ := h.row i hi
    · exact ⟨lo, lc, e, .inl h⟩
    · exact ⟨lo, lc, e, .inr ⟨G, e2, h1, ⟨h2.bd, Nat.lt_of_lt_of_le h2.lt hm.size, fun i hi => (World.cell?_of_block (w := w) (a := ⟨G, 0 + i, none⟩) (hm.block G h2.lt (by omega))).trans (h2.cell i hi), fun i hi => (World.frozen?_of_block (w := w) (a := ⟨G, 0 + i, none⟩) (hm.block G h2.lt (by omega))).trans (h2.free i hi)⟩, h3⟩⟩
end

/-- One entry put behind. -/
theorem wpList_pushH {w : World} {ops : Array Oper} {rest : List Oper} {o : Oper} {a : Act} {Q : Exit → Act → World → Prop} (hgd : o.guard = none) (s y : Operand)
    (ho : o.op = .call { callee := .builtin .append, args := #[s, y], argTypes := #[23, 23] })
    (base : Nat) (v hv : Value) (n : Nat) (X : Nat → Ent) (V : Nat → Value) (x : Ent) (hs : a.eval s = v) (h : OutH w base v n X V) (hx : HRow w base hv x v) (hnw : ∀ i, i < n → ∀ k, (V i).ownBlock = some k → hv.ownBlock ≠ some k)
    (hy : a.eval y = .slice (some ⟨w.heap.size, 0, none⟩) 1 1) (hn : n ≤ 1048576) (hbase : base ≤ w.heap.size) (h1 : hv.oneCell' = true)
    (hk : ∀ v' w', OutH w' base v' (n + 1) (fun i => if i = n then x else X i) (fun i => if i = n then hv else V i) → (w.alloc (.cells #[.string x.key, .int .i64 x.seq, .int .i64 x.kind, .int .i64 x.c, .int .i64 x.s, .int .i64 x.lo, .int .i64 x.hi, hv, .bool x.fu] 35)).grownBy w' v.ownBlock → wpList Tryz.prog ops Q rest (a.put o.dst v') w') :
    wpList Tryz.prog ops Q (o :: rest) a (w.alloc (.cells #[.string x.key, .int .i64 x.seq, .int .i64 x.kind, .int .i64 x.c, .int .i64 x.s, .int .i64 x.lo, .int .i64 x.hi, hv, .bool x.fu] 35)) := by
  obtain ⟨i0, hi, hz0, hz1, hz2⟩ := info_parts Tryz.infoEnt
  have hB := below_new w (.cells #[.string x.key, .int .i64 x.seq, .int .i64 x.kind, .int .i64 x.c, .int .i64 x.s, .int .i64 x.lo, .int .i64 x.hi, hv, .bool x.fu] 35)
  refine wpList_append_own_at (w := w.alloc (.cells #[.string x.key, .int .i64 x.seq, .int .i64 x.kind, .int .i64 x.c, .int .i64 x.s, .int .i64 x.lo, .int .i64 x.hi, hv, .bool x.fu] 35)) hgd s y 23 ho base 35 i0 _ 9 96 Tryz.underlying23 hi hz0 hz1 hz2 rfl (by decide) v n ((List.range n).flatMap fun i => ecells (X i) (V i)) hs (ownsRow_keep h.own hB) ⟨w.heap.size, 0, none⟩ 1 1 (ecells x hv) hy rfl (nine_new _ _ _ _) (fun u hu => by
    simp only [ecells, List.mem_cons, List.not_mem_nil, or_false] at hu
    rcases hu with rfl | rfl | rfl | rfl | rfl | rfl | rfl | rfl | rfl <;> first | rfl | exact h1) (by unfold maxLen; omega) (by omega) (by simp; omega) ?_
  intro v' w' h1 h2 h3 h4
  exact hk v' w' ((h.keep hB).push (hx.keep hB) hnw h1 h2 h4) h2
end Go.Proofs.YtohjjigkfdhklaaGreat
namespace Go.Proofs.YtohjjigkfdhklaaGreat
set_option maxRecDepth 100000
open Go.RowKit
set_option linter.unusedSimpArgs false
set_option linter.unusedVariables false

/-- Where the next entry can't be read, all the bytes can't. -/
theorem rdK_torn {f : Nat → Int} {n : Nat} {X : Nat → Ent} {k q : Nat} (h : RdK f n X k q) (hq : q < n) (hno : ∀ x q'', ¬ EY f n q (ahR X k) x q'') : ∀ Y m, ¬ RdK f n Y m n := by
  intro Y m hy
  rcases Nat.lt_or_ge k m with hk | hk
  · obtain ⟨P, h0, hm, hP⟩ := hy
    obtain ⟨e, hs⟩ := rdK_det h (⟨P, h0, rfl, fun i hi => hP i (by omega)⟩ : RdK f n Y k (P k))
    have ha : ahR X k = ahR Y k := by
      unfold ahR
      split
      · rfl
      · exact (hs (k - 1) (by omega)).1
    have := (hP k hk).2
    rw [← e, ← ha] at this
    exact hno _ _ this
  · rcases Nat.lt_or_ge m k with h1 | h1
    · obtain ⟨q', hq', h'⟩ := h.front h1
      have := (rdK_det h' hy).1
      omega
    · obtain rfl : m = k := by omega
      have := (rdK_det h hy).1
      omega
/-- An entry's key is no longer than the key ahead and what was read. -/
theorem ey_size {f : Nat → Int} {n q q' : Nat} {ah : ByteArray} {x : Ent} (h : EY f n q ah x q') : x.key.size + q ≤ ah.size + q' ∧ q < q' := by
  obtain ⟨sh, rs, mn, p1, p2, p3, p5, e1, e2, e3, e4, e5, e6, e7, e8, e9, e10, e11⟩ := h
  have a1 := rdNum_pos e1
  have a2 := rdNum_pos e2
  have a3 := rdNum_pos e3
  have a6 := rdNum_pos e6
  have e := congrArg List.length e9
  rw [bytesOf_len, List.length_append, List.length_take, bytesOf_len, List.length_map, List.length_range] at e
  omega

/-- One entry put behind a list of the call's own, whatever its cells are. -/
theorem wpList_pushO {w : World} {ops : Array Oper} {rest : List Oper} {o : Oper} {a : Act} {Q : Exit → Act → World → Prop} (hgd : o.guard = none) (s y : Operand)
    (ho : o.op = .call { callee := .builtin .append, args := #[s, y], argTypes := #[23, 23] })
    (base : Nat) (v hv : Value) (n : Nat) (C : List Value) (x : Ent) (hs : a.eval s = v) (h : w.ownsRow base 35 9 v n C)
    (hy : a.eval y = .slice (some ⟨w.heap.size, 0, none⟩) 1 1) (hn : n ≤ 1048576) (hbase : base ≤ w.heap.size) (h1 : hv.oneCell' = true)
    (hk : ∀ v' w', w'.ownsRow base 35 9 v' (n + 1) (C ++ ecells x hv) → (w.alloc (.cells #[.string x.key, .int .i64 x.seq, .int .i64 x.kind, .int .i64 x.c, .int .i64 x.s, .int .i64 x.lo, .int .i64 x.hi, hv, .bool x.fu] 35)).grownBy w' v.ownBlock → wpList Tryz.prog ops Q rest (a.put o.dst v') w') :
    wpList Tryz.prog ops Q (o :: rest) a (w.alloc (.cells #[.string x.key, .int .i64 x.seq, .int .i64 x.kind, .int .i64 x.c, .int .i64 x.s, .int .i64 x.lo, .int .i64 x.hi, hv, .bool x.fu] 35)) := by
  obtain ⟨i0, hi, hz0, hz1, hz2⟩ := info_parts Tryz.infoEnt
  have hB := below_new w (.cells #[.string x.key, .int .i64 x.seq, .int .i64 x.kind, .int .i64 x.c, .int .i64 x.s, .int .i64 x.lo, .int .i64 x.hi, hv, .bool x.fu] 35)
  refine wpList_append_own_at (w := w.alloc (.cells #[.string x.key, .int .i64 x.seq, .int .i64 x.kind, .int .i64 x.c, .int .i64 x.s, .int .i64 x.lo, .int .i64 x.hi, hv, .bool x.fu] 35)) hgd s y 23 ho base 35 i0 _ 9 96 Tryz.underlying23 hi hz0 hz1 hz2 rfl (by decide) v n C hs (ownsRow_keep h hB) ⟨w.heap.size, 0, none⟩ 1 1 (ecells x hv) hy rfl (nine_new _ _ _ _) (fun u hu => by
    simp only [ecells, List.mem_cons, List.not_mem_nil, or_false] at hu
    rcases hu with rfl | rfl | rfl | rfl | rfl | rfl | rfl | rfl | rfl <;> first | rfl | exact h1) (by unfold maxLen; omega) (by omega) (by simp; omega) ?_
  intro v' w' h1 h2 h3 h4
  exact hk v' w' h1 h2
end Go.Proofs.YtohjjigkfdhklaaGreat
namespace Go.Proofs.YtohjjigkfdhklaaGreat
set_option maxRecDepth 100000
open Go.RowKit
set_option linter.unusedSimpArgs false
set_option linter.unusedVariables false

/-- What readEntries leaves. -/
def REsR (f : Nat → Int) (n : Nat) (w : World) (e : Ending) (w' : World) : Prop :=
  ∃ v t, e = .returned (.tuple #[v, .bool (!t)]) ∧ Below w.heap.size w w' ∧ ((t = false ∧ ∃ k X V, RdK f n X k n ∧ k ≤ n ∧ OutH w' (w.heap.size + 1) v k X V) ∨ (t = true ∧ ∀ Y m, ¬ RdK f n Y m n))
/-- How many rounds are left at most. -/
def msr (n B : Nat) (w : World) : Nat := match w.cell? ⟨B, 2, none⟩ with
  | some (.bool true) => 0
  | _ => n + 1 - (match w.cell? ⟨B, 1, none⟩ with | some x => (intOf x).toNat | none => 0)
theorem msr_eq {w : World} {B n cap q : Nat} {ao : Option Addr} {t : Bool} (h : BR w B ao n cap q t) : msr n B w = if t = true then 0 else n + 1 - q := by
  unfold msr
  rw [h.c2, h.c1]
  cases t <;> simp [intOf]
theorem wpList_pushH2 {w : World} {ops : Array Oper} {rest : List Oper} {o : Oper} {a : Act} {Q : Exit → Act → World → Prop} (nb : Nat) (hnb : w.heap.size = nb) (hgd : o.guard = none) (s y : Operand)
    (ho : o.op = .call { callee := .builtin .append, args := #[s, y], argTypes := #[23, 23] })
    (base : Nat) (v hv : Value) (n : Nat) (X : Nat → Ent) (V : Nat → Value) (x : Ent) (hs : a.eval s = v) (h : OutH w base v n X V) (hx : HRow w base hv x v) (hnw : ∀ i, i < n → ∀ k, (V i).ownBlock = some k → hv.ownBlock ≠ some k)
    (hy : a.eval y = .slice (some ⟨nb, 0, none⟩) 1 1) (hn : n ≤ 1048576) (hbase : base ≤ w.heap.size) (h1 : hv.oneCell' = true)
    (hk : ∀ v' w', OutH w' base v' (n + 1) (fun i => if i = n then x else X i) (fun i => if i = n then hv else V i) → (w.alloc (.cells #[.string x.key, .int .i64 x.seq, .int .i64 x.kind, .int .i64 x.c, .int .i64 x.s, .int .i64 x.lo, .int .i64 x.hi, hv, .bool x.fu] 35)).grownBy w' v.ownBlock → wpList Tryz.prog ops Q rest (a.put o.dst v') w') :
    wpList Tryz.prog ops Q (o :: rest) a (w.alloc (.cells #[.string x.key, .int .i64 x.seq, .int .i64 x.kind, .int .i64 x.c, .int .i64 x.s, .int .i64 x.lo, .int .i64 x.hi, hv, .bool x.fu] 35)) := by
  subst hnb
  exact wpList_pushH hgd s y ho base v hv n X V x hs h hx hnw hy hn hbase h1 hk
theorem wpList_pushO2 {w : World} {ops : Array Oper} {rest : List Oper} {o : Oper} {a : Act} {Q : Exit → Act → World → Prop} (nb : Nat) (hnb : w.heap.size = nb) (hgd : o.guard = none) (s y : Operand)
    (ho : o.op = .call { callee := .builtin .append, args := #[s, y], argTypes := #[23, 23] })
    (base : Nat) (v hv : Value) (n : Nat) (C : List Value) (x : Ent) (hs : a.eval s = v) (h : w.ownsRow base 35 9 v n C)
    (hy : a.eval y = .slice (some ⟨nb, 0, none⟩) 1 1) (hn : n ≤ 1048576) (hbase : base ≤ w.heap.size) (h1 : hv.oneCell' = true)
    (hk : ∀ v' w', w'.ownsRow base 35 9 v' (n + 1) (C ++ ecells x hv) → (w.alloc (.cells #[.string x.key, .int .i64 x.seq, .int .i64 x.kind, .int .i64 x.c, .int .i64 x.s, .int .i64 x.lo, .int .i64 x.hi, hv, .bool x.fu] 35)).grownBy w' v.ownBlock → wpList Tryz.prog ops Q rest (a.put o.dst v') w') :
    wpList Tryz.prog ops Q (o :: rest) a (w.alloc (.cells #[.string x.key, .int .i64 x.seq, .int .i64 x.kind, .int .i64 x.c, .int .i64 x.s, .int .i64 x.lo, .int .i64 x.hi, hv, .bool x.fu] 35)) := by
  subst hnb
  exact wpList_pushO hgd s y ho base v hv n C x hs h hy hn hbase h1 hk
theorem Nm.below {w w' : World} {base B : Nat} (h : Nm w.heap.size B w w') (hB : base ≤ B) (hw : base ≤ w.heap.size) : Below base w w' := ⟨h.os, h.tape, h.output, h.size, fun k hk => h.block k (by omega) (by omega)⟩
theorem BR.grown {w w' : World} {B : Nat} {ao : Option Addr} {n cap q : Nat} {t : Bool} {row : Option Nat} (h : BR w B ao n cap q t) (hg : w.grownBy w' row) (hne : some B ≠ row) : BR w' B ao n cap q t :=
  have cl : ∀ j, w'.cell? ⟨B, j, none⟩ = w.cell? ⟨B, j, none⟩ := fun j => World.cell?_of_block (w := w) (a := ⟨B, j, none⟩) (hg.block B h.lt hne)
  ⟨Nat.lt_of_lt_of_le h.lt hg.size, (cl _).trans h.c0, (cl _).trans h.c1, (cl _).trans h.c2, fun j => (World.frozen?_of_block (w := w) (a := ⟨B, j, none⟩) (hg.block B h.lt hne)).trans (h.fz j)⟩
/-- The loop's state. -/
def RLi (f : Nat → Int) (bb bo n cap B : Nat) (w : World) (v a : Value) (wr : World) : Prop :=
  ∃ (k q : Nat) (t : Bool) (s : ByteArray) (ao : Option Addr) (c : Nat), a = .string s ∧ v = .slice ao k c ∧ BR wr B (some ⟨bb, bo, none⟩) n cap q t ∧ q ≤ n ∧ k ≤ n + 1 ∧ Below B w wr ∧
    Hid ((t = false ∧ k ≤ q ∧ s.size ≤ q ∧ ∃ X V, RdK f n X k q ∧ (k = 0 ∨ s = (X (k - 1)).key) ∧ OutH wr (B + 1) v k X V) ∨ (t = true ∧ ∀ Y m, ¬ RdK f n Y m n))
set_option maxHeartbeats 3200000 in
theorem readEntries_any (f : Nat → Int) (bb bo n cap : Nat) (w : World) (hr : Row w (some ⟨bb, bo, none⟩) n f) (hbb : bb < w.heap.size) (hn : n ≤ 1048576) (hcap : n ≤ cap) :
    Calls Tryz.prog 89 #[.slice (some ⟨bb, bo, none⟩) n cap] w fun e w' => REsR f n w e w' := by
  have hB0 := below_new w (.cells #[.slice (some ⟨bb, bo, none⟩) n cap, .int .i64 0, .bool false] 152)
  have B0 : BR (w.alloc (.cells #[.slice (some ⟨bb, bo, none⟩) n cap, .int .i64 0, .bool false] 152)) w.heap.size (some ⟨bb, bo, none⟩) n cap 0 false := by
    refine ⟨by simp, ?_, ?_, ?_, fun j => ?_⟩ <;> simp [go_sem]
  go_enter Tryz.func89, Tryz.ntmps89
  go_wp2
  generalize w.alloc (.cells #[.slice (some ⟨bb, bo, none⟩) n cap, .int .i64 0, .bool false] 152) = w0 at *
  go_loopw [5, 6] (fun v a wr => RLi f bb bo n cap w.heap.size w v a wr) (fun _ _ wr => msr n w.heap.size wr)
  case atStart => exact ⟨0, 0, false, ⟨#[]⟩, none, 0, rfl, rfl, B0, by omega, by omega, hB0, .inl ⟨rfl, by omega, by decide, fun _ => ⟨⟨#[]⟩, 0, 0, 0, 0, 0, 0, 0, fun _ => 0, false⟩, _, RdK.zero _ _ _, .inl rfl, outH_nil _ _ _⟩⟩
  case round =>
    obtain ⟨k, q, t, s, ao, c, rfl, rfl, BR1, hq, hk, bw, HI⟩ := hrel
    have BR1' := BR1
    obtain ⟨_, d0, d1, d2, dz⟩ := BR1'
    by_cases hc : q < n ∧ t = false
    · obtain ⟨hqn, rfl⟩ := hc
      have hqi : (q : Int) < (n : Int) := by omega
      obtain ⟨_, hkq, hsq, X, V, hRd, hah, hO⟩ := (HI.out).resolve_right (by rintro ⟨h, _⟩; cases h)
      by_cases hk4 : k % 4 = 0
      · have hk4i : (k : Int) % 4 = 0 := by omega
        have HA : ahR X k = ⟨#[]⟩ := if_pos hk4
        have hcall := entry_any f w.heap.size bb bo n cap q false ⟨#[]⟩ (by decide) wr BR1 (hr.keep bw) (by have := bw.size; omega) (by omega) hn hcap hq
        go_wp2_with fail
        refine hcall.mono ?_
        rintro e w1 ⟨x, A, c1, q1, t1, rfl, hq1, BRb, Nb, Db⟩
        have hO1 := hO.nm Nb (by omega)
        have hwr := bw.size
        have hs1 := Nb.size
        have bw1 : Below w.heap.size w w1 := bw.trans (Nb.below (Nat.le_refl _) hwr)
        have bE := below_new w1 (.cells #[.string x.key, .int .i64 x.seq, .int .i64 x.kind, .int .i64 x.c, .int .i64 x.s, .int .i64 x.lo, .int .i64 x.hi, .slice A x.n c1, .bool x.fu] 35)
        have bE2 := below_new (w1.alloc (.cells #[.string x.key, .int .i64 x.seq, .int .i64 x.kind, .int .i64 x.c, .int .i64 x.s, .int .i64 x.lo, .int .i64 x.hi, .slice A x.n c1, .bool x.fu] 35)) (.cells #[.string x.key, .int .i64 x.seq, .int .i64 x.kind, .int .i64 x.c, .int .i64 x.s, .int .i64 x.lo, .int .i64 x.hi, .slice A x.n c1, .bool x.fu] 35)
        have hsz1 : (w1.alloc (.cells #[.string x.key, .int .i64 x.seq, .int .i64 x.kind, .int .i64 x.c, .int .i64 x.s, .int .i64 x.lo, .int .i64 x.hi, .slice A x.n c1, .bool x.fu] 35)).heap.size = w1.heap.size + 1 := by simp
        have hlt := hO.own.lt
        have nB : some w.heap.size ≠ (Value.slice ao k c).ownBlock := fun e => by have := (hlt _ e.symm).1; omega
        have nE : some w1.heap.size ≠ (Value.slice ao k c).ownBlock := fun e => by have := (hlt _ e.symm).2; omega
        have BR2 := (BRb.keep bE).keep bE2
        have xc : ((w1.alloc (.cells #[.string x.key, .int .i64 x.seq, .int .i64 x.kind, .int .i64 x.c, .int .i64 x.s, .int .i64 x.lo, .int .i64 x.hi, .slice A x.n c1, .bool x.fu] 35)).alloc (.cells #[.string x.key, .int .i64 x.seq, .int .i64 x.kind, .int .i64 x.c, .int .i64 x.s, .int .i64 x.lo, .int .i64 x.hi, .slice A x.n c1, .bool x.fu] 35)).cell? ⟨w1.heap.size, 0, none⟩ = some (.string x.key) := (bE2.cell (p := ⟨w1.heap.size, 0, none⟩) (show w1.heap.size < _ from by rw [hsz1]; exact Nat.lt_succ_self _)).trans (by simp [go_sem])
        have bw2 : Below w.heap.size w ((w1.alloc (.cells #[.string x.key, .int .i64 x.seq, .int .i64 x.kind, .int .i64 x.c, .int .i64 x.s, .int .i64 x.lo, .int .i64 x.hi, .slice A x.n c1, .bool x.fu] 35)).alloc (.cells #[.string x.key, .int .i64 x.seq, .int .i64 x.kind, .int .i64 x.c, .int .i64 x.s, .int .i64 x.lo, .int .i64 x.hi, .slice A x.n c1, .bool x.fu] 35)) := (bw1.trans (bE.mono (by omega))).trans (bE2.mono (by simp; omega))
        rcases Db with ⟨rfl, _, hEY, hOwn⟩ | ⟨rfl, hno⟩
        · have hRd' := hRd.step hqn (HA ▸ hEY)
          have hsz := ey_size hEY
          have HR : HRow w1 (w.heap.size + 1) (.slice A x.n c1) x (.slice ao k c) := by
            refine ⟨A, c1, rfl, ?_⟩
            rcases hOwn with h | ⟨h8, G, h1, h2, h3⟩
            · exact .inl h
            · refine .inr ⟨G, h1, by have := BR1.lt; omega, by rw [h8]; exact h3, fun e => ?_⟩
              have := (hlt _ e).2
              omega
          have HN : Hid (∀ i, i < k → ∀ z, (V i).ownBlock = some z → (Value.slice A x.n c1).ownBlock ≠ some z) := fun i hi z hz h2 => by
            have hz2 := ((hO.row i hi).at z hz).2
            rcases hOwn with h | ⟨h8, G, h1, h3, _⟩
            · rw [h.2] at h2; simp [Value.ownBlock] at h2
            · rw [h1] at h2
              have e : G = z := by simpa [Value.ownBlock] using h2
              omega
          go_wp2_with (at_builtin; refine wpList_pushH2 (w := w1.alloc (.cells #[.string x.key, .int .i64 x.seq, .int .i64 x.kind, .int .i64 x.c, .int .i64 x.s, .int .i64 x.lo, .int .i64 x.hi, .slice A x.n c1, .bool x.fu] 35)) (w1.heap.size + 1) (by simp) rfl (.tmp 26) (.tmp 28) rfl (w.heap.size + 1) (.slice ao k c) (.slice A x.n c1) k X V x rfl (hO1.keep bE) (HR.keep bE) HN.out rfl (by omega) (by rw [hsz1]; omega) rfl ?_; intro v2 w2 hO2 hg2; obtain ⟨ao2, c2, rfl⟩ := ownsRow_form hO2.own; have xc2 := hg2.cell xc nE)
          have BR3 := BR2.grown hg2 nB
          have bw3 := bw2.grown hg2 bw2.size (fun k hk => by have := (hlt _ hk).1; omega)
          go_wp2
          refine ⟨⟨k + 1, q1, false, x.key, ao2, c2, rfl, rfl, BR3, hq1, by omega, bw3, .inl ⟨rfl, by omega, ?_, _, _, hRd', .inr (by simp), hO2⟩⟩, ?_⟩
          · have e0 : (⟨#[]⟩ : ByteArray).size = 0 := rfl
            omega
          · rw [msr_eq BR3, msr_eq BR1, if_neg (by decide), if_neg (by decide)]
            omega
        · have hno' := hno.resolve_left (by decide)
          go_wp2_with (at_builtin; refine wpList_pushO2 (w := w1.alloc (.cells #[.string x.key, .int .i64 x.seq, .int .i64 x.kind, .int .i64 x.c, .int .i64 x.s, .int .i64 x.lo, .int .i64 x.hi, .slice A x.n c1, .bool x.fu] 35)) (w1.heap.size + 1) (by simp) rfl (.tmp 26) (.tmp 28) rfl (w.heap.size + 1) (.slice ao k c) (.slice A x.n c1) k _ x rfl (hO1.keep bE).own rfl (by omega) (by rw [hsz1]; omega) rfl ?_; intro v2 w2 hO2 hg2; obtain ⟨ao2, c2, rfl⟩ := ownsRow_form hO2; have xc2 := hg2.cell xc nE)
          have BR3 := BR2.grown hg2 nB
          have bw3 := bw2.grown hg2 bw2.size (fun k hk => by have := (hlt _ hk).1; omega)
          go_wp2
          refine ⟨⟨k + 1, q1, true, x.key, ao2, c2, rfl, rfl, BR3, hq1, by omega, bw3, .inr ⟨rfl, rdK_torn hRd hqn (fun y q'' h => hno' y q'' (HA ▸ h))⟩⟩, ?_⟩
          rw [msr_eq BR3, msr_eq BR1, if_pos rfl, if_neg (by decide)]
          omega
      · have hk4i : ¬ (k : Int) % 4 = 0 := by omega
        have HA : ahR X k = s := by
          unfold ahR
          rw [if_neg hk4]
          rcases hah with h | h
          · omega
          · exact h.symm
        have hcall := entry_any f w.heap.size bb bo n cap q false s (by omega) wr BR1 (hr.keep bw) (by have := bw.size; omega) (by omega) hn hcap hq
        go_wp2_with fail
        refine hcall.mono ?_
        rintro e w1 ⟨x, A, c1, q1, t1, rfl, hq1, BRb, Nb, Db⟩
        have hO1 := hO.nm Nb (by omega)
        have hwr := bw.size
        have hs1 := Nb.size
        have bw1 : Below w.heap.size w w1 := bw.trans (Nb.below (Nat.le_refl _) hwr)
        have bE := below_new w1 (.cells #[.string x.key, .int .i64 x.seq, .int .i64 x.kind, .int .i64 x.c, .int .i64 x.s, .int .i64 x.lo, .int .i64 x.hi, .slice A x.n c1, .bool x.fu] 35)
        have bE2 := below_new (w1.alloc (.cells #[.string x.key, .int .i64 x.seq, .int .i64 x.kind, .int .i64 x.c, .int .i64 x.s, .int .i64 x.lo, .int .i64 x.hi, .slice A x.n c1, .bool x.fu] 35)) (.cells #[.string x.key, .int .i64 x.seq, .int .i64 x.kind, .int .i64 x.c, .int .i64 x.s, .int .i64 x.lo, .int .i64 x.hi, .slice A x.n c1, .bool x.fu] 35)
        have hsz1 : (w1.alloc (.cells #[.string x.key, .int .i64 x.seq, .int .i64 x.kind, .int .i64 x.c, .int .i64 x.s, .int .i64 x.lo, .int .i64 x.hi, .slice A x.n c1, .bool x.fu] 35)).heap.size = w1.heap.size + 1 := by simp
        have hlt := hO.own.lt
        have nB : some w.heap.size ≠ (Value.slice ao k c).ownBlock := fun e => by have := (hlt _ e.symm).1; omega
        have nE : some w1.heap.size ≠ (Value.slice ao k c).ownBlock := fun e => by have := (hlt _ e.symm).2; omega
        have BR2 := (BRb.keep bE).keep bE2
        have xc : ((w1.alloc (.cells #[.string x.key, .int .i64 x.seq, .int .i64 x.kind, .int .i64 x.c, .int .i64 x.s, .int .i64 x.lo, .int .i64 x.hi, .slice A x.n c1, .bool x.fu] 35)).alloc (.cells #[.string x.key, .int .i64 x.seq, .int .i64 x.kind, .int .i64 x.c, .int .i64 x.s, .int .i64 x.lo, .int .i64 x.hi, .slice A x.n c1, .bool x.fu] 35)).cell? ⟨w1.heap.size, 0, none⟩ = some (.string x.key) := (bE2.cell (p := ⟨w1.heap.size, 0, none⟩) (show w1.heap.size < _ from by rw [hsz1]; exact Nat.lt_succ_self _)).trans (by simp [go_sem])
        have bw2 : Below w.heap.size w ((w1.alloc (.cells #[.string x.key, .int .i64 x.seq, .int .i64 x.kind, .int .i64 x.c, .int .i64 x.s, .int .i64 x.lo, .int .i64 x.hi, .slice A x.n c1, .bool x.fu] 35)).alloc (.cells #[.string x.key, .int .i64 x.seq, .int .i64 x.kind, .int .i64 x.c, .int .i64 x.s, .int .i64 x.lo, .int .i64 x.hi, .slice A x.n c1, .bool x.fu] 35)) := (bw1.trans (bE.mono (by omega))).trans (bE2.mono (by simp; omega))
        rcases Db with ⟨rfl, _, hEY, hOwn⟩ | ⟨rfl, hno⟩
        · have hRd' := hRd.step hqn (HA ▸ hEY)
          have hsz := ey_size hEY
          have HR : HRow w1 (w.heap.size + 1) (.slice A x.n c1) x (.slice ao k c) := by
            refine ⟨A, c1, rfl, ?_⟩
            rcases hOwn with h | ⟨h8, G, h1, h2, h3⟩
            · exact .inl h
            · refine .inr ⟨G, h1, by have := BR1.lt; omega, by rw [h8]; exact h3, fun e => ?_⟩
              have := (hlt _ e).2
              omega
          have HN : Hid (∀ i, i < k → ∀ z, (V i).ownBlock = some z → (Value.slice A x.n c1).ownBlock ≠ some z) := fun i hi z hz h2 => by
            have hz2 := ((hO.row i hi).at z hz).2
            rcases hOwn with h | ⟨h8, G, h1, h3, _⟩
            · rw [h.2] at h2; simp [Value.ownBlock] at h2
            · rw [h1] at h2
              have e : G = z := by simpa [Value.ownBlock] using h2
              omega
          go_wp2_with (at_builtin; refine wpList_pushH2 (w := w1.alloc (.cells #[.string x.key, .int .i64 x.seq, .int .i64 x.kind, .int .i64 x.c, .int .i64 x.s, .int .i64 x.lo, .int .i64 x.hi, .slice A x.n c1, .bool x.fu] 35)) (w1.heap.size + 1) (by simp) rfl (.tmp 26) (.tmp 28) rfl (w.heap.size + 1) (.slice ao k c) (.slice A x.n c1) k X V x rfl (hO1.keep bE) (HR.keep bE) HN.out rfl (by omega) (by rw [hsz1]; omega) rfl ?_; intro v2 w2 hO2 hg2; obtain ⟨ao2, c2, rfl⟩ := ownsRow_form hO2.own; have xc2 := hg2.cell xc nE)
          have BR3 := BR2.grown hg2 nB
          have bw3 := bw2.grown hg2 bw2.size (fun k hk => by have := (hlt _ hk).1; omega)
          go_wp2
          refine ⟨⟨k + 1, q1, false, x.key, ao2, c2, rfl, rfl, BR3, hq1, by omega, bw3, .inl ⟨rfl, by omega, ?_, _, _, hRd', .inr (by simp), hO2⟩⟩, ?_⟩
          · have e0 : (⟨#[]⟩ : ByteArray).size = 0 := rfl
            omega
          · rw [msr_eq BR3, msr_eq BR1, if_neg (by decide), if_neg (by decide)]
            omega
        · have hno' := hno.resolve_left (by decide)
          go_wp2_with (at_builtin; refine wpList_pushO2 (w := w1.alloc (.cells #[.string x.key, .int .i64 x.seq, .int .i64 x.kind, .int .i64 x.c, .int .i64 x.s, .int .i64 x.lo, .int .i64 x.hi, .slice A x.n c1, .bool x.fu] 35)) (w1.heap.size + 1) (by simp) rfl (.tmp 26) (.tmp 28) rfl (w.heap.size + 1) (.slice ao k c) (.slice A x.n c1) k _ x rfl (hO1.keep bE).own rfl (by omega) (by rw [hsz1]; omega) rfl ?_; intro v2 w2 hO2 hg2; obtain ⟨ao2, c2, rfl⟩ := ownsRow_form hO2; have xc2 := hg2.cell xc nE)
          have BR3 := BR2.grown hg2 nB
          have bw3 := bw2.grown hg2 bw2.size (fun k hk => by have := (hlt _ hk).1; omega)
          go_wp2
          refine ⟨⟨k + 1, q1, true, x.key, ao2, c2, rfl, rfl, BR3, hq1, by omega, bw3, .inr ⟨rfl, rdK_torn hRd hqn (fun y q'' h => hno' y q'' (HA ▸ h))⟩⟩, ?_⟩
          rw [msr_eq BR3, msr_eq BR1, if_pos rfl, if_neg (by decide)]
          omega
    · rcases Nat.lt_or_ge q n with hqn | hqn
      · obtain rfl : t = true := by
          cases t
          · exact absurd ⟨hqn, rfl⟩ hc
          · rfl
        have hqi : (q : Int) < (n : Int) := by omega
        have HT : ∀ Y m, ¬ RdK f n Y m n := by
          rcases HI.out with ⟨h, _⟩ | ⟨_, h⟩
          · cases h
          · exact h
        go_wp2
        go_region
        go_wp2
        exact bodyPost_ret (v := .tuple #[.slice ao k c, .bool false]) (by simp [results, Tryz.results89, go_sem]) rfl ⟨_, true, rfl, bw.drew, .inr ⟨rfl, HT⟩⟩
      · obtain rfl : q = n := by omega
        have hqi : ¬ (q : Int) < (q : Int) := by omega
        go_wp2
        go_region
        go_wp2
        refine bodyPost_ret (v := .tuple #[.slice ao k c, .bool (!t)]) (by simp [results, Tryz.results89, go_sem]) rfl ⟨_, t, rfl, bw.drew, ?_⟩
        rcases HI.out with ⟨h, h1, h2, X, V, h3, h4, h5⟩ | h
        · exact .inl ⟨h, k, X, V, h3, h1, h5.keep (Below.refl _ _).drew⟩
        · exact .inr h
end Go.Proofs.YtohjjigkfdhklaaGreat
