/- Rows of tags and of texts that the call itself makes. -/
import Derived.Test.YtpddodjecbcmlaaTags
import Derived.Maps.AppendAt
import Derived.OwnWalk
namespace Go.Proofs.Ytpddodjecbcmlaa
open Go.RowKit
set_option linter.unusedSimpArgs false
set_option linter.unusedVariables false

theorem ownsRow_keep {w w' : World} {base e size n : Nat} {v : Value} {xs : List Value} (h : w.ownsRow base e size v n xs) (hb : Below w.heap.size w w') : w'.ownsRow base e size v n xs := by
  refine ⟨h.1, ?_⟩
  rcases h.2 with ⟨rfl, h0⟩ | ⟨g, cap, cur, rfl, h1, h2, h3⟩
  · exact .inl ⟨rfl, h0⟩
  · exact .inr ⟨g, cap, cur, rfl, h1, (hb.block g (Array.getElem?_eq_some_iff.1 h2).1).trans h2, h3⟩
theorem ownsRow_mono {w : World} {base base' e size n : Nat} {v : Value} {xs : List Value} (h : w.ownsRow base e size v n xs) (hb : base' ≤ base) : w.ownsRow base' e size v n xs := by
  refine ⟨h.1, ?_⟩
  rcases h.2 with ⟨rfl, h0⟩ | ⟨g, cap, cur, rfl, h1, h2⟩
  · exact .inl ⟨rfl, h0⟩
  · exact .inr ⟨g, cap, cur, rfl, Nat.le_trans hb h1, h2⟩
theorem ownsRow_form {w : World} {base e size n : Nat} {v : Value} {xs : List Value} (h : w.ownsRow base e size v n xs) : ∃ ao cap, v = .slice ao n cap := by
  rcases h.2 with ⟨rfl, h0⟩ | ⟨g, cap, cur, rfl, _⟩
  · exact ⟨none, 0, by rw [h0]⟩
  · exact ⟨_, _, rfl⟩
theorem ownsRow_kept {w w' : World} {base e size n : Nat} {v : Value} {xs : List Value} {row : Option Nat} (h : w.ownsRow base e size v n xs) (hg : w.grownBy w' row) (hne : ∀ k, row = some k → v.ownBlock ≠ some k) : w'.ownsRow base e size v n xs := by
  refine h.kept hg ?_
  cases hr : v.ownBlock with
  | none => exact .inl rfl
  | some k => exact .inr fun e => hne k e.symm hr

theorem ownsRow_others {w w' : World} {base e size n d : Nat} {v : Value} {xs : List Value} (h : w.ownsRow base e size v n xs) (ho : Others d w w') (hne : v.ownBlock ≠ some d) : w'.ownsRow base e size v n xs :=
  ownsRow_kept (row := some d) h ⟨ho.os, ho.tape, ho.output, by rw [ho.size]; exact Nat.le_refl _, fun i _ hn => ho.block i (fun e => hn (by rw [e]))⟩ (fun k hk => by injection hk with hk; subst hk; exact hne)

theorem Try.infoTag' : (Try.prog.info? 64).map (fun i => (i.zero, i.size, i.bytes)) = some (some (.agg #[.string ByteArray.empty, .string ByteArray.empty]), 2, 32) := by kernel_rfl
theorem Try.infoStr' : (Try.prog.info? 9).map (fun i => (i.zero, i.size, i.bytes)) = some (some (.string ByteArray.empty), 1, 16) := by kernel_rfl

/-- The cells of tags. -/
def tgl (T : List (ByteArray × ByteArray)) : List Value := T.flatMap fun p => [.string p.1, .string p.2]
def nmL (T : List (ByteArray × ByteArray)) (i : Nat) : ByteArray := (T.getD i (⟨#[]⟩, ⟨#[]⟩)).1
def vlL (T : List (ByteArray × ByteArray)) (i : Nat) : ByteArray := (T.getD i (⟨#[]⟩, ⟨#[]⟩)).2
theorem tgl_len (T : List (ByteArray × ByteArray)) : (tgl T).length = T.length * 2 := by
  unfold tgl
  induction T with
  | nil => rfl
  | cons p T ih => rw [List.flatMap_cons, List.length_append, ih]; simp; omega
theorem tgl_get : ∀ (T : List (ByteArray × ByteArray)) (i : Nat), i < T.length → (tgl T)[i * 2]? = some (.string (nmL T i)) ∧ (tgl T)[i * 2 + 1]? = some (.string (vlL T i))
  | [], i, h => by simp at h
  | p :: T, 0, h => by simp [tgl, nmL, vlL]
  | p :: T, i + 1, h => by
    have h1 := tgl_get T i (by simpa using h)
    have e : tgl (p :: T) = .string p.1 :: .string p.2 :: tgl T := by simp [tgl]
    rw [e, show (i + 1) * 2 = i * 2 + 1 + 1 by omega]
    simpa [nmL, vlL] using h1
theorem tgl_one (T : List (ByteArray × ByteArray)) : ∀ u ∈ tgl T, u.oneCell' = true := by
  intro u hu
  simp only [tgl, List.mem_flatMap, List.mem_cons, List.not_mem_nil, or_false] at hu
  obtain ⟨i, _, rfl | rfl⟩ := hu <;> rfl
theorem tgl_append (T U : List (ByteArray × ByteArray)) : tgl (T ++ U) = tgl T ++ tgl U := by simp [tgl]
/-- v is a slice of tags of the call's own. -/
def TgL (w : World) (base : Nat) (v : Value) (T : List (ByteArray × ByteArray)) : Prop := w.ownsRow base 64 2 v T.length (tgl T)
theorem tgL_nil (w : World) (base : Nat) : TgL w base (.slice none 0 0) [] := World.ownsRow_nil _ _ _ _
theorem TgL.row {w : World} {base : Nat} {ao : Option Addr} {n cap : Nat} {T : List (ByteArray × ByteArray)} (h : TgL w base (.slice ao n cap) T) : n = T.length ∧ TRow w ao T.length (nmL T) (vlL T) := by
  have h' := id h
  rcases h.2 with ⟨e, h0⟩ | ⟨g, cap, cur, e, h1, h2, h3⟩
  · injection e with e1 e2 e3
    exact ⟨by omega, ⟨.inl h0⟩⟩
  · injection e with e1 e2 e3
    subst e1 e2 e3
    refine ⟨rfl, ⟨.inr ⟨g, 0, rfl, (Array.getElem?_eq_some_iff.1 h2).1, fun i hi => ?_⟩⟩⟩
    have k1 := World.ownsRow.cellAt h' (i * 2) (by omega)
    have k2 := World.ownsRow.cellAt h' (i * 2 + 1) (by omega)
    rw [Nat.zero_add, k1, k2]
    exact tgl_get T i hi
theorem TgL.form {w : World} {base : Nat} {v : Value} {T : List (ByteArray × ByteArray)} (h : TgL w base v T) : ∃ ao cap, v = .slice ao T.length cap := ownsRow_form h
/-- A tag put behind the others. -/
theorem tgL_push {w : World} {base : Nat} {v : Value} {T : List (ByteArray × ByteArray)} (h : TgL w base v T) (B c : Nat) (a b : ByteArray) (h0 : w.cell? ⟨B, 0, none⟩ = some (.string a)) (h1 : w.cell? ⟨B, 1, none⟩ = some (.string b)) (hn : T.length ≤ 1048576) (hb : base ≤ w.heap.size) (ty : TypeId) :
    ∃ ao' c' w', (Builtin.append_ #[35, 35] ty #[v, .slice (some ⟨B, 0, none⟩) 1 c]).run Try.prog w = .ok (.slice ao' (T.length + 1) c') w' ∧ TgL w' base (.slice ao' (T.length + 1) c') (T ++ [(a, b)]) ∧ w.grownBy w' v.ownBlock ∧ ((Value.slice ao' (T.length + 1) c').ownBlock = v.ownBlock ∨ (Value.slice ao' (T.length + 1) c').ownBlock = some w.heap.size) := by
  obtain ⟨i0, hi, hz0, hz1, hz2⟩ := info_parts Try.infoTag'
  obtain ⟨v', w', hrun, hown, hg, _, hat⟩ := run_append_own_at (P := Try.prog) w base 35 ty 64 i0 _ 2 32 Try.underlying35 hi hz0 hz1 hz2 rfl (by decide) v T.length (tgl T) h ⟨B, 0, none⟩ 1 c [.string a, .string b] rfl (fun j u hu => by
      rcases j with _ | _ | j
      · simp at hu; subst hu; exact h0
      · simp at hu; subst hu; exact h1
      · simp at hu) (fun u hu => by simp at hu; rcases hu with rfl | rfl <;> rfl) (by unfold maxLen; omega) (by omega) hb
  have e : TgL w' base v' (T ++ [(a, b)]) := by
    unfold TgL
    rw [tgl_append, List.length_append]
    exact hown
  obtain ⟨ao', c', rfl⟩ := e.form
  rw [List.length_append] at hrun e hat
  exact ⟨ao', c', w', hrun, e, hg, hat⟩

/-- The cells of texts. -/
def stl (L : List ByteArray) : List Value := L.map Value.string
/-- v is a slice of texts of the call's own. -/
def StL (w : World) (base : Nat) (v : Value) (L : List ByteArray) : Prop := w.ownsRow base 9 1 v L.length (stl L)
theorem stL_nil (w : World) (base : Nat) : StL w base (.slice none 0 0) [] := World.ownsRow_nil _ _ _ _
theorem StL.form {w : World} {base : Nat} {v : Value} {L : List ByteArray} (h : StL w base v L) : ∃ ao cap, v = .slice ao L.length cap := ownsRow_form h
theorem StL.at {w : World} {base : Nat} {v : Value} {L : List ByteArray} (h : StL w base v L) (hn : 0 < L.length) : ∃ g cap, v = .slice (some ⟨g, 0, none⟩) L.length cap ∧ base ≤ g ∧ g < w.heap.size ∧ L.length ≤ cap ∧ ∀ i (hi : i < L.length), w.cell? ⟨g, i, none⟩ = some (.string L[i]) := by
  have h' := id h
  rcases h.2 with ⟨_, h0⟩ | ⟨g, cap, cur, e, h1, h2, h3, _⟩
  · omega
  · subst e
    refine ⟨g, cap, rfl, h1, (Array.getElem?_eq_some_iff.1 h2).1, h3, fun i hi => ?_⟩
    rw [World.ownsRow.cellAt h' i (by omega)]
    simp [stl, hi]
/-- A text put behind the others. -/
theorem stL_push {w : World} {base : Nat} {v : Value} {L : List ByteArray} (h : StL w base v L) (B c : Nat) (x : ByteArray) (h0 : w.cell? ⟨B, 0, none⟩ = some (.string x)) (hn : L.length ≤ 4194304) (hb : base ≤ w.heap.size) (ty : TypeId) :
    ∃ ao' c' w', (Builtin.append_ #[74, 74] ty #[v, .slice (some ⟨B, 0, none⟩) 1 c]).run Try.prog w = .ok (.slice ao' (L.length + 1) c') w' ∧ StL w' base (.slice ao' (L.length + 1) c') (L ++ [x]) ∧ w.grownBy w' v.ownBlock ∧ ((Value.slice ao' (L.length + 1) c').ownBlock = v.ownBlock ∨ (Value.slice ao' (L.length + 1) c').ownBlock = some w.heap.size) := by
  obtain ⟨i0, hi, hz0, hz1, hz2⟩ := info_parts Try.infoStr'
  obtain ⟨v', w', hrun, hown, hg, _, hat⟩ := run_append_own_at (P := Try.prog) w base 74 ty 9 i0 _ 1 16 Try.underlying74 hi hz0 hz1 hz2 rfl (by decide) v L.length (stl L) h ⟨B, 0, none⟩ 1 c [.string x] rfl (fun j u hu => by
      rcases j with _ | j
      · simp at hu; subst hu; exact h0
      · simp at hu) (fun u hu => by simp at hu; subst hu; rfl) (by unfold maxLen; omega) (by omega) hb
  have e : StL w' base v' (L ++ [x]) := by
    unfold StL stl
    rw [List.map_append, List.length_append]
    exact hown
  obtain ⟨ao', c', rfl⟩ := e.form
  rw [List.length_append] at hrun e hat
  exact ⟨ao', c', w', hrun, e, hg, hat⟩
end Go.Proofs.Ytpddodjecbcmlaa
