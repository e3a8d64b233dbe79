/- A key read out of a text: what it is. -/
import Derived.Test.YtpddodjecbcmlaaDoorTo
import Derived.Test.YtpddodjecbcmlaaDoorGoodKeys
import Derived.Test.YtpddodjecbcmlaaDoorKeyAt
namespace Go.Proofs.YtpddodjecbcmlaaDoor
open Go.RowKit
set_option linter.unusedSimpArgs false
set_option linter.unusedVariables false

def h0 (s : ByteArray) : ByteArray := (spB 64 s).getD 0 ⟨#[]⟩
def h1 (s : ByteArray) : ByteArray := (spB 64 s).getD 1 ⟨#[]⟩
def wd (s : ByteArray) : List ByteArray := spB 44 (h0 s)
def km (s : ByteArray) : ByteArray := (wd s).getD 0 ⟨#[]⟩
def kt (s : ByteArray) : List (ByteArray × ByteArray) := tagsW (wd s).tail
/-- The text is a good key's. -/
def KP (s : ByteArray) : Prop := (spB 64 s).length = 2 ∧ (∀ x ∈ (wd s).tail, Two x) ∧ goodB (km s) (kt s).length (nmL (kt s)) (vlL (kt s)) (numI (h1 s)) = true
/-- What reading a key leaves. -/
def RkO (s : ByteArray) (w : World) (e : Ending) (w' : World) : Prop :=
  Below w.heap.size w w' ∧ ((¬ KP s ∧ e = .returned (.tuple #[.agg #[.string ⟨#[]⟩, .slice none 0 0, .int .i64 0], .bool false])) ∨
    (KP s ∧ ∃ va vc, e = .returned (.tuple #[.agg #[.string (km s), .slice va (kt s).length vc, .int .i64 (numI (h1 s))], .bool true]) ∧ TgL w' w.heap.size (.slice va (kt s).length vc) (kt s)))

/-- How long the parts are together. -/
theorem sp_total (b : UInt8) : ∀ l : List UInt8, ((sp b l).map List.length).sum + (sp b l).length = l.length + 1
  | [] => by simp [sp]
  | c :: l => by
    have ih := sp_total b l
    unfold sp
    split
    · simp; omega
    · split
      · rename_i e; rw [e] at ih; simp at ih
      · rename_i e; rw [e] at ih; simp at ih ⊢; omega
theorem spB_total (b : UInt8) (s : ByteArray) : ((spB b s).map ByteArray.size).sum + (spB b s).length = s.size + 1 := by
  have h := sp_total b s.data.toList
  have e : (spB b s).map ByteArray.size = (sp b s.data.toList).map List.length := by
    unfold spB spL
    rw [List.map_map]
    refine List.map_congr_left fun p _ => ?_
    simp [ByteArray.size]
  have hl : s.data.toList.length = s.size := Array.length_toList
  rw [e, spB, spL_len, h, hl]
theorem two_form {l : List ByteArray} (h : l.length = 2) : l = [l.getD 0 ⟨#[]⟩, l.getD 1 ⟨#[]⟩] := by
  match l, h with
  | [a, b], _ => rfl
theorem side_size {x : ByteArray} (h : Two x) : x.size = (side x).1.size + (side x).2.size + 1 := by
  have h1 := spB_total 61 x
  have h2 := two_form h
  unfold side
  rw [h2] at h1
  simp only [List.map_cons, List.map_nil, List.sum_cons, List.sum_nil, List.length_cons, List.length_nil] at h1
  simp only
  omega
theorem tags_size {W : List ByteArray} (h : ∀ x ∈ W, Two x) (hs : ∀ p ∈ tagsW W, p.1.size ≤ 12 ∧ p.2.size ≤ 12) : (W.map ByteArray.size).sum ≤ 25 * W.length := by
  induction W with
  | nil => simp
  | cons x W ih =>
    have h1 := ih (fun y hy => h y (List.mem_cons_of_mem _ hy)) (fun p hp => hs p (by simp only [tagsW, List.map_cons, List.mem_cons] at hp ⊢; exact .inr hp))
    have h2 := side_size (h x (List.mem_cons_self ..))
    have h3 := hs (side x) (by simp [tagsW])
    simp only [List.map_cons, List.sum_cons, List.length_cons]
    omega
theorem tsz_of {T : List (ByteArray × ByteArray)} {z : Nat} (h : TSize T.length (nmL T) (vlL T) z) : ∀ p ∈ T, p.1.size ≤ z ∧ p.2.size ≤ z := by
  intro p hp
  obtain ⟨i, hi, rfl⟩ := List.mem_iff_getElem.1 hp
  have := h i hi
  simpa [nmL, vlL, hi] using this
theorem of_tsz {T : List (ByteArray × ByteArray)} {z : Nat} (h : ∀ p ∈ T, p.1.size ≤ z ∧ p.2.size ≤ z) : TSize T.length (nmL T) (vlL T) z := by
  intro i hi
  have := h _ (List.getElem_mem hi)
  simpa [nmL, vlL, hi] using this
theorem goodB_sizes2 {m : ByteArray} {n : Nat} {nm vl : Nat → ByteArray} {st : Int} (h : goodB m n nm vl st = true) : m.size ≤ 12 ∧ n ≤ 4 ∧ TSize n nm vl 12 ∧ 0 ≤ st ∧ st ≤ 1000000000 := by
  simp only [goodB, goodTagsB, tagsOk, Bool.and_eq_true, decide_eq_true_eq, List.all_eq_true, List.mem_range, tagOk] at h
  obtain ⟨⟨⟨h1, h2, h3⟩, h4⟩, h5⟩ := h
  refine ⟨(nmB_size h1).2, h2, fun i hi => ?_, h4, h5⟩
  have := h3 i hi
  exact ⟨(nmB_size this.1.1).2, (nmB_size this.1.2).2⟩
theorem wd_pos (s : ByteArray) : 1 ≤ (wd s).length := by
  unfold wd spB
  rw [spL_len]
  exact sp_pos _ _
theorem wd_form (s : ByteArray) : wd s = km s :: (wd s).tail := by
  have h := wd_pos s
  unfold km
  match hw : wd s, h with
  | a :: l, _ => rfl
theorem half_size {s : ByteArray} (h : (spB 64 s).length = 2) : s.size = (h0 s).size + (h1 s).size + 1 := by
  have e1 := spB_total 64 s
  have e2 := two_form h
  unfold h0 h1
  rw [e2] at e1
  simp only [List.map_cons, List.map_nil, List.sum_cons, List.sum_nil, List.length_cons, List.length_nil] at e1
  omega
theorem KP.num {s : ByteArray} (h : KP s) : NumP (h1 s) := by
  by_cases hn : NumP (h1 s)
  · exact hn
  · have := (goodB_sizes2 h.2.2).2.2.2.1
    rw [numI_no hn] at this
    omega
theorem KP.size {s : ByteArray} (h : KP s) : s.size ≤ 127 := by
  obtain ⟨a1, a2, a3, a4, a5⟩ := goodB_sizes2 h.2.2
  have e1 := half_size h.1
  have e2 := h.num.2.1
  have e3 := spB_total 44 (h0 s)
  have e4 := tags_size h.2.1 (tsz_of a3)
  have e5 : (spB 44 (h0 s)) = km s :: (wd s).tail := wd_form s
  have e6 : (kt s).length = (wd s).tail.length := tagsW_len _
  rw [e5] at e3
  simp only [List.map_cons, List.sum_cons, List.length_cons] at e3
  omega
end Go.Proofs.YtpddodjecbcmlaaDoor
