/- An edit applied, as lists: what is dropped, what is put; a draft's levels as an answer. / Edits that are good, in both texts. -/
import Derived.Test.YtagkhohglpjjlaaAj
import Derived.Test.YtagkhohglpjjlaaAp
import Derived.Test.YtagkhohglpjjlaaGt
namespace Go.Proofs.Ytagkhohglpjjlaa
open Go.RowKit
set_option linter.unusedSimpArgs false
set_option linter.unusedVariables false

/-- A level without all these files. -/
def dropd (D : List Int) (L : List Met) : List Met := L.filter fun m => !decide (m.file ∈ D)
theorem dropd_nil (L : List Met) : dropd [] L = L := by simp [dropd]
theorem dropd_push (D : List Int) (d : Int) (L : List Met) : dropd (D ++ [d]) L = wo (dropd D L) d := by
  unfold dropd wo
  rw [List.filter_filter]
  congr 1
  funext m
  by_cases h1 : m.file ∈ D <;> by_cases h2 : m.file = d <;> simp [h1, h2]
theorem dropd_mem {D : List Int} {L : List Met} {m : Met} : m ∈ dropd D L ↔ m ∈ L ∧ m.file ∉ D := by simp [dropd]
theorem dropd_len (D : List Int) (L : List Met) : (dropd D L).length ≤ L.length := List.length_filter_le _ _
/-- Each is there, none twice. -/
def OkD (N : Nat) (LL : Nat → List Met) (D : List Int) : Prop := D.Nodup ∧ ∀ d ∈ D, ∃ i, i < N ∧ ∃ m ∈ LL i, m.file = d
/-- A file is on one level alone. -/
def Uq (N : Nat) (LL : Nat → List Met) : Prop := ∀ i j, i < N → j < N → ∀ m ∈ LL i, ∀ m' ∈ LL j, m.file = m'.file → i = j
section
variable {N : Nat} {LL LLk : Nat → List Met} {D : List Int} {d : Int}
theorem okD_front {E : List Int} (h : OkD N LL (D ++ E)) : OkD N LL D := ⟨(List.nodup_append.1 h.1).1, fun d hd => h.2 d (List.mem_append_left _ hd)⟩
theorem okD_no (h : ∀ j, j < N → noF (dropd D (LL j)) d) : ¬ OkD N LL (D ++ [d]) := by
  intro ⟨hn, ha⟩
  obtain ⟨i, hi, m, hm, e⟩ := ha d (by simp)
  by_cases hd : d ∈ D
  · exact (List.nodup_append.1 hn).2.2 d hd d (by simp) rfl
  · exact h i hi m (dropd_mem.2 ⟨hm, by rw [e]; exact hd⟩) e
theorem okD_yes {i : Nat} (h : OkD N LL D) (hu : Uq N LL) (hi : i < N) (hf : ¬ noF (dropd D (LL i)) d) : OkD N LL (D ++ [d]) ∧ ∀ j, j < N → (if j = i then wo (dropd D (LL i)) d else dropd D (LL j)) = dropd (D ++ [d]) (LL j) := by
  obtain ⟨m, hm, e⟩ : ∃ m ∈ dropd D (LL i), m.file = d := (noF_or _ _).resolve_left hf
  obtain ⟨hm, hmD⟩ := dropd_mem.1 hm
  refine ⟨⟨List.nodup_append.2 ⟨h.1, by simp, fun a ha b hb => ?_⟩, fun x hx => ?_⟩, fun j hj => ?_⟩
  · rw [List.mem_singleton.1 hb]
    rintro rfl
    rw [e] at hmD
    exact hmD ha
  · rcases List.mem_append.1 hx with hx | hx
    · exact h.2 x hx
    · rw [List.mem_singleton.1 hx]; exact ⟨i, hi, m, hm, e⟩
  · rw [dropd_push]
    by_cases ej : j = i
    · subst ej; simp only [if_true]
    · simp only [ej, if_false]
      refine (wo_none fun m' hm' e' => ?_).symm
      exact ej (hu j i hj hi m' (dropd_mem.1 hm').1 m hm (by rw [e', e]))
/-- What the loop of drops holds. -/
def DI (N : Nat) (LL : Nat → List Met) (D : List Int) (k : Nat) (LLk : Nat → List Met) (fl : Bool) : Prop :=
  (fl = false ∧ (∀ i, i < N → LLk i = dropd (D.take k) (LL i)) ∧ OkD N LL (D.take k)) ∨ (fl = true ∧ ¬ OkD N LL D)
theorem di_zero : DI N LL D 0 LL false := .inl ⟨rfl, fun i _ => by simp [dropd_nil], by simp [OkD]⟩
theorem take_fi {k : Nat} (h : k < D.length) : D.take (k + 1) = D.take k ++ [fi D k] := by
  rw [List.take_succ_eq_append_getElem h]; simp [fi, h]
theorem di_found {k i : Nat} {fl : Bool} (h : DI N LL D k LLk fl) (hu : Uq N LL) (hk : k < D.length) (hi : i < N) (hf : ¬ noF (LLk i) (fi D k)) : DI N LL D (k + 1) (fun j => if j = i then wo (LLk i) (fi D k) else LLk j) fl := by
  rcases h with ⟨h1, h2, h3⟩ | h
  · rw [h2 i hi] at hf
    obtain ⟨a1, a2⟩ := okD_yes h3 hu hi hf
    refine .inl ⟨h1, fun j hj => ?_, by rw [take_fi hk]; exact a1⟩
    rw [take_fi hk, ← a2 j hj]
    by_cases e : j = i
    · subst e; simp only [if_true]; rw [h2 j hj]
    · simp only [e, if_false]; exact h2 j hj
  · exact .inr h
theorem di_none {k : Nat} {fl : Bool} (h : DI N LL D k LLk fl) (hk : k < D.length) (hf : ∀ j, j < N → noF (LLk j) (fi D k)) : DI N LL D (k + 1) LLk true := by
  refine .inr ⟨rfl, ?_⟩
  rcases h with ⟨h1, h2, h3⟩ | h
  · intro hD
    have h4 : OkD N LL (D.take (k + 1) ++ D.drop (k + 1)) := by rw [List.take_append_drop]; exact hD
    have h5 := okD_front h4
    rw [take_fi hk] at h5
    exact okD_no (fun j hj => by rw [← h2 j hj]; exact hf j hj) h5
  · exact h.2
/-- One put. -/
def stepA (LL : Nat → List Met) (y : Adm) : Nat → List Met := fun j => if j = y.lv.toNat then plP (LL j) j y.m else LL j
def addsL (LL : Nat → List Met) (A : List Adm) : Nat → List Met := A.foldl stepA LL
theorem addsL_push (A : List Adm) (y : Adm) : addsL LL (A ++ [y]) = stepA (addsL LL A) y := by simp [addsL]
theorem take_dL {A : List Adm} {k : Nat} (h : k < A.length) : A.take (k + 1) = A.take k ++ [dL A k] := by
  rw [List.take_succ_eq_append_getElem h]; simp [dL, h]
/-- All of an edit. -/
def apL (LL : Nat → List Met) (D : List Int) (A : List Adm) : Nat → List Met := addsL (fun i => dropd D (LL i)) A
def AI (N : Nat) (LL : Nat → List Met) (D : List Int) (A : List Adm) (k : Nat) (LLk : Nat → List Met) (fl : Bool) : Prop :=
  (fl = false ∧ (∀ i, i < N → LLk i = apL LL D (A.take k) i) ∧ OkD N LL D) ∨ (fl = true ∧ ¬ OkD N LL D)
theorem ai_zero {A : List Adm} {fl : Bool} (h : DI N LL D D.length LLk fl) : AI N LL D A 0 LLk fl := by
  rcases h with ⟨h1, h2, h3⟩ | h
  · rw [List.take_length] at h2 h3
    exact .inl ⟨h1, fun i hi => by rw [h2 i hi]; simp [apL, addsL], h3⟩
  · exact .inr h
theorem ai_step {A : List Adm} {k : Nat} {fl : Bool} (h : AI N LL D A k LLk fl) (hk : k < A.length) : AI N LL D A (k + 1) (fun j => if j = (dL A k).lv.toNat then plP (LLk (dL A k).lv.toNat) (dL A k).lv.toNat (dL A k).m else LLk j) fl := by
  rcases h with ⟨h1, h2, h3⟩ | h
  · refine .inl ⟨h1, fun j hj => ?_, h3⟩
    unfold apL
    rw [take_dL hk, addsL_push]
    unfold stepA
    by_cases e : j = (dL A k).lv.toNat
    · rw [← e]; simp only [if_true]; rw [h2 j hj]; rfl
    · simp only [e, if_false]; exact h2 j hj
  · exact .inr h
end
section
variable {w w' : World} {base g N : Nat} {V : Nat → Value} {LL : Nat → List Met}
theorem Lv.vrow (h : Lv w base g N V LL) (hM : ∀ i, i < N → (LL i).length ≤ 1048576) : VRow w (some ⟨g, 0, none⟩) N (fun i => mL (LL i)) (fun i => (LL i).length) := by
  refine ⟨fun i hi j hj => (h.own i hi).bd _ (mL_mem hj), fun i hi => by have := hM i hi; omega, .inr ⟨g, 0, rfl, h.lt, fun i hi => ?_⟩⟩
  obtain ⟨so, sc, e, _⟩ := (h.own i hi).form
  have hc := h.cell i hi
  have ho := h.own i hi
  rw [e] at hc ho
  exact ⟨so, sc, by rw [Nat.zero_add]; exact hc, ho.row⟩
def adr : Value → Option Addr
  | .slice a _ _ => a
  | _ => none
def cpr : Value → Nat
  | .slice _ _ c => c
  | _ => 0
theorem Lv.va (h : Lv w base g N V LL) : VA w base w.heap.size (some ⟨g, 0, none⟩) N (fun i => mL (LL i)) (fun i => (LL i).length) := by
  have hV : ∀ i, i < N → V i = .slice (adr (V i)) (LL i).length (cpr (V i)) := fun i hi => by
    obtain ⟨so, sc, e, _⟩ := (h.own i hi).form
    rw [e]
    rfl
  have hrow : ∀ i, i < N → 0 < (LL i).length → ∃ g', adr (V i) = some ⟨g', 0, none⟩ ∧ base ≤ g' ∧ g' < w.heap.size ∧ (V i).ownBlock = some g' ∧ MOwn w g' (LL i).length (mL (LL i)) := fun i hi h0 => by
    obtain ⟨g', cap, e, h1, h2, h3⟩ := (h.own i hi).at h0
    have h4 : (V i).ownBlock = some g' := by rw [e]; rfl
    exact ⟨g', by rw [e]; rfl, h1, ((h.own i hi).own.lt g' h4).2, h4, h3⟩
  refine ⟨Nat.le_refl _, .inr ⟨g, fun i => adr (V i), fun i => cpr (V i), rfl, h.bs, h.lt, ⟨h.lt, fun i hi => by rw [h.cell i hi]; exact congrArg some (hV i hi), fun i hi => ?_, fun i j hi hj hij h1 h2 => ?_, fun j hj => by rw [h.cell j hj]; rfl, h.free⟩, fun i hi h0 g' e => ?_⟩⟩
  · by_cases h0 : (LL i).length = 0
    · exact .inl h0
    · obtain ⟨g', e, _, _, h4, h5⟩ := hrow i hi (by omega)
      exact .inr ⟨g', e, fun e2 => h.apart i hi (by rw [h4, e2]), h5⟩
  · obtain ⟨g1, e1, _, _, k1, _⟩ := hrow i hi h1
    obtain ⟨g2, e2, _, _, k2, _⟩ := hrow j hj h2
    intro e
    rw [e1, e2] at e
    injection e with e
    injection e with e _ _
    subst e
    exact h.dis i j hi hj hij g1 k1 k2
  · obtain ⟨g1, e1, a1, a2, _, _⟩ := hrow i hi h0
    have e : adr (V i) = some ⟨g', 0, none⟩ := e
    rw [e1] at e
    injection e with e
    injection e with e _ _
    subst e
    exact ⟨a1, a2⟩
end
end Go.Proofs.Ytagkhohglpjjlaa
namespace Go.Proofs.Ytagkhohglpjjlaa
open Go.RowKit
set_option linter.unusedSimpArgs false
set_option linter.unusedVariables false

/-- A good add. -/
def ga (y : Adm) : Bool := btw 0 y.lv 2 && gm y.m
/-- A good edit. -/
def GoodEd (nx lg sq : Int) (nd : Nat) (f : Nat → Int) (na : Nat) (Y : Nat → Adm) : Prop :=
  fN nx = true ∧ fN lg = true ∧ isC sq = true ∧ (nd ≤ 24 ∧ ∀ i, i < nd → fN (f i) = true) ∧ (na ≤ 24 ∧ ∀ i, i < na → ga (Y i) = true)

set_option maxHeartbeats 800000 in
theorem goodDrops_any (ao : Option Addr) (n cap : Nat) (f : Nat → Int) (w : World) (hr : IRow w ao n f) (hn : n ≤ 1048576) :
    Calls Try.prog 35 #[.slice ao n cap] w fun e w' => Ans (n ≤ 24 ∧ ∀ i, i < n → fN (f i) = true) w e w' := by
  obtain ⟨_, hlies⟩ := hr
  go_enter Try.func35, Try.ntmps35
  go_wp2
  go_loopw [7] (fun i wr => ∃ k : Nat, k ≤ n ∧ i = .int .i64 k ∧ Hid (∀ i, i < k → fN (f i) = true) ∧ wr = w) (fun i _ => n - (intOf i).toNat)
  case atStart => exact ⟨0, Nat.zero_le _, rfl, fun i h => by omega, rfl⟩
  case round =>
    obtain ⟨k, hk, rfl, HG, hw⟩ := hrel
    have hw2 := hw.symm
    clear hw
    subst hw2
    by_cases hlt : k < n
    · obtain ⟨b, off, rfl, hblt, hc⟩ := hlies.resolve_left (by omega)
      have a0 := hc k hlt
      clear hc hlies
      go_wp2_with fail
      refine (isFileNumber_any (f k) _).mono ?_
      rintro e w1 ⟨rfl, rfl⟩
      cases hg : fN (f k)
      · have H : Hid (¬ (n ≤ 24 ∧ ∀ i, i < n → fN (f i) = true)) := fun h => by have := h.2 k hlt; rw [hg] at this; cases this
        go_wp2
        go_ret
        exact Ans.mk false (by have := H.out; simp only [Bool.false_eq_true, this]) (Below.refl _ _)
      · have HG2 : Hid (∀ i, i < k + 1 → fN (f i) = true) := fun i hi => by
          rcases Nat.lt_succ_iff_lt_or_eq.1 hi with h | h
          · exact HG.out i h
          · subst h; exact hg
        go_wp2
        go_roundw
        case rel => exact ⟨k + 1, by omega, by go_num, HG2, by trivial⟩
        case measure => simp [intOf]; omega
    · obtain rfl : k = n := by omega
      by_cases h24 : k ≤ 24
      · have H : Hid (k ≤ 24 ∧ ∀ i, i < k → fN (f i) = true) := ⟨h24, HG.out⟩
        have hd : decide ((k : Int) ≤ 24) = true := decide_eq_true (by omega)
        clear HG
        go_wp2
        refine bodyPost_ret (v := .bool true) (by simp [results, Try.results35, go_sem, hd, h24]) rfl (Ans.mk true ⟨fun _ => H.out, fun _ => rfl⟩ (Below.refl _ _))
      · have H : Hid (¬ (k ≤ 24 ∧ ∀ i, i < k → fN (f i) = true)) := fun h => h24 h.1
        have hd : decide ((k : Int) ≤ 24) = false := decide_eq_false (by omega)
        clear HG
        go_wp2
        refine bodyPost_ret (v := .bool false) (by simp [results, Try.results35, go_sem, hd, h24]) rfl (Ans.mk false (by have := H.out; simp only [Bool.false_eq_true, this]) (Below.refl _ _))

set_option maxHeartbeats 1600000 in
theorem goodAdds_any (ao : Option Addr) (n cap : Nat) (Y : Nat → Adm) (w : World) (hr : DRow w ao n Y) (hn : n ≤ 1048576) :
    Calls Try.prog 36 #[.slice ao n cap] w fun e w' => Ans (n ≤ 24 ∧ ∀ i, i < n → ga (Y i) = true) w e w' := by
  obtain ⟨hbd, hlies⟩ := hr
  go_enter Try.func36, Try.ntmps36
  go_wp2
  go_loopw [7] (fun i wr => ∃ k : Nat, k ≤ n ∧ i = .int .i64 k ∧ Hid (∀ i, i < k → ga (Y i) = true) ∧ Below w.heap.size w wr) (fun i _ => n - (intOf i).toNat)
  case atStart => exact ⟨0, Nat.zero_le _, rfl, fun i h => by omega, Below.refl _ _⟩
  case round =>
    obtain ⟨k, hk, rfl, HG, hbk⟩ := hrel
    by_cases hlt : k < n
    · obtain ⟨b, off, rfl, hblt, hc⟩ := hlies.resolve_left (by omega)
      obtain ⟨_, a0, a1, a2, a3, a4⟩ := (hc k hlt).keep hbk
      have bn := below_new wr (.cells #[.int .i64 (Y k).lv, .int .i64 (Y k).m.file, .string (Y k).m.least, .string (Y k).m.most, .int .i64 (Y k).m.many] 54)
      have bwn := hbk.trans (bn.mono hbk.size)
      clear hc hlies
      have HGA : Hid (ga (Y k) = (decide (0 ≤ (Y k).lv) && decide ((Y k).lv ≤ 2) && gm (Y k).m)) := by simp [Hid, ga, btw, Bool.decide_and]
      by_cases h1 : (Y k).lv < 0
      · have H : Hid (¬ (n ≤ 24 ∧ ∀ i, i < n → ga (Y i) = true)) := fun h => by
          have h2 := h.2 k hlt
          rw [HGA.out, decide_eq_false (show ¬ 0 ≤ (Y k).lv by omega)] at h2
          simp at h2
        go_wp2
        go_ret
        exact Ans.mk false (by have := H.out; simp only [Bool.false_eq_true, this]) bwn
      by_cases h2 : 3 ≤ (Y k).lv
      · have H : Hid (¬ (n ≤ 24 ∧ ∀ i, i < n → ga (Y i) = true)) := fun h => by
          have h3 := h.2 k hlt
          rw [HGA.out, decide_eq_false (show ¬ (Y k).lv ≤ 2 by omega)] at h3
          simp at h3
        go_wp2
        go_ret
        exact Ans.mk false (by have := H.out; simp only [Bool.false_eq_true, this]) bwn
      have HGA2 : Hid (ga (Y k) = gm (Y k).m) := by
        unfold Hid
        rw [HGA.out, decide_eq_true (show 0 ≤ (Y k).lv by omega), decide_eq_true (show (Y k).lv ≤ 2 by omega)]
        simp
      clear HGA
      go_wp2_with fail
      refine (goodMeta_any (Y k).m _).mono ?_
      rintro e w1 ⟨rfl, hb1⟩
      have bw1 := bwn.trans (hb1.mono bwn.size)
      clear hb1
      cases hg : gm (Y k).m
      · have H : Hid (¬ (n ≤ 24 ∧ ∀ i, i < n → ga (Y i) = true)) := fun h => by have := h.2 k hlt; rw [HGA2.out, hg] at this; cases this
        go_wp2
        go_ret
        exact Ans.mk false (by have := H.out; simp only [Bool.false_eq_true, this]) bw1
      · have HG2 : Hid (∀ i, i < k + 1 → ga (Y i) = true) := fun i hi => by
          rcases Nat.lt_succ_iff_lt_or_eq.1 hi with h | h
          · exact HG.out i h
          · subst h; rw [HGA2.out]; exact hg
        go_wp2
        go_roundw
        case rel => exact ⟨k + 1, by omega, by go_num, HG2, bw1⟩
        case measure => simp [intOf]; omega
    · obtain rfl : k = n := by omega
      by_cases h24 : k ≤ 24
      · have H : Hid (k ≤ 24 ∧ ∀ i, i < k → ga (Y i) = true) := ⟨h24, HG.out⟩
        have hd : decide ((k : Int) ≤ 24) = true := decide_eq_true (by omega)
        clear HG
        go_wp2
        refine bodyPost_ret (v := .bool true) (by simp [results, Try.results36, go_sem, hd, h24]) rfl (Ans.mk true ⟨fun _ => H.out, fun _ => rfl⟩ hbk)
      · have H : Hid (¬ (k ≤ 24 ∧ ∀ i, i < k → ga (Y i) = true)) := fun h => h24 h.1
        have hd : decide ((k : Int) ≤ 24) = false := decide_eq_false (by omega)
        clear HG
        go_wp2
        refine bodyPost_ret (v := .bool false) (by simp [results, Try.results36, go_sem, hd, h24]) rfl (Ans.mk false (by have := H.out; simp only [Bool.false_eq_true, this]) hbk)
end Go.Proofs.Ytagkhohglpjjlaa
