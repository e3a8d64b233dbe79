/- What the law of ApplyEdit wants: marks of versions and edits, answers that are versions. -/
import Derived.Test.YtofdhgffnkhdfaaCm
import Derived.Test.YtofdhgffnkhdfaaVn
import Derived.Test.YtofdhgffnkhdfaaEd
import Derived.Test.YtofdhgffnkhdfaaBV
namespace Go.Proofs.Ytofdhgffnkhdfaa
open Go.RowKit
set_option linter.unusedSimpArgs false
set_option linter.unusedVariables false

theorem EA.markI (w : World) (lo hi : Nat) (da : Option Addr) (nd cd : Nat) (f : Nat → Int) (aa : Option Addr) (na ca : Nat) (Y : Nat → Adm) (k0 : Nat) (h : EA w lo hi da nd f aa na Y) (hk : k0 ≤ 4194304) (hd : nd ≤ 1048576) :
    Calls Try.prog 20 #[.slice da nd cd, .int .i64 k0] w fun e w' => e = .returned (.int .i64 ((k0 + nd : Nat) : Int)) ∧ (∃ f', EA w' lo hi da nd f' aa na Y) ∧ Rng lo hi w w' := by
  by_cases hn : nd = 0
  · subst hn
    refine (markI_zero da cd (k0 : Int) w).mono ?_
    rintro e w' ⟨rfl, rfl⟩
    exact ⟨by simp, ⟨f, h⟩, Rng.refl _ _ _⟩
  · obtain ⟨g, rfl, h1, h2, h3⟩ := h.dr.resolve_left hn
    refine (markIntS_any g 0 nd cd f k0 w h3 hd hk).mono ?_
    rintro e w' ⟨rfl, ⟨fy, q1⟩, q3⟩
    have hs : w.heap.size ≤ w'.heap.size := by rw [q3.size]; exact Nat.le_refl _
    refine ⟨rfl, ⟨fy, ⟨Nat.le_trans h.top hs, q1.bd, .inr ⟨g, rfl, h1, h2, q1⟩, ?_, h.ne⟩⟩, Rng.of_only (Only.of_others q3) h1 h2⟩
    by_cases h0 : na = 0
    · exact .inl h0
    · obtain ⟨g2, e2, h5, h6, h7⟩ := h.ad.resolve_left h0
      exact .inr ⟨g2, e2, h5, h6, h7.same hs (q3.block g2 (fun e => h.ne (by omega) (by omega) (by rw [e2, e])))⟩
theorem EA.markD (w : World) (lo hi : Nat) (da : Option Addr) (nd : Nat) (f : Nat → Int) (aa : Option Addr) (na ca : Nat) (Y : Nat → Adm) (k0 : Nat) (h : EA w lo hi da nd f aa na Y) (hk : 1 ≤ k0 ∧ k0 ≤ 6000000) (ha : na ≤ 1048576) :
    Calls Try.prog 21 #[.slice aa na ca, .int .i64 k0] w fun e w' => e = .returned (.int .i64 ((k0 + 5 * na : Nat) : Int)) ∧ Rng lo hi w w' := by
  by_cases hn : na = 0
  · subst hn
    refine (markAddS_zero aa ca (k0 : Int) w).mono ?_
    rintro e w' ⟨rfl, rfl⟩
    exact ⟨by simp, Rng.refl _ _ _⟩
  · obtain ⟨g, rfl, h1, h2, h3⟩ := h.ad.resolve_left hn
    refine (markAddS_any g na ca k0 Y w h3 (by omega) ha (by omega)).mono ?_
    rintro e w' ⟨rfl, q1, q3⟩
    exact ⟨rfl, Rng.of_only q3 h1 h2⟩
theorem Rng.midR {lo hi : Nat} {w w' : World} (h : Rng lo hi w w') : Mid lo hi w w' := ⟨h.os, h.tape, h.output, h.size, h.block⟩
theorem VX.midR {B U : Nat} {w w' : World} {b : Nat} {nx lg sq : Int} {ao : Option Addr} {N cap : Nat} (h : VX w b nx lg sq ao N cap) (hm : Mid B U w w') (hne : b < B ∨ U ≤ b) : VX w' b nx lg sq ao N cap := h.same hm.size (hm.block b h.lt hne)
theorem EX.midR {B U : Nat} {w w' : World} {b : Nat} {nx lg sq : Int} {dv av : Value} (h : EX w b nx lg sq dv av) (hm : Mid B U w w') (hne : b < B ∨ U ≤ b) : EX w' b nx lg sq dv av := h.same hm.size (hm.block b h.lt hne)
theorem VA.midR {w w' : World} {lo hi lo' hi' : Nat} {ao : Option Addr} {N : Nat} {R : Nat → Nat → Met} {M : Nat → Nat} (h : VA w lo hi ao N R M) (hm : Mid lo' hi' w w') (hd : hi ≤ lo' ∨ hi' ≤ lo) : VA w' lo hi ao N R M :=
  h.same hm.size (fun c h1 h2 => hm.block c (Nat.lt_of_lt_of_le h2 h.1) (by omega))
theorem EA.midR {w w' : World} {lo hi lo' hi' : Nat} {da aa : Option Addr} {nd na : Nat} {f : Nat → Int} {Y : Nat → Adm} (h : EA w lo hi da nd f aa na Y) (hm : Mid lo' hi' w w') (hd : hi ≤ lo' ∨ hi' ≤ lo) : EA w' lo hi da nd f aa na Y :=
  h.same hm.size (fun c h1 h2 => hm.block c (Nat.lt_of_lt_of_le h2 h.top) (by omega))
theorem strOf_sz (L : List Int) : (strOfNums L).size = L.length := by
  unfold strOfNums
  show ((L.map _).toArray).size = _
  simp
theorem mtLoop_sz : ∀ (f : Nat) (k : Int) (out : ByteArray), (mtLoop f k out).size ≤ out.size + f
  | 0, k, out => by simp [mtLoop]
  | f + 1, k, out => by
    unfold mtLoop
    split
    · have := mtLoop_sz f (k / 10) (strOfNums [48 + k % 10] ++ out)
      rw [ByteArray.size_append, strOf_sz] at this
      simp only [List.length_cons, List.length_nil] at this
      omega
    · omega
theorem mt_sz (k : Int) : (mt k).size ≤ k.toNat + 1 := by
  unfold mt
  have := mtLoop_sz k.toNat k ⟨#[]⟩
  rw [ByteArray.size_append]
  have e1 : (⟨#[109]⟩ : ByteArray).size = 1 := rfl
  have e2 : (⟨#[]⟩ : ByteArray).size = 0 := rfl
  omega
theorem mkM_mb (k : Nat) (hk : k ≤ 16000000) : MB (mkM (k : Int)) :=
  ⟨⟨by show _ ≤ (k : Int); omega, by show (k : Int) ≤ _; omega⟩, ⟨by show _ ≤ (k : Int) + 3; omega, by show (k : Int) + 3 ≤ _; omega⟩, by show (mt ((k : Int) + 1)).size ≤ _; have := mt_sz ((k : Int) + 1); omega, by show (mt ((k : Int) + 2)).size ≤ _; have := mt_sz ((k : Int) + 2); omega⟩
/-- What ApplyEdit answers: a version, or none. -/
structure Avs (nx lg sq : Int) (N : Nat) (LA : Nat → List Met) (ok : Bool) : Prop where
  N3 : N ≤ 3
  len : ∀ i, i < N → (LA i).length ≤ 12
  mb : ∀ i, i < N → ∀ j, j < (LA i).length → MB (mL (LA i) j)
def AvO (nx lg sq : Int) (N : Nat) (LA : Nat → List Met) (ok : Bool) (w : World) (e : Ending) (w' : World) : Prop :=
  ∃ ao c, e = .returned (.tuple #[.agg #[.int .i64 nx, .int .i64 lg, .int .i64 sq, .slice ao N c], .bool ok]) ∧ VA w' w.heap.size w'.heap.size ao N (fun i => mL (LA i)) (fun i => (LA i).length) ∧ Below w.heap.size w w'
theorem gm_mb {x : Met} (h : gm x = true) : MB x := by
  simp only [gm, fN, kT, btw, Bool.and_eq_true, decide_eq_true_eq] at h
  obtain ⟨⟨⟨⟨⟨h1, h2⟩, h3, h4⟩, h5, h6⟩, _⟩, h7, h8⟩ := h
  exact ⟨⟨by omega, by omega⟩, ⟨by omega, by omega⟩, by omega, by omega⟩
theorem avs_ex (vx vl vs : Int) (N : Nat) (LL : Nat → List Met) (nx lg sq : Int) (D : List Int) (A : List Adm) : ∃ nx' lg' sq' N' LA ok, Avs nx' lg' sq' N' LA ok ∧ ∀ w e w', ApO vx vl vs N LL nx lg sq D A w e w' → AvO nx' lg' sq' N' LA ok w e w' := by
  by_cases h : GoodAp vx vl vs N LL nx lg sq D A
  · have h6 := h.2.2.2.2.2
    have hf := GoodVP.few (LL := apL LL D A) h6
    refine ⟨nx, lg, sq, N, apL LL D A, true, ⟨by have := hf.1; omega, hf.2, fun i hi j hj => gm_mb ((h6.2.2.2.2.1.2 i hi).1.2 j hj)⟩, fun w e w' hh => ?_⟩
    rcases hh with ⟨_, ao, c, he, hV, hb⟩ | ⟨hn, _⟩
    · exact ⟨ao, c, he, hV, hb⟩
    · exact absurd h hn
  · refine ⟨0, 0, 0, 0, fun _ => [], false, ⟨by omega, fun i hi => by omega, fun i hi => by omega⟩, fun w e w' hh => ?_⟩
    rcases hh with ⟨hy, _⟩ | ⟨_, he, hb⟩
    · exact absurd hy h
    · exact ⟨none, 0, he, va_nil _ _ _ _ _, hb⟩
theorem Avs.sum {nx lg sq : Int} {N : Nat} {LA : Nat → List Met} {ok : Bool} (h : Avs nx lg sq N LA ok) : sumM (fun i => (LA i).length) N ≤ 36 := by
  have : ∀ k, k ≤ N → sumM (fun i => (LA i).length) k ≤ 12 * k := fun k => by
    induction k with
    | zero => intro _; exact Nat.le_refl _
    | succ k ih =>
      intro hk
      have h1 := ih (by omega)
      have h2 := h.len k (by omega)
      simp only [sumM]
      omega
  have h1 := this N (Nat.le_refl _)
  have h2 := h.N3
  omega
section
variable {nx lg sq : Int} {N : Nat} {LA : Nat → List Met} {ok : Bool}
theorem eqVerV (h : Avs nx lg sq N LA ok) (ao bo : Option Addr) (ca cb lo hi lo' hi' : Nat) (w : World) (k1 : VA w lo hi ao N (fun i => mL (LA i)) (fun i => (LA i).length)) (k2 : VA w lo' hi' bo N (fun i => mL (LA i)) (fun i => (LA i).length)) :
    Calls Try.prog 8 #[.agg #[.int .i64 nx, .int .i64 lg, .int .i64 sq, .slice ao N ca], .agg #[.int .i64 nx, .int .i64 lg, .int .i64 sq, .slice bo N cb]] w fun e w' => e = .returned (.bool true) ∧ Below w.heap.size w w' :=
  have hl : ∀ i, i < N → (LA i).length ≤ 9223372036854775807 := fun i hi => by have := h.len i hi; omega
  eqVersion_same nx lg sq ao bo N ca cb _ _ w (k1.row h.mb hl) (k2.row h.mb hl) (by have := h.N3; omega) (fun i hi => by have := h.len i hi; show (LA i).length ≤ _; omega)
/-- Its lists bear the marks. -/
def VMk (w : World) (lo hi : Nat) (ao : Option Addr) (N : Nat) (LA : Nat → List Met) : Prop := VA w lo hi ao N (mkR (fun i => (LA i).length) 1) (fun i => (LA i).length)
theorem VMk.keep {w w' : World} {lo hi : Nat} {ao : Option Addr} (h : VMk w lo hi ao N LA) (hb : Below w.heap.size w w') : VMk w' lo hi ao N LA := VA.keep h hb
theorem markVerV (h : Avs nx lg sq N LA ok) (ao : Option Addr) (c lo hi : Nat) (w : World) (k : VA w lo hi ao N (fun i => mL (LA i)) (fun i => (LA i).length)) :
    Calls Try.prog 11 #[.agg #[.int .i64 nx, .int .i64 lg, .int .i64 sq, .slice ao N c], .int .i64 1] w fun e w' => e = .returned (.int .i64 ((1 + 4 * sumM (fun i => (LA i).length) N : Nat) : Int)) ∧ VMk w' lo hi ao N LA ∧ Mid lo hi w w' :=
  (markVersion_any nx lg sq lo hi ao N c 1 _ _ w k (by omega) (by have := h.N3; omega) (by have := h.sum; omega) (by have := h.sum; omega)).mono fun e w' ⟨h1, h2, h3⟩ => ⟨h1, h2, h3.midR⟩
theorem heldVerV (h : Avs nx lg sq N LA ok) (ao : Option Addr) (c lo hi : Nat) (w : World) (k : VMk w lo hi ao N LA) :
    Calls Try.prog 12 #[.agg #[.int .i64 nx, .int .i64 lg, .int .i64 sq, .slice ao N c], .int .i64 1] w fun e w' => e = .returned (.int .i64 ((1 + 4 * sumM (fun i => (LA i).length) N : Nat) : Int)) ∧ Below w.heap.size w w' :=
  heldVersion_yes nx lg sq ao N c 1 _ w (VA.row k (fun i hi j hj => mkM_mb _ (by
      have h1 := h.sum
      have h2 := sumM_mono (M := fun i => (LA i).length) (show i ≤ N by omega)
      have h3 := h.len i hi
      have hj : j < (LA i).length := hj
      omega)) (fun i hi => by have := h.len i hi; show (LA i).length ≤ _; omega)) (by omega) (by have := h.N3; omega) (by have := h.sum; omega) (by have := h.sum; omega)
end
end Go.Proofs.Ytofdhgffnkhdfaa
