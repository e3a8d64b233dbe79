/- Tags read one by one, the program's text. -/
import Derived.Test.YtpddodjecbcmlaaFindB
namespace Go.Proofs.Ytpddodjecbcmlaa
open Go.RowKit
set_option linter.unusedSimpArgs false
set_option linter.unusedVariables false

def tcells (nm vl : Nat → ByteArray) : Nat → List Value
  | 0 => []
  | k + 1 => tcells nm vl k ++ [.string (nm k), .string (vl k)]
theorem tcells_congr {nm vl nm' vl' : Nat → ByteArray} : ∀ {k : Nat}, (∀ i, i < k → nm i = nm' i ∧ vl i = vl' i) → tcells nm vl k = tcells nm' vl' k
  | 0, _ => rfl
  | k + 1, h => by simp only [tcells]; rw [tcells_congr (fun i hi => h i (by omega)), (h k (by omega)).1, (h k (by omega)).2]
theorem ktags_congr {nm vl nm' vl' : Nat → ByteArray} : ∀ {k : Nat}, (∀ i, i < k → nm i = nm' i ∧ vl i = vl' i) → ktags nm vl k = ktags nm' vl' k
  | 0, _ => rfl
  | k + 1, h => by simp only [ktags]; rw [ktags_congr (fun i hi => h i (by omega)), (h k (by omega)).1, (h k (by omega)).2]
theorem Seg.app {f : Nat → Int} {q : Nat} {a b : List Int} (h : Seg f q a) (g : Seg f (q + a.length) b) : Seg f q (a ++ b) := fun i hi => by
  by_cases h1 : i < a.length
  · rw [List.getElem_append_left h1]; exact h i h1
  · rw [List.getElem_append_right (by omega), ← g (i - a.length) (by simp at hi; omega)]
    congr 1; omega
theorem Seg.one {f : Nat → Int} {q : Nat} {x : Int} (h : f q = x) : Seg f q [x] := fun i hi => by
  have : i = 0 := by simp at hi; omega
  subst this; simpa using h

/-- k tags have been read from a0 up to q. -/
structure TInv (f : Nat → Int) (N a0 q k : Nat) (nm vl : Nat → ByteArray) : Prop where
  le : q ≤ N
  seg : Seg f a0 (ktags nm vl k)
  pos : q = a0 + (ktags nm vl k).length
  key : ∀ m n nm' vl' st, IsKey f N m n nm' vl' st → a0 = (kpre m nm' vl' 0).length → k ≤ n ∧ q = (kpre m nm' vl' k).length ∧ ∀ i, i < k → nm i = nm' i ∧ vl i = vl' i
def NoKey (f : Nat → Int) (N a0 : Nat) : Prop := ∀ m n nm' vl' st, IsKey f N m n nm' vl' st → a0 = (kpre m nm' vl' 0).length → False

def push (g : Nat → ByteArray) (k : Nat) (s : ByteArray) (i : Nat) : ByteArray := if i = k then s else g i

theorem TInv.many {f : Nat → Int} {N a0 q k : Nat} {nm vl : Nat → ByteArray} (h : TInv f N a0 q k nm vl) : k ≤ q := by
  have : ∀ k, k ≤ (ktags nm vl k).length := fun k => by
    induction k with
    | zero => simp
    | succ k ih => simp only [ktags, List.length_append, tagB_len]; omega
  have := this k
  have := h.pos
  omega
theorem TInv.start (f : Nat → Int) (N a0 : Nat) (nm vl : Nat → ByteArray) (h : a0 ≤ N) : TInv f N a0 a0 0 nm vl :=
  ⟨h, fun i hi => by simp [ktags] at hi, by simp [ktags], fun m n nm' vl' st hk he => ⟨Nat.zero_le _, he, fun i hi => by omega⟩⟩
/-- Before a tag: it is not the end of a key. -/
theorem TInv.two {f : Nat → Int} {N a0 q k : Nat} {nm vl : Nat → ByteArray} (h : TInv f N a0 q k nm vl) (h2 : f q = 2) {m : ByteArray} {n : Nat} {nm' vl' : Nat → ByteArray} {st : Int} (hk : IsKey f N m n nm' vl' st) (he : a0 = (kpre m nm' vl' 0).length) : k < n := by
  obtain ⟨h3, h4, _⟩ := h.key m n nm' vl' st hk he
  rcases Nat.lt_or_ge k n with g | g
  · exact g
  · have e : k = n := by omega
    subst e
    have := (hk.last q h4).2.1
    omega
theorem TInv.none1 {f : Nat → Int} {N a0 q k j : Nat} {nm vl : Nat → ByteArray} (h : TInv f N a0 q k nm vl) (h2 : f q = 2) (hf : Find f N (q + 1) 1 j) (hj : ¬ j < N) : NoKey f N a0 := fun m n nm' vl' st hk he => by
  have hlt := h.two h2 hk he
  exact hj ((hk.next k hlt q (h.key m n nm' vl' st hk he).2.1).2.2 j hf).2.1
theorem TInv.none2 {f : Nat → Int} {N a0 q k j j2 : Nat} {nm vl : Nat → ByteArray} (h : TInv f N a0 q k nm vl) (h2 : f q = 2) (hf : Find f N (q + 1) 1 j) (hf2 : Find f N (j + 1) 0 j2) (hj : ¬ j2 < N) : NoKey f N a0 := fun m n nm' vl' st hk he => by
  have hlt := h.two h2 hk he
  exact hj (((hk.next k hlt q (h.key m n nm' vl' st hk he).2.1).2.2 j hf).2.2.2.2 j2 hf2).2.1
theorem TInv.more {f : Nat → Int} (hbd : ∀ i, 0 ≤ f i ∧ f i ≤ 255) {N a0 q k j j2 : Nat} {nm vl : Nat → ByteArray} (h : TInv f N a0 q k nm vl) (hq : q < N) (h2 : f q = 2) (hf : Find f N (q + 1) 1 j) (hj : j < N) (hf2 : Find f N (j + 1) 0 j2) (hj2 : j2 < N) :
    TInv f N a0 (j2 + 1) (k + 1) (push nm k (str f (q + 1) j)) (push vl k (str f (j + 1) j2)) := by
  have hp := h.pos
  have hge := hf.ge
  have hge2 := hf2.ge
  have e1 : ∀ i, i < k → push nm k (str f (q + 1) j) i = nm i ∧ push vl k (str f (j + 1) j2) i = vl i := fun i hi => by simp [push, show ¬ i = k by omega]
  have et : ktags (push nm k (str f (q + 1) j)) (push vl k (str f (j + 1) j2)) (k + 1) = ktags nm vl k ++ tagB (str f (q + 1) j) (str f (j + 1) j2) := by
    simp only [ktags]; rw [ktags_congr e1]; simp [push]
  have st : Seg f q (tagB (str f (q + 1) j) (str f (j + 1) j2)) := by
    unfold tagB
    have l1 : (bytesOf (str f (q + 1) j)).length = j - (q + 1) := by rw [bytesOf_len, str_size]
    have l2 : (bytesOf (str f (j + 1) j2)).length = j2 - (j + 1) := by rw [bytesOf_len, str_size]
    refine ((((Seg.one h2).app ?_).app ?_).app ?_).app ?_
    · exact seg_str hbd _ _
    · simp only [List.length_append, List.length_singleton, l1]
      rw [show q + (1 + (j - (q + 1))) = j from by omega]
      exact Seg.one (hf.hit hj)
    · simp only [List.length_append, List.length_singleton, l1]
      rw [show q + (1 + (j - (q + 1)) + 1) = j + 1 from by omega]
      exact seg_str hbd _ _
    · simp only [List.length_append, List.length_singleton, l1, l2]
      rw [show q + (1 + (j - (q + 1)) + 1 + (j2 - (j + 1))) = j2 from by omega]
      exact Seg.one (hf2.hit hj2)
  refine ⟨by omega, by rw [et]; exact h.seg.app (by rw [← hp]; exact st), ?_, fun m n nm' vl' s hk he => ?_⟩
  · rw [et, List.length_append, tagB_len, str_size, str_size]; omega
  · have hlt := h.two h2 hk he
    obtain ⟨g1, g2, g3⟩ := h.key m n nm' vl' s hk he
    obtain ⟨_, _, g4⟩ := hk.next k hlt q g2
    obtain ⟨_, _, _, g5, g6⟩ := g4 j hf
    obtain ⟨_, _, g7, g8⟩ := g6 j2 hf2
    refine ⟨by omega, by omega, fun i hi => ?_⟩
    by_cases e : i = k
    · subst e; simp [push, g5, g7]
    · have := g3 i (by omega); simp [push, e, this]
theorem TInv.noEnd {f : Nat → Int} {N a0 q k : Nat} {nm vl : Nat → ByteArray} (h : TInv f N a0 q k nm vl) (h1 : ¬ (q < N ∧ f q = 2)) (h2 : ¬ (q < N ∧ f q = 1)) : NoKey f N a0 := fun m n nm' vl' st hk he => by
  obtain ⟨g1, g2, g3⟩ := h.key m n nm' vl' st hk he
  rcases Nat.lt_or_ge k n with g | g
  · have := hk.next k g q g2
    exact h1 ⟨this.1, this.2.1⟩
  · have e : k = n := by omega
    subst e
    have := hk.last q g2
    exact h2 ⟨by omega, this.2.1⟩

theorem two_lie (w : World) (x y : Value) (T : Nat) : ∀ (j : Nat) u, [x, y][j]? = some u → (w.alloc (.cells #[x, y] T)).cell? ((⟨w.heap.size, 0, none⟩ : Addr).add j) = some u := by
  intro j u hj
  rw [Addr.add_lit, Nat.zero_add]
  have hh : (w.alloc (.cells #[x, y] T)).heap[w.heap.size]? = some (.cells #[x, y] T (0, 0)) := heap_alloc_new w _
  rw [cell_of_row _ _ _ _ _ _ hh]
  rw [← hj, ← Array.getElem?_toList]
theorem below_append2 {B : Nat} {w wr w' : World} {base n : Nat} {v : Value} {xs : List Value} (hb : Below B w wr) (ho : wr.ownsRow base 64 2 v n xs) (hg : wr.grownBy w' v.ownBlock) (hB : B ≤ base) (hs : B ≤ wr.heap.size) : Below B w w' := by
  refine hb.grown hg hs fun k hk => ?_
  rcases ho.2 with ⟨rfl, _⟩ | ⟨g, cap, cur, rfl, hbg, _⟩
  · simp [Value.ownBlock] at hk
  · simp [Value.ownBlock] at hk; omega

/-- What readTags answers. -/
def TagsOut (f : Nat → Int) (N a0 : Nat) (w : World) (e : Ending) (w' : World) : Prop :=
  (∃ (q k : Nat) (nm vl : Nat → ByteArray) (v : Value), e = .returned (.tuple #[v, .int .i64 ((q : Int) + 1), .bool true]) ∧ TInv f N a0 q k nm vl ∧ q < N ∧ f q = 1 ∧ w'.ownsRow w.heap.size 64 2 v k (tcells nm vl k) ∧ Below w.heap.size w w') ∨
  (e = .returned (.tuple #[.slice none 0 0, .int .i64 0, .bool false]) ∧ NoKey f N a0 ∧ Below w.heap.size w w')

set_option maxHeartbeats 1000000 in
theorem readTags_any (b off N cap : Nat) (f : Nat → Int) (a0 : Nat) (w : World) (hbd : ∀ i, 0 ≤ f i ∧ f i ≤ 255) (hlt0 : b < w.heap.size) (hc : ∀ i, i < N → w.cell? ⟨b, off + i, none⟩ = some (.int .u8 (f i))) (hN : N ≤ 1048576) (hq : a0 ≤ N) (hcap : N ≤ cap) :
    Calls Try.prog 39 #[.slice (some ⟨b, off, none⟩) N cap, .int .i64 a0] w fun e w' => TagsOut f N a0 w e w' := by
  obtain ⟨i0, hi, hz0, hz1, hz2⟩ := info_parts Try.info69
  go_enter Try.func39, Try.ntmps39
  go_wp2
  go_loopw [1, 7] (fun p v wr => ∃ (q k : Nat) (nm vl : Nat → ByteArray), p = .int .i64 q ∧ TInv f N a0 q k nm vl ∧ wr.ownsRow w.heap.size 64 2 v k (tcells nm vl k) ∧ Below w.heap.size w wr) (fun p _ _ => N - (intOf p).toNat)
  case atStart => exact ⟨a0, 0, fun _ => ByteArray.empty, fun _ => ByteArray.empty, rfl, TInv.start f N a0 _ _ hq, World.ownsRow_nil _ _ _ _, Below.refl _ _⟩
  case round =>
    obtain ⟨q, k, nm, vl, rfl, hT, hown, hbk⟩ := hrel
    have hqN := hT.le
    have hkq := hT.many
    have hcr : ∀ i, i < N → wr.cell? ⟨b, off + i, none⟩ = some (.int .u8 (f i)) := fun i h => (hbk.cell (p := ⟨b, off + i, none⟩) hlt0).trans (hc i h)
    by_cases hlt : q < N
    · have hlt2 : (q : Int) < (N : Int) := by omega
      have hcq := hcr q hlt
      by_cases h2 : f q = 2
      · have h2' : (f q == 2) = true := by simp [h2]
        have H2 : Hid (f q = 2) := h2
        clear h2
        go_wp2_with fail
        refine (readUpTo_any b off N cap f (q + 1) 1 _ hbd hcr hN (by omega) hcap).mono ?_
        rintro e w1 ⟨j, hf, rfl, ⟨hj, rfl⟩ | ⟨hj, rfl⟩⟩
        · have HF : Hid (Find f N (q + 1) 1 j) := hf
          have hjge := hf.ge
          clear hf
          go_wp2_with fail
          refine (readUpTo_any b off N cap f (j + 1) 0 _ hbd hcr hN (by omega) hcap).mono ?_
          rintro e w1 ⟨j2, hf2, rfl, ⟨hj2, rfl⟩ | ⟨hj2, rfl⟩⟩
          · have HT : Hid (TInv f N a0 (j2 + 1) (k + 1) (push nm k (str f (q + 1) j)) (push vl k (str f (j + 1) j2))) := hT.more hbd hlt H2.out HF.out hj hf2 hj2
            have hj2ge := hf2.ge
            have HC : Hid (tcells nm vl k ++ [.string (str f (q + 1) j), .string (str f (j + 1) j2)] = tcells (push nm k (str f (q + 1) j)) (push vl k (str f (j + 1) j2)) (k + 1)) := by
              unfold Hid
              simp only [tcells]
              rw [tcells_congr (nm := nm) (vl := vl) (nm' := push nm k (str f (q + 1) j)) (vl' := push vl k (str f (j + 1) j2)) (fun i hi => by simp [push, show ¬ i = k by omega])]
              simp [push]
            have hszk := hbk.size
            clear hf2 hT hc hcr
            generalize str f (q + 1) j = s1 at *
            generalize str f (j + 1) j2 = s2 at *
            go_wp2_with (at_builtin; refine wpList_append_own _ rfl (.tmp 42) (.tmp 46) 35 rfl w.heap.size 64 i0 (.agg #[.string ByteArray.empty, .string ByteArray.empty]) 2 32 Try.underlying35 hi hz0 hz1 hz2 rfl (by decide) _ _ _ rfl (hown.alloc _) ⟨w1.heap.size, 0, none⟩ 1 1 [.string s1, .string s2] rfl rfl (two_lie _ _ _ _) (by simp [Value.oneCell']) (by unfold maxLen; omega) (by omega) (by simp; omega) ?_; intro v' w2 hown' hgrow _)
            have hbw := below_append2 (hbk.alloc hbk.size _) (hown.alloc _) hgrow (Nat.le_refl _) (by have := hbk.size; simp; omega)
            rw [HC.out] at hown'
            clear hown hgrow
            go_roundw
            case rel => exact ⟨j2 + 1, k + 1, _, _, by go_num, HT.out, hown', hbw⟩
            case measure => simp [intOf]; omega
          · have HN : Hid (NoKey f N a0) := hT.none2 H2.out HF.out hf2 hj2
            clear hf2 hc hcr
            go_wp2
            go_ret3
            exact .inr ⟨rfl, HN.out, hbk⟩
        · have HN : Hid (NoKey f N a0) := hT.none1 H2.out hf hj
          clear hf hc hcr
          go_wp2
          go_ret3
          exact .inr ⟨rfl, HN.out, hbk⟩
      · have h2' : (f q == 2) = false := by simp [h2]
        have hge : decide ((N : Int) ≤ (q : Int)) = false := by simp; omega
        by_cases h1 : f q = 1
        · have h1' : (f q != 1) = false := by simp [h1]
          have H1 : Hid (f q = 1) := h1
          clear hc hcr h1 h2
          go_wp2
          go_ret3
          exact .inl ⟨q, k, nm, vl, _, rfl, hT, hlt, H1.out, hown, hbk⟩
        · have h1' : (f q != 1) = true := by simp [h1]
          have HN : Hid (NoKey f N a0) := hT.noEnd (fun h => h2 h.2) (fun h => h1 h.2)
          clear hc hcr h1 h2
          go_wp2
          go_ret3
          exact .inr ⟨rfl, HN.out, hbk⟩
    · have hd : decide ((q : Int) < (N : Int)) = false := by simp; omega
      have hge : (N : Int) ≤ (q : Int) := by omega
      have HN : Hid (NoKey f N a0) := hT.noEnd (fun h => hlt h.1) (fun h => hlt h.1)
      clear hc hcr
      go_wp2
      go_ret3
      exact .inr ⟨rfl, HN.out, hbk⟩
end Go.Proofs.Ytpddodjecbcmlaa
