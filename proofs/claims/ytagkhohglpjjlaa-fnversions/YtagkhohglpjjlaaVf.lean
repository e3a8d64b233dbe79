/- The bytes of an edit, in both texts. / Numbers put behind bytes: of a list that may be nil. -/
import Derived.Test.YtagkhohglpjjlaaGe9
import Derived.Test.YtagkhohglpjjlaaTb
import Derived.Test.YtagkhohglpjjlaaBV
namespace Go.Proofs.Ytagkhohglpjjlaa
open Go.RowKit
set_option linter.unusedSimpArgs false
set_option linter.unusedVariables false

/-- What is left where M was put behind bytes v of the call's own: every other block is as it was. -/
def PB (base : Nat) (v : Value) (L M : List Int) (w : World) (e : Ending) (w' : World) : Prop :=
  ∃ a c, e = .returned (.slice a (L ++ M).length c) ∧ OwnL w' base (.slice a (L ++ M).length c) (L ++ M) ∧ Below base w w' ∧
    ∀ q, q < w.heap.size → v.ownBlock ≠ some q → w'.heap[q]? = w.heap[q]? ∧ (Value.slice a (L ++ M).length c).ownBlock ≠ some q
theorem pb_of {base : Nat} {v : Value} {L M : List Int} {w w' : World} {e : Ending} (h : Putt base v L M w e w') (ho : OwnL w base v L) (hb : base ≤ w.heap.size) : PB base v L M w e w' := by
  obtain ⟨v', rfl, h1, h2, h3⟩ := h
  obtain ⟨a, c, rfl⟩ := h1.form
  exact ⟨a, c, rfl, h1, ho.below (Below.refl _ _) h2 (Nat.le_refl _) hb, fun q hq hne => ⟨h2.block q hq (fun e => hne e.symm), h3.ne hne hq⟩⟩
/-- Numbers in a block. -/
def NumAt (w : World) (g : Nat) (N : List Int) : Prop := g < w.heap.size ∧ ∀ i, i < N.length → w.cell? ⟨g, i, none⟩ = some (.int .i64 (fi N i))
def Nat0 (N : List Int) : Prop := ∀ i, i < N.length → 0 ≤ fi N i ∧ fi N i ≤ 9223372036854775807
section
variable (base : Nat) (a : Option Addr) (cp : Nat) (L : List Int) (g nc : Nat) (N : List Int) (w : World)
theorem aNum (hown : OwnL w base (.slice a L.length cp) L) (hg : NumAt w g N) (hne : (Value.slice a L.length cp).ownBlock ≠ some g) (hN : Nat0 N) (hL : L.length + 10 * N.length ≤ 1000000) (hbs : base ≤ w.heap.size) :
    Calls Try.prog 24 #[.slice a L.length cp, .slice (some ⟨g, 0, none⟩) N.length nc] w fun e w' => PB base (.slice a L.length cp) L (nsL N) w e w' :=
  (appendNumbers_any base a cp L g nc N w hown hg.1 hg.2 hne hN hL hbs).mono fun e w' h => pb_of h hown hbs
theorem lPut (hown : OwnL w base (.slice a L.length cp) L) (hg : NumAt w g N) (hne : (Value.slice a L.length cp).ownBlock ≠ some g) (hN : Nat0 N) (hL : L.length + 10 * N.length ≤ 1000000) (hbs : base ≤ w.heap.size) :
    Calls Try.prog 49 #[.slice a L.length cp, .slice (some ⟨g, 0, none⟩) N.length nc] w fun e w' => PB base (.slice a L.length cp) L (nsL N) w e w' :=
  (l9Put_any base a cp L g nc N w hown hg.1 hg.2 hne hN hL hbs).mono fun e w' h => pb_of h hown hbs
end
theorem own_new9 {w : World} {base : Nat} {v : Value} {L : List Int} (h : OwnL w base v L) : v.ownBlock ≠ some w.heap.size := fun e => by have := (h.lt _ e).2; omega
theorem num1 (w : World) (x : Int) (T : Nat) : NumAt (w.alloc (.cells #[.int .i64 x] T)) w.heap.size [x] := by
  refine ⟨by simp, fun i hi => ?_⟩
  obtain rfl : i = 0 := by simp at hi; omega
  simp [go_sem, fi]
theorem num3 (w : World) (x y z : Int) (T : Nat) : NumAt (w.alloc (.cells #[.int .i64 x, .int .i64 y, .int .i64 z] T)) w.heap.size [x, y, z] := by
  refine ⟨by simp, fun i hi => ?_⟩
  have : i = 0 ∨ i = 1 ∨ i = 2 := by simp at hi; omega
  rcases this with rfl | rfl | rfl <;> simp [go_sem, fi]
theorem num4 (w : World) (x y z u : Int) (T : Nat) : NumAt (w.alloc (.cells #[.int .i64 x, .int .i64 y, .int .i64 z, .int .i64 u] T)) w.heap.size [x, y, z, u] := by
  refine ⟨by simp, fun i hi => ?_⟩
  have : i = 0 ∨ i = 1 ∨ i = 2 ∨ i = 3 := by simp at hi; omega
  rcases this with rfl | rfl | rfl | rfl <;> simp [go_sem, fi]
theorem nat1 {x : Int} (h : 0 ≤ x ∧ x ≤ 9223372036854775807) : Nat0 [x] := fun i hi => by
  obtain rfl : i = 0 := by simp at hi; omega
  simpa [fi] using h
theorem nat3 {x y z : Int} (h : 0 ≤ x ∧ x ≤ 9223372036854775807) (h2 : 0 ≤ y ∧ y ≤ 9223372036854775807) (h3 : 0 ≤ z ∧ z ≤ 9223372036854775807) : Nat0 [x, y, z] := fun i hi => by
  have : i = 0 ∨ i = 1 ∨ i = 2 := by simp at hi; omega
  rcases this with rfl | rfl | rfl <;> simpa [fi]
theorem nat4 {x y z u : Int} (h : 0 ≤ x ∧ x ≤ 9223372036854775807) (h2 : 0 ≤ y ∧ y ≤ 9223372036854775807) (h3 : 0 ≤ z ∧ z ≤ 9223372036854775807) (h4 : 0 ≤ u ∧ u ≤ 9223372036854775807) : Nat0 [x, y, z, u] := fun i hi => by
  have : i = 0 ∨ i = 1 ∨ i = 2 ∨ i = 3 := by simp at hi; omega
  rcases this with rfl | rfl | rfl | rfl <;> simpa [fi]

/-- The bytes of a text with its length ahead. -/
def txL (s : ByteArray) : List Int := nsL [(s.size : Int)] ++ bytesOf s
/-- The bytes of an add. -/
def adB (y : Adm) : List Int := nsL [y.lv, y.m.file, y.m.many] ++ txL y.m.least ++ txL y.m.most
def adsB (Y : Nat → Adm) : Nat → List Int
  | 0 => []
  | k + 1 => adsB Y k ++ adB (Y k)
/-- The bytes of an edit. -/
def edB (nx lg sq : Int) (nd : Nat) (f : Nat → Int) (na : Nat) (Y : Nat → Adm) : List Int := nsL [nx, lg, sq, (nd : Int)] ++ nsL (iL f nd) ++ nsL [(na : Int)] ++ adsB Y na
theorem txL_len (s : ByteArray) : (txL s).length ≤ 10 + s.size := by
  have := nsL_len [(s.size : Int)]
  simp only [txL, List.length_append, bytesOf_len, List.length_singleton] at *
  omega
theorem adB_len (y : Adm) (h : ga y = true) : (adB y).length ≤ 330 := by
  have h1 := nsL_len [y.lv, y.m.file, y.m.many]
  have h2 := txL_len y.m.least
  have h3 := txL_len y.m.most
  simp only [ga, gm, Bool.and_eq_true, kT, btw, decide_eq_true_eq] at h
  simp only [adB, List.length_append, List.length_cons, List.length_nil] at *
  omega
theorem adsB_len (Y : Nat → Adm) : ∀ n, (∀ i, i < n → ga (Y i) = true) → (adsB Y n).length ≤ 330 * n
  | 0, _ => by simp [adsB]
  | n + 1, h => by
    have h1 := adsB_len Y n (fun i hi => h i (by omega))
    have h2 := adB_len (Y n) (h n (by omega))
    simp only [adsB, List.length_append]
    omega

set_option maxHeartbeats 800000 in
theorem appendText_any (base : Nat) (a : Option Addr) (cp : Nat) (L : List Int) (s : ByteArray) (w : World) (hown : OwnL w base (.slice a L.length cp) L) (hs : s.size ≤ 1048576) (hL : L.length ≤ 900000) (hbs : base ≤ w.heap.size) :
    Calls Try.prog 25 #[.slice a L.length cp, .string s] w fun e w' => PB base (.slice a L.length cp) L (txL s) w e w' := by
  have hn := num1 w (s.size : Int) 3
  have bn := below_new w (.cells #[.int .i64 (s.size : Int)] 3)
  have ho := hown.keep bn
  have hc := aNum base a cp L w.heap.size 1 [(s.size : Int)] _ ho hn (own_new9 hown) (nat1 ⟨by omega, by omega⟩) (by simp; omega) (Nat.le_trans hbs bn.size)
  have hll := nsL_len [(s.size : Int)]
  have HE : Hid (L ++ txL s = L ++ nsL [(s.size : Int)] ++ bytesOf s) := by simp [Hid, txL]
  generalize nsL [(s.size : Int)] = N1 at hc hll HE
  simp only [List.length_singleton] at hc hll
  go_enter Try.func25, Try.ntmps25
  go_wp2_with fail
  generalize w.alloc (.cells #[.int .i64 (s.size : Int)] 3) = w0 at *
  refine hc.mono ?_
  rintro e w1 ⟨a1, c1, rfl, o1, b1, k1⟩
  have bw1 : Below base w w1 := (bn.mono hbs).trans b1
  have K1 : Hid (∀ q, q < w.heap.size → (Value.slice a L.length cp).ownBlock ≠ some q → w1.heap[q]? = w.heap[q]? ∧ (Value.slice a1 (L ++ N1).length c1).ownBlock ≠ some q) := fun q hq hne => by
    have := k1 q (Nat.lt_of_lt_of_le hq bn.size) hne
    exact ⟨this.1.trans (bn.block q hq), this.2⟩
  have s1 : base ≤ w1.heap.size := Nat.le_trans hbs bw1.size
  have hl1 : (L ++ N1).length + s.size ≤ 4194304 := by rw [List.length_append]; omega
  have bs1 := b1.size
  clear hc b1 ho hn hll k1
  generalize L ++ N1 = L1 at *
  go_wp2_with (at_builtin; refine wpList_appT rfl (.tmp 9) (.tmp 10) rfl base (.slice a1 L1.length c1) L1 rfl o1 s rfl hl1 s1 ?_; intro v2 w2 o2 g2 n2; have s12 := g2.size; obtain ⟨a2, c2, rfl⟩ := o2.form)
  have bw2 := o1.below bw1 g2 (Nat.le_refl _) s1
  go_ret
  refine ⟨a2, c2, by rw [HE.out, List.length_append]; rfl, by rw [HE.out]; exact o2, bw2, fun q hq hne => ?_⟩
  have h1 := K1.out q hq hne
  have h2 : q < w1.heap.size := Nat.lt_of_lt_of_le hq (Nat.le_trans bn.size bs1)
  exact ⟨(g2.block q h2 (fun e => h1.2 e.symm)).trans h1.1, by rw [HE.out]; exact (nb_of n2).ne h1.2 h2⟩
end Go.Proofs.Ytagkhohglpjjlaa
namespace Go.Proofs.Ytagkhohglpjjlaa
open Go.RowKit
set_option linter.unusedSimpArgs false
set_option linter.unusedVariables false

/-- Drops that are nil, or at the beginning of a block. -/
def NilOr (da : Option Addr) (nd gd : Nat) : Prop := nd = 0 ∨ da = some ⟨gd, 0, none⟩

set_option maxHeartbeats 800000 in
theorem aNumD_nil (base : Nat) (a : Option Addr) (cp : Nat) (L : List Int) (da : Option Addr) (nc : Nat) (w : World) (hown : OwnL w base (.slice a L.length cp) L) (hbs : base ≤ w.heap.size) :
    Calls Try.prog 24 #[.slice a L.length cp, .slice da 0 nc] w fun e w' => PB base (.slice a L.length cp) L (nsL []) w e w' := by
  have H : PB base (.slice a L.length cp) L (nsL []) w (.returned (.slice a L.length cp)) w := by
    have e : L ++ nsL [] = L := by simp [nsL]
    refine ⟨a, cp, by rw [e], by rw [e]; exact hown, Below.refl _ _, fun q hq hne => ⟨rfl, by rw [e]; exact hne⟩⟩
  have HH : Hid (PB base (.slice a L.length cp) L (nsL []) w (.returned (.slice a L.length cp)) w) := H
  clear H
  go_enter Try.func24, Try.ntmps24
  go_wp2
  go_loopw [0, 9] (fun v i wr => v = .slice a L.length cp ∧ i = .int .i64 0 ∧ wr = w) (fun _ _ _ => 0)
  case atStart => exact ⟨rfl, rfl, rfl⟩
  case round =>
    obtain ⟨rfl, rfl, hw⟩ := hrel
    have hw2 := hw.symm
    clear hw
    subst hw2
    go_wp2
    go_ret
    exact HH.out
theorem aNumD (base : Nat) (a : Option Addr) (cp : Nat) (L : List Int) (da : Option Addr) (gd nd nc : Nat) (f : Nat → Int) (w : World) (hda : NilOr da nd gd) (hown : OwnL w base (.slice a L.length cp) L) (hg : nd ≠ 0 → da = some ⟨gd, 0, none⟩ → NumAt w gd (iL f nd)) (hne : nd ≠ 0 → da = some ⟨gd, 0, none⟩ → (Value.slice a L.length cp).ownBlock ≠ some gd) (hN : Nat0 (iL f nd)) (hL : L.length + 10 * (iL f nd).length ≤ 1000000) (hbs : base ≤ w.heap.size) :
    Calls Try.prog 24 #[.slice a L.length cp, .slice da (iL f nd).length nc] w fun e w' => PB base (.slice a L.length cp) L (nsL (iL f nd)) w e w' := by
  by_cases h0 : nd = 0
  · subst h0
    exact aNumD_nil base a cp L da nc w hown hbs
  have hda := hda.resolve_left h0
  subst hda
  exact aNum base a cp L gd nc (iL f nd) w hown (hg h0 rfl) (hne h0 rfl) hN hL hbs

set_option maxHeartbeats 800000 in
theorem lPutD_nil (base : Nat) (a : Option Addr) (cp : Nat) (L : List Int) (da : Option Addr) (nc : Nat) (w : World) (hown : OwnL w base (.slice a L.length cp) L) (hbs : base ≤ w.heap.size) :
    Calls Try.prog 49 #[.slice a L.length cp, .slice da 0 nc] w fun e w' => PB base (.slice a L.length cp) L (nsL []) w e w' := by
  have H : PB base (.slice a L.length cp) L (nsL []) w (.returned (.slice a L.length cp)) w := by
    have e : L ++ nsL [] = L := by simp [nsL]
    refine ⟨a, cp, by rw [e], by rw [e]; exact hown, Below.refl _ _, fun q hq hne => ⟨rfl, by rw [e]; exact hne⟩⟩
  have HH : Hid (PB base (.slice a L.length cp) L (nsL []) w (.returned (.slice a L.length cp)) w) := H
  clear H
  go_enter Try.func49, Try.ntmps49
  go_wp2
  go_loopw [0, 9] (fun v i wr => v = .slice a L.length cp ∧ i = .int .i64 0 ∧ wr = w) (fun _ _ _ => 0)
  case atStart => exact ⟨rfl, rfl, rfl⟩
  case round =>
    obtain ⟨rfl, rfl, hw⟩ := hrel
    have hw2 := hw.symm
    clear hw
    subst hw2
    go_wp2
    go_ret
    exact HH.out
theorem lPutD (base : Nat) (a : Option Addr) (cp : Nat) (L : List Int) (da : Option Addr) (gd nd nc : Nat) (f : Nat → Int) (w : World) (hda : NilOr da nd gd) (hown : OwnL w base (.slice a L.length cp) L) (hg : nd ≠ 0 → da = some ⟨gd, 0, none⟩ → NumAt w gd (iL f nd)) (hne : nd ≠ 0 → da = some ⟨gd, 0, none⟩ → (Value.slice a L.length cp).ownBlock ≠ some gd) (hN : Nat0 (iL f nd)) (hL : L.length + 10 * (iL f nd).length ≤ 1000000) (hbs : base ≤ w.heap.size) :
    Calls Try.prog 49 #[.slice a L.length cp, .slice da (iL f nd).length nc] w fun e w' => PB base (.slice a L.length cp) L (nsL (iL f nd)) w e w' := by
  by_cases h0 : nd = 0
  · subst h0
    exact lPutD_nil base a cp L da nc w hown hbs
  have hda := hda.resolve_left h0
  subst hda
  exact lPut base a cp L gd nc (iL f nd) w hown (hg h0 rfl) (hne h0 rfl) hN hL hbs
end Go.Proofs.Ytagkhohglpjjlaa
