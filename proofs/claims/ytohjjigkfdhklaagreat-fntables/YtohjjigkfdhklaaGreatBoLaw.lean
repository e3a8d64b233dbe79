/- A table with one byte changed is no table. / MayHave in both texts, and its law. / A filter has each key that was put into it; its bytes, with their room told. / FnTables: what its calls are told. / BuildTable in the program, its answer's room told; in both texts where there are no entries. / What FindInTable leaves, out of what was gathered. / FindInTable, in the program. / BlocksOf in both texts, and its law. -/
import Derived.Test.YtohjjigkfdhklaaGreatDg
import Derived.Test.YtohjjigkfdhklaaGreatGc
import Derived.Test.YtohjjigkfdhklaaGreatMh
import Derived.Test.YtohjjigkfdhklaaGreatQb
import Derived.Deep.RegionHeld3
import Derived.Test.YtohjjigkfdhklaaGreatFs
import Derived.Test.YtohjjigkfdhklaaGreatXp
import Derived.Laws.BitsAllLaws
import Derived.Test.YtohjjigkfdhklaaGreatFSb
import Derived.Test.YtohjjigkfdhklaaGreatQc
namespace Go.Proofs.YtohjjigkfdhklaaGreat
set_option maxRecDepth 100000
open Go.RowKit
set_option linter.unusedSimpArgs false
set_option linter.unusedVariables false

theorem num4 (f : Nat → Int) (q : Nat) : num f q 4 = f q * 16777216 + f (q + 1) * 65536 + f (q + 2) * 256 + f (q + 3) := by
  simp [num]
  omega
theorem spoilt_no {f g : Nat → Int} {n q : Nat} {X : Nat → Ent} {m : Nat} {p : Int} (h : IsTb f n X m p) (hf : ∀ i, 0 ≤ f i ∧ f i ≤ 255) (hg : ∀ i, 0 ≤ g i ∧ g i ≤ 255) (hq : q < n) (hne : f q ≠ g q) (he : ∀ i, i ≠ q → f i = g i) :
    ∀ Y k p', ¬ IsTb g n Y k p' := by
  intro Y k p' h2
  have h1 := h.plc.2.2.2.2.2.2.2.2
  obtain ⟨hn, _, _, _, _, _, _, _, h2⟩ := h2.plc
  unfold endC at h1 h2
  rw [if_neg (by omega)] at h1 h2
  split at h1
  · omega
  rename_i s1
  split at h2
  · omega
  rename_i s2
  have s1 := Classical.not_not.1 s1
  have s2 := Classical.not_not.1 s2
  split at h1
  · omega
  rename_i c1
  split at h2
  · omega
  rename_i c2
  have c1 := Classical.not_not.1 c1
  have c2 := Classical.not_not.1 c2
  by_cases a : q < n - 8
  · have e : num f (n - 8) 4 = num g (n - 8) 4 := by
      rw [num4, num4, he (n - 8) (by omega), he (n - 8 + 1) (by omega), he (n - 8 + 2) (by omega), he (n - 8 + 3) (by omega)]
    exact crcOf_one hf hg a hne he (by rw [c1, c2, e])
  · have e : crcOf f (n - 8) = crcOf g (n - 8) := crcOf_same fun i hi => he i (by omega)
    rw [c1, c2, num4, num4] at e
    have f0 := hf (n - 8); have f1 := hf (n - 8 + 1); have f2 := hf (n - 8 + 2); have f3 := hf (n - 8 + 3)
    have g0 := hg (n - 8); have g1 := hg (n - 8 + 1); have g2 := hg (n - 8 + 2); have g3 := hg (n - 8 + 3)
    by_cases b : q < n - 4
    · have hq4 : q = n - 8 ∨ q = n - 8 + 1 ∨ q = n - 8 + 2 ∨ q = n - 8 + 3 := by omega
      rcases hq4 with e4 | e4 | e4 | e4
      all_goals
        rw [e4] at hne
        omega
    · have hq4 : q = n - 4 ∨ q = n - 3 ∨ q = n - 2 ∨ q = n - 1 := by omega
      rcases hq4 with e4 | e4 | e4 | e4
      all_goals
        rw [e4] at hne
        omega
end Go.Proofs.YtohjjigkfdhklaaGreat
namespace Go.Proofs.YtohjjigkfdhklaaGreat
set_option maxRecDepth 100000
open Go.RowKit
set_option linter.unusedSimpArgs false
set_option linter.unusedVariables false

/-- What MayHave answers. -/
def mhB (y : Int) (n : Nat) (f : Nat → Int) (s : ByteArray) : Bool := if (1 ≤ y ∧ y ≤ 8) ∧ 1 ≤ n ∧ n ≤ 200 then allSet f (plL (hOf s 0) (hOf s 1) (8 * n) y.toNat) else false

end Go.Proofs.YtohjjigkfdhklaaGreat
namespace Go.Proofs.YtohjjigkfdhklaaGreat
set_option maxRecDepth 100000
open Go.RowKit
set_option linter.unusedSimpArgs false
set_option linter.unusedVariables false

theorem or_and {x y z : Int} (hx : 0 ≤ x ∧ x ≤ 255) (hy : 0 ≤ y ∧ y ≤ 255) (hz : 0 ≤ z ∧ z ≤ 255) : bits .and .u8 (bits .or .u8 x y) z = (((x.toNat &&& z.toNat) ||| (y.toNat &&& z.toNat) : Nat) : Int) := by
  have h1 := or_bd x y
  rw [u8_and _ _ h1.1 (by omega) hz.1 (by omega), u8_or x y hx.1 (by omega) hy.1 (by omega), Int.toNat_natCast, Nat.and_or_distrib_right]
theorem or_keep {x y z : Int} (hx : 0 ≤ x ∧ x ≤ 255) (hy : 0 ≤ y ∧ y ≤ 255) (hz : 0 ≤ z ∧ z ≤ 255) (h : bits .and .u8 x z ≠ 0) : bits .and .u8 (bits .or .u8 x y) z ≠ 0 := by
  rw [or_and hx hy hz]
  rw [u8_and _ _ hx.1 (by omega) hz.1 (by omega)] at h
  have h2 : x.toNat &&& z.toNat ≤ (x.toNat &&& z.toNat) ||| (y.toNat &&& z.toNat) := Nat.left_le_or
  omega
theorem bt_pos (j : Int) : 1 ≤ bt j := by unfold bt; repeat' split <;> omega
theorem or_has {x : Int} (hx : 0 ≤ x ∧ x ≤ 255) (j : Int) : bits .and .u8 (bits .or .u8 x (bt j)) (bt j) ≠ 0 := by
  have hb := bt_bd j
  have hp := bt_pos j
  rw [or_and hx hb hb]
  have h2 : (bt j).toNat &&& (bt j).toNat ≤ (x.toNat &&& (bt j).toNat) ||| ((bt j).toNat &&& (bt j).toNat) := Nat.right_le_or
  rw [Nat.and_self] at h2
  rw [Nat.and_self]
  omega
/-- Bytes. -/
def FB (f : Nat → Int) : Prop := ∀ i, 0 ≤ f i ∧ f i ≤ 255
theorem FB.setB {f : Nat → Int} (h : FB f) (x : Int) : FB (setB f x) := fun i => by
  unfold Go.Proofs.YtohjjigkfdhklaaGreat.setB
  split
  · exact or_bd _ _
  · exact h i
theorem FB.putL {f : Nat → Int} (h : FB f) (L : List Int) : FB (putL f L) := by
  induction L generalizing f with
  | nil => exact h
  | cons x L ih => exact ih (h.setB x)
theorem isSet_iff (f : Nat → Int) (x : Int) : isSet f x = true ↔ bits .and .u8 (f (x / 8).toNat) (bt (x % 8)) ≠ 0 := by
  unfold isSet
  simp
theorem setB_has {f : Nat → Int} (h : FB f) (x : Int) : isSet (setB f x) x = true := by
  rw [isSet_iff]
  unfold setB
  simp only [if_true]
  exact or_has (h _) _
theorem setB_keep {f : Nat → Int} (h : FB f) {x p : Int} (hp : isSet f p = true) : isSet (setB f x) p = true := by
  rw [isSet_iff] at hp ⊢
  unfold setB
  split
  · rename_i e
    rw [e] at hp
    exact or_keep (h _) (bt_bd _) (bt_bd _) hp
  · exact hp
theorem putL_keep {f : Nat → Int} (h : FB f) (L : List Int) {p : Int} (hp : isSet f p = true) : isSet (putL f L) p = true := by
  induction L generalizing f with
  | nil => exact hp
  | cons x L ih => exact ih (h.setB x) (setB_keep h hp)
theorem putL_has {f : Nat → Int} (h : FB f) (L : List Int) : ∀ p ∈ L, isSet (putL f L) p = true := by
  induction L generalizing f with
  | nil => intro p hp; cases hp
  | cons x L ih =>
    intro p hp
    rcases List.mem_cons.1 hp with rfl | hp
    · exact putL_keep (h.setB p) L (setB_has h p)
    · exact ih (h.setB x) p hp
theorem kyF_fb (K : Nat → ByteArray) (y m : Nat) : ∀ k, FB (kyF K y m k)
  | 0 => fun i => by simp [kyF]
  | k + 1 => (kyF_fb K y m k).putL _
/-- Each key that was put in is there. -/
theorem kyF_has (K : Nat → ByteArray) (y m : Nat) : ∀ k i, i < k → allSet (kyF K y m k) (plL (hOf (K i) 0) (hOf (K i) 1) (8 * m) y) = true
  | 0, i, h => absurd h (Nat.not_lt_zero _)
  | k + 1, i, h => by
    unfold allSet
    rw [List.all_eq_true]
    intro p hp
    by_cases e : i = k
    · subst e
      exact putL_has (kyF_fb K y m i) _ p hp
    · have := kyF_has K y m k i (by omega)
      unfold allSet at this
      rw [List.all_eq_true] at this
      exact putL_keep (kyF_fb K y m k) _ (this p hp)
theorem mh_congr {f g : Nat → Int} {n : Nat} {L : List Int} (hL : ∀ x ∈ L, (x / 8).toNat < n) (h : ∀ i, i < n → f i = g i) : allSet f L = allSet g L := by
  unfold allSet
  have : ∀ x ∈ L, isSet f x = isSet g x := fun x hx => by unfold isSet; rw [h _ (hL x hx)]
  induction L with
  | nil => rfl
  | cons x L ih =>
    rw [List.all_cons, List.all_cons, this x (List.mem_cons_self ..), ih (fun y hy => hL y (List.mem_cons_of_mem _ hy)) (fun y hy => this y (List.mem_cons_of_mem _ hy))]
theorem fw_bd (p : Int) : 1 ≤ fwI p ∧ fwI p ≤ 8 := by unfold fwI; repeat' split <;> omega
theorem fb_bd (n : Nat) (p : Int) : 8 ≤ fbI n p ∧ fbI n p ≤ 200 := by
  unfold fbI fbQ
  repeat' split <;> omega
/-- A filter of keys may have each of them. -/
theorem fo_has (K : Nat → ByteArray) (n : Nat) (p : Int) (i : Nat) (hi : i < n) : mhB (fwI p) (fbI n p).toNat (fl (ffl (kyF K (fwI p).toNat (fbI n p).toNat n) (fbI n p).toNat)) (K i) = true := by
  have hw := fw_bd p
  have hb := fb_bd n p
  unfold mhB
  rw [if_pos ⟨⟨by omega, by omega⟩, by omega, by omega⟩]
  refine Eq.trans (mh_congr (n := (fbI n p).toNat) (fun x hx => ?_) (fun j hj => ffl_fl hj)) (kyF_has K (fwI p).toNat (fbI n p).toNat n i hi)
  unfold plL at hx
  obtain ⟨k, _, rfl⟩ := List.mem_map.1 hx
  have := pl_bd (hOf (K i) 0) (hOf (K i) 1) (M := 8 * ((fbI n p).toNat : Int)) (by omega) k
  omega
end Go.Proofs.YtohjjigkfdhklaaGreat
namespace Go.Proofs.YtohjjigkfdhklaaGreat
set_option maxRecDepth 100000
open Go.RowKit
set_option linter.unusedSimpArgs false
set_option linter.unusedVariables false

theorem key_eq {a b : ByteArray} (h : a.toList = b.toList) : a = b := by
  rw [ByteArray.toList_eq, ByteArray.toList_eq] at h
  exact ByteArray.ext (Array.toList_inj.1 h)
/-- Each key is among the keys. -/
theorem cK_key (X : Nat → Ent) : ∀ n i, i < n → (X i).key ∈ cK X n
  | 0, i, h => absurd h (Nat.not_lt_zero _)
  | n + 1, i, h => by
    rw [cK_succ]
    by_cases e : i = n
    · subst e
      by_cases hk : kp X i = true
      · rw [if_pos hk]
        exact List.mem_append.2 (.inr (List.mem_singleton.2 rfl))
      · have hk2 : i ≠ 0 ∧ (X i).key = (X (i - 1)).key := by
          unfold kp at hk
          rw [decide_eq_true_iff] at hk
          exact ⟨fun h => hk (.inl h), Classical.not_not.1 fun h => hk (.inr h)⟩
        rw [hk2.2]
        exact List.mem_append.2 (.inl (cK_key X i (i - 1) (by omega)))
    · exact List.mem_append.2 (.inl (cK_key X n i (by omega)))
/-- A table's filter has each key. -/
theorem hasF_key (X : Nat → Ent) (m : Nat) (p : Int) {i : Nat} (hi : i < m) : hasF X m p (X i).key = true := by
  obtain ⟨j, hj, e⟩ := List.getElem_of_mem (cK_key X m i hi)
  have hc : cF X m j = (X i).key := by
    unfold cF
    simp [hj, e]
  have hb := fbN_le X m p
  unfold hasF fLt
  rw [← hc]
  refine Eq.trans (mh_congr (n := fbN X m p) (fun x hx => ?_) (fun j hj => ffl_fl hj)) (kyF_has (cF X m) (fwI p).toNat (fbN X m p) (cK X m).length j hj)
  unfold plL at hx
  obtain ⟨k, _, rfl⟩ := List.mem_map.1 hx
  have := pl_bd (hOf (cF X m j) 0) (hOf (cF X m j) 1) (M := 8 * (fbN X m p : Int)) (by omega) k
  omega
theorem fX_mem {X : Nat → Ent} {s : ByteArray} : ∀ k i, i < k → (X i).key.toList = s.toList → X i ∈ fX X s k
  | 0, i, h, _ => absurd h (Nat.not_lt_zero _)
  | k + 1, i, h, e => by
    have ih := fX_mem (X := X) (s := s) k i
    unfold fX
    by_cases ek : i = k
    · subst ek
      rw [if_pos (by simp [e])]
      exact List.mem_append.2 (.inr (List.mem_singleton.2 rfl))
    · split
      · exact List.mem_append.2 (.inl (ih (by omega) e))
      · exact ih (by omega) e
theorem tb_is {X : Nat → Ent} {m : Nat} {p : Int} (h : BTg X m p) : IsTb (fl (tbP X m p)) (tbP X m p).length X m p :=
  ⟨h, rfl, fun i hi => by rw [Nat.zero_add]⟩
/-- What is found of a key that is there. -/
theorem found_ok {X : Nat → Ent} {m : Nat} {p : Int} (h : BTg X m p) {i : Nat} (hi : i < m) :
    FTk (fl (tbP X m p)) (tbP X m p).length (X i).key (eL (fX X (X i).key m)) (fX X (X i).key m).length ((fd X m (X i).key (nbl m)).1 : Nat) 0 ∧ 1 ≤ (fd X m (X i).key (nbl m)).1 ∧ (fd X m (X i).key (nbl m)).1 ≤ nbl m := by
  have hh := hasF_key X m p hi
  refine ⟨.inl ⟨X, m, p, tb_is h, ?_, ?_, ?_, rfl⟩, ?_, fd_le _ _ _ _⟩
  · unfold foE; rw [if_pos hh]
  · unfold foE; rw [if_pos hh]
  · unfold foK; rw [if_pos hh]
  · have ha := fd_all (s := (X i).key) h.1.2.2.1
    have hm := fX_mem (X := X) (s := (X i).key) m i hi rfl
    rw [← ha] at hm
    have hz := fd_zero X m (X i).key (nbl m)
    by_cases e : (fd X m (X i).key (nbl m)).1 = 0
    · rw [hz e] at hm
      cases hm
    · omega
/-- A list of entries that is only read. -/
structure LsE (w : World) (lo : Option Addr) (m lc : Nat) (X : Nat → Ent) : Prop where
  row : ERow w lo m X
  cap : m ≤ lc
  at' : m = 0 ∨ ∃ b off, lo = some ⟨b, off, none⟩
  gx : GX m X X
theorem LsE.keep {w w' : World} {lo : Option Addr} {m lc : Nat} {X : Nat → Ent} (h : LsE w lo m lc X) (hb : Below w.heap.size w w') : LsE w' lo m lc X := ⟨h.row.keep hb, h.cap, h.at', h.gx⟩
theorem GL.lse {w : World} {base : Nat} {lo : Option Addr} {m lc : Nat} {X : Nat → Ent} {V : Nat → Value} (h : GL w base (.slice lo m lc) m X V) : LsE w lo m lc X := by
  obtain ⟨ao, cap, e, hE, hc, hn⟩ := h.erow
  injection e with e1 _ e3
  subst e1 e3
  refine ⟨hE, hc, ?_, fun i hi => (h.bd i hi).1, fun i hi => ?_, h.sz, fun i hi => (h.bd i hi).2.2, fun i hi => SameE.refl _⟩
  · rcases hn with ⟨_, h0, _⟩ | ⟨g, o, e⟩
    · exact .inl h0
    · exact .inr ⟨g, o, e⟩
  · obtain ⟨a, b, _, hH, _⟩ := h.row i hi
    exact hH.row.bd
theorem GX.refl_found {X : Nat → Ent} {m : Nat} (h : GX m X X) (s : ByteArray) : GX (fX X s m).length (eL (fX X s m)) (eL (fX X s m)) := (gx_found h s).2
theorem u8_flip {a : Int} (ha : 0 ≤ a ∧ a ≤ 255) (j : Int) : bits .xor .u8 a (bt j) ≠ a := by
  have hb := bt_bd j
  have hp := bt_pos j
  rw [u8_xor a (bt j) ha.1 (by omega) hb.1 (by omega)]
  intro h
  have h2 : a.toNat ^^^ (bt j).toNat = a.toNat := by omega
  have h3 : (bt j).toNat ^^^ a.toNat = 0 ^^^ a.toNat := by rw [Nat.xor_comm, h2, Nat.zero_xor]
  have := xor_nat_inj h3
  omega
theorem u8_xor_bd (a b : Int) : 0 ≤ bits .xor .u8 a b ∧ bits .xor .u8 a b ≤ 255 := bounds_u8 (wf_bits _ _ _ _)
end Go.Proofs.YtohjjigkfdhklaaGreat
namespace Go.Proofs.YtohjjigkfdhklaaGreat
set_option maxRecDepth 100000
open Go.RowKit Go.Shelf
set_option linter.unusedSimpArgs false
set_option linter.unusedVariables false

/-- A table's bytes, and a word. -/
def FOc (L : List Int) (ok : Bool) (w : World) (e : Ending) (w' : World) : Prop :=
  ∃ ao c, e = .returned (.tuple #[.slice ao L.length c, .bool ok]) ∧ BV w' w.heap.size w'.heap.size ao L ∧ L.length ≤ c ∧ Below w.heap.size w w'
def BTOc (X : Nat → Ent) (n : Nat) (p : Int) (w : World) (e : Ending) (w' : World) : Prop := (BTg X n p → FOc (tbP X n p) true w e w') ∧ (¬ BTg X n p → FOc [] false w e w')
theorem btoc_no {X : Nat → Ent} {n : Nat} {p : Int} {w w' : World} (h : ¬ BTg X n p) (hb : Below w.heap.size w w') : BTOc X n p w (.returned (.tuple #[.slice none 0 0, .bool false])) w' :=
  ⟨fun h' => absurd h' h, fun _ => ⟨none, 0, rfl, bv_nil _ _ _ (Nat.le_refl _), Nat.le_refl _, hb⟩⟩
theorem btoc_yes {X : Nat → Ent} {n : Nat} {p : Int} {w w' : World} {ao : Option Addr} {c : Nat} (h : BTg X n p) (ho : OwnL w' w.heap.size (.slice ao (tbP X n p).length c) (tbP X n p)) (hb : Below w.heap.size w w') : BTOc X n p w (.returned (.tuple #[.slice ao (tbP X n p).length c, .bool true])) w' := by
  refine ⟨fun _ => ?_, fun h' => absurd h h'⟩
  obtain ⟨ao', c', e, hB⟩ := bv_of ho
  injection e with e1 _ e3
  subst e1 e3
  refine ⟨ao, c, rfl, hB, ?_, hb⟩
  rcases ho.own.2 with ⟨e, h0⟩ | ⟨g, cap, cur, e, _, _, h5, _⟩
  · omega
  · injection e with _ _ e3
    omega

set_option maxHeartbeats 3200000 in
theorem buildTable_room (b off n bc : Nat) (X : Nat → Ent) (p : Int) (w : World) (hr : ERow w (some ⟨b, off, none⟩) n X) (hn : n ≤ 1048576) (hz : ESize n X) (hcap : n ≤ bc) :
    Calls Tryz.prog 6 #[.slice (some ⟨b, off, none⟩) n bc, .int .i64 p] w fun e w' => BTOc X n p w e w' := by
  have hf := fitTable_any b off n bc X w hr hn hz
  go_enter Tryz.func6, Tryz.ntmps6
  go_wp2_with fail
  refine hf.mono ?_
  rintro e w1 ⟨bb, rfl, hb, q1⟩
  cases bb
  · have hF : ¬ FitT X n := fun h => by simpa using hb.2 h
    have HN : Hid (¬ BTg X n p) := fun h => hF h.1
    clear hf hb hF
    go_wp2
    exact bodyPost_ret (v := .tuple #[.slice none 0 0, .bool false]) (by simp [results, Tryz.results6, go_sem]) rfl (btoc_no HN.out q1)
  · have hF : FitT X n := hb.1 rfl
    have hk := keysOf_any b off n bc X w1 (hr.keep q1) (by have := hF.1; omega)
    have hcl := cK_len X n
    have hn100 := hF.1.2
    have hK140 : ∀ i, i < n → (X i).key.size ≤ 140 := fun i hi => by have := (hF.2.1 i hi).1; unfold KeyOk at this; omega
    have hts : TSz (cF X n) (cK X n).length := ⟨by omega, fun i hi => by have := cF_size hK140 hi; omega⟩
    clear hf hb
    go_wp2_with fail
    refine hk.mono ?_
    rintro e w2 ⟨ko, kc, rfl, kr, q2⟩
    have bw2 := q1.trans (q2.mono q1.size)
    have hfo := filterOf_impl ko (cK X n).length kc (cF X n) p w2 kr hts
    generalize hkl : (cK X n).length = kl at *
    clear hk
    go_wp2_with fail
    refine hfo.mono ?_
    intro e w3 hO
    by_cases hp : 1 ≤ p ∧ p ≤ 20
    · obtain ⟨fa, fc, rfl, hBV, q3⟩ := hO.1 ⟨by omega, hp⟩
      have bw3 := bw2.trans (q3.mono bw2.size)
      have hB4 := below_new w3 (.cells #[.int .i64 (fwI p), .slice fa (ffl (kyF (cF X n) (fwI p).toNat (fbI kl p).toNat kl) (fbI kl p).toNat).length fc] 55)
      have hRow := hBV.row.keep hB4
      have hfw := @fwI_bd p
      have hfb := fbI_bd (n := kl) (p := p)
      have hLe : ffl (kyF (cF X n) (fwI p).toNat (fbI kl p).toNat kl) (fbI kl p).toNat = fLt X n p := by unfold fLt fbN; rw [hkl]
      rw [hLe] at hRow hB4 hBV ⊢
      have hll : (fLt X n p).length = (fbI kl p).toNat := by rw [fLt_len]; unfold fbN; rw [hkl]
      have bw4 := bw3.trans (hB4.mono bw3.size)
      have hsz4 := bw4.size
      have hcall := tableBytes_any b off n bc X (fwI p) fa (fLt X n p).length fc (fl (fLt X n p)) _ (hr.keep bw4) hF.1 hcap hF.2.1 hRow ⟨hfw, by omega, by omega⟩ (by omega)
      rw [ffl_self] at hcall
      clear hfo hO hLe hRow hBV kr hll
      generalize hLF : fLt X n p = LF at *
      have HT : Hid (tbl X n (fwI p) LF = tbP X n p) := by unfold Hid tbP; rw [hLF]
      rw [HT.out] at hcall
      clear hLF
      obtain ⟨T, hTP0⟩ : ∃ T, T = tbP X n p := ⟨_, rfl⟩
      rw [← hTP0] at hcall
      have hTP : Hid (T = tbP X n p) := hTP0
      clear hTP0
      go_wp2_with fail
      refine hcall.mono ?_
      rintro e w5 ⟨v5, rfl, o5, q5⟩
      have bw5 := bw4.trans (q5.mono bw4.size)
      have o5' := o5.mono hsz4
      obtain ⟨a5, c5, rfl⟩ := o5.form
      clear hcall o5
      by_cases h8 : T.length ≤ 8000
      · have HY : Hid (BTOc X n p w (.returned (.tuple #[.slice a5 T.length c5, .bool true])) w5) := by
          unfold Hid
          rw [hTP.out] at h8 o5' ⊢
          exact btoc_yes ⟨hF, hp, h8⟩ o5' bw5
        have h8i : ¬ (8000 : Int) < (T.length : Int) := by omega
        clear o5'
        go_wp2
        exact bodyPost_ret (v := .tuple #[.slice a5 T.length c5, .bool true]) (by simp [results, Tryz.results6, go_sem]) rfl HY.out
      · have HN : Hid (¬ BTg X n p) := fun h => h8 (by rw [hTP.out]; exact h.2.2)
        have h8i : (8000 : Int) < (T.length : Int) := by omega
        clear o5'
        go_wp2
        exact bodyPost_ret (v := .tuple #[.slice none 0 0, .bool false]) (by simp [results, Tryz.results6, go_sem]) rfl (btoc_no HN.out bw5)
    · obtain ⟨fa, fc, rfl, hBV, q3⟩ := hO.2 (fun h => hp h.2)
      have HN : Hid (¬ BTg X n p) := fun h => hp h.2.1
      have bw3 := bw2.trans (q3.mono bw2.size)
      clear hfo hO hp
      go_wp2
      exact bodyPost_ret (v := .tuple #[.slice none 0 0, .bool false]) (by simp [results, Tryz.results6, go_sem]) rfl (btoc_no HN.out (bw3.trans ((below_new _ _).mono bw3.size)))

theorem fitTable_zero (lo : Option Addr) (lc : Nat) (w : World) : Calls Tryz.prog 23 #[.slice lo 0 lc] w fun e w' => e = .returned (.bool false) ∧ w' = w := by
  go_enter Tryz.func23, Tryz.ntmps23
  go_wp2
  go_ret
  exact ⟨rfl, rfl⟩
theorem no_zero (X : Nat → Ent) (p : Int) : ¬ BTg X 0 p := fun h => by have := h.1.1.1; omega
theorem buildTable_zero (lo : Option Addr) (lc : Nat) (X : Nat → Ent) (p : Int) (w : World) : Calls Tryz.prog 6 #[.slice lo 0 lc, .int .i64 p] w fun e w' => BTOc X 0 p w e w' := by
  go_enter Tryz.func6, Tryz.ntmps6
  go_wp2_with fail
  refine (fitTable_zero lo lc w).mono ?_
  rintro e w1 ⟨rfl, hw⟩
  have hw2 := hw.symm
  clear hw
  subst hw2
  have HN : Hid (BTOc X 0 p w (.returned (.tuple #[.slice none 0 0, .bool false])) w) := btoc_no (no_zero X p) (Below.refl _ _)
  go_wp2
  exact bodyPost_ret (v := .tuple #[.slice none 0 0, .bool false]) (by simp [results, Tryz.results6, go_sem]) rfl HN.out
theorem buildTable_zeroS (lo : Option Addr) (lc : Nat) (X : Nat → Ent) (p : Int) (w : World) : Calls Tryz.prog 7 #[.slice lo 0 lc, .int .i64 p] w fun e w' => BTO X 0 p w e w' := by
  have HN : Hid (BTO X 0 p w (.returned (.tuple #[.slice none 0 0, .bool false])) w) := bto_no (no_zero X p) (Below.refl _ _)
  have hb : btw 1 0 100 = false := by decide
  go_enter Tryz.func7, Tryz.ntmps7
  go_wp2_with fail
  refine (l1In_any 0 1 100 w).mono ?_
  rintro e w1 ⟨rfl, hw⟩
  have hw2 := hw.symm
  clear hw
  subst hw2
  rw [hb]
  go_wp2
  exact bodyPost_ret (v := .tuple #[.slice none 0 0, .bool false]) (by simp [results, Tryz.results7, go_sem]) rfl HN.out
end Go.Proofs.YtohjjigkfdhklaaGreat
namespace Go.Proofs.YtohjjigkfdhklaaGreat
set_option maxRecDepth 100000
open Go.RowKit Go.Shelf
set_option linter.unusedSimpArgs false
set_option linter.unusedVariables false

theorem outH_of {w : World} {base : Nat} {v : Value} {n : Nat} {X : Nat → Ent} {V : Nat → Value} (h : OutE w base v n X V) : OutH w base v n X V := by
  refine ⟨h.own, fun i hi => ?_, h.dis⟩
  have hr := h.row i hi
  have ho := hr.own
  have ha := h.apart i hi
  rcases ho.2 with ⟨e, h0⟩ | ⟨g, cap, cur, e, hbg, hg, hnc, _⟩
  · exact ⟨none, 0, by rw [e, h0], .inl ⟨h0, rfl⟩⟩
  · refine ⟨some ⟨g, 0, none⟩, cap, e, .inr ⟨g, rfl, hbg, ⟨hr.bd, (Array.getElem?_eq_some_iff.1 hg).1, fun j hj => ?_, fun j hj => ?_⟩, ha g (by rw [e]; rfl)⟩⟩
    · rw [e] at ho
      rw [Nat.zero_add, ho.cellAt j (by omega)]
      simp [icells, hj]
    · rw [e] at ho
      rw [Nat.zero_add]
      simpa using ho.frozenAt j
theorem gx_al {f : Nat → Int} {n : Nat} {X : Nat → Ent} {m : Nat} {p : Int} (h : IsTb f n (fun i => nrE (X i)) m p) (hEB : ∀ i, i < m → EB (nrE (X i))) (hES : ESize m (fun i => nrE (X i))) {w : World} {base : Nat} {v : Value} {V : Nat → Value} (hO : OutH w base v m (fun i => nrE (X i)) V) : ∀ Y, Alike (fun i => nrE (X i)) Y m → GX m (fun i => nrE (X i)) Y := fun Y ha => by
  refine ⟨hEB, fun i hi => ?_, hES, fun i hi => ?_, fun i hi => (ha i hi).1⟩
  · obtain ⟨lo, lc, _, hI⟩ := (hO.row i hi).io
    exact hI.bd
  · rcases ((h.1.1.2.1 i hi).2.2) with ⟨_, hA⟩ | ⟨_, hz⟩
    · have h8 : (nrE (X i)).n = 8 := hA.2.1
      show (nrE (X i)).n ≤ 8
      omega
    · have h8 : (nrE (X i)).n = 0 := hz.2.2.2.2.1
      show (nrE (X i)).n ≤ 8
      omega
theorem fta_none {Z : Nat → Ent} {c : Int} {w w' : World} (hb : Below w.heap.size w w') : FTa Z 0 0 c w (.returned (.tuple #[.slice none 0 0, .int .i64 0, .int .i64 c])) w' :=
  ⟨_, Z, rfl, cx_nil _ _ _ _ _, gx_zero _ _, hb⟩
theorem fta_found {Z : Nat → Ent} {E : List Ent} {K : Int} {w w' : World} {v : Value} {V : Nat → Value} {base : Nat} (hO : OutE w' base v E.length (eL E) V) (hbase : w.heap.size ≤ base) (hg : GX E.length (eL E) Z) (hb : Below w.heap.size w w') : FTa Z E.length K 0 w (.returned (.tuple #[v, .int .i64 K, .int .i64 0])) w' :=
  ⟨_, _, rfl, cx_of_outH (outH_of (outE_low hO hbase)), hg, hb⟩

end Go.Proofs.YtohjjigkfdhklaaGreat
namespace Go.Proofs.YtohjjigkfdhklaaGreat
set_option maxRecDepth 100000
open Go.RowKit Go.Shelf
set_option linter.unusedSimpArgs false
set_option linter.unusedVariables false

set_option maxHeartbeats 3200000 in
theorem findInTable_impl (Z : Nat → Ent) (k : Nat) (K c : Int) (bb bo n cap : Nat) (f : Nat → Int) (s : ByteArray) (w : World) (hK : FTk f n s Z k K c) (hr : Row w (some ⟨bb, bo, none⟩) n f) (hbb : bb < w.heap.size) (hn : n ≤ 1048576) (hcap : n ≤ cap) (hs : s.size ≤ 1048576) :
    Calls Tryz.prog 11 #[.slice (some ⟨bb, bo, none⟩) n cap, .string s] w fun e w' => FTa Z k K c w e w' := by
  have HKK : Hid (FTk f n s Z k K c) := hK
  clear hK
  go_enter Tryz.func11, Tryz.ntmps11
  go_wp2_with fail
  refine (openTable_any bb bo n cap f w hr hbb hn hcap).mono ?_
  rintro e w1 (⟨X0, m, p, v, V, fo, fc, hT, rfl, hO, hEB, hES, hrF, q1⟩ | ⟨hno, rfl, q1⟩)
  · obtain ⟨ec, ek, eK, hg⟩ := HKK.out.yes hT (gx_al hT hEB hES hO)
    have hm := hT.1.1.1
    obtain ⟨g, gc, rfl, hgc, hbg, hER⟩ := hO.erow hEB (by omega)
    have hGL := hT.1.1.2
    obtain ⟨X, hX⟩ : ∃ X, X = fun i => nrE (X0 i) := ⟨_, rfl⟩
    rw [← hX] at ek eK hg hER hGL hES hrF ⊢
    have hfb := fbN_le X m p
    have hfw := @fwI_bd p
    obtain ⟨Y, hY⟩ : ∃ Y : Nat, fwI p = (Y : Int) := ⟨(fwI p).toNat, by omega⟩
    have HH : Hid (allSet (fl (fLt X m p)) (plL (hOf s 0) (hOf s 1) (8 * fbN X m p) Y) = hasF X m p s) := by
      unfold Hid hasF
      rw [hY, Int.toNat_natCast]
    rw [hY] at hfw ⊢
    have HE : Hid (foE X m p s = if hasF X m p s = true then fX X s m else []) := rfl
    have HKe : Hid (foK X m p s = if hasF X m p s = true then (fd X m s (nbl m)).1 else 0) := rfl
    have hfa : Hid ((fd X m s (nbl m)).2.2 = fX X s m) := fd_all hGL.2.1
    have HA : Hid (c = 0 ∧ (foE X m p s).length = k ∧ K = (foK X m p s : Nat) ∧ GX k (eL (foE X m p s)) Z) := ⟨ec, ek, eK, hg⟩
    have b2 := below_new w1 (.cells #[.slice (some ⟨g, 0, none⟩) m gc, .int .i64 Y, .slice fo (fbN X m p) fc] 64)
    have T2 := TBx.new w1 (.slice (some ⟨g, 0, none⟩) m gc) (.int .i64 Y) (.slice fo (fbN X m p) fc) 64
    have B2 := q1.trans (b2.mono q1.size)
    have R2 := hrF.keep b2
    have E2 := hER.keep b2
    have hmh := mayHave_m s Y fo (fbN X m p) fc (fl (fLt X m p)) _ R2 hs (by omega) hfb
    rw [HH.out] at hmh
    clear ec ek eK hg hO hEB hT hrF hER q1 b2 hX hY HKK R2 hfb
    generalize fbN X m p = fb at *
    obtain ⟨_, t0, t1, t2, _⟩ := id T2
    generalize hhB : hasF X m p s = hB at *
    clear hhB
    go_wp2_with fail
    generalize w1.alloc (.cells #[.slice (some ⟨g, 0, none⟩) m gc, .int .i64 Y, .slice fo fb fc] 64) = w2 at *
    refine hmh.mono ?_
    rintro e w3 ⟨rfl, b3⟩
    have T3 := T2.keep b3
    have B3 := B2.trans (b3.mono B2.size)
    have E3 := E2.keep b3
    obtain ⟨_, x0, x1, x2, _⟩ := id T3
    clear T2 T3 B2 E2 b3 hmh t0 t1 t2
    cases hB
    · go_wp2
      refine bodyPost_ret (v := .tuple #[.slice none 0 0, .int .i64 0, .int .i64 0]) (by simp [results, Tryz.results11, go_sem]) rfl ?_
      obtain ⟨e1, e2, e3, e4⟩ := HA.out
      rw [HE.out] at e2
      rw [HKe.out] at e3
      simp at e2 e3
      rw [e1, e3, ← e2]
      exact fta_none B3
    · have hfi := find_any g 0 m gc X Y fo fb fc s w3 E3 hm hgc hGL hES
      clear E3 hGL hES
      go_wp2_with fail
      refine hfi.mono ?_
      rintro e w4 ⟨v4, V4, rfl, O4, b4⟩
      rw [hfa.out] at O4
      obtain ⟨lo4, lc4, rfl⟩ := ownsRow_form O4.own
      have B4 := B3.trans (b4.mono B3.size)
      have HO : Hid (OutE w4 w3.heap.size (.slice lo4 (fX X s m).length lc4) (fX X s m).length (eL (fX X s m)) V4) := O4
      have hz3 := B3.size
      clear O4 b4 hfi
      generalize (fd X m s (nbl m)).1 = dd at *
      go_wp2
      refine bodyPost_ret (v := .tuple #[.slice lo4 (fX X s m).length lc4, .int .i64 (dd : Nat), .int .i64 0]) (by simp [results, Tryz.results11, go_sem]) rfl ?_
      obtain ⟨e1, e2, e3, e4⟩ := HA.out
      rw [HKe.out] at e3
      rw [HE.out] at e2 e4
      simp only [if_true] at e2 e3 e4
      rw [e1, e3, ← e2]
      rw [← e2] at e4
      exact fta_found HO.out hz3 e4 B4
  · obtain ⟨e1, e2, e3⟩ := HKK.out.no hno
    have HA : Hid (k = 0 ∧ K = 0 ∧ c = noC f n) := ⟨e1, e2, e3⟩
    have hc0 : (noC f n != 0) = true := by have := noC_ne f n; simp [this]
    have bA := q1.trans ((below_new w1 (.cells #[.slice none 0 0, .int .i64 0, .slice none 0 0] 64)).mono q1.size)
    clear hno HKK e1 e2 e3
    generalize noC f n = c' at *
    go_wp2
    refine bodyPost_ret (v := .tuple #[.slice none 0 0, .int .i64 0, .int .i64 c']) (by simp [results, Tryz.results11, go_sem]) rfl ?_
    obtain ⟨e1, e2, e3⟩ := HA.out
    rw [e1, e2, e3]
    exact fta_none bA
end Go.Proofs.YtohjjigkfdhklaaGreat
namespace Go.Proofs.YtohjjigkfdhklaaGreat
set_option maxRecDepth 100000
open Go.RowKit
set_option linter.unusedSimpArgs false
set_option linter.unusedVariables false

/-- What BlocksOf answers. -/
def BOk (f : Nat → Int) (n : Nat) (K c : Int) : Prop :=
  (∃ X m p, IsTb f n X m p ∧ K = ((m : Int) + 3) / 4 ∧ c = 0) ∨ ((∀ X m p, ¬ IsTb f n X m p) ∧ K = 0 ∧ c = noC f n)
theorem bok_ex (f : Nat → Int) (n : Nat) : ∃ K c, BOk f n K c := by
  by_cases h : ∃ X m p, IsTb f n X m p
  · obtain ⟨X, m, p, h⟩ := h
    exact ⟨_, _, .inl ⟨X, m, p, h, rfl, rfl⟩⟩
  · exact ⟨0, noC f n, .inr ⟨fun X m p hh => h ⟨X, m, p, hh⟩, rfl, rfl⟩⟩
theorem BOk.yes {f : Nat → Int} {n : Nat} {K c : Int} (h : BOk f n K c) {X : Nat → Ent} {m : Nat} {p : Int} (hT : IsTb f n X m p) : K = ((m : Int) + 3) / 4 ∧ c = 0 := by
  rcases h with ⟨X', m', p', h1, h2, h3⟩ | ⟨h1, _⟩
  · obtain ⟨e, _⟩ := hT.one h1
    subst e
    exact ⟨h2, h3⟩
  · exact absurd hT (h1 X m p)
theorem BOk.no {f : Nat → Int} {n : Nat} {K c : Int} (h : BOk f n K c) (hno : ∀ X m p, ¬ IsTb f n X m p) : K = 0 ∧ c = noC f n := by
  rcases h with ⟨X', m', p', h1, h2, h3⟩ | ⟨h1, h2, h3⟩
  · exact absurd h1 (hno _ _ _)
  · exact ⟨h2, h3⟩

set_option maxHeartbeats 1600000 in
theorem blocksOf_impl (K c : Int) (bb bo n cap : Nat) (f : Nat → Int) (w : World) (hK : BOk f n K c) (hr : Row w (some ⟨bb, bo, none⟩) n f) (hbb : bb < w.heap.size) (hn : n ≤ 1048576) (hcap : n ≤ cap) :
    Calls Tryz.prog 10 #[.slice (some ⟨bb, bo, none⟩) n cap] w fun e w' => e = .returned (.tuple #[.int .i64 K, .int .i64 c]) ∧ Below w.heap.size w w' := by
  have HKK : Hid (BOk f n K c) := hK
  clear hK
  go_enter Tryz.func10, Tryz.ntmps10
  go_wp2_with fail
  refine (openTable_any bb bo n cap f w hr hbb hn hcap).mono ?_
  rintro e w1 (⟨X, m, p, v, V, fo, fc, hT, rfl, hO, hEB, hES, hrF, q1⟩ | ⟨hno, rfl, q1⟩)
  · obtain ⟨lo, lc, rfl⟩ := ownsRow_form hO.own
    obtain ⟨e1, e2⟩ := HKK.out.yes hT
    have hm := hT.1.1.1
    have hw1 : IntKind.i64.wrap ((m : Int) + 4) = (m : Int) + 4 := by rw [IntKind.wrap_i64] <;> omega
    have hw2 : IntKind.i64.wrap ((m : Int) + 4 - 1) = (m : Int) + 3 := by rw [IntKind.wrap_i64] <;> omega
    have htd : ((m : Int) + 3).tdiv 4 = K := by rw [Int.tdiv_eq_ediv_of_nonneg (by omega), e1]
    have hwk : IntKind.i64.wrap K = K := by rw [IntKind.wrap_i64] <;> omega
    have HE : Hid (c = 0) := e2
    have bA := q1.trans ((below_new w1 (.cells #[.slice lo m lc, .int .i64 (fwI p), .slice fo (fbN (fun i => nrE (X i)) m p) fc] 64)).mono q1.size)
    clear e1 e2 hm hT hO hEB hES hrF HKK
    generalize fbN (fun i => nrE (X i)) m p = fn at *
    go_wp2
    exact bodyPost_ret (v := .tuple #[.int .i64 K, .int .i64 0]) (by simp [results, Tryz.results10, go_sem]) rfl ⟨by rw [HE.out], bA⟩
  · obtain ⟨e1, e2⟩ := HKK.out.no hno
    have HE : Hid (K = 0 ∧ c = noC f n) := ⟨e1, e2⟩
    have bA := q1.trans ((below_new w1 (.cells #[.slice none 0 0, .int .i64 0, .slice none 0 0] 64)).mono q1.size)
    clear e1 e2 hno HKK
    generalize noC f n = c' at *
    go_wp2
    exact bodyPost_ret (v := .tuple #[.int .i64 0, .int .i64 c']) (by simp [results, Tryz.results10, go_sem]) rfl ⟨by rw [HE.out.1, HE.out.2], bA⟩
end Go.Proofs.YtohjjigkfdhklaaGreat
