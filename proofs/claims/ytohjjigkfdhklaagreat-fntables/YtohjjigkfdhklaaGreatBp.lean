/- How many bytes at the front are alike; numbers put behind bytes. / A block of entries put behind bytes. -/
import Derived.Test.YtohjjigkfdhklaaGreatBytI
import Derived.Test.YtohjjigkfdhklaaGreatIL
import Derived.Test.YtohjjigkfdhklaaGreatGe
namespace Go.Proofs.YtohjjigkfdhklaaGreat
set_option maxRecDepth 100000
open Go.RowKit
set_option linter.unusedSimpArgs false
set_option linter.unusedVariables false

theorem byte_fl {s : ByteArray} {k : Nat} (h : k < s.size) : (s[k].toNat : Int) = fl (bytesOf s) k := by
  have h' : k < s.data.size := h
  simp [fl, bytesOf, ByteArray.getElem_eq_getElem_data]
  rw [Array.getElem?_eq_getElem h']
  rfl

set_option maxHeartbeats 1600000 in
theorem sharedFront_any (a b : ByteArray) (w : World) (ha : a.size ≤ 1048576) (hb : b.size ≤ 1048576) :
    Calls Tryz.prog 193 #[.string a, .string b] w fun e w' => e = .returned (.int .i64 (shr (bytesOf a) (bytesOf b) : Nat)) ∧ Below w.heap.size w w' := by
  have la := bytesOf_len a
  have lb := bytesOf_len b
  go_enter Tryz.func193, Tryz.ntmps193
  go_wp2
  go_loopw [5] (fun i wr => ∃ k : Nat, k ≤ a.size ∧ k ≤ b.size ∧ i = .int .i64 k ∧ Hid ((bytesOf a).take k = (bytesOf b).take k) ∧ Below w.heap.size w wr) (fun i _ => a.size - (intOf i).toNat)
  case atStart => exact ⟨0, Nat.zero_le _, Nat.zero_le _, rfl, by simp [Hid], Below.refl _ _⟩
  case round =>
    obtain ⟨k, hka, hkb, rfl, HT, hbk⟩ := hrel
    by_cases h1 : k < a.size ∧ k < b.size
    · obtain ⟨h1, h2⟩ := h1
      skip
      have e1 := byte_fl h1
      have e2 := byte_fl h2
      have hs := shr_step HT.out (by omega) (by omega)
      by_cases he : fl (bytesOf a) k = fl (bytesOf b) k
      · have HN : Hid ((bytesOf a).take (k + 1) = (bytesOf b).take (k + 1)) := hs.1 he
        have hq : ((a[k].toNat : Int) == (b[k].toNat : Int)) = true := by rw [e1, e2, he]; simp
        clear e1 e2 hs he
        rcases Nat.lt_or_ge b.size a.size with hba | hba
        all_goals
          go_wp2
          go_region
          go_wp2
          go_roundw
          case rel => exact ⟨k + 1, by omega, by omega, by go_num, HN, below_drewN hbk _⟩
          case measure => simp [intOf]; omega
      · have HN : Hid (shr (bytesOf a) (bytesOf b) = k) := hs.2 he
        have hq : ((a[k].toNat : Int) == (b[k].toNat : Int)) = false := by rw [e1, e2]; simpa using he
        clear e1 e2 hs he
        rcases Nat.lt_or_ge b.size a.size with hba | hba
        all_goals
          go_wp2
          go_region
          go_wp2
          go_ret
          exact ⟨by rw [HN.out]; rfl, below_drewN hbk _⟩
    · have HN : Hid (shr (bytesOf a) (bytesOf b) = k) := shr_end HT.out (by omega) (by omega)
      rcases Nat.lt_or_ge b.size a.size with hba | hba
      · have hx : ¬ k < b.size := by omega
        go_wp2
        go_region
        go_wp2
        go_ret
        exact ⟨by rw [HN.out]; rfl, below_drewN hbk _⟩
      · have hx : ¬ k < a.size := by omega
        go_wp2
        go_region
        go_wp2
        go_ret
        exact ⟨by rw [HN.out]; rfl, below_drewN hbk _⟩

/-- Numbers, one behind the other. -/
def nsL (N : List Int) : List Int := N.flatMap pvL
theorem nsL_len (N : List Int) : (nsL N).length ≤ 10 * N.length := by
  induction N with
  | nil => simp [nsL]
  | cons x N ih =>
    have := pvL_le x
    simp only [nsL, List.flatMap_cons, List.length_append, List.length_cons] at *
    omega
theorem nsL_take {N : List Int} {k : Nat} (h : k < N.length) : nsL (N.take (k + 1)) = nsL (N.take k) ++ pvL (fi N k) := by
  have e : N.take (k + 1) = N.take k ++ [fi N k] := by rw [List.take_succ_eq_append_getElem h]; simp [fi, h]
  rw [e]
  simp [nsL]

set_option maxHeartbeats 1600000 in
theorem appendNumbers_any (base : Nat) (a : Option Addr) (cp : Nat) (L : List Int) (g nc : Nat) (N : List Int) (w : World) (hown : OwnL w base (.slice a L.length cp) L) (hg : g < w.heap.size)
    (hc : ∀ i, i < N.length → w.cell? ⟨g, i, none⟩ = some (.int .i64 (fi N i))) (hne : (Value.slice a L.length cp).ownBlock ≠ some g) (hN : ∀ i, i < N.length → 0 ≤ fi N i ∧ fi N i ≤ 9223372036854775807)
    (hL : L.length + 10 * N.length ≤ 1000000) (hbs : base ≤ w.heap.size) :
    Calls Tryz.prog 187 #[.slice a L.length cp, .slice (some ⟨g, 0, none⟩) N.length nc] w fun e w' => Putt base (.slice a L.length cp) L (nsL N) w e w' := by
  go_enter Tryz.func187, Tryz.ntmps187
  go_wp2
  go_loopw [0, 9] (fun v i wr => ∃ (k m cp' : Nat) (a' : Option Addr), k ≤ N.length ∧ i = .int .i64 k ∧ v = .slice a' m cp' ∧ m = (L ++ nsL (N.take k)).length ∧ OwnL wr base (.slice a' (L ++ nsL (N.take k)).length cp') (L ++ nsL (N.take k)) ∧ Hid (w.grownBy wr (Value.slice a L.length cp).ownBlock ∧ NB w (.slice a L.length cp) (.slice a' (L ++ nsL (N.take k)).length cp'))) (fun _ i _ => N.length - (intOf i).toNat)
  case atStart => exact ⟨0, _, cp, a, Nat.zero_le _, rfl, rfl, by simp [nsL], by simpa [nsL] using hown, ⟨⟨rfl, rfl, rfl, Nat.le_refl _, fun _ _ _ => rfl⟩, by simpa [nsL] using nb_self _ _⟩⟩
  case round =>
    obtain ⟨k, m, cp', a', hk, rfl, rfl, rfl, hok, HG⟩ := hrel
    by_cases hlt : k < N.length
    · obtain ⟨hgr, hnb⟩ := HG.out
      have h1 := hgr.cell (hc k hlt) (fun e => hne e.symm)
      have h1' : wr.cell? ⟨g, k, none⟩ = some (.int .i64 (fi N k)) := h1
      have hx := hN k hlt
      have hlen : (L ++ nsL (N.take k)).length ≤ L.length + 10 * k := by
        have := nsL_len (N.take k)
        rw [List.length_take] at this
        rw [List.length_append]; omega
      have hp := pvL_le (fi N k)
      have hsz := hgr.size
      have HL : Hid (L ++ nsL (N.take (k + 1)) = L ++ nsL (N.take k) ++ pvL (fi N k)) := by unfold Hid; rw [nsL_take hlt, List.append_assoc]
      have hne' := hnb.ne hne hg
      clear hc hN h1
      generalize L ++ nsL (N.take k) = M at *
      generalize fi N k = x at *
      go_wp2_with fail
      refine (putVar_impl x _ (by omega)).mono ?_
      intro e w1 hp1
      obtain ⟨g1, c1, rfl, hg1, A1, b1⟩ := pvl_of hp1
      clear hp1
      have o1 := hok.keep b1
      have s1 := b1.size
      go_wp2_with (at_builtin; refine wpList_app rfl (.tmp 13) (.tmp 16) rfl base (.slice a' M.length cp') M rfl o1 g1 0 (pvL x).length c1 (pvL x) rfl rfl A1 (by omega) (by omega) ?_; intro v2 w2 ho2 hg2 ha2; obtain ⟨a2, cp2, rfl⟩ := ho2.form)
      go_roundw
      case rel => exact ⟨k + 1, _, cp2, a2, by omega, by go_num, rfl, by rw [HL.out, List.length_append], by rw [HL.out]; exact ho2, ⟨grown_next hgr hnb (grown_next (grown_of_below b1 _) (nb_self _ _) hg2), by rw [HL.out]; exact hnb.trans ((nb_self _ _).trans (nb_of ha2) s1) hsz⟩⟩
      case measure => simp [intOf]; omega
    · obtain rfl : k = N.length := by omega
      simp only [List.take_length] at hok HG ⊢
      go_wp2
      go_ret
      exact ⟨_, rfl, hok, HG.out.1, HG.out.2⟩
end Go.Proofs.YtohjjigkfdhklaaGreat

namespace Go.Proofs.YtohjjigkfdhklaaGreat
set_option maxRecDepth 100000
open Go.RowKit
set_option linter.unusedSimpArgs false
set_option linter.unusedVariables false

theorem putt_below {base : Nat} {v : Value} {L M : List Int} {w w' : World} {e : Ending} (h : Putt base v L M w e w') (hown : OwnL w base v L) (hbs : base ≤ w.heap.size) : Below base w w' := by
  obtain ⟨v', rfl, h1, h2, h3⟩ := h
  exact hown.below (Below.refl _ _) h2 (Nat.le_refl _) hbs

/-- A text's end. -/
theorem bytesOf_extract (s : ByteArray) (k : Nat) (h : k ≤ s.size) : bytesOf (s.extract k s.size) = (bytesOf s).drop k := by
  have h' : k ≤ s.data.size := h
  simp [bytesOf, ByteArray.data_extract, List.map_drop]
  rw [List.take_of_length_le]
  simp

/-- What is known of the agg of a good entry. -/
theorem GoodE.agg {x : Ent} (h : GoodE x) : (x.kind ≠ 2 ∧ GoodA x.c x.s x.lo x.hi x.n x.f x.fu) ∨ (x.kind = 2 ∧ ¬ GoodA x.c x.s x.lo x.hi x.n x.f x.fu) := by
  obtain ⟨_, _, h⟩ := h
  rcases h with ⟨h1, h2⟩ | ⟨h1, h2⟩
  · exact .inl ⟨by omega, h2⟩
  · refine .inr ⟨h1, fun h => ?_⟩
    have h8 := h.2.1
    obtain ⟨_, _, _, _, _, _⟩ := h2
    omega

theorem EAt.grown {w w' : World} {b off cap : Nat} {x : Ent} {ao : Option Addr} {row : Option Nat} (h : EAt w b off x ao cap) (hg : w.grownBy w' row) (hne : row ≠ some b) : EAt w' b off x ao cap :=
  ⟨Nat.lt_of_lt_of_le h.lt hg.size, hg.cell h.c0 (fun e => hne e.symm), hg.cell h.c1 (fun e => hne e.symm), hg.cell h.c2 (fun e => hne e.symm), hg.cell h.c3 (fun e => hne e.symm), hg.cell h.c4 (fun e => hne e.symm), hg.cell h.c5 (fun e => hne e.symm), hg.cell h.c6 (fun e => hne e.symm), hg.cell h.c7 (fun e => hne e.symm), hg.cell h.c8 (fun e => hne e.symm)⟩

/-- A row of the call's own, put on with. -/
structure PC (base : Nat) (w : World) (v : Value) (w' : World) (v' : Value) (L : List Int) : Prop where
  own : OwnL w' base v' L
  gr : w.grownBy w' v.ownBlock
  nb : NB w v v'
  bs : base ≤ w'.heap.size
section
variable {base : Nat} {w w' w2 : World} {v v' v2 : Value} {L M : List Int}
theorem pc_start (h : OwnL w base v L) (hb : base ≤ w.heap.size) : PC base w v w v L := ⟨h, ⟨rfl, rfl, rfl, Nat.le_refl _, fun _ _ _ => rfl⟩, nb_self _ _, hb⟩
theorem PC.keep (h : PC base w v w' v' L) (hb : Below w'.heap.size w' w2) : PC base w v w2 v' L :=
  ⟨h.own.keep hb, grown_next h.gr h.nb (grown_of_below hb _), h.nb, Nat.le_trans h.bs hb.size⟩
theorem PC.put {L' : List Int} (h : PC base w v w' v' L) (ho : OwnL w2 base v2 L') (hg : w'.grownBy w2 v'.ownBlock) (hn : NB w' v' v2) : PC base w v w2 v2 L' :=
  ⟨ho, grown_next h.gr h.nb hg, h.nb.trans hn h.gr.size, Nat.le_trans h.bs hg.size⟩
theorem PC.putt (h : PC base w v w' v' L) : Putt base v [] L w (.returned v') w' := ⟨v', rfl, by simpa using h.own, h.gr, h.nb⟩
theorem PC.below (h : PC base w v w' v' L) (ho : OwnL w base v M) (hb : base ≤ w.heap.size) : Below base w w' := ho.below (Below.refl _ _) h.gr (Nat.le_refl _) hb
theorem OwnL.neBlock (h : OwnL w base v L) {b : Nat} (hb : w.heap.size ≤ b ∨ b < base) : v.ownBlock ≠ some b := fun e => by have := h.lt b e; omega
end

/-- A row does not lie in the blocks S. -/
def Off (w : World) (v : Value) (S : Nat → Prop) : Prop := ∀ b, S b → b < w.heap.size ∧ v.ownBlock ≠ some b
theorem Off.keep {w w2 : World} {v : Value} {S : Nat → Prop} (h : Off w v S) (hb : Below w.heap.size w w2) : Off w2 v S := fun b hS => ⟨Nat.lt_of_lt_of_le (h b hS).1 hb.size, (h b hS).2⟩
theorem Off.put {w w2 : World} {v v2 : Value} {S : Nat → Prop} (h : Off w v S) (hn : NB w v v2) (hg : w.grownBy w2 v.ownBlock) : Off w2 v2 S := fun b hS => ⟨Nat.lt_of_lt_of_le (h b hS).1 hg.size, hn.ne (h b hS).2 (h b hS).1⟩
theorem ints_new (w : World) (N : List Int) (T : Nat) : ∀ i, i < N.length → (w.alloc (.cells (N.map (Value.int .i64)).toArray T)).cell? ⟨w.heap.size, i, none⟩ = some (.int .i64 (fi N i)) := by
  intro i hi
  simp [go_sem, fi, hi]
theorem byte_new (w : World) (x : Int) (h : 0 ≤ x ∧ x ≤ 255) (T : Nat) : At (w.alloc (.cells #[.int .u8 x] T)) w.heap.size 0 [x] := at_new w [x] (byt_one h) T
theorem agL_of {x : Ent} {w1 w2 : World} {e : Ending} (hAg : (x.kind ≠ 2 ∧ GoodA x.c x.s x.lo x.hi x.n x.f x.fu) ∨ (x.kind = 2 ∧ ¬ GoodA x.c x.s x.lo x.hi x.n x.f x.fu)) (h : BO x.c x.s x.lo x.hi x.n x.f x.fu w1 e w2) :
    ∃ ao c ok, e = .returned (.tuple #[.slice ao (agL x).length c, .bool ok]) ∧ Lie w2 ao c (agL x) ∧ (∀ b off, ao = some ⟨b, off, none⟩ → w1.heap.size ≤ b ∧ b < w2.heap.size) ∧ Below w1.heap.size w1 w2 := by
  obtain ⟨hb, ⟨h1, v, rfl, ho⟩ | ⟨h1, rfl⟩⟩ := h
  · have hk : x.kind ≠ 2 := hAg.elim (fun h => h.1) (fun h => absurd h1 h.2)
    have e : agL x = bl x.fu (nm x.c x.s x.lo x.hi x.f) 12 := by unfold agL; rw [if_neg hk]
    rw [← e] at ho
    obtain ⟨ao, c, rfl, hl, hbl⟩ := ho.lie
    refine ⟨ao, c, true, rfl, hl, fun b off e => ⟨hbl b off e, ?_⟩, hb⟩
    rcases hl with ⟨e', _⟩ | ⟨b', off', e', hA⟩
    · rw [e'] at e; cases e
    · rw [e'] at e; injection e with e; injection e with e1 e2; subst e1; exact hA.lt
  · have hk : x.kind = 2 := hAg.elim (fun h => absurd h.2 h1) (fun h => h.1)
    have e : agL x = [] := by unfold agL; rw [if_pos hk]
    rw [e]
    exact ⟨none, 0, false, rfl, .inl ⟨rfl, rfl, rfl⟩, (fun b off e => by cases e), hb⟩

set_option maxHeartbeats 4000000 in
theorem appendBlock_any (w0 : World) (b off m bc : Nat) (Y : Nat → Ent) (w : World) (a : Option Addr) (cp : Nat) (L : List Int) (hr : ERow w0 (some ⟨b, off, none⟩) m Y) (hG : ∀ i, i < m → GoodE (Y i)) (hm : m ≤ 100)
    (hb : Below w0.heap.size w0 w) (hown : OwnL w w0.heap.size (.slice a L.length cp) L) (hL : L.length ≤ 100000) :
    Calls Tryz.prog 192 #[.slice (some ⟨b, off, none⟩) m bc, .slice a L.length cp] w fun e w' => Putt w0.heap.size (.slice a L.length cp) L (blk Y 0 m) w e w' := by
  have hbs := hb.size
  go_enter Tryz.func192, Tryz.ntmps192
  go_wp2
  go_loopw [1, 5, 13] (fun v s i wr => ∃ (k mm cp' : Nat) (a' : Option Addr), k ≤ m ∧ i = .int .i64 k ∧ s = .string (ahd Y 0 k) ∧ v = .slice a' mm cp' ∧ mm = (L ++ blk Y 0 k).length ∧ PC w0.heap.size w (.slice a L.length cp) wr (.slice a' (L ++ blk Y 0 k).length cp') (L ++ blk Y 0 k)) (fun _ _ i _ => m - (intOf i).toNat)
  case atStart => exact ⟨0, _, cp, a, Nat.zero_le _, rfl, rfl, rfl, by simp [blk], by simpa [blk] using pc_start hown hbs⟩
  case round =>
    obtain ⟨k, mm, cp', a', hk, rfl, rfl, rfl, rfl, hP⟩ := hrel
    by_cases hlt : k < m
    · have hbw := hb.trans (hP.below hown hbs)
      have hrw := hr.keep hbw
      obtain ⟨b', off', e, hblt, hc⟩ := hrw.lies.resolve_left (by omega)
      injection e with e
      injection e with e1 e2 _
      subst e1 e2
      obtain ⟨da, dc, hE, hI⟩ := hc k hlt
      have hGk := hG k hlt
      have hKey : (Y k).key.size ≤ 140 := by have := hGk.1; unfold KeyOk at this; omega
      have hAhd : (ahd Y 0 k).size ≤ 140 := by
        cases k with
        | zero => simp [ahd]
        | succ k => have := (hG (0 + k) (by omega)).1; unfold KeyOk at this; simp only [ahd]; omega
      have hseq := hGk.2.1
      have hAg := hGk.agg
      have hkind : 1 ≤ (Y k).kind ∧ (Y k).kind ≤ 3 := by obtain ⟨_, _, h | h⟩ := hGk <;> omega
      have hnn : (Y k).n ≤ 1048576 := by
        obtain ⟨_, _, h | h⟩ := hGk
        · have := h.2.2.1; omega
        · have := h.2.2.2.2.2.1; omega
      have hss := (hr.bd k hlt).s
      have hlen : (L ++ blk Y 0 k).length ≤ 100000 + 302 * k := by
        have := blk_len Y 0 k fun i hi => by have := (hG (0 + i) (by omega)).1; unfold KeyOk at this; omega
        rw [List.length_append]; omega
      have hsh := shK_le (ahd Y 0 k) (Y k)
      have haL := agL_len (Y k)
      have HB : Hid (L ++ blk Y 0 (k + 1) = L ++ blk Y 0 k ++ enE (ahd Y 0 k) (Y k)) := by unfold Hid; rw [blk, Nat.zero_add, List.append_assoc]
      have HA : Hid (ahd Y 0 (k + 1) = (Y k).key) := by unfold Hid; rw [ahd, Nat.zero_add]
      clear hG hc hrw hr
      generalize Y k = x at *
      generalize hah : ahd Y 0 k = ah at *
      generalize L ++ blk Y 0 k = M at *
      obtain ⟨_, ec0, ec1, ec2, ec3, ec4, ec5, ec6, ec7, ec8⟩ := hE
      obtain ⟨sh, hshd⟩ : ∃ sh, shK ah x = sh := ⟨_, rfl⟩
      have HE : Hid (enE ah x = pvL (sh : Nat) ++ pvL ((x.key.size - sh : Nat) : Int) ++ pvL x.seq ++ [x.kind] ++ pvL ((agL x).length : Nat) ++ (bytesOf x.key).drop sh ++ agL x) := by unfold Hid enE; rw [hshd]
      rw [hshd] at hsh
      go_wp2_with fail
      refine (sharedFront_any ah x.key _ (by omega) (by omega)).mono ?_
      rintro e w1 ⟨he, q1⟩
      rw [show shr (bytesOf ah) (bytesOf x.key) = sh from hshd] at he
      subst he
      clear hshd
      have E1 := (EAt.new wr x da dc 35).keep q1
      have hI1 := (hI.keep (below_new wr (.cells #[.string x.key, .int .i64 x.seq, .int .i64 x.kind, .int .i64 x.c, .int .i64 x.s, .int .i64 x.lo, .int .i64 x.hi, .slice da x.n dc, .bool x.fu] 35))).keep q1
      have P1 := (hP.keep (below_new wr (.cells #[.string x.key, .int .i64 x.seq, .int .i64 x.kind, .int .i64 x.c, .int .i64 x.s, .int .i64 x.lo, .int .i64 x.hi, .slice da x.n dc, .bool x.fu] 35))).keep q1
      have neB : (Value.slice a' M.length cp').ownBlock ≠ some wr.heap.size := hP.own.neBlock (.inl (Nat.le_refl _))
      obtain ⟨_, f0, f1, f2, f3, f4, f5, f6, f7, f8⟩ := E1.z
      clear ec0 ec1 ec2 ec3 ec4 ec5 ec6 ec7 ec8 hP hI q1
      go_wp2_with fail
      refine (aggBytes_impl x.c x.s x.lo x.hi da x.n dc x.f x.fu w1 hI1 hnn hss).mono ?_
      intro e w2 hBO
      obtain ⟨ga, ca, ok, rfl, hLie, hga, q2⟩ := agL_of hAg hBO
      have P2 := P1.keep q2
      have E2 := E1.keep q2
      have O2 : Off w2 (.slice a' M.length cp') (fun b => b = wr.heap.size ∨ ∃ off, ga = some ⟨b, off, none⟩) := fun b hS => by
        rcases hS with rfl | ⟨off, e⟩
        · exact ⟨E2.lt, neB⟩
        · exact ⟨(hga b off e).2, P1.own.neBlock (.inl (hga b off e).1)⟩
      have sE2 := Nat.sub_add_cancel hsh.2
      have hsubI : ((x.key.size : Int) - (sh : Int)) = ((x.key.size - sh : Nat) : Int) := by omega
      have hwk : IntKind.i64.wrap ((x.key.size : Int) - (sh : Int)) = ((x.key.size - sh : Nat) : Int) := by rw [hsubI, IntKind.wrap_i64]; omega
      obtain ⟨_, g0, g1, g2, g3, g4, g5, g6, g7, g8⟩ := E2.z
      clear hBO f0 f1 f2 f3 f4 f5 f6 f7 f8 hI1 P1 E1 neB hga
      go_wp2_with fail
      refine (appendNumbers_any w0.heap.size a' cp' M w2.heap.size 3 [(sh : Int), ((x.key.size - sh : Nat) : Int), x.seq] _ (P2.keep (below_new _ _)).own (by simp) (ints_new w2 [(sh : Int), ((x.key.size - sh : Nat) : Int), x.seq] 3) (P2.own.neBlock (.inl (Nat.le_refl _))) (fun i hi => ?_) (by simp only [List.length_cons, List.length_nil]; omega) (P2.keep (below_new _ _)).bs).mono ?_
      · simp only [List.length_cons, List.length_nil] at hi
        match i, hi with
        | 0, _ => simp [fi]; omega
        | 1, _ => simp [fi]; omega
        | 2, _ => simp [fi]; omega
      rintro e w3 ⟨v3, rfl, o3, gr3, n3⟩
      obtain ⟨N3, HN3⟩ : ∃ N3, Hid (nsL [(sh : Int), ((x.key.size - sh : Nat) : Int), x.seq] = N3) := ⟨_, rfl⟩
      obtain ⟨M3, HM3⟩ : ∃ M3, Hid (M ++ nsL [(sh : Int), ((x.key.size - sh : Nat) : Int), x.seq] = M3) := ⟨_, rfl⟩
      have hl3 : M3.length ≤ 140000 := by
        have := nsL_len [(sh : Int), ((x.key.size - sh : Nat) : Int), x.seq]
        simp only [List.length_cons, List.length_nil] at this
        rw [← HM3.out, List.length_append]; omega
      rw [HM3.out] at o3
      rw [HN3.out] at HM3
      have P3 := (P2.keep (below_new _ _)).put o3 gr3 n3
      have O3 := (O2.keep (below_new _ _)).put n3 gr3
      have E3 := (E2.keep (below_new _ _)).grown gr3 (O2 _ (.inl rfl)).2
      have Z3 := (hLie.keep (below_new _ _)).grown gr3 (fun b off e => (O2 b (.inr ⟨off, e⟩)).2)
      obtain ⟨a3, c3, rfl⟩ := o3.form
      clear g0 g1 g2 g3 g4 g5 g6 g7 g8
      obtain ⟨_, g0, g1, g2, g3, g4, g5, g6, g7, g8⟩ := E3.z
      have hwkd : IntKind.u8.wrap x.kind = x.kind := by rw [IntKind.wrap_u8]; omega
      clear hwk hsubI O2 P2 E2 hLie o3 n3 gr3
      go_wp2_with (at_builtin; refine wpList_app rfl (.tmp 38) (.tmp 42) rfl w0.heap.size _ M3 rfl (P3.keep (below_new _ _)).own w3.heap.size 0 1 1 [x.kind] rfl rfl (byte_new w3 x.kind (by omega) _) (by simp only [List.length_cons, List.length_nil]; omega) (P3.keep (below_new _ _)).bs ?_; intro v4 w4 o4 gr4 ha4; obtain ⟨M4, HM4⟩ : ∃ M4, Hid (M3 ++ [x.kind] = M4) := ⟨_, rfl⟩; have hl4 : M4.length ≤ 140001 := (by rw [← HM4.out, List.length_append, List.length_singleton]; omega); rw [HM4.out] at o4; have P4 := (P3.keep (below_new _ _)).put o4 gr4 (nb_of ha4); have O4 := (O3.keep (below_new _ _)).put (nb_of ha4) gr4; have E4 := (E3.keep (below_new _ _)).grown gr4 (O3 _ (.inl rfl)).2; have Z4 := (Z3.keep (below_new _ _)).grown gr4 (fun b off e => (O3 b (.inr ⟨off, e⟩)).2); obtain ⟨a4, c4, rfl⟩ := o4.form; obtain ⟨_, t0, t1, t2, t3, t4, t5, t6, t7, t8⟩ := E4.z)
      refine (appendNumbers_any w0.heap.size a4 c4 M4 w4.heap.size 1 [((agL x).length : Nat)] _ (P4.keep (below_new _ _)).own (by simp) (ints_new w4 [((agL x).length : Nat)] 3) (P4.own.neBlock (.inl (Nat.le_refl _))) (fun i hi => ?_) (by simp only [List.length_cons, List.length_nil]; omega) (P4.keep (below_new _ _)).bs).mono ?_
      · simp only [List.length_cons, List.length_nil] at hi
        match i, hi with
        | 0, _ => simp [fi]; omega
      rintro e w5 ⟨v5, rfl, o5, gr5, n5⟩
      obtain ⟨M5, HM5⟩ : ∃ M5, Hid (M4 ++ nsL [((agL x).length : Int)] = M5) := ⟨_, rfl⟩
      have hl5 : M5.length ≤ 140011 := by
        have := nsL_len [((agL x).length : Int)]
        simp only [List.length_cons, List.length_nil] at this
        rw [← HM5.out, List.length_append]; omega
      rw [HM5.out] at o5
      have P5 := (P4.keep (below_new _ _)).put o5 gr5 n5
      have O5 := (O4.keep (below_new _ _)).put n5 gr5
      have E5 := (E4.keep (below_new _ _)).grown gr5 (O4 _ (.inl rfl)).2
      have Z5 := (Z4.keep (below_new _ _)).grown gr5 (fun b off e => (O4 b (.inr ⟨off, e⟩)).2)
      obtain ⟨a5, c5, rfl⟩ := o5.form
      clear g0 g1 g2 g3 g4 g5 g6 g7 g8 t0 t1 t2 t3 t4 t5 t6 t7 t8
      obtain ⟨_, g0, g1, g2, g3, g4, g5, g6, g7, g8⟩ := E5.z
      have hle : (sh : Int) ≤ (x.key.size : Int) := by omega
      have hex : (x.key.extract sh x.key.size).size = x.key.size - sh := by rw [ByteArray.size_extract, Nat.min_self]
      go_wp2_with (first | (at_builtin; refine wpList_appT rfl (.tmp 49) (.tmp 53) rfl w0.heap.size _ M5 rfl P5.own (x.key.extract sh x.key.size) rfl (by rw [hex]; omega) P5.bs ?_; intro v6 w6 o6 gr6 ha6; obtain ⟨M6, HM6⟩ : ∃ M6, Hid (M5 ++ bytesOf (x.key.extract sh x.key.size) = M6) := ⟨_, rfl⟩; have hl6 : M6.length ≤ 140151 := (by rw [← HM6.out, List.length_append, bytesOf_len, hex]; omega); rw [HM6.out] at o6; have P6 := P5.put o6 gr6 (nb_of ha6); have O6 := O5.put (nb_of ha6) gr6; have E6 := E5.grown gr6 (O5 _ (.inl rfl)).2; have Z6 := Z5.grown gr6 (fun b off e => (O5 b (.inr ⟨off, e⟩)).2); obtain ⟨a6, c6, rfl⟩ := o6.form; obtain ⟨_, t0, t1, t2, t3, t4, t5, t6, t7, t8⟩ := E6.z) | (at_builtin; refine wpList_appL rfl (.tmp 55) (.tmp 56) rfl w0.heap.size _ M6 rfl P6.own ga (agL x).length ca (agL x) rfl rfl Z6 (by omega) P6.bs ?_; intro v7 w7 o7 gr7 ha7; obtain ⟨M7, HM7⟩ : ∃ M7, Hid (M6 ++ agL x = M7) := ⟨_, rfl⟩; rw [HM7.out] at o7; have P7 := P6.put o7 gr7 (nb_of ha7); have E7 := E6.grown gr7 (O6 _ (.inl rfl)).2; obtain ⟨a7, c7, rfl⟩ := o7.form; obtain ⟨_, s0, s1, s2, s3, s4, s5, s6, s7, s8⟩ := E7.z))
      have HF : Hid (L ++ blk Y 0 (k + 1) = M7) := by
        unfold Hid
        rw [HB.out, HE.out, ← HM7.out, ← HM6.out, ← HM5.out, ← HM4.out, ← HM3.out, ← HN3.out, bytesOf_extract _ _ hsh.2]
        simp [nsL, List.append_assoc]
      go_roundw
      case rel => exact ⟨k + 1, _, c7, a7, by omega, by go_num, by rw [HA.out], rfl, by rw [HF.out], by rw [HF.out]; exact P7⟩
      case measure => simp [intOf]; omega
    · obtain rfl : k = m := by omega
      go_wp2
      go_ret
      obtain ⟨h1, h2, h3, h4⟩ := hP
      exact ⟨_, rfl, h1, h2, h3⟩
end Go.Proofs.YtohjjigkfdhklaaGreat
