/- A block's bytes, in the model. / The keys of entries, each once. / The keys of entries, each once, in both texts. / A filter out of bytes. -/
import Derived.Test.YtohjjigkfdhklaaGreatBp
import Derived.Deep.CutRange
import Derived.Deep.DeepCutAuto
import Derived.Deep.CutBlock
import Derived.Test.YtohjjigkfdhklaaGreatBytI
import Derived.Test.YtohjjigkfdhklaaGreatGe
import Derived.Test.YtohjjigkfdhklaaGreatTx
import Derived.Test.YtohjjigkfdhklaaGreatLayP
import Derived.Maps.AppendAt
import Derived.Test.YtohjjigkfdhklaaGreatOe
import Derived.Test.YtohjjigkfdhklaaGreatXp
import Derived.Deep.RegionHeld3
import Derived.Deep.RegionLaw
import Derived.Deep.AppendLies
namespace Go.Proofs.YtohjjigkfdhklaaGreat
set_option maxRecDepth 100000
open Go.RowKit
set_option linter.unusedSimpArgs false
set_option linter.unusedVariables false

theorem l4Bytes_good (c s lo hi : Int) (ao : Option Addr) (n cap : Nat) (f : Nat → Int) (fu : Bool) (w : World) (hr : IRow w ao n f) (hg : GoodA c s lo hi n f fu) :
    Calls Tryz.prog 85 #[.agg #[.int .i64 c, .int .i64 s, .int .i64 lo, .int .i64 hi, .slice ao n cap, .bool fu]] w fun e w' => ∃ v, e = .returned v ∧ OwnL w' w.heap.size v (bl fu (nm c s lo hi f) 12) ∧ Below w.heap.size w w' := by
  have h8 : n = 8 := hg.2.1
  subst h8
  have hN := hg.nums
  cases fu
  · exact l4Bytes_false c s lo hi ao cap f _ rfl w hr hN
  · exact l4Bytes_true c s lo hi ao cap f _ rfl w hr hN

set_option maxHeartbeats 8000000 in
theorem l7Block_any (b off m bc : Nat) (Y : Nat → Ent) (w : World) (hr : ERow w (some ⟨b, off, none⟩) m Y) (hG : ∀ i, i < m → GoodE (Y i)) (hm : m ≤ 100) :
    Calls Tryz.prog 56 #[.slice (some ⟨b, off, none⟩) m bc] w fun e w' => ∃ v, e = .returned v ∧ OwnL w' w.heap.size v (blk Y 0 m) ∧ Below w.heap.size w w' := by
  go_enter Tryz.func56, Tryz.ntmps56
  go_wp2
  go_loopw [3, 4, 11] (fun v s i wr => ∃ (k mm cp' : Nat) (a' : Option Addr), k ≤ m ∧ i = .int .i64 k ∧ s = .string (ahd Y 0 k) ∧ v = .slice a' mm cp' ∧ mm = (blk Y 0 k).length ∧ PC w.heap.size w (.slice none 0 0) wr (.slice a' (blk Y 0 k).length cp') (blk Y 0 k)) (fun _ _ i _ => m - (intOf i).toNat)
  case atStart => exact ⟨0, _, 0, none, Nat.zero_le _, rfl, rfl, rfl, rfl, pc_start (ownL_nil _ _) (Nat.le_refl _)⟩
  case round =>
    obtain ⟨k, mm, cp', a', hk, rfl, rfl, rfl, rfl, hP⟩ := hrel
    by_cases hlt : k < m
    · have hbw := hP.below (ownL_nil _ _) (Nat.le_refl _)
      have hrw := hr.keep hbw
      obtain ⟨b', off', e, hblt, hc⟩ := hrw.lies.resolve_left (by omega)
      injection e with e
      injection e with e1 e2 _
      subst e1 e2
      obtain ⟨da, dc, hE, hI⟩ := hc k hlt
      have hGk := hG k hlt
      have hKey : (Y k).key.size ≤ 140 := by have := hGk.1; unfold KeyOk at this; omega
      have hAhd : (ahd Y 0 k).size ≤ 140 := by
        cases k with
        | zero => simp [ahd]
        | succ k => have := (hG (0 + k) (by omega)).1; unfold KeyOk at this; simp only [ahd]; omega
      have hseq := hGk.2.1
      have hAg := hGk.agg
      have hkind : 1 ≤ (Y k).kind ∧ (Y k).kind ≤ 3 := by obtain ⟨_, _, h | h⟩ := hGk <;> omega
      have hlen : (blk Y 0 k).length ≤ 302 * k := blk_len Y 0 k fun i hi => by have := (hG (0 + i) (by omega)).1; unfold KeyOk at this; omega
      have haL := agL_len (Y k)
      have HB : Hid (blk Y 0 (k + 1) = blk Y 0 k ++ enE (ahd Y 0 k) (Y k)) := by unfold Hid; rw [blk, Nat.zero_add]
      have HA : Hid (ahd Y 0 (k + 1) = (Y k).key) := by unfold Hid; rw [ahd, Nat.zero_add]
      clear hG hc hrw hr
      generalize Y k = x at *
      generalize hah : ahd Y 0 k = ah at *
      generalize blk Y 0 k = M at *
      obtain ⟨_, ec0, ec1, ec2, ec3, ec4, ec5, ec6, ec7, ec8⟩ := hE
      obtain ⟨sh, hshd⟩ : ∃ sh, shK ah x = sh := ⟨_, rfl⟩
      have HE : Hid (enE ah x = pvL (sh : Nat) ++ pvL ((x.key.size - sh : Nat) : Int) ++ pvL x.seq ++ [x.kind] ++ pvL ((agL x).length : Nat) ++ (bytesOf x.key).drop sh ++ agL x) := by unfold Hid enE; rw [hshd]
      have hsh := shK_le ah x
      rw [hshd] at hsh
      have HSH : Hid (shr (bytesOf ah) (bytesOf x.key) = sh) := hshd
      clear hshd
      go_upto_block 2 with fail
      have E1 := EAt.new wr x da dc 35
      have hB1 := below_new wr (.cells #[.string x.key, .int .i64 x.seq, .int .i64 x.kind, .int .i64 x.c, .int .i64 x.s, .int .i64 x.lo, .int .i64 x.hi, .slice da x.n dc, .bool x.fu] 35)
      have I1 := hI.keep hB1
      have P1 := hP.keep hB1
      have neB : (Value.slice a' M.length cp').ownBlock ≠ some wr.heap.size := hP.own.neBlock (.inl (Nat.le_refl _))
      clear ec0 ec1 ec2 ec3 ec4 ec5 ec6 ec7 ec8 hP hI hB1
      generalize hB0 : wr.heap.size = B0 at *
      generalize wr.alloc (.cells #[.string x.key, .int .i64 x.seq, .int .i64 x.kind, .int .i64 x.c, .int .i64 x.s, .int .i64 x.lo, .int .i64 x.hi, .slice da x.n dc, .bool x.fu] 35) = w1 at *
      go_cut [7] from 15 to 37 (fun s7 wx => s7 = .int .i64 (sh : Nat) ∧ Below w1.heap.size w1 wx)
      case first =>
        go_wp2_with fail
        go_loopw [7] (fun i wi => ∃ j : Nat, j ≤ ah.size ∧ j ≤ x.key.size ∧ i = .int .i64 j ∧ Hid ((bytesOf ah).take j = (bytesOf x.key).take j) ∧ Below w1.heap.size w1 wi) (fun i _ => ah.size - (intOf i).toNat)
        case atStart => exact ⟨0, Nat.zero_le _, Nat.zero_le _, rfl, by simp [Hid], Below.refl _ _⟩
        case round =>
          obtain ⟨j, hja, hjb, rfl, HT, hbj⟩ := hrel
          have la := bytesOf_len ah
          have lb := bytesOf_len x.key
          have f0 := (E1.keep hbj).c0
          by_cases h1 : j < ah.size
          · by_cases h2 : j < x.key.size
            · have e1 := byte_fl h1
              have e2 := byte_fl h2
              have hs := shr_step HT.out (by omega) (by omega)
              by_cases he : fl (bytesOf ah) j = fl (bytesOf x.key) j
              · have HN : Hid ((bytesOf ah).take (j + 1) = (bytesOf x.key).take (j + 1)) := hs.1 he
                have hq : ((ah[j].toNat : Int) == (x.key[j].toNat : Int)) = true := by rw [e1, e2, he]; simp
                clear e1 e2 hs he
                go_wp2
                go_region
                go_wp2
                go_roundw
                case rel => exact ⟨j + 1, by omega, by omega, by go_num, HN, below_drewN hbj _⟩
                case measure => simp [intOf]; omega
              · have HN : Hid (j = sh) := by unfold Hid; rw [← HSH.out]; exact (hs.2 he).symm
                have hq : ((ah[j].toNat : Int) == (x.key[j].toNat : Int)) = false := by rw [e1, e2]; simpa using he
                clear e1 e2 hs he
                go_wp2
                go_region
                go_wp2
                go_meet
                case rel => exact ⟨by rw [← HN.out], below_drewN hbj _⟩
            · have HN : Hid (j = sh) := by unfold Hid; rw [← HSH.out]; exact (shr_end HT.out (by omega) (by omega)).symm
              go_wp2
              go_region
              go_wp2
              go_meet
              case rel => exact ⟨by rw [← HN.out], below_drewN hbj _⟩
          · have HN : Hid (j = sh) := by unfold Hid; rw [← HSH.out]; exact (shr_end HT.out (by omega) (by omega)).symm
            go_wp2
            go_region
            go_wp2
            go_meet
            case rel => exact ⟨by rw [← HN.out], below_drewN hbj _⟩
      case rest =>
        obtain ⟨rfl, q1⟩ := hcut
        generalize wc = w2 at *
        have E2 := E1.keep q1
        have I2 := I1.keep q1
        have P2 := P1.keep q1
        clear E1 I1 P1 q1
        obtain ⟨_, f0, f1, f2, f3, f4, f5, f6, f7, f8⟩ := E2.z
        go_upto_if 40 with fail
        go_cut [8] from 40 to 43 (fun s8 wx => ∃ ga ca, s8 = .slice ga (agL x).length ca ∧ Lie wx ga ca (agL x) ∧ (∀ b off, ga = some ⟨b, off, none⟩ → w2.heap.size ≤ b ∧ b < wx.heap.size) ∧ Below w2.heap.size w2 wx)
        case first =>
          rcases hAg with ⟨hk2, hgA⟩ | ⟨hk2, _⟩
          · have hkd : (x.kind != 2) = true := by simpa using hk2
            have eag : bl x.fu (nm x.c x.s x.lo x.hi x.f) 12 = agL x := by unfold agL; rw [if_neg hk2]
            have hcall := l4Bytes_good x.c x.s x.lo x.hi da x.n dc x.f x.fu w2 I2 hgA
            rw [eag] at hcall
            clear hk2 eag
            go_wp2_with fail
            refine hcall.mono ?_
            rintro e w3 ⟨v3, rfl, o3, q3⟩
            obtain ⟨ga, ca, rfl, hl, hbl⟩ := o3.lie
            go_wp2_with fail
            go_meet
            case rel =>
              refine ⟨ga, ca, rfl, hl, fun b off e => ⟨hbl b off e, ?_⟩, q3⟩
              rcases hl with ⟨e', _⟩ | ⟨b', off', e', hA⟩
              · rw [e'] at e; cases e
              · rw [e'] at e; injection e with e; injection e with e1 e2; subst e1; exact hA.lt
          · have hkd : (x.kind != 2) = false := by simpa using hk2
            have eag : Hid (agL x = []) := by unfold Hid agL; rw [if_pos hk2]
            clear hk2
            go_wp2_with fail
            go_meet
            case rel => exact ⟨none, 0, by rw [eag.out]; rfl, .inl ⟨rfl, rfl, eag.out⟩, (fun b off e => by cases e), Below.refl _ _⟩
        case rest =>
          obtain ⟨ga, ca, rfl, hLie, hga, q3⟩ := hcut
          generalize wc = w3 at *
          have E3 := E2.keep q3
          have P3 := P2.keep q3
          have O3 : Off w3 (.slice a' M.length cp') (fun b => b = B0 ∨ ∃ off, ga = some ⟨b, off, none⟩) := fun b hS => by
            rcases hS with rfl | ⟨off, e⟩
            · exact ⟨E3.lt, neB⟩
            · exact ⟨(hga b off e).2, P2.own.neBlock (.inl (hga b off e).1)⟩
          obtain ⟨_, g0, g1, g2, g3, g4, g5, g6, g7, g8⟩ := E3.z
          have hsubI : ((x.key.size : Int) - (sh : Int)) = ((x.key.size - sh : Nat) : Int) := by omega
          have hwk : IntKind.i64.wrap ((x.key.size : Int) - (sh : Int)) = ((x.key.size - sh : Nat) : Int) := by rw [hsubI, IntKind.wrap_i64]; omega
          have hwkd : IntKind.u8.wrap x.kind = x.kind := by rw [IntKind.wrap_u8]; omega
          have hex : (x.key.extract sh x.key.size).size = x.key.size - sh := by rw [ByteArray.size_extract, Nat.min_self]
          have hle : (sh : Int) ≤ (x.key.size : Int) := by omega
          clear f0 f1 f2 f3 f4 f5 f6 f7 f8 hga P2 E2 I2 hsubI neB q3
          have Z3 := hLie
          go_wp2_with fail
          refine (putVar_spec ((sh : Nat) : Int) _ (by omega)).mono ?_
          intro e u4 hp4
          obtain ⟨g, c, rfl, hg, A, bq⟩ := pvl_of hp4
          clear hp4
          have Pq := P3.keep bq
          have Oq := O3.keep bq
          have Eq := E3.keep bq
          have Zq := Z3.keep bq
          have hpl := pvL_le ((sh : Nat) : Int)
          obtain ⟨_, r0, r1, r2, r3, r4, r5, r6, r7, r8⟩ := Eq.z
          go_wp2_with (first | (at_builtin; refine wpList_app rfl (.tmp 44) (.tmp 47) rfl w.heap.size _ M rfl Pq.own g 0 _ c (pvL ((sh : Nat) : Int)) rfl rfl A (by omega) Pq.bs ?_; intro v4 w8 o4 gr4 ha4; obtain ⟨M4, HM4⟩ : ∃ M4, Hid (M ++ pvL ((sh : Nat) : Int) = M4) := ⟨_, rfl⟩; have hl4 : M4.length ≤ 40000 := (by rw [← HM4.out, List.length_append]; omega); rw [HM4.out] at o4; have P4 := Pq.put o4 gr4 (nb_of ha4); have O4 := Oq.put (nb_of ha4) gr4; have E4 := Eq.grown gr4 (Oq _ (.inl rfl)).2; have Z4 := Zq.grown gr4 (fun b off e => (Oq b (.inr ⟨off, e⟩)).2); obtain ⟨a4, c4, rfl⟩ := o4.form; obtain ⟨_, s04, s14, s24, s34, s44, s54, s64, s74, s84⟩ := E4.z))
          clear r0 r1 r2 r3 r4 r5 r6 r7 r8 Pq Oq Eq Zq
          refine (putVar_spec ((x.key.size - sh : Nat) : Int) _ (by omega)).mono ?_
          intro e u5 hp5
          obtain ⟨g, c, rfl, hg, A, bq⟩ := pvl_of hp5
          clear hp5
          have Pq := P4.keep bq
          have Oq := O4.keep bq
          have Eq := E4.keep bq
          have Zq := Z4.keep bq
          have hpl := pvL_le ((x.key.size - sh : Nat) : Int)
          obtain ⟨_, r0, r1, r2, r3, r4, r5, r6, r7, r8⟩ := Eq.z
          go_wp2_with (first | (at_builtin; refine wpList_app rfl (.tmp 49) (.tmp 56) rfl w.heap.size _ M4 rfl Pq.own g 0 _ c (pvL ((x.key.size - sh : Nat) : Int)) rfl rfl A (by omega) Pq.bs ?_; intro v5 w9 o5 gr5 ha5; obtain ⟨M5, HM5⟩ : ∃ M5, Hid (M4 ++ pvL ((x.key.size - sh : Nat) : Int) = M5) := ⟨_, rfl⟩; have hl5 : M5.length ≤ 40010 := (by rw [← HM5.out, List.length_append]; omega); rw [HM5.out] at o5; have P5 := Pq.put o5 gr5 (nb_of ha5); have O5 := Oq.put (nb_of ha5) gr5; have E5 := Eq.grown gr5 (Oq _ (.inl rfl)).2; have Z5 := Zq.grown gr5 (fun b off e => (Oq b (.inr ⟨off, e⟩)).2); obtain ⟨a5, c5, rfl⟩ := o5.form; obtain ⟨_, s05, s15, s25, s35, s45, s55, s65, s75, s85⟩ := E5.z))
          clear r0 r1 r2 r3 r4 r5 r6 r7 r8 Pq Oq Eq Zq
          refine (putVar_spec (x.seq) _ (by omega)).mono ?_
          intro e u6 hp6
          obtain ⟨g, c, rfl, hg, A, bq⟩ := pvl_of hp6
          clear hp6
          have Pq := P5.keep bq
          have Oq := O5.keep bq
          have Eq := E5.keep bq
          have Zq := Z5.keep bq
          have hpl := pvL_le (x.seq)
          obtain ⟨_, r0, r1, r2, r3, r4, r5, r6, r7, r8⟩ := Eq.z
          go_wp2_with (first | (at_builtin; refine wpList_app rfl (.tmp 58) (.tmp 62) rfl w.heap.size _ M5 rfl Pq.own g 0 _ c (pvL (x.seq)) rfl rfl A (by omega) Pq.bs ?_; intro v6 w10 o6 gr6 ha6; obtain ⟨M6, HM6⟩ : ∃ M6, Hid (M5 ++ pvL (x.seq) = M6) := ⟨_, rfl⟩; have hl6 : M6.length ≤ 40020 := (by rw [← HM6.out, List.length_append]; omega); rw [HM6.out] at o6; have P6 := Pq.put o6 gr6 (nb_of ha6); have O6 := Oq.put (nb_of ha6) gr6; have E6 := Eq.grown gr6 (Oq _ (.inl rfl)).2; have Z6 := Zq.grown gr6 (fun b off e => (Oq b (.inr ⟨off, e⟩)).2); obtain ⟨a6, c6, rfl⟩ := o6.form; obtain ⟨_, s06, s16, s26, s36, s46, s56, s66, s76, s86⟩ := E6.z) | (at_builtin; refine wpList_app rfl (.tmp 64) (.tmp 68) rfl w.heap.size _ M6 rfl (P6.keep (below_new _ _)).own w10.heap.size 0 1 1 [x.kind] rfl rfl (byte_new w10 x.kind (by omega) _) (by simp only [List.length_cons, List.length_nil]; omega) (P6.keep (below_new _ _)).bs ?_; intro v7 w11 o7 gr7 ha7; obtain ⟨M7, HM7⟩ : ∃ M7, Hid (M6 ++ [x.kind] = M7) := ⟨_, rfl⟩; have hl7 : M7.length ≤ 40031 := (by rw [← HM7.out, List.length_append, List.length_singleton]; omega); rw [HM7.out] at o7; have P7 := (P6.keep (below_new _ _)).put o7 gr7 (nb_of ha7); have O7 := (O6.keep (below_new _ _)).put (nb_of ha7) gr7; have E7 := (E6.keep (below_new _ _)).grown gr7 (O6 _ (.inl rfl)).2; have Z7 := (Z6.keep (below_new _ _)).grown gr7 (fun b off e => (O6 b (.inr ⟨off, e⟩)).2); obtain ⟨a7, c7, rfl⟩ := o7.form; obtain ⟨_, s07, s17, s27, s37, s47, s57, s67, s77, s87⟩ := E7.z))
          clear r0 r1 r2 r3 r4 r5 r6 r7 r8 Pq Oq Eq Zq
          refine (putVar_spec (((agL x).length : Nat) : Int) _ (by omega)).mono ?_
          intro e u8 hp8
          obtain ⟨g, c, rfl, hg, A, bq⟩ := pvl_of hp8
          clear hp8
          have Pq := P7.keep bq
          have Oq := O7.keep bq
          have Eq := E7.keep bq
          have Zq := Z7.keep bq
          have hpl := pvL_le (((agL x).length : Nat) : Int)
          obtain ⟨_, r0, r1, r2, r3, r4, r5, r6, r7, r8⟩ := Eq.z
          go_wp2_with (first | (at_builtin; refine wpList_app rfl (.tmp 70) (.tmp 74) rfl w.heap.size _ M7 rfl Pq.own g 0 _ c (pvL (((agL x).length : Nat) : Int)) rfl rfl A (by omega) Pq.bs ?_; intro v8 w12 o8 gr8 ha8; obtain ⟨M8, HM8⟩ : ∃ M8, Hid (M7 ++ pvL (((agL x).length : Nat) : Int) = M8) := ⟨_, rfl⟩; have hl8 : M8.length ≤ 40041 := (by rw [← HM8.out, List.length_append]; omega); rw [HM8.out] at o8; have P8 := Pq.put o8 gr8 (nb_of ha8); have O8 := Oq.put (nb_of ha8) gr8; have E8 := Eq.grown gr8 (Oq _ (.inl rfl)).2; have Z8 := Zq.grown gr8 (fun b off e => (Oq b (.inr ⟨off, e⟩)).2); obtain ⟨a8, c8, rfl⟩ := o8.form; obtain ⟨_, s08, s18, s28, s38, s48, s58, s68, s78, s88⟩ := E8.z) | (at_builtin; refine wpList_appT rfl (.tmp 76) (.tmp 80) rfl w.heap.size _ M8 rfl P8.own (x.key.extract sh x.key.size) rfl (by rw [hex]; omega) P8.bs ?_; intro v9 w13 o9 gr9 ha9; obtain ⟨M9, HM9⟩ : ∃ M9, Hid (M8 ++ bytesOf (x.key.extract sh x.key.size) = M9) := ⟨_, rfl⟩; have hl9 : M9.length ≤ 40181 := (by rw [← HM9.out, List.length_append, bytesOf_len, hex]; omega); rw [HM9.out] at o9; have P9 := P8.put o9 gr9 (nb_of ha9); have O9 := O8.put (nb_of ha9) gr9; have E9 := E8.grown gr9 (O8 _ (.inl rfl)).2; have Z9 := Z8.grown gr9 (fun b off e => (O8 b (.inr ⟨off, e⟩)).2); obtain ⟨a9, c9, rfl⟩ := o9.form) | (at_builtin; refine wpList_appL rfl (.tmp 82) (.tmp 83) rfl w.heap.size _ M9 rfl P9.own ga (agL x).length ca (agL x) rfl rfl Z9 (by omega) P9.bs ?_; intro v10 w14 o10 gr10 ha10; obtain ⟨M10, HM10⟩ : ∃ M10, Hid (M9 ++ agL x = M10) := ⟨_, rfl⟩; rw [HM10.out] at o10; have P10 := P9.put o10 gr10 (nb_of ha10); have E10 := E9.grown gr10 (O9 _ (.inl rfl)).2; obtain ⟨a10, c10, rfl⟩ := o10.form; obtain ⟨_, s010, s110, s210, s310, s410, s510, s610, s710, s810⟩ := E10.z))
          clear r0 r1 r2 r3 r4 r5 r6 r7 r8 Pq Oq Eq Zq
          have HF : Hid (blk Y 0 (k + 1) = M10) := by
            unfold Hid
            rw [HB.out, HE.out, ← HM10.out, ← HM9.out, ← HM8.out, ← HM7.out, ← HM6.out, ← HM5.out, ← HM4.out, bytesOf_extract _ _ hsh.2]
            simp only [List.append_assoc]
          go_roundw
          case rel => exact ⟨k + 1, _, c10, a10, by omega, by go_num, by rw [HA.out], rfl, by rw [HF.out], by rw [HF.out]; exact P10⟩
          case measure => simp [intOf]; omega
    · obtain rfl : k = m := by omega
      go_wp2
      go_ret
      exact ⟨_, rfl, hP.own, hP.below (ownL_nil _ _) (Nat.le_refl _)⟩
end Go.Proofs.YtohjjigkfdhklaaGreat
namespace Go.Proofs.YtohjjigkfdhklaaGreat
set_option maxRecDepth 100000
open Go.RowKit Go.Shelf
set_option linter.unusedSimpArgs false
set_option linter.unusedVariables false

/-- Whether entry j's key is told. -/
def kp (X : Nat → Ent) (j : Nat) : Bool := decide (j = 0 ∨ (X j).key ≠ (X (j - 1)).key)
/-- The keys of the first n entries, each once where those of one key lie together. -/
def cK (X : Nat → Ent) (n : Nat) : List ByteArray := ((List.range n).filter (kp X)).map fun j => (X j).key
theorem cK_succ (X : Nat → Ent) (n : Nat) : cK X (n + 1) = cK X n ++ (if kp X n = true then [(X n).key] else []) := by
  unfold cK
  rw [List.range_succ, List.filter_append, List.map_append]
  congr 1
  by_cases h : kp X n = true <;> simp [h]
theorem cK_len (X : Nat → Ent) (n : Nat) : (cK X n).length ≤ n := by
  unfold cK
  rw [List.length_map]
  exact Nat.le_trans (List.length_filter_le _ _) (by simp)
theorem cK_mem {X : Nat → Ent} {n : Nat} {k : ByteArray} (h : k ∈ cK X n) : ∃ j, j < n ∧ k = (X j).key := by
  unfold cK at h
  obtain ⟨j, hj, rfl⟩ := List.mem_map.1 h
  exact ⟨j, by simpa using (List.mem_filter.1 hj).1, rfl⟩
def cF (X : Nat → Ent) (n i : Nat) : ByteArray := (cK X n).getD i ByteArray.empty
theorem cF_size {X : Nat → Ent} {n i : Nat} (h : ∀ j, j < n → (X j).key.size ≤ 140) (hi : i < (cK X n).length) : (cF X n i).size ≤ 140 := by
  have e : cF X n i = (cK X n)[i] := by simp [cF, hi]
  rw [e]
  obtain ⟨j, hj, e⟩ := cK_mem (List.getElem_mem hi)
  rw [e]
  exact h j hj
theorem cK_compact (X : Nat → Ent) (n : Nat) (zs : List (List UInt8)) (hz : zs = (List.range n).map fun j => (X j).key.data.toList) : Lib.compact zs = (cK X n).map fun k => k.data.toList := by
  have hl : zs.length = n := by rw [hz]; simp
  have hg : ∀ j, j < n → zs.toArray[j]! = (X j).key.data.toList := fun j hj => by
    rw [getElem!_pos zs.toArray j (by simpa [hl] using hj)]
    simp [hz]
  have hk : ∀ j, j < n → Lib.keeps zs.toArray j = kp X j := fun j hj => by
    unfold Lib.keeps kp
    rw [hg j hj]
    by_cases h0 : j = 0
    · simp [h0]
    · rw [hg (j - 1) (by omega)]
      congr 1
      simp only [h0, false_or, eq_iff_iff]
      refine not_congr ⟨fun e => ?_, fun e => by rw [e]⟩
      exact ByteArray.ext (Array.toList_inj.1 e)
  unfold Lib.compact Lib.compactUpTo cK
  rw [hl, List.map_map, List.filter_congr (q := kp X) (fun j hj => hk j (by simpa using hj))]
  exact List.map_congr_left fun j hj => by
    rw [hg j (by simpa using (List.mem_filter.1 hj).1)]
    rfl
end Go.Proofs.YtohjjigkfdhklaaGreat

namespace Go.Proofs.YtohjjigkfdhklaaGreat
set_option maxRecDepth 100000
open Go.RowKit Go.Shelf
set_option linter.unusedSimpArgs false
set_option linter.unusedVariables false

/-- What the keys' functions leave. -/
def KO (X : Nat → Ent) (n : Nat) (w : World) (e : Ending) (w' : World) : Prop :=
  ∃ ao cap, e = .returned (.slice ao (cK X n).length cap) ∧ TRow w' ao (cK X n).length (cF X n) ∧ Below w.heap.size w w'

set_option maxHeartbeats 1600000 in
theorem keysOf_any (b off n bc : Nat) (X : Nat → Ent) (w : World) (hr : ERow w (some ⟨b, off, none⟩) n X) (hn : 1 ≤ n ∧ n ≤ 1000) :
    Calls Tryz.prog 25 #[.slice (some ⟨b, off, none⟩) n bc] w fun e w' => KO X n w e w' := by
  obtain ⟨i0, hi, hz0, hz1, hz2⟩ := info_parts Tryz.infoStr
  go_enter Tryz.func25, Tryz.ntmps25
  go_wp2_with (at_make; refine wpList_make_full _ rfl (.tmp 7) (.tmp 7) 58 rfl w.heap.size 9 i0 (.string ByteArray.empty) 1 Tryz.underlying58 hi hz0 hz1 .i64 .i64 _ _ n rfl rfl rfl rfl (by rw [hz2]; omega) (by unfold maxLen; omega) (Nat.le_refl _) ?_; intro w1 hown hgrow)
  have hb1 : Below w.heap.size w w1 := (Below.refl _ _).grown hgrow (Nat.le_refl _) (fun k h => by simp at h)
  have hlt1 : w.heap.size < w1.heap.size := by
    rcases hown.2 with ⟨h, _⟩ | ⟨g', cap', cur, h, _, hg, _⟩
    · simp at h
    · simp at h; obtain ⟨rfl, _⟩ := h
      exact (Array.getElem?_eq_some_iff.1 hg).1
  have ho : TOwn w1 w.heap.size n (fun _ => ByteArray.empty) := by
    refine ⟨hlt1, fun i hi => ?_, fun i _ => by simpa using hown.frozenAt i⟩
    have := hown.cellAt i (by omega)
    rw [this]
    simp only [Value.cells, toList_madeCells_one]
    rw [List.getElem?_replicate]
    simp [hi]
  clear hown hgrow
  go_loopw [11] (fun i wr => ∃ k : Nat, k ≤ n ∧ i = .int .i64 k ∧ TOwn wr w.heap.size n (fun j => if j < k then (X j).key else ByteArray.empty) ∧ Below w.heap.size w wr) (fun i _ => n - (intOf i).toNat)
  case atStart => exact ⟨0, Nat.zero_le _, rfl, by simpa using ho, hb1⟩
  case round =>
    obtain ⟨k, hk, rfl, hok, hbk⟩ := hrel
    by_cases hlt : k < n
    · have hrw := hr.keep hbk
      obtain ⟨b', off', e, hblt, hc⟩ := hrw.lies.resolve_left (by omega)
      injection e with e
      injection e with e1 e2 _
      subst e1 e2
      obtain ⟨da, dc, hE, hI⟩ := hc k hlt
      obtain ⟨_, ec0, ec1, ec2, ec3, ec4, ec5, ec6, ec7, ec8⟩ := hE
      have hB1 := below_new wr (.cells #[.string (X k).key, .int .i64 (X k).seq, .int .i64 (X k).kind, .int .i64 (X k).c, .int .i64 (X k).s, .int .i64 (X k).lo, .int .i64 (X k).hi, .slice da (X k).n dc, .bool (X k).fu] 35)
      have hok1 := hok.keep hB1
      have hd := hok1.cell k hlt
      have hfz := hok1.free k hlt
      have hst := hok1.store k hlt (X k).key
      have hbk1 := hbk.trans (hB1.mono hbk.size)
      clear hc hrw ho hI
      go_wp2
      go_roundw
      case rel => exact ⟨k + 1, by omega, by go_num, hst.congr (fun i _ => by by_cases h1 : i = k <;> by_cases h2 : i < k <;> simp [h1, h2] <;> omega), hbk1.setCell (Nat.le_refl _) _⟩
      case measure => simp [intOf]; omega
    · obtain rfl : k = n := by omega
      obtain ⟨zs, hz⟩ : ∃ zs, zs = (List.range k).map fun j => (X j).key.data.toList := ⟨_, rfl⟩
      have hzl : zs.length = k := by rw [hz]; simp
      have hH : Sort.Holds encStr wr w.heap.size 0 zs.toArray := by
        intro j hj
        have hj' : j < k := by simpa [hzl] using hj
        refine ⟨?_, by rw [Nat.zero_add]; exact hok.free j hj'⟩
        rw [Nat.zero_add, hok.cell j hj', getElem!_pos _ j hj]
        simp [hz, encStr, hj']
      have hcm := cK_compact X k zs hz
      have hcall := Any.slices_Compact_string compStrs w.heap.size 0 k zs wr hH (by omega) (by omega)
      rw [hzl] at hcall
      have hcl := cK_len X k
      go_wp2_with fail
      refine hcall.mono ?_
      rintro e w3 ⟨rfl, q, rfl⟩
      rw [hcm]
      go_wp2
      go_ret
      refine ⟨_, _, rfl, ⟨.inr ⟨w.heap.size, 0, rfl, by simpa [Sort.ahead] using hok.lt, fun i hi => ?_⟩⟩, ?_⟩
      · have hH' : Sort.Holds encStr (Sort.ahead wr q) w.heap.size 0 zs.toArray := hH
        have hsz : ((cK X k).map (fun k : ByteArray => k.data.toList) ++ List.replicate (k - (cK X k).length) []).toArray.size = zs.toArray.size := by simp [hzl]; omega
        have := (Sort.cell?_putRow encStr (Sort.ahead wr q) w.heap.size 0 zs.toArray ((cK X k).map (fun k : ByteArray => k.data.toList) ++ List.replicate (k - (cK X k).length) []).toArray hH' hsz i (by simp; omega))
        rw [this, getElem!_pos _ i (by simp; omega)]
        simp [encStr, cF, hi]
      · refine ⟨hbk.os, hbk.tape, hbk.output, by simpa [Sort.ahead] using hbk.size, fun j hj => ?_⟩
        refine Eq.trans ?_ (hbk.block j hj)
        unfold Sort.putRow Sort.mapBlock Sort.ahead
        rw [Array.getElem?_modify, if_neg (by omega)]

theorem tl_ne {a b : ByteArray} (h : a ≠ b) : (a.toList == b.toList) = false ∧ (a.toList != b.toList) = true := by
  have : a.toList ≠ b.toList := fun e => h (by rw [ByteArray.toList_eq, ByteArray.toList_eq] at e; exact ByteArray.ext (Array.toList_inj.1 e))
  exact ⟨by simpa using this, by simpa using this⟩
theorem tl_eq {a b : ByteArray} (h : a = b) : (a.toList == b.toList) = true ∧ (a.toList != b.toList) = false := by subst h; simp
/-- Texts as cells. -/
def vt (L : List ByteArray) : List Value := L.map Value.string
theorem text_new (w : World) (k : ByteArray) (T : Nat) : ∀ j u, ([Value.string k] : List Value)[j]? = some u → (w.alloc (.cells #[.string k] T)).cell? ((⟨w.heap.size, 0, none⟩ : Addr).add j) = some u := by
  intro j u hj
  have hlt : j < 1 := by
    have := (List.getElem?_eq_some_iff.1 hj).1
    simpa using this
  obtain rfl : j = 0 := by omega
  rw [Addr.add_lit, Nat.zero_add, ← hj]
  simp [go_sem]

set_option maxHeartbeats 1600000 in
theorem l7Keys_any (b off n bc : Nat) (X : Nat → Ent) (w : World) (hr : ERow w (some ⟨b, off, none⟩) n X) (hn : n ≤ 1000) :
    Calls Tryz.prog 59 #[.slice (some ⟨b, off, none⟩) n bc] w fun e w' => KO X n w e w' := by
  obtain ⟨i0, hi, hz0, hz1, hz2⟩ := info_parts Tryz.infoStr
  go_enter Tryz.func59, Tryz.ntmps59
  go_wp2
  go_loopw [3, 8] (fun v i wr => ∃ (k mm cp : Nat) (a : Option Addr), k ≤ n ∧ i = .int .i64 k ∧ v = .slice a mm cp ∧ mm = (cK X k).length ∧ wr.ownsRow w.heap.size 9 1 (.slice a (cK X k).length cp) (cK X k).length (vt (cK X k)) ∧ Below w.heap.size w wr) (fun _ i _ => n - (intOf i).toNat)
  case atStart => exact ⟨0, 0, 0, none, Nat.zero_le _, rfl, rfl, rfl, World.ownsRow_nil _ _ _ _, Below.refl _ _⟩
  case round =>
    obtain ⟨k, mm, cp, a, hk, rfl, rfl, rfl, hown, hbk⟩ := hrel
    have hcl := cK_len X k
    by_cases hlt : k < n
    · have hrw := hr.keep hbk
      obtain ⟨b', off', e, hblt, hc⟩ := hrw.lies.resolve_left (by omega)
      injection e with e
      injection e with e1 e2 _
      subst e1 e2
      obtain ⟨da, dc, hE, hI⟩ := hc k hlt
      have hB1 := below_new wr (.cells #[.string (X k).key, .int .i64 (X k).seq, .int .i64 (X k).kind, .int .i64 (X k).c, .int .i64 (X k).s, .int .i64 (X k).lo, .int .i64 (X k).hi, .slice da (X k).n dc, .bool (X k).fu] 35)
      have hE1 := hE.keep hB1
      have N1 := EAt.new wr (X k) da dc 35
      have hown1 := hown.alloc (.cells #[.string (X k).key, .int .i64 (X k).seq, .int .i64 (X k).kind, .int .i64 (X k).c, .int .i64 (X k).s, .int .i64 (X k).lo, .int .i64 (X k).hi, .slice da (X k).n dc, .bool (X k).fu] 35)
      have hbk1 := hbk.trans (hB1.mono hbk.size)
      obtain ⟨_, ec0, ec1, ec2, ec3, ec4, ec5, ec6, ec7, ec8⟩ := hE
      have hlp : k = 0 ∨ ∃ j ka, k = j + 1 ∧ (wr.alloc (.cells #[.string (X k).key, .int .i64 (X k).seq, .int .i64 (X k).kind, .int .i64 (X k).c, .int .i64 (X k).s, .int .i64 (X k).lo, .int .i64 (X k).hi, .slice da (X k).n dc, .bool (X k).fu] 35)).cell? ⟨b, off + j * 9, none⟩ = some (.string ka) ∧ ka = (X j).key := by
        by_cases h0 : k = 0
        · exact .inl h0
        · obtain ⟨da', dc', hE', _⟩ := hc (k - 1) (by omega)
          exact .inr ⟨k - 1, _, by omega, (hE'.keep hB1).c0, rfl⟩
      have hsuc := cK_succ X k
      obtain ⟨_, f0, f1, f2, f3, f4, f5, f6, f7, f8⟩ := N1.z
      generalize hL : cK X k = L at *
      clear hL hc hrw hI
      have fin : ∀ (kk : ByteArray), kk = (X k).key → kp X k = true → cK X (k + 1) = L ++ [kk] := fun kk e h => by rw [hsuc, if_pos h, e]
      have finN : kp X k = false → cK X (k + 1) = L := fun h => by rw [hsuc, if_neg (by simp [h])]; simp
      clear hsuc
      go_upto_region 5 with fail
      generalize hW1 : wr.alloc (.cells #[.string (X k).key, .int .i64 (X k).seq, .int .i64 (X k).kind, .int .i64 (X k).c, .int .i64 (X k).s, .int .i64 (X k).lo, .int .i64 (X k).hi, .slice da (X k).n dc, .bool (X k).fu] 35) = w1 at *
      go_cut [25] from 13 to 24 (fun s25 wx => s25 = .bool (kp X k) ∧ Below w1.heap.size w1 wx)
      case first =>
        rcases hlp with h0 | ⟨j, ka, hkj, hca, hke⟩
        · have hkp : Hid (kp X k = true) := by unfold Hid kp; simp [h0]
          subst h0
          go_wp2
          go_region
          go_wp2
          go_meet
          case rel => exact ⟨by rw [hkp.out], below_drewN (Below.refl _ _) _⟩
        · have hjn : j < n := by omega
          have hkz : ((k : Int) == 0) = false := by simp; omega
          have hws : IntKind.i64.wrap ((k : Int) - 1) = (j : Int) := by rw [IntKind.wrap_i64] <;> omega
          obtain ⟨kk, hkk⟩ : ∃ kk, (X k).key = kk := ⟨_, rfl⟩
          rw [hkk] at f0
          by_cases he : ka = kk
          · have hkp : Hid (kp X k = false) := by unfold Hid kp; simp [hkj, ← hke, he, ← hkk]
            obtain ⟨hq1, hq2⟩ := tl_eq he
            clear hkj he hke hkk
            go_wp2
            go_region
            go_wp2
            go_meet
            case rel => exact ⟨by rw [hkp.out], below_drewN (Below.refl _ _) _⟩
          · have hkp : Hid (kp X k = true) := by
              unfold Hid kp
              refine decide_eq_true (.inr ?_)
              rw [hkk, hkj, Nat.add_sub_cancel, ← hke]
              exact fun h => he h.symm
            obtain ⟨hq1, hq2⟩ := tl_ne he
            clear hkj he hke hkk
            go_wp2
            go_region
            go_wp2
            go_meet
            case rel => exact ⟨by rw [hkp.out], below_drewN (Below.refl _ _) _⟩
      case rest =>
        obtain ⟨rfl, q1⟩ := hcut
        have hown2 := ownsRow_keep hown1 q1
        have hbk2 := hbk1.trans (q1.mono hbk1.size)
        have N2 := N1.keep q1
        obtain ⟨_, r0, r1, r2, r3, r4, r5, r6, r7, r8⟩ := N2.z
        cases hkp : kp X k
        · have HF : Hid (cK X (k + 1) = L) := finN hkp
          clear fin finN
          go_wp2
          go_roundw
          case rel => exact ⟨k + 1, _, cp, a, by omega, by go_num, rfl, by rw [HF.out], by rw [HF.out]; exact hown2, hbk2⟩
          case measure => simp [intOf]; omega
        · obtain ⟨kk, hkk⟩ : ∃ kk, (X k).key = kk := ⟨_, rfl⟩
          have HF : Hid (cK X (k + 1) = L ++ [kk]) := fin kk hkk.symm hkp
          rw [hkk] at r0
          clear fin finN hkk
          have hs2 := hbk2.size
          go_wp2_with (at_builtin; refine wpList_append_own_at _ rfl (.tmp 26) (.tmp 29) 58 rfl w.heap.size 9 i0 (.string ByteArray.empty) 1 16 Tryz.underlying58 hi hz0 hz1 hz2 rfl (by decide) _ L.length (vt L) rfl (hown2.alloc _) ⟨wc.heap.size, 0, none⟩ 1 1 [.string kk] rfl rfl (text_new wc kk _) (fun u hu => by simp only [List.mem_cons, List.not_mem_nil, or_false] at hu; subst hu; rfl) (by unfold maxLen; omega) (by omega) (by simp; omega) ?_; intro v4 w4 o4 gr4 _ ha4; obtain ⟨a4, c4, rfl⟩ := ownsRow_form o4)
          have hb4 : Below w.heap.size w w4 := ((hbk2.alloc hs2 _)).grown gr4 (by simp; omega) (fun q hq => (hown2.lt q hq).1)
          go_roundw
          case rel => exact ⟨k + 1, _, c4, a4, by omega, by go_num, rfl, by rw [HF.out, List.length_append, List.length_singleton], by rw [HF.out, List.length_append, List.length_singleton, vt, List.map_append]; exact o4, hb4⟩
          case measure => simp [intOf]; omega
    · obtain rfl : k = n := by omega
      go_wp2
      go_ret
      refine ⟨_, _, rfl, ?_, hbk⟩
      rcases hown.2 with ⟨e, h0⟩ | ⟨g, cap, cur, e, hbg, hg, hnc, _⟩
      · exact ⟨.inl h0⟩
      · injection e with e1 e2 e3
        subst e1
        refine ⟨.inr ⟨g, 0, rfl, (Array.getElem?_eq_some_iff.1 hg).1, fun i hi => ?_⟩⟩
        rw [Nat.zero_add]
        subst e3
        rw [hown.cellAt i (by omega)]
        simp [vt, cF, hi]
end Go.Proofs.YtohjjigkfdhklaaGreat
namespace Go.Proofs.YtohjjigkfdhklaaGreat
set_option maxRecDepth 100000
open Go.RowKit
set_option linter.unusedSimpArgs false
set_option linter.unusedVariables false

/-- A filter and whether: what is answered. -/
def RO (y : Int) (L : List Int) (ok : Bool) (w : World) (e : Ending) (w' : World) : Prop :=
  ∃ ao c, e = .returned (.tuple #[.agg #[.int .i64 y, .slice ao L.length c], .bool ok]) ∧ BV w' w.heap.size w'.heap.size ao L ∧ Below w.heap.size w w'
/-- Bytes that are a filter's. -/
def IsFl (n : Nat) (f : Nat → Int) : Prop := 1 ≤ n ∧ GoodF (f 0) (n - 1)
/-- What ReadFilter answers. -/
def RFO (n : Nat) (f : Nat → Int) (w : World) (e : Ending) (w' : World) : Prop := (IsFl n f → RO (f 0) (ffl (fun i => f (i + 1)) (n - 1)) true w e w') ∧ (¬ IsFl n f → RO 0 [] false w e w')

theorem ro_zero {w w' : World} (h : Below w.heap.size w w') : RO 0 [] false w (.returned (.tuple #[.agg #[.int .i64 0, .slice none 0 0], .bool false])) w' := ⟨none, 0, rfl, bv_nil _ _ _ (Nat.le_refl _), h⟩

theorem lt_cell {w : World} {b o : Nat} {v : Value} (h : w.cell? ⟨b, o, none⟩ = some v) : b < w.heap.size := by
  unfold World.cell? at h
  split at h
  · rename_i hb
    exact (Array.getElem?_eq_some_iff.1 hb).1
  · simp at h
theorem rf_copy {w w2 w3 : World} {b m n ub : Nat} {f : Nat → Int} {y : Int} {v : Value} (hbd : ∀ i, 0 ≤ f i ∧ f i ≤ 255) (hm : m = n - 1) (h0 : ¬ n = 0) (hsw : w.heap.size ≤ w2.heap.size) (hb3 : Below w2.heap.size w2 w3) (ho : Own w3 w2.heap.size 0 m (fun _ => 0)) (R2 : Own w2 b 0 n f) (F2 : FAt w2 ub y v) (Z2 : FAt w2 w.heap.size 0 (.slice none 0 0)) (fz2 : ∀ j, w2.frozen? ⟨w.heap.size, j, none⟩ = false) (B2 : Below w.heap.size w w2) :
    ∃ w4, (Builtin.copy_ #[22, 22] 3 #[.slice (some ⟨w2.heap.size, 0, none⟩) m m, .slice (some ⟨b, 1, none⟩) m m]).run Tryz.prog w3 = .ok (.int .i64 m) w4 ∧ Hid (Own w4 w2.heap.size 0 m (fun i => f (i + 1))) ∧ FAt w4 ub y v ∧ FAt w4 w.heap.size 0 (.slice none 0 0) ∧ w4.frozen? ⟨w.heap.size, 0, none⟩ = false ∧ w4.frozen? ⟨w.heap.size, 1, none⟩ = false ∧ Below w.heap.size w w4 := by
  obtain ⟨w4, hrun, o4, q4⟩ := copyB_run w3 w2.heap.size m 0 m m b 1 m _ (fun i => f (i + 1)) ho (by omega) (fun i => hbd (i + 1)) (fun i hi => by
    have h1 := (R2.keep hb3).cell (i + 1) (by omega)
    rw [← h1, show 0 + (i + 1) = 1 + i by omega])
  have fz4 : ∀ j, w4.frozen? ⟨w.heap.size, j, none⟩ = false := fun j => (World.frozen?_of_block (w := w3) (a := ⟨w.heap.size, j, none⟩) (q4.block w.heap.size (by have := Z2.lt; omega))).trans ((hb3.frozen (p := ⟨w.heap.size, j, none⟩) Z2.lt).trans (fz2 j))
  exact ⟨w4, hrun, o4.congr (fun i => hbd (i + 1)) (fun i hi => by simp [hi]), (F2.keep hb3).mid (Mid.of_others (B := w2.heap.size) (U := w2.heap.size + 1) q4 (Nat.le_refl _) (by omega)) (by have := F2.lt; omega), (Z2.keep hb3).mid (Mid.of_others (B := w2.heap.size) (U := w2.heap.size + 1) q4 (Nat.le_refl _) (by omega)) (by have := Z2.lt; omega), fz4 0, fz4 1, (B2.trans (hb3.mono hsw)).trans (q4.below hsw)⟩

set_option maxHeartbeats 1000000 in
theorem readFilter_impl (b n : Nat) (f : Nat → Int) (w : World) (hr : Own w b 0 n f) (hn : n ≤ 1048576) :
    Calls Tryz.prog 90 #[.slice (some ⟨b, 0, none⟩) n n] w fun e w' => RFO n f w e w' := by
  obtain ⟨i0, hi, hz0, hz1, hz2⟩ := info_parts Tryz.info5
  by_cases h0 : n = 0
  · subst h0
    have hB : Below w.heap.size w ((w.alloc (.cells #[.int .i64 0, .slice none 0 0] 55)).setCell ⟨w.heap.size, 0, none⟩ (.int .i64 0)) := (below_new w _).setCell (p := ⟨w.heap.size, 0, none⟩) (Nat.le_refl _) _
    go_enter Tryz.func90, Tryz.ntmps90
    go_wp2
    refine bodyPost_ret (v := .tuple #[.agg #[.int .i64 0, .slice none 0 0], .bool false]) (by simp [results, Tryz.results90, go_sem]) rfl ⟨fun h => absurd h.1 (by omega), fun _ => ro_zero ?_⟩
    repeat' refine Below.setCell ?_ (by first | (simp; done) | (simp; omega)) _
    exact below_new w _
  · have hblt := hr.lt
    have c0 := hr.cell 0 (by omega)
    have hb0 := hr.bd 0
    have hd1 : decide ((n : Int) < 1) = false := by simp; omega
    simp only [Nat.add_zero] at c0
    have W0 := below_new w (.cells #[.int .i64 0, .slice none 0 0] 55)
    have Z0 := FAt.new w 0 (.slice none 0 0) 55
    have c1 : (w.alloc (.cells #[.int .i64 0, .slice none 0 0] 55)).cell? ⟨b, 0, none⟩ = some (.int .u8 (f 0)) := (W0.cell (p := ⟨b, 0, none⟩) hblt).trans c0
    have hn0 : (0 : Int) < (n : Int) := by omega
    have hn1 : (1 : Int) ≤ (n : Int) := by omega
    have hn2 : 0 < n := by omega
    have hn1' : ¬ (n : Int) < 1 := by omega
    have hwf : IntKind.i64.wrap (f 0) = f 0 := by rw [IntKind.wrap_i64] <;> omega
    have hne := World.new_ne (w.alloc (.cells #[.int .i64 0, .slice none 0 0] 55)) _ c1
    have hfz : ∀ j, (w.alloc (.cells #[.int .i64 0, .slice none 0 0] 55)).frozen? ⟨w.heap.size, j, none⟩ = false := fun j => by simp [go_sem]
    obtain ⟨A, hA⟩ : ∃ A : Option Addr, (if n = 1 then some ⟨b, 0, none⟩ else some ⟨b, 1, none⟩) = A := ⟨_, rfl⟩
    have HA : Hid (n ≠ 1 → A = some ⟨b, 1, none⟩) := fun h => by rw [← hA, if_neg h]
    go_enter Tryz.func90, Tryz.ntmps90
    go_wp2
    generalize w.alloc (.cells #[.int .i64 0, .slice none 0 0] 55) = u at *
    go_region_held3 (fun w' => w'.cell? ⟨b, 0, none⟩ = some (.int .u8 (f 0))) (go_keep) (fail)
    clear hA hne
    have D1 : Below u.heap.size u (u.alloc (.cells #[.int .i64 (f 0), .slice A (n - 1) (n - 1)] 55)).drew := (below_new u _).drew
    have F1 : FAt (u.alloc (.cells #[.int .i64 (f 0), .slice A (n - 1) (n - 1)] 55)).drew u.heap.size (f 0) (.slice A (n - 1) (n - 1)) := (FAt.new u (f 0) (.slice A (n - 1) (n - 1)) 55).keep (Below.refl _ _).drew
    have Z1 := Z0.keep D1
    have R1 := (hr.keep W0).keep D1
    have B1 : Below w.heap.size w (u.alloc (.cells #[.int .i64 (f 0), .slice A (n - 1) (n - 1)] 55)).drew := W0.trans (D1.mono W0.size)
    have fz1 : ∀ j, (u.alloc (.cells #[.int .i64 (f 0), .slice A (n - 1) (n - 1)] 55)).drew.frozen? ⟨w.heap.size, j, none⟩ = false := fun j => (D1.frozen (p := ⟨w.heap.size, j, none⟩) Z0.lt).trans (hfz j)
    have hzu := Z0.lt
    clear Z0 c1 D1 hfz W0
    generalize (u.alloc (.cells #[.int .i64 (f 0), .slice A (n - 1) (n - 1)] 55)).drew = w1 at *
    obtain ⟨lf, f0, f1⟩ := id F1
    go_wp2_with fail
    refine (goodFilter_impl (f 0) A (n - 1) (n - 1) _ (by omega)).mono ?_
    rintro e w2 ⟨b2, rfl, h2, q2⟩
    have Z2 := Z1.keep q2
    have F2 := F1.keep q2
    have R2 := R1.keep q2
    have B2 : Below w.heap.size w w2 := B1.trans (q2.mono B1.size)
    have fz2 : ∀ j, w2.frozen? ⟨w.heap.size, j, none⟩ = false := fun j => (q2.frozen (p := ⟨w.heap.size, j, none⟩) Z1.lt).trans (fz1 j)
    clear Z1 F1 R1 B1 fz1 q2 lf f0 f1
    obtain ⟨lz, z0, z1⟩ := id Z2
    obtain ⟨lf, f0, f1⟩ := id F2
    have g0 := fz2 0
    have g1 := fz2 1
    cases b2
    · have K : Hid (¬ IsFl n f) := fun h => by
        have := h2.2 h.2
        cases this
      clear h2
      go_wp2
      refine bodyPost_ret (v := .tuple #[.agg #[.int .i64 0, .slice none 0 0], .bool false]) (by simp [results, Tryz.results90, go_sem, z0, z1]) rfl ⟨fun h => absurd h K.out, fun _ => ro_zero ?_⟩
      repeat' refine Below.setCell ?_ (by first | (simp; done) | (simp; omega)) _
      exact B2
    · have hg := h2.1 rfl
      have HG : Hid (IsFl n f) := ⟨by omega, hg⟩
      obtain ⟨⟨hy1, hy8⟩, hm1, hm2⟩ := hg
      obtain rfl := HA.out (by omega)
      obtain ⟨m, hm⟩ : ∃ m, m = n - 1 := ⟨_, rfl⟩
      rw [← hm] at f1 hm1 hm2 F2
      rw [← hm]
      have HM : Hid (m = n - 1) := hm
      have hm3 : n ≤ 201 := by omega
      clear HA h2 hm
      have hsw := B2.size
      go_wp2_with (at_make; refine wpList_make_full _ rfl (.tmp 23) (.tmp 23) 22 rfl w2.heap.size 5 i0 (.int .u8 0) 1 Tryz.underlying22 hi hz0 hz1 .i64 .i64 _ _ m rfl rfl rfl rfl (by rw [hz2]; omega) (by unfold maxLen; omega) (Nat.le_refl _) ?_; intro w3 hown hgrow; obtain ⟨hb3, ho⟩ := made_facts hown hgrow; clear hown hgrow; have F3 := F2.keep hb3; obtain ⟨_, f0', f1'⟩ := F3; obtain ⟨w4, hrun, HO, F4, Z4, h4, h5, B4⟩ := rf_copy hr.bd HM.out h0 hsw hb3 ho R2 F2 Z2 fz2 B2; obtain ⟨lf4, p0, p1⟩ := F4; obtain ⟨lz4, r0, r1⟩ := Z4; have hzl := Z2.lt; clear ho lf f0 f1 lz z0 z1 F2 Z2 R2 fz2 g0 g1 hb3)
      refine bodyPost_ret (v := .tuple #[.agg #[.int .i64 (f 0), .slice (some ⟨w2.heap.size, 0, none⟩) m m], .bool true]) (by simp [results, Tryz.results90, go_sem, r0, r1]) rfl ⟨fun _ => ?_, fun h => absurd HG.out h⟩
      refine ⟨some ⟨w2.heap.size, 0, none⟩, m, by rw [ffl_len, HM.out], ?_, ?_⟩
      · refine ⟨ffl_byt (fun i => hr.bd (i + 1)), Nat.le_refl _, .inr ⟨w2.heap.size, 0, rfl, hsw, by simp; exact HO.out.lt, ?_⟩⟩
        rw [ffl_len, ← HM.out]
        refine Own.congr (f := fun i => f (i + 1)) ?_ (Byt.fl (ffl_byt (fun i => hr.bd (i + 1)))) (fun i hi => by rw [ffl_fl hi])
        repeat' refine (Others.setCell _ _ _ _).row ?_ (by omega)
        exact HO.out
      · repeat' refine Below.setCell ?_ (by first | (simp; done) | (simp; omega)) _
        exact B4

/-- A filter read, in the box p4, beside the zero one. -/
structure RE (w : World) (f : Nat → Int) (n p4 : Nat) (g : Option Addr) (c : Nat) (W : World) : Prop where
  fat : FAt W p4 (f 0) (.slice g (n - 1) c)
  zat : FAt W w.heap.size 0 (.slice none 0 0)
  fz : ∀ j, W.frozen? ⟨w.heap.size, j, none⟩ = false
  bv : BV W (w.heap.size + 1) W.heap.size g (ffl (fun i => f (i + 1)) (n - 1))
  bel : Below w.heap.size w W

/-- The box made first. -/
theorem re_set {w u w2 : World} {f : Nat → Int} {n B0 P : Nat} {g : Option Addr} {c : Nat} (W0 : Below w.heap.size w u) (hzu : w.heap.size < u.heap.size) (Z0 : FAt u w.heap.size 0 (.slice none 0 0)) (hfz : ∀ j, u.frozen? ⟨w.heap.size, j, none⟩ = false)
    (K2 : ∀ k, k < u.heap.size → w2.heap[k]? = u.heap[k]?) (os : w2.os = u.os) (tape : w2.tape = u.tape) (output : w2.output = u.output) (sz : u.heap.size + 2 ≤ w2.heap.size) (V2 : BV w2 B0 w2.heap.size g (ffl (fun i => f (i + 1)) (n - 1))) (hB : u.heap.size ≤ B0) (hP : u.heap.size ≤ P) (hP2 : P < w2.heap.size) (hPg : ∀ o, g = some o → o.block ≠ P)
    (n0 : w2.cell? ⟨P, 0, none⟩ = some (.int .i64 0)) (n1 : w2.cell? ⟨P, 1, none⟩ = some (.slice none 0 0)) : RE w f n P g c ((w2.setCell ⟨P, 0, none⟩ (.int .i64 (f 0))).setCell ⟨P, 1, none⟩ (.slice g (n - 1) c)) := by
  have bl : ∀ k, k ≠ P → ((w2.setCell ⟨P, 0, none⟩ (.int .i64 (f 0))).setCell ⟨P, 1, none⟩ (.slice g (n - 1) c)).heap[k]? = w2.heap[k]? := fun k hk => (Below.heap_setCell _ _ _ _ hk).trans (Below.heap_setCell _ _ _ _ hk)
  have hs : ((w2.setCell ⟨P, 0, none⟩ (.int .i64 (f 0))).setCell ⟨P, 1, none⟩ (.slice g (n - 1) c)).heap.size = w2.heap.size := by simp
  have zb : ∀ k, k < u.heap.size → ((w2.setCell ⟨P, 0, none⟩ (.int .i64 (f 0))).setCell ⟨P, 1, none⟩ (.slice g (n - 1) c)).heap[k]? = u.heap[k]? := fun k hk => (bl k (by omega)).trans (K2 k hk)
  have zc : ∀ j, ((w2.setCell ⟨P, 0, none⟩ (.int .i64 (f 0))).setCell ⟨P, 1, none⟩ (.slice g (n - 1) c)).cell? ⟨w.heap.size, j, none⟩ = u.cell? ⟨w.heap.size, j, none⟩ := fun j => World.cell?_of_block (w := u) (a := ⟨w.heap.size, j, none⟩) (zb w.heap.size hzu)
  refine ⟨⟨by rw [hs]; exact hP2, ?_, ?_⟩, ⟨by rw [hs]; omega, (zc 0).trans Z0.c0, (zc 1).trans Z0.c1⟩, fun j => (World.frozen?_of_block (w := u) (a := ⟨w.heap.size, j, none⟩) (zb w.heap.size hzu)).trans (hfz j), ⟨V2.bd, Nat.le_refl _, ?_⟩, ⟨os.trans W0.os, tape.trans W0.tape, output.trans W0.output, by rw [hs]; omega, fun k hk => (zb k (by omega)).trans (W0.block k hk)⟩⟩
  · rw [World.cell?_setCell_other _ _ _ _ (by simp)]
    exact World.cell?_setCell_same _ _ _ n0
  · exact World.cell?_setCell_same _ _ _ ((World.cell?_setCell_other _ _ _ _ (by simp)).trans n1)
  · rcases V2.is with h0 | ⟨q, off, e, h1, h2, ho⟩
    · exact .inl h0
    · have hq : q ≠ P := hPg _ e
      refine .inr ⟨q, off, e, by omega, by rw [hs]; exact h2, ?_⟩
      exact (Others.setCell _ _ _ _).row ((Others.setCell _ _ _ _).row ho hq) hq
/-- The box made last. -/
theorem re_new {w u w1 : World} {f : Nat → Int} {n B0 : Nat} {g : Option Addr} {c : Nat} (W0 : Below w.heap.size w u) (hzu : w.heap.size < u.heap.size) (Z0 : FAt u w.heap.size 0 (.slice none 0 0)) (hfz : ∀ j, u.frozen? ⟨w.heap.size, j, none⟩ = false)
    (K1 : ∀ k, k < u.heap.size → w1.heap[k]? = u.heap[k]?) (os : w1.os = u.os) (tape : w1.tape = u.tape) (output : w1.output = u.output) (sz : u.heap.size + 1 ≤ w1.heap.size) (V1 : BV w1 B0 w1.heap.size g (ffl (fun i => f (i + 1)) (n - 1))) (hB : u.heap.size ≤ B0) : RE w f n w1.heap.size g c (w1.alloc (.cells #[.int .i64 (f 0), .slice g (n - 1) c] 55)) := by
  have hb := below_new w1 (.cells #[.int .i64 (f 0), .slice g (n - 1) c] 55)
  have zb : ∀ k, k < u.heap.size → (w1.alloc (.cells #[.int .i64 (f 0), .slice g (n - 1) c] 55)).heap[k]? = u.heap[k]? := fun k hk => (hb.block k (by omega)).trans (K1 k hk)
  have zc : ∀ j, (w1.alloc (.cells #[.int .i64 (f 0), .slice g (n - 1) c] 55)).cell? ⟨w.heap.size, j, none⟩ = u.cell? ⟨w.heap.size, j, none⟩ := fun j => World.cell?_of_block (w := u) (a := ⟨w.heap.size, j, none⟩) (zb w.heap.size hzu)
  refine ⟨FAt.new _ _ _ _, ⟨by simp; omega, (zc 0).trans Z0.c0, (zc 1).trans Z0.c1⟩, fun j => (World.frozen?_of_block (w := u) (a := ⟨w.heap.size, j, none⟩) (zb w.heap.size hzu)).trans (hfz j), ⟨V1.bd, Nat.le_refl _, ?_⟩, ⟨os.trans W0.os, tape.trans W0.tape, output.trans W0.output, by simp; omega, fun k hk => (zb k (by omega)).trans (W0.block k hk)⟩⟩
  rcases V1.is with h0 | ⟨q, off, e, h1, h2, ho⟩
  · exact .inl h0
  · exact .inr ⟨q, off, e, by omega, by simp; omega, ho.keep hb⟩

theorem step_append_run {P : Program} {w : World} {ops : Array Oper} {o : Oper} {a : Act} {K : Act → World → Prop} {Q : Exit → Act → World → Prop} {E : Prop} (hgd : o.guard = none) (s x : Operand) (t : TypeId)
    (ho : o.op = .call { callee := .builtin .append, args := #[s, x], argTypes := #[t, t] }) (u v r : Value) (hs : a.eval s = u) (hx : a.eval x = v) (w' : World) (hrun : ∀ ty, (Builtin.append_ #[t, t] ty #[u, v]).run P w = .ok r w') (h : K (a.put o.dst r) w') :
    if Region.wanted o (yielded ops a.tmps) = true then Oper.wp P o a w K Q else E := by
  have hw : Region.wanted o (yielded ops a.tmps) = true := by simp [Region.wanted, hgd]
  rw [if_pos hw]
  unfold Oper.wp execOp
  simp only [ho, resolve, invoke, builtin, Sem.run_bind, Sem.run_pure, Result.andThen_ok, List.map_toArray, List.map_cons, List.map_nil, hs, hx, hrun]
  exact h

/-- Bytes put behind an empty slice in block B0. -/
theorem copyE_run (w : World) (B0 : Nat) (hB0 : w.heap[B0]? = some (.cells #[] 5 (0, 0))) (da : Option Addr) (len dc : Nat) (f : Nat → Int) (hr : Row w da len f) (hn : len ≤ 1048576) :
    ∃ g c w', (∀ ty, (Builtin.append_ #[22, 22] ty #[.slice (some ⟨B0, 0, none⟩) 0 0, .slice da len dc]).run Tryz.prog w = .ok (.slice g len c) w') ∧ BV w' B0 w'.heap.size g (ffl f len) ∧ w.grownBy w' (some B0) ∧ (∀ o, g = some o → o.block = B0 ∨ w.heap.size ≤ o.block) := by
  obtain ⟨i0, hi, hz0, hz1, hz2⟩ := info_parts Tryz.info5
  have hB0lt : B0 < w.heap.size := (Array.getElem?_eq_some_iff.1 hB0).1
  by_cases h0 : len = 0
  · subst h0
    refine ⟨some ⟨B0, 0, none⟩, 0, w, fun ty => ?_, ⟨ffl_byt hr.bd, Nat.le_refl _, .inr ⟨B0, 0, rfl, Nat.le_refl _, hB0lt, Byt.fl (ffl_byt hr.bd), hB0lt, fun i hi => by rw [ffl_len] at hi; omega, fun i hi => by rw [ffl_len] at hi; omega⟩⟩, World.grownBy.refl _ _, fun o e => .inl (by injection e with e; rw [← e])⟩
    cases da <;> simp [Builtin.append_, run_underlying Tryz.underlying22, sizeOf, typeInfo, hi, Builtin.lenOf, Builtin.firstCells, loadCells, loadCellsFrom, storeCells]
  · obtain ⟨b, off, rfl, hlt, hc⟩ := hr.lies.resolve_left h0
    obtain ⟨g, cap, w', hrun, hown, hgrow, hat, hlt'⟩ := run_append_lies (P := Tryz.prog) w 22 0 B0 5 i0 (.int .u8 0) 1 1 Tryz.underlying22 hi hz0 hz1 hz2 rfl (by decide) (.slice (some ⟨B0, 0, none⟩) 0 0) 0 [] ⟨rfl, .inr ⟨B0, 0, #[], rfl, Nat.le_refl _, hB0, Nat.le_refl _, Nat.zero_le _, rfl, rfl⟩⟩ ⟨b, off, none⟩ len dc ((List.range len).map fun i => Value.int .u8 (f i)) (by simp)
      (fun j u hu => by
        have hj : j < len := by
          have := (List.getElem?_eq_some_iff.1 hu).1
          simpa using this
        have e : u = .int .u8 (f j) := by simpa [hj] using hu.symm
        subst e
        rw [add_flat]
        exact hc j hj)
      (fun u hu => by simp only [List.mem_map] at hu; obtain ⟨i, _, rfl⟩ := hu; rfl) (by omega) (by unfold maxLen; omega) (by omega) (by omega) w.heap.size rfl
    rw [Nat.zero_add] at hrun hown
    rw [List.nil_append] at hown
    have hO : Own w' g 0 (ffl f len).length (fl (ffl f len)) := by
      refine ⟨Byt.fl (ffl_byt hr.bd), hlt', fun i hi => ?_, fun i _ => by simpa using hown.frozenAt i⟩
      rw [ffl_len] at hi
      rw [Nat.zero_add, hown.cellAt i (by omega), ffl_fl hi]
      simp [hi]
    have hgB : B0 ≤ g := by
      rcases hat with h | h
      · simp [Value.ownBlock] at h; omega
      · omega
    refine ⟨_, cap, w', fun ty => hrun, ⟨ffl_byt hr.bd, Nat.le_refl _, .inr ⟨g, 0, rfl, hgB, hlt', hO⟩⟩, hgrow, fun o e => ?_⟩
    injection e with e
    subst e
    rcases hat with h | h
    · simp [Value.ownBlock] at h; exact .inl h.symm
    · right; show _ ≤ g; omega

set_option maxRecDepth 100000 in
set_option maxHeartbeats 4000000 in
theorem readFilter_spec (b n : Nat) (f : Nat → Int) (w : World) (hr : Own w b 0 n f) (hn : n ≤ 1048576) :
    Calls Tryz.prog 73 #[.slice (some ⟨b, 0, none⟩) n n] w fun e w' => RFO n f w e w' := by
  obtain ⟨i0, hi, hz0, hz1, hz2⟩ := info_parts Tryz.info5
  by_cases h0 : n = 0
  · subst h0
    go_enter Tryz.func73, Tryz.ntmps73
    go_wp2
    refine bodyPost_ret (v := .tuple #[.agg #[.int .i64 0, .slice none 0 0], .bool false]) (by simp [results, Tryz.results73, go_sem]) rfl ⟨fun h => absurd h.1 (by omega), fun _ => ro_zero ?_⟩
    repeat' refine Below.setCell ?_ (by first | (simp; done) | (simp; omega)) _
    exact below_new w _
  · have hblt := hr.lt
    have c0 := hr.cell 0 (by omega)
    have hb0 := hr.bd 0
    have hd1 : ((n : Int) == 0) = false := by simp; omega
    simp only [Nat.add_zero] at c0
    have W0 := below_new w (.cells #[.int .i64 0, .slice none 0 0] 55)
    have Z0 := FAt.new w 0 (.slice none 0 0) 55
    have c1 : (w.alloc (.cells #[.int .i64 0, .slice none 0 0] 55)).cell? ⟨b, 0, none⟩ = some (.int .u8 (f 0)) := (W0.cell (p := ⟨b, 0, none⟩) hblt).trans c0
    have hn1 : (1 : Int) ≤ (n : Int) := by omega
    have hn2 : 0 < n := by omega
    have hn1' : ¬ (n : Int) < 1 := by omega
    have hwf : IntKind.i64.wrap (f 0) = f 0 := by rw [IntKind.wrap_i64] <;> omega
    have hne := World.new_ne (w.alloc (.cells #[.int .i64 0, .slice none 0 0] 55)) _ c1
    have hfz : ∀ j, (w.alloc (.cells #[.int .i64 0, .slice none 0 0] 55)).frozen? ⟨w.heap.size, j, none⟩ = false := fun j => by simp [go_sem]
    obtain ⟨A, hA⟩ : ∃ A : Option Addr, (if n = 1 then some ⟨b, 0, none⟩ else some ⟨b, 1, none⟩) = A := ⟨_, rfl⟩
    have HA : Hid (n ≠ 1 → A = some ⟨b, 1, none⟩) := fun h => by rw [← hA, if_neg h]
    go_enter Tryz.func73, Tryz.ntmps73
    go_wp2
    generalize w.alloc (.cells #[.int .i64 0, .slice none 0 0] 55) = u at *
    have RA : ∀ W, Below u.heap.size u W → Row W A (n - 1) (fun i => f (i + 1)) := fun W hW => by
      refine ⟨fun i => hr.bd (i + 1), ?_⟩
      by_cases h1 : n = 1
      · exact .inl (by omega)
      · refine .inr ⟨b, 1, HA.out h1, Nat.lt_of_lt_of_le ((hr.keep W0).lt) hW.size, fun i hi => ?_⟩
        rw [show 1 + i = 0 + (i + 1) by omega]
        exact ((hr.keep W0).keep hW).cell (i + 1) (by omega)
    have b1 : Below u.heap.size u (u.drew.alloc (.cells #[] 5)) := (Below.refl _ u).drew.alloc (Nat.le_refl _) _
    obtain ⟨g1, c1', w1, hrun1, V1, G1, L1⟩ := copyE_run (u.drew.alloc (.cells #[] 5)) u.heap.size (heap_alloc_new u.drew _) A (n - 1) (n - 1) _ (RA _ b1) (by omega)
    have b2 : Below u.heap.size u ((u.drew.alloc (.cells #[] 5)).alloc (.cells #[.int .i64 0, .slice none 0 0] 55)) := b1.alloc (by simp) _
    obtain ⟨g2, c2', w2, hrun2, V2, G2, L2⟩ := copyE_run ((u.drew.alloc (.cells #[] 5)).alloc (.cells #[.int .i64 0, .slice none 0 0] 55)) u.heap.size ((Below.heap_alloc _ _ u.heap.size (by simp)).trans (heap_alloc_new u.drew _)) A (n - 1) (n - 1) _ (RA _ b2) (by omega)
    have b3 : Below u.heap.size u ((u.drew.alloc (.cells #[.int .i64 0, .slice none 0 0] 55)).alloc (.cells #[] 5)) := ((Below.refl _ u).drew.alloc (Nat.le_refl _) _).alloc (by simp) _
    have hx3 : ((u.drew.alloc (.cells #[.int .i64 0, .slice none 0 0] 55)).alloc (.cells #[] 5)).heap[u.heap.size + 1]? = some (.cells #[] 5 (0, 0)) := by
      have := heap_alloc_new (u.drew.alloc (.cells #[.int .i64 0, .slice none 0 0] 55)) (.cells #[] 5)
      simpa using this
    obtain ⟨g3, c3', w3, hrun3, V3, G3, L3⟩ := copyE_run ((u.drew.alloc (.cells #[.int .i64 0, .slice none 0 0] 55)).alloc (.cells #[] 5)) (u.heap.size + 1) hx3 A (n - 1) (n - 1) _ (RA _ b3) (by omega)
    have K1 : ∀ k, k < u.heap.size → w1.heap[k]? = u.heap[k]? := fun k hk => (G1.block k (by simp; omega) (fun e => by injection e with e; omega)).trans (b1.block k hk)
    have K2 : ∀ k, k < u.heap.size → w2.heap[k]? = u.heap[k]? := fun k hk => (G2.block k (by simp; omega) (fun e => by injection e with e; omega)).trans (b2.block k hk)
    have K3 : ∀ k, k < u.heap.size → w3.heap[k]? = u.heap[k]? := fun k hk => (G3.block k (by simp; omega) (fun e => by injection e with e; omega)).trans (b3.block k hk)
    have bu : b < u.heap.size := (hr.keep W0).lt
    have d1 : w1.cell? ⟨b, 0, none⟩ = some (.int .u8 (f 0)) := (World.cell?_of_block (w := u) (a := ⟨b, 0, none⟩) (K1 b bu)).trans c1
    have d2 : w2.cell? ⟨b, 0, none⟩ = some (.int .u8 (f 0)) := (World.cell?_of_block (w := u) (a := ⟨b, 0, none⟩) (K2 b bu)).trans c1
    have d3 : w3.cell? ⟨b, 0, none⟩ = some (.int .u8 (f 0)) := (World.cell?_of_block (w := u) (a := ⟨b, 0, none⟩) (K3 b bu)).trans c1
    have N2 : w2.heap[u.heap.size + 1]? = some (.cells #[.int .i64 0, .slice none 0 0] 55 (0, 0)) := (G2.block (u.heap.size + 1) (by simp) (fun e => by injection e with e; omega)).trans (by
      have := heap_alloc_new (u.drew.alloc (.cells #[] 5)) (.cells #[.int .i64 0, .slice none 0 0] 55)
      simpa using this)
    have N3 : w3.heap[u.heap.size]? = some (.cells #[.int .i64 0, .slice none 0 0] 55 (0, 0)) := (G3.block u.heap.size (by simp; omega) (fun e => by injection e with e; omega)).trans ((Below.heap_alloc _ _ u.heap.size (by simp)).trans (heap_alloc_new u.drew _))
    have n20 : w2.cell? ⟨u.heap.size + 1, 0, none⟩ = some (.int .i64 0) := by rw [cell_of_row _ _ _ _ _ _ N2]; rfl
    have n21 : w2.cell? ⟨u.heap.size + 1, 1, none⟩ = some (.slice none 0 0) := by rw [cell_of_row _ _ _ _ _ _ N2]; rfl
    have m20 : w2.frozen? ⟨u.heap.size + 1, 0, none⟩ = false := frozen_of_row _ _ _ _ _ N2
    have m21 : w2.frozen? ⟨u.heap.size + 1, 1, none⟩ = false := frozen_of_row _ _ _ _ _ N2
    have n30 : w3.cell? ⟨u.heap.size, 0, none⟩ = some (.int .i64 0) := by rw [cell_of_row _ _ _ _ _ _ N3]; rfl
    have n31 : w3.cell? ⟨u.heap.size, 1, none⟩ = some (.slice none 0 0) := by rw [cell_of_row _ _ _ _ _ _ N3]; rfl
    have m30 : w3.frozen? ⟨u.heap.size, 0, none⟩ = false := frozen_of_row _ _ _ _ _ N3
    have m31 : w3.frozen? ⟨u.heap.size, 1, none⟩ = false := frozen_of_row _ _ _ _ _ N3
    have e1 : (w1.alloc (.cells #[.int .i64 0, .slice none 0 0] 55)).cell? ⟨b, 0, none⟩ = some (.int .u8 (f 0)) := ((below_new w1 _).cell (p := ⟨b, 0, none⟩) (lt_cell d1)).trans d1
    clear N2 N3
    have hzu : w.heap.size < u.heap.size := Z0.lt
    have S1 := G1.size
    have S2 := G2.size
    have S3 := G3.size
    simp at S1 S2 S3
    have E1 : Hid (RE w f n w1.heap.size g1 c1' (w1.alloc (.cells #[.int .i64 (f 0), .slice g1 (n - 1) c1'] 55))) := re_new W0 hzu Z0 hfz K1 (G1.os.trans b1.os) (G1.tape.trans b1.tape) (G1.output.trans b1.output) (by omega) V1 (Nat.le_refl _)
    have E2 : Hid (RE w f n (u.heap.size + 1) g2 c2' ((w2.setCell ⟨u.heap.size + 1, 0, none⟩ (.int .i64 (f 0))).setCell ⟨u.heap.size + 1, 1, none⟩ (.slice g2 (n - 1) c2'))) := re_set W0 hzu Z0 hfz K2 (G2.os.trans b2.os) (G2.tape.trans b2.tape) (G2.output.trans b2.output) (by omega) V2 (Nat.le_refl _) (by omega) (by omega) (fun o e => by
      have hu : u.drew.heap.size = u.heap.size := rfl
      rcases L2 o e with h | h
      · omega
      · rw [World.size_alloc, World.size_alloc] at h; omega) n20 n21
    have E3 : Hid (RE w f n u.heap.size g3 c3' ((w3.setCell ⟨u.heap.size, 0, none⟩ (.int .i64 (f 0))).setCell ⟨u.heap.size, 1, none⟩ (.slice g3 (n - 1) c3'))) := re_set W0 hzu Z0 hfz K3 (G3.os.trans b3.os) (G3.tape.trans b3.tape) (G3.output.trans b3.output) (by omega) V3 (by omega) (by omega) (by omega) (fun o e => by
      have hu : u.drew.heap.size = u.heap.size := rfl
      rcases L3 o e with h | h
      · omega
      · rw [World.size_alloc, World.size_alloc] at h; omega) n30 n31
    obtain ⟨W1, eW1⟩ : ∃ W1, w1.alloc (.cells #[.int .i64 (f 0), .slice g1 (n - 1) c1'] 55) = W1 := ⟨_, rfl⟩
    obtain ⟨W2, eW2⟩ : ∃ W2, (w2.setCell ⟨u.heap.size + 1, 0, none⟩ (.int .i64 (f 0))).setCell ⟨u.heap.size + 1, 1, none⟩ (.slice g2 (n - 1) c2') = W2 := ⟨_, rfl⟩
    obtain ⟨W3, eW3⟩ : ∃ W3, (w3.setCell ⟨u.heap.size, 0, none⟩ (.int .i64 (f 0))).setCell ⟨u.heap.size, 1, none⟩ (.slice g3 (n - 1) c3') = W3 := ⟨_, rfl⟩
    rw [eW1] at E1
    rw [eW2] at E2
    rw [eW3] at E3
    have Q1 : Hid (_ = W1) := eW1
    have Q2 : Hid (_ = W2) := eW2
    have Q3 : Hid (_ = W3) := eW3
    clear eW1 eW2 eW3 b1 b2 b3 K1 K2 K3 V1 V2 V3 G1 G2 G3 L1 L2 L3 S1 S2 S3 RA
    go_region_law (first
      | (refine step_append_run (by rfl) (.tmp 13) (.tmp 15) 22 (by rfl) (.slice (some ⟨u.heap.size, 0, none⟩) 0 0) (.slice A (n - 1) (n - 1)) (.slice g1 (n - 1) c1') (by simp [Act.eval, Act.put]) (by simp [Act.eval, Act.put]) w1 hrun1 ?_)
      | (refine step_append_run (by rfl) (.tmp 13) (.tmp 15) 22 (by rfl) (.slice (some ⟨u.heap.size, 0, none⟩) 0 0) (.slice A (n - 1) (n - 1)) (.slice g2 (n - 1) c2') (by simp [Act.eval, Act.put]) (by simp [Act.eval, Act.put]) w2 hrun2 ?_)
      | (refine step_append_run (by rfl) (.tmp 13) (.tmp 15) 22 (by rfl) (.slice (some ⟨u.heap.size + 1, 0, none⟩) 0 0) (.slice A (n - 1) (n - 1)) (.slice g3 (n - 1) c3') (by simp [Act.eval, Act.put]) (by simp [Act.eval, Act.put]) w3 hrun3 ?_))
    all_goals first
      | (rw [Q1.out]; have HE := E1.out; generalize w1.heap.size = p4 at HE ⊢; generalize g1 = g at HE ⊢; generalize c1' = c at HE ⊢; generalize W1 = W at HE ⊢)
      | (rw [Q2.out]; have HE := E2.out; generalize u.heap.size + 1 = p4 at HE ⊢; generalize g2 = g at HE ⊢; generalize c2' = c at HE ⊢; generalize W2 = W at HE ⊢)
      | (rw [Q3.out]; have HE := E3.out; generalize u.heap.size = p4 at HE ⊢; generalize g3 = g at HE ⊢; generalize c3' = c at HE ⊢; generalize W3 = W at HE ⊢)
    all_goals
      clear E1 E2 E3 Q1 Q2 Q3 hrun1 hrun2 hrun3 d1 d2 d3 e1 n20 n21 n30 n31 m20 m21 m30 m31 hA HA hfz Z0 W0 c1 hne bu hzu
      obtain ⟨F1, Z1, fz1, V1, B1⟩ := HE
      obtain ⟨lf, f0, f1⟩ := id F1
      go_wp2_with fail
      refine (goodFilter_spec (f 0) g (n - 1) c _ (by omega)).mono ?_
      rintro e w5 ⟨b5, rfl, h5, q5⟩
      have Z5 := Z1.keep q5
      have F5 := F1.keep q5
      have V5 := V1.keep q5
      have B5 : Below w.heap.size w w5 := B1.trans (q5.mono B1.size)
      have g0 : w5.frozen? ⟨w.heap.size, 0, none⟩ = false := (q5.frozen (p := ⟨w.heap.size, 0, none⟩) Z1.lt).trans (fz1 0)
      have g1 : w5.frozen? ⟨w.heap.size, 1, none⟩ = false := (q5.frozen (p := ⟨w.heap.size, 1, none⟩) Z1.lt).trans (fz1 1)
      clear Z1 F1 V1 B1 fz1 q5 lf f0 f1
      obtain ⟨lz, z0, z1⟩ := id Z5
      obtain ⟨lf, f0, f1⟩ := id F5
      cases b5
      · have K : Hid (¬ IsFl n f) := fun h => by
          have := h5.2 h.2
          cases this
        clear h5
        go_wp2
        refine bodyPost_ret (v := .tuple #[.agg #[.int .i64 0, .slice none 0 0], .bool false]) (by simp [results, Tryz.results73, go_sem, z0, z1]) rfl ⟨fun h => absurd h K.out, fun _ => ro_zero ?_⟩
        repeat' refine Below.setCell ?_ (by first | (simp; done) | (simp; omega)) _
        exact B5
      · have HG : Hid (IsFl n f) := ⟨by omega, h5.1 rfl⟩
        clear h5
        go_wp2
        refine bodyPost_ret (v := .tuple #[.agg #[.int .i64 (f 0), .slice g (n - 1) c], .bool true]) (by simp [results, Tryz.results73, go_sem, z0, z1]) rfl ⟨fun _ => ?_, fun h => absurd HG.out h⟩
        refine ⟨g, c, by rw [ffl_len], ⟨V5.bd, Nat.le_refl _, ?_⟩, ?_⟩
        · rcases V5.is with h0 | ⟨q, off, e, h1, h2, ho⟩
          · exact .inl h0
          · refine .inr ⟨q, off, e, by omega, by simp; exact ho.lt, ?_⟩
            repeat' refine (Others.setCell _ _ _ _).row ?_ (by omega)
            exact ho
        · repeat' refine Below.setCell ?_ (by first | (simp; done) | (simp; omega)) _
          exact B5
end Go.Proofs.YtohjjigkfdhklaaGreat
