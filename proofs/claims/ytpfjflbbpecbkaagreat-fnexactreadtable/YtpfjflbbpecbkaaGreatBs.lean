/- A block's bytes, in the model. -/
import Derived.Test.YtpfjflbbpecbkaaGreatBp
import Derived.Deep.CutRange
import Derived.Deep.DeepCutAuto
import Derived.Deep.CutBlock
namespace Go.Proofs.YtpfjflbbpecbkaaGreat
set_option maxRecDepth 100000
open Go.RowKit
set_option linter.unusedSimpArgs false
set_option linter.unusedVariables false

theorem l4Bytes_good (c s lo hi : Int) (ao : Option Addr) (n cap : Nat) (f : Nat → Int) (fu : Bool) (w : World) (hr : IRow w ao n f) (hg : GoodA c s lo hi n f fu) :
    Calls Tryz.prog 79 #[.agg #[.int .i64 c, .int .i64 s, .int .i64 lo, .int .i64 hi, .slice ao n cap, .bool fu]] w fun e w' => ∃ v, e = .returned v ∧ OwnL w' w.heap.size v (bl fu (nm c s lo hi f) 12) ∧ Below w.heap.size w w' := by
  have h8 : n = 8 := hg.2.1
  subst h8
  have hN := hg.nums
  cases fu
  · exact l4Bytes_false c s lo hi ao cap f _ rfl w hr hN
  · exact l4Bytes_true c s lo hi ao cap f _ rfl w hr hN

set_option maxHeartbeats 8000000 in
theorem l7Block_any (b off m bc : Nat) (Y : Nat → Ent) (w : World) (hr : ERow w (some ⟨b, off, none⟩) m Y) (hG : ∀ i, i < m → GoodE (Y i)) (hm : m ≤ 100) :
    Calls Tryz.prog 54 #[.slice (some ⟨b, off, none⟩) m bc] w fun e w' => ∃ v, e = .returned v ∧ OwnL w' w.heap.size v (blk Y 0 m) ∧ Below w.heap.size w w' := by
  go_enter Tryz.func54, Tryz.ntmps54
  go_wp2
  go_loopw [3, 4, 11] (fun v s i wr => ∃ (k mm cp' : Nat) (a' : Option Addr), k ≤ m ∧ i = .int .i64 k ∧ s = .string (ahd Y 0 k) ∧ v = .slice a' mm cp' ∧ mm = (blk Y 0 k).length ∧ PC w.heap.size w (.slice none 0 0) wr (.slice a' (blk Y 0 k).length cp') (blk Y 0 k)) (fun _ _ i _ => m - (intOf i).toNat)
  case atStart => exact ⟨0, _, 0, none, Nat.zero_le _, rfl, rfl, rfl, rfl, pc_start (ownL_nil _ _) (Nat.le_refl _)⟩
  case round =>
    obtain ⟨k, mm, cp', a', hk, rfl, rfl, rfl, rfl, hP⟩ := hrel
    by_cases hlt : k < m
    · have hbw := hP.below (ownL_nil _ _) (Nat.le_refl _)
      have hrw := hr.keep hbw
      obtain ⟨b', off', e, hblt, hc⟩ := hrw.lies.resolve_left (by omega)
      injection e with e
      injection e with e1 e2 _
      subst e1 e2
      obtain ⟨da, dc, hE, hI⟩ := hc k hlt
      have hGk := hG k hlt
      have hKey : (Y k).key.size ≤ 140 := by have := hGk.1; unfold KeyOk at this; omega
      have hAhd : (ahd Y 0 k).size ≤ 140 := by
        cases k with
        | zero => simp [ahd]
        | succ k => have := (hG (0 + k) (by omega)).1; unfold KeyOk at this; simp only [ahd]; omega
      have hseq := hGk.2.1
      have hAg := hGk.agg
      have hkind : 1 ≤ (Y k).kind ∧ (Y k).kind ≤ 3 := by obtain ⟨_, _, h | h⟩ := hGk <;> omega
      have hlen : (blk Y 0 k).length ≤ 302 * k := blk_len Y 0 k fun i hi => by have := (hG (0 + i) (by omega)).1; unfold KeyOk at this; omega
      have haL := agL_len (Y k)
      have HB : Hid (blk Y 0 (k + 1) = blk Y 0 k ++ enE (ahd Y 0 k) (Y k)) := by unfold Hid; rw [blk, Nat.zero_add]
      have HA : Hid (ahd Y 0 (k + 1) = (Y k).key) := by unfold Hid; rw [ahd, Nat.zero_add]
      clear hG hc hrw hr
      generalize Y k = x at *
      generalize hah : ahd Y 0 k = ah at *
      generalize blk Y 0 k = M at *
      obtain ⟨_, ec0, ec1, ec2, ec3, ec4, ec5, ec6, ec7, ec8⟩ := hE
      obtain ⟨sh, hshd⟩ : ∃ sh, shK ah x = sh := ⟨_, rfl⟩
      have HE : Hid (enE ah x = pvL (sh : Nat) ++ pvL ((x.key.size - sh : Nat) : Int) ++ pvL x.seq ++ [x.kind] ++ pvL ((agL x).length : Nat) ++ (bytesOf x.key).drop sh ++ agL x) := by unfold Hid enE; rw [hshd]
      have hsh := shK_le ah x
      rw [hshd] at hsh
      have HSH : Hid (shr (bytesOf ah) (bytesOf x.key) = sh) := hshd
      clear hshd
      go_upto_block 2 with fail
      have E1 := EAt.new wr x da dc 50
      have hB1 := below_new wr (.cells #[.string x.key, .int .i64 x.seq, .int .i64 x.kind, .int .i64 x.c, .int .i64 x.s, .int .i64 x.lo, .int .i64 x.hi, .slice da x.n dc, .bool x.fu] 50)
      have I1 := hI.keep hB1
      have P1 := hP.keep hB1
      have neB : (Value.slice a' M.length cp').ownBlock ≠ some wr.heap.size := hP.own.neBlock (.inl (Nat.le_refl _))
      clear ec0 ec1 ec2 ec3 ec4 ec5 ec6 ec7 ec8 hP hI hB1
      generalize hB0 : wr.heap.size = B0 at *
      generalize wr.alloc (.cells #[.string x.key, .int .i64 x.seq, .int .i64 x.kind, .int .i64 x.c, .int .i64 x.s, .int .i64 x.lo, .int .i64 x.hi, .slice da x.n dc, .bool x.fu] 50) = w1 at *
      go_cut [7] from 15 to 37 (fun s7 wx => s7 = .int .i64 (sh : Nat) ∧ Below w1.heap.size w1 wx)
      case first =>
        go_wp2_with fail
        go_loopw [7] (fun i wi => ∃ j : Nat, j ≤ ah.size ∧ j ≤ x.key.size ∧ i = .int .i64 j ∧ Hid ((bytesOf ah).take j = (bytesOf x.key).take j) ∧ Below w1.heap.size w1 wi) (fun i _ => ah.size - (intOf i).toNat)
        case atStart => exact ⟨0, Nat.zero_le _, Nat.zero_le _, rfl, by simp [Hid], Below.refl _ _⟩
        case round =>
          obtain ⟨j, hja, hjb, rfl, HT, hbj⟩ := hrel
          have la := bytesOf_len ah
          have lb := bytesOf_len x.key
          have f0 := (E1.keep hbj).c0
          by_cases h1 : j < ah.size
          · by_cases h2 : j < x.key.size
            · have e1 := byte_fl h1
              have e2 := byte_fl h2
              have hs := shr_step HT.out (by omega) (by omega)
              by_cases he : fl (bytesOf ah) j = fl (bytesOf x.key) j
              · have HN : Hid ((bytesOf ah).take (j + 1) = (bytesOf x.key).take (j + 1)) := hs.1 he
                have hq : ((ah[j].toNat : Int) == (x.key[j].toNat : Int)) = true := by rw [e1, e2, he]; simp
                clear e1 e2 hs he
                go_wp2
                go_region
                go_wp2
                go_roundw
                case rel => exact ⟨j + 1, by omega, by omega, by go_num, HN, below_drewN hbj _⟩
                case measure => simp [intOf]; omega
              · have HN : Hid (j = sh) := by unfold Hid; rw [← HSH.out]; exact (hs.2 he).symm
                have hq : ((ah[j].toNat : Int) == (x.key[j].toNat : Int)) = false := by rw [e1, e2]; simpa using he
                clear e1 e2 hs he
                go_wp2
                go_region
                go_wp2
                go_meet
                case rel => exact ⟨by rw [← HN.out], below_drewN hbj _⟩
            · have HN : Hid (j = sh) := by unfold Hid; rw [← HSH.out]; exact (shr_end HT.out (by omega) (by omega)).symm
              go_wp2
              go_region
              go_wp2
              go_meet
              case rel => exact ⟨by rw [← HN.out], below_drewN hbj _⟩
          · have HN : Hid (j = sh) := by unfold Hid; rw [← HSH.out]; exact (shr_end HT.out (by omega) (by omega)).symm
            go_wp2
            go_region
            go_wp2
            go_meet
            case rel => exact ⟨by rw [← HN.out], below_drewN hbj _⟩
      case rest =>
        obtain ⟨rfl, q1⟩ := hcut
        generalize wc = w2 at *
        have E2 := E1.keep q1
        have I2 := I1.keep q1
        have P2 := P1.keep q1
        clear E1 I1 P1 q1
        obtain ⟨_, f0, f1, f2, f3, f4, f5, f6, f7, f8⟩ := E2.z
        go_upto_if 40 with fail
        go_cut [8] from 40 to 43 (fun s8 wx => ∃ ga ca, s8 = .slice ga (agL x).length ca ∧ Lie wx ga ca (agL x) ∧ (∀ b off, ga = some ⟨b, off, none⟩ → w2.heap.size ≤ b ∧ b < wx.heap.size) ∧ Below w2.heap.size w2 wx)
        case first =>
          rcases hAg with ⟨hk2, hgA⟩ | ⟨hk2, _⟩
          · have hkd : (x.kind != 2) = true := by simpa using hk2
            have eag : bl x.fu (nm x.c x.s x.lo x.hi x.f) 12 = agL x := by unfold agL; rw [if_neg hk2]
            have hcall := l4Bytes_good x.c x.s x.lo x.hi da x.n dc x.f x.fu w2 I2 hgA
            rw [eag] at hcall
            clear hk2 eag
            go_wp2_with fail
            refine hcall.mono ?_
            rintro e w3 ⟨v3, rfl, o3, q3⟩
            obtain ⟨ga, ca, rfl, hl, hbl⟩ := o3.lie
            go_wp2_with fail
            go_meet
            case rel =>
              refine ⟨ga, ca, rfl, hl, fun b off e => ⟨hbl b off e, ?_⟩, q3⟩
              rcases hl with ⟨e', _⟩ | ⟨b', off', e', hA⟩
              · rw [e'] at e; cases e
              · rw [e'] at e; injection e with e; injection e with e1 e2; subst e1; exact hA.lt
          · have hkd : (x.kind != 2) = false := by simpa using hk2
            have eag : Hid (agL x = []) := by unfold Hid agL; rw [if_pos hk2]
            clear hk2
            go_wp2_with fail
            go_meet
            case rel => exact ⟨none, 0, by rw [eag.out]; rfl, .inl ⟨rfl, rfl, eag.out⟩, (fun b off e => by cases e), Below.refl _ _⟩
        case rest =>
          obtain ⟨ga, ca, rfl, hLie, hga, q3⟩ := hcut
          generalize wc = w3 at *
          have E3 := E2.keep q3
          have P3 := P2.keep q3
          have O3 : Off w3 (.slice a' M.length cp') (fun b => b = B0 ∨ ∃ off, ga = some ⟨b, off, none⟩) := fun b hS => by
            rcases hS with rfl | ⟨off, e⟩
            · exact ⟨E3.lt, neB⟩
            · exact ⟨(hga b off e).2, P2.own.neBlock (.inl (hga b off e).1)⟩
          obtain ⟨_, g0, g1, g2, g3, g4, g5, g6, g7, g8⟩ := E3.z
          have hsubI : ((x.key.size : Int) - (sh : Int)) = ((x.key.size - sh : Nat) : Int) := by omega
          have hwk : IntKind.i64.wrap ((x.key.size : Int) - (sh : Int)) = ((x.key.size - sh : Nat) : Int) := by rw [hsubI, IntKind.wrap_i64]; omega
          have hwkd : IntKind.u8.wrap x.kind = x.kind := by rw [IntKind.wrap_u8]; omega
          have hex : (x.key.extract sh x.key.size).size = x.key.size - sh := by rw [ByteArray.size_extract, Nat.min_self]
          have hle : (sh : Int) ≤ (x.key.size : Int) := by omega
          clear f0 f1 f2 f3 f4 f5 f6 f7 f8 hga P2 E2 I2 hsubI neB q3
          have Z3 := hLie
          go_wp2_with fail
          refine (putVar_spec ((sh : Nat) : Int) _ (by omega)).mono ?_
          intro e u4 hp4
          obtain ⟨g, c, rfl, hg, A, bq⟩ := pvl_of hp4
          clear hp4
          have Pq := P3.keep bq
          have Oq := O3.keep bq
          have Eq := E3.keep bq
          have Zq := Z3.keep bq
          have hpl := pvL_le ((sh : Nat) : Int)
          obtain ⟨_, r0, r1, r2, r3, r4, r5, r6, r7, r8⟩ := Eq.z
          go_wp2_with (first | (at_builtin; refine wpList_app rfl (.tmp 44) (.tmp 47) rfl w.heap.size _ M rfl Pq.own g 0 _ c (pvL ((sh : Nat) : Int)) rfl rfl A (by omega) Pq.bs ?_; intro v4 w8 o4 gr4 ha4; obtain ⟨M4, HM4⟩ : ∃ M4, Hid (M ++ pvL ((sh : Nat) : Int) = M4) := ⟨_, rfl⟩; have hl4 : M4.length ≤ 40000 := (by rw [← HM4.out, List.length_append]; omega); rw [HM4.out] at o4; have P4 := Pq.put o4 gr4 (nb_of ha4); have O4 := Oq.put (nb_of ha4) gr4; have E4 := Eq.grown gr4 (Oq _ (.inl rfl)).2; have Z4 := Zq.grown gr4 (fun b off e => (Oq b (.inr ⟨off, e⟩)).2); obtain ⟨a4, c4, rfl⟩ := o4.form; obtain ⟨_, s04, s14, s24, s34, s44, s54, s64, s74, s84⟩ := E4.z))
          clear r0 r1 r2 r3 r4 r5 r6 r7 r8 Pq Oq Eq Zq
          refine (putVar_spec ((x.key.size - sh : Nat) : Int) _ (by omega)).mono ?_
          intro e u5 hp5
          obtain ⟨g, c, rfl, hg, A, bq⟩ := pvl_of hp5
          clear hp5
          have Pq := P4.keep bq
          have Oq := O4.keep bq
          have Eq := E4.keep bq
          have Zq := Z4.keep bq
          have hpl := pvL_le ((x.key.size - sh : Nat) : Int)
          obtain ⟨_, r0, r1, r2, r3, r4, r5, r6, r7, r8⟩ := Eq.z
          go_wp2_with (first | (at_builtin; refine wpList_app rfl (.tmp 49) (.tmp 56) rfl w.heap.size _ M4 rfl Pq.own g 0 _ c (pvL ((x.key.size - sh : Nat) : Int)) rfl rfl A (by omega) Pq.bs ?_; intro v5 w9 o5 gr5 ha5; obtain ⟨M5, HM5⟩ : ∃ M5, Hid (M4 ++ pvL ((x.key.size - sh : Nat) : Int) = M5) := ⟨_, rfl⟩; have hl5 : M5.length ≤ 40010 := (by rw [← HM5.out, List.length_append]; omega); rw [HM5.out] at o5; have P5 := Pq.put o5 gr5 (nb_of ha5); have O5 := Oq.put (nb_of ha5) gr5; have E5 := Eq.grown gr5 (Oq _ (.inl rfl)).2; have Z5 := Zq.grown gr5 (fun b off e => (Oq b (.inr ⟨off, e⟩)).2); obtain ⟨a5, c5, rfl⟩ := o5.form; obtain ⟨_, s05, s15, s25, s35, s45, s55, s65, s75, s85⟩ := E5.z))
          clear r0 r1 r2 r3 r4 r5 r6 r7 r8 Pq Oq Eq Zq
          refine (putVar_spec (x.seq) _ (by omega)).mono ?_
          intro e u6 hp6
          obtain ⟨g, c, rfl, hg, A, bq⟩ := pvl_of hp6
          clear hp6
          have Pq := P5.keep bq
          have Oq := O5.keep bq
          have Eq := E5.keep bq
          have Zq := Z5.keep bq
          have hpl := pvL_le (x.seq)
          obtain ⟨_, r0, r1, r2, r3, r4, r5, r6, r7, r8⟩ := Eq.z
          go_wp2_with (first | (at_builtin; refine wpList_app rfl (.tmp 58) (.tmp 62) rfl w.heap.size _ M5 rfl Pq.own g 0 _ c (pvL (x.seq)) rfl rfl A (by omega) Pq.bs ?_; intro v6 w10 o6 gr6 ha6; obtain ⟨M6, HM6⟩ : ∃ M6, Hid (M5 ++ pvL (x.seq) = M6) := ⟨_, rfl⟩; have hl6 : M6.length ≤ 40020 := (by rw [← HM6.out, List.length_append]; omega); rw [HM6.out] at o6; have P6 := Pq.put o6 gr6 (nb_of ha6); have O6 := Oq.put (nb_of ha6) gr6; have E6 := Eq.grown gr6 (Oq _ (.inl rfl)).2; have Z6 := Zq.grown gr6 (fun b off e => (Oq b (.inr ⟨off, e⟩)).2); obtain ⟨a6, c6, rfl⟩ := o6.form; obtain ⟨_, s06, s16, s26, s36, s46, s56, s66, s76, s86⟩ := E6.z) | (at_builtin; refine wpList_app rfl (.tmp 64) (.tmp 68) rfl w.heap.size _ M6 rfl (P6.keep (below_new _ _)).own w10.heap.size 0 1 1 [x.kind] rfl rfl (byte_new w10 x.kind (by omega) _) (by simp only [List.length_cons, List.length_nil]; omega) (P6.keep (below_new _ _)).bs ?_; intro v7 w11 o7 gr7 ha7; obtain ⟨M7, HM7⟩ : ∃ M7, Hid (M6 ++ [x.kind] = M7) := ⟨_, rfl⟩; have hl7 : M7.length ≤ 40031 := (by rw [← HM7.out, List.length_append, List.length_singleton]; omega); rw [HM7.out] at o7; have P7 := (P6.keep (below_new _ _)).put o7 gr7 (nb_of ha7); have O7 := (O6.keep (below_new _ _)).put (nb_of ha7) gr7; have E7 := (E6.keep (below_new _ _)).grown gr7 (O6 _ (.inl rfl)).2; have Z7 := (Z6.keep (below_new _ _)).grown gr7 (fun b off e => (O6 b (.inr ⟨off, e⟩)).2); obtain ⟨a7, c7, rfl⟩ := o7.form; obtain ⟨_, s07, s17, s27, s37, s47, s57, s67, s77, s87⟩ := E7.z))
          clear r0 r1 r2 r3 r4 r5 r6 r7 r8 Pq Oq Eq Zq
          refine (putVar_spec (((agL x).length : Nat) : Int) _ (by omega)).mono ?_
          intro e u8 hp8
          obtain ⟨g, c, rfl, hg, A, bq⟩ := pvl_of hp8
          clear hp8
          have Pq := P7.keep bq
          have Oq := O7.keep bq
          have Eq := E7.keep bq
          have Zq := Z7.keep bq
          have hpl := pvL_le (((agL x).length : Nat) : Int)
          obtain ⟨_, r0, r1, r2, r3, r4, r5, r6, r7, r8⟩ := Eq.z
          go_wp2_with (first | (at_builtin; refine wpList_app rfl (.tmp 70) (.tmp 74) rfl w.heap.size _ M7 rfl Pq.own g 0 _ c (pvL (((agL x).length : Nat) : Int)) rfl rfl A (by omega) Pq.bs ?_; intro v8 w12 o8 gr8 ha8; obtain ⟨M8, HM8⟩ : ∃ M8, Hid (M7 ++ pvL (((agL x).length : Nat) : Int) = M8) := ⟨_, rfl⟩; have hl8 : M8.length ≤ 40041 := (by rw [← HM8.out, List.length_append]; omega); rw [HM8.out] at o8; have P8 := Pq.put o8 gr8 (nb_of ha8); have O8 := Oq.put (nb_of ha8) gr8; have E8 := Eq.grown gr8 (Oq _ (.inl rfl)).2; have Z8 := Zq.grown gr8 (fun b off e => (Oq b (.inr ⟨off, e⟩)).2); obtain ⟨a8, c8, rfl⟩ := o8.form; obtain ⟨_, s08, s18, s28, s38, s48, s58, s68, s78, s88⟩ := E8.z) | (at_builtin; refine wpList_appT rfl (.tmp 76) (.tmp 80) rfl w.heap.size _ M8 rfl P8.own (x.key.extract sh x.key.size) rfl (by rw [hex]; omega) P8.bs ?_; intro v9 w13 o9 gr9 ha9; obtain ⟨M9, HM9⟩ : ∃ M9, Hid (M8 ++ bytesOf (x.key.extract sh x.key.size) = M9) := ⟨_, rfl⟩; have hl9 : M9.length ≤ 40181 := (by rw [← HM9.out, List.length_append, bytesOf_len, hex]; omega); rw [HM9.out] at o9; have P9 := P8.put o9 gr9 (nb_of ha9); have O9 := O8.put (nb_of ha9) gr9; have E9 := E8.grown gr9 (O8 _ (.inl rfl)).2; have Z9 := Z8.grown gr9 (fun b off e => (O8 b (.inr ⟨off, e⟩)).2); obtain ⟨a9, c9, rfl⟩ := o9.form) | (at_builtin; refine wpList_appL rfl (.tmp 82) (.tmp 83) rfl w.heap.size _ M9 rfl P9.own ga (agL x).length ca (agL x) rfl rfl Z9 (by omega) P9.bs ?_; intro v10 w14 o10 gr10 ha10; obtain ⟨M10, HM10⟩ : ∃ M10, Hid (M9 ++ agL x = M10) := ⟨_, rfl⟩; rw [HM10.out] at o10; have P10 := P9.put o10 gr10 (nb_of ha10); have E10 := E9.grown gr10 (O9 _ (.inl rfl)).2; obtain ⟨a10, c10, rfl⟩ := o10.form; obtain ⟨_, s010, s110, s210, s310, s410, s510, s610, s710, s810⟩ := E10.z))
          clear r0 r1 r2 r3 r4 r5 r6 r7 r8 Pq Oq Eq Zq
          have HF : Hid (blk Y 0 (k + 1) = M10) := by
            unfold Hid
            rw [HB.out, HE.out, ← HM10.out, ← HM9.out, ← HM8.out, ← HM7.out, ← HM6.out, ← HM5.out, ← HM4.out, bytesOf_extract _ _ hsh.2]
            simp only [List.append_assoc]
          go_roundw
          case rel => exact ⟨k + 1, _, c10, a10, by omega, by go_num, by rw [HA.out], rfl, by rw [HF.out], by rw [HF.out]; exact P10⟩
          case measure => simp [intOf]; omega
    · obtain rfl : k = m := by omega
      go_wp2
      go_ret
      exact ⟨_, rfl, hP.own, hP.below (ownL_nil _ _) (Nat.le_refl _)⟩
end Go.Proofs.YtpfjflbbpecbkaaGreat
