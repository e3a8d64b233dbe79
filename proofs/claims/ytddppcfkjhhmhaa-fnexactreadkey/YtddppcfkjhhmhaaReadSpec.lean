/- ReadKey, the model's text. -/
import Derived.Test.YtddppcfkjhhmhaaReadSpecA
import Derived.Deep.RegionLaw
namespace Go.Proofs.Ytddppcfkjhhmhaa
open Go.RowKit
set_option linter.unusedSimpArgs false
set_option linter.unusedVariables false

theorem zbox_grown {w w' : World} {b base n : Nat} {v : Value} {xs : List Value} (h : ZBox w b) (ho : w.ownsRow base 69 2 v n xs) (hg : w.grownBy w' v.ownBlock) (hb : b < base) : ZBox w' b :=
  have := KBox.grown ⟨h.lt, h.c0, h.c1, h.c2, h.fz⟩ ho hg hb
  ⟨this.lt, this.c0, this.c1, this.c2, this.fz⟩

theorem zbox_others {w w' : World} {b c : Nat} (h : ZBox w b) (ho : Others c w w') (hne : b ≠ c) : ZBox w' b :=
  have := KBox.others ⟨h.lt, h.c0, h.c1, h.c2, h.fz⟩ ho hne
  ⟨this.lt, this.c0, this.c1, this.c2, this.fz⟩
theorem key_found' {f : Nat → Int} {N j q k : Nat} {nm vl : Nat → ByteArray} {m : ByteArray} {s : Int} (hbd : ∀ i, 0 ≤ f i ∧ f i ≤ 255) (hf : Find f N 0 0 j) (hj : j < N) (h : TInv f N (j + 1) q k nm vl) (h1 : f q = 1) (hq : q + 9 = N) (hm : str f 0 j = m) (hs : wrap64 (num f (q + 1) 8) = s) (hg : goodB m k nm vl s = true) : IsKey f N m k nm vl s := by
  have e : num f (q + 1) 8 = s := by
    have h1 := num_bd8 f hbd (q + 1) 8 (by omega)
    have h2 := (goodB_sizes hg).2.2.2
    rw [← hs] at h2 ⊢
    revert h1 h2
    generalize num f (q + 1) 8 = x
    unfold wrap64
    omega
  subst hm
  rw [← e] at hg ⊢
  exact key_found hbd hf hj h h1 hq hg
theorem key_not {f : Nat → Int} {N j q k : Nat} {nm vl : Nat → ByteArray} {m : ByteArray} {s : Int} (hf : Find f N 0 0 j) (h : TInv f N (j + 1) q k nm vl) (h1 : f q = 1) (hm : str f 0 j = m) (hs : wrap64 (num f (q + 1) 8) = s) (hg : goodB m k nm vl s = false) : ∀ m n nm' vl' st, ¬ IsKey f N m n nm' vl' st := fun m' n nm' vl' st hk => by
  obtain ⟨_, _, _, e2, _, e4⟩ := at_end hf h h1 hk
  have hst := (goodB_sizes hk.good).2.2.2
  have e : s = st := by rw [← hs, e2]; unfold wrap64; omega
  rw [hm, ← e, hg] at e4
  exact absurd e4 (by simp)

set_option maxHeartbeats 4000000 in
theorem readKey_spec (b off N cap : Nat) (f : Nat → Int) (w : World) (hbd : ∀ i, 0 ≤ f i ∧ f i ≤ 255) (hlt0 : b < w.heap.size) (hc : ∀ i, i < N → w.cell? ⟨b, off + i, none⟩ = some (.int .u8 (f i))) (hN : N ≤ 1048576) (hcap : N ≤ cap) :
    Calls Try.prog 34 #[.slice (some ⟨b, off, none⟩) N cap] w fun e w' => ReadOut f N w e w' := by
  obtain ⟨i0, hi, hz0, hz1, hz2⟩ := info_parts Try.info69
  have hB : Below w.heap.size w (w.alloc (.cells #[.string ⟨#[]⟩, .slice none 0 0, .int .i64 0] 48)) := (Below.refl _ _).alloc (Nat.le_refl _) _
  have Z0 := ZBox.new w 48
  have HCR : ∀ {wr : World}, Below w.heap.size w wr → ∀ i, i < N → wr.cell? ⟨b, off + i, none⟩ = some (.int .u8 (f i)) := fun hb i h => (hb.cell (p := ⟨b, off + i, none⟩) hlt0).trans (hc i h)
  have hcz := HCR hB
  go_enter Try.func34, Try.ntmps34
  go_wp2_with fail
  refine (l1Find_any b off N cap f 0 0 _ hbd hcz hN (by omega)).mono ?_
  rintro e w1 ⟨j0, rfl, hf0, rfl⟩
  have HF : Hid (Find f N 0 0 j0) := hf0
  have hj0 := hf0.le
  have hcv := cv_all hcz j0 cap hj0
  have hsm : (str f 0 j0).size ≤ 1048576 := by rw [str_size]; omega
  generalize hm : str f 0 j0 = m at hcv hsm
  have HM : Hid (str f 0 j0 = m) := hm
  have K0 := KBox.new (w.alloc (.cells #[.string ⟨#[]⟩, .slice none 0 0, .int .i64 0] 48)) m (.slice none 0 0) 0 48
  have hB1 : Below (w.alloc (.cells #[.string ⟨#[]⟩, .slice none 0 0, .int .i64 0] 48)).heap.size (w.alloc (.cells #[.string ⟨#[]⟩, .slice none 0 0, .int .i64 0] 48)) ((w.alloc (.cells #[.string ⟨#[]⟩, .slice none 0 0, .int .i64 0] 48)).alloc (.cells #[.string m, .slice none 0 0, .int .i64 0] 48)) := (Below.refl _ _).alloc (Nat.le_refl _) _
  have Z1 := Z0.keep hB1
  have bw1 : Below w.heap.size w _ := hB.trans (hB1.mono (by simp))
  clear hf0 hm hB hB1 Z0
  have hj0c : j0 ≤ cap := by omega
  by_cases hj : j0 < N
  · go_wp2
    go_loopw [4] (fun p wr => ∃ (q k cp : Nat) (ao : Option Addr) (nm vl : Nat → ByteArray), p = .int .i64 q ∧ k ≤ 4 ∧ Hid (TInv f N (j0 + 1) q k nm vl) ∧ wr.ownsRow (w.heap.size + 2) 69 2 (.slice ao k cp) k (tcells nm vl k) ∧ KBox wr (w.heap.size + 1) m (.slice ao k cp) 0 ∧ ZBox wr w.heap.size ∧ Below w.heap.size w wr) (fun p _ => N - (intOf p).toNat)
    case atStart => exact ⟨j0 + 1, 0, 0, none, fun _ => ByteArray.empty, fun _ => ByteArray.empty, rfl, by omega, TInv.start f N (j0 + 1) _ _ hj, World.ownsRow_nil _ _ _ _, by simpa using K0, Z1, bw1⟩
    case round =>
      clear K0 Z1 bw1 hcv hcz
      obtain ⟨q, k, cp, ao, nm, vl, rfl, hk4, HT, hown, hK, hZ, hbk⟩ := hrel
      have hqN := HT.out.le
      have hcr := HCR hbk
      obtain ⟨lz, z0, z1, z2, zf⟩ := id hZ
      by_cases hlt : q < N
      · have hlt2 : (q : Int) < (N : Int) := by omega
        have hcq := hcr q hlt
        by_cases h2 : f q = 2
        · have h2' : (f q == 2) = true := by simp [h2]
          have H2 : Hid (f q = 2) := h2
          clear h2
          go_wp2_with fail
          refine (l1Find_any b off N cap f q 1 _ hbd hcr hN (by omega)).mono ?_
          rintro e w1 ⟨j, rfl, hf, rfl⟩
          have HF1 : Hid (Find f N (q + 1) 1 j) := find_skip hf hlt (by have := H2.out; omega)
          have hjle := hf.le
          have hjge := HF1.out.ge
          clear hf
          go_wp2_with fail
          refine (l1Find_any b off N cap f j 0 _ hbd hcr hN hjle).mono ?_
          rintro e w1 ⟨j2, rfl, hf, rfl⟩
          by_cases hj2 : j2 = N
          · have HN : Hid (∀ m n nm' vl' st, ¬ IsKey f N m n nm' vl' st) := by
              refine no_tags HF.out ?_
              by_cases hjN : j < N
              · exact HT.out.none2 H2.out HF1.out (find_skip hf hjN (by have := HF1.out.hit hjN; omega)) (by omega)
              · exact HT.out.none1 H2.out HF1.out hjN
            clear hf HCR hcr
            have hd : ((j2 : Int) == (N : Int)) = true := by simp; omega
            go_wp2
            refine bodyPost_ret (v := .tuple #[.agg #[.string ⟨#[]⟩, .slice none 0 0, .int .i64 0], .bool false]) (by simp [results, Try.results34, go_sem, z0, z1, z2]) rfl (.inr ⟨rfl, HN.out, ?_⟩)
            exact ((hbk.setCell (Nat.le_refl _) _).setCell (Nat.le_refl _) _).setCell (Nat.le_refl _) _
          · have hd : ((j2 : Int) == (N : Int)) = false := by simp; omega
            have hj2le := hf.le
            have hjN : j < N := by
              rcases Nat.lt_or_ge j N with g | g
              · exact g
              · have e : j = N := by omega
                subst e
                exact absurd (find_end hf) hj2
            have HF2 : Hid (Find f N (j + 1) 0 j2) := find_skip hf hjN (by have := HF1.out.hit hjN; omega)
            have hj2ge := HF2.out.ge
            have hj2N : j2 < N := by omega
            have HT2 : Hid (TInv f N (j0 + 1) (j2 + 1) (k + 1) (push nm k (str f (q + 1) j)) (push vl k (str f (j + 1) j2))) := HT.out.more hbd hlt H2.out HF1.out hjN HF2.out hj2N
            have HC : Hid (tcells nm vl k ++ [.string (str f (q + 1) j), .string (str f (j + 1) j2)] = tcells (push nm k (str f (q + 1) j)) (push vl k (str f (j + 1) j2)) (k + 1)) := by
              unfold Hid
              simp only [tcells]
              rw [tcells_congr (nm := nm) (vl := vl) (nm' := push nm k (str f (q + 1) j)) (vl' := push vl k (str f (j + 1) j2)) (fun i hi => by simp [push, show ¬ i = k by omega])]
              simp [push]
            have hcvS : ∀ {w' : World}, Below w.heap.size w w' → (convert 23 9 (.slice (some ⟨b, off + (q + 1), none⟩) (j - (q + 1)) (cap - (q + 1)))).run Try.prog w' = .ok (.string (str f (q + 1) j)) w' ∧ (convert 23 9 (.slice (some ⟨b, off + (j + 1), none⟩) (j2 - (j + 1)) (cap - (j + 1)))).run Try.prog w' = .ok (.string (str f (j + 1) j2)) w' :=
              fun hb => ⟨cv_str (HCR hb) (q + 1) j (cap - (q + 1)) hjle (by omega), cv_str (HCR hb) (j + 1) j2 (cap - (j + 1)) hj2le (by omega)⟩
            generalize str f (q + 1) j = s1 at hcvS HT2 HC
            generalize str f (j + 1) j2 = s2 at hcvS HT2 HC
            obtain ⟨lk, k0, k1, k2, kf⟩ := id hK
            clear hf hcr hcq
            have hb1 : (q : Int) + 1 ≤ (j : Int) := by omega
            have hb2 : (j : Int) + 1 ≤ (j2 : Int) := by omega
            have hb3 : j ≤ cap := by omega
            have hb4 : j2 ≤ cap := by omega
            have wr1 : IntKind.i64.wrap ((q : Int) + 1) = (q : Int) + 1 := by rw [IntKind.wrap_i64]; omega
            have wr2 : IntKind.i64.wrap ((j : Int) + 1) = (j : Int) + 1 := by rw [IntKind.wrap_i64]; omega
            have sl1 := slice_lh b off N cap q j (by omega) (by omega) (by omega)
            have sl1' := slice_lh' b off N cap q j (by omega) (by omega) (by omega)
            have sl2 := slice_lh b off N cap j j2 (by omega) (by omega) (by omega)
            have sl2' := slice_lh' b off N cap j j2 (by omega) (by omega) (by omega)
            go_wp2
            have ownd : (w1.drew).ownsRow (w.heap.size + 2) 69 2 (.slice ao k cp) k (tcells nm vl k) := hown
            have Kd : KBox w1.drew (w.heap.size + 1) m (.slice ao k cp) 0 := hK.keep (Below.refl _ _).drew
            have Zd : ZBox w1.drew w.heap.size := hZ.keep (Below.refl _ _).drew
            have hszk : w.heap.size + 1 < w1.heap.size := lk
            have kd1 := Kd.c1
            have ka1 := (Kd.keep ((Below.refl _ _).alloc (Nat.le_refl _) (.cells #[.string s1, .string s2] 69))).c1
            obtain ⟨cv1, cv2⟩ := hcvS hbk.drew
            go_region_law ((refine step_append_lies _ (by rfl) (.tmp 40) (.tmp 54) 46 (by rfl) (w.heap.size + 2) 69 i0 (.agg #[.string ByteArray.empty, .string ByteArray.empty]) 2 32 Try.underlying46 hi hz0 hz1 hz2 rfl (by decide) (.slice ao k cp) k (tcells nm vl k) (by simp [Act.eval, Act.put]) (ownd.alloc _) ⟨w1.heap.size, 0, none⟩ 1 1 [.string s1, .string s2] (by simp [Act.eval, Act.put]) rfl (two_lie w1.drew _ _ _) (by simp [Value.oneCell']) (by omega) (by unfold maxLen; omega) (by omega) (by simp; omega) (w1.heap.size + 1) (by simp) ?_; intro g cp' w2 hown2 hgrow hat hlg; have K2 := (Kd.keep ((Below.refl _ _).alloc (Nat.le_refl _) _)).grown (ownd.alloc _) hgrow (by omega); have Z2 := zbox_grown (Zd.keep ((Below.refl _ _).alloc (Nat.le_refl _) _)) (ownd.alloc _) hgrow (by omega); have bw2 := below_append2 ((hbk.drew).alloc hbk.size _) (ownd.alloc _) hgrow (by omega) (by have := hbk.size; simp; omega); have k21 := K2.c1; have kf2 := K2.fz))
            all_goals
              have K3 := K2.set1 (.slice (some ⟨g, 0, none⟩) (k + 1) cp')
              have Z3 := zbox_others Z2 (Others.setCell w2 (w.heap.size + 1) 1 (.slice (some ⟨g, 0, none⟩) (k + 1) cp')) (by omega)
              have own3 := ownsRow_others hown2 (Others.setCell w2 (w.heap.size + 1) 1 (.slice (some ⟨g, 0, none⟩) (k + 1) cp')) (by omega)
              have bw3 := bw2.setCell (p := ⟨w.heap.size + 1, 1, none⟩) (Nat.le_succ _) (.slice (some ⟨g, 0, none⟩) (k + 1) cp')
              rw [HC.out] at own3
              clear K2 Z2 hown2 bw2 hgrow hat hlg k21 kf2 ka1 kd1 Kd Zd ownd hK hown hZ hbk k0 k1 k2 kf lk z0 z1 z2 zf lz cv1 cv2 sl1 sl1' sl2 sl2' HCR hcvS
              obtain ⟨lk, k0, k1, k2, kf⟩ := id K3
              obtain ⟨lz, z0, z1, z2, zf⟩ := id Z3
              by_cases h5 : k + 1 ≤ 4
              · have hd5 : decide ((4 : Int) < (k : Int) + 1) = false := by simp; omega
                go_wp2
                go_roundw
                case rel => exact ⟨j2 + 1, k + 1, cp', _, _, _, by go_num, h5, HT2, own3, K3, Z3, bw3⟩
                case measure => simp [intOf]; omega
              · have hd5 : decide ((4 : Int) < (k : Int) + 1) = true := by simp; omega
                have HN : Hid (∀ m n nm' vl' st, ¬ IsKey f N m n nm' vl' st) := HT2.out.few HF.out (by omega)
                go_wp2
                refine bodyPost_ret (v := .tuple #[.agg #[.string ⟨#[]⟩, .slice none 0 0, .int .i64 0], .bool false]) (by simp [results, Try.results34, go_sem, z0, z1, z2]) rfl (.inr ⟨rfl, HN.out, ?_⟩)
                exact ((bw3.setCell (Nat.le_refl _) _).setCell (Nat.le_refl _) _).setCell (Nat.le_refl _) _
        · have h2' : (f q == 2) = false := by simp [h2]
          have H2 : Hid (¬ (q < N ∧ f q = 2)) := fun h => h2 h.2
          clear h2
          by_cases h9 : q + 9 = N
          · have hd9 : ((N : Int) - (q : Int) != 9) = false := by simp; omega
            by_cases h1 : f q = 1
            · have h1' : (f q != 1) = false := by simp [h1]
              have H1 : Hid (f q = 1) := h1
              have e8 : N - (q + 1) = 8 := by omega
              have hcn : ¬ cap = q + 1 := by omega
              have hkq := HT.out.many
              have hsz := HT.out.sizes hN
              have sv0 := sv_of hown
              clear h1 hown
              obtain ⟨lk, k0, k1, k2, kf⟩ := id hK
              go_wp2_with fail
              refine (l1Number_any b (off + (q + 1)) 8 _ f (q + 1) _ hbd (by have := hbk.size; omega) (fun i hi => by rw [Nat.add_assoc]; exact hcr _ (by omega)) (by omega)).mono ?_
              rintro e w3 ⟨rfl, hb3⟩
              generalize hs : wrap64 (num f (q + 1) 8) = s
              have HS : Hid (wrap64 (num f (q + 1) 8) = s) := hs
              have K4 := (hK.keep hb3).set2 s
              have Z4 := zbox_others (hZ.keep hb3) (Others.setCell w3 (w.heap.size + 1) 2 (.int .i64 s)) (by omega)
              have bw4 := (hbk.trans (hb3.mono hbk.size)).setCell (p := ⟨w.heap.size + 1, 2, none⟩) (Nat.le_succ _) (.int .i64 s)
              have sv4 := (sv0.keep hb3).others (Others.setCell w3 (w.heap.size + 1) 2 (.int .i64 s)) (by omega)
              have K3 := hK.keep hb3
              clear hs sv0 hZ z0 z1 z2 zf lz hK k0 k1 k2 kf lk hcq hcr hbk hb3
              obtain ⟨lk, k0, k1, k2, kf⟩ := K3
              generalize hgd : goodB m k nm vl s = G
              have HG : Hid (goodB m k nm vl s = G) := hgd
              clear hgd
              cases G
              · have HN : Hid (∀ m n nm' vl' st, ¬ IsKey f N m n nm' vl' st) := key_not HF.out HT.out H1.out HM.out HS.out HG.out
                go_wp2
                generalize w3.setCell ⟨w.heap.size + 1, 2, none⟩ (.int .i64 s) = w4 at K4 Z4 bw4 sv4 ⊢
                obtain ⟨lk4, c0, c1, c2, kf4⟩ := id K4
                first
                | go_region_with (first | (go_at_call 27; refine (goodKey_spec m s ao k cp nm vl _ (sv4.keep (Below.refl _ _).drew).row hsm (by omega) hsz).mono ?_; rintro e w5 ⟨rfl, hb5⟩; rw [HG.out]; have hb5' := (Below.refl _ w4).drew.trans hb5; obtain ⟨lk5, d0, d1, d2, kf5⟩ := K4.keep hb5'; have sv5 := sv4.keep hb5'; have Z5 := Z4.keep hb5'; have bw5 : Below w.heap.size w w5 := bw4.trans (hb5'.mono bw4.size); have cv5 := cv_all (HCR bw5) N cap (Nat.le_refl _); clear hb5 hb5'))
                | fail
                all_goals
                  obtain ⟨lz, z0, z1, z2, zf⟩ := Z5
                  simp only [Act.put, List.getElem_toArray, List.getElem_cons_succ, List.getElem_cons_zero, List.setIfInBounds_toArray, List.set_cons_zero, List.set_cons_succ]
                  go_wp2
                  refine bodyPost_ret (v := .tuple #[.agg #[.string ⟨#[]⟩, .slice none 0 0, .int .i64 0], .bool false]) (by simp [results, Try.results34, go_sem, z0, z1, z2]) rfl (.inr ⟨rfl, HN.out, ?_⟩)
                  exact ((bw5.setCell (Nat.le_refl _) _).setCell (Nat.le_refl _) _).setCell (Nat.le_refl _) _
              · have HK : Hid (IsKey f N m k nm vl s) := key_found' hbd HF.out hj HT.out H1.out h9 HM.out HS.out HG.out
                obtain ⟨hm12, _, hs12, hst⟩ := goodB_sizes HG.out
                go_wp2
                generalize w3.setCell ⟨w.heap.size + 1, 2, none⟩ (.int .i64 s) = w4 at K4 Z4 bw4 sv4 ⊢
                have cv4 := cv_all (HCR bw4) N cap (Nat.le_refl _)
                have cv4d := cv_all (HCR bw4.drew) N cap (Nat.le_refl _)
                obtain ⟨lk4, c0, c1, c2, kf4⟩ := id K4
                go_region_held3 (fun w' => w'.cell? ⟨w.heap.size + 1, 0, none⟩ = some (.string m) ∧ w'.cell? ⟨w.heap.size + 1, 1, none⟩ = some (.slice ao k cp) ∧ w'.cell? ⟨w.heap.size + 1, 2, none⟩ = some (.int .i64 s) ∧ (convert 23 9 (.slice (some ⟨b, off, none⟩) N cap)).run Try.prog w' = .ok (.string (str f 0 N)) w') (go_keep) (first | (go_at_call 27; refine (goodKey_spec m s ao k cp nm vl _ (sv4.keep (Below.refl _ _).drew).row hsm (by omega) hsz).mono ?_; rintro e w5 ⟨rfl, hb5⟩; rw [HG.out]; have hb5' := (Below.refl _ w4).drew.trans hb5; obtain ⟨lk5, d0, d1, d2, kf5⟩ := K4.keep hb5'; have sv5 := sv4.keep hb5'; have Z5 := Z4.keep hb5'; have bw5 : Below w.heap.size w w5 := bw4.trans (hb5'.mono bw4.size); have cv5 := cv_all (HCR bw5) N cap (Nat.le_refl _); clear hb5 hb5') | (go_at_call 50; refine (l1Key_any m s ao k cp nm vl _ sv5.row hm12 hk4 hs12 hst).mono ?_; rintro e w6 ⟨S6, rfl, hS6, hb6⟩; obtain rfl := str_all HK.out hS6; obtain ⟨lk6, g0, g1, g2, kf6⟩ := KBox.keep ⟨lk5, d0, d1, d2, kf5⟩ hb6; have sv6 := sv5.keep hb6; have Z6 := Z5.keep hb6; have bw6 : Below w.heap.size w w6 := bw5.trans (hb6.mono bw5.size); have cv6 := cv_all (HCR bw6) N cap (Nat.le_refl _); clear hb6 hS6))
                all_goals
                  clear Z5 d0 d1 d2 c0 c1 c2 cv5 cv6
                  obtain ⟨lz, z0, z1, z2, zf⟩ := Z6
                  go_wp2
                  refine bodyPost_ret (v := .tuple #[.agg #[.string m, .slice ao k cp, .int .i64 s], .bool true]) (by simp [results, Try.results34, go_sem, z0, z1, z2]) rfl (.inl ⟨m, k, nm, vl, s, .slice ao k cp, rfl, HK.out, ?_, ?_⟩)
                  · exact (((sv6.others (Others.setCell _ _ _ _) (by omega)).others (Others.setCell _ _ _ _) (by omega)).others (Others.setCell _ _ _ _) (by omega)).mono (by omega)
                  · exact ((bw6.setCell (Nat.le_refl _) _).setCell (Nat.le_refl _) _).setCell (Nat.le_refl _) _
            · have h1' : (f q != 1) = true := by simp [h1]
              have HN : Hid (∀ m n nm' vl' st, ¬ IsKey f N m n nm' vl' st) := no_tags HF.out (HT.out.noEnd H2.out (fun h => h1 h.2))
              clear HCR hcr h1
              go_wp2
              refine bodyPost_ret (v := .tuple #[.agg #[.string ⟨#[]⟩, .slice none 0 0, .int .i64 0], .bool false]) (by simp [results, Try.results34, go_sem, z0, z1, z2]) rfl (.inr ⟨rfl, HN.out, ?_⟩)
              exact ((hbk.setCell (Nat.le_refl _) _).setCell (Nat.le_refl _) _).setCell (Nat.le_refl _) _
          · have hd9 : ((N : Int) - (q : Int) != 9) = true := by simp; omega
            have HN : Hid (∀ m n nm' vl' st, ¬ IsKey f N m n nm' vl' st) := HT.out.far HF.out H2.out h9
            clear HCR hcr
            go_wp2
            refine bodyPost_ret (v := .tuple #[.agg #[.string ⟨#[]⟩, .slice none 0 0, .int .i64 0], .bool false]) (by simp [results, Try.results34, go_sem, z0, z1, z2]) rfl (.inr ⟨rfl, HN.out, ?_⟩)
            exact ((hbk.setCell (Nat.le_refl _) _).setCell (Nat.le_refl _) _).setCell (Nat.le_refl _) _
      · have hd : decide ((q : Int) < (N : Int)) = false := by simp; omega
        have hd9 : ((N : Int) - (q : Int) != 9) = true := by simp; omega
        have HN : Hid (∀ m n nm' vl' st, ¬ IsKey f N m n nm' vl' st) := HT.out.far HF.out (fun h => hlt h.1) (by omega)
        clear HCR hcr
        go_wp2
        refine bodyPost_ret (v := .tuple #[.agg #[.string ⟨#[]⟩, .slice none 0 0, .int .i64 0], .bool false]) (by simp [results, Try.results34, go_sem, z0, z1, z2]) rfl (.inr ⟨rfl, HN.out, ?_⟩)
        exact ((hbk.setCell (Nat.le_refl _) _).setCell (Nat.le_refl _) _).setCell (Nat.le_refl _) _
  · go_wp2
    have e : j0 = N := by omega
    have HN : Hid (∀ m n nm' vl' st, ¬ IsKey f N m n nm' vl' st) := no_first HF.out hj
    go_loopw [4] (fun p wr => p = .int .i64 ((j0 : Int) + 1) ∧ ZBox wr w.heap.size ∧ Below w.heap.size w wr) (fun _ _ => 0)
    case atStart => exact ⟨rfl, Z1, bw1⟩
    case round =>
      obtain ⟨rfl, hZ, hbk⟩ := hrel
      obtain ⟨lz, z0, z1, z2, zf⟩ := hZ
      have hd : decide ((j0 : Int) + 1 < (N : Int)) = false := by simp; omega
      have hd9 : ((N : Int) - ((j0 : Int) + 1) != 9) = true := by simp; omega
      clear K0 Z1 bw1 hcv hcz HCR
      go_wp2
      refine bodyPost_ret (v := .tuple #[.agg #[.string ⟨#[]⟩, .slice none 0 0, .int .i64 0], .bool false]) (by simp [results, Try.results34, go_sem, z0, z1, z2]) rfl (.inr ⟨rfl, HN.out, ?_⟩)
      exact ((hbk.setCell (Nat.le_refl _) _).setCell (Nat.le_refl _) _).setCell (Nat.le_refl _) _
end Go.Proofs.Ytddppcfkjhhmhaa
