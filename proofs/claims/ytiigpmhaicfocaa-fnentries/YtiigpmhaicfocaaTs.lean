/- TowerPath, in the model. -/
import Derived.Test.YtiigpmhaicfocaaTi
import Derived.Shelf.SlSorted.Search
namespace Go.Proofs.Ytiigpmhaicfocaa
open Go.RowKit
set_option linter.unusedSimpArgs false
set_option linter.unusedVariables false

theorem wrap_small (z : Int) (h : -9223372036854775808 ≤ z ∧ z ≤ 9223372036854775807) : IntKind.i64.wrap z = z := by rw [IntKind.wrap_i64] <;> omega

set_option maxHeartbeats 4000000 in
theorem towerPath_spec (ko to : Option Addr) (n kc m tc : Nat) (K : Nat → ByteArray) (t : Nat → Int) (key : ByteArray) (w : World) (hk : TRow w ko n K) (hr : IRow w to m t) (hn : n ≤ 1048576) (hm : m ≤ 1048576) :
    Calls Try.prog 12 #[.slice ko n kc, .slice to m tc, .string key] w fun e w' => TpO (GoodT K t n m) (pathF t n K key 6 (0, [])) w e w' := by
  obtain ⟨R, hR⟩ : ∃ R, pathF t n K key 6 (0, []) = R := ⟨_, rfl⟩
  have HR : Hid (pathF t n K key 6 (0, []) = R) := hR
  rw [hR]
  clear hR
  by_cases h30 : 30 < n
  · have H : Hid (¬ GoodT K t n m) := fun h => by have := h.1; omega
    go_enter Try.func12, Try.ntmps12
    go_wp2
    exact bodyPost_ret (v := .tuple #[.slice none 0 0, .int .i64 0, .bool false]) (by simp [results, Try.results12, go_sem]) rfl (TpO.no H.out (Below.refl _ _))
  by_cases hmn : m = n
  rotate_left
  · have H : Hid (¬ GoodT K t n m) := fun h => hmn h.2.1.2.2.symm
    have hne : ((m : Int) == (n : Int)) = false := by simp; omega
    have hd : decide ((30 : Int) < (n : Int)) = false := by simp; omega
    clear hmn
    go_enter Try.func12, Try.ntmps12
    go_wp2
    exact bodyPost_ret (v := .tuple #[.slice none 0 0, .int .i64 0, .bool false]) (by simp [results, Try.results12, go_sem]) rfl (TpO.no H.out (Below.refl _ _))
  subst hmn
  obtain ⟨hlies⟩ := hk
  obtain ⟨hbd, hlies2⟩ := hr
  go_enter Try.func12, Try.ntmps12
  go_wp2
  go_loopw [27] (fun i wr => ∃ k : Nat, k ≤ m ∧ i = .int .i64 k ∧ Hid ((∀ i, i < k → KeyOk (K i)) ∧ (∀ i, i < k → 1 ≤ t i ∧ t i ≤ 6) ∧ RiseT K k) ∧ wr = w) (fun i _ => m - (intOf i).toNat)
  case atStart => exact ⟨0, Nat.zero_le _, rfl, ⟨fun i h => by omega, fun i h => by omega, fun i h => by omega⟩, rfl⟩
  case round =>
    obtain ⟨k, hk, rfl, hG, hw⟩ := hrel
    have hw2 := hw.symm
    clear hw
    subst hw2
    by_cases hlt : k < m
    · obtain ⟨b, off, rfl, hblt, hc⟩ := hlies.resolve_left (by omega)
      obtain ⟨b', off', rfl, hblt', hc'⟩ := hlies2.resolve_left (by omega)
      have c1 := hc k hlt
      have c2 := hc' k hlt
      cases hkk : btw 1 ((K k).size : Int) 140
      · have H : Hid (¬ GoodT K t m m) := fun h => by
          have := btw_iff.2 (h.2.1.1 k hlt)
          rw [hkk] at this
          cases this
        clear hc hc' hlies hlies2 hG
        go_wp2_with fail
        refine (l1In_any _ 1 140 _).mono ?_
        rintro e w1 ⟨rfl, rfl⟩
        rw [hkk]
        go_wp2
        exact bodyPost_ret (v := .tuple #[.slice none 0 0, .int .i64 0, .bool false]) (by simp [results, Try.results12, go_sem]) rfl (TpO.no H.out (Below.refl _ _))
      cases htt : btw 1 (t k) 6
      · have H : Hid (¬ GoodT K t m m) := fun h => by
          have := btw_iff.2 (h.2.1.2.1 k hlt)
          rw [htt] at this
          cases this
        clear hc hc' hlies hlies2 hG
        go_wp2_with fail
        refine (l1In_any _ 1 140 _).mono ?_
        rintro e w1 ⟨rfl, hw⟩
        have hw2 := hw.symm
        clear hw
        subst hw2
        rw [hkk]
        go_wp2_with fail
        refine (l1In_any _ 1 6 _).mono ?_
        rintro e w1 ⟨rfl, hw⟩
        have hw2 := hw.symm
        clear hw
        subst hw2
        rw [htt]
        go_wp2
        exact bodyPost_ret (v := .tuple #[.slice none 0 0, .int .i64 0, .bool false]) (by simp [results, Try.results12, go_sem]) rfl (TpO.no H.out (Below.refl _ _))
      by_cases h0 : k = 0
      · have hk0 : decide ((0 : Int) < (k : Int)) = false := by simp; omega
        have hk02 : decide (0 < k) = false := by simp; omega
        have H : Hid ((∀ i, i < k + 1 → KeyOk (K i)) ∧ (∀ i, i < k + 1 → 1 ≤ t i ∧ t i ≤ 6) ∧ RiseT K (k + 1)) := ⟨fun i hi => by rw [show i = k from by omega]; exact btw_iff.1 hkk, fun i hi => by rw [show i = k from by omega]; exact btw_iff.1 htt, fun i hi => by omega⟩
        clear hc hc' hlies hlies2 hG h0
        go_wp2_with fail
        refine (l1In_any _ 1 140 _).mono ?_
        rintro e w1 ⟨rfl, hw⟩
        have hw2 := hw.symm
        clear hw
        subst hw2
        rw [hkk]
        go_wp2_with fail
        refine (l1In_any _ 1 6 _).mono ?_
        rintro e w1 ⟨rfl, hw⟩
        have hw2 := hw.symm
        clear hw
        subst hw2
        rw [htt]
        go_wp2
        go_roundw
        case rel => exact ⟨k + 1, by omega, by go_num, H, by first | rfl | trivial⟩
        case measure => simp [intOf]; omega
      obtain ⟨j, hjk⟩ : ∃ j, k = j + 1 := ⟨k - 1, by omega⟩
      have c3 := hc j (by omega)
      have hj : IntKind.i64.wrap ((k : Int) - 1) = (j : Int) := by rw [IntKind.wrap_i64] <;> omega
      have hj0 : (0 : Int) ≤ (j : Int) := by omega
      have hj1 : (j : Int) < (m : Int) := by omega
      have hkp : (0 : Int) < (k : Int) := by omega
      have hkd : decide ((0 : Int) < (k : Int)) = true := by simpa using hkp
      have hkn : 0 < k := by omega
      have hkd2 : decide (0 < k) = true := by simpa using hkn
      have HJ : Hid (k = j + 1) := hjk
      clear hjk h0 hc hc' hlies hlies2
      cases hbl : Op.bytesLess (K j).toList (K k).toList
      · have H : Hid (¬ GoodT K t m m) := fun h => by
          have hj' := HJ.out
          have := h.2.2 j (by omega)
          rw [← hj', hbl] at this
          cases this
        clear hG
        go_wp2_with fail
        refine (l1In_any _ 1 140 _).mono ?_
        rintro e w1 ⟨rfl, hw⟩
        have hw2 := hw.symm
        clear hw
        subst hw2
        rw [hkk]
        go_wp2_with fail
        refine (l1In_any _ 1 6 _).mono ?_
        rintro e w1 ⟨rfl, hw⟩
        have hw2 := hw.symm
        clear hw
        subst hw2
        rw [htt]
        go_wp2
        exact bodyPost_ret (v := .tuple #[.slice none 0 0, .int .i64 0, .bool false]) (by simp [results, Try.results12, go_sem]) rfl (TpO.no H.out (Below.refl _ _))
      · have H : Hid ((∀ i, i < k + 1 → KeyOk (K i)) ∧ (∀ i, i < k + 1 → 1 ≤ t i ∧ t i ≤ 6) ∧ RiseT K (k + 1)) := by
          have hj' := HJ.out
          have hg := hG.out
          refine ⟨fun i hi => ?_, fun i hi => ?_, fun i hi => ?_⟩
          · rcases Nat.lt_succ_iff_lt_or_eq.1 hi with h | h
            · exact hg.1 i h
            · subst h; exact btw_iff.1 hkk
          · rcases Nat.lt_succ_iff_lt_or_eq.1 hi with h | h
            · exact hg.2.1 i h
            · subst h; exact btw_iff.1 htt
          · by_cases e : i = j
            · subst e
              rw [← hj']
              exact hbl
            · exact hg.2.2 i (by omega)
        clear hG
        go_wp2_with fail
        refine (l1In_any _ 1 140 _).mono ?_
        rintro e w1 ⟨rfl, hw⟩
        have hw2 := hw.symm
        clear hw
        subst hw2
        rw [hkk]
        go_wp2_with fail
        refine (l1In_any _ 1 6 _).mono ?_
        rintro e w1 ⟨rfl, hw⟩
        have hw2 := hw.symm
        clear hw
        subst hw2
        rw [htt]
        go_wp2
        go_roundw
        case rel => exact ⟨k + 1, by omega, by go_num, H, by first | rfl | trivial⟩
        case measure => simp [intOf]; omega
    · have e : k = m := by omega
      have HG : Hid (GoodT K t m m) := ⟨by omega, ⟨fun i hi => hG.out.1 i (by omega), fun i hi => hG.out.2.1 i (by omega), rfl⟩, fun i hi => hG.out.2.2 i (by omega)⟩
      clear hG e
      go_wp2
      go_loopw [11, 12, 13] (fun v a wy wr => ∃ (y p : Nat) (L : List Int), y ≤ 6 ∧ wy = .int .i64 y ∧ a = .int .i64 ((p : Int) - 1) ∧ p ≤ m ∧ L.length ≤ p ∧ OwnI wr w.heap.size v L ∧ Hid (pathF t m K key y (p, L) = R) ∧ Below w.heap.size w wr) (fun _ _ wy _ => (intOf wy).toNat)
      case atStart => exact ⟨6, 0, [], by omega, rfl, rfl, by omega, by simp, ownI_nil _ _, HR, Below.refl _ _⟩
      case round =>
        obtain ⟨y, p, L, hy, rfl, rfl, hp, hL, hO, hF, hbk⟩ := hrel
        clear HR
        have hp1 : IntKind.i64.wrap ((p : Int) - 1 + 1) = (p : Int) := by rw [IntKind.wrap_i64] <;> omega
        by_cases hy0 : y = 0
        · subst hy0
          have HF : Hid ((p, L) = R) := hF.out
          obtain ⟨lo, lc, rfl, _, _⟩ := hO.form
          clear hF
          go_wp2
          refine bodyPost_ret (v := .tuple #[.slice lo L.length lc, .int .i64 p, .bool true]) (by simp [results, Try.results12, go_sem]) rfl ?_
          rw [← HF.out]
          exact ⟨.inr ⟨HG.out, _, rfl, hO⟩, hbk⟩
        · obtain ⟨y', hy'⟩ : ∃ y', y = y' + 1 := ⟨y - 1, by omega⟩
          have HF : Hid (pathF t m K key y' (goW t m K key (y : Int) (m + 1) (p, L)) = R) := by
            have := hF.out
            rw [hy'] at this ⊢
            exact this
          have hyp : (0 : Int) < (y : Int) := by omega
          have hyd : decide ((0 : Int) < (y : Int)) = true := by simpa using hyp
          have hyn : 0 < y := by omega
          have hyd2 : decide (0 < y) = true := by simpa using hyn
          have hyw : IntKind.i64.wrap ((y : Int) - 1) = (y' : Int) := by rw [IntKind.wrap_i64] <;> omega
          have hy6 : y' ≤ 6 := by omega
          have HY : Hid (y = y' + 1) := hy'
          clear hy' hF hy0 hp1
          go_wp2
          go_loopw [11, 12] (fun v a wq => ∃ (p : Nat) (L : List Int) (f : Nat), a = .int .i64 ((p : Int) - 1) ∧ p ≤ m ∧ L.length ≤ p ∧ OwnI wq w.heap.size v L ∧ m - p < f ∧ Hid (pathF t m K key y' (goW t m K key (y : Int) f (p, L)) = R) ∧ Below w.heap.size w wq) (fun _ a _ => m - (intOf a + 1).toNat)
          case atStart => exact ⟨p, L, m + 1, rfl, hp, hL, hO, by omega, HF, hbk⟩
          case round =>
            clear HF hO hbk hL hp
            obtain ⟨p, L, f, rfl, hp, hL, hO, hf, hF, hbk⟩ := hrel
            have hp1 : IntKind.i64.wrap ((p : Int) - 1 + 1) = (p : Int) := by rw [IntKind.wrap_i64] <;> omega
            go_wp2
            go_loopw [14] (fun nv wz => ∃ q : Nat, nv = .int .i64 q ∧ q ≤ m ∧ p ≤ q ∧ Hid (nx t m (y : Int) q = nx t m (y : Int) p) ∧ wz = wr) (fun nv _ => m - (intOf nv).toNat)
            case atStart => exact ⟨p, rfl, hp, Nat.le_refl _, rfl, rfl⟩
            case round =>
              obtain ⟨q, rfl, hq, hpq, hE, hw⟩ := hrel
              have hw2 := hw.symm
              clear hw
              subst hw2
              by_cases hql : q < m
              · obtain ⟨b, off, rfl, hblt, hc⟩ := hlies.resolve_left (by omega)
                obtain ⟨b', off', rfl, hblt', hc'⟩ := hlies2.resolve_left (by omega)
                have c1 := (hbk.cell (p := ⟨b, off + q, none⟩) hblt).trans (hc q hql)
                have c2 := (hbk.cell (p := ⟨b', off' + q, none⟩) hblt').trans (hc' q hql)
                have hqd : decide ((q : Int) < (m : Int)) = true := by simp; omega
                have hqe : ((q : Int) == (m : Int)) = false := by simp; omega
                clear hc hc' hlies hlies2
                by_cases ht : t q < (y : Int)
                · have H : Hid (nx t m (y : Int) (q + 1) = nx t m (y : Int) p) := (nx_step hql ht).symm.trans hE.out
                  have htd : decide (t q < (y : Int)) = true := by simpa using ht
                  clear hE hqe
                  go_wp2
                  go_roundw
                  case rel => exact ⟨q + 1, by go_num, by omega, by omega, H, by first | rfl | trivial⟩
                  case measure => simp [intOf]; omega
                · have HQ : Hid (q = nx t m (y : Int) p) := (nx_stop hql ht).symm.trans hE.out
                  have htd : decide (t q < (y : Int)) = false := by simpa using ht
                  clear hE ht
                  cases hbl : Op.bytesLess (K q).toList key.toList
                  · have HF' : Hid (pathF t m K key y' (p, L) = R) := by
                      have := hF.out
                      rwa [goW_stop (by rw [← HQ.out]; exact fun h => by have := (cB_lt _ _).1 h.2; rw [hbl] at this; cases this)] at this
                    clear hF
                    go_wp2
                    go_roundw
                    case rel => exact ⟨y', p, L, hy6, by first | rfl | go_num, rfl, hp, hL, hO, HF', hbk⟩
                    case measure => have := HY.out; simp [intOf]; omega
                  · have hst : ∃ f', m - (q + 1) < f' ∧ Hid (pathF t m K key y' (goW t m K key (y : Int) f' (q + 1, L ++ [(q : Int)])) = R) := by
                      obtain ⟨f', hf', he⟩ := goW_step (t := t) (K := K) (key := key) (y := (y : Int)) (L := L) (f := f) (p := p) (n := m) (by omega) (by rw [← HQ.out]; exact ⟨hql, (cB_lt _ _).2 hbl⟩)
                      rw [← HQ.out] at he
                      exact ⟨f', by omega, he ▸ hF.out⟩
                    obtain ⟨f', hf', HF'⟩ := hst
                    have hsz := hbk.size
                    clear hF
                    go_wp2_with (at_builtin; refine wpList_pushI rfl (.tmp 91) (.tmp 93) rfl w.heap.size _ L (q : Int) rfl hO (by omega) rfl (by omega) hsz ?_; intro v8 w8 hO8 hg8; have bk8 : Below w.heap.size w w8 := (hO.keep (below_new wr _)).below (hbk.alloc hsz _) hg8 (Nat.le_refl _) (by simp; omega); clear hg8)
                    go_roundw
                    case rel => exact ⟨q + 1, L ++ [(q : Int)], f', by go_num, by omega, by simp; omega, hO8, hf', HF', bk8⟩
                    case measure => simp [intOf]; omega
              · have HF' : Hid (pathF t m K key y' (p, L) = R) := by
                  have e : q = nx t m (y : Int) p := (nx_end (by omega)).symm.trans hE.out
                  have := hF.out
                  rwa [goW_stop (by rw [← e]; exact fun h => hql h.1)] at this
                have hqd : decide ((q : Int) < (m : Int)) = false := by simp; omega
                have hqe : ((q : Int) == (m : Int)) = true := by simp; omega
                clear hF hE hlies hlies2
                go_wp2
                go_roundw
                case rel => exact ⟨y', p, L, hy6, by first | rfl | go_num, rfl, hp, hL, hO, HF', hbk⟩
                case measure => have := HY.out; simp [intOf]; omega
end Go.Proofs.Ytiigpmhaicfocaa
