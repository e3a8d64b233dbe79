/- The path over all ways, in the program. -/
import Derived.Test.YtiigpmhaicfocaaNx
import Derived.Deep.RegionHeld3
import Derived.Deep.RegionWith
namespace Go.Proofs.Ytiigpmhaicfocaa
open Go.RowKit
set_option linter.unusedSimpArgs false
set_option linter.unusedVariables false

theorem ownI_mono {w : World} {base base' : Nat} {v : Value} {L : List Int} (h : OwnI w base v L) (hb : base' ≤ base) : OwnI w base' v L := by
  refine ⟨h.bd, h.own.1, ?_⟩
  rcases h.own.2 with ⟨rfl, h0⟩ | ⟨g, cap, cur, rfl, h1, h2⟩
  · exact .inl ⟨rfl, h0⟩
  · exact .inr ⟨g, cap, cur, rfl, Nat.le_trans hb h1, h2⟩
/-- What a path leaves. -/
def PathO (R : Nat × List Int) (w : World) (e : Ending) (w' : World) : Prop := ∃ v, e = .returned (.tuple #[v, .int .i64 (R.1 : Int)]) ∧ OwnI w' w.heap.size v R.2 ∧ Below w.heap.size w w'

set_option maxHeartbeats 4000000 in
theorem path_any (ko to : Option Addr) (n kc tc : Nat) (t : Nat → Int) (K : Nat → ByteArray) (key : ByteArray) (w : World) (hk : TRow w ko n K) (hr : IRow w to n t) (hn : n ≤ 1000) :
    Calls Try.prog 35 #[.agg #[.slice ko n kc, .slice to n tc, .func (.func 32) #[] #[]], .string key] w fun e w' => PathO (pathF t n K key 6 (0, [])) w e w' := by
  have hB := below_new w (.cells #[.slice ko n kc, .slice to n tc, .func (.func 32) #[] #[]] 68)
  have z0 : (w.alloc (.cells #[.slice ko n kc, .slice to n tc, .func (.func 32) #[] #[]] 68)).cell? ⟨w.heap.size, 0, none⟩ = some (.slice ko n kc) := by simp [go_sem]
  have z1 : (w.alloc (.cells #[.slice ko n kc, .slice to n tc, .func (.func 32) #[] #[]] 68)).cell? ⟨w.heap.size, 1, none⟩ = some (.slice to n tc) := by simp [go_sem]
  have z2 : (w.alloc (.cells #[.slice ko n kc, .slice to n tc, .func (.func 32) #[] #[]] 68)).cell? ⟨w.heap.size, 2, none⟩ = some (.func (.func 32) #[] #[]) := by simp [go_sem]
  have zl : w.heap.size < (w.alloc (.cells #[.slice ko n kc, .slice to n tc, .func (.func 32) #[] #[]] 68)).heap.size := by simp
  obtain ⟨hlies⟩ := hk
  obtain ⟨R, hR⟩ : ∃ R, pathF t n K key 6 (0, []) = R := ⟨_, rfl⟩
  rw [hR]
  have HR : Hid (pathF t n K key 6 (0, []) = R) := hR
  clear hR
  go_enter Try.func35, Try.ntmps35
  go_wp2
  generalize hW : w.alloc (.cells #[.slice ko n kc, .slice to n tc, .func (.func 32) #[] #[]] 68) = w1 at hB z0 z1 z2 zl ⊢
  clear hW
  go_loopw [6, 7, 8] (fun v pl wy wr => ∃ (y p : Nat) (L : List Int), y ≤ 6 ∧ wy = .int .i64 y ∧ pl = .int .i64 p ∧ p ≤ n ∧ L.length ≤ p ∧ OwnI wr w1.heap.size v L ∧ Hid (pathF t n K key y (p, L) = R) ∧ Below w1.heap.size w1 wr) (fun _ _ wy _ => (intOf wy).toNat)
  case atStart => exact ⟨6, 0, [], by omega, rfl, rfl, by omega, by simp, ownI_nil _ _, HR, Below.refl _ _⟩
  case round =>
    obtain ⟨y, p, L, hy, rfl, rfl, hp, hL, hO, hF, hbk⟩ := hrel
    clear HR
    have y0 := (hbk.cell (p := ⟨w.heap.size, 0, none⟩) zl).trans z0
    have y1 := (hbk.cell (p := ⟨w.heap.size, 1, none⟩) zl).trans z1
    have y2 := (hbk.cell (p := ⟨w.heap.size, 2, none⟩) zl).trans z2
    have bw : Below w.heap.size w wr := hB.trans (hbk.mono (Nat.le_of_lt zl))
    by_cases hy0 : y = 0
    · subst hy0
      have HF : Hid ((p, L) = R) := hF.out
      obtain ⟨lo, lc, rfl, _, _⟩ := hO.form
      clear hF
      go_wp2
      refine bodyPost_ret (v := .tuple #[.slice lo L.length lc, .int .i64 p]) (by simp [results, Try.results35, go_sem]) rfl ?_
      rw [← HF.out]
      exact ⟨_, rfl, ownI_mono hO (Nat.le_of_lt zl), bw⟩
    · obtain ⟨y', hy'⟩ : ∃ y', y = y' + 1 := ⟨y - 1, by omega⟩
      have HF : Hid (pathF t n K key y' (goW t n K key (y : Int) (n + 1) (p, L)) = R) := by
        have := hF.out
        rw [hy'] at this ⊢
        exact this
      have hyd : decide ((1 : Int) ≤ (y : Int)) = true := by simp; omega
      have hyw : IntKind.i64.wrap ((y : Int) - 1) = (y' : Int) := by rw [IntKind.wrap_i64] <;> omega
      have hy6 : y' ≤ 6 := by omega
      have HY : Hid (y = y' + 1) := hy'
      clear hy' hF hy0
      have hnx := next_any ko to n kc tc p (y : Int) t wr (hr.keep bw) (by omega) hp
      go_wp2_with fail
      refine hnx.mono ?_
      rintro e w2 ⟨rfl, hb2⟩
      have hbk2 := hbk.trans (hb2.mono hbk.size)
      have hO2 := hO.keep hb2
      clear hnx hb2 hO y0 y1 y2 bw
      go_wp2
      go_loopw [6, 7, 9] (fun v pl nv wq => ∃ (p : Nat) (L : List Int) (f : Nat), pl = .int .i64 p ∧ nv = .int .i64 (nx t n (y : Int) p : Int) ∧ p ≤ n ∧ L.length ≤ p ∧ OwnI wq w1.heap.size v L ∧ n - p < f ∧ Hid (pathF t n K key y' (goW t n K key (y : Int) f (p, L)) = R) ∧ Below w1.heap.size w1 wq) (fun _ pl _ _ => n - (intOf pl).toNat)
      case atStart => exact ⟨p, L, n + 1, rfl, rfl, hp, hL, hO2, by omega, HF, hbk2⟩
      case round =>
        clear HF hO2 hbk2 hbk hL hp
        obtain ⟨p, L, f, rfl, rfl, hp, hL, hO, hf, hF, hbk⟩ := hrel
        have y0 := (hbk.cell (p := ⟨w.heap.size, 0, none⟩) zl).trans z0
        have y1 := (hbk.cell (p := ⟨w.heap.size, 1, none⟩) zl).trans z1
        have y2 := (hbk.cell (p := ⟨w.heap.size, 2, none⟩) zl).trans z2
        have bw : Below w.heap.size w wr := hB.trans (hbk.mono (Nat.le_of_lt zl))
        obtain ⟨q, hq⟩ : ∃ q, q = nx t n (y : Int) p := ⟨_, rfl⟩
        have hql := nx_le (t := t) (y := (y : Int)) hp
        rw [← hq] at hql ⊢
        have HQ : Hid (q = nx t n (y : Int) p) := hq
        clear hq
        by_cases hlt : q < n
        · obtain ⟨b, off, rfl, hblt, hc⟩ := hlies.resolve_left (by omega)
          have c1 := (bw.cell (p := ⟨b, off + q, none⟩) hblt).trans (hc q hlt)
          have hq0 : (0 : Int) ≤ (q : Int) := by omega
          have hq1 : (q : Int) < (n : Int) := by omega
          have hqd : decide ((q : Int) < (n : Int)) = true := by simpa using hq1
          clear hc hlies
          by_cases hcmp : cB (K q) key < 0
          · have hst : ∃ f', n - (q + 1) < f' ∧ Hid (pathF t n K key y' (goW t n K key (y : Int) f' (q + 1, L ++ [(q : Int)])) = R) := by
              obtain ⟨f', hf', he⟩ := goW_step (t := t) (K := K) (key := key) (y := (y : Int)) (L := L) (f := f) (p := p) (n := n) (by omega) (by rw [← HQ.out]; exact ⟨hlt, hcmp⟩)
              rw [← HQ.out] at he
              exact ⟨f', by omega, he ▸ hF.out⟩
            obtain ⟨f', hf', HF'⟩ := hst
            have hcd : decide (cB (K q) key < 0) = true := by simpa using hcmp
            have hqw : IntKind.i64.wrap ((q : Int) + 1) = (q : Int) + 1 := by rw [IntKind.wrap_i64] <;> omega
            have hsz := hbk.size
            have hOd := hO.keep (Below.refl _ _).drew
            have bkd := hbk.drew
            have hnx : ∀ W, IRow W to n t → Calls Try.prog 53 #[.agg #[.slice (some ⟨b, off, none⟩) n kc, .slice to n tc, .func (.func 32) #[] #[]], .int .i64 ((q : Int) + 1), .int .i64 (y : Int)] W fun e w' => e = .returned (.int .i64 (nx t n (y : Int) (q + 1) : Int)) ∧ Below W.heap.size W w' := fun W h => by
              have := next_any (some ⟨b, off, none⟩) to n kc tc (q + 1) (y : Int) t W h (by omega) (by omega)
              rwa [show (((q + 1 : Nat)) : Int) = (q : Int) + 1 from by omega] at this
            clear hF hcmp
            go_wp2
            go_region_held3 (fun w' => w'.cell? ⟨w.heap.size, 0, none⟩ = some (.slice (some ⟨b, off, none⟩) n kc) ∧ w'.cell? ⟨w.heap.size, 2, none⟩ = some (.func (.func 32) #[] #[]) ∧ w'.cell? ⟨b, off + q, none⟩ = some (.string (K q))) (go_keep) (first | (go_at_call 32; refine (strCmp_any _ _ _).mono ?_; rintro e w6 ⟨rfl, rfl⟩))
            generalize wr.drew = wd at hOd bkd ⊢
            clear hO hbk y0 y1 y2 bw c1 hsz
            have hsz := bkd.size
            go_wp2_with (at_builtin; refine wpList_pushI rfl (.tmp 35) (.tmp 37) rfl w1.heap.size _ L (q : Int) rfl hOd (by omega) rfl (by omega) hsz ?_; intro v8 w8 hO8 hg8; have bk8 : Below w1.heap.size w1 w8 := (hOd.keep (below_new wd _)).below (bkd.alloc hsz _) hg8 (Nat.le_refl _) (by simp; omega); have x0 := (bk8.cell (p := ⟨w.heap.size, 0, none⟩) zl).trans z0; have x1 := (bk8.cell (p := ⟨w.heap.size, 1, none⟩) zl).trans z1; have x2 := (bk8.cell (p := ⟨w.heap.size, 2, none⟩) zl).trans z2; have bw8 : Below w.heap.size w w8 := hB.trans (bk8.mono (Nat.le_of_lt zl)); clear hg8 hOd bkd hsz)
            refine (hnx _ (hr.keep bw8)).mono ?_
            rintro e w9 ⟨rfl, hb9⟩
            have bk9 := bk8.trans (hb9.mono bk8.size)
            have hO9 := hO8.keep hb9
            clear hnx hb9 x0 x1 x2 bw8 bk8 hO8
            go_wp2
            go_roundw
            case rel => exact ⟨q + 1, L ++ [(q : Int)], f', by go_num, rfl, by omega, by simp; omega, hO9, hf', HF', bk9⟩
            case measure => simp [intOf]; omega
          · have HF' : Hid (pathF t n K key y' (p, L) = R) := by
              have := hF.out
              rwa [goW_stop (by rw [← HQ.out]; exact fun h => hcmp h.2)] at this
            have hcd : decide (cB (K q) key < 0) = false := by simpa using hcmp
            have hOd := hO.keep (Below.refl _ _).drew
            have bkd := hbk.drew
            clear hF hcmp
            go_wp2
            go_region_held3 (fun w' => w'.cell? ⟨w.heap.size, 0, none⟩ = some (.slice (some ⟨b, off, none⟩) n kc) ∧ w'.cell? ⟨w.heap.size, 2, none⟩ = some (.func (.func 32) #[] #[]) ∧ w'.cell? ⟨b, off + q, none⟩ = some (.string (K q))) (go_keep) (first | (go_at_call 32; refine (strCmp_any _ _ _).mono ?_; rintro e w6 ⟨rfl, rfl⟩))
            go_wp2
            go_roundw
            case rel => exact ⟨y', p, L, hy6, by first | rfl | go_num, rfl, hp, hL, hOd, HF', bkd⟩
            case measure => have := HY.out; simp [intOf]; omega
        · have HF' : Hid (pathF t n K key y' (p, L) = R) := by
            have := hF.out
            rwa [goW_stop (by rw [← HQ.out]; exact fun h => hlt h.1)] at this
          have hqd : decide ((q : Int) < (n : Int)) = false := by simp; omega
          clear hF hlies
          go_wp2
          go_quiet (fail)
          go_wp2
          go_roundw
          case rel => exact ⟨y', p, L, hy6, by first | rfl | go_num, rfl, hp, hL, hO.keep (below_drewN (Below.refl _ _) _), HF', below_drewN hbk _⟩
          case measure => have := HY.out; simp [intOf]; omega
end Go.Proofs.Ytiigpmhaicfocaa
