/- The place of an entry, in the program: the path over ways of which all are the lowest. -/
import Derived.Test.YtiigpmhaicfocaaHs
import Derived.Test.YtiigpmhaicfocaaOe
import Derived.Deep.RegionHeld3
import Derived.Deep.RegionWith
namespace Go.Proofs.Ytiigpmhaicfocaa
open Go.RowKit
set_option linter.unusedSimpArgs false
set_option linter.unusedVariables false

def pcF (X : Nat → Ent) (n : Nat) (e : Ent) : Nat → Nat → Nat
  | 0, q => q
  | f + 1, q => if q < n ∧ cE (X q) e < 0 then pcF X n e f (q + 1) else q
/-- The first from q on that does not stand ahead of e. -/
def pc (X : Nat → Ent) (n : Nat) (e : Ent) (q : Nat) : Nat := pcF X n e (n - q) q
section
variable {X : Nat → Ent} {n : Nat} {e : Ent} {q : Nat}
theorem pc_end (h : n ≤ q) : pc X n e q = q := by unfold pc; rw [Nat.sub_eq_zero_of_le h]; rfl
theorem pc_stop (h : q < n) (h2 : ¬ cE (X q) e < 0) : pc X n e q = q := by
  unfold pc
  obtain ⟨f, hf⟩ : ∃ f, n - q = f + 1 := ⟨n - q - 1, by omega⟩
  rw [hf]
  simp [pcF, h2]
theorem pc_step (h : q < n) (h2 : cE (X q) e < 0) : pc X n e q = pc X n e (q + 1) := by
  unfold pc
  obtain ⟨f, hf⟩ : ∃ f, n - q = f + 1 := ⟨n - q - 1, by omega⟩
  rw [hf, show n - (q + 1) = f by omega]
  simp [pcF, h, h2]
theorem pcF_le (X : Nat → Ent) (n : Nat) (e : Ent) : ∀ f q, q ≤ n → q ≤ pcF X n e f q ∧ pcF X n e f q ≤ n
  | 0, q, h => ⟨Nat.le_refl _, h⟩
  | f + 1, q, h => by
    unfold pcF
    split
    · rename_i hc
      have := pcF_le X n e f (q + 1) (by omega)
      omega
    · omega
theorem pc_le (h : q ≤ n) : q ≤ pc X n e q ∧ pc X n e q ≤ n := pcF_le X n e _ q h
end

/-- The next on a way, all being the lowest. -/
def nxO (n : Nat) (y : Int) (q : Nat) : Nat := if 1 < y then n else q

set_option maxHeartbeats 800000 in
theorem next_ones (ko : Option Addr) (n kc tb q : Nat) (y : Int) (w : World) (hr : IOwn w tb 0 n (fun _ => 1)) (hn : n ≤ 1048576) (hq : q ≤ n) :
    Calls Try.prog 46 #[.agg #[.slice ko n kc, .slice (some ⟨tb, 0, none⟩) n n, .func (.func 45) #[] #[]], .int .i64 q, .int .i64 y] w fun e w' => e = .returned (.int .i64 (nxO n y q : Int)) ∧ Below w.heap.size w w' := by
  have hB := below_new w (.cells #[.slice ko n kc, .slice (some ⟨tb, 0, none⟩) n n, .func (.func 45) #[] #[]] 56)
  have z0 : (w.alloc (.cells #[.slice ko n kc, .slice (some ⟨tb, 0, none⟩) n n, .func (.func 45) #[] #[]] 56)).cell? ⟨w.heap.size, 0, none⟩ = some (.slice ko n kc) := by simp [go_sem]
  have z1 : (w.alloc (.cells #[.slice ko n kc, .slice (some ⟨tb, 0, none⟩) n n, .func (.func 45) #[] #[]] 56)).cell? ⟨w.heap.size, 1, none⟩ = some (.slice (some ⟨tb, 0, none⟩) n n) := by simp [go_sem]
  have hrow := hr.keep hB
  obtain ⟨R, hR⟩ : ∃ R, nxO n y q = R := ⟨_, rfl⟩
  have HR : Hid (nxO n y q = R) := hR
  rw [hR]
  clear hR
  go_enter Try.func46, Try.ntmps46
  go_wp2
  generalize w.alloc (.cells #[.slice ko n kc, .slice (some ⟨tb, 0, none⟩) n n, .func (.func 45) #[] #[]] 56) = w1 at hB z0 z1 hrow ⊢
  go_loopw [1] (fun i wr => ∃ k : Nat, k ≤ n ∧ i = .int .i64 k ∧ (¬ 1 < y → k = q) ∧ wr = w1) (fun i _ => n - (intOf i).toNat)
  case atStart => exact ⟨q, hq, rfl, fun _ => rfl, rfl⟩
  case round =>
    obtain ⟨k, hk, rfl, hE, hw⟩ := hrel
    have hw2 := hw.symm
    clear hw
    subst hw2
    by_cases hlt : k < n
    · have c1 := hrow.cell k hlt
      rw [Nat.zero_add] at c1
      clear hrow
      by_cases ht : (1 : Int) < y
      · have H : Hid (¬ 1 < y → k + 1 = q) := fun h => absurd ht h
        clear hE
        go_wp2
        go_roundw
        case rel => exact ⟨k + 1, by omega, by go_num, H, by first | rfl | trivial⟩
        case measure => simp [intOf]; omega
      · obtain rfl := hE ht
        have hd : decide ((1 : Int) < y) = false := by simpa using ht
        have H : Hid (k = R) := by have := HR.out; unfold nxO at this; rw [if_neg ht] at this; exact this
        clear hE ht
        go_wp2
        go_ret
        exact ⟨by rw [← H.out]; rfl, hB⟩
    · have H : Hid (k = R) := by
        have := HR.out
        unfold nxO at this
        unfold Hid
        rw [← this]
        split
        · omega
        · rename_i h; exact hE h
      clear hE hrow
      go_wp2
      go_ret
      exact ⟨by rw [← H.out]; rfl, hB⟩

/-- What the path leaves. -/
def PcO (P : Nat) (w : World) (e : Ending) (w' : World) : Prop := ∃ v, e = .returned (.tuple #[v, .int .i64 (P : Int)]) ∧ Below w.heap.size w w'

set_option maxHeartbeats 4000000 in
theorem path_ones (ko : Option Addr) (n kc tb : Nat) (X : Nat → Ent) (x : Ent) (ao : Option Addr) (hc : Nat) (w : World) (hr : ERow w ko n X) (ht : IOwn w tb 0 n (fun _ => 1)) (hn : n ≤ 1000) :
    Calls Try.prog 21 #[.agg #[.slice ko n kc, .slice (some ⟨tb, 0, none⟩) n n, .func (.func 45) #[] #[]], .agg #[.string x.key, .int .i64 x.seq, .int .i64 x.kind, .int .i64 x.c, .int .i64 x.s, .int .i64 x.lo, .int .i64 x.hi, .slice ao x.n hc, .bool x.fu]] w fun e w' => PcO (pc X n x 0) w e w' := by
  obtain ⟨P, hP⟩ : ∃ P, pc X n x 0 = P := ⟨_, rfl⟩
  have HP : Hid (pc X n x 0 = P) := hP
  rw [hP]
  clear hP
  obtain ⟨hbd, hlies⟩ := hr
  have hB1 := below_new w (.cells #[.slice ko n kc, .slice (some ⟨tb, 0, none⟩) n n, .func (.func 45) #[] #[]] 56)
  have hB := hB1.trans ((below_new (w.alloc (.cells #[.slice ko n kc, .slice (some ⟨tb, 0, none⟩) n n, .func (.func 45) #[] #[]] 56)) (.cells #[.string x.key, .int .i64 x.seq, .int .i64 x.kind, .int .i64 x.c, .int .i64 x.s, .int .i64 x.lo, .int .i64 x.hi, .slice ao x.n hc, .bool x.fu] 28)).mono (by simp))
  have z0 : ((w.alloc (.cells #[.slice ko n kc, .slice (some ⟨tb, 0, none⟩) n n, .func (.func 45) #[] #[]] 56)).alloc (.cells #[.string x.key, .int .i64 x.seq, .int .i64 x.kind, .int .i64 x.c, .int .i64 x.s, .int .i64 x.lo, .int .i64 x.hi, .slice ao x.n hc, .bool x.fu] 28)).cell? ⟨w.heap.size, 0, none⟩ = some (.slice ko n kc) := by simp [go_sem]
  have z1 : ((w.alloc (.cells #[.slice ko n kc, .slice (some ⟨tb, 0, none⟩) n n, .func (.func 45) #[] #[]] 56)).alloc (.cells #[.string x.key, .int .i64 x.seq, .int .i64 x.kind, .int .i64 x.c, .int .i64 x.s, .int .i64 x.lo, .int .i64 x.hi, .slice ao x.n hc, .bool x.fu] 28)).cell? ⟨w.heap.size, 1, none⟩ = some (.slice (some ⟨tb, 0, none⟩) n n) := by simp [go_sem]
  have z2 : ((w.alloc (.cells #[.slice ko n kc, .slice (some ⟨tb, 0, none⟩) n n, .func (.func 45) #[] #[]] 56)).alloc (.cells #[.string x.key, .int .i64 x.seq, .int .i64 x.kind, .int .i64 x.c, .int .i64 x.s, .int .i64 x.lo, .int .i64 x.hi, .slice ao x.n hc, .bool x.fu] 28)).cell? ⟨w.heap.size, 2, none⟩ = some (.func (.func 45) #[] #[]) := by simp [go_sem]
  have EX := EAt.new (w.alloc (.cells #[.slice ko n kc, .slice (some ⟨tb, 0, none⟩) n n, .func (.func 45) #[] #[]] 56)) x ao hc 28
  rw [World.size_alloc] at EX
  have zl : w.heap.size + 1 < ((w.alloc (.cells #[.slice ko n kc, .slice (some ⟨tb, 0, none⟩) n n, .func (.func 45) #[] #[]] 56)).alloc (.cells #[.string x.key, .int .i64 x.seq, .int .i64 x.kind, .int .i64 x.c, .int .i64 x.s, .int .i64 x.lo, .int .i64 x.hi, .slice ao x.n hc, .bool x.fu] 28)).heap.size := by simp
  go_enter Try.func21, Try.ntmps21
  go_wp2
  generalize (w.alloc (.cells #[.slice ko n kc, .slice (some ⟨tb, 0, none⟩) n n, .func (.func 45) #[] #[]] 56)).alloc (.cells #[.string x.key, .int .i64 x.seq, .int .i64 x.kind, .int .i64 x.c, .int .i64 x.s, .int .i64 x.lo, .int .i64 x.hi, .slice ao x.n hc, .bool x.fu] 28) = w1 at hB z0 z1 z2 zl EX ⊢
  clear hB1
  go_loopw [6, 7, 8] (fun v pl wy wr => ∃ (y p : Nat) (L : List Int), y ≤ 6 ∧ wy = .int .i64 y ∧ pl = .int .i64 p ∧ p ≤ n ∧ L.length ≤ p ∧ OwnI wr w1.heap.size v L ∧ (1 ≤ y → p = 0) ∧ (y = 0 → p = P) ∧ Below w1.heap.size w1 wr) (fun _ _ wy _ => (intOf wy).toNat)
  case atStart => exact ⟨6, 0, [], by omega, rfl, rfl, by omega, by simp, ownI_nil _ _, fun _ => rfl, fun h => by omega, Below.refl _ _⟩
  case round =>
    obtain ⟨y, p, L, hy, rfl, rfl, hp, hL, hO, hp0, hpP, hbk⟩ := hrel
    have y0 := (hbk.cell (p := ⟨w.heap.size, 0, none⟩) (Nat.lt_of_succ_lt zl)).trans z0
    have y1 := (hbk.cell (p := ⟨w.heap.size, 1, none⟩) (Nat.lt_of_succ_lt zl)).trans z1
    have y2 := (hbk.cell (p := ⟨w.heap.size, 2, none⟩) (Nat.lt_of_succ_lt zl)).trans z2
    have bw : Below w.heap.size w wr := hB.trans (hbk.mono (by omega))
    by_cases hy0 : y = 0
    · subst hy0
      have HF : Hid (p = P) := hpP rfl
      obtain ⟨lo, lc, rfl, _, _⟩ := hO.form
      clear hpP hp0
      go_wp2
      refine bodyPost_ret (v := .tuple #[.slice lo L.length lc, .int .i64 p]) (by simp [results, Try.results21, go_sem]) rfl ?_
      rw [← HF.out]
      exact ⟨_, rfl, bw⟩
    · obtain ⟨y', hy'⟩ : ∃ y', y = y' + 1 := ⟨y - 1, by omega⟩
      have hyd : decide ((1 : Int) ≤ (y : Int)) = true := by simp; omega
      have hyw : IntKind.i64.wrap ((y : Int) - 1) = (y' : Int) := by rw [IntKind.wrap_i64] <;> omega
      have hy6 : y' ≤ 6 := by omega
      have HY : Hid (y = y' + 1) := hy'
      obtain rfl := hp0 (by omega)
      clear hy' hpP hp0 hy0
      have hnx := next_ones ko n kc tb 0 (y : Int) wr (ht.keep bw) (by omega) (Nat.zero_le _)
      go_wp2_with fail
      refine hnx.mono ?_
      rintro e w2 ⟨rfl, hb2⟩
      have hbk2 := hbk.trans (hb2.mono hbk.size)
      have hO2 := hO.keep hb2
      clear hnx hb2 hO y0 y1 y2 bw
      go_wp2
      go_loopw [6, 7, 9] (fun v pl nv wq => ∃ (p : Nat) (L : List Int), pl = .int .i64 p ∧ nv = .int .i64 (nxO n (y : Int) p : Int) ∧ p ≤ n ∧ L.length ≤ p ∧ OwnI wq w1.heap.size v L ∧ (1 < y → p = 0) ∧ (y = 1 → Hid (pc X n x p = P)) ∧ Below w1.heap.size w1 wq) (fun _ pl _ _ => n - (intOf pl).toNat)
      case atStart => exact ⟨0, L, rfl, rfl, hp, hL, hO2, fun _ => rfl, fun _ => HP, hbk2⟩
      case round =>
        clear hO2 hbk2 hbk hL hp
        obtain ⟨p, L, rfl, rfl, hp, hL, hO, hp0, hpP, hbk⟩ := hrel
        have y0 := (hbk.cell (p := ⟨w.heap.size, 0, none⟩) (Nat.lt_of_succ_lt zl)).trans z0
        have y1 := (hbk.cell (p := ⟨w.heap.size, 1, none⟩) (Nat.lt_of_succ_lt zl)).trans z1
        have y2 := (hbk.cell (p := ⟨w.heap.size, 2, none⟩) (Nat.lt_of_succ_lt zl)).trans z2
        have bw : Below w.heap.size w wr := hB.trans (hbk.mono (by omega))
        obtain ⟨q, hq⟩ : ∃ q, q = nxO n (y : Int) p := ⟨_, rfl⟩
        have hqy : (1 < y ∧ q = n) ∨ (y = 1 ∧ q = p) := by
          have := HY.out
          by_cases h : (1 : Int) < (y : Int)
          · left; exact ⟨by omega, by rw [hq]; unfold nxO; rw [if_pos h]⟩
          · right; exact ⟨by omega, by rw [hq]; unfold nxO; rw [if_neg h]⟩
        rw [← hq] at ⊢
        clear hq
        by_cases hlt : q < n
        · obtain ⟨hy1, rfl⟩ : y = 1 ∧ q = p := by omega
          have HPc := hpP hy1
          have hy'0 : y' = 0 := by have := HY.out; omega
          have HY0 : Hid (y' = 0) := hy'0
          have HY1 : Hid (y = 1) := hy1
          obtain ⟨b, off, rfl, hblt, hcs⟩ := hlies.resolve_left (by omega)
          obtain ⟨da, dc, ea, _⟩ := hcs q hlt
          have ea1 := ea.keep bw
          obtain ⟨_, a0, a1, a2, a3, a4, a5, a6, a7, a8⟩ := id ea1
          have eb1 := EX.keep hbk
          obtain ⟨_, b0, b1, b2, b3, b4, b5, b6, b7, b8⟩ := id eb1
          simp only [Nat.zero_add] at b1 b2 b3 b4 b5 b6 b7 b8
          have zlr : w.heap.size < wr.heap.size := Nat.lt_of_lt_of_le (Nat.lt_of_succ_lt zl) hbk.size
          have hq0 : (0 : Int) ≤ (q : Int) := by omega
          have hq1 : (q : Int) < (n : Int) := by omega
          have hqd : decide ((q : Int) < (n : Int)) = true := by simpa using hq1
          have hcc := fun W => compareEntries_any (X q) x da ao dc hc W
          clear hcs hlies ea hqy hpP hy1 hy'0 hp0
          have hsz := hbk.size
          obtain ⟨cv, hcv⟩ : ∃ cv, cE (X q) x = cv := ⟨_, rfl⟩
          have HCV : Hid (cE (X q) x = cv) := hcv
          have hcc2 : ∀ W, Calls Try.prog 45 #[.agg #[.string (X q).key, .int .i64 (X q).seq, .int .i64 (X q).kind, .int .i64 (X q).c, .int .i64 (X q).s, .int .i64 (X q).lo, .int .i64 (X q).hi, .slice da (X q).n dc, .bool (X q).fu], .agg #[.string x.key, .int .i64 x.seq, .int .i64 x.kind, .int .i64 x.c, .int .i64 x.s, .int .i64 x.lo, .int .i64 x.hi, .slice ao x.n hc, .bool x.fu]] W fun e w' => e = .returned (.int .i64 cv) ∧ Below W.heap.size W w' := fun W => (hcc W).mono fun e w' h => ⟨by rw [← hcv]; exact h.1, h.2⟩
          clear hcc hcv
          by_cases hcmp : cv < 0
          · have hcd : decide (cv < 0) = true := by simpa using hcmp
            have HP2 : Hid (pc X n x (q + 1) = P) := by
              have := HPc.out
              rwa [pc_step hlt (by rw [HCV.out]; exact hcmp)] at this
            have hqw : IntKind.i64.wrap ((q : Int) + 1) = (q : Int) + 1 := by rw [IntKind.wrap_i64] <;> omega
            clear HPc hcmp
            go_wp2
            go_region_held3 (fun w' => w'.cell? ⟨w.heap.size, 0, none⟩ = some (.slice (some ⟨b, off, none⟩) n kc) ∧ w'.cell? ⟨w.heap.size, 2, none⟩ = some (.func (.func 45) #[] #[]) ∧ w'.cell? ⟨b, off + q * 9, none⟩ = some (.string (X q).key) ∧ w'.cell? ⟨b, off + q * 9 + 1, none⟩ = some (.int .i64 (X q).seq) ∧ w'.cell? ⟨b, off + q * 9 + 2, none⟩ = some (.int .i64 (X q).kind) ∧ w'.cell? ⟨b, off + q * 9 + 3, none⟩ = some (.int .i64 (X q).c) ∧ w'.cell? ⟨b, off + q * 9 + 4, none⟩ = some (.int .i64 (X q).s) ∧ w'.cell? ⟨b, off + q * 9 + 5, none⟩ = some (.int .i64 (X q).lo) ∧ w'.cell? ⟨b, off + q * 9 + 6, none⟩ = some (.int .i64 (X q).hi) ∧ w'.cell? ⟨b, off + q * 9 + 7, none⟩ = some (.slice da (X q).n dc) ∧ w'.cell? ⟨b, off + q * 9 + 8, none⟩ = some (.bool (X q).fu) ∧ w'.cell? ⟨w.heap.size + 1, 0, none⟩ = some (.string x.key) ∧ w'.cell? ⟨w.heap.size + 1, 1, none⟩ = some (.int .i64 x.seq) ∧ w'.cell? ⟨w.heap.size + 1, 2, none⟩ = some (.int .i64 x.kind) ∧ w'.cell? ⟨w.heap.size + 1, 3, none⟩ = some (.int .i64 x.c) ∧ w'.cell? ⟨w.heap.size + 1, 4, none⟩ = some (.int .i64 x.s) ∧ w'.cell? ⟨w.heap.size + 1, 5, none⟩ = some (.int .i64 x.lo) ∧ w'.cell? ⟨w.heap.size + 1, 6, none⟩ = some (.int .i64 x.hi) ∧ w'.cell? ⟨w.heap.size + 1, 7, none⟩ = some (.slice ao x.n hc) ∧ w'.cell? ⟨w.heap.size + 1, 8, none⟩ = some (.bool x.fu)) (go_keep) (first | (go_at_call 45; refine (hcc2 _).mono ?_; rintro e w6 ⟨rfl, hb6⟩; have hb6' := (Below.refl _ wr).drew.trans hb6; obtain ⟨_, p0, p1, p2, p3, p4, p5, p6, p7, p8⟩ := ea1.keep hb6'; obtain ⟨_, q0, q1, q2, q3, q4, q5, q6, q7, q8⟩ := eb1.keep hb6'; simp only [Nat.zero_add] at q1 q2 q3 q4 q5 q6 q7 q8; have y06 := (hb6'.cell (p := ⟨w.heap.size, 0, none⟩) zlr).trans y0; have y26 := (hb6'.cell (p := ⟨w.heap.size, 2, none⟩) zlr).trans y2; have hO6 := hO.keep hb6'; have bk6 := hbk.trans (hb6'.mono hbk.size); clear hb6 hb6'))
            clear hcc2 ea1 eb1 hO hbk a0 a1 a2 a3 a4 a5 a6 a7 a8 b0 b1 b2 b3 b4 b5 b6 b7 b8 p0 p1 p2 p3 p4 p5 p6 p7 p8 q0 q1 q2 q3 q4 q5 q6 q7 q8 y0 y1 y2 y06 y26 bw
            have hsz6 := bk6.size
            have hnx : ∀ W, IOwn W tb 0 n (fun _ => 1) → Calls Try.prog 46 #[.agg #[.slice (some ⟨b, off, none⟩) n kc, .slice (some ⟨tb, 0, none⟩) n n, .func (.func 45) #[] #[]], .int .i64 ((q : Int) + 1), .int .i64 (y : Int)] W fun e w' => e = .returned (.int .i64 (nxO n (y : Int) (q + 1) : Int)) ∧ Below W.heap.size W w' := fun W h => by
              have := next_ones (some ⟨b, off, none⟩) n kc tb (q + 1) (y : Int) W h (by omega) (by omega)
              rwa [show (((q + 1 : Nat)) : Int) = (q : Int) + 1 from by omega] at this
            go_wp2_with (at_builtin; refine wpList_pushI rfl (.tmp 35) (.tmp 37) rfl w1.heap.size _ L (q : Int) rfl hO6 (by omega) rfl (by omega) hsz6 ?_; intro v8 w8 hO8 hg8; have bk8 : Below w1.heap.size w1 w8 := (hO6.keep (below_new w6 _)).below (bk6.alloc hsz6 _) hg8 (Nat.le_refl _) (by simp; omega); have x0 := (bk8.cell (p := ⟨w.heap.size, 0, none⟩) (Nat.lt_of_succ_lt zl)).trans z0; have x1 := (bk8.cell (p := ⟨w.heap.size, 1, none⟩) (Nat.lt_of_succ_lt zl)).trans z1; have x2 := (bk8.cell (p := ⟨w.heap.size, 2, none⟩) (Nat.lt_of_succ_lt zl)).trans z2; have bw8 : Below w.heap.size w w8 := hB.trans (bk8.mono (by omega)); clear hg8 hO6 bk6 hsz6)
            refine (hnx _ (ht.keep bw8)).mono ?_
            rintro e w9 ⟨rfl, hb9⟩
            have bk9 := bk8.trans (hb9.mono bk8.size)
            have hO9 := hO8.keep hb9
            clear hnx hb9 x0 x1 x2 bw8 bk8 hO8
            go_wp2
            go_roundw
            case rel => exact ⟨q + 1, L ++ [(q : Int)], by go_num, rfl, by omega, by simp; omega, hO9, fun h => by have := HY1.out; omega, fun _ => HP2, bk9⟩
            case measure => simp [intOf]; omega
          · have hcd : decide (cv < 0) = false := by simpa using hcmp
            have HP2 : Hid (q = P) := by
              have := HPc.out
              rwa [pc_stop hlt (by rw [HCV.out]; exact hcmp)] at this
            clear HPc hcmp
            go_wp2
            go_region_held3 (fun w' => w'.cell? ⟨w.heap.size, 0, none⟩ = some (.slice (some ⟨b, off, none⟩) n kc) ∧ w'.cell? ⟨w.heap.size, 2, none⟩ = some (.func (.func 45) #[] #[]) ∧ w'.cell? ⟨b, off + q * 9, none⟩ = some (.string (X q).key) ∧ w'.cell? ⟨b, off + q * 9 + 1, none⟩ = some (.int .i64 (X q).seq) ∧ w'.cell? ⟨b, off + q * 9 + 2, none⟩ = some (.int .i64 (X q).kind) ∧ w'.cell? ⟨b, off + q * 9 + 3, none⟩ = some (.int .i64 (X q).c) ∧ w'.cell? ⟨b, off + q * 9 + 4, none⟩ = some (.int .i64 (X q).s) ∧ w'.cell? ⟨b, off + q * 9 + 5, none⟩ = some (.int .i64 (X q).lo) ∧ w'.cell? ⟨b, off + q * 9 + 6, none⟩ = some (.int .i64 (X q).hi) ∧ w'.cell? ⟨b, off + q * 9 + 7, none⟩ = some (.slice da (X q).n dc) ∧ w'.cell? ⟨b, off + q * 9 + 8, none⟩ = some (.bool (X q).fu) ∧ w'.cell? ⟨w.heap.size + 1, 0, none⟩ = some (.string x.key) ∧ w'.cell? ⟨w.heap.size + 1, 1, none⟩ = some (.int .i64 x.seq) ∧ w'.cell? ⟨w.heap.size + 1, 2, none⟩ = some (.int .i64 x.kind) ∧ w'.cell? ⟨w.heap.size + 1, 3, none⟩ = some (.int .i64 x.c) ∧ w'.cell? ⟨w.heap.size + 1, 4, none⟩ = some (.int .i64 x.s) ∧ w'.cell? ⟨w.heap.size + 1, 5, none⟩ = some (.int .i64 x.lo) ∧ w'.cell? ⟨w.heap.size + 1, 6, none⟩ = some (.int .i64 x.hi) ∧ w'.cell? ⟨w.heap.size + 1, 7, none⟩ = some (.slice ao x.n hc) ∧ w'.cell? ⟨w.heap.size + 1, 8, none⟩ = some (.bool x.fu)) (go_keep) (first | (go_at_call 45; refine (hcc2 _).mono ?_; rintro e w6 ⟨rfl, hb6⟩; have hb6' := (Below.refl _ wr).drew.trans hb6; obtain ⟨_, p0, p1, p2, p3, p4, p5, p6, p7, p8⟩ := ea1.keep hb6'; obtain ⟨_, q0, q1, q2, q3, q4, q5, q6, q7, q8⟩ := eb1.keep hb6'; simp only [Nat.zero_add] at q1 q2 q3 q4 q5 q6 q7 q8; have y06 := (hb6'.cell (p := ⟨w.heap.size, 0, none⟩) zlr).trans y0; have y26 := (hb6'.cell (p := ⟨w.heap.size, 2, none⟩) zlr).trans y2; have hO6 := hO.keep hb6'; have bk6 := hbk.trans (hb6'.mono hbk.size); clear hb6 hb6'))
            clear hcc2 ea1 eb1 hO hbk a0 a1 a2 a3 a4 a5 a6 a7 a8 b0 b1 b2 b3 b4 b5 b6 b7 b8 p0 p1 p2 p3 p4 p5 p6 p7 p8 q0 q1 q2 q3 q4 q5 q6 q7 q8 y0 y1 y2 y06 y26 bw
            go_wp2
            go_roundw
            case rel => exact ⟨y', q, L, hy6, by first | rfl | go_num, rfl, hp, hL, hO6, fun h => by have := HY0.out; omega, fun _ => HP2.out, bk6⟩
            case measure => have := HY.out; simp [intOf]; omega
        · have hqn : q = n := by omega
          have HR : Hid ((1 ≤ y' → p = 0) ∧ (y' = 0 → p = P)) := by
            have hyy := HY.out
            rcases hqy with ⟨h1, _⟩ | ⟨h1, h2⟩
            · exact ⟨fun _ => hp0 h1, fun h => by omega⟩
            · refine ⟨fun h => by omega, fun _ => ?_⟩
              have := (hpP h1).out
              rw [pc_end (by omega)] at this
              exact this
          have hqd : decide ((q : Int) < (n : Int)) = false := by simp; omega
          clear hlies hqy hp0 hpP hqn
          go_wp2
          go_quiet (fail)
          go_wp2
          go_roundw
          case rel => exact ⟨y', p, L, hy6, by first | rfl | go_num, rfl, hp, hL, hO.keep (below_drewN (Below.refl _ _) _), HR.out.1, HR.out.2, below_drewN hbk _⟩
          case measure => have := HY.out; simp [intOf]; omega
end Go.Proofs.Ytiigpmhaicfocaa
