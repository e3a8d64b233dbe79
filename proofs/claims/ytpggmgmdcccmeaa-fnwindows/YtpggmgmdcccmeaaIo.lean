/- Many aggs joined, in the program. / The bucket of a value, in the program and in the model. / The bucket of a value in the program, and the law. / The agg of one value, in both texts. / The agg of one value, in the model. / A window put in among windows, by slices.Insert. -/
import Derived.Test.YtpggmgmdcccmeaaTk
import Derived.Test.YtpggmgmdcccmeaaOb
import Derived.Test.YtpggmgmdcccmeaaWr
import Derived.Deep.RegionWith
import Derived.Test.YtpggmgmdcccmeaaIw
import Derived.Test.YtpggmgmdcccmeaaOw
namespace Go.Proofs.Ytpggmgmdcccmeaa
open Go.RowKit
set_option linter.unusedSimpArgs false
set_option linter.unusedVariables false

/-- An agg's six cells at an address. -/
structure AC (w : World) (b off : Nat) (x : Ent) (ao : Option Addr) (cap : Nat) : Prop where
  lt : b < w.heap.size
  c0 : w.cell? ⟨b, off, none⟩ = some (.int .i64 x.c)
  c1 : w.cell? ⟨b, off + 1, none⟩ = some (.int .i64 x.s)
  c2 : w.cell? ⟨b, off + 2, none⟩ = some (.int .i64 x.lo)
  c3 : w.cell? ⟨b, off + 3, none⟩ = some (.int .i64 x.hi)
  c4 : w.cell? ⟨b, off + 4, none⟩ = some (.slice ao x.n cap)
  c5 : w.cell? ⟨b, off + 5, none⟩ = some (.bool x.fu)
theorem AC.keep {w w' : World} {b off : Nat} {x : Ent} {ao : Option Addr} {cap : Nat} (h : AC w b off x ao cap) (hb : Below w.heap.size w w') : AC w' b off x ao cap :=
  have k : ∀ j, w'.cell? ⟨b, j, none⟩ = w.cell? ⟨b, j, none⟩ := fun j => hb.cell (p := ⟨b, j, none⟩) h.lt
  ⟨Nat.lt_of_lt_of_le h.lt hb.size, (k _).trans h.c0, (k _).trans h.c1, (k _).trans h.c2, (k _).trans h.c3, (k _).trans h.c4, (k _).trans h.c5⟩
/-- m aggs lie at ao. -/
def ARow (w : World) (ao : Option Addr) (m : Nat) (Y : Nat → Ent) : Prop :=
  m = 0 ∨ ∃ b off, ao = some ⟨b, off, none⟩ ∧ b < w.heap.size ∧ ∀ i, i < m → ∃ da dc, AC w b (off + i * 6) (Y i) da dc ∧ IRow w da (Y i).n (Y i).f
/-- The first k joined. -/
def jf (Y : Nat → Ent) : Nat → Ent
  | 0 => dZ
  | k + 1 => jn (jf Y k) (Y k)
theorem jf_ai {Y : Nat → Ent} : ∀ {k : Nat}, (∀ i, i < k → GA (Y i)) → AI (jf Y k)
  | 0, _ => ai_zero
  | k + 1, h => ai_jn (jf_ai (fun i hi => h i (by omega))) (h k (by omega))
/-- An agg in answer, its Hist in memory of its own. -/
def JaO (y : Ent) (w : World) (e : Ending) (w' : World) : Prop :=
  ∃ g, e = .returned (.agg #[.int .i64 y.c, .int .i64 y.s, .int .i64 y.lo, .int .i64 y.hi, .slice (some ⟨g, 0, none⟩) 8 8, .bool y.fu]) ∧ w.heap.size ≤ g ∧ IOwn w' g 0 8 y.f ∧ Below w.heap.size w w'
/-- What is gathered. -/
structure JS (w W : World) (B G : Nat) (y : Ent) : Prop where
  A : AAt W B y.c y.s y.lo y.hi (.slice (some ⟨G, 0, none⟩) 8 8) y.fu
  fz : ∀ j, j < 6 → W.frozen? ⟨B, j, none⟩ = false
  H : IOwn W G 0 8 y.f
  R : AAt W w.heap.size 0 0 0 0 (.slice none 0 0) false
  rz : ∀ j, W.frozen? ⟨w.heap.size, j, none⟩ = false
  bw : Below w.heap.size w W
theorem JS.keep {w W W' : World} {B G : Nat} {y : Ent} (h : JS w W B G y) (hb : Below W.heap.size W W') : JS w W' B G y :=
  ⟨h.A.keep hb, fun j hj => (hb.frozen (p := ⟨B, j, none⟩) h.A.lt).trans (h.fz j hj), h.H.keep hb, h.R.keep hb, fun j => (hb.frozen (p := ⟨w.heap.size, j, none⟩) h.R.lt).trans (h.rz j), h.bw.trans (hb.mono h.bw.size)⟩
theorem JS.take {w W W' : World} {B G : Nat} {y y' : Ent} {e : Ending} (h : JS w W B G y) (hB : w.heap.size < B) (hG : w.heap.size < G) (ht : TkO B G y' W e W') : JS w W' B G y' := by
  obtain ⟨_, t1, t2, t3, t4, t5, t6, t7, t8⟩ := ht
  have hb : Below (w.heap.size + 1) W W' := ⟨t4, t5, t6, t7, fun c hc => t8 c (by have := h.R.lt; omega) (by omega) (by omega)⟩
  have k : ∀ j, W'.cell? ⟨w.heap.size, j, none⟩ = W.cell? ⟨w.heap.size, j, none⟩ := fun j => hb.cell (p := ⟨w.heap.size, j, none⟩) (Nat.lt_succ_self _)
  exact ⟨t1, t2, t3, ⟨Nat.lt_of_lt_of_le h.R.lt t7, (k _).trans h.R.c0, (k _).trans h.R.c1, (k _).trans h.R.c2, (k _).trans h.R.c3, (k _).trans h.R.c4, (k _).trans h.R.c5⟩, fun j => (hb.frozen (p := ⟨w.heap.size, j, none⟩) (Nat.lt_succ_self _)).trans (h.rz j), h.bw.trans (hb.mono (Nat.le_succ _))⟩

set_option maxRecDepth 100000 in
set_option maxHeartbeats 4000000 in
theorem joinAll_any (ao : Option Addr) (m cap : Nat) (Y : Nat → Ent) (w : World) (hr : ARow w ao m Y) (hg : ∀ i, i < m → GA (Y i)) (hm : m ≤ 1048576) :
    Calls Try.prog 61 #[.slice ao m cap] w fun e w' => JaO (jf Y m) w e w' := by
  have hB := below_new w (.cells #[.int .i64 0, .int .i64 0, .int .i64 0, .int .i64 0, .slice none 0 0, .bool false] 35)
  have R0 := AAt.new w 0 0 0 0 (.slice none 0 0) false 35
  have F0 : ∀ j, (w.alloc (.cells #[.int .i64 0, .int .i64 0, .int .i64 0, .int .i64 0, .slice none 0 0, .bool false] 35)).frozen? ⟨w.heap.size, j, none⟩ = false := fun j => by simp [go_sem]
  go_enter Try.func61, Try.ntmps61
  go_wp2_with fail
  generalize w.alloc (.cells #[.int .i64 0, .int .i64 0, .int .i64 0, .int .i64 0, .slice none 0 0, .bool false] 35) = w0 at hB R0 F0 ⊢
  refine (zeroAgg_any _).mono ?_
  rintro e w1 ⟨G, rfl, hG, oG, hb1⟩
  have hB2 := below_new w1 (.cells #[.int .i64 0, .int .i64 0, .int .i64 0, .int .i64 0, .slice (some ⟨G, 0, none⟩) 8 8, .bool false] 35)
  have hGl := oG.lt
  have hRl := R0.lt
  have s1 := hb1.size
  have J0 : JS w (w1.alloc (.cells #[.int .i64 0, .int .i64 0, .int .i64 0, .int .i64 0, .slice (some ⟨G, 0, none⟩) 8 8, .bool false] 35)) w1.heap.size G dZ := ⟨AAt.new w1 0 0 0 0 (.slice (some ⟨G, 0, none⟩) 8 8) false 35, fun j hj => by simp [go_sem], oG.keep hB2, (R0.keep hb1).keep hB2, fun j => (hB2.frozen (p := ⟨w.heap.size, j, none⟩) (by show w.heap.size < _; omega)).trans ((hb1.frozen (p := ⟨w.heap.size, j, none⟩) hRl).trans (F0 j)), (hB.trans (hb1.mono hB.size)).trans (hB2.mono (by have := hB.size; omega))⟩
  go_wp2
  generalize w1.alloc (.cells #[.int .i64 0, .int .i64 0, .int .i64 0, .int .i64 0, .slice (some ⟨G, 0, none⟩) 8 8, .bool false] 35) = w2 at hB2 J0 ⊢
  clear oG R0 F0 hB hb1 hB2
  go_loopw [9] (fun i wr => ∃ k : Nat, k ≤ m ∧ i = .int .i64 k ∧ JS w wr w1.heap.size G (jf Y k)) (fun i _ => m - (intOf i).toNat)
  case atStart => exact ⟨0, Nat.zero_le _, rfl, J0⟩
  case round =>
    clear J0
    obtain ⟨k, hk, rfl, J⟩ := hrel
    by_cases hlt : k < m
    · obtain ⟨b, off, rfl, hblt, hc⟩ := hr.resolve_left (by omega)
      obtain ⟨da, dc, ea, ir⟩ := hc k hlt
      have ir2 := ir.keep J.bw
      obtain ⟨_, a0, a1, a2, a3, a4, a5⟩ := ea.keep J.bw
      have hbn := below_new wr (.cells #[.int .i64 (Y k).c, .int .i64 (Y k).s, .int .i64 (Y k).lo, .int .i64 (Y k).hi, .slice da (Y k).n dc, .bool (Y k).fu] 35)
      have Jn := J.keep hbn
      have hgk := hg k hlt
      have hT := take_any w1.heap.size G (jf Y k) (Y k) da dc (wr.alloc (.cells #[.int .i64 (Y k).c, .int .i64 (Y k).s, .int .i64 (Y k).lo, .int .i64 (Y k).hi, .slice da (Y k).n dc, .bool (Y k).fu] 35)) Jn.A Jn.fz Jn.H (by omega) (ir2.keep hbn) (fun g off p e => by
        have h8 := hgk.n
        obtain ⟨g', o', e', hl', _⟩ := ir.lies.resolve_left (by omega)
        rw [e] at e'
        injection e' with e'
        injection e' with e1 _ _
        omega) (jf_ai (fun i hi => hg i (by omega))) hgk
      clear hc hr ea ir ir2
      go_wp2_with fail
      refine hT.mono ?_
      rintro e w5 ht
      have J5 : JS w w5 w1.heap.size G (jf Y (k + 1)) := Jn.take (by omega) (by omega) ht
      obtain ⟨v5, rfl⟩ := ht.1
      clear hT ht Jn J
      go_wp2
      go_roundw
      case rel => exact ⟨k + 1, by omega, by go_num, J5⟩
      case measure => simp [intOf]; omega
    · obtain rfl : k = m := by omega
      have JA := J.A
      have JR := J.R
      have Jz := J.rz
      obtain ⟨_, c0, c1, c2, c3, c4, c5⟩ := JA
      obtain ⟨_, r0, r1, r2, r3, r4, r5⟩ := JR
      have JH := J.H
      have Jb := J.bw
      clear hr J
      go_wp2
      refine bodyPost_ret (v := .agg #[.int .i64 (jf Y k).c, .int .i64 (jf Y k).s, .int .i64 (jf Y k).lo, .int .i64 (jf Y k).hi, .slice (some ⟨G, 0, none⟩) 8 8, .bool (jf Y k).fu]) (by simp [results, Try.results61, go_sem, r0, r1, r2, r3, r4, r5]) rfl ⟨G, rfl, by omega, ?_, ?_⟩
      · repeat' refine iown_others ?_ (Others.setCell _ _ _ _) (by omega)
        exact JH
      · repeat' refine Below.setCell ?_ (by first | (simp; done) | (simp; omega)) _
        exact Jb
end Go.Proofs.Ytpggmgmdcccmeaa
namespace Go.Proofs.Ytpggmgmdcccmeaa
open Go.RowKit
set_option linter.unusedSimpArgs false
set_option linter.unusedVariables false

/-- The bucket of a value. -/
def bk (v : Int) : Int :=
  if v < 0 then 0 else if v < 1 then 1 else if v < 10 then 2 else if v < 100 then 3 else if v < 1000 then 4 else if v < 10000 then 5 else if v < 100000 then 6 else 7
def bkAll (v : Int) : Int := if isV v then bk v else -1

def tenTo : Nat → Int
  | 0 => 1
  | k + 1 => tenTo k * 10
theorem tenTo_bd (k : Nat) (h : k ≤ 6) : 1 ≤ tenTo k ∧ tenTo k ≤ 1000000 := by
  have : k = 0 ∨ k = 1 ∨ k = 2 ∨ k = 3 ∨ k = 4 ∨ k = 5 ∨ k = 6 := by omega
  rcases this with rfl | rfl | rfl | rfl | rfl | rfl | rfl <;> simp [tenTo]

set_option maxHeartbeats 800000 in
theorem l4Bucket_any (v : Int) (w : World) (hv : isV v = true) :
    Calls Try.prog 62 #[.int .i64 v] w fun e w' => e = .returned (.int .i64 (bk v)) ∧ w' = w := by
  have hb : -1000000000 ≤ v ∧ v ≤ 1000000000 := by simpa [isV, btw] using hv
  by_cases h0 : v < 0
  · go_enter Try.func62, Try.ntmps62
    go_wp2
    go_ret
    exact ⟨by simp [bk, h0], rfl⟩
  · go_enter Try.func62, Try.ntmps62
    go_wp2
    go_loopw [3, 4] (fun q t wr => ∃ k : Nat, k ≤ 6 ∧ q = .int .i64 ((k + 1 : Nat) : Int) ∧ t = .int .i64 (tenTo k) ∧ (∀ j, j < k → tenTo j ≤ v) ∧ wr = w) (fun q _ _ => 7 - (intOf q).toNat)
    case atStart => exact ⟨0, by omega, rfl, rfl, by omega, rfl⟩
    case round =>
      obtain ⟨k, hk, rfl, rfl, hle, rfl⟩ := hrel
      have ht := tenTo_bd k hk
      have hfin : ¬ (k < 6 ∧ tenTo k ≤ v) → bk v = ((k + 1 : Nat) : Int) := by
        intro hn
        have hc : k = 0 ∨ k = 1 ∨ k = 2 ∨ k = 3 ∨ k = 4 ∨ k = 5 ∨ k = 6 := by omega
        rcases hc with rfl | rfl | rfl | rfl | rfl | rfl | rfl
        · simp [tenTo] at hn; simp only [bk]; repeat' split
          all_goals omega
        · have := hle 0 (by omega); simp [tenTo] at hn this; simp only [bk]; repeat' split
          all_goals omega
        · have := hle 1 (by omega); simp [tenTo] at hn this; simp only [bk]; repeat' split
          all_goals omega
        · have := hle 2 (by omega); simp [tenTo] at hn this; simp only [bk]; repeat' split
          all_goals omega
        · have := hle 3 (by omega); simp [tenTo] at hn this; simp only [bk]; repeat' split
          all_goals omega
        · have := hle 4 (by omega); simp [tenTo] at hn this; simp only [bk]; repeat' split
          all_goals omega
        · have := hle 5 (by omega); simp [tenTo] at this; simp only [bk]; repeat' split
          all_goals omega
      by_cases h6 : k < 6
      · by_cases hlt : tenTo k ≤ v
        · clear hfin
          go_wp2
          go_roundw
          case rel =>
            refine ⟨k + 1, by omega, by go_num, by go_num, fun j hj => ?_, trivial⟩
            rcases Nat.lt_succ_iff_lt_or_eq.1 hj with h | rfl
            · exact hle j h
            · exact hlt
          case measure => simp [intOf]; omega
        · have e := hfin (by omega)
          clear hfin
          go_wp2
          go_ret
          exact ⟨rfl, rfl⟩
      · have e := hfin (by omega)
        clear hfin
        go_wp2
        go_ret
        exact ⟨rfl, rfl⟩
end Go.Proofs.Ytpggmgmdcccmeaa
namespace Go.Proofs.Ytpggmgmdcccmeaa
open Go.RowKit
set_option linter.unusedSimpArgs false
set_option linter.unusedVariables false

theorem bucket_impl_no (v : Int) (w : World) (hv : isV v = false) :
    Calls Try.prog 75 #[.int .i64 v] w fun e w' => e = .returned (.int .i64 (-1)) ∧ w' = w := by
  go_enter Try.func75, Try.ntmps75
  go_wp2_with fail
  refine (isValue_any v _).mono ?_
  rintro e w1 ⟨rfl, rfl⟩
  go_wp2
  go_ret
  exact ⟨rfl, rfl⟩
set_option maxHeartbeats 800000 in
theorem bucket_impl_a (v : Int) (w : World) (hv : isV v = true)  (h0 : 99999 < v) :
    Calls Try.prog 75 #[.int .i64 v] w fun e w' => e = .returned (.int .i64 7) ∧ w' = w := by
  go_enter Try.func75, Try.ntmps75
  go_wp2_with fail
  refine (isValue_any v _).mono ?_
  rintro e w1 ⟨rfl, rfl⟩
  go_wp2
  go_ret
  exact ⟨rfl, rfl⟩

set_option maxHeartbeats 800000 in
theorem bucket_impl_b (v : Int) (w : World) (hv : isV v = true) (h0 : ¬ 99999 < v) (h1 : 9999 < v) :
    Calls Try.prog 75 #[.int .i64 v] w fun e w' => e = .returned (.int .i64 6) ∧ w' = w := by
  go_enter Try.func75, Try.ntmps75
  go_wp2_with fail
  refine (isValue_any v _).mono ?_
  rintro e w1 ⟨rfl, rfl⟩
  go_wp2
  go_ret
  exact ⟨rfl, rfl⟩

set_option maxHeartbeats 800000 in
theorem bucket_impl_c (v : Int) (w : World) (hv : isV v = true) (h0 : ¬ 99999 < v) (h1 : ¬ 9999 < v) (h2 : 999 < v) :
    Calls Try.prog 75 #[.int .i64 v] w fun e w' => e = .returned (.int .i64 5) ∧ w' = w := by
  go_enter Try.func75, Try.ntmps75
  go_wp2_with fail
  refine (isValue_any v _).mono ?_
  rintro e w1 ⟨rfl, rfl⟩
  go_wp2
  go_ret
  exact ⟨rfl, rfl⟩

set_option maxHeartbeats 800000 in
theorem bucket_impl_d (v : Int) (w : World) (hv : isV v = true) (h0 : ¬ 99999 < v) (h1 : ¬ 9999 < v) (h2 : ¬ 999 < v) (h3 : 99 < v) :
    Calls Try.prog 75 #[.int .i64 v] w fun e w' => e = .returned (.int .i64 4) ∧ w' = w := by
  go_enter Try.func75, Try.ntmps75
  go_wp2_with fail
  refine (isValue_any v _).mono ?_
  rintro e w1 ⟨rfl, rfl⟩
  go_wp2
  go_ret
  exact ⟨rfl, rfl⟩

set_option maxHeartbeats 800000 in
theorem bucket_impl_e (v : Int) (w : World) (hv : isV v = true) (h0 : ¬ 99999 < v) (h1 : ¬ 9999 < v) (h2 : ¬ 999 < v) (h3 : ¬ 99 < v) (h4 : 9 < v) :
    Calls Try.prog 75 #[.int .i64 v] w fun e w' => e = .returned (.int .i64 3) ∧ w' = w := by
  go_enter Try.func75, Try.ntmps75
  go_wp2_with fail
  refine (isValue_any v _).mono ?_
  rintro e w1 ⟨rfl, rfl⟩
  go_wp2
  go_ret
  exact ⟨rfl, rfl⟩

set_option maxHeartbeats 800000 in
theorem bucket_impl_f (v : Int) (w : World) (hv : isV v = true) (h0 : ¬ 99999 < v) (h1 : ¬ 9999 < v) (h2 : ¬ 999 < v) (h3 : ¬ 99 < v) (h4 : ¬ 9 < v) (h5 : 0 < v) :
    Calls Try.prog 75 #[.int .i64 v] w fun e w' => e = .returned (.int .i64 2) ∧ w' = w := by
  go_enter Try.func75, Try.ntmps75
  go_wp2_with fail
  refine (isValue_any v _).mono ?_
  rintro e w1 ⟨rfl, rfl⟩
  go_wp2
  go_ret
  exact ⟨rfl, rfl⟩

set_option maxHeartbeats 800000 in
theorem bucket_impl_g (v : Int) (w : World) (hv : isV v = true) (h0 : ¬ 99999 < v) (h1 : ¬ 9999 < v) (h2 : ¬ 999 < v) (h3 : ¬ 99 < v) (h4 : ¬ 9 < v) (h5 : ¬ 0 < v) (h6 : v = 0) :
    Calls Try.prog 75 #[.int .i64 v] w fun e w' => e = .returned (.int .i64 1) ∧ w' = w := by
  subst h6
  go_enter Try.func75, Try.ntmps75
  go_wp2_with fail
  refine (isValue_any 0 _).mono ?_
  rintro e w1 ⟨rfl, rfl⟩
  go_wp2
  go_ret
  exact ⟨rfl, rfl⟩

set_option maxHeartbeats 800000 in
theorem bucket_impl_h (v : Int) (w : World) (hv : isV v = true) (h0 : ¬ 99999 < v) (h1 : ¬ 9999 < v) (h2 : ¬ 999 < v) (h3 : ¬ 99 < v) (h4 : ¬ 9 < v) (h5 : ¬ 0 < v) (h6 : v < 0) :
    Calls Try.prog 75 #[.int .i64 v] w fun e w' => e = .returned (.int .i64 0) ∧ w' = w := by
  go_enter Try.func75, Try.ntmps75
  go_wp2_with fail
  refine (isValue_any v _).mono ?_
  rintro e w1 ⟨rfl, rfl⟩
  go_wp2
  go_ret
  exact ⟨rfl, rfl⟩

theorem bucket_impl_yes (v : Int) (w : World) (hv : isV v = true) :
    Calls Try.prog 75 #[.int .i64 v] w fun e w' => e = .returned (.int .i64 (bk v)) ∧ w' = w := by
  by_cases h0 : 99999 < v
  · have e : bk v = 7 := by (simp only [bk]; repeat' split) <;> omega
    rw [e]; exact bucket_impl_a v w hv h0
  by_cases h1 : 9999 < v
  · have e : bk v = 6 := by (simp only [bk]; repeat' split) <;> omega
    rw [e]; exact bucket_impl_b v w hv h0 h1
  by_cases h2 : 999 < v
  · have e : bk v = 5 := by (simp only [bk]; repeat' split) <;> omega
    rw [e]; exact bucket_impl_c v w hv h0 h1 h2
  by_cases h3 : 99 < v
  · have e : bk v = 4 := by (simp only [bk]; repeat' split) <;> omega
    rw [e]; exact bucket_impl_d v w hv h0 h1 h2 h3
  by_cases h4 : 9 < v
  · have e : bk v = 3 := by (simp only [bk]; repeat' split) <;> omega
    rw [e]; exact bucket_impl_e v w hv h0 h1 h2 h3 h4
  by_cases h5 : 0 < v
  · have e : bk v = 2 := by (simp only [bk]; repeat' split) <;> omega
    rw [e]; exact bucket_impl_f v w hv h0 h1 h2 h3 h4 h5
  by_cases h6 : v = 0
  · have e : bk v = 1 := by (simp only [bk]; repeat' split) <;> omega
    rw [e]; exact bucket_impl_g v w hv h0 h1 h2 h3 h4 h5 h6
  · have e : bk v = 0 := by (simp only [bk]; repeat' split) <;> omega
    rw [e]; exact bucket_impl_h v w hv h0 h1 h2 h3 h4 h5 (by omega)

end Go.Proofs.Ytpggmgmdcccmeaa
namespace Go.Proofs.Ytpggmgmdcccmeaa
open Go.RowKit
set_option linter.unusedSimpArgs false
set_option linter.unusedVariables false

/-- The agg of one value, in numbers. -/
def oA (v : Int) : Ent := ⟨.empty, 0, 0, 1, v, v, v, 8, fun i => if i = (bk v).toNat then 1 else 0, false⟩
theorem bk_nat (v : Int) : ∃ q : Nat, q < 8 ∧ bk v = (q : Int) := by
  have h : 0 ≤ bk v ∧ bk v ≤ 7 := by (simp only [bk]; repeat' split) <;> omega
  exact ⟨(bk v).toNat, by omega, by omega⟩
theorem oA_f {v : Int} {q : Nat} (e : bk v = (q : Int)) : (oA v).f = fun i => if i = q then 1 else 0 := by
  simp [oA, e]
/-- An agg of one value and true. -/
def AoY (v : Int) (f : Nat → Int) (w : World) (e : Ending) (w' : World) : Prop :=
  ∃ g, e = .returned (.tuple #[.agg #[.int .i64 1, .int .i64 v, .int .i64 v, .int .i64 v, .slice (some ⟨g, 0, none⟩) 8 8, .bool false], .bool true]) ∧ w.heap.size ≤ g ∧ IOwn w' g 0 8 f ∧ Below w.heap.size w w'
/-- An agg of one value. -/
def OfY (v : Int) (f : Nat → Int) (w : World) (e : Ending) (w' : World) : Prop :=
  ∃ g, e = .returned (.agg #[.int .i64 1, .int .i64 v, .int .i64 v, .int .i64 v, .slice (some ⟨g, 0, none⟩) 8 8, .bool false]) ∧ w.heap.size ≤ g ∧ IOwn w' g 0 8 f ∧ Below w.heap.size w w'
/-- The box B with its agg, the row G, one of it set. -/
theorem ago_set {w1 w4 : World} {B G R q : Nat} {c s lo hi : Int} {hv : Value} {fu : Bool} (A : AAt w4 B c s lo hi hv fu) (H : IOwn w4 G 0 8 (fun _ => 0)) (RR : AAt w4 R 0 0 0 0 (.slice none 0 0) false) (F : ∀ j, w4.frozen? ⟨R, j, none⟩ = false) (hBG : B ≠ G) (hRG : R ≠ G) (hq : q < 8) :
    AAt (w4.setCell ⟨G, q, none⟩ (.int .i64 1)).drew B c s lo hi hv fu ∧ IOwn (w4.setCell ⟨G, q, none⟩ (.int .i64 1)).drew G 0 8 (fun i => if i = q then 1 else 0) ∧ AAt (w4.setCell ⟨G, q, none⟩ (.int .i64 1)).drew R 0 0 0 0 (.slice none 0 0) false ∧ ∀ j, (w4.setCell ⟨G, q, none⟩ (.int .i64 1)).drew.frozen? ⟨R, j, none⟩ = false := by
  have ho : Others G w4 (w4.setCell ⟨G, q, none⟩ (.int .i64 1)) := Others.setCell _ _ _ _
  have hd : Below (w4.setCell ⟨G, q, none⟩ (.int .i64 1)).heap.size (w4.setCell ⟨G, q, none⟩ (.int .i64 1)) (w4.setCell ⟨G, q, none⟩ (.int .i64 1)).drew := (Below.refl _ _).drew
  refine ⟨(A.others ho hBG).keep hd, ?_, (RR.others ho hRG).keep hd, fun j => (hd.frozen (p := ⟨R, j, none⟩) (RR.others ho hRG).lt).trans ((frozen_set _ _ _ _).trans (F j))⟩
  have := (H.store q hq 1 (by omega))
  rw [Nat.zero_add] at this
  exact this.keep hd

set_option maxRecDepth 100000 in
set_option maxHeartbeats 2000000 in
theorem aggOf_no (v : Int) (w : World) (hv : isV v = false) :
    Calls Try.prog 58 #[.int .i64 v] w fun e w' => ∃ G, e = .returned (.tuple #[.agg #[.int .i64 0, .int .i64 0, .int .i64 0, .int .i64 0, .slice (some ⟨G, 0, none⟩) 8 8, .bool false], .bool false]) ∧ Below w.heap.size w w' := by
  have hB := below_new w (.cells #[.int .i64 0, .int .i64 0, .int .i64 0, .int .i64 0, .slice none 0 0, .bool false] 35)
  have R0 := AAt.new w 0 0 0 0 (.slice none 0 0) false 35
  have F0 : ∀ j, (w.alloc (.cells #[.int .i64 0, .int .i64 0, .int .i64 0, .int .i64 0, .slice none 0 0, .bool false] 35)).frozen? ⟨w.heap.size, j, none⟩ = false := fun j => by simp [go_sem]
  go_enter Try.func58, Try.ntmps58
  go_wp2_with fail
  generalize w.alloc (.cells #[.int .i64 0, .int .i64 0, .int .i64 0, .int .i64 0, .slice none 0 0, .bool false] 35) = w0 at hB R0 F0 ⊢
  refine (zeroAgg_any _).mono ?_
  rintro e w1 ⟨G, rfl, hG, oG, hb1⟩
  have hB2 := below_new w1 (.cells #[.int .i64 0, .int .i64 0, .int .i64 0, .int .i64 0, .slice (some ⟨G, 0, none⟩) 8 8, .bool false] 35)
  have N2 := AAt.new w1 0 0 0 0 (.slice (some ⟨G, 0, none⟩) 8 8) false 35
  have R2 := (R0.keep hb1).keep hB2
  have F2 : ∀ j, (w1.alloc (.cells #[.int .i64 0, .int .i64 0, .int .i64 0, .int .i64 0, .slice (some ⟨G, 0, none⟩) 8 8, .bool false] 35)).frozen? ⟨w.heap.size, j, none⟩ = false := fun j => (hB2.frozen (p := ⟨w.heap.size, j, none⟩) (R0.keep hb1).lt).trans ((hb1.frozen (p := ⟨w.heap.size, j, none⟩) R0.lt).trans (F0 j))
  have bw2 : Below w.heap.size w (w1.alloc (.cells #[.int .i64 0, .int .i64 0, .int .i64 0, .int .i64 0, .slice (some ⟨G, 0, none⟩) 8 8, .bool false] 35)) := (hB.trans (hb1.mono hB.size)).trans (hB2.mono (Nat.le_of_lt (R0.keep hb1).lt))
  have hlt : w.heap.size < w1.heap.size := (R0.keep hb1).lt
  clear R0 F0 hb1 hB2 oG
  go_wp2_with fail
  generalize w1.alloc (.cells #[.int .i64 0, .int .i64 0, .int .i64 0, .int .i64 0, .slice (some ⟨G, 0, none⟩) 8 8, .bool false] 35) = w2 at N2 R2 F2 bw2 ⊢
  refine (isValue_any v _).mono ?_
  rintro e w3 ⟨rfl, rfl⟩
  obtain ⟨_, a0, a1, a2, a3, a4, a5⟩ := N2
  obtain ⟨_, r0, r1, r2, r3, r4, r5⟩ := R2
  go_wp2
  refine bodyPost_ret (v := .tuple #[.agg #[.int .i64 0, .int .i64 0, .int .i64 0, .int .i64 0, .slice (some ⟨G, 0, none⟩) 8 8, .bool false], .bool false]) (by simp [results, Try.results58, go_sem, r0, r1, r2, r3, r4, r5]) rfl ⟨_, rfl, ?_⟩
  repeat' refine Below.setCell ?_ (by first | (simp; done) | (simp; omega)) _
  exact bw2

set_option maxRecDepth 100000 in
set_option maxHeartbeats 4000000 in
theorem aggOf_yes (v : Int) (w : World) (hv : isV v = true) :
    Calls Try.prog 58 #[.int .i64 v] w fun e w' => AoY v (oA v).f w e w' := by
  obtain ⟨q, hq, eq⟩ := bk_nat v
  have hcall : ∀ W, Calls Try.prog 75 #[.int .i64 v] W fun e w' => e = .returned (.int .i64 (q : Int)) ∧ w' = W := fun W => by rw [← eq]; exact bucket_impl_yes v W hv
  rw [oA_f eq]
  clear eq
  have hB := below_new w (.cells #[.int .i64 0, .int .i64 0, .int .i64 0, .int .i64 0, .slice none 0 0, .bool false] 35)
  have R0 := AAt.new w 0 0 0 0 (.slice none 0 0) false 35
  have F0 : ∀ j, (w.alloc (.cells #[.int .i64 0, .int .i64 0, .int .i64 0, .int .i64 0, .slice none 0 0, .bool false] 35)).frozen? ⟨w.heap.size, j, none⟩ = false := fun j => by simp [go_sem]
  go_enter Try.func58, Try.ntmps58
  go_wp2_with fail
  generalize w.alloc (.cells #[.int .i64 0, .int .i64 0, .int .i64 0, .int .i64 0, .slice none 0 0, .bool false] 35) = w0 at hB R0 F0 ⊢
  refine (zeroAgg_any _).mono ?_
  rintro e w1 ⟨G, rfl, hG, oG, hb1⟩
  have hB2 := below_new w1 (.cells #[.int .i64 0, .int .i64 0, .int .i64 0, .int .i64 0, .slice (some ⟨G, 0, none⟩) 8 8, .bool false] 35)
  have O2 : OB w1 (w1.alloc (.cells #[.int .i64 0, .int .i64 0, .int .i64 0, .int .i64 0, .slice (some ⟨G, 0, none⟩) 8 8, .bool false] 35)) w1.heap.size 0 0 0 0 (.slice (some ⟨G, 0, none⟩) 8 8) false := ⟨AAt.new w1 0 0 0 0 (.slice (some ⟨G, 0, none⟩) 8 8) false 35, fun j => by simp [go_sem], hB2⟩
  have R1 := R0.keep hb1
  have F1 : ∀ j, w1.frozen? ⟨w.heap.size, j, none⟩ = false := fun j => (hb1.frozen (p := ⟨w.heap.size, j, none⟩) R0.lt).trans (F0 j)
  have bw1 : Below w.heap.size w w1 := hB.trans (hb1.mono hB.size)
  have hlt : w.heap.size < w1.heap.size := R1.lt
  have hGw : w.heap.size ≠ G := by have := R0.lt; omega
  have hGl := oG.lt
  have hwG : w.heap.size ≤ G := by have := R0.lt; omega
  clear R0 F0 hb1 hB hB2 hG
  go_wp2_with fail
  generalize w1.alloc (.cells #[.int .i64 0, .int .i64 0, .int .i64 0, .int .i64 0, .slice (some ⟨G, 0, none⟩) 8 8, .bool false] 35) = w2 at O2 ⊢
  refine (isValue_any v _).mono ?_
  rintro e w3 ⟨rfl, rfl⟩
  have O4 := (((O2.set0 1).set1 v).set2 v).set3 v
  have R4 := R1.keep O4.bw
  have F4 := fun j => (O4.bw.frozen (p := ⟨w.heap.size, j, none⟩) hlt).trans (F1 j)
  have H4 := oG.keep O4.bw
  have bw4 := bw1.trans (O4.bw.mono (Nat.le_of_lt hlt))
  obtain ⟨A2, z2, _⟩ := O2
  obtain ⟨_, a0, a1, a2, a3, a4, a5⟩ := A2
  obtain ⟨A4, z4, _⟩ := O4
  clear oG R1 F1 bw1
  go_wp2
  generalize (((w3.setCell ⟨w1.heap.size, 0, none⟩ (.int .i64 1)).setCell ⟨w1.heap.size, 1, none⟩ (.int .i64 v)).setCell ⟨w1.heap.size, 2, none⟩ (.int .i64 v)).setCell ⟨w1.heap.size, 3, none⟩ (.int .i64 v) = w4 at A4 z4 R4 F4 H4 bw4 ⊢
  clear a0 a1 a2 a3 a4 a5 z2
  obtain ⟨A5, H5, R5, F5⟩ := ago_set (w1 := w1) A4 H4 R4 F4 (by omega) hGw hq
  have bw5 : Below w.heap.size w (w4.setCell ⟨G, q, none⟩ (.int .i64 1)).drew := (Below.setCell bw4 (by simpa using hwG) _).drew
  have hc := H4.cell q hq
  have hf := H4.free q hq
  rw [Nat.zero_add] at hc hf
  obtain ⟨_, b0, b1, b2, b3, b4, b5⟩ := A4
  clear R4 F4 H4 bw4
  go_region_with (first | (go_at_call 75; refine (hcall _).mono ?_; rintro e w6 ⟨rfl, rfl⟩))
  all_goals
    clear hcall b0 b1 b2 b3 b4 b5 z4 hc hf
    generalize (w4.setCell ⟨G, q, none⟩ (.int .i64 1)).drew = w5 at A5 H5 R5 F5 bw5 ⊢
    obtain ⟨_, c0, c1, c2, c3, c4, c5⟩ := A5
    obtain ⟨_, r0, r1, r2, r3, r4, r5⟩ := R5
    go_wp2
    show bodyPost Try.prog Try.f58 (fun e w' => AoY v (fun i => if i = q then 1 else 0) w e w') _ _ _
    refine bodyPost_ret (v := .tuple #[.agg #[.int .i64 1, .int .i64 v, .int .i64 v, .int .i64 v, .slice (some ⟨G, 0, none⟩) 8 8, .bool false], .bool true]) (by simp [results, Try.results58, go_sem, r0, r1, r2, r3, r4, r5]) rfl ⟨G, rfl, hwG, ?_, ?_⟩
    · repeat' refine iown_others ?_ (Others.setCell _ _ _ _) (Ne.symm hGw)
      exact H5
    · repeat' refine Below.setCell ?_ (by first | (simp; done) | (simp; omega)) _
      exact bw5
end Go.Proofs.Ytpggmgmdcccmeaa
namespace Go.Proofs.Ytpggmgmdcccmeaa
open Go.RowKit
set_option linter.unusedSimpArgs false
set_option linter.unusedVariables false

set_option maxRecDepth 100000 in
set_option maxHeartbeats 4000000 in
theorem l4Of_any (v : Int) (w : World) (hv : isV v = true) :
    Calls Try.prog 35 #[.int .i64 v] w fun e w' => OfY v (oA v).f w e w' := by
  obtain ⟨q, hq, eq⟩ := bk_nat v
  have hcall : ∀ W, Calls Try.prog 62 #[.int .i64 v] W fun e w' => e = .returned (.int .i64 (q : Int)) ∧ w' = W := fun W => by rw [← eq]; exact l4Bucket_any v W hv
  rw [oA_f eq]
  clear eq
  obtain ⟨i0, hi, hz0, hz1, hz2⟩ := info_parts Try.infoInt
  have hB := below_new w (.cells #[.int .i64 0, .int .i64 0, .int .i64 0, .int .i64 0, .slice none 0 0, .bool false] 35)
  have R0 := AAt.new w 0 0 0 0 (.slice none 0 0) false 35
  have F0 : ∀ j, (w.alloc (.cells #[.int .i64 0, .int .i64 0, .int .i64 0, .int .i64 0, .slice none 0 0, .bool false] 35)).frozen? ⟨w.heap.size, j, none⟩ = false := fun j => by simp [go_sem]
  go_enter Try.func35, Try.ntmps35
  go_wp2_with (at_make; generalize w.alloc (.cells #[.int .i64 0, .int .i64 0, .int .i64 0, .int .i64 0, .slice none 0 0, .bool false] 35) = w0 at hB R0 F0 ⊢; refine wpList_make_full _ rfl (.const (.int .i64 8)) (.const (.int .i64 8)) 33 rfl w0.heap.size 3 i0 (.int .i64 0) 1 Try.underlying33 hi hz0 hz1 .i64 .i64 _ _ 8 rfl rfl rfl rfl (by rw [hz2]; omega) (by unfold maxLen; omega) (Nat.le_refl _) ?_; intro w1 hown hgrow; have hb1 : Below w0.heap.size w0 w1 := (Below.refl _ _).grown hgrow (Nat.le_refl _) (fun k h => by simp at h))
  have hGl : w0.heap.size < w1.heap.size := by
    rcases hown.2 with ⟨h, _⟩ | ⟨g', cap', cur, h, _, hg, _⟩
    · simp at h
    · simp at h; obtain ⟨rfl, _⟩ := h
      exact (Array.getElem?_eq_some_iff.1 hg).1
  have oG := iown_of_made hown hGl
  have hB2 := below_new w1 (.cells #[.int .i64 1, .int .i64 v, .int .i64 v, .int .i64 v, .slice (some ⟨w0.heap.size, 0, none⟩) 8 8, .bool false] 35)
  have A4 := AAt.new w1 1 v v v (.slice (some ⟨w0.heap.size, 0, none⟩) 8 8) false 35
  have z4 : ∀ j, (w1.alloc (.cells #[.int .i64 1, .int .i64 v, .int .i64 v, .int .i64 v, .slice (some ⟨w0.heap.size, 0, none⟩) 8 8, .bool false] 35)).frozen? ⟨w1.heap.size, j, none⟩ = false := fun j => by simp [go_sem]
  have R1 := R0.keep hb1
  have R4 := R1.keep hB2
  have F4 := fun j => (hB2.frozen (p := ⟨w.heap.size, j, none⟩) R1.lt).trans ((hb1.frozen (p := ⟨w.heap.size, j, none⟩) R0.lt).trans (F0 j))
  have H4 := oG.keep hB2
  have hlt : w.heap.size < w1.heap.size := R1.lt
  have hGw : w.heap.size ≠ w0.heap.size := by have := R0.lt; omega
  have hwG : w.heap.size ≤ w0.heap.size := hB.size
  have bw4 : Below w.heap.size w (w1.alloc (.cells #[.int .i64 1, .int .i64 v, .int .i64 v, .int .i64 v, .slice (some ⟨w0.heap.size, 0, none⟩) 8 8, .bool false] 35)) := (hB.trans (hb1.mono hB.size)).trans (hB2.mono (Nat.le_of_lt hlt))
  clear hown hgrow hb1 hB2 hB R0 F0 oG R1 hi hz0 hz1 hz2
  generalize w1.alloc (.cells #[.int .i64 1, .int .i64 v, .int .i64 v, .int .i64 v, .slice (some ⟨w0.heap.size, 0, none⟩) 8 8, .bool false] 35) = w4 at A4 z4 R4 F4 H4 bw4 ⊢
  generalize w0.heap.size = G at A4 R4 H4 hGw hwG hGl ⊢
  obtain ⟨A5, H5, R5, F5⟩ := ago_set (w1 := w1) A4 H4 R4 F4 (by omega) hGw hq
  have bw5 : Below w.heap.size w (w4.setCell ⟨G, q, none⟩ (.int .i64 1)).drew := (Below.setCell bw4 (by simpa using hwG) _).drew
  have hc := H4.cell q hq
  have hf := H4.free q hq
  rw [Nat.zero_add] at hc hf
  obtain ⟨_, b0, b1, b2, b3, b4, b5⟩ := A4
  clear R4 F4 H4 bw4
  go_region_with (first | (go_at_call 62; refine (hcall _).mono ?_; rintro e w6 ⟨rfl, rfl⟩))
  all_goals
    clear hcall b0 b1 b2 b3 b4 b5 z4 hc hf
    generalize (w4.setCell ⟨G, q, none⟩ (.int .i64 1)).drew = w5 at A5 H5 R5 F5 bw5 ⊢
    obtain ⟨_, c0, c1, c2, c3, c4, c5⟩ := A5
    obtain ⟨_, r0, r1, r2, r3, r4, r5⟩ := R5
    go_wp2
    show bodyPost Try.prog Try.f35 (fun e w' => OfY v (fun i => if i = q then 1 else 0) w e w') _ _ _
    refine bodyPost_ret (v := .agg #[.int .i64 1, .int .i64 v, .int .i64 v, .int .i64 v, .slice (some ⟨G, 0, none⟩) 8 8, .bool false]) (by simp [results, Try.results35, go_sem, r0, r1, r2, r3, r4, r5]) rfl ⟨G, rfl, hwG, ?_, ?_⟩
    · repeat' refine iown_others ?_ (Others.setCell _ _ _ _) (Ne.symm hGw)
      exact H5
    · repeat' refine Below.setCell ?_ (by first | (simp; done) | (simp; omega)) _
      exact bw5

/-- One value's agg is a good one. -/
theorem ga_oA {v : Int} (hv : isV v = true) : GA (oA v) := by
  obtain ⟨q, hq, eq⟩ := bk_nat v
  have hb : -1000000000 ≤ v ∧ v ≤ 1000000000 := by simpa [isV, btw] using hv
  refine ⟨by simp [oA, isC, btw], rfl, fun i _ => ?_, fun _ => ⟨?_, ?_, ?_⟩, fun h => ?_, fun h => ?_, fun _ => ⟨hv, hv, Int.le_refl _⟩⟩
  · rw [oA_f eq]
    by_cases e : i = q <;> simp [e, isC, btw]
  · rw [oA_f eq]
    have : q = 0 ∨ q = 1 ∨ q = 2 ∨ q = 3 ∨ q = 4 ∨ q = 5 ∨ q = 6 ∨ q = 7 := by omega
    rcases this with rfl | rfl | rfl | rfl | rfl | rfl | rfl | rfl <;> simp [sumF, oA]
  · show -1000000000 * 1 ≤ v; omega
  · show v ≤ 1000000000 * 1; omega
  · simp [oA] at h
  · simp [oA] at h
/-- Two joined from nothing. -/
theorem jn_dZ (b : Ent) : jn dZ b = cA b := by unfold jn; exact if_pos rfl
theorem jf_two (Y : Nat → Ent) : jf Y 2 = jn (cA (Y 0)) (Y 1) := by
  show jn (jn dZ (Y 0)) (Y 1) = _
  rw [jn_dZ]
theorem cA_dZ : cA dZ = dZ := by simp [cA, dZ]
theorem cA_oA (v : Int) : cA (oA v) = oA v := by
  obtain ⟨q, hq, eq⟩ := bk_nat v
  have e : (fun i => if i < 8 then (if i = q then (1 : Int) else 0) else 0) = fun i => if i = q then 1 else 0 := by
    funext i
    by_cases h : i < 8
    · rw [if_pos h]
    · rw [if_neg h, if_neg (by omega)]
  simp [cA, oA, eq, e]
end Go.Proofs.Ytpggmgmdcccmeaa
namespace Go.Proofs.Ytpggmgmdcccmeaa
open Go.RowKit
set_option linter.unusedSimpArgs false
set_option linter.unusedVariables false

/-- x put in ahead of the i-th. -/
def inX (X : Nat → Wn) (i : Nat) (x : Wn) (j : Nat) : Wn := if j < i then X j else if j = i then x else X (j - 1)
/-- The lists behind it. -/
def inV (V : Nat → Value) (i : Nat) (h0 h1 : Value) (p : Nat) : Value := if p < i * 2 then V p else if p = i * 2 then h0 else if p = i * 2 + 1 then h1 else V (p - 2)
theorem inV0 (V : Nat → Value) (i : Nat) (h0 h1 : Value) (j : Nat) : inV V i h0 h1 (j * 2 + 0) = if j < i then V (j * 2 + 0) else if j = i then h0 else V ((j - 1) * 2 + 0) := by
  unfold inV
  by_cases h : j < i
  · rw [if_pos (by omega), if_pos h]
  · by_cases e : j = i
    · rw [if_neg (by omega), if_pos (by omega), if_neg h, if_pos e]
    · rw [if_neg (by omega), if_neg (by omega), if_neg (by omega), if_neg h, if_neg e, show j * 2 + 0 - 2 = (j - 1) * 2 + 0 by omega]
theorem inV1 (V : Nat → Value) (i : Nat) (h0 h1 : Value) (j : Nat) : inV V i h0 h1 (j * 2 + 1) = if j < i then V (j * 2 + 1) else if j = i then h1 else V ((j - 1) * 2 + 1) := by
  unfold inV
  by_cases h : j < i
  · rw [if_pos (by omega), if_pos h]
  · by_cases e : j = i
    · rw [if_neg (by omega), if_neg (by omega), if_pos (by omega), if_neg h, if_pos e]
    · rw [if_neg (by omega), if_neg (by omega), if_neg (by omega), if_neg h, if_neg e, show j * 2 + 1 - 2 = (j - 1) * 2 + 1 by omega]
/-- Rows of pieces of k cells: one put in between. -/
theorem flat_in {α : Type} (k : Nat) (A : Nat → List α) (B : List α) (hk : ∀ j, (A j).length = k) (i : Nat) : ∀ n, i ≤ n → ((List.range (n + 1)).flatMap fun j => if j < i then A j else if j = i then B else A (j - 1)) = ((List.range n).flatMap A).take (i * k) ++ (B ++ ((List.range n).flatMap A).drop (i * k)) := by
  have hl : ∀ n, ((List.range n).flatMap A).length = n * k := by
    intro n
    induction n with
    | zero => simp
    | succ n ih => rw [List.range_succ, List.flatMap_append, List.length_append, ih]; simp [hk, Nat.succ_mul]
  intro n
  induction n with
  | zero =>
    intro h
    obtain rfl : i = 0 := by omega
    simp [List.range_succ]
  | succ n ih =>
    intro h
    by_cases e : i = n + 1
    · subst e
      have e1 : ((List.range (n + 1)).flatMap fun j => if j < n + 1 then A j else if j = n + 1 then B else A (j - 1)) = (List.range (n + 1)).flatMap A := by
        unfold List.flatMap
        congr 1
        exact List.map_congr_left fun j hj => by rw [if_pos (List.mem_range.1 hj)]
      rw [List.range_succ (n := n + 1), List.flatMap_append, e1, ← hl (n + 1), List.take_length, List.drop_length]
      simp
    · have hin : i ≤ n := by omega
      rw [List.range_succ (n := n + 1), List.flatMap_append, ih hin, List.range_succ (n := n), List.flatMap_append]
      have hlen := hl n
      have hik : i * k ≤ n * k := Nat.mul_le_mul_right k hin
      rw [List.take_append_of_le_length (by omega), List.drop_append_of_le_length (by omega)]
      have e2 : ([n + 1].flatMap fun j => if j < i then A j else if j = i then B else A (j - 1)) = A n := by
        simp only [List.flatMap_cons, List.flatMap_nil, List.append_nil]
        rw [if_neg (by omega), if_neg (by omega), Nat.add_sub_cancel]
      rw [e2]
      simp [List.append_assoc]
set_option maxHeartbeats 1600000 in
/-- Windows with one put in: by their cells. -/
theorem OutW.ins {w w' : World} {base : Nat} {so : Option Addr} {sc n i : Nat} {v' h0 h1 : Value} {X : Nat → Wn} {V : Nat → Value} {x : Wn} (h : OutW w base (.slice so n sc) n X V) (hx0 : TV w base h0 x) (hx1 : HV w base h1 x)
    (hd0 : ∀ k, h0.ownBlock = some k → (Value.slice so n sc).ownBlock ≠ some k ∧ ∀ p, p < n * 2 → (V p).ownBlock ≠ some k) (hd1 : ∀ k, h1.ownBlock = some k → (Value.slice so n sc).ownBlock ≠ some k ∧ (∀ p, p < n * 2 → (V p).ownBlock ≠ some k) ∧ h0.ownBlock ≠ some k) (hi : i ≤ n)
    (hown : w'.ownsRow base 39 11 v' (n + 1) (((List.range n).flatMap fun j => wcells (X j) (V (j * 2 + 0)) (V (j * 2 + 1))).take (i * 11) ++ (wcells x h0 h1 ++ ((List.range n).flatMap fun j => wcells (X j) (V (j * 2 + 0)) (V (j * 2 + 1))).drop (i * 11)))) (hgr : w.grownBy w' (Value.slice so n sc).ownBlock)
    (hat : v'.ownBlock = (Value.slice so n sc).ownBlock ∨ ∀ k, v'.ownBlock = some k → w.heap.size ≤ k) : OutW w' base v' (n + 1) (inX X i x) (inV V i h0 h1) := by
  have lt' : ∀ k, (Value.slice so n sc).ownBlock = some k → k < w.heap.size := fun k hk => (h.own.lt k hk).2
  have far : ∀ (u : Value) (e' s' m' : Nat) (ys : List Value), w.ownsRow base e' s' u m' ys → (∀ k, u.ownBlock = some k → (Value.slice so n sc).ownBlock ≠ some k) → w'.ownsRow base e' s' u m' ys ∧ ∀ k, u.ownBlock = some k → v'.ownBlock ≠ some k := fun u e' s' m' ys hu hne => by
    refine ⟨ownsRow_kept hu hgr (fun k hk hh => hne k hh hk), fun k hk => ?_⟩
    rcases hat with hat | hat
    · rw [hat]; exact hne k hk
    · intro e2; have := hat k e2; have := (hu.lt k hk).2; omega
  have k0 : ∀ j, j < n → ∀ k, (V (j * 2 + 0)).ownBlock = some k → (Value.slice so n sc).ownBlock ≠ some k := fun j hj k hk => h.apart _ (by omega) k hk
  have k1 : ∀ j, j < n → ∀ k, (V (j * 2 + 1)).ownBlock = some k → (Value.slice so n sc).ownBlock ≠ some k := fun j hj k hk => h.apart _ (by omega) k hk
  refine ⟨?_, fun j hj => ?_, fun j hj => ?_, fun p p' hp hp' hne k hk => ?_, fun p hp k hk => ?_⟩
  · have e := flat_in 11 (fun j => wcells (X j) (V (j * 2 + 0)) (V (j * 2 + 1))) (wcells x h0 h1) (fun j => rfl) i n hi
    rw [← e] at hown
    have e2 : ((List.range (n + 1)).flatMap fun j => wcells (inX X i x j) (inV V i h0 h1 (j * 2 + 0)) (inV V i h0 h1 (j * 2 + 1))) = ((List.range (n + 1)).flatMap fun j => if j < i then wcells (X j) (V (j * 2 + 0)) (V (j * 2 + 1)) else if j = i then wcells x h0 h1 else wcells (X (j - 1)) (V ((j - 1) * 2 + 0)) (V ((j - 1) * 2 + 1))) := by
      unfold List.flatMap
      congr 1
      refine List.map_congr_left fun j hj => ?_
      rw [inV0, inV1]
      unfold inX
      by_cases h1 : j < i
      · simp only [h1, if_true]
      · by_cases h2 : j = i
        · simp only [h1, h2, if_true, if_false]
          simp
        · simp only [h1, h2, if_false]
    rw [e2]
    exact hown
  · rw [inV0]
    unfold inX
    by_cases h1' : j < i
    · rw [if_pos h1', if_pos h1']; exact (far _ _ _ _ _ (h.r0 j (by omega)) (k0 j (by omega))).1
    · by_cases h2' : j = i
      · rw [if_neg h1', if_pos h2', if_neg h1', if_pos h2']; exact (far _ _ _ _ _ hx0 (fun k hk => (hd0 k hk).1)).1
      · rw [if_neg h1', if_neg h2', if_neg h1', if_neg h2']; exact (far _ _ _ _ _ (h.r0 (j - 1) (by omega)) (k0 (j - 1) (by omega))).1
  · rw [inV1]
    unfold inX
    by_cases h1' : j < i
    · rw [if_pos h1', if_pos h1']; exact (far _ _ _ _ _ (h.r1 j (by omega)) (k1 j (by omega))).1
    · by_cases h2' : j = i
      · rw [if_neg h1', if_pos h2', if_neg h1', if_pos h2']; exact (far _ _ _ _ _ hx1 (fun k hk => (hd1 k hk).1)).1
      · rw [if_neg h1', if_neg h2', if_neg h1', if_neg h2']; exact (far _ _ _ _ _ (h.r1 (j - 1) (by omega)) (k1 (j - 1) (by omega))).1
  · have key : ∀ p, p < (n + 1) * 2 → (∃ q, q < n * 2 ∧ inV V i h0 h1 p = V q ∧ (p < i * 2 ∧ q = p ∨ i * 2 + 2 ≤ p ∧ q + 2 = p)) ∨ (p = i * 2 ∧ inV V i h0 h1 p = h0) ∨ (p = i * 2 + 1 ∧ inV V i h0 h1 p = h1) := fun p hp => by
      unfold inV
      by_cases q1 : p < i * 2
      · exact .inl ⟨p, by omega, by rw [if_pos q1], .inl ⟨q1, rfl⟩⟩
      · by_cases q2 : p = i * 2
        · exact .inr (.inl ⟨q2, by rw [if_neg q1, if_pos q2]⟩)
        · by_cases q3 : p = i * 2 + 1
          · exact .inr (.inr ⟨q3, by rw [if_neg q1, if_neg q2, if_pos q3]⟩)
          · exact .inl ⟨p - 2, by omega, by rw [if_neg q1, if_neg q2, if_neg q3], .inr ⟨by omega, by omega⟩⟩
    rcases key p hp with ⟨q, hq, e2, hq2⟩ | ⟨e3, e2⟩ | ⟨e3, e2⟩ <;> rcases key p' hp' with ⟨q', hq', e2', hq2'⟩ | ⟨e3', e2'⟩ | ⟨e3', e2'⟩ <;> rw [e2] at hk <;> rw [e2']
    · exact h.dis q q' hq hq' (by omega) k hk
    · intro hh; exact (hd0 k hh).2 q hq hk
    · intro hh; exact (hd1 k hh).2.1 q hq hk
    · exact (hd0 k hk).2 q' hq'
    · omega
    · intro hh; exact (hd1 k hh).2.2 hk
    · exact (hd1 k hk).2.1 q' hq'
    · exact (hd1 k hk).2.2
    · omega
  · have hvne2 : ∀ u : Value, (∀ k, u.ownBlock = some k → (Value.slice so n sc).ownBlock ≠ some k) → (∀ k, u.ownBlock = some k → k < w.heap.size) → ∀ k, u.ownBlock = some k → v'.ownBlock ≠ some k := fun u h1 h2 k hk => by
      rcases hat with hat | hat
      · rw [hat]; exact h1 k hk
      · intro e2; have := hat k e2; have := h2 k hk; omega
    unfold inV at hk
    split at hk
    · exact hvne2 (V p) (fun k hk => h.apart p (by omega) k hk) (fun k hk => (h.lt (by omega) hk).2) k hk
    · split at hk
      · exact hvne2 h0 (fun k hk => (hd0 k hk).1) (fun k hk => (hx0.lt k hk).2) k hk
      · split at hk
        · exact hvne2 h1 (fun k hk => (hd1 k hk).1) (fun k hk => (hx1.lt k hk).2) k hk
        · exact hvne2 (V (p - 2)) (fun k hk => h.apart (p - 2) (by omega) k hk) (fun k hk => (h.lt (p := p - 2) (by omega) hk).2) k hk
set_option maxHeartbeats 1600000 in
/-- Insert of one window into windows of the call's own. -/
theorem insWin_any {w : World} {base : Nat} {so : Option Addr} {sc n i : Nat} {h0 h1 : Value} {X : Nat → Wn} {V : Nat → Value} {x : Wn} (vb vc : Nat) (h : OutW w base (.slice so n sc) n X V) (hx0 : TV w base h0 x) (hx1 : HV w base h1 x)
    (hd0 : ∀ k, h0.ownBlock = some k → (Value.slice so n sc).ownBlock ≠ some k ∧ ∀ p, p < n * 2 → (V p).ownBlock ≠ some k) (hd1 : ∀ k, h1.ownBlock = some k → (Value.slice so n sc).ownBlock ≠ some k ∧ (∀ p, p < n * 2 → (V p).ownBlock ≠ some k) ∧ h0.ownBlock ≠ some k)
    (hvb : w.heap[vb]? = some (.cells (wcells x h0 h1).toArray 39 (0, 0))) (hvne : ∀ c, (Value.slice so n sc).ownBlock = some c → vb ≠ c) (hi : i ≤ n) (hn : n ≤ 1000) (hbase : base ≤ w.heap.size) :
    Calls Try.prog 59 #[.slice so n sc, .int .i64 (i : Nat), .slice (some ⟨vb, 0, none⟩) 1 vc] w fun e w' => ∃ v', e = .returned v' ∧ OutW w' base v' (n + 1) (inX X i x) (inV V i h0 h1) ∧ w.grownBy w' (Value.slice so n sc).ownBlock ∧ (v'.ownBlock = (Value.slice so n sc).ownBlock ∨ ∀ k, v'.ownBlock = some k → w.heap.size ≤ k) := by
  obtain ⟨a0, c0, e0⟩ := ownsRow_form hx0
  obtain ⟨a1, c1, e1⟩ := ownsRow_form hx1
  have hone : ∀ j, j < n → ∀ u ∈ wcells (X j) (V (j * 2 + 0)) (V (j * 2 + 1)), u.oneCell' = true := fun j hj u hu => by
    obtain ⟨b0, d0, f0⟩ := ownsRow_form (h.r0 j hj)
    obtain ⟨b1, d1, f1⟩ := ownsRow_form (h.r1 j hj)
    rw [f0, f1] at hu
    simp only [wcells, List.mem_cons, List.not_mem_nil, or_false] at hu
    rcases hu with rfl | rfl | rfl | rfl | rfl | rfl | rfl | rfl | rfl | rfl | rfl <;> rfl
  refine (insertW_any base vb vc so sc n _ (wcells x h0 h1) i w h.own hvb rfl (fun u hu => ?_) (fun u hu => ?_) hvne hi (by omega) hbase).mono ?_
  · obtain ⟨j, hj, hu2⟩ := List.mem_flatMap.1 hu
    exact hone j (List.mem_range.1 hj) u hu2
  · rw [e0, e1] at hu
    simp only [wcells, List.mem_cons, List.not_mem_nil, or_false] at hu
    rcases hu with rfl | rfl | rfl | rfl | rfl | rfl | rfl | rfl | rfl | rfl | rfl <;> rfl
  rintro e w' ⟨v', rfl, hown, hgr, hat⟩
  have hat' : v'.ownBlock = (Value.slice so n sc).ownBlock ∨ ∀ k, v'.ownBlock = some k → w.heap.size ≤ k := by
    rcases hat with hat | hat
    · exact .inl hat
    · exact .inr fun k hk => by rw [hat] at hk; injection hk with hk; omega
  exact ⟨v', rfl, h.ins hx0 hx1 hd0 hd1 hi hown hgr hat', hgr, hat'⟩
end Go.Proofs.Ytpggmgmdcccmeaa
