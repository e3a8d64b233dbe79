/- Many aggs joined, in the program. / The bucket of a value, in the program and in the model. / The bucket of a value in the program, and the law. -/
import Derived.Test.YtaiigpffhcofpaaGreatTk
import Derived.Test.YtaiigpffhcofpaaGreatOb
import Derived.Test.YtaiigpffhcofpaaGreatTags
namespace Go.Proofs.YtaiigpffhcofpaaGreat
set_option maxRecDepth 100000
open Go.RowKit
set_option linter.unusedSimpArgs false
set_option linter.unusedVariables false

/-- An agg's six cells at an address. -/
structure AC (w : World) (b off : Nat) (x : Ent) (ao : Option Addr) (cap : Nat) : Prop where
  lt : b < w.heap.size
  c0 : w.cell? ⟨b, off, none⟩ = some (.int .i64 x.c)
  c1 : w.cell? ⟨b, off + 1, none⟩ = some (.int .i64 x.s)
  c2 : w.cell? ⟨b, off + 2, none⟩ = some (.int .i64 x.lo)
  c3 : w.cell? ⟨b, off + 3, none⟩ = some (.int .i64 x.hi)
  c4 : w.cell? ⟨b, off + 4, none⟩ = some (.slice ao x.n cap)
  c5 : w.cell? ⟨b, off + 5, none⟩ = some (.bool x.fu)
theorem AC.keep {w w' : World} {b off : Nat} {x : Ent} {ao : Option Addr} {cap : Nat} (h : AC w b off x ao cap) (hb : Below w.heap.size w w') : AC w' b off x ao cap :=
  have k : ∀ j, w'.cell? ⟨b, j, none⟩ = w.cell? ⟨b, j, none⟩ := fun j => hb.cell (p := ⟨b, j, none⟩) h.lt
  ⟨Nat.lt_of_lt_of_le h.lt hb.size, (k _).trans h.c0, (k _).trans h.c1, (k _).trans h.c2, (k _).trans h.c3, (k _).trans h.c4, (k _).trans h.c5⟩
/-- m aggs lie at ao. -/
def ARow (w : World) (ao : Option Addr) (m : Nat) (Y : Nat → Ent) : Prop :=
  m = 0 ∨ ∃ b off, ao = some ⟨b, off, none⟩ ∧ b < w.heap.size ∧ ∀ i, i < m → ∃ da dc, AC w b (off + i * 6) (Y i) da dc ∧ IRow w da (Y i).n (Y i).f
/-- The first k joined. -/
def jf (Y : Nat → Ent) : Nat → Ent
  | 0 => dZ
  | k + 1 => jn (jf Y k) (Y k)
theorem jf_ai {Y : Nat → Ent} : ∀ {k : Nat}, (∀ i, i < k → GA (Y i)) → AI (jf Y k)
  | 0, _ => ai_zero
  | k + 1, h => ai_jn (jf_ai (fun i hi => h i (by omega))) (h k (by omega))
/-- An agg in answer, its Hist in memory of its own. -/
def JaO (y : Ent) (w : World) (e : Ending) (w' : World) : Prop :=
  ∃ g, e = .returned (.agg #[.int .i64 y.c, .int .i64 y.s, .int .i64 y.lo, .int .i64 y.hi, .slice (some ⟨g, 0, none⟩) 8 8, .bool y.fu]) ∧ w.heap.size ≤ g ∧ IOwn w' g 0 8 y.f ∧ Below w.heap.size w w'
/-- What is gathered. -/
structure JS (w W : World) (B G : Nat) (y : Ent) : Prop where
  A : AAt W B y.c y.s y.lo y.hi (.slice (some ⟨G, 0, none⟩) 8 8) y.fu
  fz : ∀ j, j < 6 → W.frozen? ⟨B, j, none⟩ = false
  H : IOwn W G 0 8 y.f
  R : AAt W w.heap.size 0 0 0 0 (.slice none 0 0) false
  rz : ∀ j, W.frozen? ⟨w.heap.size, j, none⟩ = false
  bw : Below w.heap.size w W
theorem JS.keep {w W W' : World} {B G : Nat} {y : Ent} (h : JS w W B G y) (hb : Below W.heap.size W W') : JS w W' B G y :=
  ⟨h.A.keep hb, fun j hj => (hb.frozen (p := ⟨B, j, none⟩) h.A.lt).trans (h.fz j hj), h.H.keep hb, h.R.keep hb, fun j => (hb.frozen (p := ⟨w.heap.size, j, none⟩) h.R.lt).trans (h.rz j), h.bw.trans (hb.mono h.bw.size)⟩
theorem JS.take {w W W' : World} {B G : Nat} {y y' : Ent} {e : Ending} (h : JS w W B G y) (hB : w.heap.size < B) (hG : w.heap.size < G) (ht : TkO B G y' W e W') : JS w W' B G y' := by
  obtain ⟨_, t1, t2, t3, t4, t5, t6, t7, t8⟩ := ht
  have hb : Below (w.heap.size + 1) W W' := ⟨t4, t5, t6, t7, fun c hc => t8 c (by have := h.R.lt; omega) (by omega) (by omega)⟩
  have k : ∀ j, W'.cell? ⟨w.heap.size, j, none⟩ = W.cell? ⟨w.heap.size, j, none⟩ := fun j => hb.cell (p := ⟨w.heap.size, j, none⟩) (Nat.lt_succ_self _)
  exact ⟨t1, t2, t3, ⟨Nat.lt_of_lt_of_le h.R.lt t7, (k _).trans h.R.c0, (k _).trans h.R.c1, (k _).trans h.R.c2, (k _).trans h.R.c3, (k _).trans h.R.c4, (k _).trans h.R.c5⟩, fun j => (hb.frozen (p := ⟨w.heap.size, j, none⟩) (Nat.lt_succ_self _)).trans (h.rz j), h.bw.trans (hb.mono (Nat.le_succ _))⟩

set_option maxRecDepth 100000 in
set_option maxHeartbeats 4000000 in
theorem joinAll_any (ao : Option Addr) (m cap : Nat) (Y : Nat → Ent) (w : World) (hr : ARow w ao m Y) (hg : ∀ i, i < m → GA (Y i)) (hm : m ≤ 1048576) :
    Calls Tryz.prog 57 #[.slice ao m cap] w fun e w' => JaO (jf Y m) w e w' := by
  have hB := below_new w (.cells #[.int .i64 0, .int .i64 0, .int .i64 0, .int .i64 0, .slice none 0 0, .bool false] 56)
  have R0 := AAt.new w 0 0 0 0 (.slice none 0 0) false 56
  have F0 : ∀ j, (w.alloc (.cells #[.int .i64 0, .int .i64 0, .int .i64 0, .int .i64 0, .slice none 0 0, .bool false] 56)).frozen? ⟨w.heap.size, j, none⟩ = false := fun j => by simp [go_sem]
  go_enter Tryz.func57, Tryz.ntmps57
  go_wp2_with fail
  generalize w.alloc (.cells #[.int .i64 0, .int .i64 0, .int .i64 0, .int .i64 0, .slice none 0 0, .bool false] 56) = w0 at hB R0 F0 ⊢
  refine (zeroAgg_any _).mono ?_
  rintro e w1 ⟨G, rfl, hG, oG, hb1⟩
  have hB2 := below_new w1 (.cells #[.int .i64 0, .int .i64 0, .int .i64 0, .int .i64 0, .slice (some ⟨G, 0, none⟩) 8 8, .bool false] 56)
  have hGl := oG.lt
  have hRl := R0.lt
  have s1 := hb1.size
  have J0 : JS w (w1.alloc (.cells #[.int .i64 0, .int .i64 0, .int .i64 0, .int .i64 0, .slice (some ⟨G, 0, none⟩) 8 8, .bool false] 56)) w1.heap.size G dZ := ⟨AAt.new w1 0 0 0 0 (.slice (some ⟨G, 0, none⟩) 8 8) false 56, fun j hj => by simp [go_sem], oG.keep hB2, (R0.keep hb1).keep hB2, fun j => (hB2.frozen (p := ⟨w.heap.size, j, none⟩) (by show w.heap.size < _; omega)).trans ((hb1.frozen (p := ⟨w.heap.size, j, none⟩) hRl).trans (F0 j)), (hB.trans (hb1.mono hB.size)).trans (hB2.mono (by have := hB.size; omega))⟩
  go_wp2
  generalize w1.alloc (.cells #[.int .i64 0, .int .i64 0, .int .i64 0, .int .i64 0, .slice (some ⟨G, 0, none⟩) 8 8, .bool false] 56) = w2 at hB2 J0 ⊢
  clear oG R0 F0 hB hb1 hB2
  go_loopw [9] (fun i wr => ∃ k : Nat, k ≤ m ∧ i = .int .i64 k ∧ JS w wr w1.heap.size G (jf Y k)) (fun i _ => m - (intOf i).toNat)
  case atStart => exact ⟨0, Nat.zero_le _, rfl, J0⟩
  case round =>
    clear J0
    obtain ⟨k, hk, rfl, J⟩ := hrel
    by_cases hlt : k < m
    · obtain ⟨b, off, rfl, hblt, hc⟩ := hr.resolve_left (by omega)
      obtain ⟨da, dc, ea, ir⟩ := hc k hlt
      have ir2 := ir.keep J.bw
      obtain ⟨_, a0, a1, a2, a3, a4, a5⟩ := ea.keep J.bw
      have hbn := below_new wr (.cells #[.int .i64 (Y k).c, .int .i64 (Y k).s, .int .i64 (Y k).lo, .int .i64 (Y k).hi, .slice da (Y k).n dc, .bool (Y k).fu] 56)
      have Jn := J.keep hbn
      have hgk := hg k hlt
      have hT := take_any w1.heap.size G (jf Y k) (Y k) da dc (wr.alloc (.cells #[.int .i64 (Y k).c, .int .i64 (Y k).s, .int .i64 (Y k).lo, .int .i64 (Y k).hi, .slice da (Y k).n dc, .bool (Y k).fu] 56)) Jn.A Jn.fz Jn.H (by omega) (ir2.keep hbn) (fun g off p e => by
        have h8 := hgk.n
        obtain ⟨g', o', e', hl', _⟩ := ir.lies.resolve_left (by omega)
        rw [e] at e'
        injection e' with e'
        injection e' with e1 _ _
        omega) (jf_ai (fun i hi => hg i (by omega))) hgk
      clear hc hr ea ir ir2
      go_wp2_with fail
      refine hT.mono ?_
      rintro e w5 ht
      have J5 : JS w w5 w1.heap.size G (jf Y (k + 1)) := Jn.take (by omega) (by omega) ht
      obtain ⟨v5, rfl⟩ := ht.1
      clear hT ht Jn J
      go_wp2
      go_roundw
      case rel => exact ⟨k + 1, by omega, by go_num, J5⟩
      case measure => simp [intOf]; omega
    · obtain rfl : k = m := by omega
      have JA := J.A
      have JR := J.R
      have Jz := J.rz
      obtain ⟨_, c0, c1, c2, c3, c4, c5⟩ := JA
      obtain ⟨_, r0, r1, r2, r3, r4, r5⟩ := JR
      have JH := J.H
      have Jb := J.bw
      clear hr J
      go_wp2
      refine bodyPost_ret (v := .agg #[.int .i64 (jf Y k).c, .int .i64 (jf Y k).s, .int .i64 (jf Y k).lo, .int .i64 (jf Y k).hi, .slice (some ⟨G, 0, none⟩) 8 8, .bool (jf Y k).fu]) (by simp [results, Tryz.results57, go_sem, r0, r1, r2, r3, r4, r5]) rfl ⟨G, rfl, by omega, ?_, ?_⟩
      · repeat' refine iown_others ?_ (Others.setCell _ _ _ _) (by omega)
        exact JH
      · repeat' refine Below.setCell ?_ (by first | (simp; done) | (simp; omega)) _
        exact Jb
end Go.Proofs.YtaiigpffhcofpaaGreat
namespace Go.Proofs.YtaiigpffhcofpaaGreat
set_option maxRecDepth 100000
open Go.RowKit
set_option linter.unusedSimpArgs false
set_option linter.unusedVariables false

/-- The bucket of a value. -/
def bk (v : Int) : Int :=
  if v < 0 then 0 else if v < 1 then 1 else if v < 10 then 2 else if v < 100 then 3 else if v < 1000 then 4 else if v < 10000 then 5 else if v < 100000 then 6 else 7
def bkAll (v : Int) : Int := if isV v then bk v else -1

def tenTo : Nat → Int
  | 0 => 1
  | k + 1 => tenTo k * 10
theorem tenTo_bd (k : Nat) (h : k ≤ 6) : 1 ≤ tenTo k ∧ tenTo k ≤ 1000000 := by
  have : k = 0 ∨ k = 1 ∨ k = 2 ∨ k = 3 ∨ k = 4 ∨ k = 5 ∨ k = 6 := by omega
  rcases this with rfl | rfl | rfl | rfl | rfl | rfl | rfl <;> simp [tenTo]

set_option maxHeartbeats 800000 in
theorem l4Bucket_any (v : Int) (w : World) (hv : isV v = true) :
    Calls Tryz.prog 43 #[.int .i64 v] w fun e w' => e = .returned (.int .i64 (bk v)) ∧ w' = w := by
  have hb : -1000000000 ≤ v ∧ v ≤ 1000000000 := by simpa [isV, btw] using hv
  by_cases h0 : v < 0
  · go_enter Tryz.func43, Tryz.ntmps43
    go_wp2
    go_ret
    exact ⟨by simp [bk, h0], rfl⟩
  · go_enter Tryz.func43, Tryz.ntmps43
    go_wp2
    go_loopw [3, 4] (fun q t wr => ∃ k : Nat, k ≤ 6 ∧ q = .int .i64 ((k + 1 : Nat) : Int) ∧ t = .int .i64 (tenTo k) ∧ (∀ j, j < k → tenTo j ≤ v) ∧ wr = w) (fun q _ _ => 7 - (intOf q).toNat)
    case atStart => exact ⟨0, by omega, rfl, rfl, by omega, rfl⟩
    case round =>
      obtain ⟨k, hk, rfl, rfl, hle, rfl⟩ := hrel
      have ht := tenTo_bd k hk
      have hfin : ¬ (k < 6 ∧ tenTo k ≤ v) → bk v = ((k + 1 : Nat) : Int) := by
        intro hn
        have hc : k = 0 ∨ k = 1 ∨ k = 2 ∨ k = 3 ∨ k = 4 ∨ k = 5 ∨ k = 6 := by omega
        rcases hc with rfl | rfl | rfl | rfl | rfl | rfl | rfl
        · simp [tenTo] at hn; simp only [bk]; repeat' split
          all_goals omega
        · have := hle 0 (by omega); simp [tenTo] at hn this; simp only [bk]; repeat' split
          all_goals omega
        · have := hle 1 (by omega); simp [tenTo] at hn this; simp only [bk]; repeat' split
          all_goals omega
        · have := hle 2 (by omega); simp [tenTo] at hn this; simp only [bk]; repeat' split
          all_goals omega
        · have := hle 3 (by omega); simp [tenTo] at hn this; simp only [bk]; repeat' split
          all_goals omega
        · have := hle 4 (by omega); simp [tenTo] at hn this; simp only [bk]; repeat' split
          all_goals omega
        · have := hle 5 (by omega); simp [tenTo] at this; simp only [bk]; repeat' split
          all_goals omega
      by_cases h6 : k < 6
      · by_cases hlt : tenTo k ≤ v
        · clear hfin
          go_wp2
          go_roundw
          case rel =>
            refine ⟨k + 1, by omega, by go_num, by go_num, fun j hj => ?_, trivial⟩
            rcases Nat.lt_succ_iff_lt_or_eq.1 hj with h | rfl
            · exact hle j h
            · exact hlt
          case measure => simp [intOf]; omega
        · have e := hfin (by omega)
          clear hfin
          go_wp2
          go_ret
          exact ⟨rfl, rfl⟩
      · have e := hfin (by omega)
        clear hfin
        go_wp2
        go_ret
        exact ⟨rfl, rfl⟩
end Go.Proofs.YtaiigpffhcofpaaGreat
namespace Go.Proofs.YtaiigpffhcofpaaGreat
set_option maxRecDepth 100000
open Go.RowKit
set_option linter.unusedSimpArgs false
set_option linter.unusedVariables false

theorem bucket_impl_no (v : Int) (w : World) (hv : isV v = false) :
    Calls Tryz.prog 72 #[.int .i64 v] w fun e w' => e = .returned (.int .i64 (-1)) ∧ w' = w := by
  go_enter Tryz.func72, Tryz.ntmps72
  go_wp2_with fail
  refine (isValue_any v _).mono ?_
  rintro e w1 ⟨rfl, rfl⟩
  go_wp2
  go_ret
  exact ⟨rfl, rfl⟩
set_option maxHeartbeats 800000 in
theorem bucket_impl_a (v : Int) (w : World) (hv : isV v = true)  (h0 : 99999 < v) :
    Calls Tryz.prog 72 #[.int .i64 v] w fun e w' => e = .returned (.int .i64 7) ∧ w' = w := by
  go_enter Tryz.func72, Tryz.ntmps72
  go_wp2_with fail
  refine (isValue_any v _).mono ?_
  rintro e w1 ⟨rfl, rfl⟩
  go_wp2
  go_ret
  exact ⟨rfl, rfl⟩

set_option maxHeartbeats 800000 in
theorem bucket_impl_b (v : Int) (w : World) (hv : isV v = true) (h0 : ¬ 99999 < v) (h1 : 9999 < v) :
    Calls Tryz.prog 72 #[.int .i64 v] w fun e w' => e = .returned (.int .i64 6) ∧ w' = w := by
  go_enter Tryz.func72, Tryz.ntmps72
  go_wp2_with fail
  refine (isValue_any v _).mono ?_
  rintro e w1 ⟨rfl, rfl⟩
  go_wp2
  go_ret
  exact ⟨rfl, rfl⟩

set_option maxHeartbeats 800000 in
theorem bucket_impl_c (v : Int) (w : World) (hv : isV v = true) (h0 : ¬ 99999 < v) (h1 : ¬ 9999 < v) (h2 : 999 < v) :
    Calls Tryz.prog 72 #[.int .i64 v] w fun e w' => e = .returned (.int .i64 5) ∧ w' = w := by
  go_enter Tryz.func72, Tryz.ntmps72
  go_wp2_with fail
  refine (isValue_any v _).mono ?_
  rintro e w1 ⟨rfl, rfl⟩
  go_wp2
  go_ret
  exact ⟨rfl, rfl⟩

set_option maxHeartbeats 800000 in
theorem bucket_impl_d (v : Int) (w : World) (hv : isV v = true) (h0 : ¬ 99999 < v) (h1 : ¬ 9999 < v) (h2 : ¬ 999 < v) (h3 : 99 < v) :
    Calls Tryz.prog 72 #[.int .i64 v] w fun e w' => e = .returned (.int .i64 4) ∧ w' = w := by
  go_enter Tryz.func72, Tryz.ntmps72
  go_wp2_with fail
  refine (isValue_any v _).mono ?_
  rintro e w1 ⟨rfl, rfl⟩
  go_wp2
  go_ret
  exact ⟨rfl, rfl⟩

set_option maxHeartbeats 800000 in
theorem bucket_impl_e (v : Int) (w : World) (hv : isV v = true) (h0 : ¬ 99999 < v) (h1 : ¬ 9999 < v) (h2 : ¬ 999 < v) (h3 : ¬ 99 < v) (h4 : 9 < v) :
    Calls Tryz.prog 72 #[.int .i64 v] w fun e w' => e = .returned (.int .i64 3) ∧ w' = w := by
  go_enter Tryz.func72, Tryz.ntmps72
  go_wp2_with fail
  refine (isValue_any v _).mono ?_
  rintro e w1 ⟨rfl, rfl⟩
  go_wp2
  go_ret
  exact ⟨rfl, rfl⟩

set_option maxHeartbeats 800000 in
theorem bucket_impl_f (v : Int) (w : World) (hv : isV v = true) (h0 : ¬ 99999 < v) (h1 : ¬ 9999 < v) (h2 : ¬ 999 < v) (h3 : ¬ 99 < v) (h4 : ¬ 9 < v) (h5 : 0 < v) :
    Calls Tryz.prog 72 #[.int .i64 v] w fun e w' => e = .returned (.int .i64 2) ∧ w' = w := by
  go_enter Tryz.func72, Tryz.ntmps72
  go_wp2_with fail
  refine (isValue_any v _).mono ?_
  rintro e w1 ⟨rfl, rfl⟩
  go_wp2
  go_ret
  exact ⟨rfl, rfl⟩

set_option maxHeartbeats 800000 in
theorem bucket_impl_g (v : Int) (w : World) (hv : isV v = true) (h0 : ¬ 99999 < v) (h1 : ¬ 9999 < v) (h2 : ¬ 999 < v) (h3 : ¬ 99 < v) (h4 : ¬ 9 < v) (h5 : ¬ 0 < v) (h6 : v = 0) :
    Calls Tryz.prog 72 #[.int .i64 v] w fun e w' => e = .returned (.int .i64 1) ∧ w' = w := by
  subst h6
  go_enter Tryz.func72, Tryz.ntmps72
  go_wp2_with fail
  refine (isValue_any 0 _).mono ?_
  rintro e w1 ⟨rfl, rfl⟩
  go_wp2
  go_ret
  exact ⟨rfl, rfl⟩

set_option maxHeartbeats 800000 in
theorem bucket_impl_h (v : Int) (w : World) (hv : isV v = true) (h0 : ¬ 99999 < v) (h1 : ¬ 9999 < v) (h2 : ¬ 999 < v) (h3 : ¬ 99 < v) (h4 : ¬ 9 < v) (h5 : ¬ 0 < v) (h6 : v < 0) :
    Calls Tryz.prog 72 #[.int .i64 v] w fun e w' => e = .returned (.int .i64 0) ∧ w' = w := by
  go_enter Tryz.func72, Tryz.ntmps72
  go_wp2_with fail
  refine (isValue_any v _).mono ?_
  rintro e w1 ⟨rfl, rfl⟩
  go_wp2
  go_ret
  exact ⟨rfl, rfl⟩

theorem bucket_impl_yes (v : Int) (w : World) (hv : isV v = true) :
    Calls Tryz.prog 72 #[.int .i64 v] w fun e w' => e = .returned (.int .i64 (bk v)) ∧ w' = w := by
  by_cases h0 : 99999 < v
  · have e : bk v = 7 := by (simp only [bk]; repeat' split) <;> omega
    rw [e]; exact bucket_impl_a v w hv h0
  by_cases h1 : 9999 < v
  · have e : bk v = 6 := by (simp only [bk]; repeat' split) <;> omega
    rw [e]; exact bucket_impl_b v w hv h0 h1
  by_cases h2 : 999 < v
  · have e : bk v = 5 := by (simp only [bk]; repeat' split) <;> omega
    rw [e]; exact bucket_impl_c v w hv h0 h1 h2
  by_cases h3 : 99 < v
  · have e : bk v = 4 := by (simp only [bk]; repeat' split) <;> omega
    rw [e]; exact bucket_impl_d v w hv h0 h1 h2 h3
  by_cases h4 : 9 < v
  · have e : bk v = 3 := by (simp only [bk]; repeat' split) <;> omega
    rw [e]; exact bucket_impl_e v w hv h0 h1 h2 h3 h4
  by_cases h5 : 0 < v
  · have e : bk v = 2 := by (simp only [bk]; repeat' split) <;> omega
    rw [e]; exact bucket_impl_f v w hv h0 h1 h2 h3 h4 h5
  by_cases h6 : v = 0
  · have e : bk v = 1 := by (simp only [bk]; repeat' split) <;> omega
    rw [e]; exact bucket_impl_g v w hv h0 h1 h2 h3 h4 h5 h6
  · have e : bk v = 0 := by (simp only [bk]; repeat' split) <;> omega
    rw [e]; exact bucket_impl_h v w hv h0 h1 h2 h3 h4 h5 (by omega)

end Go.Proofs.YtaiigpffhcofpaaGreat
