/- Entries of a table and bits a key, drawn. / A byte that is changed changes the check. -/
import Derived.Test.YtohjjigkfdhklaaGreatFSb
import Derived.Test.YtohjjigkfdhklaaGreatGoS
import Derived.Test.YtohjjigkfdhklaaGreatCf
import Derived.Deep.CutBlock
import Derived.Deep.DeepCutAuto
import Derived.Test.YtohjjigkfdhklaaGreatBV
import Derived.Laws.BitsAllLaws
namespace Go.Proofs.YtohjjigkfdhklaaGreat
set_option maxRecDepth 100000
open Go.RowKit
set_option linter.unusedSimpArgs false
set_option linter.unusedVariables false
section
variable {w : World} {CB : Nat} {ao : Option Addr} {n cap : Nat} {f : Nat → Int} {A : Nat}
set_option maxHeartbeats 4000000 in
theorem perKey_any (h : CS w w CB ao n cap f A) (hA : A ≤ 80000) :
    Calls Tryz.prog 22 #[.pointer (some ⟨CB, 0, none⟩)] w fun e w' => ∃ x, e = .returned (.int .i64 x) ∧ 0 ≤ x ∧ x ≤ 21 ∧ CS w w' CB ao n cap f (A + 2) := by
  go_enter Tryz.func22, Tryz.ntmps22
  go_wp2_with fail
  refine (one_s 20 (by omega) h (by omega)).mono ?_
  rintro e w1 ⟨b, rfl, K1⟩
  have hl := K1.ltw
  cases b
  · go_wp2_with fail
    refine (pick_s 12 (by omega) K1.self (by omega)).mono ?_
    rintro e w2 ⟨x, rfl, x0, x1, K2⟩
    have KT := K1.trans K2
    have hwx : IntKind.i64.wrap (1 + x) = 1 + x := by rw [IntKind.wrap_i64] <;> omega
    clear K1 K2
    go_wp2
    go_ret
    exact ⟨1 + x, rfl, by omega, by omega, KT⟩
  · have b2 := below_new w1 (.cells #[.int .i64 0, .int .i64 20, .int .i64 21] 3)
    have L2 : LiAt (w1.alloc (.cells #[.int .i64 0, .int .i64 20, .int .i64 21] 3)) w1.heap.size [0, 20, 21] := LiAt.new w1 [0, 20, 21] 3
    have K2 := K1.keep b2
    go_wp2_with fail
    refine (among_s [0, 20, 21] (by decide) w1.heap.size L2 (by omega) K2.self (by omega)).mono ?_
    rintro e w3 ⟨x, hx, rfl, K3⟩
    have KT := K2.trans K3
    have hv : 0 ≤ x ∧ x ≤ 21 := by
      simp only [List.mem_cons, List.not_mem_nil, or_false] at hx
      rcases hx with rfl | rfl | rfl <;> decide
    clear hx L2 K2 K3 b2
    go_wp2
    go_ret
    exact ⟨x, rfl, hv.1, hv.2, KT⟩
end
/-- The one entry that is drawn where there is none. -/
def oneE : Ent := ⟨⟨#[107]⟩, 1, 2, 0, 0, 0, 0, 0, fun _ => 0, false⟩
theorem oneE_sm : Sm oneE := ⟨⟨by decide, by decide, by decide, by decide⟩, by decide, by decide⟩
/-- An entry that is no agg. -/
def bareE (K : ByteArray) (q : Int) : Ent := ⟨K, q, 2, 0, 0, 0, 0, 0, fun _ => 0, false⟩
theorem bare_sm {K : ByteArray} {q : Int} (hK : K.size ≤ 200) (hq : 0 ≤ q ∧ q ≤ 1000) : Sm (bareE K q) :=
  ⟨⟨by show (-9223372036854775808 : Int) ≤ q ∧ q ≤ 9223372036854775807; omega, by show (-9223372036854775808 : Int) ≤ 0 ∧ (0 : Int) ≤ 9223372036854775807; omega, by show K.size ≤ 9223372036854775807; omega, by show (0 : Nat) ≤ 9223372036854775807; omega⟩, hK, Nat.zero_le _⟩
theorem hr_none (w : World) (base : Nat) : HR w base none 0 (fun _ => 0) := ⟨⟨fun i => by omega, .inl rfl⟩, fun g off e => by cases e⟩
/-- Drawn entries of a table. -/
def TeO (CB : Nat) (ao : Option Addr) (n cap : Nat) (f : Nat → Int) (A : Nat) (w : World) (e : Ending) (w' : World) : Prop :=
  ∃ (m : Nat) (lo : Option Addr) (lc : Nat) (X : Nat → Ent) (V : Nat → Value), e = .returned (.slice lo m lc) ∧ m ≤ 101 ∧ GL w' w.heap.size (.slice lo m lc) m X V ∧ CS w w' CB ao n cap f (A + 800)
/-- What is held on the way. -/
def TeR (CB : Nat) (ao : Option Addr) (n cap : Nat) (f : Nat → Int) (A : Nat) (w : World) (s : Value) (wx : World) : Prop :=
  ∃ (m : Nat) (lo : Option Addr) (lc : Nat) (X : Nat → Ent) (V : Nat → Value), s = .slice lo m lc ∧ m ≤ 15 ∧ GL wx w.heap.size (.slice lo m lc) m X V ∧ CS w wx CB ao n cap f A

set_option maxRecDepth 100000 in
set_option maxHeartbeats 8000000 in
theorem tableEntries_any {w : World} {CB : Nat} {ao : Option Addr} {n cap : Nat} {f : Nat → Int} {A : Nat} (h : CS w w CB ao n cap f A) (hA : A ≤ 1000) :
    Calls Tryz.prog 21 #[.pointer (some ⟨CB, 0, none⟩)] w fun e w' => TeO CB ao n cap f A w e w' := by
  have hl0 := h.lt
  go_enter Tryz.func21, Tryz.ntmps21
  go_wp2_with fail
  refine (entries_any h (by omega)).mono ?_
  rintro e w1 ⟨m, lo, lc, X, V, rfl, hm, G1, C1⟩
  go_upto_region 2 with fail
  go_cut [14] from 7 (fun s14 wx => ∃ B, s14 = .bool B ∧ GL wx w.heap.size (.slice lo m lc) m X V ∧ CS w wx CB ao n cap f (A + 601))
  case first =>
    obtain ⟨_, _, e3, E1, _, _⟩ := G1.erow
    injection e3 with e31 _ e33
    subst e31 e33
    have hgs := goodEntries_spec lo m lc X w1 E1 (by omega) G1.sz
    go_wp2_with fail
    refine hgs.mono ?_
    rintro e w2 ⟨b, rfl, _, q2⟩
    have G2 := G1.keep q2
    have C2 := C1.keep q2
    clear G1 C1 E1 q2 hgs
    cases b
    · go_wp2_with fail
      refine (one_s 6 (by omega) C2.self (by omega)).mono ?_
      rintro e w3 ⟨b3, rfl, K3⟩
      have C3 := C2.trans K3
      have G3 := G2.grown K3.gr (fun k e => by injection e with e; omega)
      clear G2 C2 K3
      go_wp2
      go_meet
      case rel => exact ⟨_, rfl, G3, C3.mono (by omega)⟩
    · go_wp2
      go_meet
      case rel => exact ⟨_, rfl, G2, C2.mono (by omega)⟩
  case rest =>
    obtain ⟨B, rfl, G2, C2⟩ := hcut
    go_upto_if 14 with fail
    go_cut [3] from 7 (fun s3 wx => TeR CB ao n cap f (A + 601) w s3 wx)
    case first =>
      have H1 : TeR CB ao n cap f (A + 601) w (.slice lo m lc) wc := ⟨m, lo, lc, X, V, rfl, hm, G2, C2⟩
      have H2 : TeR CB ao n cap f (A + 601) w (.slice none 0 0) wc := ⟨0, none, 0, X, _, rfl, by omega, gl_nil _ _ _, C2⟩
      cases B
      · go_wp2
        go_meet
        case rel => exact H1
      · go_wp2
        go_meet
        case rel => exact H2
    case rest =>
      clear G1 C1 G2 C2 hm
      obtain ⟨m, lo, lc, X, V, rfl, hm, G3, C3⟩ := hcut
      go_upto_region 4 with fail
      go_cut [22] from 7 (fun s22 wx => ∃ B, s22 = .bool B ∧ GL wx w.heap.size (.slice lo m lc) m X V ∧ CS w wx CB ao n cap f (A + 602))
      case first =>
        by_cases h0 : m = 0
        · subst h0
          go_wp2_with fail
          refine (one_s 6 (by omega) C3.self (by omega)).mono ?_
          rintro e w4 ⟨b4, rfl, K4⟩
          have C4 := C3.trans K4
          have G4 := G3.grown K4.gr (fun k e => by injection e with e; omega)
          clear G3 C3 K4
          go_wp2
          go_meet
          case rel => exact ⟨_, rfl, G4, C4.mono (by omega)⟩
        · have hd : ((m : Int) == 0) = false := by simp; omega
          go_wp2
          go_meet
          case rel => exact ⟨_, rfl, G3, C3.mono (by omega)⟩
      case rest =>
        clear G3 C3
        obtain ⟨B2, rfl, G4, C4⟩ := hcut
        rename_i wd
        have hs4 := C4.gr.size
        go_upto_if 22 with fail
        go_cut [3] from 7 (fun s3 wx => TeR CB ao n cap f (A + 602) w s3 wx)
        case first =>
          cases B2
          · have H1 : TeR CB ao n cap f (A + 602) w (.slice lo m lc) wc := ⟨m, lo, lc, X, V, rfl, hm, G4, C4⟩
            clear G4 C4
            go_wp2
            go_meet
            case rel => exact H1
          · have bx := below_new wc (.cells #[.string ⟨#[107]⟩, .int .i64 1, .int .i64 2, .int .i64 0, .int .i64 0, .int .i64 0, .int .i64 0, .slice none 0 0, .bool false] 35)
            have hO : World.ownsRow (wc.alloc (.cells #[.string ⟨#[107]⟩, .int .i64 1, .int .i64 2, .int .i64 0, .int .i64 0, .int .i64 0, .int .i64 0, .slice none 0 0, .bool false] 35)) w.heap.size 35 9 (.slice (some ⟨wc.heap.size, 0, none⟩) 1 1) 1 ((List.range 1).flatMap fun i => ecells ((fun _ => oneE) i) ((fun _ => Value.slice none 0 0) i)) := by
              have := World.ownsRow_lit (base := w.heap.size) (e := 35) (size := 9) wc (ecells oneE (.slice none 0 0)).toArray 1 hs4 (by unfold maxLen; omega) rfl
              simpa [List.range_succ, ecells, oneE] using this
            have H1 : TeR CB ao n cap f (A + 602) w (.slice (some ⟨wc.heap.size, 0, none⟩) 1 1) (wc.alloc (.cells #[.string ⟨#[107]⟩, .int .i64 1, .int .i64 2, .int .i64 0, .int .i64 0, .int .i64 0, .int .i64 0, .slice none 0 0, .bool false] 35)) :=
              ⟨1, _, _, fun _ => oneE, fun _ => .slice none 0 0, rfl, by omega, ⟨hO, fun i hi => ⟨none, 0, rfl, hr_none _ _, fun g off e => by cases e⟩, fun i hi => oneE_sm⟩, C4.keep bx⟩
            clear G4 C4 hO bx
            go_wp2
            go_meet
            case rel => exact H1
        case rest =>
          clear G4 C4 hm hs4
          obtain ⟨m, lo, lc, X, V, rfl, hm, G5, C5⟩ := hcut
          go_wp2_with fail
          refine (one_s 60 (by omega) C5.self (by omega)).mono ?_
          rintro e w6 ⟨b6, rfl, K6⟩
          have C6 := C5.trans K6
          have G6 := G5.grown K6.gr (fun k e => by injection e with e; omega)
          clear G5 C5 K6
          cases b6
          · go_wp2
            go_ret
            exact ⟨m, lo, lc, X, V, rfl, by omega, G6, C6.mono (by omega)⟩
          · clear G6
            go_wp2
            go_loopw [3, 4] (fun u q wr => ∃ (k : Nat) (lo : Option Addr) (lc : Nat) (X : Nat → Ent) (V : Nat → Value), u = .slice lo k lc ∧ q = .int .i64 k ∧ k ≤ 101 ∧ GL wr w.heap.size (.slice lo k lc) k X V ∧ CS w wr CB ao n cap f (A + 603 + k)) (fun _ q _ => 102 - (intOf q).toNat)
            case atStart => exact ⟨0, none, 0, fun _ => dE, _, rfl, rfl, by omega, gl_nil _ _ _, C6⟩
            case round =>
              clear C6
              obtain ⟨k, lo, lc, X, V, rfl, rfl, hk, G, C⟩ := hrel
              go_wp2_with fail
              refine (pick_s 2 (by omega) C.self (by omega)).mono ?_
              rintro e w7 ⟨x, rfl, x0, x1, K7⟩
              have C7 := C.trans K7
              have G7 := G.grown K7.gr (fun k e => by injection e with e; omega)
              have hw1 : IntKind.i64.wrap (100 + x) = 100 + x := by rw [IntKind.wrap_i64] <;> omega
              clear G C K7
              by_cases hlt : (k : Int) < 100 + x
              · have hlt2 : decide ((k : Int) < 100 + x) = true := decide_eq_true hlt
                obtain ⟨c1, hc1⟩ : ∃ c1 : Int, c1 = 97 + (k : Int) / 10 := ⟨_, rfl⟩
                obtain ⟨c2, hc2⟩ : ∃ c2 : Int, c2 = 48 + (k : Int) % 10 := ⟨_, rfl⟩
                have htd : (k : Int).tdiv 10 = (k : Int) / 10 := Int.tdiv_eq_ediv_of_nonneg (by omega)
                have htm : (k : Int).tmod 10 = (k : Int) % 10 := Int.tmod_eq_emod_of_nonneg (by omega)
                have hwd : IntKind.i64.wrap ((k : Int) / 10) = (k : Int) / 10 := by rw [IntKind.wrap_i64] <;> omega
                have hwm : IntKind.i64.wrap ((k : Int) % 10) = (k : Int) % 10 := by rw [IntKind.wrap_i64] <;> omega
                have hwa : IntKind.i64.wrap (97 + (k : Int) / 10) = c1 := by rw [IntKind.wrap_i64] <;> omega
                have hwb : IntKind.i64.wrap (48 + (k : Int) % 10) = c2 := by rw [IntKind.wrap_i64] <;> omega
                have hb1 : 97 ≤ c1 ∧ c1 ≤ 107 := by omega
                have hb2 : 48 ≤ c2 ∧ c2 ≤ 57 := by omega
                have hu1 : IntKind.u8.wrap c1 = c1 := by rw [IntKind.wrap_u8] <;> omega
                have hu2 : IntKind.u8.wrap c2 = c2 := by rw [IntKind.wrap_u8] <;> omega
                have hwk : IntKind.i64.wrap (100 + (k : Int)) = 100 + (k : Int) := by rw [IntKind.wrap_i64] <;> omega
                have hwk1 : IntKind.i64.wrap ((k : Int) + 1) = (k : Int) + 1 := by rw [IntKind.wrap_i64] <;> omega
                clear hc1 hc2
                have bb := below_new w7 (.cells #[.int .u8 c1, .int .u8 c2] 5)
                have RB : Row (w7.alloc (.cells #[.int .u8 c1, .int .u8 c2] 5)) (some ⟨w7.heap.size, 0, none⟩) [c1, c2].length (fl [c1, c2]) := by
                  have hh : (w7.alloc (.cells #[.int .u8 c1, .int .u8 c2] 5)).heap[w7.heap.size]? = some (.cells #[.int .u8 c1, .int .u8 c2] 5 (0, 0)) := heap_alloc_new w7 _
                  refine ⟨fun i => ?_, .inr ⟨w7.heap.size, 0, rfl, by simp, fun i hi => ?_⟩⟩
                  · rcases i with _ | _ | i
                    · show 0 ≤ c1 ∧ c1 ≤ 255; omega
                    · show 0 ≤ c2 ∧ c2 ≤ 255; omega
                    · simp [fl]
                  · have hi2 : i < 2 := hi
                    rw [cell_of_row _ _ _ _ _ _ hh]
                    rcases i with _ | _ | i
                    · rfl
                    · rfl
                    · omega
                have hcv := conv_row _ _ 2 [c1, c2] RB
                obtain ⟨T, hT⟩ : ∃ T, strOfNums [c1, c2] = T := ⟨_, rfl⟩
                have hTs : T.size ≤ 2 := by rw [← hT]; exact Nat.le_of_eq rfl
                have hKs : ((⟨#[107]⟩ : ByteArray) ++ T).size ≤ 200 := by rw [ByteArray.size_append]; show 1 + T.size ≤ 200; omega
                rw [hT] at hcv
                have G8 := G7.keep bb
                have C8 := C7.keep bb
                have hs8 := C8.gr.size
                clear hT RB bb G7 C7
                have hlen2 : [c1, c2].length = 2 := rfl
                rw [hlen2] at hcv
                obtain ⟨v9, w9, hrun, G9, g9⟩ := G8.push (bareE ((⟨#[107]⟩ : ByteArray) ++ T) (100 + (k : Int))) none 0 (hr_none _ _) (fun g off e => by cases e) (bare_sm hKs ⟨by omega, by omega⟩) (by omega) hs8 23
                obtain ⟨lo9, lc9, rfl⟩ := ownsRow_form G9.own
                have C9 := (C8.keep (below_new _ (.cells #[.string ((⟨#[107]⟩ : ByteArray) ++ T), .int .i64 (100 + (k : Int)), .int .i64 2, .int .i64 0, .int .i64 0, .int .i64 0, .int .i64 0, .slice none 0 0, .bool false] 35))).far g9 (fun r e => (G8.own.lt r e).1)
                have hrun' : (Builtin.append_ #[23, 23] 23 #[.slice lo k lc, .slice (some ⟨w7.heap.size + 1, 0, none⟩) 1 1]).run Tryz.prog ((w7.alloc (.cells #[.int .u8 c1, .int .u8 c2] 5)).alloc (.cells #[.string ((⟨#[107]⟩ : ByteArray) ++ T), .int .i64 (100 + (k : Int)), .int .i64 2, .int .i64 0, .int .i64 0, .int .i64 0, .int .i64 0, .slice none 0 0, .bool false] 35)) = .ok (.slice lo9 (k + 1) lc9) w9 := by
                  rw [World.size_alloc] at hrun
                  exact hrun
                have hk100 : k ≤ 100 := by omega
                clear hrun G8 C8 g9 hs8
                go_wp2_with (at_builtin; refine wpList_append_eq _ rfl (.tmp 34) (.tmp 49) 23 23 rfl rfl (.slice lo k lc) (.slice (some ⟨w7.heap.size + 1, 0, none⟩) 1 1) (.slice lo9 (k + 1) lc9) rfl rfl w9 hrun' ?_)
                go_roundw
                case rel => exact ⟨k + 1, lo9, lc9, _, _, rfl, by go_num, by omega, G9, C9.mono (by omega)⟩
                case measure => simp [intOf]; omega
              · have hlt2 : decide ((k : Int) < 100 + x) = false := decide_eq_false hlt
                go_wp2
                go_ret
                exact ⟨k, lo, lc, X, V, rfl, hk, G7, C7.mono (by omega)⟩

/-- Drawn entries and bits a key. -/
def DbO (w : World) (e : Ending) (w' : World) : Prop :=
  ∃ (m : Nat) (lo : Option Addr) (lc : Nat) (X : Nat → Ent) (V : Nat → Value) (p : Int), e = .returned (.tuple #[.slice lo m lc, .int .i64 p]) ∧ m ≤ 101 ∧ 0 ≤ p ∧ p ≤ 21 ∧ GL w' w.heap.size (.slice lo m lc) m X V ∧ Below w.heap.size w w'
set_option maxHeartbeats 4000000 in
theorem drawBuild_any (ao : Option Addr) (n cap : Nat) (f : Nat → Int) (w : World) (hr : Row w ao n f) (hn : n ≤ 1048576) :
    Calls Tryz.prog 5 #[.slice ao n cap] w fun e w' => DbO w e w' := by
  have b2 := below_new w (.cells #[.slice ao n cap, .int .i64 0, .int .u64 0] 50)
  have C2 : CS (w.alloc (.cells #[.slice ao n cap, .int .i64 0, .int .u64 0] 50)) (w.alloc (.cells #[.slice ao n cap, .int .i64 0, .int .u64 0] 50)) w.heap.size ao n cap f 0 := ⟨⟨0, 0, Nat.le_refl _, cu_new w _ 50⟩, cb_new hr _, grown_refl _ _, by simp, hn⟩
  have s2 : w.heap.size < (w.alloc (.cells #[.slice ao n cap, .int .i64 0, .int .u64 0] 50)).heap.size := by simp
  go_enter Tryz.func5, Tryz.ntmps5
  go_wp2_with fail
  generalize w.alloc (.cells #[.slice ao n cap, .int .i64 0, .int .u64 0] 50) = w2 at *
  obtain ⟨CB, hCB⟩ : ∃ CB, w.heap.size = CB := ⟨_, rfl⟩
  have HCB : Hid (w.heap.size = CB) := hCB
  rw [hCB] at C2 s2 b2 ⊢
  clear hCB
  refine (tableEntries_any C2 (by omega)).mono ?_
  rintro e w3 ⟨m, lo, lc, X, V, rfl, hm, G3, K3⟩
  go_wp2_with fail
  refine (perKey_any K3.self (by omega)).mono ?_
  rintro e w4 ⟨p, rfl, p0, p1, K4⟩
  have G4 := G3.grown K4.gr (fun k e => by injection e with e; omega)
  have K := K3.trans K4
  have bw : Below w.heap.size w w4 := by
    rw [HCB.out]
    exact b2.grown K.gr (by omega) (fun k e => by injection e with e; omega)
  have z2 : w.heap.size ≤ w2.heap.size := by have := HCB.out; omega
  have G5 : GL w4 w.heap.size (.slice lo m lc) m X V := ⟨ownsRow_mono G4.own z2, fun i hi => by obtain ⟨a, b, c, d, e⟩ := G4.row i hi; exact ⟨a, b, c, d.mono z2, e⟩, G4.bd⟩
  clear G4 G3 K3 K4 K b2
  go_wp2
  go_ret2
  exact ⟨m, lo, lc, X, V, p, rfl, hm, p0, p1, G5, bw⟩
set_option maxHeartbeats 1600000 in
theorem numberOf_any (ao : Option Addr) (n cap : Nat) (f : Nat → Int) (w : World) (hr : Row w ao n f) (hn : n ≤ 1048576) :
    Calls Tryz.prog 13 #[.slice ao n cap] w fun e w' => ∃ x : Int, e = .returned (.int .i64 x) ∧ 0 ≤ x ∧ x < 1000003 ∧ w' = w := by
  obtain ⟨hbd, hlies⟩ := hr
  go_enter Tryz.func13, Tryz.ntmps13
  go_wp2
  go_loopw [3, 8] (fun u q wr => ∃ (k : Nat) (x : Int), k ≤ n ∧ q = .int .i64 k ∧ u = .int .i64 x ∧ 0 ≤ x ∧ x < 1000003 ∧ wr = w) (fun _ q _ => n - (intOf q).toNat)
  case atStart => exact ⟨0, 0, Nat.zero_le _, rfl, rfl, by omega, by omega, rfl⟩
  case round =>
    obtain ⟨k, x, hk, rfl, rfl, x0, x1, hw⟩ := hrel
    have hw2 := hw.symm
    clear hw
    subst hw2
    by_cases hlt : k < n
    · obtain ⟨b, off, rfl, hb, hc⟩ := hlies.resolve_left (by omega)
      have ck := hc k hlt
      have hz := hbd k
      generalize f k = z at *
      have hwm : IntKind.i64.wrap (31 * x) = 31 * x := by rw [IntKind.wrap_i64] <;> omega
      have hwz : IntKind.i64.wrap z = z := by rw [IntKind.wrap_i64] <;> omega
      have hws : IntKind.i64.wrap (31 * x + z) = 31 * x + z := by rw [IntKind.wrap_i64] <;> omega
      have htm : (31 * x + z).tmod 1000003 = (31 * x + z) % 1000003 := Int.tmod_eq_emod_of_nonneg (by omega)
      obtain ⟨y, hy⟩ : ∃ y, (31 * x + z) % 1000003 = y := ⟨_, rfl⟩
      have hyb : 0 ≤ y ∧ y < 1000003 := by omega
      have hwy : IntKind.i64.wrap y = y := by rw [IntKind.wrap_i64] <;> omega
      rw [hy] at htm
      clear hc hbd hy
      go_wp2
      go_roundw
      case rel => exact ⟨k + 1, y, by omega, by go_num, rfl, hyb.1, hyb.2, by first | rfl | trivial⟩
      case measure => simp [intOf]; omega
    · obtain rfl : k = n := by omega
      clear hlies hbd
      go_wp2
      go_ret
      exact ⟨x, rfl, x0, x1, rfl⟩
end Go.Proofs.YtohjjigkfdhklaaGreat
namespace Go.Proofs.YtohjjigkfdhklaaGreat
set_option maxRecDepth 100000
open Go.RowKit
set_option linter.unusedSimpArgs false
set_option linter.unusedVariables false

theorem crcTo_eq {f g : Nat → Int} : ∀ {k : Nat}, (∀ i, i < k → f i = g i) → crcTo f k = crcTo g k
  | 0, _ => rfl
  | k + 1, h => by
    have := crcTo_eq (f := f) (g := g) (k := k) fun i hi => h i (by omega)
    simp only [crcTo, this, h k (by omega)]
theorem odd_iff {c : Int} (hc : 0 ≤ c ∧ c ≤ 4294967295) : (bits .and .u32 c 1 == 1) = true ↔ c % 2 = 1 := by
  rw [u32_and c 1 hc.1 (by omega) (by omega) (by omega)]
  have e : (c.toNat &&& (1 : Int).toNat) = c.toNat % 2 := Nat.and_one_is_mod c.toNat
  rw [e, beq_iff_eq]
  omega
theorem xor_nat_inj {a b p : Nat} (h : a ^^^ p = b ^^^ p) : a = b := by
  have e : ∀ x : Nat, (x ^^^ p) ^^^ p = x := fun x => by rw [Nat.xor_assoc, Nat.xor_self, Nat.xor_zero]
  rw [← e a, h, e b]
theorem xor32_inj {a b p : Int} (ha : 0 ≤ a ∧ a ≤ 4294967295) (hb : 0 ≤ b ∧ b ≤ 4294967295) (hp : 0 ≤ p ∧ p ≤ 4294967295) (h : bits .xor .u32 a p = bits .xor .u32 b p) : a = b := by
  rw [u32_xor a p ha.1 (by omega) hp.1 (by omega), u32_xor b p hb.1 (by omega) hp.1 (by omega)] at h
  have := xor_nat_inj (Int.ofNat.inj h)
  omega
theorem poly_high {a : Int} (ha : 0 ≤ a ∧ a < 2147483648) : 2147483648 ≤ bits .xor .u32 a 2197175160 := by
  rw [u32_xor a 2197175160 ha.1 (by omega) (by omega) (by omega)]
  have h1 : (a.toNat ^^^ (2197175160 : Int).toNat) >>> 31 = 1 := by
    rw [Nat.shiftRight_xor_distrib, Nat.shiftRight_eq_div_pow, Nat.shiftRight_eq_div_pow]
    have e1 : a.toNat / 2 ^ 31 = 0 := Nat.div_eq_of_lt (by omega)
    rw [e1]
    decide
  rw [Nat.shiftRight_eq_div_pow] at h1
  omega
theorem cbit_inj {c d : Int} (hc : 0 ≤ c ∧ c ≤ 4294967295) (hd : 0 ≤ d ∧ d ≤ 4294967295) (h : cbit c = cbit d) : c = d := by
  unfold cbit at h
  by_cases h1 : c % 2 = 1
  · rw [if_pos ((odd_iff hc).2 h1)] at h
    have p1 := poly_high (a := c / 2) (by omega)
    by_cases h2 : d % 2 = 1
    · rw [if_pos ((odd_iff hd).2 h2)] at h
      have := xor32_inj (by omega) (by omega) (by omega) h
      omega
    · rw [if_neg (fun g => h2 ((odd_iff hd).1 g))] at h
      omega
  · rw [if_neg (fun g => h1 ((odd_iff hc).1 g))] at h
    by_cases h2 : d % 2 = 1
    · rw [if_pos ((odd_iff hd).2 h2)] at h
      have p2 := poly_high (a := d / 2) (by omega)
      omega
    · rw [if_neg (fun g => h2 ((odd_iff hd).1 g))] at h
      omega
theorem cbits_inj {c d : Int} (hc : 0 ≤ c ∧ c ≤ 4294967295) (hd : 0 ≤ d ∧ d ≤ 4294967295) : ∀ j, cbits j c = cbits j d → c = d
  | 0, h => h
  | j + 1, h => cbits_inj hc hd j (cbit_inj (cbits_bd j c hc) (cbits_bd j d hd) h)
/-- One byte changed: the register behind it is another. -/
theorem crcTo_one {f g : Nat → Int} {q : Nat} (hf : ∀ i, 0 ≤ f i ∧ f i ≤ 255) (hg : ∀ i, 0 ≤ g i ∧ g i ≤ 255) (hne : f q ≠ g q) (he : ∀ i, i ≠ q → f i = g i) : ∀ d, crcTo f (q + 1 + d) ≠ crcTo g (q + 1 + d)
  | 0 => by
    have hs : crcTo f q = crcTo g q := crcTo_eq fun i hi => he i (by omega)
    intro h
    have h1 := cbits_inj (xor_bd (crcTo f q) (f q)) (xor_bd (crcTo g q) (g q)) 8 h
    rw [hs, xor_comm32 _ (f q), xor_comm32 _ (g q)] at h1
    have := hf q
    have := hg q
    exact hne (xor32_inj (by omega) (by omega) (crcTo_bd g q) h1)
  | d + 1 => by
    have ih := crcTo_one hf hg hne he d
    intro h
    have h1 := cbits_inj (xor_bd (crcTo f (q + 1 + d)) (f (q + 1 + d))) (xor_bd (crcTo g (q + 1 + d)) (g (q + 1 + d))) 8 h
    rw [he (q + 1 + d) (by omega)] at h1
    have := hg (q + 1 + d)
    exact ih (xor32_inj (crcTo_bd f _) (crcTo_bd g _) (by omega) h1)
theorem crcOf_one {f g : Nat → Int} {q n : Nat} (hf : ∀ i, 0 ≤ f i ∧ f i ≤ 255) (hg : ∀ i, 0 ≤ g i ∧ g i ≤ 255) (hq : q < n) (hne : f q ≠ g q) (he : ∀ i, i ≠ q → f i = g i) : crcOf f n ≠ crcOf g n := by
  intro h
  have h1 := xor32_inj (crcTo_bd f n) (crcTo_bd g n) (by omega) h
  have := crcTo_one hf hg hne he (n - (q + 1))
  rw [show q + 1 + (n - (q + 1)) = n by omega] at this
  exact this h1
end Go.Proofs.YtohjjigkfdhklaaGreat
