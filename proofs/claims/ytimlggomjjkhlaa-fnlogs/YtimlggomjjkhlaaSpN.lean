/- The model's reading of a log. -/
import Derived.Test.YtimlggomjjkhlaaSpR
import Derived.Test.YtimlggomjjkhlaaRd5
import Derived.Laws.AppendOwnNone
import Derived.Laws.BytesString
import Derived.Laws.BytesArg
import Derived.RegionTactic
namespace Go.Proofs.Ytimlggomjjkhlaa
open Go.RowKit
set_option linter.unusedSimpArgs false
set_option linter.unusedVariables false

/-- Where the model's reading stands. -/
structure SpSt (B : List Int) (w wr : World) (a : Nat) (ov : Value) (n : Nat) (V : Nat → Value) (Rs : Nat → List Int) (nv : Value) (R : List Int) (o : Bool) (g : Nat) : Prop where
  out : OutS wr w.heap.size ov n V Rs
  now : OwnL wr w.heap.size nv R
  dsj : ∀ k, nv.ownBlock = some k → ov.ownBlock ≠ some k ∧ ∀ i, i < n → (V i).ownBlock ≠ some k
  bel : Below w.heap.size w wr
  le : a ≤ B.length
  sz : R.length + g ≤ a
  tt : tot Rs n ≤ g
  nn : n ≤ g
  cont : ∀ r, Fin B a R o (recs n Rs) g r → Fin B 0 [] false [] 0 r
theorem SpSt.keep {B : List Int} {w wr w' : World} {a a' : Nat} {ov : Value} {n : Nat} {V : Nat → Value} {Rs : Nat → List Int} {nv : Value} {R : List Int} {o : Bool} {g : Nat} (h : SpSt B w wr a ov n V Rs nv R o g) (hb : Below wr.heap.size wr w') (ha : a ≤ a') (hl : a' ≤ B.length)
    (hc : ∀ r, Fin B a' R o (recs n Rs) g r → Fin B a R o (recs n Rs) g r) : SpSt B w w' a' ov n V Rs nv R o g :=
  ⟨h.out.keep hb, h.now.keep hb, h.dsj, h.bel.trans (hb.mono h.bel.size), hl, Nat.le_trans h.sz ha, h.tt, h.nn, fun r hr => h.cont r (hc r hr)⟩

/-- What l3Read answers. -/
def SROut (B : List Int) (w : World) (e : Ending) (w' : World) : Prop :=
  ∃ ao n cap V Rs wh, e = .returned (.tuple #[.slice ao n cap, .int .i64 (wh : Nat)]) ∧ OwS w' w.heap.size w'.heap.size ao n V Rs ∧ Fin B 0 [] false [] 0 (recs n Rs, wh) ∧ Below w.heap.size w w' ∧ n + tot Rs n ≤ 40000
theorem SpSt.fin {B : List Int} {w wr : World} {a : Nat} {oa : Option Addr} {oc n : Nat} {V : Nat → Value} {Rs : Nat → List Int} {nv : Value} {R : List Int} {o : Bool} {g : Nat} (h : SpSt B w wr a (.slice oa n oc) n V Rs nv R o g) (hs : B.length ≤ 20000) (hf : Fin B a R o (recs n Rs) g (recs n Rs, g)) :
    SROut B w (.returned (.tuple #[.slice oa n oc, .int .i64 (g : Int)])) wr := by
  have h1 := h.le
  have h2 := h.sz
  have h3 := h.tt
  have h4 := h.nn
  exact ⟨oa, n, oc, V, Rs, g, rfl, h.out.ows, h.cont _ hf, h.bel, by omega⟩

/-- Bytes of the call's own (or none) put behind a row of its own. -/
theorem wpList_appO {w : World} {ops : Array Oper} {rest : List Oper} {o : Oper} {a : Act} {Q : Exit → Act → World → Prop} (hgd : o.guard = none) (s x : Operand)
    (ho : o.op = .call { callee := .builtin .append, args := #[s, x], argTypes := #[22, 22] })
    (base : Nat) (v : Value) (L : List Int) (hs : a.eval s = v) (hown : OwnL w base v L) (base2 : Nat) (nv : Value) (M : List Int) (hx : a.eval x = nv) (hM : OwnL w base2 nv M)
    (hsz : L.length + M.length ≤ 4194304) (hbase : base ≤ w.heap.size)
    (h : ∀ v' w', OwnL w' base v' (L ++ M) → w.grownBy w' v.ownBlock → (v'.ownBlock = v.ownBlock ∨ v'.ownBlock = some w.heap.size) → wpList Try.prog ops Q rest (a.put o.dst v') w') :
    wpList Try.prog ops Q (o :: rest) a w := by
  obtain ⟨i0, hi, hz0, hz1, hz2⟩ := info_parts Try.info5
  have hMo := hM.own
  rcases hMo.2 with ⟨rfl, h0⟩ | ⟨g, cap, cur, rfl, hbg, hg, hnc, _⟩
  · have hMn : M = [] := List.eq_nil_of_length_eq_zero h0
    subst hMn
    refine wpList_append_own_none hgd s x 22 ho base 5 i0 1 Try.underlying22 hi v L.length (vb L) hs hown.own hx ?_
    exact h v w (by rw [List.append_nil]; exact hown) (grown_refl _ _) (.inl rfl)
  · have hA : At w g 0 M := ⟨hM.bd, (Array.getElem?_eq_some_iff.1 hg).1, fun i hi => by rw [Nat.zero_add, hMo.cellAt i (by omega), vb_get hi]⟩
    exact wpList_app hgd s x ho base v L hs hown g 0 M.length cap M hx rfl hA hsz hbase h

theorem OutS.other {w w' : World} {base : Nat} {v u : Value} {n : Nat} {V : Nat → Value} {Rs : Nat → List Int} (h : OutS w base v n V Rs) (hg : w.grownBy w' u.ownBlock) (hd : ∀ k, u.ownBlock = some k → v.ownBlock ≠ some k ∧ ∀ i, i < n → (V i).ownBlock ≠ some k) : OutS w' base v n V Rs := by
  refine ⟨h.own.kept hg ?_, fun i hi => (h.row i hi).kept hg fun k hk => (hd k hk).2 i hi, h.dis, h.apart⟩
  cases hr : v.ownBlock with
  | none => exact .inl rfl
  | some k => exact .inr fun e => (hd k e.symm).1 hr

/-- The bytes of a piece are put behind what is there of the record. -/
theorem SpSt.more {B : List Int} {w wr w' : World} {a : Nat} {ov : Value} {n : Nat} {V : Nat → Value} {Rs : Nat → List Int} {nv nv' : Value} {R D : List Int} {o : Bool} {g : Nat} (h : SpSt B w wr a ov n V Rs nv R o g)
    (ho : OwnL w' w.heap.size nv' (R ++ D)) (hg : wr.grownBy w' nv.ownBlock) (ha : nv'.ownBlock = nv.ownBlock ∨ nv'.ownBlock = some wr.heap.size) :
    OutS w' w.heap.size ov n V Rs ∧ Below w.heap.size w w' ∧ (∀ k, nv'.ownBlock = some k → ov.ownBlock ≠ some k ∧ ∀ i, i < n → (V i).ownBlock ≠ some k) := by
  refine ⟨h.out.other hg h.dsj, h.now.below h.bel hg (Nat.le_refl _) h.bel.size, fun k hk => ?_⟩
  rcases ha with ha | ha
  · rw [ha] at hk; exact h.dsj k hk
  · rw [ha] at hk
    injection hk with hk
    subst hk
    exact ⟨fun e => by have := (h.out.lt _ e).2; omega, fun i hi e => by have := ((h.out.row i hi).lt _ e).2; omega⟩

theorem made_zero (w : World) (Z : Nat) (hZ : Z ≤ 64) : ∃ w1, (Instr.makeSlice 22 (.int .i64 (Z : Int)) (.int .i64 (Z : Int))).run Try.prog w = .ok (.slice (some ⟨w.heap.size, 0, none⟩) Z Z) w1 ∧
    (∀ i, i < Z → w1.cell? ⟨w.heap.size, i, none⟩ = some (.int .u8 0)) ∧ Below w.heap.size w w1 := by
  obtain ⟨i0, hi, hz0, hz1, hz2⟩ := info_parts Try.info5
  have h := run_make (P := Try.prog) w 22 5 i0 (.int .u8 0) Try.underlying22 hi hz0 .i64 .i64 (Z : Int) (Z : Int) (by omega) (Int.le_refl _) (by rw [hz2]; omega) (by omega)
  rw [Int.toNat_natCast, hz1, Nat.mul_one] at h
  refine ⟨_, h, fun i hi' => ?_, below_new _ _⟩
  have hh := heap_alloc_new w (.cells (madeCells (Value.int .u8 0).cells Z) 5)
  have e : (Value.int .u8 0).cells = #[.int .u8 0] := rfl
  rw [e] at hh ⊢
  rw [cell_of_row _ _ _ _ _ _ hh, ← Array.getElem?_toList, toList_madeCells_one]
  simp [hi']

theorem zeros_str {B : List Int} {a : Nat} (h : zeros B a) : (B.drop a).take (lft a) = List.replicate (lft a) 0 := by
  apply List.ext_getElem?
  intro i
  by_cases hi : i < lft a
  · have h1 := h.2 i hi
    have h2 := h.1
    have hl : a + i < B.length := by omega
    rw [List.getElem?_take_of_lt hi, List.getElem?_drop, List.getElem?_replicate, if_pos hi, List.getElem?_eq_getElem hl]
    simp only [fl, List.getD_eq_getElem?_getD, List.getElem?_eq_getElem hl, Option.getD_some] at h1
    rw [h1]
  · rw [List.getElem?_eq_none (by rw [List.length_take]; omega), List.getElem?_eq_none (by simp; omega)]
theorem strOfNums_inj {L M : List Int} (hL : Byt L) (hM : Byt M) (h : strOfNums L = strOfNums M) : L = M := by
  have h1 : L.map (fun n => UInt8.ofNat n.toNat) = M.map (fun n => UInt8.ofNat n.toNat) := by
    have := congrArg (fun s : ByteArray => s.data.toList) h
    simpa [strOfNums] using this
  have inv : ∀ (K : List Int), Byt K → (K.map (fun n => UInt8.ofNat n.toNat)).map (fun c => (c.toNat : Int)) = K := by
    intro K hK
    rw [List.map_map]
    conv => rhs; rw [← List.map_id K]
    refine List.map_congr_left fun x hx => ?_
    have := hK x hx
    simp only [Function.comp, UInt8.toNat_ofNat', id]
    omega
  rw [← inv L hL, ← inv M hM, h1]
theorem str_zeros {B : List Int} {a : Nat} (hB : Byt B) (hfit : a + lft a ≤ B.length) (h : strOfNums ((B.drop a).take (lft a)) = strOfNums (List.replicate (lft a) 0)) : zeros B a := by
  have e := strOfNums_inj ((hB.drop a).take _) (fun x hx => by rw [(List.mem_replicate.1 hx).2]; omega) h
  refine ⟨hfit, fun i hi => ?_⟩
  have := congrArg (fun L => fl L i) e
  simp only [fl_take hi, fl_drop] at this
  rw [this]
  simp [fl, hi]

set_option maxRecDepth 100000 in
set_option maxHeartbeats 4000000 in
theorem l3Read_any (lb lo lc n : Nat) (B : List Int) (w : World) (hA : At w lb lo B) (hn : n = B.length) (hc : n ≤ lc) (hs : B.length ≤ 20000) :
    Calls Try.prog 29 #[.slice (some ⟨lb, lo, none⟩) n lc] w fun e w' => SROut B w e w' := by
  subst hn
  go_enter Try.func29, Try.ntmps29
  go_wp2
  go_loopw [4, 5, 6, 7, 8] (fun ov gv av nv op wr => ∃ (a n g m mc oc : Nat) (oa na : Option Addr) (V : Nat → Value) (Rs : Nat → List Int) (R : List Int) (o : Bool), ov = .slice oa n oc ∧ gv = .int .i64 g ∧ av = .int .i64 a ∧ nv = .slice na m mc ∧ m = R.length ∧ op = .bool o ∧ SpSt B w wr a (.slice oa n oc) n V Rs (.slice na R.length mc) R o g) (fun _ _ av _ _ _ => B.length - (intOf av).toNat)
  case atStart => exact ⟨0, 0, 0, 0, 0, 0, none, none, _, _, [], false, rfl, rfl, rfl, rfl, rfl, rfl, outS_nil _ _, ownL_nil _ _, fun k hk => by simp [Value.ownBlock] at hk, Below.refl _ _, Nat.zero_le _, Nat.le_refl _, Nat.le_refl _, Nat.le_refl _, fun r h => h⟩
  case round =>
    obtain ⟨a, n, g, m, mc, oc, oa, na, V, Rs, R, o, rfl, rfl, rfl, rfl, rfl, rfl, hS⟩ := hrel
    have hA1 := hA.keep hS.bel
    have he : (64 : Int) - (a : Int) % 64 = (lft a : Int) := by unfold lft; omega
    have hlb := lft_bd a
    have hle := hS.le
    by_cases hlt : a < B.length
    · by_cases h6 : lft a < 6
      · by_cases hfit : a + lft a ≤ B.length
        · have hx : (lft a : Int) < 6 := by omega
          have hx2 : decide ((B.length : Int) < (a : Int) + (lft a : Int)) = false := by simp; omega
          have hcap : a + lft a ≤ lc := by omega
          have hz : a + lft a - a = lft a := by omega
          have HCV : Hid (∀ w', Below wr.heap.size wr w' → (convert 22 9 (.slice (some ⟨lb, lo + a, none⟩) (lft a) (lc - a))).run Try.prog w' = .ok (.string (strOfNums ((B.drop a).take (lft a)))) w') := fun w' hb => run_convert_bytes_arg (P := Try.prog) w' 22 5 Try.underlying22 Try.underlying5 lb (lo + a) (lft a) (lc - a) ((B.drop a).take (lft a)) (by rw [List.length_take, List.length_drop]; omega) (fun i hi => (((hA1.drop a).take (lft a)).keep hb).cell i (by rw [List.length_take, List.length_drop]; omega)) 9 Try.underlying9
          obtain ⟨w1, hmk, hcz, hb1⟩ := made_zero wr.drew (lft a) (by omega)
          have hb1' : Below wr.heap.size wr w1 := (Below.refl _ wr).drew.trans hb1
          have cvZ := run_convert_bytes_arg (P := Try.prog) w1 22 5 Try.underlying22 Try.underlying5 wr.heap.size 0 (lft a) (lft a) (List.replicate (lft a) 0) (by simp) (fun i hi => by rw [Nat.zero_add, show wr.heap.size = wr.drew.heap.size from rfl, hcz i hi]; simp [hi]) 9 Try.underlying9
          have cv0 := HCV.out _ (Below.refl _ wr).drew
          have cv1 := HCV.out _ hb1'
          have hmk' : (Instr.makeSlice 22 (.int .i64 (lft a : Int)) (.int .i64 (lft a : Int))).run Try.prog wr.drew = .ok (.slice (some ⟨wr.heap.size, 0, none⟩) (lft a) (lft a)) w1 := hmk
          have hww : IntKind.i64.wrap ((a : Int) + (lft a : Int)) = (a : Int) + (lft a : Int) := by rw [IntKind.wrap_i64]; omega
          have hb0 : (0 : Int) ≤ (a : Int) := by omega
          have hbb1 : (a : Int) ≤ (a : Int) + (lft a : Int) := by omega
          have hbb2 : (a : Int) + (lft a : Int) ≤ (lc : Int) := by omega
          have hbb3 : ¬ lc = a := by omega
          have htn : ((a : Int) + (lft a : Int)).toNat = a + lft a := by omega
          have htn2 : ((a : Int) + (lft a : Int)).toNat - a = lft a := by omega
          have HH : Hid (a < B.length ∧ lft a < 6 ∧ a + lft a ≤ B.length ∧ 1 ≤ lft a ∧ B.length ≤ 20000) := ⟨hlt, h6, hfit, hlb.1, hs⟩
          have HB1 : Hid (Below wr.heap.size wr w1) := hb1'
          have HSS : Hid (SpSt B w wr a (.slice oa n oc) n V Rs (.slice na R.length mc) R o g) := hS
          have HBy : Hid (Byt B) := hA1.bd
          clear hmk hcz hb1
          by_cases hzz : zeros B a
          · have hse : ((strOfNums ((B.drop a).take (lft a))).toList == (strOfNums (List.replicate (lft a) 0)).toList) = true := by rw [zeros_str hzz]; simp
            have HZ : Hid (zeros B a) := hzz
            generalize strOfNums ((B.drop a).take (lft a)) = s1 at *
            generalize strOfNums (List.replicate (lft a) 0) = s2 at *
            clear hzz
            go_wp2
            clear he hlb hlt h6 hfit hx hcap HCV hb1' hA hA1 hc hs hS hle
            go_region
            obtain ⟨hlt, h6, hfit, hl1, hs⟩ := HH.out
            clear cvZ cv0 cv1 hmk' htn htn2 hww
            go_wp2
            go_roundw
            case rel => exact ⟨a + lft a, n, g, R.length, mc, oc, oa, na, V, Rs, R, o, rfl, rfl, by go_num, rfl, rfl, rfl, HSS.out.keep HB1.out (by omega) hfit (fun r h => fin_nog hlt h6 HZ.out h)⟩
            case measure => simp [intOf]; omega
          · have hse : ((strOfNums ((B.drop a).take (lft a))).toList == (strOfNums (List.replicate (lft a) 0)).toList) = false := by
              rw [ByteArray.toList_eq, ByteArray.toList_eq]
              simp only [beq_eq_false_iff_ne, ne_eq]
              intro e
              exact hzz (str_zeros hA1.bd hfit (by
                have e2 : (strOfNums ((B.drop a).take (lft a))).data = (strOfNums (List.replicate (lft a) 0)).data := Array.toList_inj.1 e
                exact congrArg ByteArray.mk e2))
            have HZ : Hid (¬ zeros B a) := hzz
            generalize strOfNums ((B.drop a).take (lft a)) = s1 at *
            generalize strOfNums (List.replicate (lft a) 0) = s2 at *
            clear hzz
            go_wp2
            clear he hlb hlt h6 hfit hx hcap HCV hb1' hA hA1 hc hs hS hle
            go_region
            obtain ⟨hlt, h6, hfit, hl1, hs⟩ := HH.out
            clear cvZ cv0 cv1 hmk' htn htn2 hww
            go_wp2
            go_ret2
            exact (HSS.out.keep HB1.out (Nat.le_refl _) HSS.out.le (fun r h => h)).fin hs (fin_nstop hlt h6 HZ.out)
        · have hx : (lft a : Int) < 6 := by omega
          have hx2 : decide ((B.length : Int) < (a : Int) + (lft a : Int)) = true := by simp; omega
          have HZ : Hid (¬ zeros B a) := fun h => hfit h.1
          go_wp2
          go_quiet (fail)
          go_wp2
          go_ret2
          exact (hS.keep (below_drewN (Below.refl _ _) _) (Nat.le_refl _) hS.le (fun r h => h)).fin hs (fin_nstop hlt h6 HZ.out)
      · have hx : ¬ (lft a : Int) < 6 := by omega
        go_wp2_with fail
        refine (l3Piece_any lb lo lc B.length a B _ hA1 rfl hc hs hlt).mono ?_
        rintro e w1 (⟨hp, hk, o1, c1, rfl, hD, b1⟩ | ⟨hno, rfl, b1⟩)
        · have hS1 := hS.keep b1 (Nat.le_refl _) hS.le (fun r h => h)
          have hall := hp.all
          have hDl : (pD B a).length = pn B a := by unfold pD; rw [List.length_take, List.length_drop]; omega
          have HP : Hid (Pc B a) := hp
          have h6' : 6 ≤ lft a := by omega
          have hk4 : pk B a = 1 ∨ pk B a = 2 ∨ pk B a = 3 ∨ pk B a = 4 := by omega
          have hpn : pn B a ≤ 20000 := by omega
          clear hp hk hS hA hA1 he hle
          obtain ⟨K, HK⟩ : ∃ K, Hid (pk B a = K) := ⟨_, rfl⟩
          obtain ⟨M, HM⟩ : ∃ M, Hid (pn B a = M) := ⟨_, rfl⟩
          rw [HK.out, HM.out]
          rw [HK.out] at hk4
          rw [HM.out] at hall hDl hpn
          have hS2 := hS1
          have hsz := hS1.sz
          have hnn := hS1.nn
          have htt := hS1.tt
          have hbs := hS1.bel.size
          have hRs : R.length ≤ 20000 := by omega
          cases o
          · rcases hk4 with rfl | rfl | rfl | rfl
            · have HC : Hid (∀ r, Fin B (a + 6 + M) [] false (recs n Rs ++ [R ++ pD B a]) (a + 6 + M) r → Fin B a R false (recs n Rs) g r) := fun r h => fin_rec h6' HP.out (by rw [HK.out]; rfl) (by rw [HK.out]; simp) (by rw [HM.out]; exact h)
              clear hS2
              have t1 : True := trivial
              have t2 : True := trivial
              have t3 : True := trivial
              have hlen : (R ++ pD B a).length = R.length + M := by rw [List.length_append, hDl]
              have HL : Hid ((R ++ pD B a).length = R.length + M) := hlen
              clear hlen
              go_wp2_with (first
                | (at_builtin; clear t1; refine wpList_app rfl (.tmp 63) (.tmp 64) rfl w.heap.size (.slice na R.length mc) R rfl hS1.now lb o1 M c1 (pD B a) rfl hDl.symm hD (by omega) hbs ?_; intro v3 w3 ho3 hg3 ha3; obtain ⟨ao3, cp3, rfl⟩ := ho3.form; obtain ⟨hO3, hB3, hd3⟩ := hS1.more ho3 hg3 ha3; rw [HL.out] at ho3; have hlit := ownL_lit w3 w3.heap.size [] byt_nil (Nat.le_refl _) (by simp))
                | (at_builtin; clear t2; refine wpList_appO rfl (.tmp 76) (.tmp 77) rfl w3.heap.size (.slice (some ⟨w3.heap.size, 0, none⟩) 0 0) [] rfl hlit w.heap.size (.slice ao3 (R.length + M) cp3) (R ++ pD B a) rfl (ho3.keep (below_new _ _)) (by rw [HL.out]; simp; omega) (by simp) ?_; intro v4 w4 ho4 hg4 ha4; have b4 := hlit.below (below_new _ _) hg4 (Nat.le_refl _) (by simp); rw [List.nil_append] at ho4; obtain ⟨xa, xc, rfl⟩ := ho4.form; rw [HL.out] at ho4; have hO4 := hO3.keep b4; have s4 := b4.size; have hd4 : ∀ k, (Value.slice xa (R.length + M) xc).ownBlock = some k → (Value.slice oa n oc).ownBlock ≠ some k ∧ ∀ i, i < n → (V i).ownBlock ≠ some k := (fun k hk => (have h1 := (ho4.lt k hk).1; ⟨fun e => (by have := (hO3.lt k e).2; omega), fun i hi e => (by have := ((hO3.row i hi).lt k e).2; omega)⟩)))
                | (at_builtin; clear t3; refine wpList_push rfl (.tmp 75) (.tmp 79) rfl w.heap.size (.slice oa n oc) (.slice xa (R.length + M) xc) n V Rs (R ++ pD B a) rfl hO4 (ho4.mono hB3.size) hd4 rfl (by omega) (Nat.le_trans hB3.size s4) ?_; intro v5 w5 hO5 hg5; obtain ⟨oa5, oc5, rfl⟩ := hO5.form))
              have hB4 := hB3.trans (b4.mono hB3.size)
              have hB4' := hB4.trans ((below_new w4 (.cells #[.slice xa (R.length + M) xc] 22)).mono hB4.size)
              have hB5 : Below w.heap.size w w5 := hB4'.grown hg5 hB4'.size (fun k hk => (hO4.lt k hk).1)
              go_roundw
              case rel => exact ⟨a + 6 + M, n + 1, a + 6 + M, 0, 0, oc5, oa5, none, _, _, [], false, rfl, by go_num, by go_num, rfl, rfl, rfl, hO5, ownL_nil _ _, fun k hk => by simp [Value.ownBlock] at hk, hB5, hall, by simp, by rw [tot_push, List.length_append]; omega, by omega, fun r h => hS1.cont r (HC.out r (by rw [recs_succ] at h; exact h))⟩
              case measure => simp [intOf]; omega
            · have HC : Hid (∀ r, Fin B (a + 6 + M) (R ++ pD B a) true (recs n Rs) g r → Fin B a R false (recs n Rs) g r) := fun r h => fin_more h6' HP.out (by rw [HK.out]; rfl) (by rw [HK.out]; simp) (by rw [HM.out]; exact h)
              clear hS2
              go_wp2_with (at_builtin; refine wpList_app rfl (.tmp 63) (.tmp 64) rfl w.heap.size (.slice na R.length mc) R rfl hS1.now lb o1 M c1 (pD B a) rfl hDl.symm hD (by omega) hbs ?_; intro v3 w3 ho3 hg3 ha3; obtain ⟨ao3, cp3, rfl⟩ := ho3.form)
              obtain ⟨hO3, hB3, hd3⟩ := hS1.more ho3 hg3 ha3
              go_roundw
              case rel => exact ⟨a + 6 + M, n, g, _, cp3, oc, oa, ao3, V, Rs, R ++ pD B a, true, rfl, rfl, by go_num, rfl, by rw [List.length_append, hDl], rfl, hO3, ho3, hd3, hB3, hall, by rw [List.length_append]; omega, htt, hnn, fun r h => hS1.cont r (HC.out r h)⟩
              case measure => simp [intOf]; omega
            · have HF : Hid (Fin B a R false (recs n Rs) g (recs n Rs, g)) := fin_pstop hlt h6' (fun h => by have := h.2; rw [HK.out] at this; simp [okK] at this)
              clear hS2
              go_wp2
              go_ret2
              exact hS1.fin hs HF.out
            · have HF : Hid (Fin B a R false (recs n Rs) g (recs n Rs, g)) := fin_pstop hlt h6' (fun h => by have := h.2; rw [HK.out] at this; simp [okK] at this)
              clear hS2
              go_wp2
              go_ret2
              exact hS1.fin hs HF.out
          · rcases hk4 with rfl | rfl | rfl | rfl
            · have HF : Hid (Fin B a R true (recs n Rs) g (recs n Rs, g)) := fin_pstop hlt h6' (fun h => by have := h.2; rw [HK.out] at this; simp [okK] at this)
              clear hS2
              go_wp2
              go_ret2
              exact hS1.fin hs HF.out
            · have HF : Hid (Fin B a R true (recs n Rs) g (recs n Rs, g)) := fin_pstop hlt h6' (fun h => by have := h.2; rw [HK.out] at this; simp [okK] at this)
              clear hS2
              go_wp2
              go_ret2
              exact hS1.fin hs HF.out
            · have HC : Hid (∀ r, Fin B (a + 6 + M) (R ++ pD B a) true (recs n Rs) g r → Fin B a R true (recs n Rs) g r) := fun r h => fin_more h6' HP.out (by rw [HK.out]; rfl) (by rw [HK.out]; simp) (by rw [HM.out]; exact h)
              clear hS2
              go_wp2_with (at_builtin; refine wpList_app rfl (.tmp 63) (.tmp 64) rfl w.heap.size (.slice na R.length mc) R rfl hS1.now lb o1 M c1 (pD B a) rfl hDl.symm hD (by omega) hbs ?_; intro v3 w3 ho3 hg3 ha3; obtain ⟨ao3, cp3, rfl⟩ := ho3.form)
              obtain ⟨hO3, hB3, hd3⟩ := hS1.more ho3 hg3 ha3
              go_roundw
              case rel => exact ⟨a + 6 + M, n, g, _, cp3, oc, oa, ao3, V, Rs, R ++ pD B a, true, rfl, rfl, by go_num, rfl, by rw [List.length_append, hDl], rfl, hO3, ho3, hd3, hB3, hall, by rw [List.length_append]; omega, htt, hnn, fun r h => hS1.cont r (HC.out r h)⟩
              case measure => simp [intOf]; omega
            · have HC : Hid (∀ r, Fin B (a + 6 + M) [] false (recs n Rs ++ [R ++ pD B a]) (a + 6 + M) r → Fin B a R true (recs n Rs) g r) := fun r h => fin_rec h6' HP.out (by rw [HK.out]; rfl) (by rw [HK.out]; simp) (by rw [HM.out]; exact h)
              clear hS2
              have t1 : True := trivial
              have t2 : True := trivial
              have t3 : True := trivial
              have hlen : (R ++ pD B a).length = R.length + M := by rw [List.length_append, hDl]
              have HL : Hid ((R ++ pD B a).length = R.length + M) := hlen
              clear hlen
              go_wp2_with (first
                | (at_builtin; clear t1; refine wpList_app rfl (.tmp 63) (.tmp 64) rfl w.heap.size (.slice na R.length mc) R rfl hS1.now lb o1 M c1 (pD B a) rfl hDl.symm hD (by omega) hbs ?_; intro v3 w3 ho3 hg3 ha3; obtain ⟨ao3, cp3, rfl⟩ := ho3.form; obtain ⟨hO3, hB3, hd3⟩ := hS1.more ho3 hg3 ha3; rw [HL.out] at ho3; have hlit := ownL_lit w3 w3.heap.size [] byt_nil (Nat.le_refl _) (by simp))
                | (at_builtin; clear t2; refine wpList_appO rfl (.tmp 76) (.tmp 77) rfl w3.heap.size (.slice (some ⟨w3.heap.size, 0, none⟩) 0 0) [] rfl hlit w.heap.size (.slice ao3 (R.length + M) cp3) (R ++ pD B a) rfl (ho3.keep (below_new _ _)) (by rw [HL.out]; simp; omega) (by simp) ?_; intro v4 w4 ho4 hg4 ha4; have b4 := hlit.below (below_new _ _) hg4 (Nat.le_refl _) (by simp); rw [List.nil_append] at ho4; obtain ⟨xa, xc, rfl⟩ := ho4.form; rw [HL.out] at ho4; have hO4 := hO3.keep b4; have s4 := b4.size; have hd4 : ∀ k, (Value.slice xa (R.length + M) xc).ownBlock = some k → (Value.slice oa n oc).ownBlock ≠ some k ∧ ∀ i, i < n → (V i).ownBlock ≠ some k := (fun k hk => (have h1 := (ho4.lt k hk).1; ⟨fun e => (by have := (hO3.lt k e).2; omega), fun i hi e => (by have := ((hO3.row i hi).lt k e).2; omega)⟩)))
                | (at_builtin; clear t3; refine wpList_push rfl (.tmp 75) (.tmp 79) rfl w.heap.size (.slice oa n oc) (.slice xa (R.length + M) xc) n V Rs (R ++ pD B a) rfl hO4 (ho4.mono hB3.size) hd4 rfl (by omega) (Nat.le_trans hB3.size s4) ?_; intro v5 w5 hO5 hg5; obtain ⟨oa5, oc5, rfl⟩ := hO5.form))
              have hB4 := hB3.trans (b4.mono hB3.size)
              have hB4' := hB4.trans ((below_new w4 (.cells #[.slice xa (R.length + M) xc] 22)).mono hB4.size)
              have hB5 : Below w.heap.size w w5 := hB4'.grown hg5 hB4'.size (fun k hk => (hO4.lt k hk).1)
              go_roundw
              case rel => exact ⟨a + 6 + M, n + 1, a + 6 + M, 0, 0, oc5, oa5, none, _, _, [], false, rfl, by go_num, by go_num, rfl, rfl, rfl, hO5, ownL_nil _ _, fun k hk => by simp [Value.ownBlock] at hk, hB5, hall, by simp, by rw [tot_push, List.length_append]; omega, by omega, fun r h => hS1.cont r (HC.out r (by rw [recs_succ] at h; exact h))⟩
              case measure => simp [intOf]; omega
        · have HF : Hid (Fin B a R o (recs n Rs) g (recs n Rs, g)) := fin_pstop hlt (by omega) (fun h => hno ⟨h.1, by have := okK_cases h.2; omega⟩)
          have hS1 := hS.keep b1 (Nat.le_refl _) hS.le (fun r h => h)
          clear hS hA hA1 hno
          go_wp2
          go_ret2
          exact hS1.fin hs HF.out
    · have HF : Hid (Fin B a R o (recs n Rs) g (recs n Rs, g)) := fin_end (by omega)
      have hlt' : ¬ (a : Int) < (B.length : Int) := by omega
      go_wp2
      go_ret2
      exact hS.fin hs HF.out
end Go.Proofs.Ytimlggomjjkhlaa
