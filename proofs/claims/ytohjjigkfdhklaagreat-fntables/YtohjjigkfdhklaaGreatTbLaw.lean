/- The law of FnTables, walked. -/
import Derived.Test.YtohjjigkfdhklaaGreatGc
import Derived.Test.YtohjjigkfdhklaaGreatBoLaw
import Derived.Test.YtohjjigkfdhklaaGreatQb
import Derived.Test.YtohjjigkfdhklaaGreatFSb
import Derived.Deep.CutBlock
import Derived.Deep.DeepCutAuto
namespace Go.Proofs.YtohjjigkfdhklaaGreat
set_option maxRecDepth 100000
open Go.RowKit Go.Shelf
set_option linter.unusedSimpArgs false
set_option linter.unusedVariables false

theorem build_any {w : World} {lo : Option Addr} {m lc : Nat} {X : Nat → Ent} (E : LsE w lo m lc X) (hm : m ≤ 101) (p : Int) : Calls Tryz.prog 6 #[.slice lo m lc, .int .i64 p] w fun e w' => BTOc X m p w e w' := by
  rcases E.at' with h0 | ⟨b, off, e⟩
  · subst h0
    exact buildTable_zero lo lc X p w
  · subst e
    exact buildTable_room b off m lc X p w E.row (by omega) E.gx.sz E.cap
theorem build_anyS {w : World} {lo : Option Addr} {m lc : Nat} {X : Nat → Ent} (E : LsE w lo m lc X) (hm : m ≤ 101) (p : Int) : Calls Tryz.prog 7 #[.slice lo m lc, .int .i64 p] w fun e w' => BTO X m p w e w' := by
  rcases E.at' with h0 | ⟨b, off, e⟩
  · subst h0
    exact buildTable_zeroS lo lc X p w
  · subst e
    exact buildTable_spec b off m lc X p w E.row (by omega) E.gx.sz E.cap
theorem str_sameT (s : ByteArray) : (s.toList == s.toList) = true ∧ (s.toList != s.toList) = false := by simp
/-- Bytes put behind an empty list of the call's own. -/
theorem spoil_run (w : World) (bb bo n bc : Nat) (L : List Int) (hl : L.length = n) (hB : Byt L) (hr : Row w (some ⟨bb, bo, none⟩) n (fl L)) (h1 : 1 ≤ n) (hn : n ≤ 1048576) (ty : TypeId) :
    ∃ g gc w', (Builtin.append_ #[22, 22] ty #[.slice (some ⟨w.heap.size, 0, none⟩) 0 0, .slice (some ⟨bb, bo, none⟩) n bc]).run Tryz.prog (w.alloc (.cells #[] 5)) = .ok (.slice (some ⟨g, 0, none⟩) n gc) w' ∧ n ≤ gc ∧ w.heap.size ≤ g ∧ Own w' g 0 n (fl L) ∧ Below w.heap.size w w' := by
  obtain ⟨i0, hi, hz0, hz1, hz2⟩ := info_parts Tryz.info5
  have hb := below_new w (.cells #[] 5)
  have ho : (w.alloc (.cells #[] 5)).ownsRow w.heap.size 5 1 (.slice (some ⟨w.heap.size, 0, none⟩) 0 0) 0 [] := World.ownsRow_lit (base := w.heap.size) (e := 5) (size := 1) w #[] 0 (Nat.le_refl _) (by unfold maxLen; omega) rfl
  have hr' := hr.keep hb
  obtain ⟨v', w', hrun, hown, hg, _, _⟩ := run_append_own_at (P := Tryz.prog) (w.alloc (.cells #[] 5)) w.heap.size 22 ty 5 i0 _ 1 1 Tryz.underlying22 hi hz0 hz1 hz2 rfl (by decide) (.slice (some ⟨w.heap.size, 0, none⟩) 0 0) 0 [] ho ⟨bb, bo, none⟩ n bc (vb L) (by simp [vb, hl]) (fun j u hu => by
      have hj : j < n := by
        have := (List.getElem?_eq_some_iff.1 hu).1
        simpa [vb, hl] using this
      have e : u = .int .u8 (fl L j) := by
        have hjl : j < L.length := by omega
        have := hu
        simp [vb, hjl] at this
        rw [← this]
        simp [fl, hjl]
      subst e
      rw [Addr.add_lit]
      exact hr'.cell hj) (fun u hu => by
      simp only [vb, List.mem_map] at hu
      obtain ⟨i, _, rfl⟩ := hu
      rfl) (by unfold maxLen; omega) (by omega) (by simp)
  have hB2 : Below w.heap.size w w' := hb.grown hg (by simp) (fun k e => by
    have e2 : some w.heap.size = some k := e
    injection e2 with e2
    omega)
  rw [Nat.zero_add, List.nil_append] at hown
  rcases hown.2 with ⟨_, h0⟩ | ⟨g, cap, cur, rfl, hbg, hgc, hnc, _⟩
  · omega
  · refine ⟨g, cap, w', hrun, by omega, hbg, ⟨hB.fl, (Array.getElem?_eq_some_iff.1 hgc).1, fun i hi => ?_, fun i hi => ?_⟩, hB2⟩
    · rw [Nat.zero_add, hown.cellAt i (by omega)]
      have hil : i < L.length := by omega
      simp [vb, fl, hil]
    · rw [Nat.zero_add]
      simpa using hown.frozenAt i

set_option maxRecDepth 100000 in
set_option maxHeartbeats 16000000 in
theorem fnTables_good (co : Option Addr) (cn cc : Nat) (cf : Nat → Int) (mo : Option Addr) (mn mc : Nat) (mf : Nat → Int) (w : World) (hc : Row w co cn cf) (hmr : Row w mo mn mf) (hn : cn + mn ≤ 1048576) :
    Calls Tryz.prog 3 #[.slice co cn cc, .slice mo mn mc] w fun e w' => e = .returned (.bool true) ∧ Below w.heap.size w w' := by
  have hn1 : ¬ (1048576 : Int) < (cn : Int) + (mn : Int) := by omega
  have hwn : IntKind.i64.wrap ((cn : Int) + (mn : Int)) = (cn : Int) + (mn : Int) := by rw [IntKind.wrap_i64] <;> omega
  go_enter Tryz.func3, Tryz.ntmps3
  go_wp2_with fail
  refine (drawBuild_any co cn cc cf w hc (by omega)).mono ?_
  rintro e w1 ⟨m, lo, lc, X, V, p, rfl, hm, p0, p1, G1, b1⟩
  have E1 := G1.lse
  have hmr1 := hmr.keep b1
  clear G1 hc hmr
  by_cases ok : BTg X m p
  rotate_left
  · have h1 := (build_any E1 hm p).mono fun e w' h => h.2 ok
    go_wp2_with fail
    refine h1.mono ?_
    rintro e w2 ⟨ba, bc, rfl, V2, hc2, b2⟩
    have E2 := E1.keep b2
    have B2 := b1.trans (b2.mono b1.size)
    have h2 := (build_anyS E2 hm p).mono fun e w' h => h.2 ok
    clear h1 E1
    go_wp2_with fail
    refine h2.mono ?_
    rintro e w3 ⟨va, vc, rfl, V3, b3⟩
    have B3 := B2.trans (b3.mono B2.size)
    have cv2 := conv_row w3 ba bc [] (V2.row.keep b3)
    have cv3 := conv_row w3 va vc [] V3.row
    have hss := str_sameT (strOfNums [])
    obtain ⟨hss1, hss2⟩ := hss
    generalize strOfNums [] = sB at *
    simp only [List.length_nil] at *
    clear V2 V3 h2 E2
    go_wp2
    go_ret
    exact ⟨rfl, B3⟩
  have hTb := tb_is ok
  have hBy : Hid (BTg X m p) := ok
  have h20 := hTb.plc.1
  have h1 := (build_any E1 hm p).mono fun e w' h => h.1 ok
  have h2 := fun W (E : LsE W lo m lc X) => (build_anyS E hm p).mono fun e w' h => h.1 ok
  have hfo := fun k (hk : k < m) => found_ok ok hk
  have HFO : Hid (∀ k, k < m → _) := hfo
  clear hfo
  have HTb : Hid (IsTb (fl (tbP X m p)) (tbP X m p).length X m p) := hTb
  have hm1 := ok.1.1
  have hGL := ok.1.2
  clear ok hTb
  obtain ⟨L, hL⟩ : ∃ L, tbP X m p = L := ⟨_, rfl⟩
  rw [hL] at h20 h1 h2 HFO HTb
  obtain ⟨n, hnL⟩ : ∃ n, L.length = n := ⟨_, rfl⟩
  unfold FOc at h1
  unfold FO at h2
  rw [hnL] at h20 h1 h2 HFO HTb
  have HnL : Hid (L.length = n) := hnL
  clear hL hnL
  go_wp2_with fail
  refine h1.mono ?_
  rintro e w2 ⟨ba, bc, rfl, V2, hc2, b2⟩
  have hByt := V2.bd
  obtain ⟨bb, bo, rfl, hbb, R2⟩ : ∃ bb bo, ba = some ⟨bb, bo, none⟩ ∧ bb < w2.heap.size ∧ Row w2 (some ⟨bb, bo, none⟩) n (fl L) := by
    have hr := V2.row
    rw [HnL.out] at hr
    rcases V2.is with ⟨_, h0⟩ | ⟨g, o, e, _, hhi, ho⟩
    · have := HnL.out
      rw [h0] at this
      simp at this
      omega
    · rw [e] at hr
      exact ⟨g, o, e, ho.lt, hr⟩
  have E2 := E1.keep b2
  have B2 := b1.trans (b2.mono b1.size)
  have M2 := hmr1.keep b2
  clear V2 h1 E1 hmr1 b2
  go_wp2_with fail
  refine (h2 _ E2).mono ?_
  rintro e w3 ⟨va, vc, rfl, V3, b3⟩
  have B3 := B2.trans (b3.mono B2.size)
  have R3 := R2.keep b3
  have E3 := E2.keep b3
  have M3 := M2.keep b3
  have hbb3 : bb < w3.heap.size := Nat.lt_of_lt_of_le hbb b3.size
  have cv2 := conv_row w3 (some ⟨bb, bo, none⟩) bc L (by rw [HnL.out]; exact R3)
  have cv3 := conv_row w3 va vc L V3.row
  rw [HnL.out] at cv2 cv3
  obtain ⟨hss1, hss2⟩ := str_sameT (strOfNums L)
  have hRt := readTable_impl X m 0 bb bo n bc (fl L) w3 (.inl ⟨p, HTb.out, rfl⟩) R3 hbb3 (by omega) hc2
  generalize strOfNums L = sB at *
  clear V3 h2 E2 M2 R2 hbb b3
  go_wp2_with fail
  refine hRt.mono ?_
  rintro e w4 ⟨vx, XG, rfl, OX, GX4, b4⟩
  obtain ⟨xo, xc, rfl⟩ := OX.form
  have hx4 := GX4.rows E3.gx (OX.erow GX4.eb GX4.fx).2
  have B4 := B3.trans (b4.mono B3.size)
  have R4 := R3.keep b4
  have E4 := E3.keep b4
  have M4 := M3.keep b4
  have hbb4 : bb < w4.heap.size := Nat.lt_of_lt_of_le hbb3 b4.size
  have hse := sameEntries_any xo lo m xc lc X w4 hx4 E4.row (by omega) E4.gx.sz
  clear cv2 cv3 hss1 hss2 hRt OX GX4 hx4 R3 E3 M3 hbb3 b4
  go_wp2_with fail
  refine hse.mono ?_
  rintro e w5 ⟨rfl, b5⟩
  have B5 := B4.trans (b5.mono B4.size)
  have R5 := R4.keep b5
  have E5 := E4.keep b5
  have M5 := M4.keep b5
  have hbb5 : bb < w5.heap.size := Nat.lt_of_lt_of_le hbb4 b5.size
  have hKn : ((m : Int) + 3) / 4 = (nbl m : Int) := by unfold nbl; omega
  have hbl := blocksOf_impl (nbl m : Int) 0 bb bo n bc (fl L) w5 (.inl ⟨X, m, p, HTb.out, hKn.symm, rfl⟩) R5 hbb5 (by omega) hc2
  clear hse R4 E4 M4 hbb4 b5 hKn
  go_wp2_with fail
  refine hbl.mono ?_
  rintro e w6 ⟨rfl, b6⟩
  have B6 := B5.trans (b6.mono B5.size)
  have R6 := R5.keep b6
  have E6 := E5.keep b6
  have M6 := M5.keep b6
  have hbb6 : bb < w6.heap.size := Nat.lt_of_lt_of_le hbb5 b6.size
  clear hbl R5 E5 M5 hbb5 b6
  go_upto_block 0 with fail
  go_cut [] from 15 (fun wx => Below w6.heap.size w6 wx)
  case first =>
    have hNb : nbl m ≤ 26 := by unfold nbl; omega
    go_wp2
    go_loopw [84] (fun i wr => ∃ k : Nat, k ≤ m ∧ i = .int .i64 k ∧ Below w6.heap.size w6 wr) (fun i _ => m - (intOf i).toNat)
    case atStart => exact ⟨0, Nat.zero_le _, rfl, Below.refl _ _⟩
    case round =>
      obtain ⟨k, hk, rfl, hbk⟩ := hrel
      by_cases hlt : k < m
      · have ER := E6.row.keep hbk
        obtain ⟨b, off, rfl, hblt, hcc⟩ := ER.lies.resolve_left (by omega)
        obtain ⟨da, dc, hEk, hIk⟩ := hcc k hlt
        obtain ⟨_, a0, a1, a2, a3, a4, a5, a6, a7, a8⟩ := id hEk
        by_cases h12 : 12 < k
        · have h12i : (12 : Int) < (k : Int) := by omega
          clear hcc ER hEk hIk HFO E6 R6
          have hbA := hbk.alloc hbk.size (.cells #[.string (X k).key, .int .i64 (X k).seq, .int .i64 (X k).kind, .int .i64 (X k).c, .int .i64 (X k).s, .int .i64 (X k).lo, .int .i64 (X k).hi, .slice da (X k).n dc, .bool (X k).fu] 35)
          go_wp2
          go_meet
          case rel => exact hbA
        · have h12i : ¬ (12 : Int) < (k : Int) := by omega
          obtain ⟨hF, hK1, hK2⟩ := HFO.out k hlt
          have hb7 := below_new wr (.cells #[.string (X k).key, .int .i64 (X k).seq, .int .i64 (X k).kind, .int .i64 (X k).c, .int .i64 (X k).s, .int .i64 (X k).lo, .int .i64 (X k).hi, .slice da (X k).n dc, .bool (X k).fu] 35)
          have B7 := hbk.trans (hb7.mono hbk.size)
          have N7 := EAt.new wr (X k) da dc 35
          have R7 := R6.keep B7
          have E7 := E6.keep B7
          have hks := (E6.gx.sz k hlt).1
          have hbb7 : bb < (wr.alloc (.cells #[.string (X k).key, .int .i64 (X k).seq, .int .i64 (X k).kind, .int .i64 (X k).c, .int .i64 (X k).s, .int .i64 (X k).lo, .int .i64 (X k).hi, .slice da (X k).n dc, .bool (X k).fu] 35)).heap.size := Nat.lt_of_lt_of_le hbb6 B7.size
          have hfi := findInTable_impl _ _ _ _ bb bo n bc (fl L) (X k).key _ hF R7 hbb7 (by omega) hc2 hks
          clear hcc ER hEk hIk HFO hb7 hF
          have hgs := E7.gx.refl_found (X k).key
          have hfl := fX_len X (X k).key m
          have hsp := fun (W : World) (hW : LsE W (some ⟨b, off, none⟩) m lc X) => entriesOf_spec (some ⟨b, off, none⟩) m lc X (X k).key W hW.row (by omega) hW.gx.sz
          generalize fX X (X k).key m = FE at *
          generalize (fd X m (X k).key (nbl m)).1 = FK at *
          obtain ⟨_, n0, _⟩ := N7.z
          generalize (X k).key = s at *
          have HGL : Hid (GoodL X m) := hGL
          have HGS : Hid (GX FE.length (eL FE) (eL FE)) := hgs
          have hlb1 : ¬ (FK : Int) < 1 := by omega
          have hlb2 : ¬ (nbl m : Int) < (FK : Int) := by omega
          clear E6 R6 hGL hgs
          go_wp2_with fail
          generalize wr.alloc (.cells #[.string s, .int .i64 (X k).seq, .int .i64 (X k).kind, .int .i64 (X k).c, .int .i64 (X k).s, .int .i64 (X k).lo, .int .i64 (X k).hi, .slice da (X k).n dc, .bool (X k).fu] 35) = w7 at *
          refine hfi.mono ?_
          rintro e w8 ⟨v8, X8, rfl, O8, G8, b8⟩
          obtain ⟨yo, yc, rfl⟩ := O8.form
          have B8 := B7.trans (b8.mono B7.size)
          have E8 := E7.keep b8
          have k8 : w8.cell? ⟨wr.heap.size, 0, none⟩ = some (.string s) := (b8.cell (p := ⟨wr.heap.size, 0, none⟩) N7.lt).trans n0
          clear hfi n0 N7 b8 R7 E7 B7
          go_wp2_with fail
          refine (hsp w8 E8).mono ?_
          rintro e w9 (⟨hbad, _⟩ | ⟨_, v9, V9, rfl, O9, b9⟩)
          · exact absurd HGL.out hbad
          have B9 := B8.trans (b9.mono B8.size)
          have C9 := cx_of_outH (outH_of O9)
          obtain ⟨zo, zc, rfl⟩ := C9.form
          have hz9 := (C9.erow HGS.out.eb HGS.out.fx).2
          have hy9 := G8.rows HGS.out ((O8.keep b9).erow G8.eb G8.fx).2
          have hsa := sameEntries_any yo zo FE.length yc zc (eL FE) w9 hy9 hz9 (by omega) HGS.out.sz
          clear hsp O8 G8 O9 C9 hz9 hy9 b9 E8 B8 k8 HGS
          generalize FE.length = fl9 at *
          go_wp2_with fail
          refine hsa.mono ?_
          rintro e w10 ⟨rfl, b10⟩
          have B10 := B9.trans (b10.mono B9.size)
          clear hsa b10 B9
          go_wp2
          go_roundw
          case rel => exact ⟨k + 1, by omega, by go_num, B10⟩
          case measure => simp [intOf]; omega
      · obtain rfl : k = m := by omega
        clear HFO E6 R6
        go_wp2
        go_meet
        case rel => exact hbk
  case rest =>
    have bB := hcut
    have B7 := B6.trans (hcut.mono B6.size)
    have R7 := R6.keep hcut
    have M7 := M6.keep hcut
    have hbb7 : bb < wc.heap.size := Nat.lt_of_lt_of_le hbb6 hcut.size
    clear hcut bB R6 M6 E6 hbb6 HFO
    have hno := numberOf_any mo mn mc mf wc M7 (by omega)
    clear M7
    go_wp2_with fail
    refine hno.mono ?_
    rintro e wq ⟨x, rfl, x0, x1, hw⟩
    have hw2 := hw.symm
    clear hw hno
    subst hw2
    have hm8 : IntKind.i64.wrap (8 * (n : Int)) = 8 * (n : Int) := by rw [IntKind.wrap_i64] <;> omega
    have h8n : (8 * (n : Int) == 0) = false := by simp; omega
    have h8p : 0 < 8 * (n : Int) := by omega
    have htm : x.tmod (8 * (n : Int)) = x % (8 * (n : Int)) := Int.tmod_eq_emod_of_nonneg x0
    have hk0 := Int.emod_nonneg x (show (8 * (n : Int)) ≠ 0 by omega)
    have hk1 := Int.emod_lt_of_pos x h8p
    obtain ⟨kk, hkk⟩ : ∃ kk, x % (8 * (n : Int)) = kk := ⟨_, rfl⟩
    rw [hkk] at htm hk0 hk1
    have hwk : IntKind.i64.wrap kk = kk := by rw [IntKind.wrap_i64] <;> omega
    clear hkk
    obtain ⟨g, gc, w9, hrun, hgc, hgw, O9, b9⟩ := spoil_run wc bb bo n bc L HnL.out hByt R7 (by omega) (by omega) 22
    have B9 := B7.trans (b9.mono B7.size)
    go_upto_region 25 with (at_builtin; refine wpList_append_eq _ rfl (.tmp 130) (.tmp 131) 22 22 rfl rfl (.slice (some ⟨wc.heap.size, 0, none⟩) 0 0) (.slice (some ⟨bb, bo, none⟩) n bc) (.slice (some ⟨g, 0, none⟩) n gc) rfl rfl w9 hrun ?_)
    obtain ⟨q, hq⟩ : ∃ q : Nat, kk / 8 = (q : Int) := ⟨(kk / 8).toNat, by omega⟩
    have hqn : q < n := by omega
    have cq := O9.cell q hqn
    have fq := O9.free q hqn
    simp only [Nat.zero_add] at cq fq
    have hz := O9.bd q
    have htq : kk.tdiv 8 = (q : Int) := by rw [Int.tdiv_eq_ediv_of_nonneg hk0, hq]
    have hwq : IntKind.i64.wrap (q : Int) = (q : Int) := by rw [IntKind.wrap_i64] <;> omega
    have htj : kk.tmod 8 = kk % 8 := Int.tmod_eq_emod_of_nonneg hk0
    have hqi : (q : Int) < (n : Int) := by omega
    have h8 := cases8 (j := kk % 8) (by omega)
    obtain ⟨z, hzq⟩ : ∃ z, fl L q = z := ⟨_, rfl⟩
    have HZ : Hid (fl L q = z) := hzq
    rw [hzq] at cq hz
    generalize kk % 8 = j at *
    clear hzq hq hrun hm8 h8n h8p htm
    go_cut [] from 133 (fun wx => wx = w9.setCell ⟨g, q, none⟩ (.int .u8 (bits .xor .u8 z (bt j))))
    case first =>
      clear O9 B9 b9 HZ
      rcases h8 with rfl | rfl | rfl | rfl | rfl | rfl | rfl | rfl
      all_goals
        go_wp2
        go_meet
        case rel => rfl
    case rest =>
      obtain ⟨f', hf'⟩ : ∃ f' : Nat → Int, f' = fun i => if i = q then bits .xor .u8 z (bt j) else fl L i := ⟨_, rfl⟩
      have hbd : ∀ i, 0 ≤ f' i ∧ f' i ≤ 255 := fun i => by
        rw [hf']
        show 0 ≤ (if i = q then bits .xor .u8 z (bt j) else fl L i) ∧ (if i = q then bits .xor .u8 z (bt j) else fl L i) ≤ 255
        split
        · exact u8_xor_bd _ _
        · exact O9.bd i
      have hot := Others.setCell w9 g q (.int .u8 (bits .xor .u8 z (bt j)))
      have RS : Row (w9.setCell ⟨g, q, none⟩ (.int .u8 (bits .xor .u8 z (bt j)))) (some ⟨g, 0, none⟩) n f' := by
        refine ⟨hbd, .inr ⟨g, 0, rfl, by rw [hot.size]; exact O9.lt, fun i hi => ?_⟩⟩
        rw [Nat.zero_add, hf']
        by_cases e : i = q
        · subst e
          simp only [if_true]
          exact World.cell?_setCell_same' _ _ _ (by rw [cq]; rfl)
        · simp only [e, if_false]
          have := O9.cell i hi
          rw [Nat.zero_add] at this
          exact (World.cell?_setCell_other _ _ _ _ (by intro h; injection h with _ h _; exact e h.symm)).trans this
      have hnoT := spoilt_no (g := f') HTb.out O9.bd hbd hqn (by rw [HZ.out, hf']; simp only [if_true]; exact fun h => u8_flip hz j h.symm) (fun i hi => by rw [hf']; simp only [hi, if_false])
      have B10 := B9.trans (hot.below (show w.heap.size ≤ g by have := B7.size; omega))
      have hgl : g < (w9.setCell ⟨g, q, none⟩ (.int .u8 (bits .xor .u8 z (bt j)))).heap.size := by rw [hot.size]; exact O9.lt
      have hne := noC_ne f' n
      have hcu := hcut
      clear hcut
      generalize w9.setCell ⟨g, q, none⟩ (.int .u8 (bits .xor .u8 z (bt j))) = wS at *
      subst hcu
      have hRS := readTable_impl X 0 (noC f' n) g 0 n gc f' _ (.inr ⟨hnoT, rfl, rfl⟩) RS hgl (by omega) hgc
      have hc0 : (noC f' n != 0) = true := by simp [hne]
      clear hnoT RS hot hbd hf' O9 cq fq HZ HTb hne
      generalize noC f' n = cS at *
      go_wp2_with fail
      refine hRS.mono ?_
      rintro e w11 ⟨v11, X11, rfl, _, _, b11⟩
      have B11 := B10.trans (b11.mono B10.size)
      go_wp2
      go_ret
      exact ⟨rfl, B11⟩
theorem fnTables_law (co : Option Addr) (cn cc : Nat) (cf : Nat → Int) (mo : Option Addr) (mn mc : Nat) (mf : Nat → Int) (w : World) (hc : Row w co cn cf) (hm : Row w mo mn mf) (hcn : cn ≤ 140737488351232) (hmn : mn ≤ 140737488351232) :
    Calls Tryz.prog 3 #[.slice co cn cc, .slice mo mn mc] w fun e w' => e = .returned (.bool true) ∧ Below w.heap.size w w' := by
  by_cases hn : cn + mn ≤ 1048576
  · exact fnTables_good co cn cc cf mo mn mc mf w hc hm hn
  · have hn1 : (1048576 : Int) < (cn : Int) + (mn : Int) := by omega
    have hw : IntKind.i64.wrap ((cn : Int) + (mn : Int)) = (cn : Int) + (mn : Int) := by rw [IntKind.wrap_i64]; omega
    go_enter Tryz.func3, Tryz.ntmps3
    go_wp2
    go_ret
    exact ⟨rfl, Below.refl _ _⟩
end Go.Proofs.YtohjjigkfdhklaaGreat
