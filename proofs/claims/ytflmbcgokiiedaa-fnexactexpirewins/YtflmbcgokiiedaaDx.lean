/- tell, where the windows are told by a set of blocks (out of Tb). / A key dropped from the set. -/
import Derived.Test.YtflmbcgokiiedaaKr
import Derived.Test.YtflmbcgokiiedaaEp
import Derived.Test.YtflmbcgokiiedaaCm
namespace Go.Proofs.Ytflmbcgokiiedaa
open Go.RowKit
set_option linter.unusedSimpArgs false
set_option linter.unusedVariables false

theorem Frm.setNew {Q : Nat → Prop} {w u : World} {b : Nat} (h : Frm Q w u) (hb : w.heap.size ≤ b) (o : Nat) (x : Value) : Frm Q w (u.setCell ⟨b, o, none⟩ x) :=
  have k := Others.setCell u b o x
  ⟨k.os.trans h.os, k.tape.trans h.tape, k.output.trans h.output, by rw [k.size]; exact h.size, fun c hc hq => (k.block c (by omega)).trans (h.block c hc hq)⟩
/-- Windows at work: in block p, the set of the dirty ones in block r, the windows' memory the blocks of Q. -/
structure WSp (w : World) (Q : Nat → Prop) (p r : Nat) (z h mk : Int) (v : Value) (n : Nat) (Y : Nat → Wn) (S : ByteArray → Prop) : Prop where
  box : BdAt w p z h mk v
  c4 : w.cell? ⟨p, 4, none⟩ = some (.map (some r))
  fz : ∀ j, w.frozen? ⟨p, j, none⟩ = false
  set : KSet w r S
  out : BP w Q v n Y
  pr : p ≠ r
  qp : ∀ c, Q c → c ≠ p ∧ c ≠ r
theorem WSp.keep {w w' : World} {Q : Nat → Prop} {p r n : Nat} {z h mk : Int} {v : Value} {Y : Nat → Wn} {S : ByteArray → Prop} (H : WSp w Q p r z h mk v n Y S) (hb : Below w.heap.size w w') : WSp w' Q p r z h mk v n Y S :=
  ⟨H.box.keep hb, (hb.cell (p := ⟨p, 4, none⟩) H.box.lt).trans H.c4, fun j => (hb.frozen (p := ⟨p, j, none⟩) H.box.lt).trans (H.fz j), H.set.keep hb, H.out.keep hb, H.pr, H.qp⟩
/-- What tell leaves. -/
def TlP (Q : Nat → Prop) (zz h mk : Int) (n : Nat) (Y : Nat → Wn) (S : ByteArray → Prop) (w : World) (e : Ending) (w' : World) : Prop :=
  ∃ v b, e = .returned (.agg #[.int .i64 zz, .int .i64 h, .int .i64 mk, v]) ∧ (∀ i, i < n → (b i = true ↔ S (kS (Y i)))) ∧ BP w' Q v n (tldB Y b n) ∧ Frm Q w w'

set_option maxRecDepth 100000 in
set_option maxHeartbeats 8000000 in
theorem tellP_any (Q : Nat → Prop) (p r : Nat) (z h mk : Int) (v : Value) (n : Nat) (Y : Nat → Wn) (S : ByteArray → Prop) (w : World) (H : WSp w Q p r z h mk v n Y S) (hg : Hid (∀ i, i < n → gK (Y i) = true)) (hn : n ≤ 1048576) :
    Calls Try.prog 38 #[.pointer (some ⟨p, 0, none⟩)] w fun e w' => TlP Q z h mk n Y S w e w' := by
  obtain ⟨va, vc, rfl⟩ := H.out.form
  have hQs := H.out.1
  have hB := below_new w (.cells #[.int .i64 0, .int .i64 0, .int .i64 0, .slice none 0 0] 28)
  have HB := H.keep hB
  have R0 := BdAt.new w 0 0 0 (.slice none 0 0) 28
  have RF : ∀ j, (w.alloc (.cells #[.int .i64 0, .int .i64 0, .int .i64 0, .slice none 0 0] 28)).frozen? ⟨w.heap.size, j, none⟩ = false := fun j => by simp [go_sem]
  obtain ⟨lp, e0, e1, e2, e3⟩ := HB.box
  have e4 := HB.c4
  have qp := H.qp
  by_cases h0 : n = 0
  · subst h0
    go_enter Try.func38, Try.ntmps38
    go_wp2
    go_loopw [10] (fun i wr => i = .int .i64 0 ∧ wr = w.alloc (.cells #[.int .i64 0, .int .i64 0, .int .i64 0, .slice none 0 0] 28)) (fun _ _ => 0)
    case atStart => exact ⟨rfl, rfl⟩
    case round =>
      obtain ⟨rfl, rfl⟩ := hrel
      obtain ⟨lr, d0, d1, d2, d3⟩ := R0
      go_wp2
      refine bodyPost_ret (v := .agg #[.int .i64 z, .int .i64 h, .int .i64 mk, .slice va 0 vc]) (by simp [results, Try.results38, go_sem, e0, e1, e2, e3, d0, d1, d2, d3]) rfl ⟨_, fun _ => false, rfl, fun i hi => by omega, ⟨fun c hc => by have := hQs c hc; simp; omega, .inl ⟨rfl, _, _, rfl⟩⟩, ?_⟩
      refine Frm.of_below ?_
      repeat' refine Below.setCell ?_ (by first | (simp; done) | (simp; omega)) _
      exact below_new w _
  obtain ⟨g, cap, A0, A1, K0, K1, G, ev, g1, hC, hl0, hl1⟩ := H.out.2.resolve_left (fun hh => h0 hh.1)
  injection ev with ev1 ev2 ev3
  subst ev1 ev3
  have g2 : g < w.heap.size := hQs g g1
  have hgp : g ≠ p := (qp g g1).1
  have hgr : g ≠ r := (qp g g1).2
  have hC0 := hC.keep hB
  have hS0 := HB.set
  obtain ⟨b, hb⟩ : ∃ b : Nat → Bool, ∀ i, b i = true ↔ S (kS (Y i)) := ⟨fun i => @decide (S (kS (Y i))) (Classical.propDecidable _), fun i => by simp⟩
  have Hb : Hid (∀ i, b i = true ↔ S (kS (Y i))) := hb
  clear hb
  go_enter Try.func38, Try.ntmps38
  go_wp2
  generalize w.alloc (.cells #[.int .i64 0, .int .i64 0, .int .i64 0, .slice none 0 0] 28) = W0 at *
  go_loopw [10] (fun i wr => ∃ k : Nat, k ≤ n ∧ i = .int .i64 k ∧ WiC wr g n (tldB Y b k) A0 A1 K0 K1 G ∧ Rng g (g + 1) W0 wr) (fun i _ => n - (intOf i).toNat)
  case atStart => exact ⟨0, Nat.zero_le _, rfl, by rw [tldB_zero]; exact hC0, Rng.refl _ _ _⟩
  case round =>
    obtain ⟨k, hk, rfl, hCk, hR⟩ := hrel
    have sw := hB.size
    have blk : ∀ c, c < W0.heap.size → c ≠ g → wr.heap[c]? = W0.heap[c]? := fun c hc hne => hR.block c hc (by omega)
    have cl : ∀ c j, c < W0.heap.size → c ≠ g → wr.cell? ⟨c, j, none⟩ = W0.cell? ⟨c, j, none⟩ := fun c j hc hne => World.cell?_of_block (w := W0) (a := ⟨c, j, none⟩) (blk c hc hne)
    have f0 := (cl p 0 lp (Ne.symm hgp)).trans e0
    have f1 := (cl p 1 lp (Ne.symm hgp)).trans e1
    have f2 := (cl p 2 lp (Ne.symm hgp)).trans e2
    have f3 := (cl p 3 lp (Ne.symm hgp)).trans e3
    have f4 := (cl p 4 lp (Ne.symm hgp)).trans e4
    have hSk := hS0.same (blk r hS0.lt (Ne.symm hgr))
    by_cases hlt : k < n
    rotate_left
    · have e : k = n := by omega
      subst e
      obtain ⟨lr, d0, d1, d2, d3⟩ := R0
      have hrg : w.heap.size ≠ g := by omega
      have d0 := (cl w.heap.size 0 lr hrg).trans d0
      have d1 := (cl w.heap.size 1 lr hrg).trans d1
      have d2 := (cl w.heap.size 2 lr hrg).trans d2
      have d3 := (cl w.heap.size 3 lr hrg).trans d3
      have df : ∀ j, wr.frozen? ⟨w.heap.size, j, none⟩ = false := fun j => (World.frozen?_of_block (w := W0) (a := ⟨w.heap.size, j, none⟩) (blk _ lr hrg)).trans (RF j)
      have sR := hR.size
      have fr : Frm Q w wr := ⟨hR.os.trans hB.os, hR.tape.trans hB.tape, hR.output.trans hB.output, Nat.le_trans sw sR, fun c hc hh => (blk c (Nat.lt_of_lt_of_le hc sw) (fun e => hh (by rw [e]; exact g1))).trans (hB.block c hc)⟩
      clear hC hC0 HB blk cl hS0 hSk hR
      go_wp2
      refine bodyPost_ret (v := .agg #[.int .i64 z, .int .i64 h, .int .i64 mk, .slice (some ⟨g, 0, none⟩) k vc]) (by simp [results, Try.results38, go_sem, f0, f1, f2, f3, d0, d1, d2, d3]) rfl ⟨_, b, rfl, fun i _ => Hb.out i, ⟨fun c hc => by have := hQs c hc; simp; omega, .inr ⟨g, vc, A0, A1, K0, K1, G, rfl, g1, ?_, fun i hi hp => ?_, fun i hi hp => ?_⟩⟩, ?_⟩
      · refine hCk.same (by simp) ?_ (fun i hi hp => ?_) (fun i hi hp => ?_)
        · repeat rw [set_blk _ _ _ _ _ (by omega)]
        · rw [(tldB_key Y b k i).2.1] at hp
          have := hQs _ (hl0 i hi hp)
          repeat rw [set_blk _ _ _ _ _ (by omega)]
        · rw [(tldB_key Y b k i).2.2.2.2.2] at hp
          have := hQs _ (hl1 i hi hp)
          repeat rw [set_blk _ _ _ _ _ (by omega)]
      · rw [(tldB_key Y b k i).2.1] at hp; exact hl0 i hi hp
      · rw [(tldB_key Y b k i).2.2.2.2.2] at hp; exact hl1 i hi hp
      · repeat' refine Frm.setNew ?_ (Nat.le_refl _) _ _
        exact fr
    have hCu : WiC wr g n (upWi (tldB Y b k) k (Y k)) A0 A1 K0 K1 G := by rw [tldB_same]; exact hCk
    have ent := hCk.ent k hlt
    have ll := hCk.l0 k hlt
    rw [tldB_at] at ent ll
    have r0 : TRow wr (A0 k) (Y k).tn (Y k).nm (Y k).vl := by
      by_cases ht : (Y k).tn = 0
      · exact ⟨.inl ht⟩
      · obtain ⟨t1, _, t3⟩ := ll (by omega)
        rw [t1]; exact t3.row
    have r0d := r0.keep (Below.refl _ wr).drew
    have Sd := hSk.keep (Below.refl _ wr).drew
    have gk := hg.out k hlt
    obtain ⟨lg, y0, y1, y2, y3, y4, y5, y6, y7, y8, y9, y10⟩ := id ent
    have HU := tldB_up Y b k
    have hq0 : (0 : Int) ≤ (k : Int) := by omega
    have hq1 : (k : Int) < (n : Int) := by omega
    have lpr : p < wr.heap.size := Nat.lt_of_lt_of_le lp hR.size
    clear hC hC0 HB blk cl hS0 ll r0
    go_wp2
    go_region_held3 (fun w' => w'.cell? ⟨p, 3, none⟩ = some (.slice (some ⟨g, 0, none⟩) n vc) ∧ w'.cell? ⟨p, 4, none⟩ = some (.map (some r)) ∧ w'.cell? ⟨g, k * 11, none⟩ = some (.string (Y k).m) ∧ w'.cell? ⟨g, k * 11 + 1, none⟩ = some (.slice (A0 k) (Y k).tn (K0 k)) ∧ w'.cell? ⟨g, k * 11 + 2, none⟩ = some (.int .i64 (Y k).st)) (first | exact hSS | go_keep) (first | (go_at_call 39; refine (has_any (Y k) r S (A0 k) (K0 k) _ r0d gk Sd).mono ?_; rintro e u ⟨bb, rfl, hbb, q⟩; have ebb : bb = b k := (by have h1 := Hb.out k; cases hx : bb <;> cases hy : b k <;> simp_all); subst ebb; have q' := (Below.refl _ wr).drew.trans q; have hCv := hCu.keep q'; have fv := hCv.free (k * 11 + 10) (by omega); obtain ⟨_, v0, v1, v2, v3, v4, v5, v6, v7, v8, v9, v10⟩ := ent.keep q'; have x3 := (q'.cell (p := ⟨p, 3, none⟩) lpr).trans f3; have x4 := (q'.cell (p := ⟨p, 4, none⟩) lpr).trans f4; have hCw := hCv.set10 hlt (b k); have Rw := (hR.trans (Rng.of_below q')).trans (Rng.of_set (b := g) ⟨Nat.le_refl _, Nat.lt_succ_self _⟩ (k * 11 + 10) (.bool (b k))); have hSS := tlS (b k) hgp x3 x4 v0 v1 v2; clear q q'))
    rw [HU] at hCw
    go_wp2
    go_roundw
    case rel => exact ⟨k + 1, by omega, by go_num, hCw, Rw⟩
    case measure => simp [intOf]; omega
end Go.Proofs.Ytflmbcgokiiedaa
namespace Go.Proofs.Ytflmbcgokiiedaa
open Go.RowKit
open Go.ChangeMaps (setBlock)
set_option linter.unusedSimpArgs false
set_option linter.unusedVariables false

theorem wpList_delete_run {P : Program} (w : World) {ops : Array Oper} {rest : List Oper} {o : Oper} {a : Act} {Q : Exit → Act → World → Prop}
    (hg : o.guard = none) (s x : Operand) (t t2 : TypeId) (hop : o.op = .call { callee := .builtin .delete, args := #[s, x], argTypes := #[t, t2] }) (u v r : Value) (hs : a.eval s = u) (hx : a.eval x = v) (w' : World)
    (hrun : ∀ ty, (Builtin.delete_ #[t, t2] ty #[u, v]).run P w = .ok r w') (hK : wpList P ops Q rest (a.put o.dst r) w') : wpList P ops Q (o :: rest) a w := by
  refine wpList_plain hg fun K' hK' => ?_
  unfold Oper.wp execOp
  simp only [hop, resolve, invoke, builtin, Sem.run_bind, Sem.run_pure, Result.andThen_ok, List.map_toArray, List.map_cons, List.map_nil, hs, hx, hrun]
  exact hK' _ _ hK
/-- A text taken out of the set, as an equation: of the others nothing is changed. -/
theorem KSet.del_run {w : World} {r : Nat} {S : ByteArray → Prop} (h : KSet w r S) (s : ByteArray) :
    ∃ w' S', (∀ ty, (Builtin.delete_ #[77, 9] ty #[.map (some r), .string s]).run Try.prog w = .ok (.tuple #[]) w') ∧ KSet w' r S' ∧ (∀ t, t ≠ s → (S' t ↔ S t)) ∧ Others r w w' := by
  obtain ⟨es, c, h1, h2, h3, h4⟩ := h
  have hk : MapKept.IsKey .string (.string s) := by simp [MapKept.IsKey]
  have hlt := (Array.getElem?_eq_some_iff.1 h1).1
  have hm := Try.underlying77
  have hd := Try.underlying9
  rcases MapKept.findNow_spec hk es.toList 0 h2 with ⟨f1, _⟩ | ⟨j, e, f1, f2, f3⟩
  · refine ⟨setBlock w r (.map es c), S, fun ty => ?_, ⟨es, c, by simp [setBlock, hlt], h2, h3, h4⟩, fun _ _ => Iff.rfl, setBlock_others _ _ _⟩
    simp [Builtin.delete_, run_underlying hm, MapKept.run_getObj_map h1, MapKept.run_checkKey hd hk, MapKept.run_findKey hd f1, MapKept.run_setObj_map _ h1, Result.andThen, setBlock]
  · have hsub : ∀ y, y ∈ (es.eraseIdxIfInBounds j).toList → y ∈ es.toList := fun y hy => by
      rw [Array.toList_eraseIdxIfInBounds] at hy
      exact (List.eraseIdx_sublist es.toList j).subset hy
    refine ⟨setBlock w r (.map (es.eraseIdxIfInBounds j) c), fun t => ∃ y ∈ (es.eraseIdxIfInBounds j).toList, y.key = .string t, fun ty => ?_, ⟨es.eraseIdxIfInBounds j, c, by simp [setBlock, hlt], fun y hy => h2 y (hsub y hy), fun y hy => h3 y (hsub y hy), fun t => Iff.rfl⟩, fun t ht => ?_, setBlock_others _ _ _⟩
    · simp [Builtin.delete_, run_underlying hm, MapKept.run_getObj_map h1, MapKept.run_checkKey hd hk, MapKept.run_findKey hd f1, MapKept.run_setObj_map _ h1, Result.andThen, setBlock]
    · constructor
      · rintro ⟨y, hy, e⟩
        exact (h4 t).1 ⟨y, hsub y hy, e⟩
      · intro hS
        obtain ⟨y, hy, ey⟩ := (h4 t).2 hS
        refine ⟨y, ?_, ey⟩
        rw [Array.toList_eraseIdxIfInBounds]
        obtain ⟨i, hi, rfl⟩ := List.getElem_of_mem hy
        have hne : i ≠ j := fun e2 => by
          subst e2
          rw [List.getElem?_eq_getElem hi] at f2
          injection f2 with f2
          rw [f2, f3] at ey
          injection ey with ey
          exact ht ey.symm
        exact List.mem_eraseIdx_iff_getElem.2 ⟨i, hi, hne, rfl⟩

set_option maxHeartbeats 1600000 in
theorem drop_any (x : Wn) (r : Nat) (S : ByteArray → Prop) (ao : Option Addr) (cap : Nat) (w : World) (hr : TRow w ao x.tn x.nm x.vl) (hG : Hid (gK x = true)) (hS : KSet w r S) :
    Calls Try.prog 50 #[.map (some r), .agg #[.string x.m, .slice ao x.tn cap, .int .i64 x.st]] w fun e w' => e = .returned (.tuple #[]) ∧ (∃ S', KSet w' r S' ∧ ∀ t, t ≠ kS x → (S' t ↔ S t)) ∧ Thru r w w' := by
  have hf := fun W h => setForm_any x ao cap W h hG
  obtain ⟨Z, HZ⟩ : ∃ Z, Hid (kS x = Z) := ⟨_, rfl⟩
  rw [HZ.out] at hf ⊢
  have hB := below_new w (.cells #[.string x.m, .slice ao x.tn cap, .int .i64 x.st] 49)
  go_enter Try.func50, Try.ntmps50
  go_wp2_with fail
  refine (hf _ (hr.keep hB)).mono ?_
  rintro e w1 ⟨rfl, hb⟩
  have bw : Below w.heap.size w w1 := hB.trans (hb.mono (by simp))
  obtain ⟨w2, S', hrun, hS', hiff, hoth⟩ := (hS.keep bw).del_run Z
  have H : Hid (∀ t, t ≠ Z → (S' t ↔ S t)) := hiff
  have T : Thru r w w2 := (Thru.of_below bw).trans (Thru.of_others hoth)
  clear hb hiff hf hoth
  go_wp2_with (at_builtin; refine wpList_delete_run _ rfl (.tmp 4) (.tmp 6) 77 9 rfl (.map (some r)) (.string Z) (.tuple #[]) rfl rfl w2 hrun ?_)
  go_end0
  exact ⟨rfl, ⟨S', hS', H.out⟩, T⟩
end Go.Proofs.Ytflmbcgokiiedaa
