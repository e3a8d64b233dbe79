/- tell, where the windows are told by what an answer is told by (their own memory between base and top). -/
import Derived.Test.YtpggmgmdcccmeaaTe
namespace Go.Proofs.Ytpggmgmdcccmeaa
open Go.RowKit
set_option linter.unusedSimpArgs false
set_option linter.unusedVariables false

/-- Windows at work: in block p, the set of the dirty ones in block r, the windows themselves from base on and below top. -/
structure WSb (w : World) (base top p r : Nat) (z h mk : Int) (v : Value) (n : Nat) (Y : Nat → Wn) (S : ByteArray → Prop) : Prop where
  box : BdAt w p z h mk v
  c4 : w.cell? ⟨p, 4, none⟩ = some (.map (some r))
  fz : ∀ j, w.frozen? ⟨p, j, none⟩ = false
  set : KSet w r S
  out : BA w base top v n Y
  pr : p ≠ r
  pb : p < base
  rb : r < base
section
variable {w w' : World} {base top p r n : Nat} {z h mk : Int} {v : Value} {Y : Nat → Wn} {V : Nat → Value} {S S' : ByteArray → Prop}
theorem WSt.b (H : WSt w base p r z h mk v n Y V S) (hf : FBw n Y) : WSb w base w.heap.size p r z h mk v n Y S := ⟨H.box, H.c4, H.fz, H.set, ba_of H.out hf, H.pr, H.pb, H.rb⟩
theorem WSb.keep (H : WSb w base top p r z h mk v n Y S) (hb : Below w.heap.size w w') : WSb w' base top p r z h mk v n Y S :=
  ⟨H.box.keep hb, (hb.cell (p := ⟨p, 4, none⟩) H.box.lt).trans H.c4, fun j => (hb.frozen (p := ⟨p, j, none⟩) H.box.lt).trans (H.fz j), H.set.keep hb, H.out.keep hb, H.pr, H.pb, H.rb⟩
/-- Others than its own blocks are written: those below base and those from base on below top are kept. -/
theorem WSb.same (H : WSb w base top p r z h mk v n Y S) (hs : w.heap.size ≤ w'.heap.size) (hb : ∀ c, c < top → w'.heap[c]? = w.heap[c]?) (ht : base ≤ top) : WSb w' base top p r z h mk v n Y S := by
  have pb := H.pb
  have rb := H.rb
  have kb := hb p (by omega)
  have kc : ∀ j, w'.cell? ⟨p, j, none⟩ = w.cell? ⟨p, j, none⟩ := fun j => World.cell?_of_block (w := w) (a := ⟨p, j, none⟩) kb
  exact ⟨⟨Nat.lt_of_lt_of_le H.box.lt hs, (kc _).trans H.box.c0, (kc _).trans H.box.c1, (kc _).trans H.box.c2, (kc _).trans H.box.c3⟩, (kc _).trans H.c4, fun j => (World.frozen?_of_block (w := w) (a := ⟨p, j, none⟩) kb).trans (H.fz j), H.set.same (hb r (by omega)), H.out.same hs (fun c _ hc => hb c hc), H.pr, H.pb, H.rb⟩
/-- The set is written alone. -/
theorem WSb.reset (H : WSb w base top p r z h mk v n Y S) (ho : Others r w w') (hs : KSet w' r S') : WSb w' base top p r z h mk v n Y S' := by
  have rb := H.rb
  have kb := ho.block p H.pr
  have kc : ∀ j, w'.cell? ⟨p, j, none⟩ = w.cell? ⟨p, j, none⟩ := fun j => World.cell?_of_block (w := w) (a := ⟨p, j, none⟩) kb
  exact ⟨⟨by rw [ho.size]; exact H.box.lt, (kc _).trans H.box.c0, (kc _).trans H.box.c1, (kc _).trans H.box.c2, (kc _).trans H.box.c3⟩, (kc _).trans H.c4, fun j => (World.frozen?_of_block (w := w) (a := ⟨p, j, none⟩) kb).trans (H.fz j), hs, H.out.same (by rw [ho.size]; exact Nat.le_refl _) (fun c h1 _ => ho.block c (by omega)), H.pr, H.pb, H.rb⟩
end

/-- The set made empty, as an equation. -/
theorem KSet.clear_run {w : World} {r : Nat} {S : ByteArray → Prop} (h : KSet w r S) :
    ∃ w', (∀ ty, (Builtin.clear_ #[56] ty #[.map (some r)]).run Try.prog w = .ok (.tuple #[]) w') ∧ KSet w' r (fun _ => False) ∧ Others r w w' := by
  obtain ⟨es, c, h1, h2, h3, h4⟩ := h
  have hlt := (Array.getElem?_eq_some_iff.1 h1).1
  have hrun : ∃ c', ∀ ty, (Builtin.clear_ #[56] ty #[.map (some r)]).run Try.prog w = .ok (.tuple #[]) (Go.ChangeMaps.setBlock w r (.map #[] c')) := ⟨_, fun ty => by simp [Builtin.clear_, run_underlying Try.underlying56, MapKept.run_getObj_map h1, MapKept.run_setObj_map _ h1, Result.andThen, Go.ChangeMaps.setBlock]; rfl⟩
  obtain ⟨c', hrun⟩ := hrun
  exact ⟨_, hrun, ⟨#[], c', by simp [Go.ChangeMaps.setBlock, hlt], fun y hy => by simp at hy, fun y hy => by simp at hy, fun s => ⟨fun ⟨y, hy, _⟩ => by simp at hy, fun hh => hh.elim⟩⟩, setBlock_others _ _ _⟩

/-- What tell leaves. -/
def TlW (base top : Nat) (zz h mk : Int) (n : Nat) (Y : Nat → Wn) (S : ByteArray → Prop) (w : World) (e : Ending) (w' : World) : Prop :=
  ∃ v b, e = .returned (.agg #[.int .i64 zz, .int .i64 h, .int .i64 mk, v]) ∧ (∀ i, i < n → (b i = true ↔ S (kS (Y i)))) ∧ BA w' base top v n (tldB Y b n) ∧ (∀ c, c < w.heap.size → (c < base ∨ top ≤ c) → w'.heap[c]? = w.heap[c]?) ∧ Below base w w'

set_option maxRecDepth 100000 in
set_option maxHeartbeats 8000000 in
theorem tellB_any (base top p r : Nat) (z h mk : Int) (v : Value) (n : Nat) (Y : Nat → Wn) (S : ByteArray → Prop) (w : World) (H : WSb w base top p r z h mk v n Y S) (hg : Hid (∀ i, i < n → gK (Y i) = true)) (hn : n ≤ 1048576) (hbs : base ≤ w.heap.size) :
    Calls Try.prog 17 #[.pointer (some ⟨p, 0, none⟩)] w fun e w' => TlW base top z h mk n Y S w e w' := by
  obtain ⟨va, vc, rfl⟩ := H.out.form
  have htop := H.out.1
  have hB := below_new w (.cells #[.int .i64 0, .int .i64 0, .int .i64 0, .slice none 0 0] 25)
  have HB := H.keep hB
  have R0 := BdAt.new w 0 0 0 (.slice none 0 0) 25
  have RF : ∀ j, (w.alloc (.cells #[.int .i64 0, .int .i64 0, .int .i64 0, .slice none 0 0] 25)).frozen? ⟨w.heap.size, j, none⟩ = false := fun j => by simp [go_sem]
  obtain ⟨lp, e0, e1, e2, e3⟩ := HB.box
  have e4 := HB.c4
  have pb := H.pb
  have rb := H.rb
  by_cases h0 : n = 0
  · subst h0
    go_enter Try.func17, Try.ntmps17
    go_wp2
    go_loopw [10] (fun i wr => i = .int .i64 0 ∧ wr = w.alloc (.cells #[.int .i64 0, .int .i64 0, .int .i64 0, .slice none 0 0] 25)) (fun _ _ => 0)
    case atStart => exact ⟨rfl, rfl⟩
    case round =>
      obtain ⟨rfl, rfl⟩ := hrel
      obtain ⟨lr, d0, d1, d2, d3⟩ := R0
      go_wp2
      refine bodyPost_ret (v := .agg #[.int .i64 z, .int .i64 h, .int .i64 mk, .slice va 0 vc]) (by simp [results, Try.results17, go_sem, e0, e1, e2, e3, d0, d1, d2, d3]) rfl ⟨_, fun _ => false, rfl, fun i hi => by omega, ⟨by simp; omega, .inl ⟨rfl, _, _, rfl⟩⟩, ?_⟩
      refine ⟨fun c hc _ => ?_, ?_⟩
      · repeat rw [set_blk _ _ _ _ _ (by omega)]
        exact (below_new w _).block c hc
      repeat' refine Below.setCell ?_ (by first | (simp; done) | (simp; omega)) _
      exact (below_new w _).mono hbs
  obtain ⟨g, cap, A0, A1, K0, K1, G, ev, g1, g2t, hC, hl0, hl1⟩ := H.out.2.resolve_left (fun hh => h0 hh.1)
  injection ev with ev1 ev2 ev3
  subst ev1 ev3
  have g2 : g < w.heap.size := by omega
  have hgp : g ≠ p := by omega
  have hgr : g ≠ r := by omega
  have hC0 := hC.keep hB
  have hS0 := HB.set
  obtain ⟨b, hb⟩ : ∃ b : Nat → Bool, ∀ i, b i = true ↔ S (kS (Y i)) := ⟨fun i => @decide (S (kS (Y i))) (Classical.propDecidable _), fun i => by simp⟩
  have Hb : Hid (∀ i, b i = true ↔ S (kS (Y i))) := hb
  clear hb
  go_enter Try.func17, Try.ntmps17
  go_wp2
  generalize w.alloc (.cells #[.int .i64 0, .int .i64 0, .int .i64 0, .slice none 0 0] 25) = W0 at *
  go_loopw [10] (fun i wr => ∃ k : Nat, k ≤ n ∧ i = .int .i64 k ∧ WiC wr g n (tldB Y b k) A0 A1 K0 K1 G ∧ Rng g (g + 1) W0 wr) (fun i _ => n - (intOf i).toNat)
  case atStart => exact ⟨0, Nat.zero_le _, rfl, by rw [tldB_zero]; exact hC0, Rng.refl _ _ _⟩
  case round =>
    obtain ⟨k, hk, rfl, hCk, hR⟩ := hrel
    have sw := hB.size
    have blk : ∀ c, c < W0.heap.size → c ≠ g → wr.heap[c]? = W0.heap[c]? := fun c hc hne => hR.block c hc (by omega)
    have cl : ∀ c j, c < W0.heap.size → c ≠ g → wr.cell? ⟨c, j, none⟩ = W0.cell? ⟨c, j, none⟩ := fun c j hc hne => World.cell?_of_block (w := W0) (a := ⟨c, j, none⟩) (blk c hc hne)
    have f0 := (cl p 0 lp (Ne.symm hgp)).trans e0
    have f1 := (cl p 1 lp (Ne.symm hgp)).trans e1
    have f2 := (cl p 2 lp (Ne.symm hgp)).trans e2
    have f3 := (cl p 3 lp (Ne.symm hgp)).trans e3
    have f4 := (cl p 4 lp (Ne.symm hgp)).trans e4
    have hSk := hS0.same (blk r hS0.lt (Ne.symm hgr))
    by_cases hlt : k < n
    rotate_left
    · have e : k = n := by omega
      subst e
      obtain ⟨lr, d0, d1, d2, d3⟩ := R0
      have hrg : w.heap.size ≠ g := by omega
      have d0 := (cl w.heap.size 0 lr hrg).trans d0
      have d1 := (cl w.heap.size 1 lr hrg).trans d1
      have d2 := (cl w.heap.size 2 lr hrg).trans d2
      have d3 := (cl w.heap.size 3 lr hrg).trans d3
      have df : ∀ j, wr.frozen? ⟨w.heap.size, j, none⟩ = false := fun j => (World.frozen?_of_block (w := W0) (a := ⟨w.heap.size, j, none⟩) (blk _ lr hrg)).trans (RF j)
      have sR := hR.size
      have bwr : Below base w wr := (hB.mono hbs).trans (hR.below g1 (by omega))
      have bk : ∀ c, c < w.heap.size → (c < base ∨ top ≤ c) → wr.heap[c]? = w.heap[c]? := fun c hc hh => (blk c (Nat.lt_of_lt_of_le hc sw) (by omega)).trans (hB.block c hc)
      clear hC hC0 HB blk cl hS0 hSk hR
      go_wp2
      refine bodyPost_ret (v := .agg #[.int .i64 z, .int .i64 h, .int .i64 mk, .slice (some ⟨g, 0, none⟩) k vc]) (by simp [results, Try.results17, go_sem, f0, f1, f2, f3, d0, d1, d2, d3]) rfl ⟨_, b, rfl, fun i _ => Hb.out i, ⟨by simp; omega, .inr ⟨g, vc, A0, A1, K0, K1, G, rfl, g1, g2t, ?_, fun i hi hp => ?_, fun i hi hp => ?_⟩⟩, ?_⟩
      · refine hCk.same (by simp) ?_ (fun i hi hp => ?_) (fun i hi hp => ?_)
        · repeat rw [set_blk _ _ _ _ _ (by omega)]
        · rw [(tldB_key Y b k i).2.1] at hp
          have := hl0 i hi hp
          repeat rw [set_blk _ _ _ _ _ (by omega)]
        · rw [(tldB_key Y b k i).2.2.2.2.2] at hp
          have := hl1 i hi hp
          repeat rw [set_blk _ _ _ _ _ (by omega)]
      · rw [(tldB_key Y b k i).2.1] at hp; exact hl0 i hi hp
      · rw [(tldB_key Y b k i).2.2.2.2.2] at hp; exact hl1 i hi hp
      · refine ⟨fun c hc hh => ?_, ?_⟩
        · repeat rw [set_blk _ _ _ _ _ (by omega)]
          exact bk c hc hh
        repeat' refine Below.setCell ?_ (by first | (simp; done) | (simp; omega)) _
        exact bwr
    have hCu : WiC wr g n (upWi (tldB Y b k) k (Y k)) A0 A1 K0 K1 G := by rw [tldB_same]; exact hCk
    have ent := hCk.ent k hlt
    have ll := hCk.l0 k hlt
    rw [tldB_at] at ent ll
    have r0 : TRow wr (A0 k) (Y k).tn (Y k).nm (Y k).vl := by
      by_cases ht : (Y k).tn = 0
      · exact ⟨.inl ht⟩
      · obtain ⟨t1, _, t3⟩ := ll (by omega)
        rw [t1]; exact t3.row
    have r0d := r0.keep (Below.refl _ wr).drew
    have Sd := hSk.keep (Below.refl _ wr).drew
    have gk := hg.out k hlt
    obtain ⟨lg, y0, y1, y2, y3, y4, y5, y6, y7, y8, y9, y10⟩ := id ent
    have HU := tldB_up Y b k
    have hq0 : (0 : Int) ≤ (k : Int) := by omega
    have hq1 : (k : Int) < (n : Int) := by omega
    have lpr : p < wr.heap.size := Nat.lt_of_lt_of_le lp hR.size
    clear hC hC0 HB blk cl hS0 ll r0
    go_wp2
    go_region_held3 (fun w' => w'.cell? ⟨p, 3, none⟩ = some (.slice (some ⟨g, 0, none⟩) n vc) ∧ w'.cell? ⟨p, 4, none⟩ = some (.map (some r)) ∧ w'.cell? ⟨g, k * 11, none⟩ = some (.string (Y k).m) ∧ w'.cell? ⟨g, k * 11 + 1, none⟩ = some (.slice (A0 k) (Y k).tn (K0 k)) ∧ w'.cell? ⟨g, k * 11 + 2, none⟩ = some (.int .i64 (Y k).st)) (first | exact hSS | go_keep) (first | (go_at_call 18; refine (has_any (Y k) r S (A0 k) (K0 k) _ r0d gk Sd).mono ?_; rintro e u ⟨bb, rfl, hbb, q⟩; have ebb : bb = b k := (by have h1 := Hb.out k; cases hx : bb <;> cases hy : b k <;> simp_all); subst ebb; have q' := (Below.refl _ wr).drew.trans q; have hCv := hCu.keep q'; have fv := hCv.free (k * 11 + 10) (by omega); obtain ⟨_, v0, v1, v2, v3, v4, v5, v6, v7, v8, v9, v10⟩ := ent.keep q'; have x3 := (q'.cell (p := ⟨p, 3, none⟩) lpr).trans f3; have x4 := (q'.cell (p := ⟨p, 4, none⟩) lpr).trans f4; have hCw := hCv.set10 hlt (b k); have Rw := (hR.trans (Rng.of_below q')).trans (Rng.of_set (b := g) ⟨Nat.le_refl _, Nat.lt_succ_self _⟩ (k * 11 + 10) (.bool (b k))); have hSS := tlS (b k) hgp x3 x4 v0 v1 v2; clear q q'))
    rw [HU] at hCw
    go_wp2
    go_roundw
    case rel => exact ⟨k + 1, by omega, by go_num, hCw, Rw⟩
    case measure => simp [intOf]; omega
end Go.Proofs.Ytpggmgmdcccmeaa
