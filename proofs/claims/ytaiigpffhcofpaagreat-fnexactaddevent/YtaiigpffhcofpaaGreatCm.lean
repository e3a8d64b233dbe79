/- The set of keys in a map: a key put in, a key looked for. / Keys and aggs copied, in the model; windows and boards copied there. -/
import Derived.Test.YtaiigpffhcofpaaGreatCk
import Derived.Maps.RangeRun
import Derived.Maps.OwnSet
namespace Go.Proofs.YtaiigpffhcofpaaGreat
set_option maxRecDepth 100000
open Go.RowKit
open Go.ChangeMaps (setBlock)
set_option linter.unusedSimpArgs false
set_option linter.unusedVariables false

section
variable {P : Program} {w : World} {mty kt et : TypeId} {r : Nat} {es : Array MapEntry} {clock : Nat}
theorem run_mapUpdate_new {s : ByteArray} (val : Value) (hm : P.underlying mty = some (.map kt et)) (hd : P.underlying kt = some .string) (hb : w.heap[r]? = some (.map es clock)) (hks : ∀ x ∈ es.toList, MapKept.IsKey .string x.key) (hne : ∀ x ∈ es.toList, x.key ≠ .string s) :
    (Instr.mapUpdate mty (.map (some r)) (.string s) val).run P w = .ok () (setBlock w r (.map (es.push { key := .string s, val := val, born := clock }) (clock + 1))) := by
  have hk : MapKept.IsKey .string (.string s) := by simp [MapKept.IsKey]
  rcases MapKept.findNow_spec hk es.toList 0 hks with ⟨h1, _⟩ | ⟨j, e, h1, h2, h3⟩
  · simp [Instr.mapUpdate, run_underlying hm, MapKept.run_getObj_map hb, MapKept.run_checkKey hd hk, MapKept.run_findKey hd h1, MapKept.run_setObj_map _ hb, Result.andThen, setBlock]
  · exact absurd h3 (hne e (List.mem_of_getElem? h2))
end

theorem wpList_mapUpdate_run {P : Program} (w : World) {ops : Array Oper} {rest : List Oper} {o : Oper} {a : Act} {Q : Exit → Act → World → Prop}
    (hg : o.guard = none) (m x v : Operand) (t : TypeId) (hop : o.op = Op.mapUpdate t m x v) (mv key val : Value) (hm : a.eval m = mv) (hx : a.eval x = key) (hv : a.eval v = val) (w' : World)
    (hrun : (Instr.mapUpdate t mv key val).run P w = .ok () w') (hK : wpList P ops Q rest (a.put o.dst undef) w') : wpList P ops Q (o :: rest) a w := by
  refine wpList_plain hg fun K' hK' => ?_
  unfold Oper.wp
  simp [execOp, hop, hm, hx, hv, hrun, Result.andThen]
  exact hK' _ _ hK

section
variable {P : Program} {w : World} {mty kt et : TypeId} {r : Nat} {es : Array MapEntry} {clock : Nat}
theorem run_lookup_hit {s : ByteArray} (hm : P.underlying mty = some (.map kt et)) (hd : P.underlying kt = some .string) (hb : w.heap[r]? = some (.map es clock)) (hks : ∀ x ∈ es.toList, MapKept.IsKey .string x.key) {v : Value} (hv : ∀ x ∈ es.toList, x.key = .string s → x.val = v) (hex : ∃ x ∈ es.toList, x.key = .string s) :
    (Instr.lookup mty (.map (some r)) (.string s) true).run P w = .ok (.tuple #[v, .bool true]) w := by
  have hk : MapKept.IsKey .string (.string s) := by simp [MapKept.IsKey]
  rcases MapKept.findNow_spec hk es.toList 0 hks with ⟨h1, h2⟩ | ⟨j, e, h1, h2, h3⟩
  · obtain ⟨x, hx, he⟩ := hex
    exact absurd he (h2 x hx)
  · have := hv e (List.mem_of_getElem? h2) h3
    subst this
    simp [Instr.lookup, run_underlying hm, MapKept.run_getObj_map hb, MapKept.run_checkKey hd hk, MapKept.run_findKey hd h1, Result.andThen]
theorem run_lookup_miss {s : ByteArray} (hm : P.underlying mty = some (.map kt et)) (hd : P.underlying kt = some .string) (hb : w.heap[r]? = some (.map es clock)) (hks : ∀ x ∈ es.toList, MapKept.IsKey .string x.key) (hne : ∀ x ∈ es.toList, x.key ≠ .string s) {z : Value} (hz : (zeroValue et).run P w = .ok z w) :
    (Instr.lookup mty (.map (some r)) (.string s) true).run P w = .ok (.tuple #[z, .bool false]) w := by
  have hk : MapKept.IsKey .string (.string s) := by simp [MapKept.IsKey]
  rcases MapKept.findNow_spec hk es.toList 0 hks with ⟨h1, h2⟩ | ⟨j, e, h1, h2, h3⟩
  · simp [Instr.lookup, run_underlying hm, MapKept.run_getObj_map hb, MapKept.run_checkKey hd hk, MapKept.run_findKey hd h1, hz, Result.andThen]
  · exact absurd h3 (hne e (List.mem_of_getElem? h2))
end


/-- A key's bytes as a text. -/
def kS (x : Wn) : ByteArray := strOfNums (kbW x)
theorem kS_inj {x y : Wn} (h : kS x = kS y) : kbW x = kbW y := by
  have h1 := bytesOf_nums (kbW x) (kbytes_bd _ _ _ _ _)
  have h2 := bytesOf_nums (kbW y) (kbytes_bd _ _ _ _ _)
  unfold kS at h
  rw [← h1, ← h2, h]
theorem kS_ne {z : Int} {X : Nat → Wn} {n : Nat} (h : GWs z X n) {i j : Nat} (hi : i < n) (hj : j < n) (hne : i ≠ j) : kS (X i) ≠ kS (X j) := fun e => kb_ne h hi hj hne (kS_inj e)

set_option maxHeartbeats 1600000 in
theorem setForm_any (x : Wn) (ao : Option Addr) (cap : Nat) (w : World) (hr : TRow w ao x.tn x.nm x.vl) (hG : Hid (gK x = true)) :
    Calls Tryz.prog 70 #[.agg #[.string x.m, .slice ao x.tn cap, .int .i64 x.st]] w fun e w' => e = .returned (.string (kS x)) ∧ Below w.heap.size w w' := by
  obtain ⟨Z, HZ⟩ : ∃ Z, Hid (kS x = Z) := ⟨_, rfl⟩
  rw [HZ.out]
  have hB := below_new w (.cells #[.string x.m, .slice ao x.tn cap, .int .i64 x.st] 38)
  go_enter Tryz.func70, Tryz.ntmps70
  go_wp2_with fail
  refine (keyBytes_impl_good x.m x.st ao x.tn cap x.nm x.vl _ (hr.keep hB) hG.out).mono ?_
  rintro e w1 ⟨g, c, rfl, hg, ho, hb⟩
  have bw : Below w.heap.size w w1 := hB.trans (hb.mono (by simp))
  have hcv := run_convert_bytes_arg (P := Tryz.prog) w1 119 5 Tryz.underlying119 Tryz.underlying5 g 0 (kbytes x.m x.tn x.nm x.vl x.st).length c (kbytes x.m x.tn x.nm x.vl x.st) rfl (fun i hi => by
    have := ho.cell i hi
    simp only [Nat.zero_add] at this ⊢
    rw [this]
    simp [lf, hi]) 9 Tryz.underlying9
  rw [show strOfNums (kbytes x.m x.tn x.nm x.vl x.st) = Z from HZ.out] at hcv
  generalize (kbytes x.m x.tn x.nm x.vl x.st).length = N at *
  clear hb ho
  go_wp2
  go_ret
  exact ⟨rfl, bw⟩

/-- The set in block r holds the texts S. -/
def KSet (w : World) (r : Nat) (S : ByteArray → Prop) : Prop :=
  ∃ es clock, w.heap[r]? = some (.map es clock) ∧ (∀ y ∈ es.toList, MapKept.IsKey .string y.key) ∧ (∀ y ∈ es.toList, y.val = .agg #[]) ∧ ∀ s, (∃ y ∈ es.toList, y.key = .string s) ↔ S s
theorem KSet.lt {w : World} {r : Nat} {S : ByteArray → Prop} (h : KSet w r S) : r < w.heap.size := by
  obtain ⟨es, c, h1, _⟩ := h
  exact (Array.getElem?_eq_some_iff.1 h1).1
theorem KSet.same {w w' : World} {r : Nat} {S : ByteArray → Prop} (h : KSet w r S) (e : w'.heap[r]? = w.heap[r]?) : KSet w' r S := by
  obtain ⟨es, c, h1, h2⟩ := h
  exact ⟨es, c, e.trans h1, h2⟩
theorem KSet.keep {w w' : World} {r : Nat} {S : ByteArray → Prop} (h : KSet w r S) (hb : Below w.heap.size w w') : KSet w' r S := h.same (hb.block r h.lt)
theorem KSet.congr {w : World} {r : Nat} {S S' : ByteArray → Prop} (h : KSet w r S) (e : ∀ s, S s ↔ S' s) : KSet w r S' := by
  obtain ⟨es, c, h1, h2, h3, h4⟩ := h
  exact ⟨es, c, h1, h2, h3, fun s => (h4 s).trans (e s)⟩
theorem setBlock_others (w : World) (r : Nat) (o : Obj) : Others r w (setBlock w r o) := by
  refine ⟨rfl, rfl, rfl, by simp [setBlock], fun j hj => by simp [setBlock, Ne.symm hj]⟩

/-- A new text put into the set, as an equation. -/
theorem KSet.put_run {w : World} {r : Nat} {S : ByteArray → Prop} (h : KSet w r S) (s : ByteArray) (hs : ¬ S s) :
    ∃ w', (Instr.mapUpdate 89 (.map (some r)) (.string s) (.agg #[])).run Tryz.prog w = .ok () w' ∧ KSet w' r (fun t => S t ∨ t = s) ∧ Others r w w' := by
  obtain ⟨es, c, h1, h2, h3, h4⟩ := h
  have hrun := run_mapUpdate_new (P := Tryz.prog) (mty := 89) (kt := 9) (et := 108) (s := s) (.agg #[]) Tryz.underlying89 Tryz.underlying9 h1 h2 (fun y hy e => hs ((h4 s).1 ⟨y, hy, e⟩))
  have hlt := (Array.getElem?_eq_some_iff.1 h1).1
  refine ⟨_, hrun, ⟨es.push { key := .string s, val := .agg #[], born := c }, c + 1, by simp [setBlock, hlt], fun y hy => ?_, fun y hy => ?_, fun t => ?_⟩, setBlock_others _ _ _⟩
  · rw [Array.toList_push, List.mem_append, List.mem_singleton] at hy
    rcases hy with hy | rfl
    · exact h2 y hy
    · simp [MapKept.IsKey]
  · rw [Array.toList_push, List.mem_append, List.mem_singleton] at hy
    rcases hy with hy | rfl
    · exact h3 y hy
    · rfl
  · rw [Array.toList_push]
    constructor
    · rintro ⟨y, hy, e⟩
      rw [List.mem_append, List.mem_singleton] at hy
      rcases hy with hy | rfl
      · exact .inl ((h4 t).1 ⟨y, hy, e⟩)
      · injection e with e; exact .inr e.symm
    · rintro (hh | rfl)
      · obtain ⟨y, hy, e⟩ := (h4 t).2 hh
        exact ⟨y, by simp [hy], e⟩
      · exact ⟨_, by simp; exact .inr rfl, rfl⟩

theorem Tryz.zeroUnit (w : World) : (zeroValue 108).run Tryz.prog w = .ok (.agg #[]) w := by kernel_rfl
/-- A text looked for in the set, as an equation. -/
theorem KSet.look_run {w : World} {r : Nat} {S : ByteArray → Prop} (h : KSet w r S) (s : ByteArray) :
    ∃ b : Bool, (Instr.lookup 89 (.map (some r)) (.string s) true).run Tryz.prog w = .ok (.tuple #[.agg #[], .bool b]) w ∧ (b = true ↔ S s) := by
  obtain ⟨es, c, h1, h2, h3, h4⟩ := h
  by_cases hs : S s
  · exact ⟨true, run_lookup_hit (P := Tryz.prog) (mty := 89) (kt := 9) (et := 108) (s := s) Tryz.underlying89 Tryz.underlying9 h1 h2 (fun y hy _ => h3 y hy) ((h4 s).2 hs), by simp [hs]⟩
  · exact ⟨false, run_lookup_miss (P := Tryz.prog) (mty := 89) (kt := 9) (et := 108) (s := s) Tryz.underlying89 Tryz.underlying9 h1 h2 (fun y hy e => hs ((h4 s).1 ⟨y, hy, e⟩)) (Tryz.zeroUnit w), by simp [hs]⟩

set_option maxHeartbeats 1600000 in
theorem add_any (x : Wn) (r : Nat) (S : ByteArray → Prop) (ao : Option Addr) (cap : Nat) (w : World) (hr : TRow w ao x.tn x.nm x.vl) (hG : Hid (gK x = true)) (hS : KSet w r S) (hn : ¬ S (kS x)) :
    Calls Tryz.prog 47 #[.map (some r), .agg #[.string x.m, .slice ao x.tn cap, .int .i64 x.st]] w fun e w' => e = .returned (.tuple #[]) ∧ KSet w' r (fun t => S t ∨ t = kS x) ∧ Thru r w w' := by
  have hf := fun W h => setForm_any x ao cap W h hG
  obtain ⟨Z, HZ⟩ : ∃ Z, Hid (kS x = Z) := ⟨_, rfl⟩
  rw [HZ.out] at hn hf ⊢
  have hB := below_new w (.cells #[.string x.m, .slice ao x.tn cap, .int .i64 x.st] 38)
  go_enter Tryz.func47, Tryz.ntmps47
  go_wp2_with fail
  refine (hf _ (hr.keep hB)).mono ?_
  rintro e w1 ⟨rfl, hb⟩
  have bw : Below w.heap.size w w1 := hB.trans (hb.mono (by simp))
  obtain ⟨w2, hrun, hS2, ho⟩ := (hS.keep bw).put_run Z hn
  have ht := (Thru.of_below (g := r) bw).trans (Thru.of_others ho)
  clear hb ho hS hf
  go_wp2
  go_end0
  exact ⟨rfl, hS2, ht⟩

set_option maxHeartbeats 1600000 in
theorem has_any (x : Wn) (r : Nat) (S : ByteArray → Prop) (ao : Option Addr) (cap : Nat) (w : World) (hr : TRow w ao x.tn x.nm x.vl) (hG : Hid (gK x = true)) (hS : KSet w r S) :
    Calls Tryz.prog 58 #[.map (some r), .agg #[.string x.m, .slice ao x.tn cap, .int .i64 x.st]] w fun e w' => Ans (S (kS x)) w e w' := by
  have hf := fun W h => setForm_any x ao cap W h hG
  obtain ⟨Z, HZ⟩ : ∃ Z, Hid (kS x = Z) := ⟨_, rfl⟩
  rw [HZ.out] at hf ⊢
  have hB := below_new w (.cells #[.string x.m, .slice ao x.tn cap, .int .i64 x.st] 38)
  go_enter Tryz.func58, Tryz.ntmps58
  go_wp2_with fail
  refine (hf _ (hr.keep hB)).mono ?_
  rintro e w1 ⟨rfl, hb⟩
  have bw : Below w.heap.size w w1 := hB.trans (hb.mono (by simp))
  obtain ⟨b, hrun, hb2⟩ := (hS.keep bw).look_run Z
  have H : Hid (b = true ↔ S Z) := hb2
  have bw2 := fun o => bw.alloc bw.size o
  clear hb hb2 hf
  go_wp2
  go_ret
  exact Ans.mk b H.out (bw2 _)
end Go.Proofs.YtaiigpffhcofpaaGreat
namespace Go.Proofs.YtaiigpffhcofpaaGreat
set_option maxRecDepth 100000
open Go.RowKit
set_option linter.unusedSimpArgs false
set_option linter.unusedVariables false

theorem heap_alloc_new (w : World) (o : Obj) : (w.alloc o).heap[w.heap.size]? = some o := by
  show (w.heap.push o)[w.heap.size]? = some o
  simp
theorem empty_own2 (w : World) (T size B : Nat) (hB : B ≤ w.heap.size) (n : Nat) (hn : n = w.heap.size) : (w.alloc (.cells #[] T)).ownsRow B T size (.slice (some ⟨n, 0, none⟩) 0 0) 0 [] := by
  subst hn
  exact ⟨by simp, .inr ⟨w.heap.size, 0, #[], rfl, hB, heap_alloc_new w _, Nat.le_refl _, Nat.zero_le _, by simp, by simp⟩⟩

set_option maxHeartbeats 1600000 in
theorem l11OwnKey_any (m : ByteArray) (st : Int) (ao : Option Addr) (n cap : Nat) (nm vl : Nat → ByteArray) (w : World) (hr : TRow w ao n nm vl) (hn : n ≤ 1048576) :
    Calls Tryz.prog 22 #[.agg #[.string m, .slice ao n cap, .int .i64 st]] w fun e w' => KCo m st n nm vl w e w' := by
  go_enter Tryz.func22, Tryz.ntmps22
  go_wp2_with (at_builtin; refine wpList_copyT rfl _ _ rfl (w.heap.size + 2) (.slice (some ⟨w.heap.size + 1 + 1, 0, none⟩) 0 0) rfl (empty_own2 _ _ _ _ (by simp) _ (by simp)) ao n cap nm vl rfl (hr.keep ((((Below.refl _ _).alloc (Nat.le_refl _) _).alloc (by simp) _).alloc (by simp; omega) _)) hn (by simp) ?_; intro hv w1 hown hg; obtain ⟨ha, hcp, rfl⟩ := ownsRow_form hown; have hb1 := grown_old (B := w.heap.size + 2) hg (by simp) (by simp); have c0 := hb1.cell (p := ⟨w.heap.size, 0, none⟩) (by first | (simp; done) | (simp; omega)); have c1 := hb1.cell (p := ⟨w.heap.size, 1, none⟩) (by first | (simp; done) | (simp; omega)); have c2 := hb1.cell (p := ⟨w.heap.size, 2, none⟩) (by first | (simp; done) | (simp; omega)); have f1 := hb1.frozen (p := ⟨w.heap.size, 1, none⟩) (by first | (simp; done) | (simp; omega)); have d0 := hb1.cell (p := ⟨w.heap.size + 1, 0, none⟩) (by first | (simp; done) | (simp; omega)); have d1 := hb1.cell (p := ⟨w.heap.size + 1, 1, none⟩) (by first | (simp; done) | (simp; omega)); have d2 := hb1.cell (p := ⟨w.heap.size + 1, 2, none⟩) (by first | (simp; done) | (simp; omega)); have g : ∀ j, w1.frozen? ⟨w.heap.size + 1, j, none⟩ = false := fun j => (hb1.frozen (p := ⟨w.heap.size + 1, j, none⟩) (by first | (simp; done) | (simp; omega))).trans (by simp [go_sem]); simp [go_sem] at c0 c1 c2 f1 d0 d1 d2; have bw : Below w.heap.size w w1 := ((((Below.refl _ _).alloc (Nat.le_refl _) _).alloc (by simp) _).alloc (by simp; omega) _).trans (hb1.mono (by omega)); clear hb1 hg)
  have hne : ∀ d, d < w.heap.size + 2 → (Value.slice ha n hcp).ownBlock ≠ some d := fun d hd hk => by have := (hown.lt d hk).1; omega
  refine bodyPost_ret (v := .agg #[.string m, .slice ha n hcp, .int .i64 st]) (by simp [results, Tryz.results22, go_sem, c0, c1, c2, d0, d1, d2]) rfl ⟨.slice ha n hcp, rfl, ownsRow_mono ?_ (by omega : w.heap.size ≤ w.heap.size + 2), ?_⟩
  · repeat' refine ownsRow_others ?_ (Others.setCell _ _ _ _) (hne _ (by omega))
    exact hown
  · repeat' refine Below.setCell ?_ (by first | (simp; done) | (simp; omega)) _
    exact bw

set_option maxHeartbeats 1600000 in
theorem l4Own_any (c s lo hi : Int) (ao : Option Addr) (n cap : Nat) (f : Nat → Int) (fu : Bool) (w : World) (hr : IRow w ao n f) (hn : n ≤ 1048576) :
    Calls Tryz.prog 41 #[.agg #[.int .i64 c, .int .i64 s, .int .i64 lo, .int .i64 hi, .slice ao n cap, .bool fu]] w fun e w' => ACo c s lo hi n f fu w e w' := by
  go_enter Tryz.func41, Tryz.ntmps41
  go_wp2_with (at_builtin; refine wpList_copyI rfl _ _ rfl (w.heap.size + 2) (.slice (some ⟨w.heap.size + 1 + 1, 0, none⟩) 0 0) rfl (empty_own2 _ _ _ _ (by simp) _ (by simp)) ao n cap f rfl (hr.keep ((((Below.refl _ _).alloc (Nat.le_refl _) _).alloc (by simp) _).alloc (by simp; omega) _)) hn (by simp) ?_; intro hv w1 hown hg; obtain ⟨ha, hcp, rfl⟩ := ownsRow_form hown; have hb1 := grown_old (B := w.heap.size + 2) hg (by simp) (by simp); have c0 := hb1.cell (p := ⟨w.heap.size, 0, none⟩) (by first | (simp; done) | (simp; omega)); have c1 := hb1.cell (p := ⟨w.heap.size, 1, none⟩) (by first | (simp; done) | (simp; omega)); have c2 := hb1.cell (p := ⟨w.heap.size, 2, none⟩) (by first | (simp; done) | (simp; omega)); have c3 := hb1.cell (p := ⟨w.heap.size, 3, none⟩) (by first | (simp; done) | (simp; omega)); have c4 := hb1.cell (p := ⟨w.heap.size, 4, none⟩) (by first | (simp; done) | (simp; omega)); have c5 := hb1.cell (p := ⟨w.heap.size, 5, none⟩) (by first | (simp; done) | (simp; omega)); have f4 := hb1.frozen (p := ⟨w.heap.size, 4, none⟩) (by first | (simp; done) | (simp; omega)); have d0 := hb1.cell (p := ⟨w.heap.size + 1, 0, none⟩) (by first | (simp; done) | (simp; omega)); have d1 := hb1.cell (p := ⟨w.heap.size + 1, 1, none⟩) (by first | (simp; done) | (simp; omega)); have d2 := hb1.cell (p := ⟨w.heap.size + 1, 2, none⟩) (by first | (simp; done) | (simp; omega)); have d3 := hb1.cell (p := ⟨w.heap.size + 1, 3, none⟩) (by first | (simp; done) | (simp; omega)); have d4 := hb1.cell (p := ⟨w.heap.size + 1, 4, none⟩) (by first | (simp; done) | (simp; omega)); have d5 := hb1.cell (p := ⟨w.heap.size + 1, 5, none⟩) (by first | (simp; done) | (simp; omega)); have g : ∀ j, w1.frozen? ⟨w.heap.size + 1, j, none⟩ = false := fun j => (hb1.frozen (p := ⟨w.heap.size + 1, j, none⟩) (by first | (simp; done) | (simp; omega))).trans (by simp [go_sem]); simp [go_sem] at c0 c1 c2 c3 c4 c5 f4 d0 d1 d2 d3 d4 d5; have bw : Below w.heap.size w w1 := ((((Below.refl _ _).alloc (Nat.le_refl _) _).alloc (by simp) _).alloc (by simp; omega) _).trans (hb1.mono (by omega)); clear hb1 hg)
  have hne : ∀ d, d < w.heap.size + 2 → (Value.slice ha n hcp).ownBlock ≠ some d := fun d hd hk => by have := (hown.lt d hk).1; omega
  refine bodyPost_ret (v := .agg #[.int .i64 c, .int .i64 s, .int .i64 lo, .int .i64 hi, .slice ha n hcp, .bool fu]) (by simp [results, Tryz.results41, go_sem, c0, c1, c2, c3, c4, c5, d0, d1, d2, d3, d4, d5]) rfl ⟨.slice ha n hcp, rfl, ownsRow_mono ?_ (by omega : w.heap.size ≤ w.heap.size + 2), ?_⟩
  · repeat' refine ownsRow_others ?_ (Others.setCell _ _ _ _) (hne _ (by omega))
    exact hown
  · repeat' refine Below.setCell ?_ (by first | (simp; done) | (simp; omega)) _
    exact bw
end Go.Proofs.YtaiigpffhcofpaaGreat
