/- The set of keys in a map: a key put in, a key looked for. / Keys and aggs copied, in the model; windows and boards copied there. / Boards copied, in the model. / A board opened: windows with the set of the dirty ones, in the program. -/
import Derived.Test.YtpggmgmdcccmeaaCk
import Derived.Maps.RangeRun
import Derived.Maps.OwnSet
import Derived.Deep.RegionHeld3
import Derived.Deep.RegionLaw
namespace Go.Proofs.Ytpggmgmdcccmeaa
open Go.RowKit
open Go.ChangeMaps (setBlock)
set_option linter.unusedSimpArgs false
set_option linter.unusedVariables false

section
variable {P : Program} {w : World} {mty kt et : TypeId} {r : Nat} {es : Array MapEntry} {clock : Nat}
theorem run_mapUpdate_new {s : ByteArray} (val : Value) (hm : P.underlying mty = some (.map kt et)) (hd : P.underlying kt = some .string) (hb : w.heap[r]? = some (.map es clock)) (hks : ∀ x ∈ es.toList, MapKept.IsKey .string x.key) (hne : ∀ x ∈ es.toList, x.key ≠ .string s) :
    (Instr.mapUpdate mty (.map (some r)) (.string s) val).run P w = .ok () (setBlock w r (.map (es.push { key := .string s, val := val, born := clock }) (clock + 1))) := by
  have hk : MapKept.IsKey .string (.string s) := by simp [MapKept.IsKey]
  rcases MapKept.findNow_spec hk es.toList 0 hks with ⟨h1, _⟩ | ⟨j, e, h1, h2, h3⟩
  · simp [Instr.mapUpdate, run_underlying hm, MapKept.run_getObj_map hb, MapKept.run_checkKey hd hk, MapKept.run_findKey hd h1, MapKept.run_setObj_map _ hb, Result.andThen, setBlock]
  · exact absurd h3 (hne e (List.mem_of_getElem? h2))
end

theorem wpList_mapUpdate_run {P : Program} (w : World) {ops : Array Oper} {rest : List Oper} {o : Oper} {a : Act} {Q : Exit → Act → World → Prop}
    (hg : o.guard = none) (m x v : Operand) (t : TypeId) (hop : o.op = Op.mapUpdate t m x v) (mv key val : Value) (hm : a.eval m = mv) (hx : a.eval x = key) (hv : a.eval v = val) (w' : World)
    (hrun : (Instr.mapUpdate t mv key val).run P w = .ok () w') (hK : wpList P ops Q rest (a.put o.dst undef) w') : wpList P ops Q (o :: rest) a w := by
  refine wpList_plain hg fun K' hK' => ?_
  unfold Oper.wp
  simp [execOp, hop, hm, hx, hv, hrun, Result.andThen]
  exact hK' _ _ hK

section
variable {P : Program} {w : World} {mty kt et : TypeId} {r : Nat} {es : Array MapEntry} {clock : Nat}
theorem run_lookup_hit {s : ByteArray} (hm : P.underlying mty = some (.map kt et)) (hd : P.underlying kt = some .string) (hb : w.heap[r]? = some (.map es clock)) (hks : ∀ x ∈ es.toList, MapKept.IsKey .string x.key) {v : Value} (hv : ∀ x ∈ es.toList, x.key = .string s → x.val = v) (hex : ∃ x ∈ es.toList, x.key = .string s) :
    (Instr.lookup mty (.map (some r)) (.string s) true).run P w = .ok (.tuple #[v, .bool true]) w := by
  have hk : MapKept.IsKey .string (.string s) := by simp [MapKept.IsKey]
  rcases MapKept.findNow_spec hk es.toList 0 hks with ⟨h1, h2⟩ | ⟨j, e, h1, h2, h3⟩
  · obtain ⟨x, hx, he⟩ := hex
    exact absurd he (h2 x hx)
  · have := hv e (List.mem_of_getElem? h2) h3
    subst this
    simp [Instr.lookup, run_underlying hm, MapKept.run_getObj_map hb, MapKept.run_checkKey hd hk, MapKept.run_findKey hd h1, Result.andThen]
theorem run_lookup_miss {s : ByteArray} (hm : P.underlying mty = some (.map kt et)) (hd : P.underlying kt = some .string) (hb : w.heap[r]? = some (.map es clock)) (hks : ∀ x ∈ es.toList, MapKept.IsKey .string x.key) (hne : ∀ x ∈ es.toList, x.key ≠ .string s) {z : Value} (hz : (zeroValue et).run P w = .ok z w) :
    (Instr.lookup mty (.map (some r)) (.string s) true).run P w = .ok (.tuple #[z, .bool false]) w := by
  have hk : MapKept.IsKey .string (.string s) := by simp [MapKept.IsKey]
  rcases MapKept.findNow_spec hk es.toList 0 hks with ⟨h1, h2⟩ | ⟨j, e, h1, h2, h3⟩
  · simp [Instr.lookup, run_underlying hm, MapKept.run_getObj_map hb, MapKept.run_checkKey hd hk, MapKept.run_findKey hd h1, hz, Result.andThen]
  · exact absurd h3 (hne e (List.mem_of_getElem? h2))
end


/-- A key's bytes as a text. -/
def kS (x : Wn) : ByteArray := strOfNums (kbW x)
theorem kS_inj {x y : Wn} (h : kS x = kS y) : kbW x = kbW y := by
  have h1 := bytesOf_nums (kbW x) (kbytes_bd _ _ _ _ _)
  have h2 := bytesOf_nums (kbW y) (kbytes_bd _ _ _ _ _)
  unfold kS at h
  rw [← h1, ← h2, h]
theorem kS_ne {z : Int} {X : Nat → Wn} {n : Nat} (h : GWs z X n) {i j : Nat} (hi : i < n) (hj : j < n) (hne : i ≠ j) : kS (X i) ≠ kS (X j) := fun e => kb_ne h hi hj hne (kS_inj e)

set_option maxHeartbeats 1600000 in
theorem setForm_any (x : Wn) (ao : Option Addr) (cap : Nat) (w : World) (hr : TRow w ao x.tn x.nm x.vl) (hG : Hid (gK x = true)) :
    Calls Try.prog 47 #[.agg #[.string x.m, .slice ao x.tn cap, .int .i64 x.st]] w fun e w' => e = .returned (.string (kS x)) ∧ Below w.heap.size w w' := by
  obtain ⟨Z, HZ⟩ : ∃ Z, Hid (kS x = Z) := ⟨_, rfl⟩
  rw [HZ.out]
  have hB := below_new w (.cells #[.string x.m, .slice ao x.tn cap, .int .i64 x.st] 32)
  go_enter Try.func47, Try.ntmps47
  go_wp2_with fail
  refine (keyBytes_impl_good x.m x.st ao x.tn cap x.nm x.vl _ (hr.keep hB) hG.out).mono ?_
  rintro e w1 ⟨g, c, rfl, hg, ho, hb⟩
  have bw : Below w.heap.size w w1 := hB.trans (hb.mono (by simp))
  have hcv := run_convert_bytes_arg (P := Try.prog) w1 22 5 Try.underlying22 Try.underlying5 g 0 (kbytes x.m x.tn x.nm x.vl x.st).length c (kbytes x.m x.tn x.nm x.vl x.st) rfl (fun i hi => by
    have := ho.cell i hi
    simp only [Nat.zero_add] at this ⊢
    rw [this]
    simp [lf, hi]) 9 Try.underlying9
  rw [show strOfNums (kbytes x.m x.tn x.nm x.vl x.st) = Z from HZ.out] at hcv
  generalize (kbytes x.m x.tn x.nm x.vl x.st).length = N at *
  clear hb ho
  go_wp2
  go_ret
  exact ⟨rfl, bw⟩

/-- The set in block r holds the texts S. -/
def KSet (w : World) (r : Nat) (S : ByteArray → Prop) : Prop :=
  ∃ es clock, w.heap[r]? = some (.map es clock) ∧ (∀ y ∈ es.toList, MapKept.IsKey .string y.key) ∧ (∀ y ∈ es.toList, y.val = .agg #[]) ∧ ∀ s, (∃ y ∈ es.toList, y.key = .string s) ↔ S s
theorem KSet.lt {w : World} {r : Nat} {S : ByteArray → Prop} (h : KSet w r S) : r < w.heap.size := by
  obtain ⟨es, c, h1, _⟩ := h
  exact (Array.getElem?_eq_some_iff.1 h1).1
theorem KSet.same {w w' : World} {r : Nat} {S : ByteArray → Prop} (h : KSet w r S) (e : w'.heap[r]? = w.heap[r]?) : KSet w' r S := by
  obtain ⟨es, c, h1, h2⟩ := h
  exact ⟨es, c, e.trans h1, h2⟩
theorem KSet.keep {w w' : World} {r : Nat} {S : ByteArray → Prop} (h : KSet w r S) (hb : Below w.heap.size w w') : KSet w' r S := h.same (hb.block r h.lt)
theorem KSet.congr {w : World} {r : Nat} {S S' : ByteArray → Prop} (h : KSet w r S) (e : ∀ s, S s ↔ S' s) : KSet w r S' := by
  obtain ⟨es, c, h1, h2, h3, h4⟩ := h
  exact ⟨es, c, h1, h2, h3, fun s => (h4 s).trans (e s)⟩
theorem setBlock_others (w : World) (r : Nat) (o : Obj) : Others r w (setBlock w r o) := by
  refine ⟨rfl, rfl, rfl, by simp [setBlock], fun j hj => by simp [setBlock, Ne.symm hj]⟩

/-- A new text put into the set, as an equation. -/
theorem KSet.put_run {w : World} {r : Nat} {S : ByteArray → Prop} (h : KSet w r S) (s : ByteArray) (hs : ¬ S s) :
    ∃ w', (Instr.mapUpdate 56 (.map (some r)) (.string s) (.agg #[])).run Try.prog w = .ok () w' ∧ KSet w' r (fun t => S t ∨ t = s) ∧ Others r w w' := by
  obtain ⟨es, c, h1, h2, h3, h4⟩ := h
  have hrun := run_mapUpdate_new (P := Try.prog) (mty := 56) (kt := 9) (et := 84) (s := s) (.agg #[]) Try.underlying56 Try.underlying9 h1 h2 (fun y hy e => hs ((h4 s).1 ⟨y, hy, e⟩))
  have hlt := (Array.getElem?_eq_some_iff.1 h1).1
  refine ⟨_, hrun, ⟨es.push { key := .string s, val := .agg #[], born := c }, c + 1, by simp [setBlock, hlt], fun y hy => ?_, fun y hy => ?_, fun t => ?_⟩, setBlock_others _ _ _⟩
  · rw [Array.toList_push, List.mem_append, List.mem_singleton] at hy
    rcases hy with hy | rfl
    · exact h2 y hy
    · simp [MapKept.IsKey]
  · rw [Array.toList_push, List.mem_append, List.mem_singleton] at hy
    rcases hy with hy | rfl
    · exact h3 y hy
    · rfl
  · rw [Array.toList_push]
    constructor
    · rintro ⟨y, hy, e⟩
      rw [List.mem_append, List.mem_singleton] at hy
      rcases hy with hy | rfl
      · exact .inl ((h4 t).1 ⟨y, hy, e⟩)
      · injection e with e; exact .inr e.symm
    · rintro (hh | rfl)
      · obtain ⟨y, hy, e⟩ := (h4 t).2 hh
        exact ⟨y, by simp [hy], e⟩
      · exact ⟨_, by simp; exact .inr rfl, rfl⟩

theorem Try.zeroUnit (w : World) : (zeroValue 84).run Try.prog w = .ok (.agg #[]) w := by kernel_rfl
/-- A text looked for in the set, as an equation. -/
theorem KSet.look_run {w : World} {r : Nat} {S : ByteArray → Prop} (h : KSet w r S) (s : ByteArray) :
    ∃ b : Bool, (Instr.lookup 56 (.map (some r)) (.string s) true).run Try.prog w = .ok (.tuple #[.agg #[], .bool b]) w ∧ (b = true ↔ S s) := by
  obtain ⟨es, c, h1, h2, h3, h4⟩ := h
  by_cases hs : S s
  · exact ⟨true, run_lookup_hit (P := Try.prog) (mty := 56) (kt := 9) (et := 84) (s := s) Try.underlying56 Try.underlying9 h1 h2 (fun y hy _ => h3 y hy) ((h4 s).2 hs), by simp [hs]⟩
  · exact ⟨false, run_lookup_miss (P := Try.prog) (mty := 56) (kt := 9) (et := 84) (s := s) Try.underlying56 Try.underlying9 h1 h2 (fun y hy e => hs ((h4 s).1 ⟨y, hy, e⟩)) (Try.zeroUnit w), by simp [hs]⟩

set_option maxHeartbeats 1600000 in
theorem add_any (x : Wn) (r : Nat) (S : ByteArray → Prop) (ao : Option Addr) (cap : Nat) (w : World) (hr : TRow w ao x.tn x.nm x.vl) (hG : Hid (gK x = true)) (hS : KSet w r S) (hn : ¬ S (kS x)) :
    Calls Try.prog 42 #[.map (some r), .agg #[.string x.m, .slice ao x.tn cap, .int .i64 x.st]] w fun e w' => e = .returned (.tuple #[]) ∧ KSet w' r (fun t => S t ∨ t = kS x) ∧ Thru r w w' := by
  have hf := fun W h => setForm_any x ao cap W h hG
  obtain ⟨Z, HZ⟩ : ∃ Z, Hid (kS x = Z) := ⟨_, rfl⟩
  rw [HZ.out] at hn hf ⊢
  have hB := below_new w (.cells #[.string x.m, .slice ao x.tn cap, .int .i64 x.st] 32)
  go_enter Try.func42, Try.ntmps42
  go_wp2_with fail
  refine (hf _ (hr.keep hB)).mono ?_
  rintro e w1 ⟨rfl, hb⟩
  have bw : Below w.heap.size w w1 := hB.trans (hb.mono (by simp))
  obtain ⟨w2, hrun, hS2, ho⟩ := (hS.keep bw).put_run Z hn
  have ht := (Thru.of_below (g := r) bw).trans (Thru.of_others ho)
  clear hb ho hS hf
  go_wp2
  go_end0
  exact ⟨rfl, hS2, ht⟩

set_option maxHeartbeats 1600000 in
theorem has_any (x : Wn) (r : Nat) (S : ByteArray → Prop) (ao : Option Addr) (cap : Nat) (w : World) (hr : TRow w ao x.tn x.nm x.vl) (hG : Hid (gK x = true)) (hS : KSet w r S) :
    Calls Try.prog 18 #[.map (some r), .agg #[.string x.m, .slice ao x.tn cap, .int .i64 x.st]] w fun e w' => Ans (S (kS x)) w e w' := by
  have hf := fun W h => setForm_any x ao cap W h hG
  obtain ⟨Z, HZ⟩ : ∃ Z, Hid (kS x = Z) := ⟨_, rfl⟩
  rw [HZ.out] at hf ⊢
  have hB := below_new w (.cells #[.string x.m, .slice ao x.tn cap, .int .i64 x.st] 32)
  go_enter Try.func18, Try.ntmps18
  go_wp2_with fail
  refine (hf _ (hr.keep hB)).mono ?_
  rintro e w1 ⟨rfl, hb⟩
  have bw : Below w.heap.size w w1 := hB.trans (hb.mono (by simp))
  obtain ⟨b, hrun, hb2⟩ := (hS.keep bw).look_run Z
  have H : Hid (b = true ↔ S Z) := hb2
  have bw2 := fun o => bw.alloc bw.size o
  clear hb hb2 hf
  go_wp2
  go_ret
  exact Ans.mk b H.out (bw2 _)
end Go.Proofs.Ytpggmgmdcccmeaa
namespace Go.Proofs.Ytpggmgmdcccmeaa
open Go.RowKit
set_option linter.unusedSimpArgs false
set_option linter.unusedVariables false

theorem heap_alloc_new (w : World) (o : Obj) : (w.alloc o).heap[w.heap.size]? = some o := by
  show (w.heap.push o)[w.heap.size]? = some o
  simp
theorem empty_own2 (w : World) (T size B : Nat) (hB : B ≤ w.heap.size) (n : Nat) (hn : n = w.heap.size) : (w.alloc (.cells #[] T)).ownsRow B T size (.slice (some ⟨n, 0, none⟩) 0 0) 0 [] := by
  subst hn
  exact ⟨by simp, .inr ⟨w.heap.size, 0, #[], rfl, hB, heap_alloc_new w _, Nat.le_refl _, Nat.zero_le _, by simp, by simp⟩⟩

set_option maxHeartbeats 1600000 in
theorem l11OwnKey_any (m : ByteArray) (st : Int) (ao : Option Addr) (n cap : Nat) (nm vl : Nat → ByteArray) (w : World) (hr : TRow w ao n nm vl) (hn : n ≤ 1048576) :
    Calls Try.prog 22 #[.agg #[.string m, .slice ao n cap, .int .i64 st]] w fun e w' => KCo m st n nm vl w e w' := by
  go_enter Try.func22, Try.ntmps22
  go_wp2_with (at_builtin; refine wpList_copyT rfl _ _ rfl (w.heap.size + 2) (.slice (some ⟨w.heap.size + 1 + 1, 0, none⟩) 0 0) rfl (empty_own2 _ _ _ _ (by simp) _ (by simp)) ao n cap nm vl rfl (hr.keep ((((Below.refl _ _).alloc (Nat.le_refl _) _).alloc (by simp) _).alloc (by simp; omega) _)) hn (by simp) ?_; intro hv w1 hown hg; obtain ⟨ha, hcp, rfl⟩ := ownsRow_form hown; have hb1 := grown_old (B := w.heap.size + 2) hg (by simp) (by simp); have c0 := hb1.cell (p := ⟨w.heap.size, 0, none⟩) (by first | (simp; done) | (simp; omega)); have c1 := hb1.cell (p := ⟨w.heap.size, 1, none⟩) (by first | (simp; done) | (simp; omega)); have c2 := hb1.cell (p := ⟨w.heap.size, 2, none⟩) (by first | (simp; done) | (simp; omega)); have f1 := hb1.frozen (p := ⟨w.heap.size, 1, none⟩) (by first | (simp; done) | (simp; omega)); have d0 := hb1.cell (p := ⟨w.heap.size + 1, 0, none⟩) (by first | (simp; done) | (simp; omega)); have d1 := hb1.cell (p := ⟨w.heap.size + 1, 1, none⟩) (by first | (simp; done) | (simp; omega)); have d2 := hb1.cell (p := ⟨w.heap.size + 1, 2, none⟩) (by first | (simp; done) | (simp; omega)); have g : ∀ j, w1.frozen? ⟨w.heap.size + 1, j, none⟩ = false := fun j => (hb1.frozen (p := ⟨w.heap.size + 1, j, none⟩) (by first | (simp; done) | (simp; omega))).trans (by simp [go_sem]); simp [go_sem] at c0 c1 c2 f1 d0 d1 d2; have bw : Below w.heap.size w w1 := ((((Below.refl _ _).alloc (Nat.le_refl _) _).alloc (by simp) _).alloc (by simp; omega) _).trans (hb1.mono (by omega)); clear hb1 hg)
  have hne : ∀ d, d < w.heap.size + 2 → (Value.slice ha n hcp).ownBlock ≠ some d := fun d hd hk => by have := (hown.lt d hk).1; omega
  refine bodyPost_ret (v := .agg #[.string m, .slice ha n hcp, .int .i64 st]) (by simp [results, Try.results22, go_sem, c0, c1, c2, d0, d1, d2]) rfl ⟨.slice ha n hcp, rfl, ownsRow_mono ?_ (by omega : w.heap.size ≤ w.heap.size + 2), ?_⟩
  · repeat' refine ownsRow_others ?_ (Others.setCell _ _ _ _) (hne _ (by omega))
    exact hown
  · repeat' refine Below.setCell ?_ (by first | (simp; done) | (simp; omega)) _
    exact bw

set_option maxHeartbeats 1600000 in
theorem l4Own_any (c s lo hi : Int) (ao : Option Addr) (n cap : Nat) (f : Nat → Int) (fu : Bool) (w : World) (hr : IRow w ao n f) (hn : n ≤ 1048576) :
    Calls Try.prog 23 #[.agg #[.int .i64 c, .int .i64 s, .int .i64 lo, .int .i64 hi, .slice ao n cap, .bool fu]] w fun e w' => ACo c s lo hi n f fu w e w' := by
  go_enter Try.func23, Try.ntmps23
  go_wp2_with (at_builtin; refine wpList_copyI rfl _ _ rfl (w.heap.size + 2) (.slice (some ⟨w.heap.size + 1 + 1, 0, none⟩) 0 0) rfl (empty_own2 _ _ _ _ (by simp) _ (by simp)) ao n cap f rfl (hr.keep ((((Below.refl _ _).alloc (Nat.le_refl _) _).alloc (by simp) _).alloc (by simp; omega) _)) hn (by simp) ?_; intro hv w1 hown hg; obtain ⟨ha, hcp, rfl⟩ := ownsRow_form hown; have hb1 := grown_old (B := w.heap.size + 2) hg (by simp) (by simp); have c0 := hb1.cell (p := ⟨w.heap.size, 0, none⟩) (by first | (simp; done) | (simp; omega)); have c1 := hb1.cell (p := ⟨w.heap.size, 1, none⟩) (by first | (simp; done) | (simp; omega)); have c2 := hb1.cell (p := ⟨w.heap.size, 2, none⟩) (by first | (simp; done) | (simp; omega)); have c3 := hb1.cell (p := ⟨w.heap.size, 3, none⟩) (by first | (simp; done) | (simp; omega)); have c4 := hb1.cell (p := ⟨w.heap.size, 4, none⟩) (by first | (simp; done) | (simp; omega)); have c5 := hb1.cell (p := ⟨w.heap.size, 5, none⟩) (by first | (simp; done) | (simp; omega)); have f4 := hb1.frozen (p := ⟨w.heap.size, 4, none⟩) (by first | (simp; done) | (simp; omega)); have d0 := hb1.cell (p := ⟨w.heap.size + 1, 0, none⟩) (by first | (simp; done) | (simp; omega)); have d1 := hb1.cell (p := ⟨w.heap.size + 1, 1, none⟩) (by first | (simp; done) | (simp; omega)); have d2 := hb1.cell (p := ⟨w.heap.size + 1, 2, none⟩) (by first | (simp; done) | (simp; omega)); have d3 := hb1.cell (p := ⟨w.heap.size + 1, 3, none⟩) (by first | (simp; done) | (simp; omega)); have d4 := hb1.cell (p := ⟨w.heap.size + 1, 4, none⟩) (by first | (simp; done) | (simp; omega)); have d5 := hb1.cell (p := ⟨w.heap.size + 1, 5, none⟩) (by first | (simp; done) | (simp; omega)); have g : ∀ j, w1.frozen? ⟨w.heap.size + 1, j, none⟩ = false := fun j => (hb1.frozen (p := ⟨w.heap.size + 1, j, none⟩) (by first | (simp; done) | (simp; omega))).trans (by simp [go_sem]); simp [go_sem] at c0 c1 c2 c3 c4 c5 f4 d0 d1 d2 d3 d4 d5; have bw : Below w.heap.size w w1 := ((((Below.refl _ _).alloc (Nat.le_refl _) _).alloc (by simp) _).alloc (by simp; omega) _).trans (hb1.mono (by omega)); clear hb1 hg)
  have hne : ∀ d, d < w.heap.size + 2 → (Value.slice ha n hcp).ownBlock ≠ some d := fun d hd hk => by have := (hown.lt d hk).1; omega
  refine bodyPost_ret (v := .agg #[.int .i64 c, .int .i64 s, .int .i64 lo, .int .i64 hi, .slice ha n hcp, .bool fu]) (by simp [results, Try.results23, go_sem, c0, c1, c2, c3, c4, c5, d0, d1, d2, d3, d4, d5]) rfl ⟨.slice ha n hcp, rfl, ownsRow_mono ?_ (by omega : w.heap.size ≤ w.heap.size + 2), ?_⟩
  · repeat' refine ownsRow_others ?_ (Others.setCell _ _ _ _) (hne _ (by omega))
    exact hown
  · repeat' refine Below.setCell ?_ (by first | (simp; done) | (simp; omega)) _
    exact bw
end Go.Proofs.Ytpggmgmdcccmeaa
namespace Go.Proofs.Ytpggmgmdcccmeaa
open Go.RowKit
set_option linter.unusedSimpArgs false
set_option linter.unusedVariables false

/-- One window put behind. -/
theorem wpList_pushW {w : World} {ops : Array Oper} {rest : List Oper} {o : Oper} {a : Act} {Q : Exit → Act → World → Prop} (nb : Nat) (hnb : w.heap.size = nb) (hgd : o.guard = none) (s y : Operand)
    (ho : o.op = .call { callee := .builtin .append, args := #[s, y], argTypes := #[23, 23] })
    (base : Nat) (v h0 h1 : Value) (n : Nat) (X : Nat → Wn) (V : Nat → Value) (x : Wn) (hs : a.eval s = v) (h : OutW w base v n X V) (hx0 : TV w base h0 x) (hx1 : HV w base h1 x)
    (hd0 : ∀ k, h0.ownBlock = some k → v.ownBlock ≠ some k ∧ ∀ p, p < n * 2 → (V p).ownBlock ≠ some k) (hd1 : ∀ k, h1.ownBlock = some k → v.ownBlock ≠ some k ∧ (∀ p, p < n * 2 → (V p).ownBlock ≠ some k) ∧ h0.ownBlock ≠ some k)
    (hy : a.eval y = .slice (some ⟨nb, 0, none⟩) 1 1) (hn : n ≤ 1048576) (hbase : base ≤ w.heap.size)
    (hk : ∀ v' w', OutW w' base v' (n + 1) (upWi X n x) (vPut V n h0 h1) → (w.alloc (.cells #[.string x.m, h0, .int .i64 x.st, .int .i64 x.c, .int .i64 x.s, .int .i64 x.lo, .int .i64 x.hi, h1, .bool x.fu, .int .i64 x.ver, .bool x.di] 39)).grownBy w' v.ownBlock → wpList Try.prog ops Q rest (a.put o.dst v') w') :
    wpList Try.prog ops Q (o :: rest) a (w.alloc (.cells #[.string x.m, h0, .int .i64 x.st, .int .i64 x.c, .int .i64 x.s, .int .i64 x.lo, .int .i64 x.hi, h1, .bool x.fu, .int .i64 x.ver, .bool x.di] 39)) := by
  subst hnb
  obtain ⟨v', w', hr, h2, h3⟩ := pushW_run h hx0 hx1 hd0 hd1 hn hbase o.type
  exact wpList_append_eq _ hgd s y 23 o.type ho rfl v _ v' hs hy w' hr (hk v' w' h2 h3)
theorem OutW.mono {w : World} {base base' : Nat} {v : Value} {n : Nat} {X : Nat → Wn} {V : Nat → Value} (h : OutW w base v n X V) (hb : base' ≤ base) : OutW w base' v n X V :=
  ⟨ownsRow_mono h.own hb, fun i hi => ownsRow_mono (h.r0 i hi) hb, fun i hi => ownsRow_mono (h.r1 i hi) hb, h.dis, h.apart⟩

/-- A board of the call's own. -/
def OwB (z h mk : Int) (n : Nat) (X : Nat → Wn) (w : World) (e : Ending) (w' : World) : Prop :=
  ∃ v V, e = .returned (.agg #[.int .i64 z, .int .i64 h, .int .i64 mk, v]) ∧ OutW w' w.heap.size v n X V ∧ Below w.heap.size w w'

set_option maxRecDepth 100000 in
set_option maxHeartbeats 8000000 in
theorem l11Own_any (z h mk : Int) (ao : Option Addr) (n cap : Nat) (X : Nat → Wn) (w : World) (hr : WiRow w ao n X) (hn : n ≤ 1048576) (hz : WiSize n X) :
    Calls Try.prog 21 #[.agg #[.int .i64 z, .int .i64 h, .int .i64 mk, .slice ao n cap]] w fun e w' => OwB z h mk n X w e w' := by
  obtain ⟨hbd, hlies⟩ := hr
  go_enter Try.func21, Try.ntmps21
  go_wp2
  generalize hW0 : (w.alloc (.cells #[.int .i64 z, .int .i64 h, .int .i64 mk, .slice ao n cap] 25)).alloc _ = W0
  have bw0 : Below w.heap.size w W0 := by rw [← hW0]; exact ((Below.refl _ _).alloc (Nat.le_refl _) _).alloc (by simp) _
  have sz0 : W0.heap.size = w.heap.size + 2 := by rw [← hW0]; simp
  have B0 : BdAt W0 w.heap.size z h mk (.slice ao n cap) := by rw [← hW0]; exact (BdAt.new w z h mk _ _).keep (below_new _ _)
  have R0 : BdAt W0 (w.heap.size + 1) 0 0 0 (.slice none 0 0) := by rw [← hW0]; refine ⟨by simp, ?_, ?_, ?_, ?_⟩ <;> simp [go_sem]
  have fz0 : ∀ c j, c < w.heap.size + 2 → w.heap.size ≤ c → W0.frozen? ⟨c, j, none⟩ = false := by
    intro c j h1 h2
    rw [← hW0]
    obtain rfl | rfl : c = w.heap.size ∨ c = w.heap.size + 1 := by omega
    · simp [go_sem]
    · simp [go_sem]
  clear hW0
  go_loopw [3, 9] (fun v i wr => ∃ (k : Nat) (V : Nat → Value), k ≤ n ∧ i = .int .i64 k ∧ OutW wr (w.heap.size + 2) v k X V ∧ Below (w.heap.size + 2) W0 wr) (fun _ i _ => n - (intOf i).toNat)
  case atStart => exact ⟨0, _, Nat.zero_le _, rfl, outW_nil _ _ _, Below.refl _ _⟩
  case round =>
    obtain ⟨k, V, hk, rfl, hO, hbk⟩ := hrel
    have hs1 := hbk.size
    by_cases hlt : k < n
    rotate_left
    · have e : k = n := by omega
      subst e
      obtain ⟨va, vc, rfl⟩ := ownsRow_form hO.own
      obtain ⟨_, c0, c1, c2, c3⟩ := B0
      obtain ⟨_, d0, d1, d2, d3⟩ := R0
      have c0 := (hbk.cell (p := ⟨w.heap.size, 0, none⟩) (by simp)).trans c0
      have c1 := (hbk.cell (p := ⟨w.heap.size, 1, none⟩) (by simp)).trans c1
      have c2 := (hbk.cell (p := ⟨w.heap.size, 2, none⟩) (by simp)).trans c2
      have c3 := (hbk.cell (p := ⟨w.heap.size, 3, none⟩) (by simp)).trans c3
      have d0 := (hbk.cell (p := ⟨w.heap.size + 1, 0, none⟩) (by simp)).trans d0
      have d1 := (hbk.cell (p := ⟨w.heap.size + 1, 1, none⟩) (by simp)).trans d1
      have d2 := (hbk.cell (p := ⟨w.heap.size + 1, 2, none⟩) (by simp)).trans d2
      have d3 := (hbk.cell (p := ⟨w.heap.size + 1, 3, none⟩) (by simp)).trans d3
      have f0 : ∀ j, wr.frozen? ⟨w.heap.size, j, none⟩ = false := fun j => (hbk.frozen (p := ⟨w.heap.size, j, none⟩) (by simp)).trans (fz0 _ _ (by omega) (by omega))
      have f1 : ∀ j, wr.frozen? ⟨w.heap.size + 1, j, none⟩ = false := fun j => (hbk.frozen (p := ⟨w.heap.size + 1, j, none⟩) (by simp)).trans (fz0 _ _ (by omega) (by omega))
      have bw := bw0.trans (hbk.mono (by omega))
      clear hbk hlies
      go_wp2
      refine bodyPost_ret (v := .agg #[.int .i64 z, .int .i64 h, .int .i64 mk, .slice va k vc]) (by simp [results, Try.results21, go_sem, c0, c1, c2, c3, d0, d1, d2, d3]) rfl ⟨_, V, rfl, OutW.mono ?_ (by omega : w.heap.size ≤ w.heap.size + 2), ?_⟩
      · repeat' refine OutW.others ?_ (Others.setCell _ _ _ _) (by omega)
        exact hO
      · repeat' refine Below.setCell ?_ (by first | (simp; done) | (simp; omega)) _
        exact bw
    obtain ⟨b, off, rfl, hblt, hc⟩ := hlies.resolve_left (by omega)
    obtain ⟨a0, a1, c0, c1, ea, r0, r1⟩ := hc k hlt
    have hbw : Below w.heap.size w wr := bw0.trans (hbk.mono (by omega))
    have ea1 := ea.keep hbw
    have r0 := r0.keep hbw
    have r1 := r1.keep hbw
    obtain ⟨_, d0, d1, d2, d3, d4, d5, d6, d7, d8, d9, d10⟩ := ea1
    obtain ⟨W1, hW1⟩ : ∃ W1, W1 = wr.alloc (.cells #[.string (X k).m, .slice a0 (X k).tn c0, .int .i64 (X k).st, .int .i64 (X k).c, .int .i64 (X k).s, .int .i64 (X k).lo, .int .i64 (X k).hi, .slice a1 (X k).n c1, .bool (X k).fu, .int .i64 (X k).ver, .bool (X k).di] 39) := ⟨_, rfl⟩
    have hB1 : Below wr.heap.size wr W1 := by rw [hW1]; exact below_new _ _
    have szW1 : W1.heap.size = wr.heap.size + 1 := by rw [hW1]; simp
    have A : WiAt W1 wr.heap.size 0 (X k) a0 a1 c0 c1 := by rw [hW1]; exact WiAt.new wr (X k) a0 a1 c0 c1 39
    have fA : ∀ j, W1.frozen? ⟨wr.heap.size, j, none⟩ = false := by rw [hW1]; intro j; simp [go_sem]
    have zk := hz k hlt
    obtain ⟨va, vc, rfl⟩ := ownsRow_form hO.own
    clear hc hlies ea
    go_wp2_with fail
    rw [← hW1]
    clear hW1
    refine (l11OwnKey_any (X k).m (X k).st a0 (X k).tn c0 (X k).nm (X k).vl _ (r0.keep hB1) zk.tn).mono ?_
    rintro e w1 ⟨hv0, rfl, T0, q1⟩
    obtain ⟨ha0, hc0, rfl⟩ := ownsRow_form T0
    have A1 := A.keep q1
    have fA1 : ∀ j, w1.frozen? ⟨wr.heap.size, j, none⟩ = false := fun j => (q1.frozen (p := ⟨wr.heap.size, j, none⟩) (by show wr.heap.size < _; omega)).trans (fA j)
    have sz1 := q1.size
    have bA : Below wr.heap.size wr w1 := hB1.trans (q1.mono (by omega))
    clear A fA q1 d0 d1 d2 d3 d4 d5 d6 d7 d8 d9 d10
    obtain ⟨_, y0, y1, y2, y3, y4, y5, y6, y7, y8, y9, y10⟩ := id A1
    simp only [Nat.zero_add] at y1 y2 y3 y4 y5 y6 y7 y8 y9 y10
    obtain ⟨w1s, hw1s⟩ : ∃ u, u = ((w1.setCell ⟨wr.heap.size, 0, none⟩ (.string (X k).m)).setCell ⟨wr.heap.size, 1, none⟩ (.slice ha0 (X k).tn hc0)).setCell ⟨wr.heap.size, 2, none⟩ (.int .i64 (X k).st) := ⟨_, rfl⟩
    have ot1 : Others wr.heap.size w1 w1s := by rw [hw1s]; exact ((Others.setCell _ _ _ _).trans (Others.setCell _ _ _ _)).trans (Others.setCell _ _ _ _)
    have Z1 : WiAt w1s wr.heap.size 0 (X k) ha0 a1 hc0 c1 := by
      rw [hw1s]
      refine ⟨by simp; omega, ?_, ?_, ?_, ?_, ?_, ?_, ?_, ?_, ?_, ?_, ?_⟩ <;> simp [go_sem, y0, y1, y2, y3, y4, y5, y6, y7, y8, y9, y10]
    have fz1 : ∀ j, w1s.frozen? ⟨wr.heap.size, j, none⟩ = false := fun j => by rw [hw1s]; simp [go_sem, fA1]
    have bS1 : Below wr.heap.size wr w1s := bA.trans (ot1.below (Nat.le_refl _))
    have T0s := ownsRow_others T0 ot1 (fun hh => by have := (T0.lt _ hh).1; omega)
    have T0l := fun q hq => (T0.lt q hq).2
    have szs1 := ot1.size
    go_wp2_with fail
    rw [← hw1s]
    clear hw1s ot1 T0 A1 fA1 y0 y1 y2 y3 y4 y5 y6 y7 y8 y9 y10
    refine (l4Own_any (X k).c (X k).s (X k).lo (X k).hi a1 (X k).n c1 (X k).f (X k).fu _ (r1.keep bS1) zk.n).mono ?_
    rintro e w2 ⟨hv1, rfl, T1, q2⟩
    obtain ⟨ha1, hc1, rfl⟩ := ownsRow_form T1
    have Z2 := Z1.keep q2
    have fz2 : ∀ j, w2.frozen? ⟨wr.heap.size, j, none⟩ = false := fun j => (q2.frozen (p := ⟨wr.heap.size, j, none⟩) Z1.lt).trans (fz1 j)
    have T0s := ownsRow_keep T0s q2
    have sz2 := q2.size
    have bS2 : Below wr.heap.size wr w2 := bS1.trans (q2.mono bS1.size)
    clear Z1 fz1 q2
    obtain ⟨_, y0, y1, y2, y3, y4, y5, y6, y7, y8, y9, y10⟩ := id Z2
    simp only [Nat.zero_add] at y1 y2 y3 y4 y5 y6 y7 y8 y9 y10
    obtain ⟨w2s, hw2s⟩ : ∃ u, u = (((((w2.setCell ⟨wr.heap.size, 3, none⟩ (.int .i64 (X k).c)).setCell ⟨wr.heap.size, 4, none⟩ (.int .i64 (X k).s)).setCell ⟨wr.heap.size, 5, none⟩ (.int .i64 (X k).lo)).setCell ⟨wr.heap.size, 6, none⟩ (.int .i64 (X k).hi)).setCell ⟨wr.heap.size, 7, none⟩ (.slice ha1 (X k).n hc1)).setCell ⟨wr.heap.size, 8, none⟩ (.bool (X k).fu) := ⟨_, rfl⟩
    have ot2 : Others wr.heap.size w2 w2s := by rw [hw2s]; exact (((((Others.setCell _ _ _ _).trans (Others.setCell _ _ _ _)).trans (Others.setCell _ _ _ _)).trans (Others.setCell _ _ _ _)).trans (Others.setCell _ _ _ _)).trans (Others.setCell _ _ _ _)
    have bS3 : Below wr.heap.size wr w2s := bS2.trans (ot2.below (Nat.le_refl _))
    have O3 := hO.keep bS3
    have T0s := ownsRow_others T0s ot2 (fun hh => by have := (T0s.lt _ hh).1; omega)
    have T1l := fun q hq => (T1.lt q hq).1
    have T1s := ownsRow_others T1 ot2 (fun hh => by have := T1l _ hh; omega)
    have szs2 := ot2.size
    have hvl : ∀ q, (Value.slice va k vc).ownBlock = some q → q < wr.heap.size := fun q hq => (hO.own.lt q hq).2
    have hVl : ∀ p q, p < k * 2 → (V p).ownBlock = some q → q < wr.heap.size := fun p q hp hq => (hO.lt hp hq).2
    have T0g := fun q hq => (T0s.lt q hq).1
    have hd0 : ∀ q, (Value.slice ha0 (X k).tn hc0).ownBlock = some q → (Value.slice va k vc).ownBlock ≠ some q ∧ ∀ p, p < k * 2 → (V p).ownBlock ≠ some q := fun q hq => ⟨fun hh => by have := T0g q hq; have := hvl q hh; omega, fun p hp hh => by have := T0g q hq; have := hVl p q hp hh; omega⟩
    have hd1 : ∀ q, (Value.slice ha1 (X k).n hc1).ownBlock = some q → (Value.slice va k vc).ownBlock ≠ some q ∧ (∀ p, p < k * 2 → (V p).ownBlock ≠ some q) ∧ (Value.slice ha0 (X k).tn hc0).ownBlock ≠ some q := fun q hq => ⟨fun hh => by have := T1l q hq; have := hvl q hh; omega, fun p hp hh => by have := T1l q hq; have := hVl p q hp hh; omega, fun hh => by have := T1l q hq; have := T0l q hh; omega⟩
    have hx0 : TV w2s (w.heap.size + 2) (.slice ha0 (X k).tn hc0) (X k) := ownsRow_mono T0s (by omega)
    have hx1 : HV w2s (w.heap.size + 2) (.slice ha1 (X k).n hc1) (X k) := ownsRow_mono T1s (by omega)
    have hup := upWi_same X k
    have HO : Hid (OutW wr (w.heap.size + 2) (.slice va k vc) k X V) := hO
    have hbO := hO.own
    go_wp2_with (at_builtin; rw [← hw2s]; refine wpList_pushW w2.heap.size szs2 rfl _ _ rfl (w.heap.size + 2) (.slice va k vc) (.slice ha0 (X k).tn hc0) (.slice ha1 (X k).n hc1) k X V (X k) rfl O3 hx0 hx1 hd0 hd1 rfl (by omega) (by omega) ?_; intro v' w3 hO3 hg3)
    rw [hup] at hO3
    have bw3 : Below (w.heap.size + 2) W0 w3 := by
      refine Below.trans hbk (Below.trans (bS3.mono (by omega)) ((below_new _ _).mono (by omega) |>.grown hg3 (by simp; omega) (fun q hq => ?_)))
      exact (hbO.lt q hq).1
    go_roundw
    case rel => exact ⟨k + 1, _, by omega, by go_num, hO3, bw3⟩
    case measure => simp [intOf]; omega
end Go.Proofs.Ytpggmgmdcccmeaa
namespace Go.Proofs.Ytpggmgmdcccmeaa
open Go.RowKit
set_option linter.unusedSimpArgs false
set_option linter.unusedVariables false

theorem step_append_run {P : Program} {w : World} {ops : Array Oper} {o : Oper} {a : Act} {K : Act → World → Prop} {Q : Exit → Act → World → Prop} {E : Prop} (hgd : o.guard = none) (s x : Operand) (t : TypeId)
    (ho : o.op = .call { callee := .builtin .append, args := #[s, x], argTypes := #[t, t] }) (u v r : Value) (hs : a.eval s = u) (hx : a.eval x = v) (w' : World) (hrun : ∀ ty, (Builtin.append_ #[t, t] ty #[u, v]).run P w = .ok r w') (h : K (a.put o.dst r) w') :
    if Region.wanted o (yielded ops a.tmps) = true then Oper.wp P o a w K Q else E := by
  have hw : Region.wanted o (yielded ops a.tmps) = true := by simp [Region.wanted, hgd]
  rw [if_pos hw]
  unfold Oper.wp execOp
  simp only [ho, resolve, invoke, builtin, Sem.run_bind, Sem.run_pure, Result.andThen_ok, List.map_toArray, List.map_cons, List.map_nil, hs, hx, hrun]
  exact h


/-- Windows at work: in block p, the set of the dirty ones in block r, the windows themselves from base on. -/
structure WSt (w : World) (base p r : Nat) (z h mk : Int) (v : Value) (n : Nat) (Y : Nat → Wn) (V : Nat → Value) (S : ByteArray → Prop) : Prop where
  box : BdAt w p z h mk v
  c4 : w.cell? ⟨p, 4, none⟩ = some (.map (some r))
  fz : ∀ j, w.frozen? ⟨p, j, none⟩ = false
  set : KSet w r S
  out : OutW w base v n Y V
  pr : p ≠ r
  pb : p < base
  rb : r < base
section
variable {w w' : World} {base p r n : Nat} {z h mk : Int} {v v' : Value} {Y : Nat → Wn} {V V' : Nat → Value} {S S' : ByteArray → Prop}
theorem WSt.keep (H : WSt w base p r z h mk v n Y V S) (hb : Below w.heap.size w w') : WSt w' base p r z h mk v n Y V S :=
  ⟨H.box.keep hb, (hb.cell (p := ⟨p, 4, none⟩) H.box.lt).trans H.c4, fun j => (hb.frozen (p := ⟨p, j, none⟩) H.box.lt).trans (H.fz j), H.set.keep hb, H.out.keep hb, H.pr, H.pb, H.rb⟩
theorem OutW.thru {d : Nat} (H : OutW w base v n Y V) (ht : Thru d w w') (hd : d < base) : OutW w' base v n Y V := by
  have hg : w.grownBy w' (some d) := ⟨ht.os, ht.tape, ht.output, ht.size, fun i hi hne => ht.block i hi (fun e => hne (by rw [e]))⟩
  have ne : ∀ (u : Value) (e size m : Nat) (xs : List Value), w.ownsRow base e size u m xs → ∀ k, some d = some k → u.ownBlock ≠ some k := fun u e size m xs hu k hk hh => by injection hk with hk; subst hk; have := (hu.lt d hh).1; omega
  exact ⟨ownsRow_kept H.own hg (ne _ _ _ _ _ H.own), fun i hi => ownsRow_kept (H.r0 i hi) hg (ne _ _ _ _ _ (H.r0 i hi)), fun i hi => ownsRow_kept (H.r1 i hi) hg (ne _ _ _ _ _ (H.r1 i hi)), H.dis, H.apart⟩
theorem WSt.reset (H : WSt w base p r z h mk v n Y V S) (ht : Thru r w w') (hs : KSet w' r S') : WSt w' base p r z h mk v n Y V S' := by
  have hb := ht.block p H.box.lt H.pr
  have kc : ∀ j, w'.cell? ⟨p, j, none⟩ = w.cell? ⟨p, j, none⟩ := fun j => World.cell?_of_block (w := w) (a := ⟨p, j, none⟩) hb
  exact ⟨⟨Nat.lt_of_lt_of_le H.box.lt ht.size, (kc _).trans H.box.c0, (kc _).trans H.box.c1, (kc _).trans H.box.c2, (kc _).trans H.box.c3⟩, (kc _).trans H.c4, fun j => (World.frozen?_of_block (w := w) (a := ⟨p, j, none⟩) hb).trans (H.fz j), hs, H.out.thru ht H.rb, H.pr, H.pb, H.rb⟩
/-- The windows put otherwise, by new memory alone, and told in their box. -/
theorem WSt.put (H : WSt w base p r z h mk v n Y V S) {m : Nat} (hg : Below base w w') (ho : OutW w' base v' m Y V') : WSt (w'.setCell ⟨p, 3, none⟩ v') base p r z h mk v' m Y V' S := by
  have pb := H.pb
  have rb := H.rb
  have oth := Others.setCell w' p 3 v'
  have kc : ∀ j, w'.cell? ⟨p, j, none⟩ = w.cell? ⟨p, j, none⟩ := fun j => hg.cell (p := ⟨p, j, none⟩) pb
  have nc : ∀ j, j ≠ 3 → (w'.setCell ⟨p, 3, none⟩ v').cell? ⟨p, j, none⟩ = w.cell? ⟨p, j, none⟩ := fun j hj => (World.cell?_setCell_other _ _ _ _ (by intro hh; injection hh with _ h2 _; omega)).trans (kc j)
  refine ⟨⟨by rw [oth.size]; exact Nat.lt_of_lt_of_le H.box.lt hg.size, (nc 0 (by omega)).trans H.box.c0, (nc 1 (by omega)).trans H.box.c1, (nc 2 (by omega)).trans H.box.c2, World.cell?_setCell_same _ _ _ ((kc 3).trans H.box.c3)⟩, (nc 4 (by omega)).trans H.c4, fun j => by rw [World.frozen?_setCell]; exact (hg.frozen (p := ⟨p, j, none⟩) pb).trans (H.fz j), ?_, ho.others oth pb, H.pr, pb, rb⟩
  exact (H.set.same (hg.block r rb)).same (oth.block r (Ne.symm H.pr))
end

/-- A call of copyKey in a region that draws. -/
theorem step_copyKey {w : World} {ops : Array Oper} {o : Oper} {a : Act} {K : Act → World → Prop} {Q : Exit → Act → World → Prop} {E : Prop} (hgd : o.guard = none) (k : Nat)
    (ho : o.op = .call { callee := .value (.func 43), args := #[.tmp k], argTypes := #[32] }) (x : Wn) (ao : Option Addr) (c : Nat) (hx : a.eval (.tmp k) = .agg #[.string x.m, .slice ao x.tn c, .int .i64 x.st]) (hr : TRow w ao x.tn x.nm x.vl) (hn : x.tn ≤ 1048576)
    (h : ∀ (ha : Option Addr) (hc : Nat) (w' : World), w'.ownsRow w.heap.size 92 2 (.slice ha x.tn hc) x.tn (tcells x.nm x.vl x.tn) → Below w.heap.size w w' → K (a.put o.dst (.agg #[.string x.m, .slice ha x.tn hc, .int .i64 x.st])) w') :
    if Region.wanted o (yielded ops a.tmps) = true then Oper.wp Try.prog o a w K Q else E := by
  have hw : Region.wanted o (yielded ops a.tmps) = true := by simp [Region.wanted, hgd]
  rw [if_pos hw]
  have hx' : a.tmps.getD k undef = .agg #[.string x.m, .slice ao x.tn c, .int .i64 x.st] := hx
  unfold Oper.wp execOp
  simp only [ho, resolve, Act.eval, hx']
  go_simp
  refine (copyKey_any x.m x.st ao x.tn c x.nm x.vl w hr hn).mono ?_
  rintro e w' ⟨hv, rfl, h1, h2⟩
  obtain ⟨ha, hc, rfl⟩ := ownsRow_form h1
  exact h ha hc w' h1 h2
/-- A call of copyAgg in a region that draws. -/
theorem step_copyAgg {w : World} {ops : Array Oper} {o : Oper} {a : Act} {K : Act → World → Prop} {Q : Exit → Act → World → Prop} {E : Prop} (hgd : o.guard = none) (k : Nat)
    (ho : o.op = .call { callee := .value (.func 44), args := #[.tmp k], argTypes := #[35] }) (x : Wn) (ao : Option Addr) (c : Nat) (hx : a.eval (.tmp k) = .agg #[.int .i64 x.c, .int .i64 x.s, .int .i64 x.lo, .int .i64 x.hi, .slice ao x.n c, .bool x.fu]) (hr : IRow w ao x.n x.f) (hn : x.n ≤ 1048576)
    (h : ∀ (ha : Option Addr) (hc : Nat) (w' : World), w'.ownsRow w.heap.size 3 1 (.slice ha x.n hc) x.n (icells x.f x.n) → Below w.heap.size w w' → K (a.put o.dst (.agg #[.int .i64 x.c, .int .i64 x.s, .int .i64 x.lo, .int .i64 x.hi, .slice ha x.n hc, .bool x.fu])) w') :
    if Region.wanted o (yielded ops a.tmps) = true then Oper.wp Try.prog o a w K Q else E := by
  have hw : Region.wanted o (yielded ops a.tmps) = true := by simp [Region.wanted, hgd]
  rw [if_pos hw]
  have hx' : a.tmps.getD k undef = .agg #[.int .i64 x.c, .int .i64 x.s, .int .i64 x.lo, .int .i64 x.hi, .slice ao x.n c, .bool x.fu] := hx
  unfold Oper.wp execOp
  simp only [ho, resolve, Act.eval, hx']
  go_simp
  refine (copyAgg_any x.c x.s x.lo x.hi ao x.n c x.f x.fu w hr hn).mono ?_
  rintro e w' ⟨hv, rfl, h1, h2⟩
  obtain ⟨ha, hc, rfl⟩ := ownsRow_form h1
  exact h ha hc w' h1 h2
end Go.Proofs.Ytpggmgmdcccmeaa
