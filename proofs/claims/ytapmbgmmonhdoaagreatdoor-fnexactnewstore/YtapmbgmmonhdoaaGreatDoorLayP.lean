/- Ints that the call itself gathers by append. / slices.Sort and slices.Compact over ints found again at this program (numbers of the seat YtapmbgmmonhdoaaGreatDoor). -/
import Derived.Test.YtapmbgmmonhdoaaGreatDoorAg
import Derived.Shelf.Sort.Plain
import Derived.Shelf.Slices.CompactI
import Derived.Shelf.SlicesQ.IndexFunc
import Derived.Shelf.Slices.In.SortNone
import Derived.Test.YtapmbgmmonhdoaaGreatDoorProg
namespace Go.Proofs.YtapmbgmmonhdoaaGreatDoor
set_option maxRecDepth 100000
open Go.RowKit
set_option linter.unusedSimpArgs false
set_option linter.unusedVariables false


/-- Ints as cells. -/
def vi (L : List Int) : List Value := L.map fun x => Value.int .i64 x
/-- Ints, each an int. -/
def Ib (L : List Int) : Prop := ∀ x ∈ L, -9223372036854775808 ≤ x ∧ x ≤ 9223372036854775807
def fi (L : List Int) (i : Nat) : Int := L.getD i 0
theorem vi_get {L : List Int} {i : Nat} (h : i < L.length) : (vi L)[i]? = some (.int .i64 (fi L i)) := by
  simp [vi, fi, List.getElem?_eq_getElem h]
theorem Ib.fi {L : List Int} (h : Ib L) (i : Nat) : -9223372036854775808 ≤ fi L i ∧ fi L i ≤ 9223372036854775807 := by
  unfold Go.Proofs.YtapmbgmmonhdoaaGreatDoor.fi
  by_cases hi : i < L.length
  · have := h (L[i]) (List.getElem_mem hi)
    simpa [hi] using this
  · simp [hi]
theorem Ib.push {L : List Int} (h : Ib L) {x : Int} (hx : -9223372036854775808 ≤ x ∧ x ≤ 9223372036854775807) : Ib (L ++ [x]) := fun y hy => by
  rcases List.mem_append.1 hy with hy | hy
  · exact h y hy
  · rw [List.mem_singleton.1 hy]; exact hx
theorem ib_nil : Ib [] := fun x hx => by cases hx

/-- v is a slice of the call's own (all of it lies in a block from base on) that holds L. -/
structure OwnI (w : World) (base : Nat) (v : Value) (L : List Int) : Prop where
  bd : Ib L
  own : w.ownsRow base 3 1 v L.length (vi L)
theorem ownI_nil (w : World) (base : Nat) : OwnI w base (.slice none 0 0) [] := ⟨ib_nil, World.ownsRow_nil _ _ _ _⟩
section
variable {w w' : World} {base : Nat} {v : Value} {L : List Int}
theorem OwnI.form (h : OwnI w base v L) : ∃ ao cap, v = .slice ao L.length cap ∧ L.length ≤ cap ∧ IRow w ao L.length (fi L) := by
  have ho := h.own
  rcases ho.2 with ⟨rfl, h0⟩ | ⟨g, cap, cur, rfl, hbg, hg, hnc, _⟩
  · exact ⟨none, 0, by rw [h0], by omega, h.bd.fi, .inl h0⟩
  · refine ⟨some ⟨g, 0, none⟩, cap, rfl, hnc, h.bd.fi, .inr ⟨g, 0, rfl, (Array.getElem?_eq_some_iff.1 hg).1, fun i hi => ?_⟩⟩
    rw [Nat.zero_add, ho.cellAt i (by omega), vi_get hi]
theorem OwnI.own' (h : OwnI w base v L) (hn : 0 < L.length) : ∃ g cap, v = .slice (some ⟨g, 0, none⟩) L.length cap ∧ base ≤ g ∧ L.length ≤ cap ∧ IOwn w g 0 L.length (fi L) := by
  have ho := h.own
  rcases ho.2 with ⟨_, h0⟩ | ⟨g, cap, cur, rfl, hbg, hg, hnc, _⟩
  · omega
  · refine ⟨g, cap, rfl, hbg, hnc, h.bd.fi, (Array.getElem?_eq_some_iff.1 hg).1, fun i hi => ?_, fun i _ => by simpa using ho.frozenAt i⟩
    rw [Nat.zero_add, ho.cellAt i (by omega), vi_get hi]
theorem OwnI.nil_of (h : OwnI w base v L) (h0 : v = .slice none 0 0) : L = [] := by
  rcases h.own.2 with ⟨_, h1⟩ | ⟨g, cap, cur, e, _⟩
  · exact List.eq_nil_of_length_eq_zero h1
  · rw [h0] at e; simp at e
theorem OwnI.keep (h : OwnI w base v L) (hb : Below w.heap.size w w') : OwnI w' base v L := by
  refine ⟨h.bd, h.own.1, ?_⟩
  rcases h.own.2 with ⟨rfl, h0⟩ | ⟨g, cap, cur, rfl, h1, h2, h3⟩
  · exact .inl ⟨rfl, h0⟩
  · exact .inr ⟨g, cap, cur, rfl, h1, (hb.block g (Array.getElem?_eq_some_iff.1 h2).1).trans h2, h3⟩
theorem OwnI.below {B : Nat} {wr : World} (ho : OwnI wr base v L) (hb : Below B w wr) (hg : wr.grownBy w' v.ownBlock) (hB : B ≤ base) (hs : B ≤ wr.heap.size) : Below B w w' := by
  refine hb.grown hg hs fun k hk => ?_
  have := (ho.own.lt k hk).1
  omega
end
theorem cell_one_at (w : World) (y : Int) (T : Nat) : ∀ j u, [Value.int .i64 y][j]? = some u → (w.alloc (.cells #[.int .i64 y] T)).cell? ((⟨w.heap.size, 0, none⟩ : Addr).add j) = some u := by
  intro j u hj
  match j with
  | 0 => simp at hj; subst hj; simp [go_sem, Addr.add]
  | j + 1 => simp at hj

/-- One int put behind. -/
theorem wpList_pushI {w : World} {ops : Array Oper} {rest : List Oper} {o : Oper} {a : Act} {Q : Exit → Act → World → Prop} (hgd : o.guard = none) (s y : Operand)
    (ho : o.op = .call { callee := .builtin .append, args := #[s, y], argTypes := #[58, 58] })
    (base : Nat) (v : Value) (L : List Int) (x : Int) (hs : a.eval s = v) (h : OwnI w base v L) (hx : -9223372036854775808 ≤ x ∧ x ≤ 9223372036854775807)
    (hy : a.eval y = .slice (some ⟨w.heap.size, 0, none⟩) 1 1) (hn : L.length ≤ 1048576) (hbase : base ≤ w.heap.size)
    (hk : ∀ v' w', OwnI w' base v' (L ++ [x]) → (w.alloc (.cells #[.int .i64 x] 3)).grownBy w' v.ownBlock → wpList Tryz.prog ops Q rest (a.put o.dst v') w') :
    wpList Tryz.prog ops Q (o :: rest) a (w.alloc (.cells #[.int .i64 x] 3)) := by
  obtain ⟨i0, hi, hz0, hz1, hz2⟩ := info_parts Tryz.infoInt
  refine wpList_append_own (w := w.alloc (.cells #[.int .i64 x] 3)) hgd s y 58 ho base 3 i0 (.int .i64 0) 1 8 Tryz.underlying58 hi hz0 hz1 hz2 rfl (by decide) v L.length (vi L) hs (h.keep (below_new w _)).own ⟨w.heap.size, 0, none⟩ 1 1 [.int .i64 x] hy rfl (cell_one_at _ _ _) (fun u hu => by rw [List.mem_singleton.1 hu]; rfl) (by unfold maxLen; omega) (by omega) (by simp; omega) ?_
  intro v' w' h1 h2 _
  refine hk v' w' ⟨h.bd.push hx, ?_⟩ h2
  have e : (L ++ [x]).length = L.length + 1 := by simp
  rw [e]
  simpa [vi] using h1
end Go.Proofs.YtapmbgmmonhdoaaGreatDoor
namespace Go.Proofs.YtapmbgmmonhdoaaGreatDoor
set_option maxRecDepth 100000
open Go.Shelf
def sortInts_ren : Go.Shelf.Ren := ⟨fun | 189 => 186 | 125 => 93 | 257 => 222 | 128 => 145 | 129 => 116 | 294 => 239 | 295 => 240 | 296 => 241 | 297 => 242 | 298 => 243 | 299 => 244 | 216 => 245 | 300 => 246 | 301 => 247 | 328 => 255 | 329 => 175 | 330 => 176 | 331 => 256 | 332 => 257 | 215 => 147 | 343 => 260 | n => n, fun | 28 => 58 | 3 => 3 | 46 => 152 | 0 => 0 | 51 => 179 | 53 => 122 | 4 => 4 | 183 => 200 | 182 => 199 | 131 => 204 | 5 => 5 | 9 => 9 | 218 => 251 | 222 => 255 | 228 => 283 | 229 => 284 | n => n, fun | n => n⟩
theorem sortInts : Go.Proofs.Lays.n189 Tryz.prog sortInts_ren := {
  mixed := by kernel_rfl
  f125 := Tryz.func93.trans (congrArg some (by kernel_rfl))
  f128 := Tryz.func145.trans (congrArg some (by kernel_rfl))
  f129 := Tryz.func116.trans (congrArg some (by kernel_rfl))
  f189 := Tryz.func186.trans (congrArg some (by kernel_rfl))
  f215 := Tryz.func147.trans (congrArg some (by kernel_rfl))
  f216 := Tryz.func245.trans (congrArg some (by kernel_rfl))
  f257 := Tryz.func222.trans (congrArg some (by kernel_rfl))
  f294 := Tryz.func239.trans (congrArg some (by kernel_rfl))
  f295 := Tryz.func240.trans (congrArg some (by kernel_rfl))
  f296 := Tryz.func241.trans (congrArg some (by kernel_rfl))
  f297 := Tryz.func242.trans (congrArg some (by kernel_rfl))
  f298 := Tryz.func243.trans (congrArg some (by kernel_rfl))
  f299 := Tryz.func244.trans (congrArg some (by kernel_rfl))
  f300 := Tryz.func246.trans (congrArg some (by kernel_rfl))
  f301 := Tryz.func247.trans (congrArg some (by kernel_rfl))
  f328 := Tryz.func255.trans (congrArg some (by kernel_rfl))
  f329 := Tryz.func175.trans (congrArg some (by kernel_rfl))
  f330 := Tryz.func176.trans (congrArg some (by kernel_rfl))
  f331 := Tryz.func256.trans (congrArg some (by kernel_rfl))
  f332 := Tryz.func257.trans (congrArg some (by kernel_rfl))
  f343 := Tryz.func260.trans (congrArg some (by kernel_rfl))
  t0 := Tryz.underlying0
  a0 := Tryz.isAgg0
  z0 := Tryz.sizeOf0
  v0 := Tryz.zeroValue0
  t3 := Tryz.underlying3
  a3 := Tryz.isAgg3
  z3 := Tryz.sizeOf3
  v3 := Tryz.zeroValue3
  t4 := Tryz.underlying4
  a4 := Tryz.isAgg4
  z4 := Tryz.sizeOf4
  v4 := Tryz.zeroValue4
  t5 := Tryz.underlying5
  a5 := Tryz.isAgg5
  z5 := Tryz.sizeOf5
  v5 := Tryz.zeroValue5
  t9 := Tryz.underlying9
  a9 := Tryz.isAgg9
  z9 := Tryz.sizeOf9
  v9 := Tryz.zeroValue9
  t28 := Tryz.underlying58
  a28 := Tryz.isAgg58
  z28 := Tryz.sizeOf58
  v28 := Tryz.zeroValue58
  t46 := Tryz.underlying152
  a46 := Tryz.isAgg152
  z46 := Tryz.sizeOf152
  v46 := Tryz.zeroValue152
  t51 := Tryz.underlying179
  a51 := Tryz.isAgg179
  z51 := Tryz.sizeOf179
  v51 := Tryz.zeroValue179
  t53 := Tryz.underlying122
  a53 := Tryz.isAgg122
  z53 := Tryz.sizeOf122
  v53 := Tryz.zeroValue122
  t131 := Tryz.underlying204
  a131 := Tryz.isAgg204
  z131 := Tryz.sizeOf204
  v131 := Tryz.zeroValue204
  t182 := Tryz.underlying199
  a182 := Tryz.isAgg199
  z182 := Tryz.sizeOf199
  v182 := Tryz.zeroValue199
  t183 := Tryz.underlying200
  a183 := Tryz.isAgg200
  z183 := Tryz.sizeOf200
  v183 := Tryz.zeroValue200
  t218 := Tryz.underlying251
  a218 := Tryz.isAgg251
  z218 := Tryz.sizeOf251
  v218 := Tryz.zeroValue251
  t222 := Tryz.underlying255
  a222 := Tryz.isAgg255
  z222 := Tryz.sizeOf255
  v222 := Tryz.zeroValue255
  t228 := Tryz.underlying283
  a228 := Tryz.isAgg283
  z228 := Tryz.sizeOf283
  v228 := Tryz.zeroValue283
  t229 := Tryz.underlying284
  a229 := Tryz.isAgg284
  z229 := Tryz.sizeOf284
  v229 := Tryz.zeroValue284 }
def compInts_ren : Go.Shelf.Ren := ⟨fun | 20 => 155 | n => n, fun | 22 => 58 | 3 => 3 | 4 => 4 | 0 => 0 | n => n, fun | n => n⟩
theorem compInts : Go.Proofs.Lays2.n20 Tryz.prog compInts_ren := {
  mixed := by kernel_rfl
  f20 := Tryz.func155.trans (congrArg some (by kernel_rfl))
  t0 := Tryz.underlying0
  a0 := Tryz.isAgg0
  z0 := Tryz.sizeOf0
  v0 := Tryz.zeroValue0
  t3 := Tryz.underlying3
  a3 := Tryz.isAgg3
  z3 := Tryz.sizeOf3
  v3 := Tryz.zeroValue3
  t4 := Tryz.underlying4
  a4 := Tryz.isAgg4
  z4 := Tryz.sizeOf4
  v4 := Tryz.zeroValue4
  t22 := Tryz.underlying58
  a22 := Tryz.isAgg58
  z22 := Tryz.sizeOf58
  v22 := Tryz.zeroValue58
  i3 := by kernel_rfl }
end Go.Proofs.YtapmbgmmonhdoaaGreatDoor
