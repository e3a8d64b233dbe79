/- EditBytes in both texts, and its law. / Numbers of varying length: what ReadVar reads. -/
import Derived.Test.YtagkhohglpjjlaaEc
import Derived.Test.YtagkhohglpjjlaaEs
import Derived.Test.YtagkhohglpjjlaaBase
import Derived.OpenShut
namespace Go.Proofs.Ytagkhohglpjjlaa
open Go.RowKit
set_option linter.unusedSimpArgs false
set_option linter.unusedVariables false

/-- What EditBytes leaves. -/
def EbO (L : List Int) (c : Bool) (w : World) (e : Ending) (w' : World) : Prop :=
  ∃ ao k, e = .returned (.tuple #[.slice ao L.length k, .bool c]) ∧ BV w' w.heap.size w'.heap.size ao L ∧ Below w.heap.size w w'
theorem Rng.mid {lo hi : Nat} {w w' : World} (h : Rng lo hi w w') : Mid lo hi w w' := ⟨h.os, h.tape, h.output, h.size, h.block⟩
theorem EX.mid {B U : Nat} {w w' : World} {b : Nat} {nx lg sq : Int} {dv av : Value} (h : EX w b nx lg sq dv av) (hm : Mid B U w w') (hne : b < B ∨ U ≤ b) : EX w' b nx lg sq dv av := h.same hm.size (hm.block b h.lt hne)
section
variable (nx lg sq : Int) (da : Option Addr) (nd cd : Nat) (f : Nat → Int) (aa : Option Addr) (na ca : Nat) (Y : Nat → Adm)

set_option maxHeartbeats 800000 in
theorem editBytes_implNo (w : World) (hr : IRow w da nd f) (hy : DRow w aa na Y) (hd : nd ≤ 1048576) (ha : na ≤ 1048576) (hG : ¬ GoodEd nx lg sq nd f na Y) :
    Calls Try.prog 8 #[.agg #[.int .i64 nx, .int .i64 lg, .int .i64 sq, .slice da nd cd, .slice aa na ca]] w fun e w' => EbO [] false w e w' := by
  have bn0 := below_new w (.cells #[.int .i64 nx, .int .i64 lg, .int .i64 sq, .slice da nd cd, .slice aa na ca] 29)
  have hc := (goodEdit_any nx lg sq da nd cd f aa na ca Y _ (hr.keep bn0) (hy.keep bn0) hd ha).mono (R' := fun e w' => e = .returned (.bool false) ∧ Below (w.alloc (.cells #[.int .i64 nx, .int .i64 lg, .int .i64 sq, .slice da nd cd, .slice aa na ca] 29)).heap.size (w.alloc (.cells #[.int .i64 nx, .int .i64 lg, .int .i64 sq, .slice da nd cd, .slice aa na ca] 29)) w') (by
    rintro e w' ⟨b, rfl, h, hb⟩
    cases b
    · exact ⟨rfl, hb⟩
    · exact absurd (h.1 rfl) hG)
  clear hG
  go_enter Try.func8, Try.ntmps8
  go_wp2_with fail
  refine hc.mono ?_
  rintro e w1 ⟨rfl, hb1⟩
  have bw1 := bn0.trans (hb1.mono bn0.size)
  clear hc
  go_wp2
  exact bodyPost_ret (v := .tuple #[.slice none 0 0, .bool false]) (by simp [results, Try.results8, go_sem]) rfl ⟨none, 0, rfl, bv_nil _ _ _ (Nat.le_refl _), bw1⟩

set_option maxHeartbeats 800000 in
theorem editBytes_specNo (w : World) (hr : IRow w da nd f) (hy : DRow w aa na Y) (hd : nd ≤ 1048576) (ha : na ≤ 1048576) (hG : ¬ GoodEd nx lg sq nd f na Y) :
    Calls Try.prog 9 #[.agg #[.int .i64 nx, .int .i64 lg, .int .i64 sq, .slice da nd cd, .slice aa na ca]] w fun e w' => EbO [] false w e w' := by
  have bn0 := below_new w (.cells #[.int .i64 nx, .int .i64 lg, .int .i64 sq, .slice da nd cd, .slice aa na ca] 29)
  have hc := (l9Edit_any nx lg sq da nd cd f aa na ca Y _ (hr.keep bn0) (hy.keep bn0) hd ha).mono (R' := fun e w' => e = .returned (.bool false) ∧ Below (w.alloc (.cells #[.int .i64 nx, .int .i64 lg, .int .i64 sq, .slice da nd cd, .slice aa na ca] 29)).heap.size (w.alloc (.cells #[.int .i64 nx, .int .i64 lg, .int .i64 sq, .slice da nd cd, .slice aa na ca] 29)) w') (by
    rintro e w' ⟨b, rfl, h, hb⟩
    cases b
    · exact ⟨rfl, hb⟩
    · exact absurd (h.1 rfl) hG)
  clear hG
  go_enter Try.func9, Try.ntmps9
  go_wp2_with fail
  refine hc.mono ?_
  rintro e w1 ⟨rfl, hb1⟩
  have bw1 := bn0.trans (hb1.mono bn0.size)
  clear hc
  go_wp2
  exact bodyPost_ret (v := .tuple #[.slice none 0 0, .bool false]) (by simp [results, Try.results9, go_sem]) rfl ⟨none, 0, rfl, bv_nil _ _ _ (Nat.le_refl _), bw1⟩
end

set_option maxHeartbeats 800000 in
theorem editBytes_specYes (nx lg sq : Int) (da : Option Addr) (gd nd cd : Nat) (hda : NilOr da nd gd) (f : Nat → Int) (aa : Option Addr) (na ca : Nat) (Y : Nat → Adm) (w : World) (hr : IRow w da nd f) (hgd : nd ≠ 0 → da = some ⟨gd, 0, none⟩ → gd < w.heap.size) (hy : DRow w aa na Y) (hG : GoodEd nx lg sq nd f na Y) :
    Calls Try.prog 9 #[.agg #[.int .i64 nx, .int .i64 lg, .int .i64 sq, .slice da nd cd, .slice aa na ca]] w fun e w' => EbO (edB nx lg sq nd f na Y) true w e w' := by
  have bn0 := below_new w (.cells #[.int .i64 nx, .int .i64 lg, .int .i64 sq, .slice da nd cd, .slice aa na ca] 29)
  have A0 := EX.new w nx lg sq (.slice da nd cd) (.slice aa na ca) 29
  have h24 : nd ≤ 24 := hG.2.2.2.1.1
  have h25 : na ≤ 24 := hG.2.2.2.2.1
  have hc := (l9Edit_any nx lg sq da nd cd f aa na ca Y _ (hr.keep bn0) (hy.keep bn0) (by omega) (by omega)).mono (R' := fun e w' => e = .returned (.bool true) ∧ Below (w.alloc (.cells #[.int .i64 nx, .int .i64 lg, .int .i64 sq, .slice da nd cd, .slice aa na ca] 29)).heap.size (w.alloc (.cells #[.int .i64 nx, .int .i64 lg, .int .i64 sq, .slice da nd cd, .slice aa na ca] 29)) w') (by
    rintro e w' ⟨b, rfl, h, hb⟩
    exact ⟨by rw [h.2 hG], hb⟩)
  have hb := fun W (hW : Below w.heap.size w W) => l9Bytes_any nx lg sq da gd nd cd hda f aa na ca Y W (hr.keep hW) (fun h0 h => Nat.lt_of_lt_of_le (hgd h0 h) hW.size) (hy.keep hW) hG
  have HB : Hid (∀ W, Below w.heap.size w W → Calls Try.prog 26 #[.agg #[.int .i64 nx, .int .i64 lg, .int .i64 sq, .slice da nd cd, .slice aa na ca]] W fun e w' => ∃ a c, e = .returned (.slice a (edB nx lg sq nd f na Y).length c) ∧ OwnL w' W.heap.size (.slice a (edB nx lg sq nd f na Y).length c) (edB nx lg sq nd f na Y) ∧ Below W.heap.size W w') := hb
  clear hG hb h24 h25
  generalize edB nx lg sq nd f na Y = ED at HB ⊢
  go_enter Try.func9, Try.ntmps9
  go_wp2_with fail
  refine hc.mono ?_
  rintro e w1 ⟨rfl, hb1⟩
  have A1 := A0.keep hb1
  have bw1 := bn0.trans (hb1.mono bn0.size)
  clear hc hb1 A0 bn0
  obtain ⟨_, x0, x1, x2, x3, x4⟩ := id A1
  go_wp2_with fail
  refine (HB.out w1 bw1).mono ?_
  rintro e w2 ⟨a, c, rfl, o, hb2⟩
  have bw2 := bw1.trans (hb2.mono bw1.size)
  obtain ⟨a', c', e', hbv⟩ := bv_of (o.mono bw1.size)
  injection e' with e1 e2 e3
  subst e1 e3
  clear hb2 A1 x0 x1 x2 x3 x4 o e2
  go_wp2
  exact bodyPost_ret (v := .tuple #[.slice a ED.length c, .bool true]) (by simp [results, Try.results9, go_sem]) rfl ⟨a, c, rfl, hbv, bw2⟩
theorem editBytes_implYes (nx lg sq : Int) (da : Option Addr) (gd nd cd : Nat) (hda : NilOr da nd gd) (f : Nat → Int) (aa : Option Addr) (na ca : Nat) (Y : Nat → Adm) (w : World) (hr : IRow w da nd f) (hgd : nd ≠ 0 → da = some ⟨gd, 0, none⟩ → gd < w.heap.size) (hy : DRow w aa na Y) (hG : GoodEd nx lg sq nd f na Y) :
    Calls Try.prog 8 #[.agg #[.int .i64 nx, .int .i64 lg, .int .i64 sq, .slice da nd cd, .slice aa na ca]] w fun e w' => EbO (edB nx lg sq nd f na Y) true w e w' := by
  refine (editBytes_yes nx lg sq da gd nd cd hda f aa na ca Y w hr hgd hy hG).mono ?_
  rintro e w2 ⟨a, c, rfl, o, hb2⟩
  obtain ⟨a', c', e', hbv⟩ := bv_of o
  injection e' with e1 e2 e3
  subst e1 e3
  exact ⟨a, c, rfl, hbv, hb2⟩
theorem edB_len {nx lg sq : Int} {nd : Nat} {f : Nat → Int} {na : Nat} {Y : Nat → Adm} (hG : GoodEd nx lg sq nd f na Y) : (edB nx lg sq nd f na Y).length ≤ 100000 := by
  have l1 := nsL_len [nx, lg, sq, (nd : Int)]
  have l2 := nsL_len (iL f nd)
  have l3 := nsL_len [(na : Int)]
  have l4 := adsB_len Y na hG.2.2.2.2.2
  have h1 := hG.2.2.2.1.1
  have h2 := hG.2.2.2.2.1
  simp only [List.length_cons, List.length_nil, iL_len] at l1 l2 l3
  unfold edB
  simp only [List.length_append]
  omega
end Go.Proofs.Ytagkhohglpjjlaa
namespace Go.Proofs.Ytagkhohglpjjlaa
open Go.RowKit
set_option linter.unusedSimpArgs false
set_option linter.unusedVariables false

def rvStep (acc x : Int) (k : Nat) : Int := bits .or .u64 acc (IntKind.u64.wrap (IntKind.u64.wrap (bits .and .u8 x 127) * 2 ^ (7 * k)))
/-- What is read from round k on; (0, 0) where there is no number. -/
def rv (f : Nat → Int) (n q : Nat) : Nat → Nat → Int → Int × Int
  | 0, _, _ => (0, 0)
  | t + 1, k, acc =>
    if q + k < n then
      (if k = 9 ∧ 1 < f (q + k) then (0, 0)
       else if f (q + k) < 128 then (if 0 < k ∧ f (q + k) = 0 then (0, 0) else (rvStep acc (f (q + k)) k, (q : Int) + k + 1))
       else rv f n q t (k + 1) (rvStep acc (f (q + k)) k))
    else (0, 0)
def rvAll (f : Nat → Int) (n q : Nat) : Int × Int := rv f n q 10 0 0

theorem rv_end (f : Nat → Int) (n q : Nat) (k : Nat) (acc : Int) (h : ¬ k < 10) : rv f n q (10 - k) k acc = (0, 0) := by
  rw [show 10 - k = 0 from by omega]; rfl
theorem rv_out (f : Nat → Int) (n q : Nat) (k : Nat) (acc : Int) (h : k < 10) (h1 : ¬ q + k < n) : rv f n q (10 - k) k acc = (0, 0) := by
  rw [show 10 - k = (9 - k) + 1 from by omega]; simp [rv, h1]
theorem rv_high (f : Nat → Int) (n q : Nat) (k : Nat) (acc : Int) (h : k < 10) (h2 : k = 9 ∧ 1 < f (q + k)) : rv f n q (10 - k) k acc = (0, 0) := by
  rw [show 10 - k = (9 - k) + 1 from by omega]; unfold rv; split
  · simp [h2]
  · rfl
theorem rv_nought (f : Nat → Int) (n q : Nat) (k : Nat) (acc : Int) (h : k < 10) (h3 : 0 < k ∧ f (q + k) = 0) : rv f n q (10 - k) k acc = (0, 0) := by
  rw [show 10 - k = (9 - k) + 1 from by omega]; unfold rv; split
  · simp [h3]
  · rfl
theorem rv_last (f : Nat → Int) (n q : Nat) (k : Nat) (acc : Int) (h : k < 10) (h1 : q + k < n) (h2 : ¬ (k = 9 ∧ 1 < f (q + k))) (h3 : f (q + k) < 128) (h4 : ¬ (0 < k ∧ f (q + k) = 0)) :
    rv f n q (10 - k) k acc = (rvStep acc (f (q + k)) k, (q : Int) + k + 1) := by
  rw [show 10 - k = (9 - k) + 1 from by omega]; unfold rv; rw [if_pos h1, if_neg h2, if_pos h3, if_neg h4]
theorem rv_more (f : Nat → Int) (n q : Nat) (k : Nat) (acc : Int) (h : k < 10) (h1 : q + k < n) (h2 : ¬ (k = 9 ∧ 1 < f (q + k))) (h3 : ¬ f (q + k) < 128) :
    rv f n q (10 - k) k acc = rv f n q (10 - (k + 1)) (k + 1) (rvStep acc (f (q + k)) k) := by
  rw [show 10 - k = (10 - (k + 1)) + 1 from by omega]; conv => lhs; unfold rv
  rw [if_pos h1, if_neg h2, if_neg h3]

end Go.Proofs.Ytagkhohglpjjlaa
