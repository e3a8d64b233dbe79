/- What WinOf answers, in both texts. -/
import Derived.Test.YtflmbcgokiiedaaWg
import Derived.Test.YtflmbcgokiiedaaMk
namespace Go.Proofs.Ytflmbcgokiiedaa
open Go.RowKit
set_option linter.unusedSimpArgs false
set_option linter.unusedVariables false

theorem wo_out (z h mk : Int) (n : Nat) (X : Nat → Wn) (t : Wn) : ∃ (x : Wn) (ok : Bool), (x = wn0 ∨ ∃ q, q < n ∧ x = X q) ∧
    (∀ (ao b : Option Addr) (cap d : Nat) (w : World), WiRow w ao n X → n ≤ 1048576 → WiSize n X → TRow w b t.tn t.nm t.vl → t.m.size ≤ 1048576 → t.tn ≤ 1048576 → TSize t.tn t.nm t.vl 1048576 → Calls Try.prog 22 #[.agg #[.int .i64 z, .int .i64 h, .int .i64 mk, .slice ao n cap], .agg #[.string t.m, .slice b t.tn d, .int .i64 t.st]] w fun e w' => WAns x ok w e w') ∧
    (∀ (ao b : Option Addr) (cap d : Nat) (w : World), WiRow w ao n X → n ≤ 1048576 → WiSize n X → TRow w b t.tn t.nm t.vl → t.m.size ≤ 1048576 → t.tn ≤ 1048576 → TSize t.tn t.nm t.vl 1048576 → Calls Try.prog 24 #[.agg #[.int .i64 z, .int .i64 h, .int .i64 mk, .slice ao n cap], .agg #[.string t.m, .slice b t.tn d, .int .i64 t.st]] w fun e w' => WAns x ok w e w') := by
  by_cases hG : GBd z h mk n X
  · obtain ⟨q, hq⟩ := posK_ex X t n
    by_cases hk : WinOk n X t q
    · exact ⟨X q, true, .inr ⟨q, hk.2.1, rfl⟩, fun ao b cap d w hr hn hz rt h1 h2 h3 => (winOf_spec_good z h mk ao b n cap d q X t w hr hn hz hG rt h1 h2 h3 hq).mono (fun _ _ hh => hh.1 hk), fun ao b cap d w hr hn hz rt h1 h2 h3 => (winOf_impl_good z h mk ao b n cap d q X t w hr hn hz hG rt h1 h2 h3 hq).mono (fun _ _ hh => hh.1 hk)⟩
    · exact ⟨wn0, false, .inl rfl, fun ao b cap d w hr hn hz rt h1 h2 h3 => (winOf_spec_good z h mk ao b n cap d q X t w hr hn hz hG rt h1 h2 h3 hq).mono (fun _ _ hh => hh.2 hk), fun ao b cap d w hr hn hz rt h1 h2 h3 => (winOf_impl_good z h mk ao b n cap d q X t w hr hn hz hG rt h1 h2 h3 hq).mono (fun _ _ hh => hh.2 hk)⟩
  · exact ⟨wn0, false, .inl rfl, fun ao b cap d w hr hn hz rt h1 h2 h3 => winOf_spec_bad z h mk ao b n cap d X t w hr hn hz hG, fun ao b cap d w hr hn hz rt h1 h2 h3 => winOf_impl_bad z h mk ao b n cap d X t w hr hn hz hG⟩
/-- The rows of an answer. -/
theorem WA.rows {w : World} {base top : Nat} {x : Wn} {a0 a1 : Option Addr} (h : WA w base top x a0 a1) (hf : ∀ i, -9223372036854775808 ≤ x.f i ∧ x.f i ≤ 9223372036854775807) : TRow w a0 x.tn x.nm x.vl ∧ IRow w a1 x.n x.f := by
  refine ⟨?_, ?_⟩
  · by_cases hp : 0 < x.tn
    · obtain ⟨g, e, _, _, o, _⟩ := h.l0 hp
      rw [e]; exact TOwn.row o
    · exact ⟨.inl (by omega)⟩
  · by_cases hp : 0 < x.n
    · obtain ⟨g, e, _, _, o⟩ := h.l1 hp
      rw [e]; exact IOwn.row o
    · exact ⟨hf, .inl (by omega)⟩
theorem WA.rng {w w' : World} {base top lo hi : Nat} {x : Wn} {a0 a1 : Option Addr} (h : WA w base top x a0 a1) (hr : Rng lo hi w w') (hd : top ≤ lo ∨ hi ≤ base) : WA w' base top x a0 a1 :=
  h.same hr.size (fun c h1 h2 => hr.block c (by have := h.tp; omega) (by omega))
end Go.Proofs.Ytflmbcgokiiedaa
