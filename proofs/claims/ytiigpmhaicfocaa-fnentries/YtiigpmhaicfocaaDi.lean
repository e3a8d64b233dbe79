/- Keys and towers, drawn. -/
import Derived.Test.YtiigpmhaicfocaaDv
import Derived.Test.YtiigpmhaicfocaaOe
import Derived.Test.YtiigpmhaicfocaaDe
namespace Go.Proofs.Ytiigpmhaicfocaa
open Go.RowKit
set_option linter.unusedSimpArgs false
set_option linter.unusedVariables false

theorem ownI_run {w : World} {base : Nat} {v : Value} {L : List Int} (h : OwnI w base v L) (B c : Nat) (x : Int) (hx : -9223372036854775808 ≤ x ∧ x ≤ 9223372036854775807) (h0 : w.cell? ⟨B, 0, none⟩ = some (.int .i64 x)) (hn : L.length ≤ 4194304) (hb : base ≤ w.heap.size) (ty : TypeId) :
    ∃ ao' c' w', (Builtin.append_ #[24, 24] ty #[v, .slice (some ⟨B, 0, none⟩) 1 c]).run Try.prog w = .ok (.slice ao' (L.length + 1) c') w' ∧ OwnI w' base (.slice ao' (L.length + 1) c') (L ++ [x]) ∧ w.grownBy w' v.ownBlock ∧ ((Value.slice ao' (L.length + 1) c').ownBlock = v.ownBlock ∨ (Value.slice ao' (L.length + 1) c').ownBlock = some w.heap.size) := by
  obtain ⟨i0, hi, hz0, hz1, hz2⟩ := info_parts Try.infoInt
  obtain ⟨v', w', hrun, hown, hg, _, hat⟩ := run_append_own_at (P := Try.prog) w base 24 ty 3 i0 (.int .i64 0) 1 8 Try.underlying24 hi hz0 hz1 hz2 rfl (by decide) v L.length (vi L) h.own ⟨B, 0, none⟩ 1 c [.int .i64 x] rfl (fun j u hu => by
      rcases j with _ | j
      · simp at hu; subst hu; exact h0
      · simp at hu) (fun u hu => by simp at hu; subst hu; rfl) (by unfold maxLen; omega) (by omega) hb
  have e : OwnI w' base v' (L ++ [x]) := ⟨h.bd.push hx, by
    have e : (L ++ [x]).length = L.length + 1 := by simp
    rw [e]
    simpa [vi] using hown⟩
  obtain ⟨ao', c', rfl, _, _⟩ := e.form
  rw [List.length_append] at hrun e hat
  exact ⟨ao', c', w', hrun, e, hg, hat⟩

/-- Keys and towers at work. -/
structure TW (w2 wr : World) (CB : Nat) (ao : Option Addr) (n cap : Nat) (f : Nat → Int) (A : Nat) (kv tv : Value) (K : List ByteArray) (T : List Int) : Prop where
  C : CS w2 wr CB ao n cap f A
  k : StL wr w2.heap.size kv K
  t : OwnI wr w2.heap.size tv T
  ap : ∀ q, kv.ownBlock = some q → tv.ownBlock ≠ some q
section
variable {w2 wr w' : World} {CB : Nat} {ao : Option Addr} {n cap : Nat} {f : Nat → Int} {A A' : Nat} {kv tv : Value} {K : List ByteArray} {T : List Int}
theorem TW.draw (h : TW w2 wr CB ao n cap f A kv tv K T) (c : CS wr w' CB ao n cap f A') : TW w2 w' CB ao n cap f A' kv tv K T := by
  have hl := h.C.lt
  exact ⟨h.C.trans c, ownsRow_kept h.k c.gr (fun q e h2 => by injection e with e; have := (World.ownsRow.lt h.k q h2).1; omega), ⟨h.t.bd, ownsRow_kept h.t.own c.gr (fun q e h2 => by injection e with e; have := (h.t.own.lt q h2).1; omega)⟩, h.ap⟩
theorem TW.keep (h : TW w2 wr CB ao n cap f A kv tv K T) (hb : Below wr.heap.size wr w') : TW w2 w' CB ao n cap f A kv tv K T := ⟨h.C.keep hb, ownsRow_keep h.k hb, h.t.keep hb, h.ap⟩
theorem TW.mono (h : TW w2 wr CB ao n cap f A kv tv K T) (hA : A ≤ A') : TW w2 wr CB ao n cap f A' kv tv K T := ⟨h.C.mono hA, h.k, h.t, h.ap⟩
theorem TW.pushK (h : TW w2 wr CB ao n cap f A kv tv K T) (x : ByteArray) (hn : K.length ≤ 1000) (ty : TypeId) :
    ∃ ao' c' w', (Builtin.append_ #[36, 36] ty #[kv, .slice (some ⟨wr.heap.size, 0, none⟩) 1 1]).run Try.prog (wr.alloc (.cells #[.string x] 9)) = .ok (.slice ao' (K.length + 1) c') w' ∧ TW w2 w' CB ao n cap f A (.slice ao' (K.length + 1) c') tv (K ++ [x]) T := by
  have h1 := h.keep (below_new wr (.cells #[.string x] 9))
  obtain ⟨ao', c', w', hrun, hS, hg, hat⟩ := stL_push h1.k wr.heap.size 1 x (by simp [go_sem]) (by omega) h1.C.gr.size ty
  refine ⟨ao', c', w', hrun, h1.C.far hg (fun q e => (World.ownsRow.lt h1.k q e).1), hS, ⟨h1.t.bd, ownsRow_kept h1.t.own hg (fun q e h2 => h1.ap q e h2)⟩, fun q e h2 => ?_⟩
  rcases hat with hat | hat
  · rw [hat] at e; exact h1.ap q e h2
  · rw [hat] at e; injection e with e; have := (h1.t.own.lt q h2).2; omega
theorem TW.pushT (h : TW w2 wr CB ao n cap f A kv tv K T) (x : Int) (hx : -9223372036854775808 ≤ x ∧ x ≤ 9223372036854775807) (hn : T.length ≤ 1000) (ty : TypeId) :
    ∃ ao' c' w', (Builtin.append_ #[24, 24] ty #[tv, .slice (some ⟨wr.heap.size, 0, none⟩) 1 1]).run Try.prog (wr.alloc (.cells #[.int .i64 x] 3)) = .ok (.slice ao' (T.length + 1) c') w' ∧ TW w2 w' CB ao n cap f A kv (.slice ao' (T.length + 1) c') K (T ++ [x]) := by
  have h1 := h.keep (below_new wr (.cells #[.int .i64 x] 3))
  obtain ⟨ao', c', w', hrun, hS, hg, hat⟩ := ownI_run h1.t wr.heap.size 1 x hx (by simp [go_sem]) (by omega) h1.C.gr.size ty
  refine ⟨ao', c', w', hrun, h1.C.far hg (fun q e => (h1.t.own.lt q e).1), ownsRow_kept h1.k hg (fun q e h2 => h1.ap q h2 e), hS, fun q e h2 => ?_⟩
  rcases hat with hat | hat
  · rw [hat] at h2; exact h1.ap q e h2
  · rw [hat] at h2; injection h2 with h2; have := (World.ownsRow.lt h1.k q e).2; omega
end
/-- Keys, towers and a key, drawn. -/
def DtO (w : World) (e : Ending) (w' : World) : Prop :=
  ∃ (K : List ByteArray) (m : Nat) (t : Nat → Int) (ka ta : Option Addr) (kc tc : Nat) (s : ByteArray), e = .returned (.tuple #[.slice ka K.length kc, .slice ta m tc, .string s]) ∧ TRow w' ka K.length (fun i => K.getD i ⟨#[]⟩) ∧ IRow w' ta m t ∧ K.length ≤ 10 ∧ m ≤ 10 ∧ Below w.heap.size w w'
/-- The same, the towers only read. -/
structure TX (w2 wr : World) (CB : Nat) (ao : Option Addr) (n cap : Nat) (f : Nat → Int) (A : Nat) (kv : Value) (ta : Option Addr) (m : Nat) (t : Nat → Int) (K : List ByteArray) : Prop where
  C : CS w2 wr CB ao n cap f A
  k : StL wr w2.heap.size kv K
  H : HR wr w2.heap.size ta m t
section
variable {w w2 wr w' : World} {CB : Nat} {ao : Option Addr} {n cap : Nat} {f : Nat → Int} {A A' : Nat} {kv : Value} {K : List ByteArray} {T : List Int}
theorem TW.tx {ta : Option Addr} {m tc : Nat} (h : TW w2 wr CB ao n cap f A kv (.slice ta m tc) K T) : TX w2 wr CB ao n cap f A kv ta m (fi T) K := by
  obtain ⟨ao', c', e, _, hI⟩ := h.t.form
  injection e with e1 e2 _
  subst e1 e2
  exact ⟨h.C, h.k, hI, fun g off e h0 => (h.t.own.lt g (by rw [e]; rfl)).1⟩
theorem TX.draw {ta : Option Addr} {m : Nat} {t : Nat → Int} (h : TX w2 wr CB ao n cap f A kv ta m t K) (c : CS wr w' CB ao n cap f A') : TX w2 w' CB ao n cap f A' kv ta m t K := by
  have hl := h.C.lt
  exact ⟨h.C.trans c, ownsRow_kept h.k c.gr (fun q e h2 => by injection e with e; have := (World.ownsRow.lt h.k q h2).1; omega), h.H.grown c.gr (fun g off e h0 e2 => by have := h.H.at' g off e h0; injection e2 with e2; omega)⟩
theorem TX.fin {ka ta : Option Addr} {kl kc m tc : Nat} {t : Nat → Int} (h : TX w2 wr CB ao n cap f A (.slice ka kl kc) ta m t K) (s : ByteArray) (hb : Below w.heap.size w w2) (hc : w.heap.size ≤ CB) (hK : K.length ≤ 10) (hm : m ≤ 10) : DtO w (.returned (.tuple #[.slice ka kl kc, .slice ta m tc, .string s])) wr := by
  obtain ⟨e, hT⟩ := h.k.row
  subst e
  exact ⟨K, m, t, ka, ta, kc, tc, s, rfl, hT, h.H.row, hK, hm, hb.trans (h.C.below hc)⟩
end

set_option maxRecDepth 100000 in
set_option maxHeartbeats 8000000 in
theorem drawTowerPath_any (ao : Option Addr) (n cap : Nat) (f : Nat → Int) (w : World) (hr : Row w ao n f) (hn : n ≤ 1048576) :
    Calls Try.prog 10 #[.slice ao n cap] w fun e w' => DtO w e w' := by
  have hB := below_new w (.cells #[.slice ao n cap, .int .i64 0, .int .u64 0] 46)
  have C0 : CS (w.alloc (.cells #[.slice ao n cap, .int .i64 0, .int .u64 0] 46)) (w.alloc (.cells #[.slice ao n cap, .int .i64 0, .int .u64 0] 46)) w.heap.size ao n cap f 0 := ⟨⟨0, 0, Nat.le_refl _, cu_new w _ 46⟩, cb_new hr _, grown_refl _ _, by simp, hn⟩
  have sz0 : (w.alloc (.cells #[.slice ao n cap, .int .i64 0, .int .u64 0] 46)).heap.size = w.heap.size + 1 := by simp
  go_enter Try.func10, Try.ntmps10
  go_wp2
  generalize w.alloc (.cells #[.slice ao n cap, .int .i64 0, .int .u64 0] 46) = w1 at hB C0 sz0 ⊢
  have b1 := below_new w1 (.cells #[.string ⟨#[97]⟩, .string ⟨#[97, 98]⟩, .string ⟨#[98]⟩, .string ⟨#[98, 97]⟩, .string ⟨#[99]⟩, .string ⟨#[99, 112, 117]⟩, .string ⟨#[100]⟩, .string ⟨#[109]⟩, .string ⟨#[122]⟩] 9)
  have L1 : LsAt (w1.alloc (.cells #[.string ⟨#[97]⟩, .string ⟨#[97, 98]⟩, .string ⟨#[98]⟩, .string ⟨#[98, 97]⟩, .string ⟨#[99]⟩, .string ⟨#[99, 112, 117]⟩, .string ⟨#[100]⟩, .string ⟨#[109]⟩, .string ⟨#[122]⟩] 9)) w1.heap.size [(⟨#[97]⟩ : ByteArray), ⟨#[97, 98]⟩, ⟨#[98]⟩, ⟨#[98, 97]⟩, ⟨#[99]⟩, ⟨#[99, 112, 117]⟩, ⟨#[100]⟩, ⟨#[109]⟩, ⟨#[122]⟩] := LsAt.new w1 [(⟨#[97]⟩ : ByteArray), ⟨#[97, 98]⟩, ⟨#[98]⟩, ⟨#[98, 97]⟩, ⟨#[99]⟩, ⟨#[99, 112, 117]⟩, ⟨#[100]⟩, ⟨#[109]⟩, ⟨#[122]⟩] 9
  have C1 := (C0.keep b1).self
  have sz1 : (w1.alloc (.cells #[.string ⟨#[97]⟩, .string ⟨#[97, 98]⟩, .string ⟨#[98]⟩, .string ⟨#[98, 97]⟩, .string ⟨#[99]⟩, .string ⟨#[99, 112, 117]⟩, .string ⟨#[100]⟩, .string ⟨#[109]⟩, .string ⟨#[122]⟩] 9)).heap.size = w1.heap.size + 1 := by simp
  have hb1 : Below w.heap.size w (w1.alloc (.cells #[.string ⟨#[97]⟩, .string ⟨#[97, 98]⟩, .string ⟨#[98]⟩, .string ⟨#[98, 97]⟩, .string ⟨#[99]⟩, .string ⟨#[99, 112, 117]⟩, .string ⟨#[100]⟩, .string ⟨#[109]⟩, .string ⟨#[122]⟩] 9)) := hB.trans (b1.mono hB.size)
  generalize w1.alloc (.cells #[.string ⟨#[97]⟩, .string ⟨#[97, 98]⟩, .string ⟨#[98]⟩, .string ⟨#[98, 97]⟩, .string ⟨#[99]⟩, .string ⟨#[99, 112, 117]⟩, .string ⟨#[100]⟩, .string ⟨#[109]⟩, .string ⟨#[122]⟩] 9) = w2 at b1 L1 C1 sz1 hb1 ⊢
  have T0 : TW w2 w2 w.heap.size ao n cap f 0 (.slice none 0 0) (.slice none 0 0) [] [] := ⟨C1, stL_nil _ _, ownI_nil _ _, fun q e => by cases e⟩
  rw [sz0] at L1 sz1
  have HL : Hid (LsAt w2 (w.heap.size + 1) [(⟨#[97]⟩ : ByteArray), ⟨#[97, 98]⟩, ⟨#[98]⟩, ⟨#[98, 97]⟩, ⟨#[99]⟩, ⟨#[99, 112, 117]⟩, ⟨#[100]⟩, ⟨#[109]⟩, ⟨#[122]⟩]) := L1
  clear C0 C1 b1 L1 sz0
  go_loopw [6, 7, 16] (fun u6 u7 u16 wr => ∃ (i B : Nat) (K : List ByteArray) (T : List Int) (ka ta : Option Addr) (kc tc : Nat), u6 = .slice ka K.length kc ∧ u7 = .slice ta T.length tc ∧ u16 = .int .i64 i ∧ i ≤ 9 ∧ K.length ≤ i ∧ T.length ≤ i ∧ B ≤ 10 * i ∧ TW w2 wr w.heap.size ao n cap f B (.slice ka K.length kc) (.slice ta T.length tc) K T) (fun _ _ u16 _ => 9 - (intOf u16).toNat)
  case atStart => exact ⟨0, 0, [], [], none, none, 0, 0, rfl, rfl, rfl, by omega, by simp, by simp, by omega, T0⟩
  case round =>
    clear T0
    obtain ⟨i, B, K, T, ka, ta, kc, tc, rfl, rfl, rfl, hi9, hK, hT, hB10, G⟩ := hrel
    by_cases hlt : i < 9
    · have hcell : ∃ s, wr.cell? ⟨w.heap.size + 1, i, none⟩ = some (.string s) := by
        have := (HL.out.grown G.C.gr (by omega)).2 i (by show i < 9; exact hlt)
        exact ⟨_, this⟩
      obtain ⟨s, hs⟩ := hcell
      go_wp2_with fail
      refine (one_s 2 (by omega) G.C.self (by omega)).mono ?_
      rintro e w3 ⟨b3, rfl, K3⟩
      have G3 := G.draw K3
      clear G K3 hs
      cases b3
      · go_wp2
        go_roundw
        case rel => exact ⟨i + 1, B + 1, K, T, ka, ta, kc, tc, rfl, rfl, by go_num, by omega, by omega, by omega, by omega, G3⟩
        case measure => simp [intOf]; omega
      · obtain ⟨ka', kc', w4, hrun, G4⟩ := G3.pushK s (by omega) 36
        clear G3
        go_wp2_with (at_builtin; refine wpList_append_eq _ rfl (.tmp 22) (.tmp 24) 36 36 rfl rfl (.slice ka K.length kc) (.slice (some ⟨w3.heap.size, 0, none⟩) 1 1) (.slice ka' (K.length + 1) kc') rfl rfl w4 hrun ?_)
        clear hrun
        go_loopw [10] (fun u10 wr => ∃ (t B' : Nat), u10 = .int .i64 t ∧ 1 ≤ t ∧ t ≤ 6 ∧ B' + 1 ≤ B + 1 + t ∧ CS w4 wr w.heap.size ao n cap f B') (fun u10 _ => 6 - (intOf u10).toNat)
        case atStart => exact ⟨1, B + 1, rfl, by omega, by omega, by omega, G4.C.self⟩
        case round =>
          obtain ⟨t, B', rfl, ht1, ht6, hB', C5⟩ := hrel
          by_cases ht : t < 6
          · have hd : decide ((t : Int) < 6) = true := decide_eq_true (by omega)
            go_wp2_with fail
            refine (one_s 2 (by omega) C5.self (by omega)).mono ?_
            rintro e w6 ⟨b6, rfl, K6⟩
            have C6 := C5.trans K6
            clear C5 K6
            cases b6
            · have G6 := G4.draw C6
              clear C6 G4
              obtain ⟨ta', tc', w7, hrun, G7⟩ := G6.pushT (t : Int) (by omega) (by omega) 24
              clear G6
              go_wp2_with (at_builtin; refine wpList_append_eq _ rfl (.tmp 34) (.tmp 36) 24 24 rfl rfl (.slice ta T.length tc) (.slice (some ⟨w6.heap.size, 0, none⟩) 1 1) (.slice ta' (T.length + 1) tc') rfl rfl w7 hrun ?_)
              go_roundw
              case rel => exact ⟨i + 1, B + 9, K ++ [s], T ++ [(t : Int)], ka', ta', kc', tc', by simp, by simp, by go_num, by omega, by simp; omega, by simp; omega, by omega, by simpa using G7.mono (by omega)⟩
              case measure => simp [intOf]; omega
            · go_wp2
              go_roundw
              case rel => exact ⟨t + 1, B' + 1, by go_num, by omega, by omega, by omega, C6⟩
              case measure => simp [intOf]; omega
          · have hd : decide ((t : Int) < 6) = false := decide_eq_false (by omega)
            have G6 := G4.draw C5
            clear C5 G4
            obtain ⟨ta', tc', w7, hrun, G7⟩ := G6.pushT (t : Int) (by omega) (by omega) 24
            clear G6
            go_wp2_with (at_builtin; refine wpList_append_eq _ rfl (.tmp 34) (.tmp 36) 24 24 rfl rfl (.slice ta T.length tc) (.slice (some ⟨wr.heap.size, 0, none⟩) 1 1) (.slice ta' (T.length + 1) tc') rfl rfl w7 hrun ?_)
            go_roundw
            case rel => exact ⟨i + 1, B + 9, K ++ [s], T ++ [(t : Int)], ka', ta', kc', tc', by simp, by simp, by go_num, by omega, by simp; omega, by simp; omega, by omega, by simpa using G7.mono (by omega)⟩
            case measure => simp [intOf]; omega
    · obtain rfl : i = 9 := by omega
      go_wp2_with fail
      refine (pick_s 30 (by omega) G.C.self (by omega)).mono ?_
      rintro e w3 ⟨x3, rfl, x30, x31, K3⟩
      have G3 := G.draw K3
      clear G K3
      by_cases c0 : x3 = 0
      · subst c0
        obtain ⟨ta', tc', w7, hrun, G7⟩ := G3.pushT 1 (by omega) (by omega) 24
        have X7 := G7.tx
        clear G3 G7
        go_wp2_with (at_builtin; refine wpList_append_eq _ rfl (.tmp 43) (.tmp 44) 24 24 rfl rfl (.slice ta T.length tc) (.slice (some ⟨w3.heap.size, 0, none⟩) 1 1) (.slice ta' (T.length + 1) tc') rfl rfl w7 hrun ?_)
        refine (keyText_s X7.C.self (by omega)).mono ?_
        rintro e w9 ⟨s9, _, rfl, K9⟩
        have G9 := X7.draw K9
        clear X7 K9
        go_wp2
        exact bodyPost_ret (v := .tuple #[.slice ka K.length kc, .slice ta' (T.length + 1) tc', .string s9]) (by simp [results, Try.results10, go_sem]) rfl (G9.fin s9 hb1 (Nat.le_refl _) (by first | omega | (simp; omega)) (by first | omega | (simp; omega)))
      have e0 : (x3 == 0) = false := by simp [c0]
      by_cases c1 : x3 = 1
      · subst c1
        by_cases hT0 : T.length = 0
        · have X7 := G3.tx
          clear G3
          generalize T.length = tl at *
          subst hT0
          go_wp2_with fail
          refine (keyText_s X7.C.self (by omega)).mono ?_
          rintro e w9 ⟨s9, _, rfl, K9⟩
          have G9 := X7.draw K9
          clear X7 K9
          go_wp2
          exact bodyPost_ret (v := .tuple #[.slice ka K.length kc, .slice ta 0 tc, .string s9]) (by simp [results, Try.results10, go_sem]) rfl (G9.fin s9 hb1 (Nat.le_refl _) (by first | omega | (simp; omega)) (by first | omega | (simp; omega)))
        · have hd : decide ((0 : Int) < (T.length : Int)) = true := decide_eq_true (by omega)
          have b8 := below_new w3 (.cells #[.int .i64 0, .int .i64 7] 3)
          have L8 : LiAt (w3.alloc (.cells #[.int .i64 0, .int .i64 7] 3)) w3.heap.size [0, 7] := LiAt.new w3 [0, 7] 3
          have G8 := G3.keep b8
          have hlc := G3.C.ltw
          clear G3 b8
          go_wp2_with fail
          refine (among_s [0, 7] (by decide) w3.heap.size L8 (by omega) G8.C.self (by omega)).mono ?_
          rintro e w4 ⟨v4, hv4, rfl, K4⟩
          have G4 := G8.draw K4
          have hvb : -9223372036854775808 ≤ v4 ∧ v4 ≤ 9223372036854775807 := by
            simp only [List.mem_cons, List.not_mem_nil, or_false] at hv4
            rcases hv4 with rfl | rfl <;> omega
          obtain ⟨g, gc, hge, hgb, hgl, hio⟩ := G4.t.own' (by omega)
          injection hge with e1 _ e3
          subst e1 e3
          have X4 : TX w2 (w4.setCell ⟨g, 0, none⟩ (.int .i64 v4)) w.heap.size ao n cap f (B + 1 + 1) (.slice ka K.length kc) (some ⟨g, 0, none⟩) T.length (fun i => if i = 0 then v4 else fi T i) K :=
            ⟨G4.C.others (Others.setCell _ _ _ _) hgb, ownsRow_kept G4.k (grown_set w4 g 0 _) (fun q e h2 => by injection e with e; subst e; exact G4.ap g h2 rfl), (iown_set hio 0 (by omega) v4 hvb).row, fun g' off e _ => by injection e with e; injection e with e1 _ _; omega⟩
          have z0 := hio.cell 0 (by omega)
          have z1 := hio.free 0 (by omega)
          simp only [Nat.zero_add] at z0 z1
          have hTi : (0 : Int) < (T.length : Int) := by omega
          clear G8 K4 G4 hio L8 hv4
          go_wp2_with fail
          refine (keyText_s X4.C.self (by omega)).mono ?_
          rintro e w9 ⟨s9, _, rfl, K9⟩
          have G9 := X4.draw K9
          clear X4 K9
          go_wp2
          exact bodyPost_ret (v := .tuple #[.slice ka K.length kc, .slice (some ⟨g, 0, none⟩) T.length tc, .string s9]) (by simp [results, Try.results10, go_sem]) rfl (G9.fin s9 hb1 (Nat.le_refl _) (by first | omega | (simp; omega)) (by first | omega | (simp; omega)))
      have e1 : (x3 == 1) = false := by simp [c1]
      by_cases c2 : x3 = 2
      · subst c2
        obtain ⟨ka', kc', w7, hrun, G7⟩ := G3.pushK ⟨#[97]⟩ (by omega) 36
        obtain ⟨ta', tc', w8, hrun2, G8⟩ := G7.pushT 1 (by omega) (by omega) 24
        have X8 := G8.tx
        have t1 : True := trivial
        clear G3 G7 G8
        go_wp2_with (first | (at_builtin; clear t1; refine wpList_append_eq _ rfl (.tmp 58) (.tmp 59) 36 36 rfl rfl (.slice ka K.length kc) (.slice (some ⟨w3.heap.size, 0, none⟩) 1 1) (.slice ka' (K.length + 1) kc') rfl rfl w7 hrun ?_) | (at_builtin; refine wpList_append_eq _ rfl (.tmp 61) (.tmp 62) 24 24 rfl rfl (.slice ta T.length tc) (.slice (some ⟨w7.heap.size, 0, none⟩) 1 1) (.slice ta' (T.length + 1) tc') rfl rfl w8 hrun2 ?_))
        refine (keyText_s X8.C.self (by omega)).mono ?_
        rintro e w9 ⟨s9, _, rfl, K9⟩
        have G9 := X8.draw K9
        clear X8 K9
        go_wp2
        exact bodyPost_ret (v := .tuple #[.slice ka' (K.length + 1) kc', .slice ta' (T.length + 1) tc', .string s9]) (by simp [results, Try.results10, go_sem]) rfl (G9.fin s9 hb1 (Nat.le_refl _) (by first | omega | (simp; omega)) (by first | omega | (simp; omega)))
      have e2 : (x3 == 2) = false := by simp [c2]
      have X7 := G3.tx
      clear G3
      go_wp2_with fail
      refine (keyText_s X7.C.self (by omega)).mono ?_
      rintro e w9 ⟨s9, _, rfl, K9⟩
      have G9 := X7.draw K9
      clear X7 K9
      go_wp2
      exact bodyPost_ret (v := .tuple #[.slice ka K.length kc, .slice ta T.length tc, .string s9]) (by simp [results, Try.results10, go_sem]) rfl (G9.fin s9 hb1 (Nat.le_refl _) (by first | omega | (simp; omega)) (by first | omega | (simp; omega)))
end Go.Proofs.Ytiigpmhaicfocaa
