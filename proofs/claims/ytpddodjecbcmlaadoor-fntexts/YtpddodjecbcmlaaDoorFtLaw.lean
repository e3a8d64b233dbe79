/- The law of the texts, walked. -/
import Derived.Test.YtpddodjecbcmlaaDoorDg
import Derived.Test.YtpddodjecbcmlaaDoorBk
import Derived.Test.YtpddodjecbcmlaaDoorRi
namespace Go.Proofs.YtpddodjecbcmlaaDoor
open Go.RowKit
set_option linter.unusedSimpArgs false
set_option linter.unusedVariables false

set_option maxHeartbeats 2000000 in
set_option maxRecDepth 100000 in
theorem fnTexts_law (ao : Option Addr) (n cap : Nat) (f : Nat → Int) (w : World) (hr : Row w ao n f) (hmx : n ≤ maxLen) (ht : TabP w) :
    Calls Tryd.prog 3 #[.slice ao n cap] w fun e w' => e = .returned (.bool true) ∧ Below w.heap.size w w' := by
  unfold maxLen at hmx
  by_cases hn : n ≤ 1048576
  · have hng : ¬ (1048576 : Int) < (n : Int) := by omega
    go_enter Tryd.func3, Tryd.ntmps3
    go_wp2_with fail
    refine (drawKeyText_any ao n cap f _ hr hn).mono ?_
    rintro e w1 ⟨m, va, vc, T, st, rfl, TG, hm, hT, hTz, hst, b1⟩
    have hTs : TSize T.length (nmL T) (vlL T) 1048576 := tsz_T hTz (by omega)
    have bn := (Below.refl w1.heap.size w1).alloc (Nat.le_refl _) (.cells #[.string m, .slice va T.length vc, .int .i64 st] 25)
    have K1 := KAt.new w1 m (.slice va T.length vc) st 25
    have T1 := (TgL.row (ownsRow_keep TG bn)).2
    have b2 : Below w.heap.size w (w1.alloc (.cells #[.string m, .slice va T.length vc, .int .i64 st] 25)) := b1.trans (bn.mono b1.size)
    clear TG bn b1 hTz
    obtain ⟨G, hG⟩ : ∃ G, goodB m T.length (nmL T) (vlL T) st = G := ⟨_, rfl⟩
    have HG : Hid (goodB m T.length (nmL T) (vlL T) st = G) := hG
    clear hG
    obtain ⟨X, hX⟩ : ∃ X, (if G = true then kxT m T.length (nmL T) (vlL T) st else ⟨#[]⟩) = X := ⟨_, rfl⟩
    have HX : Hid ((if G = true then kxT m T.length (nmL T) (vlL T) st else ⟨#[]⟩) = X) := hX
    clear hX
    obtain ⟨_, k0, k1, k2⟩ := id K1
    go_wp2_with fail
    refine (keyText_impl m st va T.length vc (nmL T) (vlL T) _ T1 (by omega) (by omega) hTs (ht.keep b2)).mono ?_
    rintro e w3 ⟨rfl, q3⟩
    rw [HG.out, HX.out]
    have b3 : Below w.heap.size w w3 := b2.trans (q3.mono b2.size)
    have K3 := K1.keep q3
    have T3 := T1.keep q3
    clear K1 T1 q3 b2 k0 k1 k2
    obtain ⟨_, k0, k1, k2⟩ := id K3
    go_wp2_with fail
    refine (keyText_spec m st va T.length vc (nmL T) (vlL T) _ T3 (by omega) (by omega) hTs).mono ?_
    rintro e w4 ⟨rfl, q4⟩
    rw [HG.out, HX.out]
    have b4 : Below w.heap.size w w4 := b3.trans (q4.mono b3.size)
    clear K3 T3 q4 b3 k0 k1 k2
    cases G
    · have e0 : X = ⟨#[]⟩ := by rw [← HX.out]; rfl
      subst e0
      go_wp2
      go_ret
      exact ⟨rfl, b4⟩
    · have eX : kxT m T.length (nmL T) (vlL T) st = X := by rw [← HX.out]; simp
      obtain ⟨hKP, hback⟩ := key_back HG.out
      rw [eX] at hKP hback
      have hsz := hKP.size
      have HK : Hid (KP X) := hKP
      have HB : Hid (kxT (km X) (kt X).length (nmL (kt X)) (vlL (kt X)) (numI (h1 X)) = X) := hback
      clear hKP hback eX
      go_wp2_with fail
      refine (readKeyText_impl X _ (by omega)).mono ?_
      rintro e w5 ⟨q5, ⟨hno, _⟩ | ⟨_, ua, uc, rfl, TG5⟩⟩
      · exact absurd HK.out hno
      have hgd := HK.out.2.2
      obtain ⟨z1, z2, z3, z4⟩ := goodB_sizes2 hgd
      have z3' : TSize (kt X).length (nmL (kt X)) (vlL (kt X)) 1048576 := fun i hi => by have := z3 i hi; omega
      have b5 : Below w.heap.size w w5 := b4.trans (q5.mono b4.size)
      have bn := (Below.refl w5.heap.size w5).alloc (Nat.le_refl _) (.cells #[.string (km X), .slice ua (kt X).length uc, .int .i64 (numI (h1 X))] 25)
      have K6 := KAt.new w5 (km X) (.slice ua (kt X).length uc) (numI (h1 X)) 25
      have T6 := (TgL.row (ownsRow_keep TG5 bn)).2
      have b6 := b5.trans (bn.mono b5.size)
      have HGd : Hid (goodB (km X) (kt X).length (nmL (kt X)) (vlL (kt X)) (numI (h1 X)) = true) := hgd
      clear TG5 bn b5 q5 b4 hgd
      obtain ⟨_, k0, k1, k2⟩ := id K6
      go_wp2_with fail
      refine (keyText_impl (km X) (numI (h1 X)) ua (kt X).length uc (nmL (kt X)) (vlL (kt X)) _ T6 (by omega) (by omega) z3' (ht.keep b6)).mono ?_
      rintro e w7 ⟨rfl, q7⟩
      rw [HGd.out, if_pos rfl, HB.out]
      have b7 := b6.trans (q7.mono b6.size)
      go_wp2
      go_ret
      exact ⟨rfl, b7⟩
  · have hng : (1048576 : Int) < (n : Int) := by omega
    go_enter Tryd.func3, Tryd.ntmps3
    go_wp2
    go_ret
    exact ⟨rfl, Below.refl _ _⟩
end Go.Proofs.YtpddodjecbcmlaaDoor
