/- The law of FnLogs, walked. -/
import Derived.Test.YtimlggomjjkhlaaFlA
import Derived.RegionTactic
namespace Go.Proofs.Ytimlggomjjkhlaa
open Go.RowKit
set_option linter.unusedSimpArgs false
set_option linter.unusedVariables false

set_option maxHeartbeats 4000000 in
theorem fnLogs_good (co : Option Addr) (cn cc : Nat) (cf : Nat → Int) (mo : Option Addr) (mn mc : Nat) (mf : Nat → Int) (w : World) (hc : Row w co cn cf) (hm : Row w mo mn mf) (hn : cn + mn ≤ 1048576) :
    Calls Try.prog 3 #[.slice co cn cc, .slice mo mn mc] w fun e w' => e = .returned (.bool true) ∧ Below w.heap.size w w' := by
  have hn1 : ¬ (1048576 : Int) < (cn : Int) + (mn : Int) := by omega
  go_enter Try.func3, Try.ntmps3
  go_wp2_with fail
  refine (drawLogOf_any co cn cc cf _ hc (by omega)).mono ?_
  rintro e w1 ⟨lo, m, lc, V, Rs, rfl, hm61, L1, b1⟩
  have A1 := L1.rda
  have hlen := L1.len
  have HL : Hid (∀ i, i < m → (Rs i).length ≤ 1048576) := fun i hi => by have := hlen i hi; omega
  have HLen : Hid (∀ i, i < m → (Rs i).length ≤ 2001) := hlen
  have hm1 := hm.keep b1
  clear hlen L1
  go_wp2_with fail
  refine (logOf_impl lo m lc V Rs _ A1 (by omega) HL.out).mono ?_
  rintro e w2 ⟨b2, h2⟩
  have A2 := A1.keep b2
  have hm2 := hm1.keep b2
  have B2 := b1.trans (b2.mono b1.size)
  by_cases hG : m ≤ 60 ∧ Gd Rs m
  · have HG : Hid (m ≤ 60 ∧ Gd Rs m) := hG
    obtain ⟨_, _, v2, rfl, o2⟩ := h2.resolve_right (fun h => h.1 hG)
    clear h2
    have hBl := hG.2.le
    clear hG
    go_wp2_with fail
    refine (logOf_spec lo m lc V Rs _ A2 (by omega) HL.out).mono ?_
    rintro e w3 ⟨b3, h3⟩
    obtain ⟨_, _, v3, rfl, o3⟩ := h3.resolve_right (fun h => h.1 HG.out)
    clear h3
    have A3 := A2.keep b3
    have hm3 := hm2.keep b3
    have B3 := B2.trans (b3.mono B2.size)
    have o2' := o2.keep b3
    clear A1 A2 hm1 hm2 b1 b2 b3 o2 B2
    generalize hB : logL Rs m = B at *
    have HB : Hid (logL Rs m = B) := hB
    clear hB
    obtain ⟨ao2, c2, rfl, r2, h2⟩ := own_lies o2'
    obtain ⟨ao3, c3, rfl, r3, _⟩ := own_lies o3
    have cv2 := conv_row w3 ao2 c2 B r2
    have cv3 := conv_row w3 ao3 c3 B r3
    have hss := str_same (strOfNums B)
    generalize strOfNums B = sB at *
    go_wp2_with fail
    refine (readLog_any ao2 c2 B _ (h2.elim .inl fun ⟨g, e, hA, hl⟩ => .inr ⟨g, 0, e, hA, hl⟩) hBl).mono ?_
    rintro e w4 ⟨a4, n4, c4, V4, Rs4, wh4, rfl, S4, hF4, b4, ht4⟩
    rw [← HB.out] at hF4
    obtain ⟨rfl, rfl, e4⟩ := read_all hF4
    have S4r : RdS w4 a4 n4 V4 Rs := ⟨fun i hi => by
      obtain ⟨a, c, e, hr⟩ := S4.rd.rows i hi
      rw [e4 i hi] at e hr
      exact ⟨a, c, e, hr⟩, S4.rd.lies⟩
    have A4 := (A3.keep b4).rd
    have hm4 := hm3.keep b4
    have B4 := B3.trans (b4.mono B3.size)
    have h2' : (ao2 = none ∧ B = [] ∧ c2 = 0) ∨ ∃ g, ao2 = some ⟨g, 0, none⟩ ∧ At w4 g 0 B ∧ B.length ≤ c2 := h2.elim .inl fun ⟨g, e, hA, hl⟩ => .inr ⟨g, e, hA.keep b4, hl⟩
    rw [HB.out]
    clear hF4 S4 ht4 e4 A3 hm3 cv2 cv3 r2 r3 h2 hss o2' o3 b4 B3
    go_wp2
    go_loopw [75] (fun i wr => ∃ k : Nat, k ≤ n4 ∧ i = .int .i64 k ∧ Below w4.heap.size w4 wr) (fun i _ => n4 - (intOf i).toNat)
    case atStart => exact ⟨0, Nat.zero_le _, rfl, Below.refl _ _⟩
    case round =>
      obtain ⟨k, hk, rfl, hbk⟩ := hrel
      by_cases hlt : k < n4
      · obtain ⟨pb, po, rfl, hpl, hpc⟩ := S4r.lies.resolve_left (by omega)
        obtain ⟨qb, qo, rfl, hql, hqc⟩ := A4.lies.resolve_left (by omega)
        obtain ⟨pa, pc, pe, pr⟩ := S4r.rows k hlt
        obtain ⟨qa, qc, qe, qr⟩ := A4.rows k hlt
        have h1 : wr.cell? ⟨pb, po + k, none⟩ = some (.slice pa (Rs k).length pc) := (hbk.cell (p := ⟨pb, po + k, none⟩) hpl).trans ((hpc k hlt).trans (by rw [pe]))
        have h2 : wr.cell? ⟨qb, qo + k, none⟩ = some (.slice qa (Rs k).length qc) := (hbk.cell (p := ⟨qb, qo + k, none⟩) hql).trans ((hqc k hlt).trans (by rw [qe]))
        have cv1 := conv_row wr.drew pa pc (Rs k) ((pr.keep hbk).keep (Below.refl _ _).drew)
        have cv2 := conv_row wr.drew qa qc (Rs k) ((qr.keep hbk).keep (Below.refl _ _).drew)
        have hss := str_same (strOfNums (Rs k))
        have hkn : (k : Int) < (n4 : Int) := by omega
        generalize strOfNums (Rs k) = sK at *
        clear hpc hqc
        have HK : Hid (k < n4 ∧ Below w4.heap.size w4 wr.drew) := ⟨hlt, hbk.trans ((Below.refl _ wr).drew.mono hbk.size)⟩
        go_wp2
        clear hbk hlt hk
        go_region
        obtain ⟨hlt, hbk⟩ := HK.out
        go_wp2
        go_roundw
        case rel => exact ⟨k + 1, by omega, by go_num, hbk⟩
        case measure => simp [intOf]; omega
      · obtain rfl : k = n4 := by omega
        have B5 := B4.trans (hbk.mono B4.size)
        have A5 := A4.keep hbk
        have hm5 := hm4.keep hbk
        have h5 : (ao2 = none ∧ B = [] ∧ c2 = 0) ∨ ∃ g, ao2 = some ⟨g, 0, none⟩ ∧ At wr g 0 B ∧ B.length ≤ c2 := h2'.elim .inl fun ⟨g, e, hA, hl⟩ => .inr ⟨g, e, hA.keep hbk, hl⟩
        clear hbk B4 A4 hm4 h2' S4r
        go_wp2_with fail
        refine (numberOf_any mo mn mc mf _ hm5 (by omega)).mono ?_
        rintro e w6 ⟨x, rfl, hx, rfl⟩
        have hnz : ¬ (B.length : Int) + 1 = 0 := by omega
        obtain ⟨K, hK, hKe, hKt⟩ : ∃ K : Nat, K ≤ B.length ∧ (x : Int) % ((B.length : Int) + 1) = (K : Int) ∧ (x : Int).tmod ((B.length : Int) + 1) = (K : Int) := by
          have h1 : (x : Int) % ((B.length : Int) + 1) = ((x % (B.length + 1) : Nat) : Int) := by rw [Int.natCast_emod]; rfl
          refine ⟨x % (B.length + 1), by have := Nat.mod_lt x (show 0 < B.length + 1 by omega); omega, h1, ?_⟩
          rw [Int.tmod_eq_emod_of_nonneg (by omega)]
          exact h1
        rcases h5 with ⟨rfl, rfl, rfl⟩ | ⟨g, rfl, hA, hl⟩
        · obtain rfl : K = 0 := by simpa using hK
          have hread : Calls Try.prog 10 #[.slice none 0 0] w6 fun e w' => RLOut (([] : List Int).take 0) w6 e w' := readLog_nil w6
          go_wp2_with fail
          refine hread.mono ?_
          rintro e w7 ⟨a7, n7, c7, V7, Rs7, wh7, rfl, S7, hF7, b7, ht7⟩
          have hF8 : Fin ((logL Rs k).take 0) 0 [] false [] 0 (recs n7 Rs7, wh7) := by rw [HB.out]; exact hF7
          obtain ⟨hn7, hw7, e7⟩ := read_part (Nat.zero_le _) hF8
          clear hF8
          have S7r : RdS w7 a7 n7 V7 Rs := ⟨fun i hi => by
            obtain ⟨a, c, e, hr⟩ := S7.rd.rows i hi
            rw [e7 i hi] at e hr
            exact ⟨a, c, e, hr⟩, S7.rd.lies⟩
          have A7 := A5.keep b7
          have B7 := B5.trans (b7.mono B5.size)
          have hw7' : ¬ ((0 : Nat) : Int) < (wh7 : Int) := by omega
          have hn7' : ¬ (k : Int) < (n7 : Int) := by omega
          clear hF7 S7 ht7 e7 A5 hm5 b7 B5 hread
          go_wp2
          go_loopw [120] (fun i wr => ∃ q : Nat, q ≤ n7 ∧ i = .int .i64 q ∧ Below w7.heap.size w7 wr) (fun i _ => n7 - (intOf i).toNat)
          case atStart => exact ⟨0, Nat.zero_le _, rfl, Below.refl _ _⟩
          case round =>
            obtain ⟨q, hq, rfl, hbq⟩ := hrel
            by_cases hlt : q < n7
            · obtain ⟨pb, po, rfl, hpl, hpc⟩ := S7r.lies.resolve_left (by omega)
              obtain ⟨qb, qo, rfl, hql, hqc⟩ := A7.lies.resolve_left (by omega)
              obtain ⟨pa, pc, pe, pr⟩ := S7r.rows q hlt
              obtain ⟨qa, qc, qe, qr⟩ := A7.rows q (by omega)
              have h1 : wr.cell? ⟨pb, po + q, none⟩ = some (.slice pa (Rs q).length pc) := (hbq.cell (p := ⟨pb, po + q, none⟩) hpl).trans ((hpc q hlt).trans (by rw [pe]))
              have h2 : wr.cell? ⟨qb, qo + q, none⟩ = some (.slice qa (Rs q).length qc) := (hbq.cell (p := ⟨qb, qo + q, none⟩) hql).trans ((hqc q (by omega)).trans (by rw [qe]))
              have cv1 := conv_row wr.drew pa pc (Rs q) ((pr.keep hbq).keep (Below.refl _ _).drew)
              have cv2 := conv_row wr.drew qa qc (Rs q) ((qr.keep hbq).keep (Below.refl _ _).drew)
              have hss := str_same (strOfNums (Rs q))
              have hqn : (q : Int) < (n7 : Int) := by omega
              have hqk : (q : Int) < (k : Int) := by omega
              generalize strOfNums (Rs q) = sK at *
              clear hpc hqc
              have HK : Hid (q < n7 ∧ Below w7.heap.size w7 wr.drew) := ⟨hlt, hbq.trans ((Below.refl _ wr).drew.mono hbq.size)⟩
              go_wp2
              clear hbq hlt hq
              go_region
              obtain ⟨hlt, hbq⟩ := HK.out
              go_wp2
              go_roundw
              case rel => exact ⟨q + 1, by omega, by go_num, hbq⟩
              case measure => simp [intOf]; omega
            · have B8 := B7.trans (hbq.mono B7.size)
              go_wp2
              go_ret
              exact ⟨rfl, B8⟩
        · have hkl : (B.take K).length = K := by rw [List.length_take]; omega
          have hread : Calls Try.prog 10 #[.slice (some ⟨g, 0, none⟩) K c2] w6 fun e w' => RLOut (B.take K) w6 e w' := readLog_impl_yes g 0 K c2 (B.take K) w6 (hA.take K) hkl.symm (by omega) (by rw [hkl]; omega)
          have hKc : (K : Int) ≤ (c2 : Int) := by omega
          clear hkl
          go_wp2_with fail
          refine hread.mono ?_
          rintro e w7 ⟨a7, n7, c7, V7, Rs7, wh7, rfl, S7, hF7, b7, ht7⟩
          have hF8 : Fin ((logL Rs k).take K) 0 [] false [] 0 (recs n7 Rs7, wh7) := by rw [HB.out]; exact hF7
          obtain ⟨hn7, hw7, e7⟩ := read_part (by rw [HB.out]; exact hK) hF8
          clear hF8
          have S7r : RdS w7 a7 n7 V7 Rs := ⟨fun i hi => by
            obtain ⟨a, c, e, hr⟩ := S7.rd.rows i hi
            rw [e7 i hi] at e hr
            exact ⟨a, c, e, hr⟩, S7.rd.lies⟩
          have A7 := A5.keep b7
          have B7 := B5.trans (b7.mono B5.size)
          have hw7' : ¬ (K : Int) < (wh7 : Int) := by omega
          have hn7' : ¬ (k : Int) < (n7 : Int) := by omega
          clear hF7 S7 ht7 e7 A5 hm5 b7 B5 hread
          go_wp2
          go_loopw [120] (fun i wr => ∃ q : Nat, q ≤ n7 ∧ i = .int .i64 q ∧ Below w7.heap.size w7 wr) (fun i _ => n7 - (intOf i).toNat)
          case atStart => exact ⟨0, Nat.zero_le _, rfl, Below.refl _ _⟩
          case round =>
            obtain ⟨q, hq, rfl, hbq⟩ := hrel
            by_cases hlt : q < n7
            · obtain ⟨pb, po, rfl, hpl, hpc⟩ := S7r.lies.resolve_left (by omega)
              obtain ⟨qb, qo, rfl, hql, hqc⟩ := A7.lies.resolve_left (by omega)
              obtain ⟨pa, pc, pe, pr⟩ := S7r.rows q hlt
              obtain ⟨qa, qc, qe, qr⟩ := A7.rows q (by omega)
              have h1 : wr.cell? ⟨pb, po + q, none⟩ = some (.slice pa (Rs q).length pc) := (hbq.cell (p := ⟨pb, po + q, none⟩) hpl).trans ((hpc q hlt).trans (by rw [pe]))
              have h2 : wr.cell? ⟨qb, qo + q, none⟩ = some (.slice qa (Rs q).length qc) := (hbq.cell (p := ⟨qb, qo + q, none⟩) hql).trans ((hqc q (by omega)).trans (by rw [qe]))
              have cv1 := conv_row wr.drew pa pc (Rs q) ((pr.keep hbq).keep (Below.refl _ _).drew)
              have cv2 := conv_row wr.drew qa qc (Rs q) ((qr.keep hbq).keep (Below.refl _ _).drew)
              have hss := str_same (strOfNums (Rs q))
              have hqn : (q : Int) < (n7 : Int) := by omega
              have hqk : (q : Int) < (k : Int) := by omega
              generalize strOfNums (Rs q) = sK at *
              clear hpc hqc
              have HK : Hid (q < n7 ∧ Below w7.heap.size w7 wr.drew) := ⟨hlt, hbq.trans ((Below.refl _ wr).drew.mono hbq.size)⟩
              go_wp2
              clear hbq hlt hq
              go_region
              obtain ⟨hlt, hbq⟩ := HK.out
              go_wp2
              go_roundw
              case rel => exact ⟨q + 1, by omega, by go_num, hbq⟩
              case measure => simp [intOf]; omega
            · have B8 := B7.trans (hbq.mono B7.size)
              go_wp2
              go_ret
              exact ⟨rfl, B8⟩
  · have HG : Hid (¬ (m ≤ 60 ∧ Gd Rs m)) := hG
    obtain ⟨_, rfl⟩ := h2.resolve_left (fun h => hG ⟨h.1, h.2.1⟩)
    clear h2 hG
    go_wp2_with fail
    refine (logOf_spec lo m lc V Rs _ A2 (by omega) HL.out).mono ?_
    rintro e w3 ⟨b3, h3⟩
    obtain ⟨_, rfl⟩ := h3.resolve_left (fun h => HG.out ⟨h.1, h.2.1⟩)
    have B3 := B2.trans (b3.mono B2.size)
    have cv : (convert 22 9 (.slice none 0 0)).run Try.prog w3 = .ok (.string (strOfNums [])) w3 := conv_row w3 none 0 [] ⟨byt_nil.fl, .inl rfl⟩
    have hss := str_same (strOfNums [])
    generalize strOfNums [] = sB at *
    clear h3
    go_wp2
    go_ret
    exact ⟨rfl, B3⟩

theorem fnLogs_law (co : Option Addr) (cn cc : Nat) (cf : Nat → Int) (mo : Option Addr) (mn mc : Nat) (mf : Nat → Int) (w : World) (hc : Row w co cn cf) (hm : Row w mo mn mf) (hcn : cn ≤ 140737488351232) (hmn : mn ≤ 140737488351232) :
    Calls Try.prog 3 #[.slice co cn cc, .slice mo mn mc] w fun e w' => e = .returned (.bool true) ∧ Below w.heap.size w w' := by
  by_cases hn : cn + mn ≤ 1048576
  · exact fnLogs_good co cn cc cf mo mn mc mf w hc hm hn
  · have hn1 : (1048576 : Int) < (cn : Int) + (mn : Int) := by omega
    have hw : IntKind.i64.wrap ((cn : Int) + (mn : Int)) = (cn : Int) + (mn : Int) := by rw [IntKind.wrap_i64]; omega
    go_enter Try.func3, Try.ntmps3
    go_wp2
    go_ret
    exact ⟨rfl, Below.refl _ _⟩
end Go.Proofs.Ytimlggomjjkhlaa
