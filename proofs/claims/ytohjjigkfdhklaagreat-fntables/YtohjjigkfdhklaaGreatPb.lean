/- The writer of a table: a block of entries is put. -/
import Derived.Test.YtohjjigkfdhklaaGreatPt7
namespace Go.Proofs.YtohjjigkfdhklaaGreat
set_option maxRecDepth 100000
open Go.RowKit
set_option linter.unusedSimpArgs false
set_option linter.unusedVariables false

set_option maxHeartbeats 4000000 in
theorem putBlock_any (w0 : World) (b off m bc : Nat) (Y : Nat → Ent) (w : World) (W : Nat) (a : Option Addr) (cp : Nat) (L : List Int) (iv : Value) (K : Nat → ByteArray) (A B : Nat → Int) (J : Nat) (fa ia en : Int)
    (hr : ERow w0 (some ⟨b, off, none⟩) m Y) (hG : ∀ i, i < m → GoodE (Y i)) (hm : 1 ≤ m ∧ m ≤ 100) (hb : Below w0.heap.size w0 w)
    (hT : TS w0.heap.size w W (.slice a L.length cp) L iv K A B J fa ia en) (hL : L.length ≤ 100000) (hJ : J ≤ 1000) (hK : K J = (Y (m - 1)).key) (hA : A J = L.length) (hBd : B J = (blk Y 0 m).length) (hen : 0 ≤ en ∧ en ≤ 1000) :
    Calls Tryz.prog 53 #[.pointer (some ⟨W, 0, none⟩), .iface 94 (.slice (some ⟨b, off, none⟩) m bc)] w fun e w' =>
      ∃ v' iv', (∃ u, e = .returned u) ∧ TS w0.heap.size w' W v' (L ++ blk Y 0 m) iv' K A B (J + 1) fa ia (en + m) ∧ Md W w (.slice a L.length cp) iv w' v' iv' := by
  have hbs := hb.size
  obtain ⟨wlt, c0, c1, c2, c3, c4, fz⟩ := hT.at'
  have hcall := fun W' cpX => appendBlock_any w0 b off m bc Y W' a cpX L hr hG hm.2
  have nb7 := nil_block (some ⟨b, off, none⟩) m bc
  have mb7 := mth_block (some ⟨b, off, none⟩) m bc
  obtain ⟨M, HM⟩ : ∃ M, Hid (L ++ blk Y 0 m = M) := ⟨_, rfl⟩
  go_enter Tryz.func53, Tryz.ntmps53
  go_upto_region 1 with fail
  go_cut [4] from 13 to 24 (fun s4 wx => s4 = .int .i64 (L.length : Nat) ∧ Put1 w0.heap.size W w (.slice a L.length cp) iv fa ia en M wx)
  case first =>
    go_region_with (first | (go_at_call 192; refine (hcall _ _ hb.drew (hT.own.keep (Below.refl _ _).drew) hL).mono ?_; rintro e w1 ⟨v1, rfl, o1, gr1, n1⟩; have W1 := hT.at'.drew.grown gr1 hT.nv; rw [HM.out] at o1; obtain ⟨a1, q1, rfl⟩ := o1.form; have W1' := W1; obtain ⟨_, d0, d1, d2, d3, d4, dz⟩ := W1'))
    all_goals
      go_wp2_with fail
      go_meet
      case rel => exact ⟨rfl, w1, a1, q1, rfl, o1, gr1, n1, W1⟩
  case rest =>
    obtain ⟨rfl, w1, a1, q1, rfl, o1, gr1, n1, W1⟩ := hcut
    have T2 := (hT.keep (Below.refl _ _).drew).put o1 gr1 n1
    have D2 := (((Md.refl W w (.slice a L.length cp) iv).keep (Below.refl _ _).drew).growV gr1 n1).set (j := 0) (.slice a1 M.length q1)
    have hb2 : Below w0.heap.size w0 (w1.setCell ⟨W, 0, none⟩ (.slice a1 M.length q1)) := (hb.drew.trans ((hT.own.keep (Below.refl _ _).drew).below (Below.refl _ _) gr1 (Nat.le_refl _) hbs)).trans ((Others.setCell _ _ _ _).below hT.hb)
    clear o1 gr1 n1 W1 c0 c1 c2 c3 c4 fz hcall nb7 mb7 hT
    generalize w1.setCell ⟨W, 0, none⟩ (.slice a1 M.length q1) = w2 at *
    obtain ⟨ia', ic', rfl⟩ := ownsRow_form T2.idx
    obtain ⟨_, c0, c1, c2, c3, c4, fz⟩ := T2.at'
    obtain ⟨k0, hk0⟩ : ∃ k0, (Y (m - 1)).key = k0 := ⟨_, rfl⟩
    obtain ⟨N, hN⟩ : ∃ N, (blk Y 0 m).length = N := ⟨_, rfl⟩
    have hML : M.length = L.length + N := by rw [← HM.out, List.length_append, hN]
    have hNl : N ≤ 40000 := by
      have := blk_len Y 0 m fun i hi => by have := (hG (0 + i) (by omega)).1; unfold KeyOk at this; omega
      omega
    have hsub : IntKind.i64.wrap ((M.length : Int) - (L.length : Int)) = (N : Int) := by rw [IntKind.wrap_i64] <;> omega
    have HML : Hid (M.length = L.length + N) := hML
    have hMl : M.length ≤ 150000 := by omega
    clear hML
    have hla := last_any b off m bc Y
    rw [hk0] at hla hK
    rw [hN] at hBd
    obtain ⟨i0, hi, hz0, hz1, hz2⟩ := info_parts Tryz.infoIx
    have hal : ∀ j u, ([.string k0, .int .i64 (L.length : Nat), .int .i64 (N : Nat)] : List Value)[j]? = some u → (w2.drew.alloc (.cells #[.string k0, .int .i64 (L.length : Nat), .int .i64 (N : Nat)] 127)).cell? ((⟨w2.heap.size, 0, none⟩ : Addr).add j) = some u := by
      intro j u hj
      have hlt : j < 3 := by
        have := (List.getElem?_eq_some_iff.1 hj).1
        simpa using this
      rw [Addr.add_lit, Nat.zero_add, ← hj]
      rcases j with _ | _ | _ | j
      all_goals first | (simp [go_sem]; done) | omega
    obtain ⟨iv3, w3, hrun, hown3, hgr3, _, hat3⟩ := run_append_own_at (P := Tryz.prog) (w2.drew.alloc (.cells #[.string k0, .int .i64 (L.length : Nat), .int .i64 (N : Nat)] 127)) w0.heap.size 85 85 127 i0 (.agg #[.string ByteArray.empty, .int .i64 0, .int .i64 0]) 3 32 Tryz.underlying85 hi hz0 hz1 hz2 rfl (by decide) (.slice ia' J ic') J (xrows K A B J) ((T2.keep (Below.refl _ _).drew).idx.alloc _) ⟨w2.heap.size, 0, none⟩ 1 1 [.string k0, .int .i64 (L.length : Nat), .int .i64 (N : Nat)] rfl hal (fun u hu => by simp only [List.mem_cons, List.not_mem_nil, or_false] at hu; rcases hu with rfl | rfl | rfl <;> rfl) (by unfold maxLen; omega) (by omega) (by have := hb2.size; simp; omega)
    have HX : Hid (xrows K A B J ++ [.string k0, .int .i64 (L.length : Nat), .int .i64 (N : Nat)] = xrows K A B (J + 1)) := by unfold Hid; rw [xrows, xcells, hK, hA, hBd]
    rw [HX.out] at hown3
    have T2d := (T2.keep (Below.refl _ _).drew).keep (below_new _ (.cells #[.string k0, .int .i64 (L.length : Nat), .int .i64 (N : Nat)] 127))
    have hr2 := (hr.keep hb2)
    clear hal hG
    obtain ⟨ia3, ic3, rfl⟩ := ownsRow_form hown3
    have as7 := as_block (some ⟨b, off, none⟩) m bc
    go_upto_region 5 with fail
    go_cut [4, 5] from 29 to 48 (fun s4 s5 wx => s4 = .int .i64 (L.length : Nat) ∧ s5 = .slice (some ⟨b, off, none⟩) m bc ∧ wx = w3.setCell ⟨W, 1, none⟩ (.slice ia3 (J + 1) ic3))
    case first =>
      have W3 := T2d.at'.grown hgr3 T2d.ni
      obtain ⟨_, d0, d1, d2, d3, d4, dz⟩ := W3
      go_region_law (first | (refine step_last (by rfl) (by rfl) (.slice (some ⟨b, off, none⟩) m bc) (.string k0) (by simp [Act.eval, Act.put]) (hla _ (hr2.keep (Below.refl _ _).drew) (by omega)) ?_) | (refine step_append_ty (by rfl) (.tmp 33) (.tmp 45) 85 85 (by rfl) (by rfl) (.slice ia' J ic') (.slice (some ⟨w2.heap.size, 0, none⟩) 1 1) (.slice ia3 (J + 1) ic3) (by simp [Act.eval, Act.put]) (by simp [Act.eval, Act.put]) w3 hrun ?_) | fail)
      all_goals
        go_wp2_with fail
        go_meet
        case rel => exact ⟨rfl, rfl, rfl⟩
    case rest =>
      obtain ⟨rfl, rfl, rfl⟩ := hcut
      have hs2d : (w2.drew.alloc (.cells #[.string k0, .int .i64 (L.length : Nat), .int .i64 (N : Nat)] 127)).heap.size = w2.heap.size + 1 := by simp
      have T3 := T2d.push hown3 hgr3 (nb_of hat3)
      have D3 := (((D2.keep (Below.refl _ _).drew).keep (below_new _ (.cells #[.string k0, .int .i64 (L.length : Nat), .int .i64 (N : Nat)] 127))).growI hgr3 (nb_of hat3)).set (j := 1) (.slice ia3 (J + 1) ic3)
      have T4 := T3.moved (T3.at'.set4 (en + (m : Int)))
      have D4 := D3.set (j := 4) (.int .i64 (en + (m : Int)))
      have HT4 : Hid (TS w0.heap.size ((w3.setCell ⟨W, 1, none⟩ (.slice ia3 (J + 1) ic3)).setCell ⟨W, 4, none⟩ (.int .i64 (en + (m : Int)))) W (.slice a1 M.length q1) M (.slice ia3 (J + 1) ic3) K A B (J + 1) fa ia (en + (m : Int))) := T4
      obtain ⟨_, d0, d1, d2, d3, d4, dz⟩ := T3.at'
      have hwe : IntKind.i64.wrap (en + (m : Int)) = en + (m : Int) := by rw [IntKind.wrap_i64] <;> omega
      clear hrun hown3 hgr3 hat3 T2d T2 T4 c0 c1 c2 c3 c4 fz hla as7
      generalize w3.setCell ⟨W, 1, none⟩ (.slice ia3 (J + 1) ic3) = w5 at *
      go_wp2
      go_end0
      rw [HM.out]
      exact ⟨_, _, ⟨_, rfl⟩, HT4.out, D4⟩
end Go.Proofs.YtohjjigkfdhklaaGreat
