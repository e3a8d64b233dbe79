/- The keys of entries, each once. / The keys of entries, each once, in both texts. -/
import Derived.Test.YtpfjflbbpecbkaaGreatTb
import Derived.Test.YtpfjflbbpecbkaaGreatGdS
import Derived.Test.YtpfjflbbpecbkaaGreatRf
import Derived.Test.YtpfjflbbpecbkaaGreatLayP
import Derived.Maps.AppendAt
import Derived.Test.YtpfjflbbpecbkaaGreatOe
import Derived.Deep.CutRange
import Derived.Deep.DeepCutAuto
namespace Go.Proofs.YtpfjflbbpecbkaaGreat
set_option maxRecDepth 100000
open Go.RowKit Go.Shelf
set_option linter.unusedSimpArgs false
set_option linter.unusedVariables false

/-- Whether entry j's key is told. -/
def kp (X : Nat → Ent) (j : Nat) : Bool := decide (j = 0 ∨ (X j).key ≠ (X (j - 1)).key)
/-- The keys of the first n entries, each once where those of one key lie together. -/
def cK (X : Nat → Ent) (n : Nat) : List ByteArray := ((List.range n).filter (kp X)).map fun j => (X j).key
theorem cK_succ (X : Nat → Ent) (n : Nat) : cK X (n + 1) = cK X n ++ (if kp X n = true then [(X n).key] else []) := by
  unfold cK
  rw [List.range_succ, List.filter_append, List.map_append]
  congr 1
  by_cases h : kp X n = true <;> simp [h]
theorem cK_len (X : Nat → Ent) (n : Nat) : (cK X n).length ≤ n := by
  unfold cK
  rw [List.length_map]
  exact Nat.le_trans (List.length_filter_le _ _) (by simp)
theorem cK_mem {X : Nat → Ent} {n : Nat} {k : ByteArray} (h : k ∈ cK X n) : ∃ j, j < n ∧ k = (X j).key := by
  unfold cK at h
  obtain ⟨j, hj, rfl⟩ := List.mem_map.1 h
  exact ⟨j, by simpa using (List.mem_filter.1 hj).1, rfl⟩
def cF (X : Nat → Ent) (n i : Nat) : ByteArray := (cK X n).getD i ByteArray.empty
theorem cF_size {X : Nat → Ent} {n i : Nat} (h : ∀ j, j < n → (X j).key.size ≤ 140) (hi : i < (cK X n).length) : (cF X n i).size ≤ 140 := by
  have e : cF X n i = (cK X n)[i] := by simp [cF, hi]
  rw [e]
  obtain ⟨j, hj, e⟩ := cK_mem (List.getElem_mem hi)
  rw [e]
  exact h j hj
theorem cK_compact (X : Nat → Ent) (n : Nat) (zs : List (List UInt8)) (hz : zs = (List.range n).map fun j => (X j).key.data.toList) : Lib.compact zs = (cK X n).map fun k => k.data.toList := by
  have hl : zs.length = n := by rw [hz]; simp
  have hg : ∀ j, j < n → zs.toArray[j]! = (X j).key.data.toList := fun j hj => by
    rw [getElem!_pos zs.toArray j (by simpa [hl] using hj)]
    simp [hz]
  have hk : ∀ j, j < n → Lib.keeps zs.toArray j = kp X j := fun j hj => by
    unfold Lib.keeps kp
    rw [hg j hj]
    by_cases h0 : j = 0
    · simp [h0]
    · rw [hg (j - 1) (by omega)]
      congr 1
      simp only [h0, false_or, eq_iff_iff]
      refine not_congr ⟨fun e => ?_, fun e => by rw [e]⟩
      exact ByteArray.ext (Array.toList_inj.1 e)
  unfold Lib.compact Lib.compactUpTo cK
  rw [hl, List.map_map, List.filter_congr (q := kp X) (fun j hj => hk j (by simpa using hj))]
  exact List.map_congr_left fun j hj => by
    rw [hg j (by simpa using (List.mem_filter.1 hj).1)]
    rfl
end Go.Proofs.YtpfjflbbpecbkaaGreat

namespace Go.Proofs.YtpfjflbbpecbkaaGreat
set_option maxRecDepth 100000
open Go.RowKit Go.Shelf
set_option linter.unusedSimpArgs false
set_option linter.unusedVariables false

/-- What the keys' functions leave. -/
def KO (X : Nat → Ent) (n : Nat) (w : World) (e : Ending) (w' : World) : Prop :=
  ∃ ao cap, e = .returned (.slice ao (cK X n).length cap) ∧ TRow w' ao (cK X n).length (cF X n) ∧ Below w.heap.size w w'

set_option maxHeartbeats 1600000 in
theorem keysOf_any (b off n bc : Nat) (X : Nat → Ent) (w : World) (hr : ERow w (some ⟨b, off, none⟩) n X) (hn : 1 ≤ n ∧ n ≤ 1000) :
    Calls Tryz.prog 66 #[.slice (some ⟨b, off, none⟩) n bc] w fun e w' => KO X n w e w' := by
  obtain ⟨i0, hi, hz0, hz1, hz2⟩ := info_parts Tryz.infoStr
  go_enter Tryz.func66, Tryz.ntmps66
  go_wp2_with (at_make; refine wpList_make_full _ rfl (.tmp 7) (.tmp 7) 94 rfl w.heap.size 9 i0 (.string ByteArray.empty) 1 Tryz.underlying94 hi hz0 hz1 .i64 .i64 _ _ n rfl rfl rfl rfl (by rw [hz2]; omega) (by unfold maxLen; omega) (Nat.le_refl _) ?_; intro w1 hown hgrow)
  have hb1 : Below w.heap.size w w1 := (Below.refl _ _).grown hgrow (Nat.le_refl _) (fun k h => by simp at h)
  have hlt1 : w.heap.size < w1.heap.size := by
    rcases hown.2 with ⟨h, _⟩ | ⟨g', cap', cur, h, _, hg, _⟩
    · simp at h
    · simp at h; obtain ⟨rfl, _⟩ := h
      exact (Array.getElem?_eq_some_iff.1 hg).1
  have ho : TOwn w1 w.heap.size n (fun _ => ByteArray.empty) := by
    refine ⟨hlt1, fun i hi => ?_, fun i _ => by simpa using hown.frozenAt i⟩
    have := hown.cellAt i (by omega)
    rw [this]
    simp only [Value.cells, toList_madeCells_one]
    rw [List.getElem?_replicate]
    simp [hi]
  clear hown hgrow
  go_loopw [11] (fun i wr => ∃ k : Nat, k ≤ n ∧ i = .int .i64 k ∧ TOwn wr w.heap.size n (fun j => if j < k then (X j).key else ByteArray.empty) ∧ Below w.heap.size w wr) (fun i _ => n - (intOf i).toNat)
  case atStart => exact ⟨0, Nat.zero_le _, rfl, by simpa using ho, hb1⟩
  case round =>
    obtain ⟨k, hk, rfl, hok, hbk⟩ := hrel
    by_cases hlt : k < n
    · have hrw := hr.keep hbk
      obtain ⟨b', off', e, hblt, hc⟩ := hrw.lies.resolve_left (by omega)
      injection e with e
      injection e with e1 e2 _
      subst e1 e2
      obtain ⟨da, dc, hE, hI⟩ := hc k hlt
      obtain ⟨_, ec0, ec1, ec2, ec3, ec4, ec5, ec6, ec7, ec8⟩ := hE
      have hB1 := below_new wr (.cells #[.string (X k).key, .int .i64 (X k).seq, .int .i64 (X k).kind, .int .i64 (X k).c, .int .i64 (X k).s, .int .i64 (X k).lo, .int .i64 (X k).hi, .slice da (X k).n dc, .bool (X k).fu] 50)
      have hok1 := hok.keep hB1
      have hd := hok1.cell k hlt
      have hfz := hok1.free k hlt
      have hst := hok1.store k hlt (X k).key
      have hbk1 := hbk.trans (hB1.mono hbk.size)
      clear hc hrw ho hI
      go_wp2
      go_roundw
      case rel => exact ⟨k + 1, by omega, by go_num, hst.congr (fun i _ => by by_cases h1 : i = k <;> by_cases h2 : i < k <;> simp [h1, h2] <;> omega), hbk1.setCell (Nat.le_refl _) _⟩
      case measure => simp [intOf]; omega
    · obtain rfl : k = n := by omega
      obtain ⟨zs, hz⟩ : ∃ zs, zs = (List.range k).map fun j => (X j).key.data.toList := ⟨_, rfl⟩
      have hzl : zs.length = k := by rw [hz]; simp
      have hH : Sort.Holds encStr wr w.heap.size 0 zs.toArray := by
        intro j hj
        have hj' : j < k := by simpa [hzl] using hj
        refine ⟨?_, by rw [Nat.zero_add]; exact hok.free j hj'⟩
        rw [Nat.zero_add, hok.cell j hj', getElem!_pos _ j hj]
        simp [hz, encStr, hj']
      have hcm := cK_compact X k zs hz
      have hcall := Any.slices_Compact_string compStrs w.heap.size 0 k zs wr hH (by omega) (by omega)
      rw [hzl] at hcall
      have hcl := cK_len X k
      go_wp2_with fail
      refine hcall.mono ?_
      rintro e w3 ⟨rfl, q, rfl⟩
      rw [hcm]
      go_wp2
      go_ret
      refine ⟨_, _, rfl, ⟨.inr ⟨w.heap.size, 0, rfl, by simpa [Sort.ahead] using hok.lt, fun i hi => ?_⟩⟩, ?_⟩
      · have hH' : Sort.Holds encStr (Sort.ahead wr q) w.heap.size 0 zs.toArray := hH
        have hsz : ((cK X k).map (fun k : ByteArray => k.data.toList) ++ List.replicate (k - (cK X k).length) []).toArray.size = zs.toArray.size := by simp [hzl]; omega
        have := (Sort.cell?_putRow encStr (Sort.ahead wr q) w.heap.size 0 zs.toArray ((cK X k).map (fun k : ByteArray => k.data.toList) ++ List.replicate (k - (cK X k).length) []).toArray hH' hsz i (by simp; omega))
        rw [this, getElem!_pos _ i (by simp; omega)]
        simp [encStr, cF, hi]
      · refine ⟨hbk.os, hbk.tape, hbk.output, by simpa [Sort.ahead] using hbk.size, fun j hj => ?_⟩
        refine Eq.trans ?_ (hbk.block j hj)
        unfold Sort.putRow Sort.mapBlock Sort.ahead
        rw [Array.getElem?_modify, if_neg (by omega)]

theorem tl_ne {a b : ByteArray} (h : a ≠ b) : (a.toList == b.toList) = false ∧ (a.toList != b.toList) = true := by
  have : a.toList ≠ b.toList := fun e => h (by rw [ByteArray.toList_eq, ByteArray.toList_eq] at e; exact ByteArray.ext (Array.toList_inj.1 e))
  exact ⟨by simpa using this, by simpa using this⟩
theorem tl_eq {a b : ByteArray} (h : a = b) : (a.toList == b.toList) = true ∧ (a.toList != b.toList) = false := by subst h; simp
/-- Texts as cells. -/
def vt (L : List ByteArray) : List Value := L.map Value.string
theorem text_new (w : World) (k : ByteArray) (T : Nat) : ∀ j u, ([Value.string k] : List Value)[j]? = some u → (w.alloc (.cells #[.string k] T)).cell? ((⟨w.heap.size, 0, none⟩ : Addr).add j) = some u := by
  intro j u hj
  have hlt : j < 1 := by
    have := (List.getElem?_eq_some_iff.1 hj).1
    simpa using this
  obtain rfl : j = 0 := by omega
  rw [Addr.add_lit, Nat.zero_add, ← hj]
  simp [go_sem]

set_option maxHeartbeats 1600000 in
theorem l7Keys_any (b off n bc : Nat) (X : Nat → Ent) (w : World) (hr : ERow w (some ⟨b, off, none⟩) n X) (hn : n ≤ 1000) :
    Calls Tryz.prog 57 #[.slice (some ⟨b, off, none⟩) n bc] w fun e w' => KO X n w e w' := by
  obtain ⟨i0, hi, hz0, hz1, hz2⟩ := info_parts Tryz.infoStr
  go_enter Tryz.func57, Tryz.ntmps57
  go_wp2
  go_loopw [3, 8] (fun v i wr => ∃ (k mm cp : Nat) (a : Option Addr), k ≤ n ∧ i = .int .i64 k ∧ v = .slice a mm cp ∧ mm = (cK X k).length ∧ wr.ownsRow w.heap.size 9 1 (.slice a (cK X k).length cp) (cK X k).length (vt (cK X k)) ∧ Below w.heap.size w wr) (fun _ i _ => n - (intOf i).toNat)
  case atStart => exact ⟨0, 0, 0, none, Nat.zero_le _, rfl, rfl, rfl, World.ownsRow_nil _ _ _ _, Below.refl _ _⟩
  case round =>
    obtain ⟨k, mm, cp, a, hk, rfl, rfl, rfl, hown, hbk⟩ := hrel
    have hcl := cK_len X k
    by_cases hlt : k < n
    · have hrw := hr.keep hbk
      obtain ⟨b', off', e, hblt, hc⟩ := hrw.lies.resolve_left (by omega)
      injection e with e
      injection e with e1 e2 _
      subst e1 e2
      obtain ⟨da, dc, hE, hI⟩ := hc k hlt
      have hB1 := below_new wr (.cells #[.string (X k).key, .int .i64 (X k).seq, .int .i64 (X k).kind, .int .i64 (X k).c, .int .i64 (X k).s, .int .i64 (X k).lo, .int .i64 (X k).hi, .slice da (X k).n dc, .bool (X k).fu] 50)
      have hE1 := hE.keep hB1
      have N1 := EAt.new wr (X k) da dc 50
      have hown1 := hown.alloc (.cells #[.string (X k).key, .int .i64 (X k).seq, .int .i64 (X k).kind, .int .i64 (X k).c, .int .i64 (X k).s, .int .i64 (X k).lo, .int .i64 (X k).hi, .slice da (X k).n dc, .bool (X k).fu] 50)
      have hbk1 := hbk.trans (hB1.mono hbk.size)
      obtain ⟨_, ec0, ec1, ec2, ec3, ec4, ec5, ec6, ec7, ec8⟩ := hE
      have hlp : k = 0 ∨ ∃ j ka, k = j + 1 ∧ (wr.alloc (.cells #[.string (X k).key, .int .i64 (X k).seq, .int .i64 (X k).kind, .int .i64 (X k).c, .int .i64 (X k).s, .int .i64 (X k).lo, .int .i64 (X k).hi, .slice da (X k).n dc, .bool (X k).fu] 50)).cell? ⟨b, off + j * 9, none⟩ = some (.string ka) ∧ ka = (X j).key := by
        by_cases h0 : k = 0
        · exact .inl h0
        · obtain ⟨da', dc', hE', _⟩ := hc (k - 1) (by omega)
          exact .inr ⟨k - 1, _, by omega, (hE'.keep hB1).c0, rfl⟩
      have hsuc := cK_succ X k
      obtain ⟨_, f0, f1, f2, f3, f4, f5, f6, f7, f8⟩ := N1.z
      generalize hL : cK X k = L at *
      clear hL hc hrw hI
      have fin : ∀ (kk : ByteArray), kk = (X k).key → kp X k = true → cK X (k + 1) = L ++ [kk] := fun kk e h => by rw [hsuc, if_pos h, e]
      have finN : kp X k = false → cK X (k + 1) = L := fun h => by rw [hsuc, if_neg (by simp [h])]; simp
      clear hsuc
      go_upto_region 5 with fail
      generalize hW1 : wr.alloc (.cells #[.string (X k).key, .int .i64 (X k).seq, .int .i64 (X k).kind, .int .i64 (X k).c, .int .i64 (X k).s, .int .i64 (X k).lo, .int .i64 (X k).hi, .slice da (X k).n dc, .bool (X k).fu] 50) = w1 at *
      go_cut [25] from 13 to 24 (fun s25 wx => s25 = .bool (kp X k) ∧ Below w1.heap.size w1 wx)
      case first =>
        rcases hlp with h0 | ⟨j, ka, hkj, hca, hke⟩
        · have hkp : Hid (kp X k = true) := by unfold Hid kp; simp [h0]
          subst h0
          go_wp2
          go_region
          go_wp2
          go_meet
          case rel => exact ⟨by rw [hkp.out], below_drewN (Below.refl _ _) _⟩
        · have hjn : j < n := by omega
          have hkz : ((k : Int) == 0) = false := by simp; omega
          have hws : IntKind.i64.wrap ((k : Int) - 1) = (j : Int) := by rw [IntKind.wrap_i64] <;> omega
          obtain ⟨kk, hkk⟩ : ∃ kk, (X k).key = kk := ⟨_, rfl⟩
          rw [hkk] at f0
          by_cases he : ka = kk
          · have hkp : Hid (kp X k = false) := by unfold Hid kp; simp [hkj, ← hke, he, ← hkk]
            obtain ⟨hq1, hq2⟩ := tl_eq he
            clear hkj he hke hkk
            go_wp2
            go_region
            go_wp2
            go_meet
            case rel => exact ⟨by rw [hkp.out], below_drewN (Below.refl _ _) _⟩
          · have hkp : Hid (kp X k = true) := by
              unfold Hid kp
              refine decide_eq_true (.inr ?_)
              rw [hkk, hkj, Nat.add_sub_cancel, ← hke]
              exact fun h => he h.symm
            obtain ⟨hq1, hq2⟩ := tl_ne he
            clear hkj he hke hkk
            go_wp2
            go_region
            go_wp2
            go_meet
            case rel => exact ⟨by rw [hkp.out], below_drewN (Below.refl _ _) _⟩
      case rest =>
        obtain ⟨rfl, q1⟩ := hcut
        have hown2 := ownsRow_keep hown1 q1
        have hbk2 := hbk1.trans (q1.mono hbk1.size)
        have N2 := N1.keep q1
        obtain ⟨_, r0, r1, r2, r3, r4, r5, r6, r7, r8⟩ := N2.z
        cases hkp : kp X k
        · have HF : Hid (cK X (k + 1) = L) := finN hkp
          clear fin finN
          go_wp2
          go_roundw
          case rel => exact ⟨k + 1, _, cp, a, by omega, by go_num, rfl, by rw [HF.out], by rw [HF.out]; exact hown2, hbk2⟩
          case measure => simp [intOf]; omega
        · obtain ⟨kk, hkk⟩ : ∃ kk, (X k).key = kk := ⟨_, rfl⟩
          have HF : Hid (cK X (k + 1) = L ++ [kk]) := fin kk hkk.symm hkp
          rw [hkk] at r0
          clear fin finN hkk
          have hs2 := hbk2.size
          go_wp2_with (at_builtin; refine wpList_append_own_at _ rfl (.tmp 26) (.tmp 29) 94 rfl w.heap.size 9 i0 (.string ByteArray.empty) 1 16 Tryz.underlying94 hi hz0 hz1 hz2 rfl (by decide) _ L.length (vt L) rfl (hown2.alloc _) ⟨wc.heap.size, 0, none⟩ 1 1 [.string kk] rfl rfl (text_new wc kk _) (fun u hu => by simp only [List.mem_cons, List.not_mem_nil, or_false] at hu; subst hu; rfl) (by unfold maxLen; omega) (by omega) (by simp; omega) ?_; intro v4 w4 o4 gr4 _ ha4; obtain ⟨a4, c4, rfl⟩ := ownsRow_form o4)
          have hb4 : Below w.heap.size w w4 := ((hbk2.alloc hs2 _)).grown gr4 (by simp; omega) (fun q hq => (hown2.lt q hq).1)
          go_roundw
          case rel => exact ⟨k + 1, _, c4, a4, by omega, by go_num, rfl, by rw [HF.out, List.length_append, List.length_singleton], by rw [HF.out, List.length_append, List.length_singleton, vt, List.map_append]; exact o4, hb4⟩
          case measure => simp [intOf]; omega
    · obtain rfl : k = n := by omega
      go_wp2
      go_ret
      refine ⟨_, _, rfl, ?_, hbk⟩
      rcases hown.2 with ⟨e, h0⟩ | ⟨g, cap, cur, e, hbg, hg, hnc, _⟩
      · exact ⟨.inl h0⟩
      · injection e with e1 e2 e3
        subst e1
        refine ⟨.inr ⟨g, 0, rfl, (Array.getElem?_eq_some_iff.1 hg).1, fun i hi => ?_⟩⟩
        rw [Nat.zero_add]
        subst e3
        rw [hown.cellAt i (by omega)]
        simp [vt, cF, hi]
end Go.Proofs.YtpfjflbbpecbkaaGreat
