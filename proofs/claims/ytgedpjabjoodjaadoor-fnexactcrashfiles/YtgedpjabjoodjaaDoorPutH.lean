/- put: what it leaves. / put, where there is room. -/
import Derived.Test.YtgedpjabjoodjaaDoorDiskX
import Derived.Test.YtgedpjabjoodjaaDoorAppF
import Derived.Test.YtgedpjabjoodjaaDoorUsed
import Derived.Deep.RegionHeld3
namespace Go.Proofs.YtgedpjabjoodjaaDoor
open Go.RowKit
open Go.ChangeMaps (setBlock)
set_option linter.unusedSimpArgs false
set_option linter.unusedVariables false

def cat (f : Nat → Int) (n : Nat) (h : Nat → Int) (i : Nat) : Int := if i < n then f i else h (i - n)
theorem bl_cat (f h : Nat → Int) (n m : Nat) : bl f n ++ bl h m = bl (cat f n h) (n + m) := by
  unfold bl
  rw [List.range_add, List.map_append, List.map_map]
  congr 1
  · exact List.map_congr_left fun i hi => by simp [cat, List.mem_range.1 hi]
  · exact List.map_congr_left fun i hi => by
      show Value.int .u8 (h i) = Value.int .u8 (cat f n h (n + i))
      unfold cat
      rw [if_neg (by omega), Nat.add_sub_cancel_left]
/-- Bytes put behind a row of the call's own. -/
theorem bapp_run (w : World) (base : Nat) (p : Option Addr) (c n m : Nat) (f h : Nat → Int) (ad : Addr) (sc : Nat) (hown : w.ownsRow base 5 1 (.slice p n c) n (bl f n)) (hsrc : ∀ j, j < m → w.cell? (ad.add j) = some (.int .u8 (h j))) (hl : n + m ≤ 4194304) (hb : base ≤ w.heap.size) :
    ∃ p' c' w', (∀ ty, (Builtin.append_ #[35, 35] ty #[.slice p n c, .slice (some ad) m sc]).run Tryd.prog w = .ok (.slice p' (n + m) c') w') ∧
      w'.ownsRow base 5 1 (.slice p' (n + m) c') (n + m) (bl (cat f n h) (n + m)) ∧ w.grownBy w' (Value.slice p n c).ownBlock ∧ ∀ b, some b = (Value.slice p' (n + m) c').ownBlock → some b = (Value.slice p n c).ownBlock ∨ b = w.heap.size := by
  obtain ⟨i0, hi, hz0, hz1, hz2⟩ := info_parts Tryd.info5
  obtain ⟨v', w', hrun, hown', hgrow, _, hat⟩ := run_append_own_at (P := Tryd.prog) w base 35 0 5 i0 (.int .u8 0) 1 1 Tryd.underlying35 hi hz0 hz1 hz2 rfl (by decide) (.slice p n c) n (bl f n) hown ad m sc (bl h m) (by simp [bl]) (fun j u hu => by
      have hj : j < m := by
        have := (List.getElem?_eq_some_iff.1 hu).1
        simpa [bl] using this
      have e : u = .int .u8 (h j) := by simpa [bl, hj] using hu.symm
      subst e
      exact hsrc j hj)
    (fun u hu => by simp only [bl, List.mem_map] at hu; obtain ⟨i, _, rfl⟩ := hu; rfl) (by unfold maxLen; omega) (by omega) hb
  rw [bl_cat] at hown'
  obtain ⟨p', c', rfl⟩ : ∃ p' c', v' = .slice p' (n + m) c' := by
    rcases hown'.2 with ⟨rfl, h0⟩ | ⟨g, cap, cur, rfl, _⟩
    · exact ⟨none, 0, by rw [h0]⟩
    · exact ⟨_, cap, rfl⟩
  refine ⟨p', c', w', fun ty => hrun, hown', hgrow, fun b hb => ?_⟩
  rcases hat with h | h
  · exact .inl (by rw [hb, h])
  · rw [h] at hb
    exact .inr (Option.some.inj hb)

set_option maxHeartbeats 1000000 in
theorem put_miss (Q : Int) (bm n : Nat) (F : Nat → Fil) (S : Nat → Value) (s : ByteArray) (dv : Value) (hs : ∀ j, j < n → (F j).nm ≠ s) (w : World) (hb : w.heap[bm]? = some (.map (ents F S n) n)) :
    Calls Tryd.prog 49 #[.agg #[.int .i64 Q, .map (some bm)], .string s, dv] w fun e w' => e = .returned (.iface 90 (.agg #[.string s, .int .i64 2])) ∧ Below w.heap.size w w' := by
  have hlt : bm < w.heap.size := (Array.getElem?_eq_some_iff.1 hb).1
  have hB : Below w.heap.size w (w.alloc (.cells #[.int .i64 Q, .map (some bm)] 60)) := (Below.refl _ _).alloc (Nat.le_refl _) _
  have hbA : (w.alloc (.cells #[.int .i64 Q, .map (some bm)] 60)).heap[bm]? = some (.map (ents F S n) n) := (hB.block bm hlt).trans hb
  go_enter Tryd.func49, Tryd.ntmps49
  go_wp2_with fail
  refine (find_miss Q bm n F S s hs _ hbA).mono ?_
  rintro e w1 ⟨rfl, hb1⟩
  have bw1 : Below w.heap.size w w1 := hB.trans (hb1.mono (by simp))
  clear hb1 hB hbA
  go_wp2
  go_ret
  exact ⟨rfl, bw1.alloc bw1.size _⟩

set_option maxHeartbeats 2000000 in
theorem put_full (Q : Int) (bm n : Nat) (F : Nat → Fil) (S : Nat → Value) (j : Nat) (hj : j < n) (bo : Option Addr) (m bc : Nat) (hm : m ≤ 1048576) (hQ : 0 ≤ Q ∧ Q ≤ 60000) (hu : used F n ≤ 60000) (hfull : Q < ((used F n + m : Nat) : Int)) (HK : Hid (∀ i, i < n → fileOk F i = true)) (w : World) (hb : w.heap[bm]? = some (.map (ents F S n) n)) (hS : ∀ i, i < n → ∃ da dc, S i = .slice da (F i).len dc) :
    Calls Tryd.prog 49 #[.agg #[.int .i64 Q, .map (some bm)], .string (F j).nm, .slice bo m bc] w fun e w' => e = .returned (.iface 90 (.agg #[.string (F j).nm, .int .i64 4])) ∧ Below w.heap.size w w' := by
  have hlt : bm < w.heap.size := (Array.getElem?_eq_some_iff.1 hb).1
  obtain ⟨da, dc, hSj⟩ := hS j hj
  have hB : Below w.heap.size w (w.alloc (.cells #[.int .i64 Q, .map (some bm)] 60)) := (Below.refl _ _).alloc (Nat.le_refl _) _
  have X0 := QAt.new w Q (.map (some bm)) 60
  have hbA : (w.alloc (.cells #[.int .i64 Q, .map (some bm)] 60)).heap[bm]? = some (.map (ents F S n) n) := (hB.block bm hlt).trans hb
  go_enter Tryd.func49, Tryd.ntmps49
  go_wp2_with fail
  refine (find_hit Q bm n F S j hj HK _ hbA da dc hSj).mono ?_
  rintro e w1 ⟨rfl, hb1⟩
  have bw1 : Below w.heap.size w w1 := hB.trans (hb1.mono (by simp))
  have hA : Below w1.heap.size w1 (w1.alloc (.cells #[.string (F j).nm, .slice da (F j).len dc, .int .i64 (F j).sy] 73)) := (Below.refl _ _).alloc (Nat.le_refl _) _
  have bwA : Below w.heap.size w (w1.alloc (.cells #[.string (F j).nm, .slice da (F j).len dc, .int .i64 (F j).sy] 73)) := bw1.trans (hA.mono bw1.size)
  have XA := (X0.keep hb1).keep hA
  have hMd := ((bwA.block bm hlt).trans hb)
  have hwr : IntKind.i64.wrap (Q - ((used F n : Nat) : Int)) = Q - ((used F n : Nat) : Int) := by rw [IntKind.wrap_i64] <;> omega
  have hd : Q - ((used F n : Nat) : Int) < (m : Int) := by omega
  obtain ⟨lx, x0, x1⟩ := id XA
  clear hB X0 hbA hb1 hb bw1 hA XA
  go_wp2
  generalize w1.alloc (.cells #[.string (F j).nm, .slice da (F j).len dc, .int .i64 (F j).sy] 73) = wA at *
  have hMd' : wA.drew.heap[bm]? = some (.map (ents F S n) n) := hMd
  go_region_held3 (fun w' => w'.cell? ⟨w.heap.size, 0, none⟩ = some (.int .i64 Q) ∧ w'.cell? ⟨w.heap.size, 1, none⟩ = some (.map (some bm))) (go_keep) (first | (go_at_call 72; refine (used_any Q bm n F S _ hMd' hS (by omega)).mono ?_; rintro e w2 ⟨rfl, hb2⟩; have hb2' := (Below.refl _ wA).drew.trans hb2; have e0 := (hb2'.cell (p := ⟨w.heap.size, 0, none⟩) lx).trans x0; have e1 := (hb2'.cell (p := ⟨w.heap.size, 1, none⟩) lx).trans x1))
  go_wp2
  go_ret
  exact ⟨rfl, bwA.trans (hb2'.mono bwA.size)⟩
end Go.Proofs.YtgedpjabjoodjaaDoor
namespace Go.Proofs.YtgedpjabjoodjaaDoor
open Go.RowKit
open Go.ChangeMaps (setBlock)
set_option linter.unusedSimpArgs false
set_option linter.unusedVariables false

/-- What put leaves where there is room. -/
def PutOut (bm n : Nat) (F : Nat → Fil) (S : Nat → Value) (j m : Nat) (h : Nat → Int) (w : World) (e : Ending) (w' : World) : Prop :=
  e = .returned .nilIface ∧ ∃ wX p' c', w' = setBlock wX bm (.map (esOf ((lOf F S n).set j (((F j).nm, (p', (F j).len + m, c'), (F j).sy), j))) n) ∧ Below bm w wX ∧ (∀ k, k < w.heap.size → some k ≠ (S j).ownBlock → wX.heap[k]? = w.heap[k]?) ∧ wX.ownsRow (bm + 2) 5 1 (.slice p' ((F j).len + m) c') ((F j).len + m) (bl (cat (F j).f (F j).len h) ((F j).len + m)) ∧ ∀ b, some b = (Value.slice p' ((F j).len + m) c').ownBlock → some b = (S j).ownBlock ∨ w.heap.size ≤ b

set_option maxRecDepth 100000 in
set_option maxHeartbeats 4000000 in
theorem put_hit (Q : Int) (bm n : Nat) (F : Nat → Fil) (S : Nat → Value) (j : Nat) (hj : j < n) (ad : Addr) (m bc : Nat) (h : Nat → Int) (hm : m ≤ 1048576) (hQ : 0 ≤ Q ∧ Q ≤ 60000) (hu : used F n ≤ 60000) (hlen : (F j).len ≤ 1048576) (hroom : ((used F n + m : Nat) : Int) ≤ Q) (HK : Hid (∀ i, i < n → fileOk F i = true)) (w : World) (hb : w.heap[bm]? = some (.map (ents F S n) n)) (hS : ∀ i, i < n → ∃ da dc, S i = .slice da (F i).len dc) (hbm : bm + 2 ≤ w.heap.size)
    (HD : Hid (w.ownsRow (bm + 2) 5 1 (S j) (F j).len (bl (F j).f (F j).len))) (HA : Hid (ad.block < w.heap.size ∧ ad.spot = none ∧ ∀ i, i < m → w.cell? (ad.add i) = some (.int .u8 (h i)))) :
    Calls Tryd.prog 49 #[.agg #[.int .i64 Q, .map (some bm)], .string (F j).nm, .slice (some ad) m bc] w fun e w' => PutOut bm n F S j m h w e w' := by
  have hM := mhas_of HK.out hS hb
  have hlt : bm < w.heap.size := hM.lt
  obtain ⟨da, dc, hSj⟩ := hS j hj
  have hB : Below w.heap.size w (w.alloc (.cells #[.int .i64 Q, .map (some bm)] 60)) := (Below.refl _ _).alloc (Nat.le_refl _) _
  have X0 := QAt.new w Q (.map (some bm)) 60
  have hbA : (w.alloc (.cells #[.int .i64 Q, .map (some bm)] 60)).heap[bm]? = some (.map (ents F S n) n) := (hB.block bm hlt).trans hb
  go_enter Tryd.func49, Tryd.ntmps49
  go_wp2_with fail
  refine (find_hit Q bm n F S j hj HK _ hbA da dc hSj).mono ?_
  rintro e w1 ⟨rfl, hb1⟩
  have bw1 : Below w.heap.size w w1 := hB.trans (hb1.mono (by simp))
  have hA : Below w1.heap.size w1 (w1.alloc (.cells #[.string (F j).nm, .slice da (F j).len dc, .int .i64 (F j).sy] 73)) := (Below.refl _ _).alloc (Nat.le_refl _) _
  have bwA : Below w.heap.size w (w1.alloc (.cells #[.string (F j).nm, .slice da (F j).len dc, .int .i64 (F j).sy] 73)) := bw1.trans (hA.mono bw1.size)
  have XA := (X0.keep hb1).keep hA
  have hMd := ((bwA.block bm hlt).trans hb)
  have hwr : IntKind.i64.wrap (Q - ((used F n : Nat) : Int)) = Q - ((used F n : Nat) : Int) := by rw [IntKind.wrap_i64] <;> omega
  have hd : ¬ Q - ((used F n : Nat) : Int) < (m : Int) := by omega
  have cA : ∀ i u, #[Value.string (F j).nm, .slice da (F j).len dc, .int .i64 (F j).sy][i]? = some u → (w1.alloc (.cells #[.string (F j).nm, .slice da (F j).len dc, .int .i64 (F j).sy] 73)).cell? ⟨w1.heap.size, i, none⟩ = some u := fun i u hu => by
    match i, hu with
    | 0, hu => simp at hu; subst hu; simp [go_sem]
    | 1, hu => simp at hu; subst hu; simp [go_sem]
    | 2, hu => simp at hu; subst hu; simp [go_sem]
    | i + 3, hu => simp at hu
  have fA : ∀ i, (w1.alloc (.cells #[.string (F j).nm, .slice da (F j).len dc, .int .i64 (F j).sy] 73)).frozen? ⟨w1.heap.size, i, none⟩ = false := fun i => by simp [go_sem]
  have sA : (w1.alloc (.cells #[.string (F j).nm, .slice da (F j).len dc, .int .i64 (F j).sy] 73)).heap.size = w1.heap.size + 1 := by simp
  have sz1 := bw1.size
  obtain ⟨lx, x0, x1⟩ := id XA
  have hwl : w.heap.size < w1.heap.size := (X0.keep hb1).lt
  clear hB X0 hbA hb1 hb bw1 hA
  go_wp2
  generalize w1.alloc (.cells #[.string (F j).nm, .slice da (F j).len dc, .int .i64 (F j).sy] 73) = wA at *
  have hMd' : wA.drew.heap[bm]? = some (.map (ents F S n) n) := hMd
  go_region_held3 (fun w' => w'.cell? ⟨w.heap.size, 0, none⟩ = some (.int .i64 Q) ∧ w'.cell? ⟨w.heap.size, 1, none⟩ = some (.map (some bm))) (go_keep) (first | (go_at_call 72; refine (used_any Q bm n F S _ hMd' hS (by omega)).mono ?_; rintro e w2 ⟨rfl, hb2⟩; have hb2' := (Below.refl _ wA).drew.trans hb2; have e0 := (hb2'.cell (p := ⟨w.heap.size, 0, none⟩) lx).trans x0; have e1 := (hb2'.cell (p := ⟨w.heap.size, 1, none⟩) lx).trans x1))
  have hb3' : Below wA.heap.size wA w2 := hb2'
  clear hb2'
  have bw2 : Below w.heap.size w w2 := bwA.trans (hb3'.mono bwA.size)
  have s2 := hb3'.size
  have own2 : w2.ownsRow (bm + 2) 5 1 (.slice da (F j).len dc) (F j).len (bl (F j).f (F j).len) := by
    have := HD.out
    rw [hSj] at this
    exact brow_one this (fun b e => bw2.block b (brow_lt this e))
  have src2 : ∀ i, i < m → w2.cell? (ad.add i) = some (.int .u8 (h i)) := fun i hi => by
    have : (ad.add i).block = ad.block := by unfold Addr.add; split <;> rfl
    exact (World.cell?_of_block (w := w) (a := ad.add i) (bw2.block _ (by rw [this]; exact HA.out.1))).trans (HA.out.2.2 i hi)
  obtain ⟨p3, c3, w3, hrun, own3, hgr, hat⟩ := bapp_run w2 (bm + 2) da dc (F j).len m (F j).f h ad bc own2 src2 (by omega) (by have := bw2.size; omega)
  have s3 := hgr.size
  have ownlt : ∀ b, some b = (Value.slice da (F j).len dc).ownBlock → b < w.heap.size := fun b e => by
    have := HD.out
    rw [hSj] at this
    exact brow_lt this e
  have bl3 : ∀ k, k < w2.heap.size → some k ≠ (Value.slice da (F j).len dc).ownBlock → w3.heap[k]? = w2.heap[k]? := fun k h1 h2 => hgr.block k h1 h2
  have bx : w3.heap[w1.heap.size]? = wA.heap[w1.heap.size]? := (bl3 _ (by omega) (fun e => by have := ownlt _ e; omega)).trans (hb3'.block _ (by omega))
  have bd : w3.heap[w.heap.size]? = wA.heap[w.heap.size]? := (bl3 _ (by omega) (fun e => by have := ownlt _ e; omega)).trans (hb3'.block _ (by omega))
  have d1w2 := (hb3'.cell (p := ⟨w1.heap.size, 1, none⟩) (by show w1.heap.size < wA.heap.size; omega)).trans (cA 1 _ rfl)
  have d0 := (World.cell?_of_block (w := wA) (a := ⟨w1.heap.size, 0, none⟩) bx).trans (cA 0 _ rfl)
  have d1 := (World.cell?_of_block (w := wA) (a := ⟨w1.heap.size, 1, none⟩) bx).trans (cA 1 _ rfl)
  have d2 := (World.cell?_of_block (w := wA) (a := ⟨w1.heap.size, 2, none⟩) bx).trans (cA 2 _ rfl)
  have df : ∀ i, w3.frozen? ⟨w1.heap.size, i, none⟩ = false := fun i => (World.frozen?_of_block (w := wA) (a := ⟨w1.heap.size, i, none⟩) bx).trans (fA i)
  have y1 := (World.cell?_of_block (w := wA) (a := ⟨w.heap.size, 1, none⟩) bd).trans x1
  have bmne : some bm ≠ (Value.slice da (F j).len dc).ownBlock := fun e => by
    have := HD.out
    rw [hSj] at this
    have := brow_ge this e
    omega
  have hM2 := hM.keep bw2
  have hM4 : MHas (w3.setCell ⟨w1.heap.size, 1, none⟩ (.slice p3 ((F j).len + m) c3)) bm (lOf F S n) n := ⟨(Below.heap_setCell _ _ _ _ (by show bm ≠ w1.heap.size; omega)).trans ((bl3 bm (by omega) bmne).trans hM2.map), hM2.born, hM2.old, hM2.names⟩
  have hup := upd_old (P := Tryd.prog) (et := 73) Tryd.underlying58 Tryd.underlying9 hM4 (lOf_at F S hj) ((F j).nm, (p3, (F j).len + m, c3), (F j).sy) rfl
  have hfin : Hid (PutOut bm n F S j m h w (.returned .nilIface) (setBlock (w3.setCell ⟨w1.heap.size, 1, none⟩ (.slice p3 ((F j).len + m) c3)) bm (.map (esOf ((lOf F S n).set j (((F j).nm, (p3, (F j).len + m, c3), (F j).sy), j))) n))) := by
    have own4 : ∀ b, some b = (Value.slice p3 ((F j).len + m) c3).ownBlock → some b = (S j).ownBlock ∨ w.heap.size ≤ b := fun b e => by
      rw [hSj]
      rcases hat b e with g | g
      · exact .inl g
      · exact .inr (by have := bw2.size; omega)
    refine ⟨rfl, _, p3, c3, rfl, ⟨hgr.os.trans bw2.os, hgr.tape.trans bw2.tape, hgr.output.trans bw2.output, by have := bw2.size; simp; omega, fun k hk => ?_⟩, fun k h1 h2 => ?_, brow_one own3 (fun b e => Below.heap_setCell _ _ _ _ ?_), own4⟩
    · exact (Below.heap_setCell _ _ _ _ (by show k ≠ w1.heap.size; omega)).trans ((bl3 k (by have := bw2.size; omega) (fun e => by have := brow_ge own2 e; omega)).trans (bw2.block k (by omega)))
    · rw [hSj] at h2
      exact (Below.heap_setCell _ _ _ _ (by show k ≠ w1.heap.size; omega)).trans ((bl3 k (by have := bw2.size; omega) h2).trans (bw2.block k h1))
    · show b ≠ w1.heap.size
      rcases hat b e with g | g
      · have := ownlt b g; omega
      · omega
  clear hM2 hM4 bmne bx bd bl3 ownlt hat own3 own2 src2 hgr cA fA hM bw2 hMd hMd' XA bwA x0 x1 e0 hb2 hb3'
  go_wp2_with (first
    | (at_builtin; refine wpList_append_run _ rfl (.tmp 30) (.tmp 31) 35 rfl (.slice da (F j).len dc) (.slice (some ad) m bc) (.slice p3 ((F j).len + m) c3) rfl rfl w3 hrun ?_)
    | (at_mapUpdate; refine wpList_mapUpdate_run _ rfl (.tmp 35) (.tmp 36) (.tmp 37) 58 rfl _ _ _ rfl rfl rfl _ hup ?_))
  go_ret
  exact hfin.out
end Go.Proofs.YtgedpjabjoodjaaDoor
