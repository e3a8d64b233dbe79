/- slices.Insert over metas: one meta, anywhere. -/
import Derived.Test.YtofdhgffnkhdfaaAh
namespace Go.Proofs.Ytofdhgffnkhdfaa
open Go.RowKit
set_option linter.unusedSimpArgs false
set_option linter.unusedVariables false

/-- What Insert of one does. -/
def InsO (w : World) (base : Nat) (v : Value) (L : List Met) (i : Nat) (x : Met) (e : Ending) (w' : World) : Prop :=
  ∃ v', e = .returned v' ∧ OwnM w' base v' (putAt L i x) ∧ w.grownBy w' v.ownBlock ∧ (v'.ownBlock = v.ownBlock ∨ v'.ownBlock = some w.heap.size)

set_option maxHeartbeats 1600000 in
theorem insertM_any (base vb vc : Nat) (so : Option Addr) (sc : Nat) (L : List Met) (i : Nat) (x : Met) (w : World) (hO : OwnM w base (.slice so L.length sc) L) (hvb : w.heap[vb]? = some (.cells #[.int .i64 x.file, .string x.least, .string x.most, .int .i64 x.many] 65 (0, 0))) (hxb : MB x)
    (hne : ∀ c, (Value.slice so L.length sc).ownBlock = some c → vb ≠ c) (hi : i ≤ L.length) (hn : L.length ≤ 1048576) (hb : base ≤ w.heap.size) :
    Calls Try.prog 55 #[.slice so L.length sc, .int .i64 (i : Nat), .slice (some ⟨vb, 0, none⟩) 1 vc] w fun e w' => InsO w base (.slice so L.length sc) L i x e w' := by
  have hvlt : vb < w.heap.size := (Array.getElem?_eq_some_iff.1 hvb).1
  have hvs : ∀ j v, (mc x)[j]? = some v → w.cell? ⟨vb, j, none⟩ = some v := fun j v hj => by
    simp only [World.cell?, hvb, mc] at hj ⊢
    simpa using hj
  have hbd : ∀ z ∈ putAt L i x, MB z := fun z hz => by
    rcases List.mem_append.1 hz with h | h
    · exact hO.bd z (List.mem_of_mem_take h)
    · rcases List.mem_cons.1 h with rfl | h
      · exact hxb
      · exact hO.bd z (List.mem_of_mem_drop h)
  by_cases hend : i = L.length
  · subst hend
    have hx : MRow w (some ⟨vb, 0, none⟩) [x].length (mL [x]) := ⟨fun j hj => by
      have : j = 0 := by simpa using hj
      subst this; exact hxb, .inr ⟨vb, 0, rfl, hvlt, fun j hj => by
        have : j = 0 := by simpa using hj
        subst this
        exact mat_of hvlt fun q hq => by
          obtain ⟨u, hu⟩ : ∃ u, (mc x)[q]? = some u := ⟨_, List.getElem?_eq_getElem (by rw [mc_len]; exact hq)⟩
          have h3 := hvs q u hu
          simp only [Nat.zero_mul, Nat.zero_add, Nat.add_zero]
          rw [h3]; exact hu.symm⟩⟩
    refine (insertM_end base vb vc so sc L x w hO hx hn hb).mono ?_
    rintro e w' ⟨v', h1, h2, h3, h4⟩
    exact ⟨v', h1, by rw [putAt_end]; exact h2, h3, h4⟩
  · have hi2 : i < L.length := by omega
    have hcl := mf_len L
    have hown := hO.own
    rcases hO.own.2 with ⟨_, h0⟩ | ⟨g, cap, cur, hv, hbg, hg, hnc, hcm, hcs, htake⟩
    · omega
    · injection hv with e1 e2 e3
      subst e1 e3
      have hglt : g < w.heap.size := (Array.getElem?_eq_some_iff.1 hg).1
      have hvg : vb ≠ g := hne g rfl
      have hcc : ∀ j v, (L.flatMap mc)[j]? = some v → w.cell? ⟨g, j, none⟩ = some v := fun j v hj => by
        have hlt := (List.getElem?_eq_some_iff.1 hj).1
        rw [hcl] at hlt
        rw [hown.cellAt j hlt]; exact hj
      have hfz : ∀ j, w.frozen? ⟨g, j, none⟩ = false := fun j => hown.frozenAt j
      have hsm : ∀ j, j < cur.size → (w.cell? ⟨g, j, none⟩).isSome = true := fun j hj => by simp [World.cell?, hg, hj]
      have hdl : ((L.flatMap mc).drop (i * 4)).length = (L.length - i) * 4 := by rw [List.length_drop, hcl, Nat.sub_mul]
      by_cases hroom : L.length + 1 ≤ sc
      · refine (insertM_shift vb vc g L.length sc i (L.flatMap mc) (mc x) w hi2 hroom (by unfold maxLen at hcm; omega) hvg hcl rfl hcc (fun j hj => hsm j (by omega)) hfz hvs (mf_one L) (mc_one x) (fun o lb cb => overlapsM w vb g o lb cb vc hvg 65 65 4 cur.size (by simp [World.shape?, hvb]) (by simp [World.shape?, hg]) (by omega) (by simp [World.frozen?, hvb]) (by simp [World.frozen?, hvb]))).mono ?_
        rintro e w' ⟨rfl, rfl⟩
        obtain ⟨c1, k1, s1⟩ := setCells_heap g 65 ((L.flatMap mc).drop (i * 4)) ((i + 1) * 4) w.drew cur hg
        obtain ⟨c2, k2, s2⟩ := setCells_heap g 65 (mc x) (i * 4) _ c1 k1
        have o1 := setCells_others g ((L.flatMap mc).drop (i * 4)) ((i + 1) * 4) w.drew
        have o2 := setCells_others g (mc x) (i * 4) (w.drew.setCells g ((i + 1) * 4) ((L.flatMap mc).drop (i * 4)))
        have hsm1 : ∀ j, j < cur.size → ((w.drew.setCells g ((i + 1) * 4) ((L.flatMap mc).drop (i * 4))).cell? ⟨g, j, none⟩).isSome = true := fun j hj => by simp [World.cell?, k1, s1, hj]
        have hin := World.cell?_setCells_in g (mc x) (i * 4) (w.drew.setCells g ((i + 1) * 4) ((L.flatMap mc).drop (i * 4))) (fun j hj => hsm1 _ (by rw [mc_len] at hj; omega))
        have hin1 := World.cell?_setCells_in g ((L.flatMap mc).drop (i * 4)) ((i + 1) * 4) w.drew (fun j hj => hsm _ (by rw [hdl] at hj; omega))
        refine ⟨_, rfl, ?_, ⟨o2.os.trans o1.os, o2.tape.trans o1.tape, o2.output.trans o1.output, by rw [o2.size, o1.size]; exact Nat.le_refl _, fun k _ hk => (o2.block k (fun e => hk (by rw [e]; rfl))).trans (o1.block k (fun e => hk (by rw [e]; rfl)))⟩, .inl rfl⟩
        rw [← putAt_len (x := x) hi]
        refine own_of_cells hbg k2 (by rw [s2, s1]; exact hcs) (by rw [putAt_len hi]; exact hroom) hcm hbd ?_
        rw [mf_put L i x hi]
        refine lay3 (mc_len x) hcl hi (fun j v hj hv => ?_) (fun j v hj => ?_) (fun j v hj => ?_)
        · rw [World.cell?_setCells_out g _ _ _ ⟨g, j, none⟩ (fun _ _ => .inl hj), World.cell?_setCells_out g _ _ _ ⟨g, j, none⟩ (fun _ _ => .inl (by show j < (i + 1) * 4; omega))]
          exact hcc j v hv
        · obtain ⟨h1, h2⟩ := List.getElem?_eq_some_iff.1 hj
          rw [hin j h1, h2]
        · obtain ⟨h1, h2⟩ := List.getElem?_eq_some_iff.1 hj
          rw [World.cell?_setCells_out g _ _ _ ⟨g, (i + 1) * 4 + j, none⟩ (fun _ _ => .inr (by rw [mc_len]; show i * 4 + 4 ≤ (i + 1) * 4 + j; omega)), hin1 j h1, h2]
      · refine (insertM_grow vb vc g L.length sc i (L.flatMap mc) (mc x) w hi2 hnc (by omega) hn hcl rfl hglt hvlt hcc hvs (mf_one L) (mc_one x)).mono ?_
        rintro e w' ⟨G, ROW, hG1, hG2, hR1, hR2, rfl, rfl⟩
        have k0 : (w.drew.alloc (.cells ROW 65)).heap[w.heap.size]? = some (.cells ROW 65 (0, 0)) := heap_alloc_new w.drew _
        obtain ⟨c1, k1, s1⟩ := setCells_heap w.heap.size 65 (mc x) (i * 4) (w.drew.alloc (.cells ROW 65)) ROW k0
        obtain ⟨c2, k2, s2⟩ := setCells_heap w.heap.size 65 ((L.flatMap mc).drop (i * 4)) ((i + 1) * 4) ((w.drew.alloc (.cells ROW 65)).setCells w.heap.size (i * 4) (mc x)).drew c1 k1
        have o1 := setCells_others w.heap.size (mc x) (i * 4) (w.drew.alloc (.cells ROW 65))
        have o2 := setCells_others w.heap.size ((L.flatMap mc).drop (i * 4)) ((i + 1) * 4) ((w.drew.alloc (.cells ROW 65)).setCells w.heap.size (i * 4) (mc x)).drew
        have hB : Below w.heap.size w (w.drew.alloc (.cells ROW 65)) := (Below.refl _ w).drew.alloc (Nat.le_refl _) _
        have hsm0 : ∀ j, j < ROW.size → ((w.drew.alloc (.cells ROW 65)).cell? ⟨w.heap.size, j, none⟩) = ROW[j]? := fun j hj => by simp only [World.cell?, k0]; rfl
        have hsm1 : ∀ j, j < ROW.size → (((w.drew.alloc (.cells ROW 65)).setCells w.heap.size (i * 4) (mc x)).drew.cell? ⟨w.heap.size, j, none⟩).isSome = true := fun j hj => by
          show (((w.drew.alloc (.cells ROW 65)).setCells w.heap.size (i * 4) (mc x)).cell? ⟨w.heap.size, j, none⟩).isSome = true
          simp [World.cell?, k1, s1, hj]
        have hin := World.cell?_setCells_in w.heap.size (mc x) (i * 4) (w.drew.alloc (.cells ROW 65)) (fun j hj => by rw [mc_len] at hj; rw [hsm0 _ (by omega), Array.getElem?_eq_getElem (by omega)]; rfl)
        have hin1 := World.cell?_setCells_in w.heap.size ((L.flatMap mc).drop (i * 4)) ((i + 1) * 4) ((w.drew.alloc (.cells ROW 65)).setCells w.heap.size (i * 4) (mc x)).drew (fun j hj => hsm1 _ (by rw [hdl] at hj; omega))
        refine ⟨_, rfl, ?_, ⟨o2.os.trans (o1.os.trans hB.os), o2.tape.trans (o1.tape.trans hB.tape), o2.output.trans (o1.output.trans hB.output), by rw [o2.size]; show _ ≤ ((w.drew.alloc (.cells ROW 65)).setCells w.heap.size (i * 4) (mc x)).heap.size; rw [o1.size]; exact hB.size, fun k hk _ => (o2.block k (by omega)).trans ((o1.block k (by omega)).trans (hB.block k hk))⟩, .inr rfl⟩
        rw [← putAt_len (x := x) hi]
        refine own_of_cells hb k2 (by rw [s2, s1]; exact hR1) (by rw [putAt_len hi]; exact hG1) hG2 hbd ?_
        rw [mf_put L i x hi]
        refine lay3 (mc_len x) hcl hi (fun j v hj hv => ?_) (fun j v hj => ?_) (fun j v hj => ?_)
        · rw [World.cell?_setCells_out w.heap.size _ _ _ ⟨w.heap.size, j, none⟩ (fun _ _ => .inl (by show j < (i + 1) * 4; omega))]
          show ((w.drew.alloc (.cells ROW 65)).setCells w.heap.size (i * 4) (mc x)).cell? ⟨w.heap.size, j, none⟩ = some v
          rw [World.cell?_setCells_out w.heap.size _ _ _ ⟨w.heap.size, j, none⟩ (fun _ _ => .inl hj), hsm0 j (by omega), hR2 j hj]
          exact hv
        · obtain ⟨h1, h2⟩ := List.getElem?_eq_some_iff.1 hj
          rw [World.cell?_setCells_out w.heap.size _ _ _ ⟨w.heap.size, i * 4 + j, none⟩ (fun _ _ => .inl (by rw [mc_len] at h1; show i * 4 + j < (i + 1) * 4; omega))]
          show ((w.drew.alloc (.cells ROW 65)).setCells w.heap.size (i * 4) (mc x)).cell? ⟨w.heap.size, i * 4 + j, none⟩ = some v
          rw [hin j h1, h2]
        · obtain ⟨h1, h2⟩ := List.getElem?_eq_some_iff.1 hj
          rw [hin1 j h1, h2]
end Go.Proofs.Ytofdhgffnkhdfaa
