/- l5Put: an entry at its place, in the model. -/
import Derived.Test.YtmeckcaekkangaaGreatPe
import Derived.Test.YtmeckcaekkangaaGreatLo
import Derived.Test.YtmeckcaekkangaaGreatBef
namespace Go.Proofs.YtmeckcaekkangaaGreat
set_option maxRecDepth 100000
open Go.RowKit
set_option linter.unusedSimpArgs false
set_option linter.unusedVariables false

/-- The cells of entries, whose lists are V. -/
def fm (X : Nat → Ent) (V : Nat → Value) (p m : Nat) : List Value := (List.range m).flatMap fun i => ecells (X (p + i)) (V (p + i))
theorem fm_len (X : Nat → Ent) (V : Nat → Value) (p m : Nat) : (fm X V p m).length = m * 9 := fm9_len m (fun i => X (p + i)) (fun i => V (p + i))
theorem fm_zero (X : Nat → Ent) (V : Nat → Value) (m : Nat) : fm X V 0 m = (List.range m).flatMap fun i => ecells (X i) (V i) := by simp [fm]
/-- What is known of the lists of entries that lie at an address. -/
structure EV (w : World) (b off n : Nat) (X : Nat → Ent) (V : Nat → Value) : Prop where
  row : ∀ i, i < n → ∃ lo lc, V i = .slice lo (X i).n lc ∧ IRow w lo (X i).n (X i).f
  cell : ∀ w', Below w.heap.size w w' → ∀ i, i < n → ∀ j, j < 9 → w'.cell? ⟨b, off + i * 9 + j, none⟩ = (ecells (X i) (V i))[j]?
theorem ev_of {w : World} {b off n : Nat} {X : Nat → Ent} (h : ERow w (some ⟨b, off, none⟩) n X) : ∃ V, EV w b off n X V := by
  obtain ⟨hbd, hl⟩ := h
  rcases hl with rfl | ⟨b', off', e, hlt, hc⟩
  · exact ⟨fun _ => .slice none 0 0, fun i hi => absurd hi (Nat.not_lt_zero _), fun _ _ i hi => absurd hi (Nat.not_lt_zero _)⟩
  · injection e with e
    injection e with e1 e2 _
    subst e1 e2
    have hc' : ∀ i, ∃ v : Value, i < n → ∃ da dc, v = .slice da (X i).n dc ∧ EAt w b (off + i * 9) (X i) da dc ∧ IRow w da (X i).n (X i).f := fun i => by
      by_cases hi : i < n
      · obtain ⟨da, dc, h1, h2⟩ := hc i hi
        exact ⟨_, fun _ => ⟨da, dc, rfl, h1, h2⟩⟩
      · exact ⟨.slice none 0 0, fun h => absurd h hi⟩
    refine ⟨fun i => (hc' i).choose, fun i hi => ?_, fun w' hb i hi j hj => ?_⟩
    · obtain ⟨da, dc, h1, _, h3⟩ := (hc' i).choose_spec hi
      exact ⟨da, dc, h1, h3⟩
    · obtain ⟨da, dc, h1, h2, _⟩ := (hc' i).choose_spec hi
      show _ = (ecells (X i) (hc' i).choose)[j]?
      rw [h1]
      obtain ⟨_, a0, a1, a2, a3, a4, a5, a6, a7, a8⟩ := h2.keep hb
      rcases j with _ | _ | _ | _ | _ | _ | _ | _ | _ | j
      · exact a0
      · exact a1
      · exact a2
      · exact a3
      · exact a4
      · exact a5
      · exact a6
      · exact a7
      · exact a8
      · omega
theorem EV.src {w w' : World} {b off n p m : Nat} {X : Nat → Ent} {V : Nat → Value} (h : EV w b off n X V) (hb : Below w.heap.size w w') (hp : p + m ≤ n) : ∀ j u, (fm X V p m)[j]? = some u → w'.cell? ((⟨b, off + p * 9, none⟩ : Addr).add j) = some u := by
  intro j u hj
  have hlt : j < m * 9 := by
    have := (List.getElem?_eq_some_iff.1 hj).1
    rwa [fm_len] at this
  have e1 : j = j / 9 * 9 + j % 9 := by omega
  have h2 : j / 9 < m := by omega
  have h3 : j % 9 < 9 := by omega
  rw [show (⟨b, off + p * 9, none⟩ : Addr).add j = ⟨b, off + p * 9 + j, none⟩ from by simp [Addr.add]]
  have e2 : off + p * 9 + j = off + (p + j / 9) * 9 + j % 9 := by omega
  rw [e2, h.cell w' hb (p + j / 9) (by omega) (j % 9) h3, ← hj]
  have h4 := fm9_get m (fun i => X (p + i)) (fun i => V (p + i)) h2 h3
  rw [← e1] at h4
  exact h4.symm
theorem ecells_one {x : Ent} {hv : Value} {lo : Option Addr} {a c : Nat} (h : hv = .slice lo a c) : ∀ u ∈ ecells x hv, u.oneCell' = true := by
  subst h
  intro u hu
  simp only [ecells, List.mem_cons, List.not_mem_nil, or_false] at hu
  rcases hu with rfl | rfl | rfl | rfl | rfl | rfl | rfl | rfl | rfl <;> rfl
theorem EV.one {w : World} {b off n p m : Nat} {X : Nat → Ent} {V : Nat → Value} (h : EV w b off n X V) (hp : p + m ≤ n) : ∀ u ∈ fm X V p m, u.oneCell' = true := by
  intro u hu
  obtain ⟨i, hi, hu⟩ := List.mem_flatMap.1 hu
  obtain ⟨lo, lc, e, _⟩ := h.row (p + i) (by have := List.mem_range.1 hi; omega)
  exact ecells_one e u hu
theorem fm_join (X : Nat → Ent) (V : Nat → Value) (x : Ent) (hv : Value) (n P : Nat) (hP : P ≤ n) : fm X V 0 P ++ ecells x hv ++ fm X V P (n - P) = (List.range (n + 1)).flatMap fun i => ecells (pX X x P i) (if i < P then V i else if i = P then hv else V (i - 1)) := by
  have e : n + 1 = P + 1 + (n - P) := by omega
  rw [e, List.range_add, List.range_succ, List.flatMap_append, List.flatMap_append]
  congr 1
  · congr 1
    · rw [fm_zero]
      unfold List.flatMap
      congr 1
      refine List.map_congr_left fun i hi => ?_
      have := List.mem_range.1 hi
      simp [pX, this]
    · simp [pX]
  · unfold fm
    rw [List.flatMap_map]
    unfold List.flatMap
    congr 1
    refine List.map_congr_left fun i hi => ?_
    have h1 : ¬ P + 1 + i < P := by omega
    have h2 : ¬ P + 1 + i = P := by omega
    have h3 : P + 1 + i - 1 = P + i := by omega
    simp only [pX, h1, h2, h3, if_false]

/-- The lists behind an entry that is put at P. -/
def pV (V : Nat → Value) (hv : Value) (P i : Nat) : Value := if i < P then V i else if i = P then hv else V (i - 1)
/-- What l5Put leaves: a row of the call's own. -/
def PqO (n : Nat) (Y : Nat → Ent) (U : Nat → Value) (w : World) (e : Ending) (w' : World) : Prop := ∃ lo lc, e = .returned (.slice lo (n + 1) lc) ∧ w'.ownsRow w.heap.size 48 9 (.slice lo (n + 1) lc) (n + 1) ((List.range (n + 1)).flatMap fun i => ecells (Y i) (U i)) ∧ Below w.heap.size w w'

set_option maxRecDepth 100000 in
set_option maxHeartbeats 8000000 in
theorem l5Put_eq (b off n : Nat) (X : Nat → Ent) (x : Ent) (xo : Option Addr) (xc : Nat) (w : World) (hr : ERow w (some ⟨b, off, none⟩) n X) (V : Nat → Value) (hV : EV w b off n X V) (hn : n ≤ 1000) :
    Calls Tryz.prog 27 #[.slice (some ⟨b, off, none⟩) n n, .agg #[.string x.key, .int .i64 x.seq, .int .i64 x.kind, .int .i64 x.c, .int .i64 x.s, .int .i64 x.lo, .int .i64 x.hi, .slice xo x.n xc, .bool x.fu]] w fun e w' => PqO n (pX X x (pc X n x 0)) (pV V (.slice xo x.n xc) (pc X n x 0)) w e w' := by
  obtain ⟨i0, hi, hz0, hz1, hz2⟩ := info_parts Tryz.infoEnt
  obtain ⟨P, hPe⟩ : ∃ P, pc X n x 0 = P := ⟨_, rfl⟩
  have HP : Hid (pc X n x 0 = P) := hPe
  rw [hPe]
  clear hPe
  obtain ⟨hbd, hlies⟩ := hr
  have hB := below_new w (.cells #[.string x.key, .int .i64 x.seq, .int .i64 x.kind, .int .i64 x.c, .int .i64 x.s, .int .i64 x.lo, .int .i64 x.hi, .slice xo x.n xc, .bool x.fu] 48)
  have EX := EAt.new w x xo xc 48
  have HF : Hid (∀ (w9 : World) (v : Value), w9.ownsRow w.heap.size 48 9 v (P + 1 + (n - P)) (fm X V 0 P ++ ecells x (.slice xo x.n xc) ++ fm X V P (n - P)) → Below w.heap.size w w9 → P ≤ n → ∃ lo lc, v = .slice lo (n + 1) lc ∧ w9.ownsRow w.heap.size 48 9 (.slice lo (n + 1) lc) (n + 1) ((List.range (n + 1)).flatMap fun i => ecells (pX X x P i) (pV V (.slice xo x.n xc) P i))) := by
    intro w9 v ho hb hPn
    rw [fm_join X V x _ n P hPn, show P + 1 + (n - P) = n + 1 by omega] at ho
    obtain ⟨lo, lc, rfl⟩ := ownsRow_form ho
    exact ⟨lo, lc, rfl, ho⟩
  go_enter Tryz.func27, Tryz.ntmps27
  go_wp2
  generalize w.alloc (.cells #[.string x.key, .int .i64 x.seq, .int .i64 x.kind, .int .i64 x.c, .int .i64 x.s, .int .i64 x.lo, .int .i64 x.hi, .slice xo x.n xc, .bool x.fu] 48) = w0 at hB EX ⊢
  go_loopw [5] (fun i wr => ∃ k : Nat, k ≤ n ∧ i = .int .i64 k ∧ Hid (pc X n x k = P) ∧ Below w0.heap.size w0 wr) (fun i _ => n - (intOf i).toNat)
  case atStart => exact ⟨0, Nat.zero_le _, rfl, HP, Below.refl _ _⟩
  case round =>
    clear HP
    obtain ⟨k, hk, rfl, HK, hbk⟩ := hrel
    have eb := EX.keep hbk
    by_cases hlt : k < n
    · obtain ⟨b', off', e, hblt, hc⟩ := hlies.resolve_left (by omega)
      injection e with e
      injection e with e1 e2 _
      subst e1 e2
      obtain ⟨da, dc, ea0, _⟩ := hc k hlt
      have ea := (ea0.keep hB).keep hbk
      have ea' := ea
      obtain ⟨_, a0, a1, a2, a3, a4, a5, a6, a7, a8⟩ := ea'
      have eb' := eb
      obtain ⟨_, b0, b1, b2, b3, b4, b5, b6, b7, b8⟩ := eb'
      simp only [Nat.zero_add] at b1 b2 b3 b4 b5 b6 b7 b8
      have hkd : decide ((k : Int) < (n : Int)) = true := by simp; omega
      clear ea0 hc hlies
      by_cases hcmp : cE (X k) x < 0
      · have hbb : ∀ b6 : Bool, (b6 = true ↔ Bef (X k) x) → b6 = true := fun b6 h => h.2 ((cE_lt _ _).1 hcmp)
        have HK2 : Hid (pc X n x (k + 1) = P) := by
          have := HK.out
          rwa [pc_step hlt hcmp] at this
        clear HK hcmp HF
        go_wp2
        go_region_held3 (fun w' => w'.cell? ⟨b, off + k * 9, none⟩ = some (.string (X k).key) ∧ w'.cell? ⟨b, off + k * 9 + 1, none⟩ = some (.int .i64 (X k).seq) ∧ w'.cell? ⟨b, off + k * 9 + 2, none⟩ = some (.int .i64 (X k).kind) ∧ w'.cell? ⟨b, off + k * 9 + 3, none⟩ = some (.int .i64 (X k).c) ∧ w'.cell? ⟨b, off + k * 9 + 4, none⟩ = some (.int .i64 (X k).s) ∧ w'.cell? ⟨b, off + k * 9 + 5, none⟩ = some (.int .i64 (X k).lo) ∧ w'.cell? ⟨b, off + k * 9 + 6, none⟩ = some (.int .i64 (X k).hi) ∧ w'.cell? ⟨b, off + k * 9 + 7, none⟩ = some (.slice da (X k).n dc) ∧ w'.cell? ⟨b, off + k * 9 + 8, none⟩ = some (.bool (X k).fu) ∧ w'.cell? ⟨w.heap.size, 0, none⟩ = some (.string x.key) ∧ w'.cell? ⟨w.heap.size, 1, none⟩ = some (.int .i64 x.seq) ∧ w'.cell? ⟨w.heap.size, 2, none⟩ = some (.int .i64 x.kind) ∧ w'.cell? ⟨w.heap.size, 3, none⟩ = some (.int .i64 x.c) ∧ w'.cell? ⟨w.heap.size, 4, none⟩ = some (.int .i64 x.s) ∧ w'.cell? ⟨w.heap.size, 5, none⟩ = some (.int .i64 x.lo) ∧ w'.cell? ⟨w.heap.size, 6, none⟩ = some (.int .i64 x.hi) ∧ w'.cell? ⟨w.heap.size, 7, none⟩ = some (.slice xo x.n xc) ∧ w'.cell? ⟨w.heap.size, 8, none⟩ = some (.bool x.fu)) (go_keep) (first | (go_at_call 52; refine (l5Before_any (X k) x da xo dc xc _).mono ?_; rintro e w6 ⟨b6, rfl, h6, hb6⟩; obtain rfl : b6 = true := hbb _ h6; have hb6' := (Below.refl _ wr).drew.trans hb6; obtain ⟨_, p0, p1, p2, p3, p4, p5, p6, p7, p8⟩ := ea.keep hb6'; obtain ⟨_, q0, q1, q2, q3, q4, q5, q6, q7, q8⟩ := eb.keep hb6'; simp only [Nat.zero_add] at q1 q2 q3 q4 q5 q6 q7 q8; have eb6 := eb.keep hb6'; have bk6 := hbk.trans (hb6'.mono hbk.size); clear hb6 hb6' h6))
        clear ea eb hbk a0 a1 a2 a3 a4 a5 a6 a7 a8 b0 b1 b2 b3 b4 b5 b6 b7 b8 p0 p1 p2 p3 p4 p5 p6 p7 p8 q0 q1 q2 q3 q4 q5 q6 q7 q8 hbb eb6
        go_wp2
        go_roundw
        case rel => exact ⟨k + 1, by omega, by go_num, HK2, bk6⟩
        case measure => simp [intOf]; omega
      · have hbb : ∀ b6 : Bool, (b6 = true ↔ Bef (X k) x) → b6 = false := fun b6 h => by
          cases b6
          · rfl
          · exact absurd ((cE_lt _ _).2 (h.1 rfl)) hcmp
        have HK2 : Hid (k = P) := by
          have := HK.out
          rw [pc_stop hlt hcmp] at this
          exact this
        clear HK hcmp
        go_wp2
        go_region_held3 (fun w' => w'.cell? ⟨b, off + k * 9, none⟩ = some (.string (X k).key) ∧ w'.cell? ⟨b, off + k * 9 + 1, none⟩ = some (.int .i64 (X k).seq) ∧ w'.cell? ⟨b, off + k * 9 + 2, none⟩ = some (.int .i64 (X k).kind) ∧ w'.cell? ⟨b, off + k * 9 + 3, none⟩ = some (.int .i64 (X k).c) ∧ w'.cell? ⟨b, off + k * 9 + 4, none⟩ = some (.int .i64 (X k).s) ∧ w'.cell? ⟨b, off + k * 9 + 5, none⟩ = some (.int .i64 (X k).lo) ∧ w'.cell? ⟨b, off + k * 9 + 6, none⟩ = some (.int .i64 (X k).hi) ∧ w'.cell? ⟨b, off + k * 9 + 7, none⟩ = some (.slice da (X k).n dc) ∧ w'.cell? ⟨b, off + k * 9 + 8, none⟩ = some (.bool (X k).fu) ∧ w'.cell? ⟨w.heap.size, 0, none⟩ = some (.string x.key) ∧ w'.cell? ⟨w.heap.size, 1, none⟩ = some (.int .i64 x.seq) ∧ w'.cell? ⟨w.heap.size, 2, none⟩ = some (.int .i64 x.kind) ∧ w'.cell? ⟨w.heap.size, 3, none⟩ = some (.int .i64 x.c) ∧ w'.cell? ⟨w.heap.size, 4, none⟩ = some (.int .i64 x.s) ∧ w'.cell? ⟨w.heap.size, 5, none⟩ = some (.int .i64 x.lo) ∧ w'.cell? ⟨w.heap.size, 6, none⟩ = some (.int .i64 x.hi) ∧ w'.cell? ⟨w.heap.size, 7, none⟩ = some (.slice xo x.n xc) ∧ w'.cell? ⟨w.heap.size, 8, none⟩ = some (.bool x.fu)) (go_keep) (first | (go_at_call 52; refine (l5Before_any (X k) x da xo dc xc _).mono ?_; rintro e w6 ⟨b6, rfl, h6, hb6⟩; obtain rfl : b6 = false := hbb _ h6; have hb6' := (Below.refl _ wr).drew.trans hb6; obtain ⟨_, p0, p1, p2, p3, p4, p5, p6, p7, p8⟩ := ea.keep hb6'; obtain ⟨_, q0, q1, q2, q3, q4, q5, q6, q7, q8⟩ := eb.keep hb6'; simp only [Nat.zero_add] at q1 q2 q3 q4 q5 q6 q7 q8; have eb6 := eb.keep hb6'; have bk6 := hbk.trans (hb6'.mono hbk.size); clear hb6 hb6' h6))
        clear ea eb hbk a0 a1 a2 a3 a4 a5 a6 a7 a8 b0 b1 b2 b3 b4 b5 b6 b7 b8 p0 p1 p2 p3 p4 p5 p6 p7 p8 q0 q1 q2 q3 q4 q5 q6 q7 q8 hbb
        have bw6 : Below w.heap.size w w6 := hB.trans (bk6.mono hB.size)
        obtain rfl := HK2.out
        clear HK2
        have eT := eb6
        have bT := bw6
        clear eb6 bw6 bk6
        generalize w6 = wT at eT bT ⊢
        have t1 : True := trivial
        have t2 : True := trivial
        have sT : w.heap.size ≤ wT.heap.size := bT.size
        go_wp2_with (first
          | (at_builtin; clear t1; refine wpList_append_own _ rfl (.tmp 21) (.tmp 24) 26 rfl w.heap.size 48 i0 _ 9 96 Tryz.underlying26 hi hz0 hz1 hz2 rfl (by decide) (.slice none 0 0) 0 [] rfl (World.ownsRow_nil _ _ _ _) ⟨b, off + 0 * 9, none⟩ k n (fm X V 0 k) rfl (fm_len _ _ _ _) (hV.src bT (by omega)) (hV.one (by omega)) (by unfold maxLen; omega) (by omega) sT ?_; intro v7 w7 O7 g7 _; have k7 : Below wT.heap.size wT w7 := (Below.refl _ _).grown g7 (Nat.le_refl _) (fun q hq => by simp [Value.ownBlock] at hq); have b7 : Below w.heap.size w w7 := bT.trans (k7.mono sT); have s7 : w.heap.size ≤ w7.heap.size := b7.size; rw [Nat.zero_add, List.nil_append] at O7; obtain ⟨lo7, lc7, rfl⟩ := ownsRow_form O7; obtain ⟨_, c0, c1, c2, c3, c4, c5, c6, c7, c8⟩ := (eT.keep k7).z; clear g7 k7)
          | (at_builtin; clear t2; refine wpList_append_own (w := w7.alloc (.cells #[.string x.key, .int .i64 x.seq, .int .i64 x.kind, .int .i64 x.c, .int .i64 x.s, .int .i64 x.lo, .int .i64 x.hi, .slice xo x.n xc, .bool x.fu] 48)) rfl (.tmp 26) (.tmp 28) 26 rfl w.heap.size 48 i0 _ 9 96 Tryz.underlying26 hi hz0 hz1 hz2 rfl (by decide) (.slice lo7 k lc7) k _ rfl (ownsRow_keep O7 (below_new _ _)) ⟨w7.heap.size, 0, none⟩ 1 1 (ecells x (.slice xo x.n xc)) rfl rfl (nine_new w7 x _ 48) (ecells_one rfl) (by unfold maxLen; omega) (by omega) (by simp; omega) ?_; intro v8 w8 O8 g8 _; have b8 : Below w.heap.size w w8 := (b7.alloc s7 _).grown g8 (by simp; omega) (fun q hq => (O7.lt q hq).1); have s8 : w.heap.size ≤ w8.heap.size := b8.size; obtain ⟨lo8, lc8, rfl⟩ := ownsRow_form O8; clear g8)
          | (at_builtin; refine wpList_append_own _ rfl (.tmp 30) (.tmp 33) 26 rfl w.heap.size 48 i0 _ 9 96 Tryz.underlying26 hi hz0 hz1 hz2 rfl (by decide) (.slice lo8 (k + 1) lc8) (k + 1) _ rfl O8 ⟨b, off + k * 9, none⟩ (n - k) (n - k) (fm X V k (n - k)) rfl (fm_len _ _ _ _) (hV.src b8 (by omega)) (hV.one (by omega)) (by unfold maxLen; omega) (by omega) s8 ?_; intro v9 w9 O9 g9 _; have b9 : Below w.heap.size w w9 := b8.grown g9 s8 (fun q hq => (O8.lt q hq).1); obtain ⟨lo9, lc9, rfl, hE⟩ := HF.out w9 _ O9 b9 (by omega); clear O9 g9)
          | (at_builtin; refine wpList_append_own _ rfl (.tmp 30) (.tmp 33) 26 rfl w.heap.size 48 i0 _ 9 96 Tryz.underlying26 hi hz0 hz1 hz2 rfl (by decide) (.slice lo8 (k + 1) lc8) (k + 1) _ rfl O8 ⟨b, off, none⟩ 0 0 (fm X V k 0) rfl (fm_len _ _ _ _) (fun j u h => by simp [fm] at h) (fun u h => by simp [fm] at h) (by unfold maxLen; omega) (by omega) s8 ?_; intro v9 w9 O9 g9 _; have b9 : Below w.heap.size w w9 := b8.grown g9 s8 (fun q hq => (O8.lt q hq).1); obtain ⟨lo9, lc9, rfl, hE⟩ := HF.out w9 _ (by rw [show n - k = 0 by omega]; exact O9) b9 (by omega); clear O9 g9)
          | (at_builtin; refine wpList_append_own _ rfl (.tmp 30) (.tmp 33) 26 rfl w.heap.size 48 i0 _ 9 96 Tryz.underlying26 hi hz0 hz1 hz2 rfl (by decide) (.slice lo8 (k + 1) lc8) (k + 1) _ rfl O8 ⟨b, off, none⟩ (n - k) (n - k) (fm X V k (n - k)) rfl (fm_len _ _ _ _) (fun j u h => by rw [show n - k = 0 by omega] at h; simp [fm] at h) (fun u h => by rw [show n - k = 0 by omega] at h; simp [fm] at h) (by unfold maxLen; omega) (by omega) s8 ?_; intro v9 w9 O9 g9 _; have b9 : Below w.heap.size w w9 := b8.grown g9 s8 (fun q hq => (O8.lt q hq).1); obtain ⟨lo9, lc9, rfl, hE⟩ := HF.out w9 _ O9 b9 (by omega); clear O9 g9))
        all_goals exact bodyPost_ret (v := .slice lo9 (n + 1) lc9) (by simp [results, Tryz.results27, go_sem]) rfl ⟨lo9, lc9, rfl, hE, b9⟩
    · have HK2 : Hid (k = P) := by
        have := HK.out
        rw [pc_end (by omega)] at this
        exact this
      have hkd : decide ((k : Int) < (n : Int)) = false := by simp; omega
      clear HK hlies
      go_wp2
      go_quiet (fail)
      obtain rfl := HK2.out
      clear HK2
      have eT := eb.keep (below_drewN (Below.refl _ _) nq)
      have bT : Below w.heap.size w (wr.drewN nq) := below_drewN (hB.trans (hbk.mono hB.size)) _
      clear eb hbk
      generalize wr.drewN nq = wT at eT bT ⊢
      have t1 : True := trivial
      have t2 : True := trivial
      have sT : w.heap.size ≤ wT.heap.size := bT.size
      go_wp2_with (first
        | (at_builtin; clear t1; refine wpList_append_own _ rfl (.tmp 21) (.tmp 24) 26 rfl w.heap.size 48 i0 _ 9 96 Tryz.underlying26 hi hz0 hz1 hz2 rfl (by decide) (.slice none 0 0) 0 [] rfl (World.ownsRow_nil _ _ _ _) ⟨b, off + 0 * 9, none⟩ k n (fm X V 0 k) rfl (fm_len _ _ _ _) (hV.src bT (by omega)) (hV.one (by omega)) (by unfold maxLen; omega) (by omega) sT ?_; intro v7 w7 O7 g7 _; have k7 : Below wT.heap.size wT w7 := (Below.refl _ _).grown g7 (Nat.le_refl _) (fun q hq => by simp [Value.ownBlock] at hq); have b7 : Below w.heap.size w w7 := bT.trans (k7.mono sT); have s7 : w.heap.size ≤ w7.heap.size := b7.size; rw [Nat.zero_add, List.nil_append] at O7; obtain ⟨lo7, lc7, rfl⟩ := ownsRow_form O7; obtain ⟨_, c0, c1, c2, c3, c4, c5, c6, c7, c8⟩ := (eT.keep k7).z; clear g7 k7)
        | (at_builtin; clear t2; refine wpList_append_own (w := w7.alloc (.cells #[.string x.key, .int .i64 x.seq, .int .i64 x.kind, .int .i64 x.c, .int .i64 x.s, .int .i64 x.lo, .int .i64 x.hi, .slice xo x.n xc, .bool x.fu] 48)) rfl (.tmp 26) (.tmp 28) 26 rfl w.heap.size 48 i0 _ 9 96 Tryz.underlying26 hi hz0 hz1 hz2 rfl (by decide) (.slice lo7 k lc7) k _ rfl (ownsRow_keep O7 (below_new _ _)) ⟨w7.heap.size, 0, none⟩ 1 1 (ecells x (.slice xo x.n xc)) rfl rfl (nine_new w7 x _ 48) (ecells_one rfl) (by unfold maxLen; omega) (by omega) (by simp; omega) ?_; intro v8 w8 O8 g8 _; have b8 : Below w.heap.size w w8 := (b7.alloc s7 _).grown g8 (by simp; omega) (fun q hq => (O7.lt q hq).1); have s8 : w.heap.size ≤ w8.heap.size := b8.size; obtain ⟨lo8, lc8, rfl⟩ := ownsRow_form O8; clear g8)
        | (at_builtin; refine wpList_append_own _ rfl (.tmp 30) (.tmp 33) 26 rfl w.heap.size 48 i0 _ 9 96 Tryz.underlying26 hi hz0 hz1 hz2 rfl (by decide) (.slice lo8 (k + 1) lc8) (k + 1) _ rfl O8 ⟨b, off + k * 9, none⟩ (n - k) (n - k) (fm X V k (n - k)) rfl (fm_len _ _ _ _) (hV.src b8 (by omega)) (hV.one (by omega)) (by unfold maxLen; omega) (by omega) s8 ?_; intro v9 w9 O9 g9 _; have b9 : Below w.heap.size w w9 := b8.grown g9 s8 (fun q hq => (O8.lt q hq).1); obtain ⟨lo9, lc9, rfl, hE⟩ := HF.out w9 _ O9 b9 (by omega); clear O9 g9)
        | (at_builtin; refine wpList_append_own _ rfl (.tmp 30) (.tmp 33) 26 rfl w.heap.size 48 i0 _ 9 96 Tryz.underlying26 hi hz0 hz1 hz2 rfl (by decide) (.slice lo8 (k + 1) lc8) (k + 1) _ rfl O8 ⟨b, off, none⟩ 0 0 (fm X V k 0) rfl (fm_len _ _ _ _) (fun j u h => by simp [fm] at h) (fun u h => by simp [fm] at h) (by unfold maxLen; omega) (by omega) s8 ?_; intro v9 w9 O9 g9 _; have b9 : Below w.heap.size w w9 := b8.grown g9 s8 (fun q hq => (O8.lt q hq).1); obtain ⟨lo9, lc9, rfl, hE⟩ := HF.out w9 _ (by rw [show n - k = 0 by omega]; exact O9) b9 (by omega); clear O9 g9)
        | (at_builtin; refine wpList_append_own _ rfl (.tmp 30) (.tmp 33) 26 rfl w.heap.size 48 i0 _ 9 96 Tryz.underlying26 hi hz0 hz1 hz2 rfl (by decide) (.slice lo8 (k + 1) lc8) (k + 1) _ rfl O8 ⟨b, off, none⟩ (n - k) (n - k) (fm X V k (n - k)) rfl (fm_len _ _ _ _) (fun j u h => by rw [show n - k = 0 by omega] at h; simp [fm] at h) (fun u h => by rw [show n - k = 0 by omega] at h; simp [fm] at h) (by unfold maxLen; omega) (by omega) s8 ?_; intro v9 w9 O9 g9 _; have b9 : Below w.heap.size w w9 := b8.grown g9 s8 (fun q hq => (O8.lt q hq).1); obtain ⟨lo9, lc9, rfl, hE⟩ := HF.out w9 _ O9 b9 (by omega); clear O9 g9))
      all_goals exact bodyPost_ret (v := .slice lo9 (n + 1) lc9) (by simp [results, Tryz.results27, go_sem]) rfl ⟨lo9, lc9, rfl, hE, b9⟩

set_option maxRecDepth 100000 in
set_option maxHeartbeats 8000000 in
theorem l5Put_gt (b off n cap : Nat) (hcap : n < cap) (X : Nat → Ent) (x : Ent) (xo : Option Addr) (xc : Nat) (w : World) (hr : ERow w (some ⟨b, off, none⟩) n X) (V : Nat → Value) (hV : EV w b off n X V) (hn : n ≤ 1000) :
    Calls Tryz.prog 27 #[.slice (some ⟨b, off, none⟩) n cap, .agg #[.string x.key, .int .i64 x.seq, .int .i64 x.kind, .int .i64 x.c, .int .i64 x.s, .int .i64 x.lo, .int .i64 x.hi, .slice xo x.n xc, .bool x.fu]] w fun e w' => PqO n (pX X x (pc X n x 0)) (pV V (.slice xo x.n xc) (pc X n x 0)) w e w' := by
  obtain ⟨i0, hi, hz0, hz1, hz2⟩ := info_parts Tryz.infoEnt
  obtain ⟨P, hPe⟩ : ∃ P, pc X n x 0 = P := ⟨_, rfl⟩
  have HP : Hid (pc X n x 0 = P) := hPe
  rw [hPe]
  clear hPe
  obtain ⟨hbd, hlies⟩ := hr
  have hB := below_new w (.cells #[.string x.key, .int .i64 x.seq, .int .i64 x.kind, .int .i64 x.c, .int .i64 x.s, .int .i64 x.lo, .int .i64 x.hi, .slice xo x.n xc, .bool x.fu] 48)
  have EX := EAt.new w x xo xc 48
  have HF : Hid (∀ (w9 : World) (v : Value), w9.ownsRow w.heap.size 48 9 v (P + 1 + (n - P)) (fm X V 0 P ++ ecells x (.slice xo x.n xc) ++ fm X V P (n - P)) → Below w.heap.size w w9 → P ≤ n → ∃ lo lc, v = .slice lo (n + 1) lc ∧ w9.ownsRow w.heap.size 48 9 (.slice lo (n + 1) lc) (n + 1) ((List.range (n + 1)).flatMap fun i => ecells (pX X x P i) (pV V (.slice xo x.n xc) P i))) := by
    intro w9 v ho hb hPn
    rw [fm_join X V x _ n P hPn, show P + 1 + (n - P) = n + 1 by omega] at ho
    obtain ⟨lo, lc, rfl⟩ := ownsRow_form ho
    exact ⟨lo, lc, rfl, ho⟩
  go_enter Tryz.func27, Tryz.ntmps27
  go_wp2
  generalize w.alloc (.cells #[.string x.key, .int .i64 x.seq, .int .i64 x.kind, .int .i64 x.c, .int .i64 x.s, .int .i64 x.lo, .int .i64 x.hi, .slice xo x.n xc, .bool x.fu] 48) = w0 at hB EX ⊢
  go_loopw [5] (fun i wr => ∃ k : Nat, k ≤ n ∧ i = .int .i64 k ∧ Hid (pc X n x k = P) ∧ Below w0.heap.size w0 wr) (fun i _ => n - (intOf i).toNat)
  case atStart => exact ⟨0, Nat.zero_le _, rfl, HP, Below.refl _ _⟩
  case round =>
    clear HP
    obtain ⟨k, hk, rfl, HK, hbk⟩ := hrel
    have eb := EX.keep hbk
    by_cases hlt : k < n
    · obtain ⟨b', off', e, hblt, hc⟩ := hlies.resolve_left (by omega)
      injection e with e
      injection e with e1 e2 _
      subst e1 e2
      obtain ⟨da, dc, ea0, _⟩ := hc k hlt
      have ea := (ea0.keep hB).keep hbk
      have ea' := ea
      obtain ⟨_, a0, a1, a2, a3, a4, a5, a6, a7, a8⟩ := ea'
      have eb' := eb
      obtain ⟨_, b0, b1, b2, b3, b4, b5, b6, b7, b8⟩ := eb'
      simp only [Nat.zero_add] at b1 b2 b3 b4 b5 b6 b7 b8
      have hkd : decide ((k : Int) < (n : Int)) = true := by simp; omega
      clear ea0 hc hlies
      by_cases hcmp : cE (X k) x < 0
      · have hbb : ∀ b6 : Bool, (b6 = true ↔ Bef (X k) x) → b6 = true := fun b6 h => h.2 ((cE_lt _ _).1 hcmp)
        have HK2 : Hid (pc X n x (k + 1) = P) := by
          have := HK.out
          rwa [pc_step hlt hcmp] at this
        clear HK hcmp HF
        go_wp2
        go_region_held3 (fun w' => w'.cell? ⟨b, off + k * 9, none⟩ = some (.string (X k).key) ∧ w'.cell? ⟨b, off + k * 9 + 1, none⟩ = some (.int .i64 (X k).seq) ∧ w'.cell? ⟨b, off + k * 9 + 2, none⟩ = some (.int .i64 (X k).kind) ∧ w'.cell? ⟨b, off + k * 9 + 3, none⟩ = some (.int .i64 (X k).c) ∧ w'.cell? ⟨b, off + k * 9 + 4, none⟩ = some (.int .i64 (X k).s) ∧ w'.cell? ⟨b, off + k * 9 + 5, none⟩ = some (.int .i64 (X k).lo) ∧ w'.cell? ⟨b, off + k * 9 + 6, none⟩ = some (.int .i64 (X k).hi) ∧ w'.cell? ⟨b, off + k * 9 + 7, none⟩ = some (.slice da (X k).n dc) ∧ w'.cell? ⟨b, off + k * 9 + 8, none⟩ = some (.bool (X k).fu) ∧ w'.cell? ⟨w.heap.size, 0, none⟩ = some (.string x.key) ∧ w'.cell? ⟨w.heap.size, 1, none⟩ = some (.int .i64 x.seq) ∧ w'.cell? ⟨w.heap.size, 2, none⟩ = some (.int .i64 x.kind) ∧ w'.cell? ⟨w.heap.size, 3, none⟩ = some (.int .i64 x.c) ∧ w'.cell? ⟨w.heap.size, 4, none⟩ = some (.int .i64 x.s) ∧ w'.cell? ⟨w.heap.size, 5, none⟩ = some (.int .i64 x.lo) ∧ w'.cell? ⟨w.heap.size, 6, none⟩ = some (.int .i64 x.hi) ∧ w'.cell? ⟨w.heap.size, 7, none⟩ = some (.slice xo x.n xc) ∧ w'.cell? ⟨w.heap.size, 8, none⟩ = some (.bool x.fu)) (go_keep) (first | (go_at_call 52; refine (l5Before_any (X k) x da xo dc xc _).mono ?_; rintro e w6 ⟨b6, rfl, h6, hb6⟩; obtain rfl : b6 = true := hbb _ h6; have hb6' := (Below.refl _ wr).drew.trans hb6; obtain ⟨_, p0, p1, p2, p3, p4, p5, p6, p7, p8⟩ := ea.keep hb6'; obtain ⟨_, q0, q1, q2, q3, q4, q5, q6, q7, q8⟩ := eb.keep hb6'; simp only [Nat.zero_add] at q1 q2 q3 q4 q5 q6 q7 q8; have eb6 := eb.keep hb6'; have bk6 := hbk.trans (hb6'.mono hbk.size); clear hb6 hb6' h6))
        clear ea eb hbk a0 a1 a2 a3 a4 a5 a6 a7 a8 b0 b1 b2 b3 b4 b5 b6 b7 b8 p0 p1 p2 p3 p4 p5 p6 p7 p8 q0 q1 q2 q3 q4 q5 q6 q7 q8 hbb eb6
        go_wp2
        go_roundw
        case rel => exact ⟨k + 1, by omega, by go_num, HK2, bk6⟩
        case measure => simp [intOf]; omega
      · have hbb : ∀ b6 : Bool, (b6 = true ↔ Bef (X k) x) → b6 = false := fun b6 h => by
          cases b6
          · rfl
          · exact absurd ((cE_lt _ _).2 (h.1 rfl)) hcmp
        have HK2 : Hid (k = P) := by
          have := HK.out
          rw [pc_stop hlt hcmp] at this
          exact this
        clear HK hcmp
        go_wp2
        go_region_held3 (fun w' => w'.cell? ⟨b, off + k * 9, none⟩ = some (.string (X k).key) ∧ w'.cell? ⟨b, off + k * 9 + 1, none⟩ = some (.int .i64 (X k).seq) ∧ w'.cell? ⟨b, off + k * 9 + 2, none⟩ = some (.int .i64 (X k).kind) ∧ w'.cell? ⟨b, off + k * 9 + 3, none⟩ = some (.int .i64 (X k).c) ∧ w'.cell? ⟨b, off + k * 9 + 4, none⟩ = some (.int .i64 (X k).s) ∧ w'.cell? ⟨b, off + k * 9 + 5, none⟩ = some (.int .i64 (X k).lo) ∧ w'.cell? ⟨b, off + k * 9 + 6, none⟩ = some (.int .i64 (X k).hi) ∧ w'.cell? ⟨b, off + k * 9 + 7, none⟩ = some (.slice da (X k).n dc) ∧ w'.cell? ⟨b, off + k * 9 + 8, none⟩ = some (.bool (X k).fu) ∧ w'.cell? ⟨w.heap.size, 0, none⟩ = some (.string x.key) ∧ w'.cell? ⟨w.heap.size, 1, none⟩ = some (.int .i64 x.seq) ∧ w'.cell? ⟨w.heap.size, 2, none⟩ = some (.int .i64 x.kind) ∧ w'.cell? ⟨w.heap.size, 3, none⟩ = some (.int .i64 x.c) ∧ w'.cell? ⟨w.heap.size, 4, none⟩ = some (.int .i64 x.s) ∧ w'.cell? ⟨w.heap.size, 5, none⟩ = some (.int .i64 x.lo) ∧ w'.cell? ⟨w.heap.size, 6, none⟩ = some (.int .i64 x.hi) ∧ w'.cell? ⟨w.heap.size, 7, none⟩ = some (.slice xo x.n xc) ∧ w'.cell? ⟨w.heap.size, 8, none⟩ = some (.bool x.fu)) (go_keep) (first | (go_at_call 52; refine (l5Before_any (X k) x da xo dc xc _).mono ?_; rintro e w6 ⟨b6, rfl, h6, hb6⟩; obtain rfl : b6 = false := hbb _ h6; have hb6' := (Below.refl _ wr).drew.trans hb6; obtain ⟨_, p0, p1, p2, p3, p4, p5, p6, p7, p8⟩ := ea.keep hb6'; obtain ⟨_, q0, q1, q2, q3, q4, q5, q6, q7, q8⟩ := eb.keep hb6'; simp only [Nat.zero_add] at q1 q2 q3 q4 q5 q6 q7 q8; have eb6 := eb.keep hb6'; have bk6 := hbk.trans (hb6'.mono hbk.size); clear hb6 hb6' h6))
        clear ea eb hbk a0 a1 a2 a3 a4 a5 a6 a7 a8 b0 b1 b2 b3 b4 b5 b6 b7 b8 p0 p1 p2 p3 p4 p5 p6 p7 p8 q0 q1 q2 q3 q4 q5 q6 q7 q8 hbb
        have bw6 : Below w.heap.size w w6 := hB.trans (bk6.mono hB.size)
        obtain rfl := HK2.out
        clear HK2
        have eT := eb6
        have bT := bw6
        clear eb6 bw6 bk6
        generalize w6 = wT at eT bT ⊢
        have hkc : ¬ cap = k := by omega
        have t1 : True := trivial
        have t2 : True := trivial
        have sT : w.heap.size ≤ wT.heap.size := bT.size
        go_wp2_with (first
          | (at_builtin; clear t1; refine wpList_append_own _ rfl (.tmp 21) (.tmp 24) 26 rfl w.heap.size 48 i0 _ 9 96 Tryz.underlying26 hi hz0 hz1 hz2 rfl (by decide) (.slice none 0 0) 0 [] rfl (World.ownsRow_nil _ _ _ _) ⟨b, off + 0 * 9, none⟩ k cap (fm X V 0 k) rfl (fm_len _ _ _ _) (hV.src bT (by omega)) (hV.one (by omega)) (by unfold maxLen; omega) (by omega) sT ?_; intro v7 w7 O7 g7 _; have k7 : Below wT.heap.size wT w7 := (Below.refl _ _).grown g7 (Nat.le_refl _) (fun q hq => by simp [Value.ownBlock] at hq); have b7 : Below w.heap.size w w7 := bT.trans (k7.mono sT); have s7 : w.heap.size ≤ w7.heap.size := b7.size; rw [Nat.zero_add, List.nil_append] at O7; obtain ⟨lo7, lc7, rfl⟩ := ownsRow_form O7; obtain ⟨_, c0, c1, c2, c3, c4, c5, c6, c7, c8⟩ := (eT.keep k7).z; clear g7 k7)
          | (at_builtin; clear t2; refine wpList_append_own (w := w7.alloc (.cells #[.string x.key, .int .i64 x.seq, .int .i64 x.kind, .int .i64 x.c, .int .i64 x.s, .int .i64 x.lo, .int .i64 x.hi, .slice xo x.n xc, .bool x.fu] 48)) rfl (.tmp 26) (.tmp 28) 26 rfl w.heap.size 48 i0 _ 9 96 Tryz.underlying26 hi hz0 hz1 hz2 rfl (by decide) (.slice lo7 k lc7) k _ rfl (ownsRow_keep O7 (below_new _ _)) ⟨w7.heap.size, 0, none⟩ 1 1 (ecells x (.slice xo x.n xc)) rfl rfl (nine_new w7 x _ 48) (ecells_one rfl) (by unfold maxLen; omega) (by omega) (by simp; omega) ?_; intro v8 w8 O8 g8 _; have b8 : Below w.heap.size w w8 := (b7.alloc s7 _).grown g8 (by simp; omega) (fun q hq => (O7.lt q hq).1); have s8 : w.heap.size ≤ w8.heap.size := b8.size; obtain ⟨lo8, lc8, rfl⟩ := ownsRow_form O8; clear g8)
          | (at_builtin; refine wpList_append_own _ rfl (.tmp 30) (.tmp 33) 26 rfl w.heap.size 48 i0 _ 9 96 Tryz.underlying26 hi hz0 hz1 hz2 rfl (by decide) (.slice lo8 (k + 1) lc8) (k + 1) _ rfl O8 ⟨b, off + k * 9, none⟩ (n - k) (cap - k) (fm X V k (n - k)) rfl (fm_len _ _ _ _) (hV.src b8 (by omega)) (hV.one (by omega)) (by unfold maxLen; omega) (by omega) s8 ?_; intro v9 w9 O9 g9 _; have b9 : Below w.heap.size w w9 := b8.grown g9 s8 (fun q hq => (O8.lt q hq).1); obtain ⟨lo9, lc9, rfl, hE⟩ := HF.out w9 _ O9 b9 (by omega); clear O9 g9)
          | (at_builtin; refine wpList_append_own _ rfl (.tmp 30) (.tmp 33) 26 rfl w.heap.size 48 i0 _ 9 96 Tryz.underlying26 hi hz0 hz1 hz2 rfl (by decide) (.slice lo8 (k + 1) lc8) (k + 1) _ rfl O8 ⟨b, off, none⟩ 0 0 (fm X V k 0) rfl (fm_len _ _ _ _) (fun j u h => by simp [fm] at h) (fun u h => by simp [fm] at h) (by unfold maxLen; omega) (by omega) s8 ?_; intro v9 w9 O9 g9 _; have b9 : Below w.heap.size w w9 := b8.grown g9 s8 (fun q hq => (O8.lt q hq).1); obtain ⟨lo9, lc9, rfl, hE⟩ := HF.out w9 _ (by rw [show n - k = 0 by omega]; exact O9) b9 (by omega); clear O9 g9)
          | (at_builtin; refine wpList_append_own _ rfl (.tmp 30) (.tmp 33) 26 rfl w.heap.size 48 i0 _ 9 96 Tryz.underlying26 hi hz0 hz1 hz2 rfl (by decide) (.slice lo8 (k + 1) lc8) (k + 1) _ rfl O8 ⟨b, off, none⟩ (n - k) (cap - k) (fm X V k (n - k)) rfl (fm_len _ _ _ _) (fun j u h => by rw [show n - k = 0 by omega] at h; simp [fm] at h) (fun u h => by rw [show n - k = 0 by omega] at h; simp [fm] at h) (by unfold maxLen; omega) (by omega) s8 ?_; intro v9 w9 O9 g9 _; have b9 : Below w.heap.size w w9 := b8.grown g9 s8 (fun q hq => (O8.lt q hq).1); obtain ⟨lo9, lc9, rfl, hE⟩ := HF.out w9 _ O9 b9 (by omega); clear O9 g9))
        all_goals exact bodyPost_ret (v := .slice lo9 (n + 1) lc9) (by simp [results, Tryz.results27, go_sem]) rfl ⟨lo9, lc9, rfl, hE, b9⟩
    · have HK2 : Hid (k = P) := by
        have := HK.out
        rw [pc_end (by omega)] at this
        exact this
      have hkd : decide ((k : Int) < (n : Int)) = false := by simp; omega
      clear HK hlies
      go_wp2
      go_quiet (fail)
      obtain rfl := HK2.out
      clear HK2
      have eT := eb.keep (below_drewN (Below.refl _ _) nq)
      have bT : Below w.heap.size w (wr.drewN nq) := below_drewN (hB.trans (hbk.mono hB.size)) _
      clear eb hbk
      generalize wr.drewN nq = wT at eT bT ⊢
      have hkc : ¬ cap = k := by omega
      have t1 : True := trivial
      have t2 : True := trivial
      have sT : w.heap.size ≤ wT.heap.size := bT.size
      go_wp2_with (first
        | (at_builtin; clear t1; refine wpList_append_own _ rfl (.tmp 21) (.tmp 24) 26 rfl w.heap.size 48 i0 _ 9 96 Tryz.underlying26 hi hz0 hz1 hz2 rfl (by decide) (.slice none 0 0) 0 [] rfl (World.ownsRow_nil _ _ _ _) ⟨b, off + 0 * 9, none⟩ k cap (fm X V 0 k) rfl (fm_len _ _ _ _) (hV.src bT (by omega)) (hV.one (by omega)) (by unfold maxLen; omega) (by omega) sT ?_; intro v7 w7 O7 g7 _; have k7 : Below wT.heap.size wT w7 := (Below.refl _ _).grown g7 (Nat.le_refl _) (fun q hq => by simp [Value.ownBlock] at hq); have b7 : Below w.heap.size w w7 := bT.trans (k7.mono sT); have s7 : w.heap.size ≤ w7.heap.size := b7.size; rw [Nat.zero_add, List.nil_append] at O7; obtain ⟨lo7, lc7, rfl⟩ := ownsRow_form O7; obtain ⟨_, c0, c1, c2, c3, c4, c5, c6, c7, c8⟩ := (eT.keep k7).z; clear g7 k7)
        | (at_builtin; clear t2; refine wpList_append_own (w := w7.alloc (.cells #[.string x.key, .int .i64 x.seq, .int .i64 x.kind, .int .i64 x.c, .int .i64 x.s, .int .i64 x.lo, .int .i64 x.hi, .slice xo x.n xc, .bool x.fu] 48)) rfl (.tmp 26) (.tmp 28) 26 rfl w.heap.size 48 i0 _ 9 96 Tryz.underlying26 hi hz0 hz1 hz2 rfl (by decide) (.slice lo7 k lc7) k _ rfl (ownsRow_keep O7 (below_new _ _)) ⟨w7.heap.size, 0, none⟩ 1 1 (ecells x (.slice xo x.n xc)) rfl rfl (nine_new w7 x _ 48) (ecells_one rfl) (by unfold maxLen; omega) (by omega) (by simp; omega) ?_; intro v8 w8 O8 g8 _; have b8 : Below w.heap.size w w8 := (b7.alloc s7 _).grown g8 (by simp; omega) (fun q hq => (O7.lt q hq).1); have s8 : w.heap.size ≤ w8.heap.size := b8.size; obtain ⟨lo8, lc8, rfl⟩ := ownsRow_form O8; clear g8)
        | (at_builtin; refine wpList_append_own _ rfl (.tmp 30) (.tmp 33) 26 rfl w.heap.size 48 i0 _ 9 96 Tryz.underlying26 hi hz0 hz1 hz2 rfl (by decide) (.slice lo8 (k + 1) lc8) (k + 1) _ rfl O8 ⟨b, off + k * 9, none⟩ (n - k) (cap - k) (fm X V k (n - k)) rfl (fm_len _ _ _ _) (hV.src b8 (by omega)) (hV.one (by omega)) (by unfold maxLen; omega) (by omega) s8 ?_; intro v9 w9 O9 g9 _; have b9 : Below w.heap.size w w9 := b8.grown g9 s8 (fun q hq => (O8.lt q hq).1); obtain ⟨lo9, lc9, rfl, hE⟩ := HF.out w9 _ O9 b9 (by omega); clear O9 g9)
        | (at_builtin; refine wpList_append_own _ rfl (.tmp 30) (.tmp 33) 26 rfl w.heap.size 48 i0 _ 9 96 Tryz.underlying26 hi hz0 hz1 hz2 rfl (by decide) (.slice lo8 (k + 1) lc8) (k + 1) _ rfl O8 ⟨b, off, none⟩ 0 0 (fm X V k 0) rfl (fm_len _ _ _ _) (fun j u h => by simp [fm] at h) (fun u h => by simp [fm] at h) (by unfold maxLen; omega) (by omega) s8 ?_; intro v9 w9 O9 g9 _; have b9 : Below w.heap.size w w9 := b8.grown g9 s8 (fun q hq => (O8.lt q hq).1); obtain ⟨lo9, lc9, rfl, hE⟩ := HF.out w9 _ (by rw [show n - k = 0 by omega]; exact O9) b9 (by omega); clear O9 g9)
        | (at_builtin; refine wpList_append_own _ rfl (.tmp 30) (.tmp 33) 26 rfl w.heap.size 48 i0 _ 9 96 Tryz.underlying26 hi hz0 hz1 hz2 rfl (by decide) (.slice lo8 (k + 1) lc8) (k + 1) _ rfl O8 ⟨b, off, none⟩ (n - k) (cap - k) (fm X V k (n - k)) rfl (fm_len _ _ _ _) (fun j u h => by rw [show n - k = 0 by omega] at h; simp [fm] at h) (fun u h => by rw [show n - k = 0 by omega] at h; simp [fm] at h) (by unfold maxLen; omega) (by omega) s8 ?_; intro v9 w9 O9 g9 _; have b9 : Below w.heap.size w w9 := b8.grown g9 s8 (fun q hq => (O8.lt q hq).1); obtain ⟨lo9, lc9, rfl, hE⟩ := HF.out w9 _ O9 b9 (by omega); clear O9 g9))
      all_goals exact bodyPost_ret (v := .slice lo9 (n + 1) lc9) (by simp [results, Tryz.results27, go_sem]) rfl ⟨lo9, lc9, rfl, hE, b9⟩

theorem l5Put_some (b off n cap : Nat) (hcap : n ≤ cap) (X : Nat → Ent) (x : Ent) (xo : Option Addr) (xc : Nat) (w : World) (hr : ERow w (some ⟨b, off, none⟩) n X) (V : Nat → Value) (hV : EV w b off n X V) (hn : n ≤ 1000) :
    Calls Tryz.prog 27 #[.slice (some ⟨b, off, none⟩) n cap, .agg #[.string x.key, .int .i64 x.seq, .int .i64 x.kind, .int .i64 x.c, .int .i64 x.s, .int .i64 x.lo, .int .i64 x.hi, .slice xo x.n xc, .bool x.fu]] w fun e w' => PqO n (pX X x (pc X n x 0)) (pV V (.slice xo x.n xc) (pc X n x 0)) w e w' := by
  by_cases h : cap = n
  · subst h
    exact l5Put_eq b off cap X x xo xc w hr V hV hn
  · exact l5Put_gt b off n cap (by omega) X x xo xc w hr V hV hn

theorem own_cap {w : World} {base e size n : Nat} {lo : Option Addr} {m lc : Nat} {xs : List Value} (h : w.ownsRow base e size (.slice lo m lc) n xs) : m ≤ lc := by
  rcases h.2 with ⟨e, h0⟩ | ⟨g, cap, cur, e, _, _, hnc, _⟩
  · injection e with _ e2 e3; omega
  · injection e with _ e2 e3; omega
theorem own_none {w : World} {base e size n : Nat} {m lc : Nat} {xs : List Value} (h : w.ownsRow base e size (.slice none m lc) n xs) : m = 0 := by
  rcases h.2 with ⟨e, h0⟩ | ⟨g, cap, cur, e, _, _, hnc, _⟩
  · injection e with _ e2 e3
  · injection e with e1 _ _; cases e1
theorem app_nil (w : World) (lo : Option Addr) (m lc : Nat) (hl : m ≤ lc) (hlo : lo = none → m = 0) (ty : TypeId) : (Builtin.append_ #[26, 26] ty #[.slice lo m lc, .slice none 0 0]).run Tryz.prog w = .ok (.slice lo m lc) w := by
  obtain ⟨i0, hi, hz0, hz1, hz2⟩ := info_parts Tryz.infoEnt
  cases lo with
  | none => simp [Builtin.append_, run_underlying Tryz.underlying26, sizeOf, typeInfo, hi, Builtin.lenOf, Builtin.firstCells, loadCells, loadCellsFrom, storeCells, hl, hlo]
  | some a => simp [Builtin.append_, run_underlying Tryz.underlying26, sizeOf, typeInfo, hi, Builtin.lenOf, Builtin.firstCells, loadCells, loadCellsFrom, storeCells, hl]

set_option maxRecDepth 100000 in
set_option maxHeartbeats 4000000 in
theorem l5Put_nil (X : Nat → Ent) (x : Ent) (xo : Option Addr) (xc : Nat) (w : World) (V : Nat → Value) :
    Calls Tryz.prog 27 #[.slice none 0 0, .agg #[.string x.key, .int .i64 x.seq, .int .i64 x.kind, .int .i64 x.c, .int .i64 x.s, .int .i64 x.lo, .int .i64 x.hi, .slice xo x.n xc, .bool x.fu]] w fun e w' => PqO 0 (pX X x (pc X 0 x 0)) (pV V (.slice xo x.n xc) (pc X 0 x 0)) w e w' := by
  obtain ⟨i0, hi, hz0, hz1, hz2⟩ := info_parts Tryz.infoEnt
  have hB := below_new w (.cells #[.string x.key, .int .i64 x.seq, .int .i64 x.kind, .int .i64 x.c, .int .i64 x.s, .int .i64 x.lo, .int .i64 x.hi, .slice xo x.n xc, .bool x.fu] 48)
  have EX := EAt.new w x xo xc 48
  have HP : Hid (pc X 0 x 0 = 0) := pc_end (Nat.le_refl _)
  go_enter Tryz.func27, Tryz.ntmps27
  go_wp2
  generalize w.alloc (.cells #[.string x.key, .int .i64 x.seq, .int .i64 x.kind, .int .i64 x.c, .int .i64 x.s, .int .i64 x.lo, .int .i64 x.hi, .slice xo x.n xc, .bool x.fu] 48) = w0 at hB EX ⊢
  go_loopw [5] (fun i wr => i = .int .i64 0 ∧ Below w0.heap.size w0 wr) (fun _ _ => 0)
  case atStart => exact ⟨rfl, Below.refl _ _⟩
  case round =>
    obtain ⟨rfl, hbk⟩ := hrel
    have eb := EX.keep hbk
    go_wp2
    go_quiet (fail)
    have eT := eb.keep (below_drewN (Below.refl _ _) nq)
    have bT : Below w.heap.size w (wr.drewN nq) := below_drewN (hB.trans (hbk.mono hB.size)) _
    clear eb hbk
    generalize wr.drewN nq = wT at eT bT ⊢
    have t1 : True := trivial
    have t2 : True := trivial
    have sT : w.heap.size ≤ wT.heap.size := bT.size
    obtain ⟨_, c0, c1, c2, c3, c4, c5, c6, c7, c8⟩ := eT.z
    go_wp2_with (first
      | (at_builtin; clear t1; refine wpList_append_eq _ rfl (.tmp 21) (.tmp 24) 26 26 rfl rfl (.slice none 0 0) (.slice none 0 0) (.slice none 0 0) rfl rfl _ (app_nil _ none 0 0 (Nat.le_refl _) (fun _ => rfl) _) ?_)
      | (at_builtin; clear t2; refine wpList_append_own (w := wT.alloc (.cells #[.string x.key, .int .i64 x.seq, .int .i64 x.kind, .int .i64 x.c, .int .i64 x.s, .int .i64 x.lo, .int .i64 x.hi, .slice xo x.n xc, .bool x.fu] 48)) rfl (.tmp 26) (.tmp 28) 26 rfl w.heap.size 48 i0 _ 9 96 Tryz.underlying26 hi hz0 hz1 hz2 rfl (by decide) (.slice none 0 0) 0 [] rfl (World.ownsRow_nil _ _ _ _) ⟨wT.heap.size, 0, none⟩ 1 1 (ecells x (.slice xo x.n xc)) rfl rfl (nine_new wT x _ 48) (ecells_one rfl) (by unfold maxLen; omega) (by omega) (by simp; omega) ?_; intro v8 w8 O8 g8 _; have b8 : Below w.heap.size w w8 := (bT.alloc sT _).grown g8 (by simp; omega) (fun q hq => by simp [Value.ownBlock] at hq); have s8 : w.heap.size ≤ w8.heap.size := b8.size; obtain ⟨lo8, lc8, rfl⟩ := ownsRow_form O8; clear g8)
      | (at_builtin; refine wpList_append_eq _ rfl (.tmp 30) (.tmp 33) 26 26 rfl rfl (.slice lo8 (0 + 1) lc8) (.slice none 0 0) (.slice lo8 (0 + 1) lc8) rfl rfl _ (app_nil _ lo8 (0 + 1) lc8 (own_cap O8) (fun h => by subst h; exact own_none O8) _) ?_))
    have hE : w8.ownsRow w.heap.size 48 9 (.slice lo8 (0 + 1) lc8) (0 + 1) ((List.range (0 + 1)).flatMap fun i => ecells (pX X x (pc X 0 x 0) i) (pV V (.slice xo x.n xc) (pc X 0 x 0) i)) := by
      rw [HP.out]
      have e8 : (List.range (0 + 1)).flatMap (fun i => ecells (pX X x 0 i) (pV V (.slice xo x.n xc) 0 i)) = [] ++ ecells x (.slice xo x.n xc) := by simp [pX, pV, List.range_succ]
      rw [e8]
      exact O8
    exact bodyPost_ret (v := .slice lo8 (0 + 1) lc8) (by simp [results, Tryz.results27, go_sem]) rfl ⟨lo8, lc8, rfl, hE, b8⟩

/-- Where a list lies that is nil or not. -/
def Nls (ao : Option Addr) (n cap : Nat) : Prop := (ao = none ∧ n = 0 ∧ cap = 0) ∨ ∃ b off, ao = some ⟨b, off, none⟩
theorem l5Put_any (ao : Option Addr) (n cap : Nat) (hcap : n ≤ cap) (hl : Nls ao n cap) (X : Nat → Ent) (x : Ent) (xo : Option Addr) (xc : Nat) (w : World) (hr : ERow w ao n X) (V : Nat → Value) (hV : ∀ b off, ao = some ⟨b, off, none⟩ → EV w b off n X V) (hn : n ≤ 1000) :
    Calls Tryz.prog 27 #[.slice ao n cap, .agg #[.string x.key, .int .i64 x.seq, .int .i64 x.kind, .int .i64 x.c, .int .i64 x.s, .int .i64 x.lo, .int .i64 x.hi, .slice xo x.n xc, .bool x.fu]] w fun e w' => PqO n (pX X x (pc X n x 0)) (pV V (.slice xo x.n xc) (pc X n x 0)) w e w' := by
  rcases hl with ⟨rfl, rfl, rfl⟩ | ⟨b, off, rfl⟩
  · exact l5Put_nil X x xo xc w V
  · exact l5Put_some b off n cap hcap X x xo xc w hr V (hV b off rfl) hn
end Go.Proofs.YtmeckcaekkangaaGreat
