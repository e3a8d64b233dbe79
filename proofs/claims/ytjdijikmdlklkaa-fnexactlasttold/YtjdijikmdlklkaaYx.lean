/- LastTold in the program, where every key is good: the walk. -/
import Derived.Test.YtjdijikmdlklkaaYv
namespace Go.Proofs.Ytjdijikmdlklkaa
open Go.RowKit
set_option linter.unusedSimpArgs false
set_option linter.unusedVariables false

/-- The answer where every key is good. -/
def LtYes (n : Nat) (Y : Nat → Wn) (w : World) (e : Ending) (w' : World) : Prop :=
  ∃ va m vc z V, e = .returned (.tuple #[.slice va m vc, .bool true]) ∧ Fin' Y n z m ∧ OutT w' w.heap.size (.slice va m vc) m (fun j => Y (z j)) V ∧ Below w.heap.size w w'
/-- Whether a key ends. -/
def EndB (Y : Nat → Wn) (y : Nat → Nat) (n k : Nat) (b : Bool) : Prop := b = true ↔ EndK Y y n k
set_option maxRecDepth 100000 in
set_option maxHeartbeats 16000000 in
theorem lastTold_good (b n cap : Nat) (Y : Nat → Wn) (A0 A1 : Nat → Option Addr) (K0 K1 : Nat → Nat) (w : World) (h : Goods w b n Y A0 A1 K0 K1) (hn : n ≤ 200) :
    Calls Try.prog 7 #[.slice (some ⟨b, 0, none⟩) n cap] w fun e w' => LtYes n Y w e w' := by
  have hgt : ¬ (200 : Int) < (n : Int) := by omega
  have hbl := h.lt
  have hkey := h.key
  have hsiz := h.siz
  go_enter Try.func7, Try.ntmps7
  go_upto_block 0 with fail
  go_cut [5] from 15 to 23 (fun s5 wx => Below w.heap.size w wx)
  case first =>
    go_wp2
    go_loopw [15] (fun i wr => ∃ k : Nat, k ≤ n ∧ i = .int .i64 k ∧ Below w.heap.size w wr) (fun i _ => n - (intOf i).toNat)
    case atStart => exact ⟨0, Nat.zero_le _, rfl, Below.refl _ _⟩
    case round =>
      obtain ⟨k, hk, rfl, hb⟩ := hrel
      by_cases hlt : k < n
      · have hA := toAt_of (h.lie k hlt) hbl
        rw [Nat.zero_add] at hA
        obtain ⟨_, d0, d1, d2, d3, d4, d5, d6, d7, d8, d9⟩ := hA.keep hb
        have hF := (h.far _ (Nat.le_refl _) k).trow.keep hb
        have hS := hsiz k
        have hki : (k : Int) < (n : Int) := by omega
        have hc := fun W h => goodKey_impl (Y k).m (Y k).st (A0 k) (Y k).tn (K0 k) (Y k).nm (Y k).vl W h hS.m hS.tn hS.ts
        have e0 : goodB (Y k).m (Y k).tn (Y k).nm (Y k).vl (Y k).st = true := hkey k
        rw [e0] at hc
        have hbs := hb.size
        have k1 := hc _ (hF.keep (below_new wr (.cells #[.string (Y k).m, .slice (A0 k) (Y k).tn (K0 k), .int .i64 (Y k).st, .int .i64 (Y k).ver, .int .i64 (Y k).c, .int .i64 (Y k).s, .int .i64 (Y k).lo, .int .i64 (Y k).hi, .slice (A1 k) (Y k).n (K1 k), .bool (Y k).fu] 45)))
        clear hc h hkey hsiz hS e0 hA hF
        go_wp2_with fail
        refine k1.mono ?_
        rintro e w2 ⟨rfl, hb2⟩
        have bw2 : Below w.heap.size w w2 := hb.trans (((below_new wr _).trans (hb2.mono (by simp))).mono hbs)
        clear k1 hb2 d0 d1 d2 d3 d4 d5 d6 d7 d8 d9
        go_wp2
        go_roundw
        case rel => exact ⟨k + 1, by omega, by go_num, bw2⟩
        case measure => simp [intOf]; omega
      · have hki : ¬ (k : Int) < (n : Int) := by omega
        clear h hkey hsiz
        go_wp2
        go_meet
        case rel => exact hb
  case rest =>
    have bw := hcut
    have hbs := bw.size
    have hcl := clone_any b 0 n cap (fun v => tC (Y v) (A0 v) (K0 v) (A1 v) (K1 v)) wc (by omega) (fun p hp j hj => (bw.cell (p := ⟨b, 0 + p * 10 + j, none⟩) hbl).trans (h.lie p hp j hj)) (fun v => tC_one _ _ _ _ _) (by omega)
    clear hcut
    go_wp2_with fail
    refine hcl.mono ?_
    rintro e w2 ⟨B, gc, rfl, hgc, hB, hAR, q2⟩
    clear hcl
    have bw2 : Below w.heap.size w w2 := bw.trans (q2.mono hbs)
    have hFar : FarA B Y A0 A1 w2 := fun v => ((h.far B (by omega) v).kb bw2 (Nat.le_refl _))
    have hro := sortStable_any B n gc (fun v => tC (Y v) (A0 v) (K0 v) (A1 v) (K1 v)) (RT Y) (FarA B Y A0 A1) (RT_ord Y) (cmp_ok B Y A0 A1 K0 K1 hkey hsiz) (fun v => tC_one _ _ _ _ _) (by omega) hgc w2 hAR hFar
    go_wp2_with fail
    refine hro.mono ?_
    rintro e w3 ⟨⟨u, rfl⟩, y, hA3, hU, hS, hw3⟩
    clear hro
    have hF3 : FarA B Y A0 A1 w3 := fun v => (hFar v).wr hw3
    have bw3 : Below w.heap.size w w3 := bw2.trans (hw3.below (by omega) bw2.size)
    have HU : Hid (UpR (RT Y) y 0 n ∧ SSet (fun i => i) y 0 n) := ⟨hU, hS⟩
    have hB3 := hA3.lt
    have hs3 : w.heap.size ≤ w3.heap.size := bw3.size
    clear hAR hFar hw3 bw2 q2 h hU hS bw hbs hbl hB
    go_wp2
    go_loopw [7, 30] (fun t i wr => ∃ (k m : Nat) (va : Option Addr) (vc : Nat) (z : Nat → Nat) (V : Nat → Value), k ≤ n ∧ m ≤ k ∧ i = .int .i64 k ∧ t = .slice va m vc ∧ Hid (Tk Y y n k z m) ∧ OutT wr w3.heap.size (.slice va m vc) m (fun j => Y (z j)) V ∧ Below w3.heap.size w3 wr) (fun _ i _ => n - (intOf i).toNat)
    case atStart => exact ⟨0, 0, none, 0, fun j => j, fun _ => .slice none 0 0, Nat.zero_le _, Nat.le_refl _, rfl, rfl, Tk.start _ _ _ _, outT_nil _ _ _, Below.refl _ _⟩
    case round =>
      obtain ⟨k, m, va, vc, z, V, hk, hmk, rfl, rfl, HT, hO, hb⟩ := hrel
      by_cases hlt : k < n
      · have hAr := hA3.kb hb hB3
        have hbs := hb.size
        have hT : ToAt wr B (k * 10) (Y (y k)) (A0 (y k)) (A1 (y k)) (K0 (y k)) (K1 (y k)) := toAt_of (hAr.at' k hlt) hAr.lt
        obtain ⟨_, d0, d1, d2, d3, d4, d5, d6, d7, d8, d9⟩ := hT
        have hki : (k : Int) < (n : Int) := by omega
        have hwk : IntKind.i64.wrap ((k : Int) + 1) = ((k + 1 : Nat) : Int) := by rw [IntKind.wrap_i64] <;> omega
        have hB1 := below_new wr (.cells #[.string (Y (y k)).m, .slice (A0 (y k)) (Y (y k)).tn (K0 (y k)), .int .i64 (Y (y k)).st, .int .i64 (Y (y k)).ver, .int .i64 (Y (y k)).c, .int .i64 (Y (y k)).s, .int .i64 (Y (y k)).lo, .int .i64 (Y (y k)).hi, .slice (A1 (y k)) (Y (y k)).n (K1 (y k)), .bool (Y (y k)).fu] 45)
        have hNew := ToAt.new wr (Y (y k)) (A0 (y k)) (A1 (y k)) (K0 (y k)) (K1 (y k)) 45
        obtain ⟨W1, hW1⟩ : ∃ W1, W1 = wr.alloc (.cells #[.string (Y (y k)).m, .slice (A0 (y k)) (Y (y k)).tn (K0 (y k)), .int .i64 (Y (y k)).st, .int .i64 (Y (y k)).ver, .int .i64 (Y (y k)).c, .int .i64 (Y (y k)).s, .int .i64 (Y (y k)).lo, .int .i64 (Y (y k)).hi, .slice (A1 (y k)) (Y (y k)).n (K1 (y k)), .bool (Y (y k)).fu] 45) := ⟨_, rfl⟩
        have hsW : W1.heap.size = wr.heap.size + 1 := by rw [hW1]; simp
        go_upto_region 15 with fail
        rw [← hW1] at hB1 hNew ⊢
        clear hW1 d0 d1 d2 d3 d4 d5 d6 d7 d8 d9
        have hF := fun v => (hF3 v).kb (hb.trans (hB1.mono hbs)) (Nat.le_refl _)
        have hA1 := hAr.kb hB1 hAr.lt
        clear hAr
        go_cut [51] from 35 to 51 (fun s51 wx => ∃ bb : Bool, s51 = .bool bb ∧ Hid (EndB Y y n k bb) ∧ Below W1.heap.size W1 wx)
        case first =>
          by_cases hlast : k + 1 = n
          · have HE : Hid (EndB Y y n k true) := ⟨fun _ => .inl hlast, fun _ => rfl⟩
            have e1 : (k : Int) + 1 = (n : Int) := by omega
            have hwn : IntKind.i64.wrap (n : Int) = (n : Int) := by rw [IntKind.wrap_i64] <;> omega
            clear hlast hF hA1 hO HT hF3 hA3 hkey hsiz hNew
            refine wp_region_w (fun _ : World => True) (fun _ => true) (by kernel_rfl) ?_
            change wpW _ _ _ _ _ _ 17 _ _ W1.drew
            have hS0 : (fun _ : World => True) W1.drew := trivial
            refine wpW_take 0 _ (.int .i64 k) rfl (by kernel_rfl) (by kernel_rfl) (by kernel_rfl) (fun _ _ _ h => h) (by kernel_rfl) (.inl ⟨rfl, fun w' hS' => by go_simp⟩) hS0 ?_
            simp only [Act.put, List.getElem_toArray, List.getElem_cons_succ, List.getElem_cons_zero, List.setIfInBounds_toArray, List.set_cons_zero, List.set_cons_succ]
            refine wpW_take 1 _ (.int .i64 ((k + 1 : Nat) : Int)) rfl (by kernel_rfl) (by kernel_rfl) (by kernel_rfl) (fun _ _ _ h => h) (by kernel_rfl) (.inl ⟨rfl, fun w' hS' => by go_simp⟩) hS0 ?_
            simp only [Act.put, List.getElem_toArray, List.getElem_cons_succ, List.getElem_cons_zero, List.setIfInBounds_toArray, List.set_cons_zero, List.set_cons_succ]
            refine wpW_take 2 _ (.slice (some ⟨B, 0, none⟩) n gc) rfl (by kernel_rfl) (by kernel_rfl) (by kernel_rfl) (fun _ _ _ h => h) (by kernel_rfl) (.inl ⟨rfl, fun w' hS' => by go_simp⟩) hS0 ?_
            simp only [Act.put, List.getElem_toArray, List.getElem_cons_succ, List.getElem_cons_zero, List.setIfInBounds_toArray, List.set_cons_zero, List.set_cons_succ]
            refine wpW_take 3 _ (.int .i64 n) rfl (by kernel_rfl) (by kernel_rfl) (by kernel_rfl) (fun _ _ _ h => h) (by kernel_rfl) (.inl ⟨rfl, fun w' hS' => by go_simp⟩) hS0 ?_
            simp only [Act.put, List.getElem_toArray, List.getElem_cons_succ, List.getElem_cons_zero, List.setIfInBounds_toArray, List.set_cons_zero, List.set_cons_succ]
            refine wpW_take 4 _ (.bool true) rfl (by kernel_rfl) (by kernel_rfl) (by kernel_rfl) (fun _ _ _ h => h) (by kernel_rfl) (.inl ⟨rfl, fun w' hS' => by go_simp⟩) hS0 ?_
            simp only [Act.put, List.getElem_toArray, List.getElem_cons_succ, List.getElem_cons_zero, List.setIfInBounds_toArray, List.set_cons_zero, List.set_cons_succ]
            refine wpW_take 5 _ (.bool true) rfl (by kernel_rfl) (by kernel_rfl) (by kernel_rfl) (fun _ _ _ h => h) (by kernel_rfl) (.inl ⟨rfl, fun w' hS' => by go_simp⟩) hS0 ?_
            simp only [Act.put, List.getElem_toArray, List.getElem_cons_succ, List.getElem_cons_zero, List.setIfInBounds_toArray, List.set_cons_zero, List.set_cons_succ]
            refine wpW_take 6 _ (undef) rfl (by kernel_rfl) (by kernel_rfl) (by kernel_rfl) (fun _ _ _ h => h) (by kernel_rfl) (.inr ⟨rfl, rfl⟩) hS0 ?_
            simp only [Act.put, List.getElem_toArray, List.getElem_cons_succ, List.getElem_cons_zero, List.setIfInBounds_toArray, List.set_cons_zero, List.set_cons_succ]
            refine wpW_take 7 _ (undef) rfl (by kernel_rfl) (by kernel_rfl) (by kernel_rfl) (fun _ _ _ h => h) (by kernel_rfl) (.inr ⟨rfl, rfl⟩) hS0 ?_
            simp only [Act.put, List.getElem_toArray, List.getElem_cons_succ, List.getElem_cons_zero, List.setIfInBounds_toArray, List.set_cons_zero, List.set_cons_succ]
            refine wpW_take 8 _ (undef) rfl (by kernel_rfl) (by kernel_rfl) (by kernel_rfl) (fun _ _ _ h => h) (by kernel_rfl) (.inr ⟨rfl, rfl⟩) hS0 ?_
            simp only [Act.put, List.getElem_toArray, List.getElem_cons_succ, List.getElem_cons_zero, List.setIfInBounds_toArray, List.set_cons_zero, List.set_cons_succ]
            refine wpW_take 9 _ (undef) rfl (by kernel_rfl) (by kernel_rfl) (by kernel_rfl) (fun _ _ _ h => h) (by kernel_rfl) (.inr ⟨rfl, rfl⟩) hS0 ?_
            simp only [Act.put, List.getElem_toArray, List.getElem_cons_succ, List.getElem_cons_zero, List.setIfInBounds_toArray, List.set_cons_zero, List.set_cons_succ]
            refine wpW_take 10 _ (undef) rfl (by kernel_rfl) (by kernel_rfl) (by kernel_rfl) (fun _ _ _ h => h) (by kernel_rfl) (.inr ⟨rfl, rfl⟩) hS0 ?_
            simp only [Act.put, List.getElem_toArray, List.getElem_cons_succ, List.getElem_cons_zero, List.setIfInBounds_toArray, List.set_cons_zero, List.set_cons_succ]
            refine wpW_take 11 _ (undef) rfl (by kernel_rfl) (by kernel_rfl) (by kernel_rfl) (fun _ _ _ h => h) (by kernel_rfl) (.inr ⟨rfl, rfl⟩) hS0 ?_
            simp only [Act.put, List.getElem_toArray, List.getElem_cons_succ, List.getElem_cons_zero, List.setIfInBounds_toArray, List.set_cons_zero, List.set_cons_succ]
            refine wpW_take 12 _ (undef) rfl (by kernel_rfl) (by kernel_rfl) (by kernel_rfl) (fun _ _ _ h => h) (by kernel_rfl) (.inr ⟨rfl, rfl⟩) hS0 ?_
            simp only [Act.put, List.getElem_toArray, List.getElem_cons_succ, List.getElem_cons_zero, List.setIfInBounds_toArray, List.set_cons_zero, List.set_cons_succ]
            refine wpW_take 13 _ (undef) rfl (by kernel_rfl) (by kernel_rfl) (by kernel_rfl) (fun _ _ _ h => h) (by kernel_rfl) (.inr ⟨rfl, rfl⟩) hS0 ?_
            simp only [Act.put, List.getElem_toArray, List.getElem_cons_succ, List.getElem_cons_zero, List.setIfInBounds_toArray, List.set_cons_zero, List.set_cons_succ]
            refine wpW_take 14 _ (undef) rfl (by kernel_rfl) (by kernel_rfl) (by kernel_rfl) (fun _ _ _ h => h) (by kernel_rfl) (.inr ⟨rfl, rfl⟩) hS0 ?_
            simp only [Act.put, List.getElem_toArray, List.getElem_cons_succ, List.getElem_cons_zero, List.setIfInBounds_toArray, List.set_cons_zero, List.set_cons_succ]
            refine wpW_take 15 _ (undef) rfl (by kernel_rfl) (by kernel_rfl) (by kernel_rfl) (fun _ _ _ h => h) (by kernel_rfl) (.inr ⟨rfl, rfl⟩) hS0 ?_
            simp only [Act.put, List.getElem_toArray, List.getElem_cons_succ, List.getElem_cons_zero, List.setIfInBounds_toArray, List.set_cons_zero, List.set_cons_succ]
            refine wpW_take 16 _ (.bool true) rfl (by kernel_rfl) (by kernel_rfl) (by kernel_rfl) (fun _ _ _ h => h) (by kernel_rfl) (.inl ⟨rfl, fun w' hS' => by go_simp⟩) hS0 ?_
            simp only [Act.put, List.getElem_toArray, List.getElem_cons_succ, List.getElem_cons_zero, List.setIfInBounds_toArray, List.set_cons_zero, List.set_cons_succ]
            refine wpW_done (by kernel_rfl) ?_
            try simp only [Act.put, List.getElem_toArray, List.getElem_cons_succ, List.getElem_cons_zero, List.setIfInBounds_toArray, List.set_cons_zero, List.set_cons_succ]
            go_wp2_with fail
            go_meet
            case rel => exact ⟨_, rfl, HE, (Below.refl W1.heap.size W1).drew⟩
          · have hk1 : k + 1 < n := by omega
            have hk1i : ¬ (k : Int) + 1 = (n : Int) := by omega
            have hk2i : ¬ (n : Int) ≤ (k : Int) + 1 := by omega
            have hk3i : (0 : Int) ≤ (k : Int) + 1 := by omega
            have hk4i : (k : Int) + 1 < (n : Int) := by omega
            obtain ⟨cc, hcc⟩ : ∃ cc, cc = kc (Y (y k)) (Y (y (k + 1))) := ⟨_, rfl⟩
            have HE : Hid (EndB Y y n k (cc != 0)) := by
              unfold Hid EndB EndK
              rw [hcc]
              have q := kc_kb (hkey (y k)) (hkey (y (k + 1)))
              unfold kx
              rw [bne_iff_ne]
              constructor
              · exact fun hh => .inr fun hk => hh (q.2 hk)
              · exact fun hh hz => (hh.resolve_left hlast) (q.1 hz)
            have hcK := compareKeys_impl_good (Y (y k)).m (Y (y (k + 1))).m (Y (y k)).st (Y (y (k + 1))).st (A0 (y k)) (A0 (y (k + 1))) (Y (y k)).tn (Y (y (k + 1))).tn (K0 (y k)) (K0 (y (k + 1))) (Y (y k)).nm (Y (y k)).vl (Y (y (k + 1))).nm (Y (y (k + 1))).vl W1.drew ((hF (y k)).trow.keep (Below.refl _ _).drew) ((hF (y (k + 1))).trow.keep (Below.refl _ _).drew) (hsiz _).m (hsiz _).m (hsiz _).tn (hsiz _).tn (hsiz _).ts (hsiz _).ts (hkey _) (hkey _)
            have e0 : keyCmp (Y (y k)).m (Y (y (k + 1))).m (Y (y k)).st (Y (y (k + 1))).st (Y (y k)).tn (Y (y (k + 1))).tn (Y (y k)).nm (Y (y k)).vl (Y (y (k + 1))).nm (Y (y (k + 1))).vl = cc := hcc.symm
            rw [e0] at hcK
            have hN := hNew.keep ((Below.refl W1.heap.size W1).drew)
            have hA4 : ToAt W1.drew B ((k + 1) * 10) (Y (y (k + 1))) (A0 (y (k + 1))) (A1 (y (k + 1))) (K0 (y (k + 1))) (K1 (y (k + 1))) := toAt_of ((hA1.keep ((Below.refl W1.heap.size W1).drew)).at' (k + 1) hk1) hA1.lt
            have HSd := (⟨hN.c0, hN.c1, hN.c2, hA4.c0, hA4.c1, hA4.c2⟩ : _ ∧ _ ∧ _ ∧ _ ∧ _ ∧ _)
            simp only [Nat.zero_add] at HSd
            have hwl : wr.heap.size < W1.drew.heap.size := hN.lt
            have hBl : B < W1.drew.heap.size := hA4.lt
            clear hlast hF hA1 hO HT hF3 hA3 hkey hsiz hNew hcc e0 hN hA4
            refine wp_region_w (fun w' : World => w'.cell? ⟨wr.heap.size, 0, none⟩ = some (.string (Y (y k)).m) ∧ w'.cell? ⟨wr.heap.size, 1, none⟩ = some (.slice (A0 (y k)) (Y (y k)).tn (K0 (y k))) ∧ w'.cell? ⟨wr.heap.size, 2, none⟩ = some (.int .i64 (Y (y k)).st) ∧ w'.cell? ⟨B, (k + 1) * 10, none⟩ = some (.string (Y (y (k + 1))).m) ∧ w'.cell? ⟨B, (k + 1) * 10 + 1, none⟩ = some (.slice (A0 (y (k + 1))) (Y (y (k + 1))).tn (K0 (y (k + 1)))) ∧ w'.cell? ⟨B, (k + 1) * 10 + 2, none⟩ = some (.int .i64 (Y (y (k + 1))).st)) (fun _ => true) (by kernel_rfl) ?_
            change wpW _ _ _ _ _ _ 17 _ _ W1.drew
            have hS0 : (fun w' : World => w'.cell? ⟨wr.heap.size, 0, none⟩ = some (.string (Y (y k)).m) ∧ w'.cell? ⟨wr.heap.size, 1, none⟩ = some (.slice (A0 (y k)) (Y (y k)).tn (K0 (y k))) ∧ w'.cell? ⟨wr.heap.size, 2, none⟩ = some (.int .i64 (Y (y k)).st) ∧ w'.cell? ⟨B, (k + 1) * 10, none⟩ = some (.string (Y (y (k + 1))).m) ∧ w'.cell? ⟨B, (k + 1) * 10 + 1, none⟩ = some (.slice (A0 (y (k + 1))) (Y (y (k + 1))).tn (K0 (y (k + 1)))) ∧ w'.cell? ⟨B, (k + 1) * 10 + 2, none⟩ = some (.int .i64 (Y (y (k + 1))).st)) W1.drew := HSd
            refine wpW_take 0 _ (.int .i64 k) rfl (by kernel_rfl) (by kernel_rfl) (by kernel_rfl) (fun _ _ _ h => h) (by kernel_rfl) (.inl ⟨rfl, fun w' hS' => by go_simp⟩) hS0 ?_
            simp only [Act.put, List.getElem_toArray, List.getElem_cons_succ, List.getElem_cons_zero, List.setIfInBounds_toArray, List.set_cons_zero, List.set_cons_succ]
            refine wpW_take 1 _ (.int .i64 ((k + 1 : Nat) : Int)) rfl (by kernel_rfl) (by kernel_rfl) (by kernel_rfl) (fun _ _ _ h => h) (by kernel_rfl) (.inl ⟨rfl, fun w' hS' => by go_simp⟩) hS0 ?_
            simp only [Act.put, List.getElem_toArray, List.getElem_cons_succ, List.getElem_cons_zero, List.setIfInBounds_toArray, List.set_cons_zero, List.set_cons_succ]
            refine wpW_take 2 _ (.slice (some ⟨B, 0, none⟩) n gc) rfl (by kernel_rfl) (by kernel_rfl) (by kernel_rfl) (fun _ _ _ h => h) (by kernel_rfl) (.inl ⟨rfl, fun w' hS' => by go_simp⟩) hS0 ?_
            simp only [Act.put, List.getElem_toArray, List.getElem_cons_succ, List.getElem_cons_zero, List.setIfInBounds_toArray, List.set_cons_zero, List.set_cons_succ]
            refine wpW_take 3 _ (.int .i64 n) rfl (by kernel_rfl) (by kernel_rfl) (by kernel_rfl) (fun _ _ _ h => h) (by kernel_rfl) (.inl ⟨rfl, fun w' hS' => by go_simp⟩) hS0 ?_
            simp only [Act.put, List.getElem_toArray, List.getElem_cons_succ, List.getElem_cons_zero, List.setIfInBounds_toArray, List.set_cons_zero, List.set_cons_succ]
            refine wpW_take 4 _ (.bool false) rfl (by kernel_rfl) (by kernel_rfl) (by kernel_rfl) (fun _ _ _ h => h) (by kernel_rfl) (.inl ⟨rfl, fun w' hS' => by go_simp⟩) hS0 ?_
            simp only [Act.put, List.getElem_toArray, List.getElem_cons_succ, List.getElem_cons_zero, List.setIfInBounds_toArray, List.set_cons_zero, List.set_cons_succ]
            refine wpW_take 5 _ (.bool false) rfl (by kernel_rfl) (by kernel_rfl) (by kernel_rfl) (fun _ _ _ h => h) (by kernel_rfl) (.inl ⟨rfl, fun w' hS' => by go_simp⟩) hS0 ?_
            simp only [Act.put, List.getElem_toArray, List.getElem_cons_succ, List.getElem_cons_zero, List.setIfInBounds_toArray, List.set_cons_zero, List.set_cons_succ]
            refine wpW_take 6 _ (.pointer (some ⟨wr.heap.size, 0, none⟩)) rfl (by kernel_rfl) (by kernel_rfl) (by kernel_rfl) (fun _ _ _ h => h) (by kernel_rfl) (.inl ⟨rfl, fun w' hS' => by go_simp⟩) hS0 ?_
            simp only [Act.put, List.getElem_toArray, List.getElem_cons_succ, List.getElem_cons_zero, List.setIfInBounds_toArray, List.set_cons_zero, List.set_cons_succ]
            refine wpW_take 7 _ (.agg #[.string (Y (y k)).m, .slice (A0 (y k)) (Y (y k)).tn (K0 (y k)), .int .i64 (Y (y k)).st]) rfl (by kernel_rfl) (by kernel_rfl) (by kernel_rfl) (fun _ _ _ h => h) (by kernel_rfl) (.inl ⟨rfl, fun w' hS' => by (obtain ⟨s0, s1, s2, s3, s4, s5⟩ := hS'; go_simp)⟩) hS0 ?_
            simp only [Act.put, List.getElem_toArray, List.getElem_cons_succ, List.getElem_cons_zero, List.setIfInBounds_toArray, List.set_cons_zero, List.set_cons_succ]
            refine wpW_take 8 _ (.slice (some ⟨B, 0, none⟩) n gc) rfl (by kernel_rfl) (by kernel_rfl) (by kernel_rfl) (fun _ _ _ h => h) (by kernel_rfl) (.inl ⟨rfl, fun w' hS' => by go_simp⟩) hS0 ?_
            simp only [Act.put, List.getElem_toArray, List.getElem_cons_succ, List.getElem_cons_zero, List.setIfInBounds_toArray, List.set_cons_zero, List.set_cons_succ]
            refine wpW_take 9 _ (.int .i64 k) rfl (by kernel_rfl) (by kernel_rfl) (by kernel_rfl) (fun _ _ _ h => h) (by kernel_rfl) (.inl ⟨rfl, fun w' hS' => by go_simp⟩) hS0 ?_
            simp only [Act.put, List.getElem_toArray, List.getElem_cons_succ, List.getElem_cons_zero, List.setIfInBounds_toArray, List.set_cons_zero, List.set_cons_succ]
            refine wpW_take 10 _ (.int .i64 ((k + 1 : Nat) : Int)) rfl (by kernel_rfl) (by kernel_rfl) (by kernel_rfl) (fun _ _ _ h => h) (by kernel_rfl) (.inl ⟨rfl, fun w' hS' => by go_simp⟩) hS0 ?_
            simp only [Act.put, List.getElem_toArray, List.getElem_cons_succ, List.getElem_cons_zero, List.setIfInBounds_toArray, List.set_cons_zero, List.set_cons_succ]
            refine wpW_take 11 _ (.pointer (some ⟨B, (k + 1) * 10, none⟩)) rfl (by kernel_rfl) (by kernel_rfl) (by kernel_rfl) (fun _ _ _ h => h) (by kernel_rfl) (.inl ⟨rfl, fun w' hS' => by go_simp⟩) hS0 ?_
            simp only [Act.put, List.getElem_toArray, List.getElem_cons_succ, List.getElem_cons_zero, List.setIfInBounds_toArray, List.set_cons_zero, List.set_cons_succ]
            refine wpW_take 12 _ (.pointer (some ⟨B, (k + 1) * 10, none⟩)) rfl (by kernel_rfl) (by kernel_rfl) (by kernel_rfl) (fun _ _ _ h => h) (by kernel_rfl) (.inl ⟨rfl, fun w' hS' => by go_simp⟩) hS0 ?_
            simp only [Act.put, List.getElem_toArray, List.getElem_cons_succ, List.getElem_cons_zero, List.setIfInBounds_toArray, List.set_cons_zero, List.set_cons_succ]
            refine wpW_take 13 _ (.agg #[.string (Y (y (k + 1))).m, .slice (A0 (y (k + 1))) (Y (y (k + 1))).tn (K0 (y (k + 1))), .int .i64 (Y (y (k + 1))).st]) rfl (by kernel_rfl) (by kernel_rfl) (by kernel_rfl) (fun _ _ _ h => h) (by kernel_rfl) (.inl ⟨rfl, fun w' hS' => by (obtain ⟨s0, s1, s2, s3, s4, s5⟩ := hS'; go_simp)⟩) hS0 ?_
            simp only [Act.put, List.getElem_toArray, List.getElem_cons_succ, List.getElem_cons_zero, List.setIfInBounds_toArray, List.set_cons_zero, List.set_cons_succ]
            refine wpW_one 14 _ rfl (by kernel_rfl) (step_wanted rfl (op_call 20 #[.agg #[.string (Y (y k)).m, .slice (A0 (y k)) (Y (y k)).tn (K0 (y k)), .int .i64 (Y (y k)).st], .agg #[.string (Y (y (k + 1))).m, .slice (A0 (y (k + 1))) (Y (y (k + 1))).tn (K0 (y (k + 1))), .int .i64 (Y (y (k + 1))).st]] _ (by go_simp) hcK ?_))
            rintro e w6 ⟨rfl, q6⟩
            have hS6 : (fun w' : World => w'.cell? ⟨wr.heap.size, 0, none⟩ = some (.string (Y (y k)).m) ∧ w'.cell? ⟨wr.heap.size, 1, none⟩ = some (.slice (A0 (y k)) (Y (y k)).tn (K0 (y k))) ∧ w'.cell? ⟨wr.heap.size, 2, none⟩ = some (.int .i64 (Y (y k)).st) ∧ w'.cell? ⟨B, (k + 1) * 10, none⟩ = some (.string (Y (y (k + 1))).m) ∧ w'.cell? ⟨B, (k + 1) * 10 + 1, none⟩ = some (.slice (A0 (y (k + 1))) (Y (y (k + 1))).tn (K0 (y (k + 1)))) ∧ w'.cell? ⟨B, (k + 1) * 10 + 2, none⟩ = some (.int .i64 (Y (y (k + 1))).st)) w6 := ⟨(q6.cell (p := ⟨wr.heap.size, 0, none⟩) hwl).trans HSd.1, (q6.cell (p := ⟨wr.heap.size, 1, none⟩) hwl).trans HSd.2.1, (q6.cell (p := ⟨wr.heap.size, 2, none⟩) hwl).trans HSd.2.2.1, (q6.cell (p := ⟨B, (k + 1) * 10, none⟩) hBl).trans HSd.2.2.2.1, (q6.cell (p := ⟨B, (k + 1) * 10 + 1, none⟩) hBl).trans HSd.2.2.2.2.1, (q6.cell (p := ⟨B, (k + 1) * 10 + 2, none⟩) hBl).trans HSd.2.2.2.2.2⟩
            refine ⟨_, rfl, fun _ => hS6, ?_⟩
            simp only [Act.put, List.getElem_toArray, List.getElem_cons_succ, List.getElem_cons_zero, List.setIfInBounds_toArray, List.set_cons_zero, List.set_cons_succ]
            refine wpW_take 15 _ (.bool (cc != 0)) rfl (by kernel_rfl) (by kernel_rfl) (by kernel_rfl) (fun _ _ _ h => h) (by kernel_rfl) (.inl ⟨rfl, fun w' hS' => by go_simp⟩) hS6 ?_
            simp only [Act.put, List.getElem_toArray, List.getElem_cons_succ, List.getElem_cons_zero, List.setIfInBounds_toArray, List.set_cons_zero, List.set_cons_succ]
            refine wpW_take 16 _ (.bool (cc != 0)) rfl (by kernel_rfl) (by kernel_rfl) (by kernel_rfl) (fun _ _ _ h => h) (by kernel_rfl) (.inl ⟨rfl, fun w' hS' => by go_simp⟩) hS6 ?_
            simp only [Act.put, List.getElem_toArray, List.getElem_cons_succ, List.getElem_cons_zero, List.setIfInBounds_toArray, List.set_cons_zero, List.set_cons_succ]
            refine wpW_done (by kernel_rfl) ?_
            try simp only [Act.put, List.getElem_toArray, List.getElem_cons_succ, List.getElem_cons_zero, List.setIfInBounds_toArray, List.set_cons_zero, List.set_cons_succ]
            go_wp2_with fail
            go_meet
            case rel => exact ⟨_, rfl, HE, (Below.refl W1.heap.size W1).drew.trans q6⟩
        case rest =>
          obtain ⟨bb, rfl, HE, hbx⟩ := hcut
          have hBw : Below wr.heap.size wr wc := hB1.trans (hbx.mono (by omega))
          have hO2 := hO.keep hBw
          have hb2 : Below w3.heap.size w3 wc := hb.trans (hBw.mono hbs)
          have hs2 := hb2.size
          cases bb
          · have HT2 : Hid (Tk Y y n (k + 1) z m) := HT.out.leave (fun he => by have := HE.out.2 he; cases this)
            clear HT HE hbx hBw hO hb hF hA1 hNew hF3 hA3 hkey hsiz
            go_wp2
            go_roundw
            case rel => exact ⟨k + 1, m, va, vc, z, V, by omega, by omega, by go_num, rfl, HT2, hO2, hb2⟩
            case measure => simp [intOf]; omega
          · have HT2 : Hid (Tk Y y n (k + 1) (zput z m (y k)) (m + 1)) := HT.out.put HU.out.1 hlt (HE.out.1 rfl)
            have hX := hNew.keep hbx
            obtain ⟨_, d0, d1, d2, d3, d4, d5, d6, d7, d8, d9⟩ := hX
            simp only [Nat.zero_add] at d1 d2 d3 d4 d5 d6 d7 d8 d9
            have hFk := (hF (y k)).kb hbx (Nat.le_refl _)
            have hct := copyTold_any (Y (y k)) (A0 (y k)) (A1 (y k)) (K0 (y k)) (K1 (y k)) wc hFk.trow hFk.irow (hsiz _).tn (hsiz _).n
            have ez : upTo (fun j => Y (z j)) m (Y (y k)) = fun j => Y (zput z m (y k) j) := by
              funext j
              unfold upTo zput
              split <;> rfl
            clear HT HE hbx hBw hO hb hF hA1 hNew hF3 hA3 hkey hsiz hFk
            go_wp2_with fail
            refine hct.mono ?_
            rintro e u ⟨ha0, hc0, ha1, hc1, rfl, T0, T1, hd, q⟩
            clear hct
            obtain ⟨vb, vd, V2, u3, hrun, O3, hbn⟩ := tdPush hO2 q T0 T1 hd (by omega) hs2
            rw [ez] at O3
            have hb3 : Below w3.heap.size w3 u3 := (hb2.trans (q.mono hs2)).trans hbn
            clear hO2 q T0 T1 hd hbn hb2 d0 d1 d2 d3 d4 d5 d6 d7 d8 d9 ez
            go_wp2_with (at_builtin; refine wpList_append_eq _ rfl _ _ 24 _ rfl rfl _ _ _ rfl rfl u3 hrun ?_)
            go_roundw
            case rel => exact ⟨k + 1, m + 1, vb, vd, zput z m (y k), V2, by omega, by omega, by go_num, rfl, HT2, O3, hb3⟩
            case measure => simp [intOf]; omega
      · have hki : ¬ (k : Int) < (n : Int) := by omega
        have e : k = n := by omega
        have HF : Hid (Fin' Y n z m) := by
          have := HT.out
          rw [e] at this
          exact this.fin HU.out.1 HU.out.2
        have hO2 := hO.mono hs3
        have bwe : Below w.heap.size w wr := bw3.trans (hb.mono hs3)
        clear HT hO e hF3 hA3 hkey hsiz hk hlt
        go_wp2
        exact bodyPost_ret (v := .tuple #[.slice va m vc, .bool true]) (by simp [results, Try.results7, go_sem]) rfl ⟨va, m, vc, z, V, rfl, HF.out, hO2, bwe⟩
end Go.Proofs.Ytjdijikmdlklkaa
