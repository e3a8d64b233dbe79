/- An answer of entries marked and looked for. / The law of EntriesOf, walked. -/
import Derived.Test.YtmeckcaekkangaaGreatCeO
namespace Go.Proofs.YtmeckcaekkangaaGreat
set_option maxRecDepth 100000
open Go.RowKit
set_option linter.unusedSimpArgs false
set_option linter.unusedVariables false

end Go.Proofs.YtmeckcaekkangaaGreat
namespace Go.Proofs.YtmeckcaekkangaaGreat
set_option maxRecDepth 100000
open Go.RowKit
set_option linter.unusedSimpArgs false
set_option linter.unusedVariables false

theorem tot_congr {X Y : Nat → Ent} : ∀ {n : Nat}, (∀ i, i < n → X i = Y i) → tot X n = tot Y n
  | 0, _ => rfl
  | n + 1, h => by
    unfold tot
    rw [tot_congr (n := n) (fun i hi => h i (by omega)), h n (by omega)]
theorem fX_tot (X : Nat → Ent) (key : ByteArray) : ∀ k, tot (eL (fX X key k)) (fX X key k).length ≤ tot X k
  | 0 => by simp [fX, tot]
  | k + 1 => by
    have ih := fX_tot X key k
    unfold fX
    split
    · have e1 : eL (fX X key k ++ [X k]) (fX X key k).length = X k := by rw [← eL_push _ _ _ (by omega), if_pos rfl]
      have e2 : tot (eL (fX X key k ++ [X k])) (fX X key k).length = tot (eL (fX X key k)) (fX X key k).length := tot_congr (fun i hi => by rw [← eL_push _ _ i (by omega), if_neg (by omega)])
      rw [List.length_append, List.length_singleton]
      show tot (eL (fX X key k ++ [X k])) (fX X key k).length + ((eL (fX X key k ++ [X k]) (fX X key k).length).key.size + (eL (fX X key k ++ [X k]) (fX X key k).length).n) ≤ tot X k + ((X k).key.size + (X k).n)
      rw [e1, e2]
      omega
    · show _ ≤ tot X k + ((X k).key.size + (X k).n)
      omega
theorem eoa_of {X : Nat → Ent} {key : ByteArray} {n : Nat} : ∃ (E : List Ent) (c : Bool), E.length ≤ n ∧ tot (eL E) E.length ≤ tot X n ∧ (∀ P : Ent → Prop, (∀ i, i < n → P (X i)) → ∀ i, i < E.length → P (eL E i)) ∧ ∀ w e w', EoO (GoodL X n) (fX X key n) w e w' → EoA E c w e w' := by
  by_cases h : GoodL X n
  · refine ⟨fX X key n, true, fX_len X key n, fX_tot X key n, fun P hP => fX_all hP, ?_⟩
    rintro w e w' (⟨hn, _⟩ | ⟨_, ha⟩)
    · exact absurd h hn
    · exact ha
  · refine ⟨[], false, by simp, by simp [tot], fun P hP i hi => by simp at hi, ?_⟩
    rintro w e w' (⟨_, ha⟩ | ⟨hg, _⟩)
    · exact ha
    · exact absurd hg h
theorem kOf_tot (X : Nat → Ent) : ∀ n, kOf X 1 n ≤ 1 + 8 * n + tot X n
  | 0 => by simp [kOf, tot]
  | n + 1 => by
    have := kOf_tot X n
    unfold kOf tot
    omega
end Go.Proofs.YtmeckcaekkangaaGreat
