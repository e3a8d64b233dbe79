/- Keys compared, the model's text. -/
import Derived.Test.YtpddodjecbcmlaaCompareF
import Derived.Test.YtpddodjecbcmlaaGoodKeys
namespace Go.Proofs.Ytpddodjecbcmlaa
open Go.RowKit
set_option linter.unusedSimpArgs false
set_option linter.unusedVariables false

theorem keyCmp_m {m m' : ByteArray} {st st' : Int} {n n' : Nat} {nm vl nm' vl' : Nat → ByteArray} (h : cmpT m m' ≠ 0) : keyCmp m m' st st' n n' nm vl nm' vl' = cmpT m m' := by
  unfold keyCmp; simp [tc, keyC, h]
theorem keyCmp_t {m m' : ByteArray} {st st' : Int} {n n' : Nat} {nm vl nm' vl' : Nat → ByteArray} (h : cmpT m m' = 0) (h2 : tagsC (fun k => cmpTag (nm k) (vl k) (nm' k) (vl' k)) n n' ≠ 0) : keyCmp m m' st st' n n' nm vl nm' vl' = tagsC (fun k => cmpTag (nm k) (vl k) (nm' k) (vl' k)) n n' := by
  unfold keyCmp; simp [tc, keyC, h, h2]
theorem keyCmp_s {m m' : ByteArray} {st st' : Int} {n n' : Nat} {nm vl nm' vl' : Nat → ByteArray} (h : cmpT m m' = 0) (h2 : tagsC (fun k => cmpTag (nm k) (vl k) (nm' k) (vl' k)) n n' = 0) : keyCmp m m' st st' n n' nm vl nm' vl' = cmpI st st' := by
  unfold keyCmp
  by_cases h3 : cmpI st st' = 0 <;> simp [tc, keyC, h, h2, h3]

end Go.Proofs.Ytpddodjecbcmlaa
