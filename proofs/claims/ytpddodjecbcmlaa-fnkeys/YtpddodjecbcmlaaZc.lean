/- An array of 130 noughts, where the seat's own facts do not tell it. -/
import Derived.Test.YtpddodjecbcmlaaBase
namespace Go.Proofs.Ytpddodjecbcmlaa
open Go.RowKit
def Try.zeroCells62 : Array Value := Array.replicate 130 (.int .u8 0)
theorem zc_value (w : World) : (zeroValue 62).run Try.prog w = .ok (.agg Try.zeroCells62) w := by kernel_rfl
theorem zc_ne : Try.zeroCells62 ≠ #[] := by
  intro h
  have := congrArg Array.size h
  simp [Try.zeroCells62] at this
theorem zc_size : Try.zeroCells62.size = 130 := by simp [Try.zeroCells62]
end Go.Proofs.Ytpddodjecbcmlaa
