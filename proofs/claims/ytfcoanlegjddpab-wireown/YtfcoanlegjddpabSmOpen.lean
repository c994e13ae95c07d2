/-
  Bytes, and rows of bytes, among the arguments of a law; where all lies.
-/
import Derived.Test.YtfcoanlegjddpabSmOpenB
namespace Go.Proofs.Ytfcoanlegjddpab
open Go.RowKit

theorem laidOut : laidOutB Try.prog = true := by kernel_rfl
end Go.Proofs.Ytfcoanlegjddpab
