/-
  Bytes, and rows of bytes, among the arguments of a law; where all lies.
-/
import Derived.Test.YtfcoanlegjddpaaSmOpenB
namespace Go.Proofs.Ytfcoanlegjddpaa
open Go.RowKit

theorem laidOut : laidOutB Try.prog = true := by kernel_rfl
end Go.Proofs.Ytfcoanlegjddpaa
