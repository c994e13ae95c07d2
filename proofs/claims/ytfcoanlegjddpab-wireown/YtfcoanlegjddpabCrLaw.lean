/-
  The law's own small functions: plain, add, known, tells by contracts.
-/
import Derived.Test.YtfcoanlegjddpabCrRef
namespace Go.Proofs.Ytfcoanlegjddpab
open Go.RowKit

/-- What a raw thing counts as. -/
def plainI (t : Th) : It := if t.k = 1 then (.inl t.n) else if t.k = 2 then (.inr (.inl t.s)) else (.inr (.inr t.b))

end Go.Proofs.Ytfcoanlegjddpab
