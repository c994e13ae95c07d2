/-
  A layout out of blocks; a layout of few things: by contracts.
-/
import Derived.Test.YtceebimgfajbcaaGreatDoorOwBase
import Derived.Test.YtceebimgfajbcaaGreatDoorJoin5
namespace Go.Proofs.YtceebimgfajbcaaGreatDoor
open Go.RowKit

theorem conf_few {v : Nat → Value} {l : Lay} {rs : List RtV} {w : World} (h : LayRd w v l rs) (hf : Few l rs v) (r s : Nat) (x y : RtV) (hx : rs[r]? = some x) (hy : rs[s]? = some y) (b : Bool) (hb : confB r s x.1 y.1 = b) :
    Calls Tryz.prog 57 #[.agg #[v 0, v 1, v 2, v 3], .int .i64 r, .int .i64 s] w fun e w' => e = .returned (.bool b) ∧ Below w.heap.size w w' := by
  rw [← hb]
  have h1 := hf.x x (List.mem_of_getElem? hx)
  have h2 := hf.x y (List.mem_of_getElem? hy)
  exact conflict_any v l rs r s x y w h hx hy ⟨by omega, by omega⟩ ⟨by omega, by omega⟩

end Go.Proofs.YtceebimgfajbcaaGreatDoor
