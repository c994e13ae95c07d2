/-
  What the field tells, by the law's numbers: by a contract.
-/
import Derived.Test.YtceebimgfajbcaaGreatDoorLkLine2
namespace Go.Proofs.YtceebimgfajbcaaGreatDoor
open Go.RowKit

def bitsF (n : Int) : List Bool := [decide (n % 2 = 1), decide (n / 2 % 2 = 1), decide (n / 4 % 2 = 1)]
theorem infoB : (Tryz.prog.info? 4).map (fun i => (i.zero, i.size, i.bytes)) = some (some (.bool false), 1, 1) := by kernel_rfl
theorem bit_all : ∀ (m : Fin 8) (k : Fin 3), (bitsF (m.1 : Int))[k.1]? = some (bits BinOp.and IntKind.i64 ((m.1 : Int) / 2 ^ k.1) 1 == 1) := by decide +kernel
theorem bit_at {n : Int} {k : Nat} (hn : 0 ≤ n ∧ n ≤ 7) (hk : k < 3) : ((bitsF n).take (k + 1)).flatMap bC = ((bitsF n).take k).flatMap bC ++ [.bool (bits BinOp.and IntKind.i64 (n / 2 ^ k) 1 == 1)] := by
  obtain ⟨m, rfl, hm⟩ := nat_of (n := 8) (i := n) ⟨hn.1, by omega⟩
  have := bit_all ⟨m, hm⟩ ⟨k, hk⟩
  simp only at this
  rw [List.take_add_one, this, List.flatMap_append]
  rfl

end Go.Proofs.YtceebimgfajbcaaGreatDoor
