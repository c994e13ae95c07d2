/-
  The sum of one row; the laws' own known.
-/
import Derived.Test.YtfcoanlegjddpabSmOf
import Derived.Lib.SlBytesConst
namespace Go.Proofs.Ytfcoanlegjddpab
open Go.RowKit

theorem sblk_new (w : World) (o : Obj) : (w.alloc o).heap[w.heap.size]? = some o := by
  show (w.heap.push o)[w.heap.size]? = some o
  simp
theorem sblk_old {w : World} {c : Nat} {o o' : Obj} (h : w.heap[c]? = some o) : (w.alloc o').heap[c]? = some o := by
  have hlt := (Array.getElem?_eq_some_iff.1 h).1
  rw [Below.heap_alloc _ _ _ hlt]
  exact h
theorem sblk_below {w w' : World} {c : Nat} {o : Obj} (hb : Below w.heap.size w w') (h : w.heap[c]? = some o) : w'.heap[c]? = some o :=
  (hb.block c (Array.getElem?_eq_some_iff.1 h).1).trans h
theorem sblk_at1 (w : World) (o o' : Obj) : ((w.alloc o').alloc o).heap[w.heap.size + 1]? = some o := by
  have := sblk_new (w.alloc o') o
  rwa [World.size_alloc] at this
theorem rows_one {w : World} {g : Nat} {oa : Option Addr} {cap : Nat} {r : List (BitVec 8)} {t : TypeId} (hg : w.heap[g]? = some (.cells #[.slice oa r.length cap] t (0, 0))) (h : hasBytes w oa r) (hl : r.length ≤ 9223372036854775807) : hasRows w (some ⟨g, 0, none⟩) [r] := fun j x hj => by
  cases j with
  | zero =>
    obtain rfl : r = x := by simpa using hj
    exact ⟨g, 0, oa, cap, rfl, by simp [World.cell?, hg], h, hl⟩
  | succ j => simp at hj
theorem sums_one (r : List (BitVec 8)) : sumsV [r] = sumV r := rfl
theorem sums_flat (l : List (List (BitVec 8))) : sumsV l = sumV l.flatten := by
  unfold sumsV sumV
  rw [rows_flat]
/-- Of one row, which the caller has laid. -/
theorem one_any (w : World) (g : Nat) (oa : Option Addr) (cap : Nat) (r : List (BitVec 8)) (t : TypeId) (hg : w.heap[g]? = some (.cells #[.slice oa r.length cap] t (0, 0))) (h : hasBytes w oa r) (hl : r.length ≤ 9223372036854775807) :
    Calls Try.prog 20 #[.slice (some ⟨g, 0, none⟩) 1 1] w fun e w' => e = .returned (.int .u32 (u32 (sumV r))) ∧ w' = w :=
  of_any (some ⟨g, 0, none⟩) 1 [r] w (rows_one hg h hl) (by simp)

def nine : List (BitVec 8) := [49#8, 50#8, 51#8, 52#8, 53#8, 54#8, 55#8, 56#8, 57#8]
theorem bytes_cells {w : World} {g : Nat} {r : List (BitVec 8)} {c : Array Value} {t : TypeId} {fr : Nat × Nat} (hg : w.heap[g]? = some (.cells c t fr)) (hc : ∀ (j : Nat) (x : BitVec 8), r[j]? = some x → c[j]? = some (.int .u8 (u8 x))) : hasBytes w (some ⟨g, 0, none⟩) r := fun j x hj =>
  ⟨g, 0, rfl, by simp [World.cell?, hg, hc j x hj]⟩
theorem sum_nine : u32 (sumV nine) = 3808858755 := by decide +kernel
theorem sum_none : u32 (sumsV []) = 0 := by decide +kernel

end Go.Proofs.Ytfcoanlegjddpab
