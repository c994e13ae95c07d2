/-
  The law's own 'long' (are things more than is looked at?), by a contract.
-/
import Derived.Test.YtfcoanlegjddpabCrLaw
namespace Go.Proofs.Ytfcoanlegjddpab
open Go.RowKit

/-- A slice's row that holds these raw things. -/
def hasThs (w : World) (oa : Option Addr) (l : List Th) : Prop :=
  ∀ j x, l[j]? = some x → ∃ b off, oa = some ⟨b, off, none⟩ ∧ w.cell? ⟨b, off + j * 4, none⟩ = some (.int .i64 x.k) ∧ w.cell? ⟨b, off + j * 4 + 1, none⟩ = some (.int .i64 x.n) ∧
    w.cell? ⟨b, off + j * 4 + 2, none⟩ = some (.string x.s) ∧ w.cell? ⟨b, off + j * 4 + 3, none⟩ = some (.bool x.b)
theorem hasThs_below {w w' : World} {oa : Option Addr} {l : List Th} (h : hasThs w oa l) (hb : Below w.heap.size w w') : hasThs w' oa l := by
  intro j x hj
  obtain ⟨b, off, e, k1, k2, k3, k4⟩ := h j x hj
  have hlt := World.block_lt_of_cell? w _ k1
  have hlt' : ∀ o, (⟨b, o, none⟩ : Addr).block < w.heap.size := fun _ => hlt
  exact ⟨b, off, e, (hb.cell (hlt' _)).trans k1, (hb.cell (hlt' _)).trans k2, (hb.cell (hlt' _)).trans k3, (hb.cell (hlt' _)).trans k4⟩

/-- How much there is to look at. -/
def sumTh : List Th → Nat
  | [] => 0
  | x :: l => 1 + x.s.size + sumTh l
theorem sumTh_append : ∀ (l m : List Th), sumTh (l ++ m) = sumTh l + sumTh m
  | [], m => by simp [sumTh]
  | x :: l, m => by rw [List.cons_append, sumTh, sumTh_append l m, sumTh]; omega
theorem sumTh_take (l : List Th) (k : Nat) : sumTh (l.take k) ≤ sumTh l := by
  have := sumTh_append (l.take k) (l.drop k)
  rw [List.take_append_drop] at this
  omega
theorem sumTh_more {l : List Th} {k : Nat} {x : Th} (h : l[k]? = some x) : sumTh (l.take (k + 1)) = sumTh (l.take k) + (1 + x.s.size) := by
  obtain ⟨hl, rfl⟩ := List.getElem?_eq_some_iff.1 h
  rw [List.take_succ_eq_append_getElem hl, sumTh_append]
  simp [sumTh]
theorem sumTh_len : ∀ l : List Th, l.length ≤ sumTh l
  | [] => by simp
  | x :: l => by have := sumTh_len l; rw [sumTh, List.length_cons]; omega
theorem sumTh_mem : ∀ (l : List Th) (x : Th), x ∈ l → x.s.size ≤ sumTh l
  | y :: l, x, h => by
    rw [sumTh]
    rcases List.mem_cons.1 h with rfl | h
    · omega
    · have := sumTh_mem l x h
      omega

end Go.Proofs.Ytfcoanlegjddpab
