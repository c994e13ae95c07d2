/-
  Rows of numbers, rows of texts among the arguments of a law.
-/
import Derived.Test.YtfcoanlegjddpabSmOpenB
import Derived.SliceStrings
namespace Go.Proofs.Ytfcoanlegjddpab
open Go.RowKit

def hasStrs (w : World) (oa : Option Addr) (ls : List ByteArray) : Prop := ∀ j x, ls[j]? = some x → ∃ b off, oa = some ⟨b, off, none⟩ ∧ w.cell? ⟨b, off + j, none⟩ = some (.string x)
def hasIntsN (w : World) (oa : Option Addr) (ls : List Int) : Prop := (∀ j x, ls[j]? = some x → ∃ b off, oa = some ⟨b, off, none⟩ ∧ w.cell? ⟨b, off + j, none⟩ = some (.int .i64 x)) ∧ ∀ x ∈ ls, (Lit.int .i64 x).wf = true
section
variable {H : Type} {enc : TypeId × Value → H} {W : World}
theorem open_intsn {a : Option Addr} {len cap fuel : Nat} {x : DataW H × List MemPlace} (h : DataW.trod enc Try.prog W 0 (fun _ => true) true fuel 34 [.slice a len cap] = some x) :
    ∃ l : List Int, l.length = len ∧ len ≤ maxLen ∧ hasIntsN W a l := by
  rcases Go.ChangeShapes.open_ints Try.underlying34 Try.underlying3 (by kernel_rfl) h with ⟨hcs, _⟩ | ⟨x, l, c, ss, hcs, _, hl, hm, hz, _, hcell, hwf⟩
  · simp at hcs
    obtain ⟨rfl, rfl, rfl⟩ := hcs
    exact ⟨[], rfl, by unfold maxLen; omega, fun j x hj => by simp at hj, fun x hx => by cases hx⟩
  · simp at hcs
    obtain ⟨rfl, rfl, rfl⟩ := hcs
    have hz' : ss.length = cap := by simpa using hz
    refine ⟨ss.take len, by rw [List.length_take]; omega, by omega, fun j y hj => ?_, fun y hy => hwf y (List.mem_of_mem_take hy)⟩
    obtain ⟨h1, h2⟩ := List.getElem?_eq_some_iff.1 hj
    rw [List.length_take] at h1
    obtain ⟨b, off, rfl⟩ := saddr_plain (hcell 0 (by omega))
    refine ⟨b, off, rfl, ?_⟩
    have := hcell j (by omega)
    rw [saddr_at] at this
    rw [this, ← h2, List.getElem_take, List.getD_eq_getElem?_getD, List.getElem?_eq_getElem (by omega)]
    rfl
theorem open_strsn {a : Option Addr} {len cap fuel : Nat} {x : DataW H × List MemPlace} (h : DataW.trod enc Try.prog W 0 (fun _ => true) true fuel 40 [.slice a len cap] = some x) :
    ∃ l : List ByteArray, l.length = len ∧ len ≤ maxLen ∧ hasStrs W a l := by
  rcases Go.ChangeShapes.open_strings Try.underlying40 Try.underlying9 (by kernel_rfl) h with ⟨hcs, _⟩ | ⟨x, l, c, ss, hcs, _, hl, hm, hz, _, hcell, _⟩
  · simp at hcs
    obtain ⟨rfl, rfl, rfl⟩ := hcs
    exact ⟨[], rfl, by unfold maxLen; omega, fun j x hj => by simp at hj⟩
  · simp at hcs
    obtain ⟨rfl, rfl, rfl⟩ := hcs
    have hz' : ss.length = cap := by simpa using hz
    refine ⟨ss.take len, by rw [List.length_take]; omega, by omega, fun j y hj => ?_⟩
    obtain ⟨h1, h2⟩ := List.getElem?_eq_some_iff.1 hj
    rw [List.length_take] at h1
    obtain ⟨b, off, rfl⟩ := saddr_plain (hcell 0 (by omega))
    refine ⟨b, off, rfl, ?_⟩
    have := hcell j (by omega)
    rw [saddr_at] at this
    rw [this, ← h2, List.getElem_take, List.getD_eq_getElem?_getD, List.getElem?_eq_getElem (by omega)]
    rfl
end
theorem ints_below {w w' : World} (hb : Below w.heap.size w w') {oa : Option Addr} {l : List Int} (h : hasIntsN w oa l) : hasIntsN w' oa l := ⟨fun j x hj => by
  obtain ⟨b, off, e, hc⟩ := h.1 j x hj
  exact ⟨b, off, e, (hb.cell (World.block_lt_of_cell? _ _ hc)).trans hc⟩, h.2⟩
theorem strs_below {w w' : World} (hb : Below w.heap.size w w') {oa : Option Addr} {l : List ByteArray} (h : hasStrs w oa l) : hasStrs w' oa l := fun j x hj => by
  obtain ⟨b, off, e, hc⟩ := h j x hj
  exact ⟨b, off, e, (hb.cell (World.block_lt_of_cell? _ _ hc)).trans hc⟩
theorem wf_i64 {n : Int} (h : (Lit.int .i64 n).wf = true) : -2 ^ 63 ≤ n ∧ n < 2 ^ 63 := by
  simp [Lit.wf, IntKind.max, IntKind.min, IntKind.bits, IntKind.signed] at h
  omega
end Go.Proofs.Ytfcoanlegjddpab
