/-
  The reference's names: are they such, none twice? by a contract.
-/
import Derived.Test.YtgiaicmhnkhbnaaDoorJoin3
import Derived.Deep.QuietTactic
import Derived.Deep.CutBlock
namespace Go.Proofs.YtgiaicmhnkhbnaaDoor
open Go.RowKit

def namesB (l : List ByteArray) : Bool := decide (l.Nodup ∧ ∀ x ∈ l, capB x = true)
theorem take_snoc {α : Type} {l : List α} {k : Nat} {x : α} (h : l[k]? = some x) : l.take (k + 1) = l.take k ++ [x] := by
  rw [List.take_add_one, h]
  rfl
theorem names_more {l : List ByteArray} {k : Nat} {x : ByteArray} (h : l[k]? = some x) (h1 : (l.take k).Nodup ∧ ∀ y ∈ l.take k, capB y = true) (h2 : capB x = true) (h3 : x ∉ l.take k) : (l.take (k + 1)).Nodup ∧ ∀ y ∈ l.take (k + 1), capB y = true := by
  rw [take_snoc h]
  refine ⟨List.nodup_append.2 ⟨h1.1, by simp, fun a ha b hb => ?_⟩, fun y hy => ?_⟩
  · simp at hb
    subst hb
    intro e
    subst e
    exact h3 ha
  · rcases List.mem_append.1 hy with hy | hy
    · exact h1.2 y hy
    · simp at hy
      rw [hy]
      exact h2
theorem not_nodup {l : List ByteArray} {j k : Nat} {x : ByteArray} (hj : l[j]? = some x) (hk : l[k]? = some x) (h : j < k) : ¬ l.Nodup := by
  intro hn
  obtain ⟨h1, e1⟩ := List.getElem?_eq_some_iff.1 hj
  obtain ⟨h2, e2⟩ := List.getElem?_eq_some_iff.1 hk
  have := (List.getElem_inj (h₀ := h1) (h₁ := h2) hn).1 (e1.trans e2.symm)
  omega

end Go.Proofs.YtgiaicmhnkhbnaaDoor
