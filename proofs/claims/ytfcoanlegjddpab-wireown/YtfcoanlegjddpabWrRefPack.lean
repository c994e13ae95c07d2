/-
  The reference's Pack, by a contract.
-/
import Derived.Test.YtfcoanlegjddpabWrRef
import Derived.Test.YtfcoanlegjddpabSmRef
namespace Go.Proofs.Ytfcoanlegjddpab
open Go.RowKit

theorem th_long (x : It) : longT x = decide (200 < x.th.s.size) := by
  rcases x with n | s | b <;> rfl
theorem th_map {l : List It} {k : Nat} {x : It} (h : l[k]? = some x) : (l.map It.th)[k]? = some x.th := by rw [List.getElem?_map, h]; rfl
theorem th_cells {w : World} {c : Nat} {l : List It} (h : ReadsT w (.pointer (some ⟨c, 0, none⟩)) (l.map It.th)) : ∃ oa cap, w.cell? ⟨c, 0, none⟩ = some (.slice oa l.length cap) ∧ ∀ k x, l[k]? = some x → ∃ g, oa = some ⟨g, 0, none⟩ ∧ w.cell? ⟨g, k * 4, none⟩ = some (.int .i64 x.th.k) ∧ w.cell? ⟨g, k * 4 + 1, none⟩ = some (.int .i64 x.th.n) ∧ w.cell? ⟨g, k * 4 + 2, none⟩ = some (.string x.th.s) ∧ w.cell? ⟨g, k * 4 + 3, none⟩ = some (.bool x.th.b) := by
  obtain ⟨c', oa, cap, e, h2, h3, h4, h5⟩ := h
  injection e with e
  injection e with e
  injection e with e
  subst e
  rw [List.length_map] at h2
  exact ⟨oa, cap, h2, fun k x hx => h5 k x.th (th_map hx)⟩

end Go.Proofs.Ytfcoanlegjddpab
