/-
  That two routes exclude one another is so either way round.
-/
import Derived.Test.YtceebimgfajbcaaGreatDoorJoin5
namespace Go.Proofs.YtceebimgfajbcaaGreatDoor
open Go.RowKit

theorem in_mem (l : List Int) (n : Int) : inB l n = true ↔ n ∈ l := by
  rw [inB, List.any_eq_true]
  constructor
  · rintro ⟨x, h1, h2⟩
    rw [← of_decide_eq_true h2]
    exact h1
  · intro h
    exact ⟨n, h, decide_eq_true rfl⟩
theorem share_symm (a b : List Int) : shareB a b = shareB b a := by
  rw [Bool.eq_iff_iff, shareB, shareB, List.any_eq_true, List.any_eq_true]
  constructor
  · rintro ⟨x, h1, h2⟩
    exact ⟨x, (in_mem _ _).1 h2, (in_mem _ _).2 h1⟩
  · rintro ⟨x, h1, h2⟩
    exact ⟨x, (in_mem _ _).1 h2, (in_mem _ _).2 h1⟩
theorem need_symm (x y : Int × Bool) : needEq (x.1, !x.2) y = needEq (y.1, !y.2) x := by
  rw [needEq, needEq, Bool.eq_iff_iff]
  obtain ⟨a, b⟩ := x
  obtain ⟨c, d⟩ := y
  simp only [decide_eq_true_eq]
  constructor
  · rintro ⟨rfl, rfl⟩; exact ⟨rfl, by simp⟩
  · rintro ⟨rfl, rfl⟩; exact ⟨rfl, by simp⟩
theorem pull_symm (a b : List (Int × Bool)) : pullB a b = pullB b a := by
  rw [Bool.eq_iff_iff, pullB, pullB, List.any_eq_true, List.any_eq_true]
  constructor
  · rintro ⟨x, h1, h2⟩
    obtain ⟨y, h3, h4⟩ := List.any_eq_true.1 h2
    exact ⟨y, h3, List.any_eq_true.2 ⟨x, h1, by rw [need_symm]; exact h4⟩⟩
  · rintro ⟨x, h1, h2⟩
    obtain ⟨y, h3, h4⟩ := List.any_eq_true.1 h2
    exact ⟨y, h3, List.any_eq_true.2 ⟨x, h1, by rw [need_symm]; exact h4⟩⟩
theorem conf_symm (r s : Nat) (a b : Rt) : confB r s a b = confB s r b a := by
  rw [confB, confB, share_symm, pull_symm, show decide (r = s) = decide (s = r) by rw [Bool.eq_iff_iff]; simp; omega, show decide (a.frm = b.frm) = decide (b.frm = a.frm) by rw [Bool.eq_iff_iff]; simp; omega]
end Go.Proofs.YtceebimgfajbcaaGreatDoor
