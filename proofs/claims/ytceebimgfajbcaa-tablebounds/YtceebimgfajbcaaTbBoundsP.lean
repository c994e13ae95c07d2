/-
  The layouts that TableBounds makes: which may be.
-/
import Derived.Test.YtceebimgfajbcaaTbL4
namespace Go.Proofs.Ytceebimgfajbcaa
open Go.RowKit

def needsB (p : Nat) : List (Int × Bool) := (List.range p).map fun (k : Nat) => ((k : Int), false)
def rtB (p i : Nat) : Rt := ⟨nm 100 i, 0, 1, [0], needsB p, []⟩
def layB (s g p r : Nat) : Lay := ⟨(List.range s).map (nm 97), (List.range p).map fun i => (nm 99 i, 0), (List.range g).map (nm 98), (List.range r).map (rtB p)⟩
def okB (s g p r : Nat) : Bool := decide (1 ≤ s ∧ s ≤ 10 ∧ 1 ≤ g ∧ g ≤ 6 ∧ p ≤ 5 ∧ r ≤ 6 ∧ (r = 0 ∨ 2 ≤ g))
theorem names_a : ∀ k : Fin 11, namesB ((List.range k.val).map (nm 97)) = true := by decide +kernel
theorem names_b : ∀ k : Fin 7, namesB ((List.range k.val).map (nm 98)) = true := by decide +kernel
theorem names_c : ∀ k : Fin 6, namesB ((List.range k.val).map (nm 99)) = true := by decide +kernel
theorem names_d : ∀ k : Fin 7, namesB ((List.range k.val).map (nm 100)) = true := by decide +kernel
theorem routes_b : ∀ (s : Fin 11) (g : Fin 7) (p : Fin 6) (r : Fin 7), 1 ≤ s.val → 1 ≤ g.val → routeB (layB s.val g.val p.val r.val) (rtB p.val 0) = decide (2 ≤ g.val) := by decide +kernel
theorem isB_lay (s g p r : Nat) : isB (layB s g p r) = okB s g p r := by
  have e1 : (layB s g p r).sections.length = s := by simp [layB]
  have e2 : (layB s g p r).points.length = p := by simp [layB]
  have e3 : (layB s g p r).signals.length = g := by simp [layB]
  have e4 : (layB s g p r).routes.length = r := by simp [layB]
  by_cases hb : 1 ≤ s ∧ s ≤ 10 ∧ 1 ≤ g ∧ g ≤ 6 ∧ p ≤ 5 ∧ r ≤ 6
  · have h1 : boundsB (layB s g p r) = true := by
      unfold boundsB
      rw [e1, e2, e3, e4]
      exact decide_eq_true hb
    have h2 : secsB (layB s g p r) = true := by
      unfold secsB
      rw [e1]
      refine decide_eq_true fun x hx => ?_
      obtain ⟨i, _, rfl⟩ := List.mem_map.1 hx
      exact ⟨Int.le_refl _, by show (0 : Int) < (s : Int); omega⟩
    have h3 : namesAll (layB s g p r) = true := by
      have a := names_a ⟨s, by omega⟩
      have b := names_b ⟨g, by omega⟩
      have c := names_c ⟨p, by omega⟩
      have d := names_d ⟨r, by omega⟩
      unfold namesAll
      have ec : (layB s g p r).points.map (·.1) = (List.range p).map (nm 99) := by show ((List.range p).map fun i => (nm 99 i, (0 : Int))).map (·.1) = _; rw [List.map_map]; rfl
      have ed : (layB s g p r).routes.map (·.name) = (List.range r).map (nm 100) := by show ((List.range r).map (rtB p)).map (·.name) = _; rw [List.map_map]; rfl
      rw [ec, ed]
      show (namesB ((List.range s).map (nm 97)) && (namesB ((List.range g).map (nm 98)) && _)) = true
      rw [a, b, c, d]
      rfl
    have h4 : ∀ i, routeB (layB s g p r) (rtB p i) = decide (2 ≤ g) := fun i => routes_b ⟨s, by omega⟩ ⟨g, by omega⟩ ⟨p, by omega⟩ ⟨r, by omega⟩ hb.1 hb.2.2.1
    have h5 : (layB s g p r).routes.all (routeB (layB s g p r)) = decide (r = 0 ∨ 2 ≤ g) := by
      show ((List.range r).map (rtB p)).all _ = _
      rw [List.all_map]
      by_cases hg : 2 ≤ g
      · rw [decide_eq_true (Or.inr hg), List.all_eq_true]
        intro i _
        show routeB (layB s g p r) (rtB p i) = true
        rw [h4, decide_eq_true hg]
      · cases r with
        | zero => rw [decide_eq_true (Or.inl rfl)]; rfl
        | succ r =>
          rw [decide_eq_false (by omega), List.all_eq_false]
          refine ⟨0, by simp, ?_⟩
          show ¬ routeB (layB s g p (r + 1)) (rtB p 0) = true
          rw [h4, decide_eq_false hg]
          simp
    rw [isB, h1, h2, h3, h5]
    unfold okB
    simp only [Bool.true_and]
    rw [Bool.eq_iff_iff, decide_eq_true_eq, decide_eq_true_eq]
    omega
  · rw [isB_bounds (by rw [e1, e2, e3, e4]; exact hb)]
    unfold okB
    exact (decide_eq_false (by omega)).symm
end Go.Proofs.Ytceebimgfajbcaa
