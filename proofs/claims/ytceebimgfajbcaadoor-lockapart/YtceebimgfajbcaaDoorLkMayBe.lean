/-
  Package lock: how one route may stand (isWaiting, mayBe), by contracts.
-/
import Derived.Test.YtceebimgfajbcaaDoorLkStep
namespace Go.Proofs.YtceebimgfajbcaaDoor
open Go.RowKit

def waitB (s : St) (most : Int) : Bool := decide (s.2.2.1 = 0) && !s.2.2.2 && decide (0 ≤ s.2.1) && decide (s.2.1 ≤ most)

set_option maxRecDepth 1000000 in
theorem isWaiting_any (m t g : Int) (b : Bool) (most : Int) (w : World) :
    Calls Tryd.prog 120 #[.agg #[.int .i64 m, .int .i64 t, .int .i64 g, .bool b], .int .i64 most] w fun e w' => e = .returned (.bool (waitB (m, t, g, b) most)) ∧ Below w.heap.size w w' := by
  go_enter Tryd.func120, Tryd.ntmps120
  by_cases hg : g = 0
  · subst hg
    cases b
    · by_cases h0 : 0 ≤ t
      · by_cases h1 : t ≤ most
        · go_wp2
          go_ret
          exact ⟨by simp [waitB, h0, h1], (by repeat' (with_reducible first | exact Below.refl _ _ | refine Below.drew ?_ | refine _root_.Go.below_drewN ?_ _ | refine Below.alloc ?_ ?_ _ | refine Below.setCell ?_ ?_ _ | exact Nat.le_refl _ | (simp; done) | (simp; omega)))⟩
        · go_wp2
          go_ret
          exact ⟨by simp [waitB, h0, h1], (by repeat' (with_reducible first | exact Below.refl _ _ | refine Below.drew ?_ | refine _root_.Go.below_drewN ?_ _ | refine Below.alloc ?_ ?_ _ | refine Below.setCell ?_ ?_ _ | exact Nat.le_refl _ | (simp; done) | (simp; omega)))⟩
      · go_wp2
        go_ret
        exact ⟨by simp [waitB]; omega, (by repeat' (with_reducible first | exact Below.refl _ _ | refine Below.drew ?_ | refine _root_.Go.below_drewN ?_ _ | refine Below.alloc ?_ ?_ _ | refine Below.setCell ?_ ?_ _ | exact Nat.le_refl _ | (simp; done) | (simp; omega)))⟩
    · go_wp2
      go_ret
      exact ⟨by simp [waitB], (by repeat' (with_reducible first | exact Below.refl _ _ | refine Below.drew ?_ | refine _root_.Go.below_drewN ?_ _ | refine Below.alloc ?_ ?_ _ | refine Below.setCell ?_ ?_ _ | exact Nat.le_refl _ | (simp; done) | (simp; omega)))⟩
  · go_wp2
    go_ret
    exact ⟨by simp [waitB, hg], (by repeat' (with_reducible first | exact Below.refl _ _ | refine Below.drew ?_ | refine _root_.Go.below_drewN ?_ _ | refine Below.alloc ?_ ?_ _ | refine Below.setCell ?_ ?_ _ | exact Nat.le_refl _ | (simp; done) | (simp; omega)))⟩

theorem waitB_eq (m t g : Int) (b : Bool) (most : Int) : waitB (m, t, g, b) most = decide ((g, b) = (0, false) ∧ 0 ≤ t ∧ t ≤ most) := by
  rw [waitB, Bool.eq_iff_iff]
  simp [and_assoc]

set_option maxRecDepth 1000000 in
set_option maxHeartbeats 8000000 in
theorem mayBe_any (m t g : Int) (b : Bool) (n : Nat) (w : World) :
    Calls Tryd.prog 88 #[.agg #[.int .i64 m, .int .i64 t, .int .i64 g, .bool b], .int .i64 n] w fun e w' => e = .returned (.bool (mayBeF (m, t, g, b) n)) ∧ Below w.heap.size w w' := by
  by_cases m0 : m = 0
  · subst m0
    have hF : mayBeF (0, t, g, b) n = (decide (t = 0) && decide (g = 0) && !b) := by rw [mayBeF, if_pos (.inl rfl), Bool.eq_iff_iff]; simp [and_assoc]
    rw [hF]
    clear hF
    go_enter Tryd.func88, Tryd.ntmps88
    by_cases ht : t = 0 <;> by_cases hg : g = 0 <;> cases b
    all_goals
      go_wp2
      go_ret
      exact ⟨by simp [ht, hg], (by repeat' (with_reducible first | exact Below.refl _ _ | refine Below.drew ?_ | refine _root_.Go.below_drewN ?_ _ | refine Below.alloc ?_ ?_ _ | refine Below.setCell ?_ ?_ _ | exact Nat.le_refl _ | (simp; done) | (simp; omega)))⟩
  by_cases m2 : m = 2
  · subst m2
    have hF : mayBeF (2, t, g, b) n = (decide (t = 0) && decide (g = 0) && !b) := by rw [mayBeF, if_pos (.inr rfl), Bool.eq_iff_iff]; simp [and_assoc]
    rw [hF]
    clear hF m0
    go_enter Tryd.func88, Tryd.ntmps88
    by_cases ht : t = 0 <;> by_cases hg : g = 0 <;> cases b
    all_goals
      go_wp2
      go_ret
      exact ⟨by simp [ht, hg], (by repeat' (with_reducible first | exact Below.refl _ _ | refine Below.drew ?_ | refine _root_.Go.below_drewN ?_ _ | refine Below.alloc ?_ ?_ _ | refine Below.setCell ?_ ?_ _ | exact Nat.le_refl _ | (simp; done) | (simp; omega)))⟩
  by_cases m1 : m = 1
  · subst m1
    have hF : mayBeF (1, t, g, b) n = waitB (1, t, g, b) 8 := by rw [waitB_eq, mayBeF, if_neg (show ¬((1 : Int) = 0 ∨ (1 : Int) = 2) by decide), if_pos rfl]
    rw [hF]
    clear hF m0 m2
    go_enter Tryd.func88, Tryd.ntmps88
    go_wp2_with fail
    refine (isWaiting_any 1 t g b 8 _).mono ?_
    rintro e w2 ⟨rfl, hb2⟩
    have HB : Hid (Below w.heap.size w w2) := Below.trans (show Below w.heap.size w _ from (by repeat' (with_reducible first | exact Below.refl _ _ | refine Below.drew ?_ | refine _root_.Go.below_drewN ?_ _ | refine Below.alloc ?_ ?_ _ | refine Below.setCell ?_ ?_ _ | exact Nat.le_refl _ | (simp; done) | (simp; omega)))) (hb2.mono (Nat.le_of_lt (by simp)))
    go_wp2
    go_ret
    exact ⟨rfl, HB.out⟩
  by_cases m4 : m = 4
  · subst m4
    have hF : mayBeF (4, t, g, b) n = waitB (4, t, g, b) 5 := by rw [waitB_eq, mayBeF, if_neg (show ¬((4 : Int) = 0 ∨ (4 : Int) = 2) by decide), if_neg (show ¬((4 : Int) = 1) by decide), if_pos rfl]
    rw [hF]
    clear hF m0 m2 m1
    go_enter Tryd.func88, Tryd.ntmps88
    go_wp2_with fail
    refine (isWaiting_any 4 t g b 5 _).mono ?_
    rintro e w2 ⟨rfl, hb2⟩
    have HB : Hid (Below w.heap.size w w2) := Below.trans (show Below w.heap.size w _ from (by repeat' (with_reducible first | exact Below.refl _ _ | refine Below.drew ?_ | refine _root_.Go.below_drewN ?_ _ | refine Below.alloc ?_ ?_ _ | refine Below.setCell ?_ ?_ _ | exact Nat.le_refl _ | (simp; done) | (simp; omega)))) (hb2.mono (Nat.le_of_lt (by simp)))
    go_wp2
    go_ret
    exact ⟨rfl, HB.out⟩
  by_cases m3 : m = 3
  · subst m3
    have hF : mayBeF (3, t, g, b) n = (decide (t = 0) && decide (0 ≤ g) && decide (g < (n : Int))) := by rw [mayBeF, if_neg (show ¬((3 : Int) = 0 ∨ (3 : Int) = 2) by decide), if_neg (show ¬((3 : Int) = 1) by decide), if_neg (show ¬((3 : Int) = 4) by decide), if_pos rfl, Bool.eq_iff_iff]; simp [and_assoc]
    rw [hF]
    clear hF m0 m2 m1 m4
    go_enter Tryd.func88, Tryd.ntmps88
    by_cases ht : t = 0 <;> by_cases hg : 0 ≤ g <;> by_cases hn : g < (n : Int)
    all_goals first
      | (exfalso; omega)
      | (go_wp2
         go_ret
         exact ⟨by simp [ht, hg, hn], (by repeat' (with_reducible first | exact Below.refl _ _ | refine Below.drew ?_ | refine _root_.Go.below_drewN ?_ _ | refine Below.alloc ?_ ?_ _ | refine Below.setCell ?_ ?_ _ | exact Nat.le_refl _ | (simp; done) | (simp; omega)))⟩)
  have hF : mayBeF (m, t, g, b) n = false := by rw [mayBeF, if_neg (by rintro (h | h); exact m0 h; exact m2 h), if_neg m1, if_neg m4, if_neg m3]
  rw [hF]
  clear hF
  go_enter Tryd.func88, Tryd.ntmps88
  go_wp2
  go_ret
  exact ⟨rfl, (by repeat' (with_reducible first | exact Below.refl _ _ | refine Below.drew ?_ | refine _root_.Go.below_drewN ?_ _ | refine Below.alloc ?_ ?_ _ | refine Below.setCell ?_ ?_ _ | exact Nat.le_refl _ | (simp; done) | (simp; omega)))⟩
end Go.Proofs.YtceebimgfajbcaaDoor
