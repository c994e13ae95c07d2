/-
  The small functions of package glyph, each by a contract: Letter, digit, mayStand, blank, strings.HasPrefix.
-/
import Derived.Test.YtceebimgfajbcaaProg
import Derived.WalkKit
import Derived.Lib.Strings
namespace Go.Proofs.Ytceebimgfajbcaa
open Go.RowKit

theorem ret_bool {a b : Bool} (h : a = b) : Ending.returned (.bool a) = .returned (.bool b) := by rw [h]

def letterB (r : Int) : Bool := decide ((97 ≤ r ∧ r ≤ 122) ∨ (65 ≤ r ∧ r ≤ 90) ∨ (192 ≤ r ∧ r ≤ 591 ∧ r ≠ 215 ∧ r ≠ 247))
def digitB (r : Int) : Bool := decide (48 ≤ r ∧ r ≤ 57)
def blankB (r : Int) : Bool := decide (r = 32 ∨ r = 9)
def standB (r n : Int) : Bool := letterB r || (decide (0 < n) && digitB r)

set_option maxHeartbeats 400000 in
theorem letter_any (r : Int) (w : World) :
    Calls Try.prog 46 #[.int .i32 r] w fun e w' => e = .returned (.bool (letterB r)) ∧ w' = w := by
  go_enter Try.func46, Try.ntmps46
  go_wp2
  all_goals go_ret
  all_goals (refine ⟨ret_bool ?_, rfl⟩)
  all_goals ((try simp only [beq_iff_eq, beq_eq_false_iff_ne] at *); unfold letterB; rw [Bool.eq_iff_iff]; simp; omega)


theorem digit_any (r : Int) (w : World) :
    Calls Try.prog 47 #[.int .i32 r] w fun e w' => e = .returned (.bool (digitB r)) ∧ w' = w := by
  go_enter Try.func47, Try.ntmps47
  go_wp2
  all_goals go_ret
  all_goals (refine ⟨ret_bool ?_, rfl⟩)
  all_goals (unfold digitB; rw [Bool.eq_iff_iff]; simp; omega)


theorem stand_any (r n : Int) (w : World) :
    Calls Try.prog 45 #[.int .i32 r, .int .i64 n] w fun e w' => e = .returned (.bool (standB r n)) ∧ w' = w := by
  cases hl : letterB r <;> by_cases hn : 0 < n
  all_goals
    go_enter Try.func45, Try.ntmps45
    go_wp2_with (first
      | (go_at_call 46; refine (letter_any _ _).mono ?_; rintro e w' ⟨rfl, rfl⟩)
      | (go_at_call 47; refine (digit_any _ _).mono ?_; rintro e w' ⟨rfl, rfl⟩))
  all_goals go_ret
  all_goals (refine ⟨ret_bool ?_, rfl⟩)
  all_goals (first | (simp [standB, hl, hn]; done) | (simp [standB, hl]; omega))


end Go.Proofs.Ytceebimgfajbcaa
