/-
  The small functions of package glyph, each by a contract: Letter, digit, mayStand, blank, strings.HasPrefix.
-/
import Derived.Test.YtfgkkhcoidegdaaDoorProg
import Derived.WalkKit
import Derived.Lib.Strings
namespace Go.Proofs.YtfgkkhcoidegdaaDoor
open Go.RowKit

theorem ret_bool {a b : Bool} (h : a = b) : Ending.returned (.bool a) = .returned (.bool b) := by rw [h]

def letterB (r : Int) : Bool := decide ((97 ≤ r ∧ r ≤ 122) ∨ (65 ≤ r ∧ r ≤ 90) ∨ (192 ≤ r ∧ r ≤ 591 ∧ r ≠ 215 ∧ r ≠ 247))
def digitB (r : Int) : Bool := decide (48 ≤ r ∧ r ≤ 57)
def blankB (r : Int) : Bool := decide (r = 32 ∨ r = 9)
def standB (r n : Int) : Bool := letterB r || (decide (0 < n) && digitB r)

set_option maxHeartbeats 400000 in
theorem letter_any (r : Int) (w : World) :
    Calls Tryd.prog 186 #[.int .i32 r] w fun e w' => e = .returned (.bool (letterB r)) ∧ w' = w := by
  go_enter Tryd.func186, Tryd.ntmps186
  go_wp2
  all_goals go_ret
  all_goals (refine ⟨ret_bool ?_, rfl⟩)
  all_goals ((try simp only [beq_iff_eq, beq_eq_false_iff_ne] at *); unfold letterB; rw [Bool.eq_iff_iff]; simp; omega)

set_option maxHeartbeats 400000 in
theorem refLetter_any (r : Int) (w : World) :
    Calls Tryd.prog 109 #[.int .i32 r] w fun e w' => e = .returned (.bool (letterB r)) ∧ w' = w := by
  go_enter Tryd.func109, Tryd.ntmps109
  go_wp2
  all_goals go_ret
  all_goals (refine ⟨ret_bool ?_, rfl⟩)
  all_goals ((try simp only [beq_iff_eq, beq_eq_false_iff_ne, bne_iff_ne] at *); unfold letterB; rw [Bool.eq_iff_iff]; simp; omega)

theorem digit_any (r : Int) (w : World) :
    Calls Tryd.prog 187 #[.int .i32 r] w fun e w' => e = .returned (.bool (digitB r)) ∧ w' = w := by
  go_enter Tryd.func187, Tryd.ntmps187
  go_wp2
  all_goals go_ret
  all_goals (refine ⟨ret_bool ?_, rfl⟩)
  all_goals (unfold digitB; rw [Bool.eq_iff_iff]; simp; omega)

theorem blank_any (r : Int) (w : World) :
    Calls Tryd.prog 161 #[.int .i32 r] w fun e w' => e = .returned (.bool (blankB r)) ∧ w' = w := by
  go_enter Tryd.func161, Tryd.ntmps161
  go_wp2
  all_goals go_ret
  all_goals (refine ⟨ret_bool ?_, rfl⟩)
  all_goals (unfold blankB; rw [Bool.eq_iff_iff]; simp; try omega)

theorem stand_any (r n : Int) (w : World) :
    Calls Tryd.prog 183 #[.int .i32 r, .int .i64 n] w fun e w' => e = .returned (.bool (standB r n)) ∧ w' = w := by
  cases hl : letterB r <;> by_cases hn : 0 < n
  all_goals
    go_enter Tryd.func183, Tryd.ntmps183
    go_wp2_with (first
      | (go_at_call 186; refine (letter_any _ _).mono ?_; rintro e w' ⟨rfl, rfl⟩)
      | (go_at_call 187; refine (digit_any _ _).mono ?_; rintro e w' ⟨rfl, rfl⟩))
  all_goals go_ret
  all_goals (refine ⟨ret_bool ?_, rfl⟩)
  all_goals (first | (simp [standB, hl, hn]; done) | (simp [standB, hl]; omega))

set_option maxHeartbeats 400000 in
theorem litePrefix_any (s p : ByteArray) (w : World) :
    Calls Tryd.prog 175 #[.string s, .string p] w fun e w' => e = .returned (.bool (Lib.hasPrefix s.data.toList p.data.toList)) ∧ w' = w := by
  go_enter Tryd.func175, Tryd.ntmps175
  go_wp2
  all_goals go_ret
  all_goals (refine ⟨ret_bool ?_, rfl⟩)
  · have := Lib.hasPrefix_raw s p
    simp only [‹p.size ≤ s.size›, decide_true, Bool.true_and] at this
    exact this
  · have := Lib.hasPrefix_raw s p
    simp only [‹¬ p.size ≤ s.size›, decide_false, Bool.false_and] at this
    exact this

theorem hasPrefix_any (s p : ByteArray) (w : World) :
    Calls Tryd.prog 160 #[.string s, .string p] w fun e w' => e = .returned (.bool (Lib.hasPrefix s.data.toList p.data.toList)) ∧ w' = w := by
  go_enter Tryd.func160, Tryd.ntmps160
  go_wp2_with (go_at_call 175; refine (litePrefix_any _ _ _).mono ?_; rintro e w' ⟨rfl, rfl⟩)
  go_ret
  exact ⟨rfl, rfl⟩
end Go.Proofs.YtfgkkhcoidegdaaDoor
