/-
  Width, IsName, firstWrong of package glyph, each by a contract: at every text.
-/
import Derived.Test.YtceebimgfajbcaaLeaf
import Derived.Test.YtceebimgfajbcaaPlain
import Derived.WalkKit
import Derived.WalkSmall
namespace Go.Proofs.Ytceebimgfajbcaa
open Go.RowKit

theorem ret_int {k : IntKind} {a b : Int} (h : a = b) : Ending.returned (.int k a) = .returned (.int k b) := by rw [h]


/-- IsName, from the n-th rune on. -/
def nameF : Nat → List (Nat × Nat) → Bool
  | n, [] => decide (0 < n)
  | n, r :: rs => if n = 8 ∨ standB r.1 n = false then false else nameF (n + 1) rs
def nameB (l : List UInt8) : Bool := nameF 0 (runes l)

set_option maxRecDepth 1000000 in
set_option maxHeartbeats 1000000 in
theorem isName_any (s : ByteArray) (w : World) :
    Calls Try.prog 36 #[.string s] w fun e w' => e = .returned (.bool (nameB s.data.toList)) ∧ Below w.heap.size w w' := by
  have H0 : Hid (nameF 0 (runesAt s 0) = nameB s.data.toList) := by simp [Hid, runesAt, nameB]
  go_enter Try.func36, Try.ntmps36
  go_wp2
  go_loopw [3, 5] (fun n _ w' => ∃ (pos k : Nat), w' = w.iter s pos ∧ n = .int .i64 k ∧ nameF k (runesAt s pos) = nameF 0 (runesAt s 0) ∧ k ≤ 8 ∧ pos ≤ s.size) (fun _ _ w' => s.size - w'.iterPos w.heap.size)
  case atStart => exact ⟨0, 0, rfl, rfl, rfl, by omega, by omega⟩
  case round =>
    obtain ⟨pos, k, rfl, rfl, hc, hk, hps⟩ := hrel
    have HC : Hid (nameF k (runesAt s pos) = nameF 0 (runesAt s 0)) := hc
    clear hc
    by_cases hp : pos < s.size
    · have hnx : ∀ ty, (Instr.next (.pointer (some ⟨w.heap.size, 0, none⟩)) true ty).run Try.prog (w.iter s pos) = _ := fun ty => run_next_any w s pos ty hp
      have hwd := width_at s pos hp
      have HN : Hid (nameF k (runesAt s pos) = if k = 8 ∨ standB (Utf8.decode s pos).1 k = false then false else nameF (k + 1) (runesAt s (pos + (Utf8.decode s pos).2))) := by
        rw [runesAt_next s pos hp]; rfl
      generalize hr : Utf8.decode s pos = dd at *
      obtain ⟨r, wd⟩ := dd
      simp only at *
      clear hr
      by_cases h8 : k = 8
      · subst h8
        go_wp2
        go_ret
        refine ⟨ret_bool ?_, (Below.refl _ _).alloc (Nat.le_refl _) _⟩
        rw [← H0.out, ← HC.out, HN.out]; simp
      · have h8' : ((k : Int) == 8) = false := by simp; omega
        cases hst : standB r k
        all_goals
          go_wp2_with (go_at_call 45; refine (stand_any _ _ _).mono ?_; rintro e w' ⟨rfl, rfl⟩)
        · go_ret
          refine ⟨ret_bool ?_, (Below.refl _ _).alloc (Nat.le_refl _) _⟩
          rw [← H0.out, ← HC.out, HN.out]; simp [hst]
        · go_roundw
          case rel =>
            refine ⟨pos + wd, k + 1, rfl, by go_num, ?_, by omega, by omega⟩
            rw [← HC.out, HN.out, if_neg (by simp [hst, h8])]
          case measure =>
            simp
            omega
    · have hnx : ∀ ty, (Instr.next (.pointer (some ⟨w.heap.size, 0, none⟩)) true ty).run Try.prog (w.iter s pos) = _ := fun ty => run_next_end w s pos ty hp
      go_wp2
      go_ret
      refine ⟨ret_bool ?_, (Below.refl _ _).alloc (Nat.le_refl _) _⟩
      rw [← H0.out, ← HC.out, runesAt_end s pos hp]
      simp [nameF]

def wrongV : Option Nat → Value
  | some n => .tuple #[.int .i64 n, .bool true]
  | none => .tuple #[.int .i64 0, .bool false]


end Go.Proofs.Ytceebimgfajbcaa
