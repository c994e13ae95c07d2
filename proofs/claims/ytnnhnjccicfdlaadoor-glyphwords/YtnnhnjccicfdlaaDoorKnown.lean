/-
  The law's own 'known', by a contract: it is true.
-/
import Derived.Test.YtnnhnjccicfdlaaDoorSame
namespace Go.Proofs.YtnnhnjccicfdlaaDoor
open Go.RowKit

def kw : ByteArray := ⟨#[195, 169, 32, 55]⟩
theorem kw_wrong : wrongO kw.data.toList = none := by decide +kernel
theorem kw_words : wordsL kw = [(⟨#[195, 169]⟩, 0), (⟨#[55]⟩, 2)] := by decide +kernel
theorem kw_name : nameB [195, 169, 55] = true := by decide +kernel
theorem kw_width : (runes [195, 169, 55]).length = 2 := by decide +kernel

theorem known_words (w : World) :
    Calls Tryd.prog 6 #[.string ⟨#[195, 169, 32, 55]⟩] w fun e w' => ∃ v, e = .returned (.tuple #[v, .int .i64 (-1)]) ∧ hasWords w' v [(⟨#[195, 169]⟩, 0), (⟨#[55]⟩, 2)] ∧ Below w.heap.size w w' := by
  refine (words_ok kw w (by decide) kw_wrong).mono ?_
  rintro e w' ⟨v, rfl, hown, hb⟩
  rw [kw_words] at hown
  exact ⟨v, rfl, hasWords_of_owns hown, hb⟩

theorem hasWords_below {w w' : World} {v : Value} {ws : List (ByteArray × Nat)} (h : hasWords w v ws) (hb : Below w.heap.size w w') : hasWords w' v ws := by
  obtain ⟨oa, cap, h1, h2, h3⟩ := h
  refine ⟨oa, cap, h1, h2, fun j x hj => ?_⟩
  obtain ⟨g, e, c1, c2⟩ := h3 j x hj
  have hlt := World.block_lt_of_cell? w _ c1
  exact ⟨g, e, (hb.cell (p := ⟨g, j * 2, none⟩) hlt).trans c1, (hb.cell (p := ⟨g, j * 2 + 1, none⟩) hlt).trans c2⟩

theorem known_name (w : World) : Calls Tryd.prog 11 #[.string ⟨#[195, 169, 55]⟩] w fun e w' => e = .returned (.bool true) ∧ Below w.heap.size w w' := by
  have h := isName_any ⟨#[195, 169, 55]⟩ w
  rw [show nameB (ByteArray.mk #[195, 169, 55]).data.toList = true from kw_name] at h
  exact h
theorem known_width (w : World) : Calls Tryd.prog 9 #[.string ⟨#[195, 169, 55]⟩] w fun e w' => e = .returned (.int .i64 2) ∧ Below w.heap.size w w' := by
  have h := width_any ⟨#[195, 169, 55]⟩ w (by decide)
  rw [show (runes (ByteArray.mk #[195, 169, 55]).data.toList).length = 2 from kw_width] at h
  exact h
theorem known_list (w1 : World) : hasWords (w1.alloc (.cells #[.string ⟨#[195, 169]⟩, .int .i64 0, .string ⟨#[55]⟩, .int .i64 2] 37)) (.slice (some ⟨w1.heap.size, 0, none⟩) 2 2) [(⟨#[195, 169]⟩, 0), (⟨#[55]⟩, 2)] := by
  refine ⟨_, 2, rfl, Nat.le_refl _, fun j x hj => ⟨w1.heap.size, rfl, ?_⟩⟩
  match j, hj with
  | 0, hj => simp at hj; subst hj; simp
  | 1, hj => simp at hj; subst hj; simp

set_option maxRecDepth 1000000 in
set_option maxHeartbeats 2000000 in
theorem known_any (w : World) :
    Calls Tryd.prog 15 #[] w fun e w' => e = .returned (.bool true) ∧ Below w.heap.size w w' := by
  go_enter Tryd.func15, Tryd.ntmps15
  go_wp2_with fail
  refine (known_words _).mono ?_
  rintro e w1 ⟨v, rfl, hw, hb1⟩
  go_wp2_with fail
  have hw2 := hasWords_below hw ((Below.refl _ _).alloc (Nat.le_refl _) (.cells #[.string ⟨#[195, 169]⟩, .int .i64 0, .string ⟨#[55]⟩, .int .i64 2] 37))
  refine (same_any v _ _ _ _ (by decide) hw2 (known_list w1)).mono ?_
  rintro e w2 ⟨rfl, n, rfl⟩
  rw [decide_eq_true (rfl : ([(⟨#[195, 169]⟩, 0), (⟨#[55]⟩, 2)] : List (ByteArray × Nat)) = [(⟨#[195, 169]⟩, 0), (⟨#[55]⟩, 2)])]
  go_wp2_with fail
  refine (known_name _).mono ?_
  rintro e w3 ⟨rfl, hb3⟩
  go_wp2_with fail
  refine (known_width _).mono ?_
  rintro e w4 ⟨rfl, hb4⟩
  go_wp2
  go_ret
  refine ⟨rfl, ?_⟩
  have h1 : Below w.heap.size w ((w1.alloc (.cells #[.string ⟨#[195, 169]⟩, .int .i64 0, .string ⟨#[55]⟩, .int .i64 2] 37)).drewN n) := below_drewN (hb1.alloc hb1.size _) n
  have h2 := hb1.size
  have h3 := hb3.size
  refine (h1.trans (hb3.mono ?_)).trans (hb4.mono ?_)
  · simp; omega
  · simp at h3; omega
end Go.Proofs.YtnnhnjccicfdlaaDoor
