/-
  The small functions of package table, and what package slices finds in rows of numbers and of needs, each by a contract.
-/
import Derived.Test.YtceebimgfajbcaaLyIn
import Derived.Test.YtceebimgfajbcaaLyEq
namespace Go.Proofs.Ytceebimgfajbcaa
open Go.RowKit

theorem isCount_any (n a b : Int) (w : World) :
    Calls Try.prog 12 #[.int .i64 n, .int .i64 a, .int .i64 b] w fun e w' => e = .returned (.bool (decide (a ≤ n ∧ n ≤ b))) ∧ w' = w := by
  by_cases h : a ≤ n
  all_goals
    go_enter Try.func12, Try.ntmps12
    go_wp2
    go_ret
    exact ⟨ret_bool (by rw [Bool.eq_iff_iff]; simp; omega), rfl⟩

theorem isPlace_any (i n : Int) (w : World) :
    Calls Try.prog 18 #[.int .i64 i, .int .i64 n] w fun e w' => e = .returned (.bool (decide (0 ≤ i ∧ i < n))) ∧ w' = w := by
  by_cases h : 0 ≤ i
  all_goals
    go_enter Try.func18, Try.ntmps18
    go_wp2
    go_ret
    exact ⟨ret_bool (by rw [Bool.eq_iff_iff]; simp; omega), rfl⟩

set_option maxRecDepth 1000000 in
set_option maxHeartbeats 1000000 in
theorem mayName_any (s : ByteArray) (w : World) :
    Calls Try.prog 23 #[.string s] w fun e w' => e = .returned (.bool (capB s)) ∧ Below w.heap.size w w' := by
  have N := isName_any s w
  cases hn : nameB s.data.toList
  · have HC : Hid (capB s = false) := by simp [Hid, capB, hn]
    rw [hn] at N
    rw [HC.out]
    go_enter Try.func23, Try.ntmps23
    go_wp2_with fail
    refine N.mono ?_
    rintro e w1 ⟨rfl, hb1⟩
    go_wp2
    go_ret
    exact ⟨rfl, hb1⟩
  · rw [hn] at N
    by_cases h1 : s = kSet
    · subst h1
      rw [show capB kSet = false by decide +kernel]
      rw [kSet] at N ⊢
      go_enter Try.func23, Try.ntmps23
      go_wp2_with fail
      refine N.mono ?_
      rintro e w1 ⟨rfl, hb1⟩
      go_wp2
      go_ret
      exact ⟨rfl, hb1⟩
    · by_cases h2 : s = kFlank
      · subst h2
        rw [show capB kFlank = false by decide +kernel]
        rw [kFlank] at N ⊢
        go_enter Try.func23, Try.ntmps23
        go_wp2_with fail
        refine N.mono ?_
        rintro e w1 ⟨rfl, hb1⟩
        go_wp2
        go_ret
        exact ⟨rfl, hb1⟩
      · have HC : Hid (capB s = true) := by simp [Hid, capB, hn, endsB, h1, h2]
        rw [HC.out]
        have d1 : ¬ s.toList = [115, 101, 116] := fun h => h1 (bytes_ext (by rw [← Lib.toList_data, h]))
        have d2 : ¬ s.toList = [102, 108, 97, 110, 107] := fun h => h2 (bytes_ext (by rw [← Lib.toList_data, h]))
        go_enter Try.func23, Try.ntmps23
        go_wp2_with fail
        refine N.mono ?_
        rintro e w1 ⟨rfl, hb1⟩
        go_wp2
        go_ret
        exact ⟨ret_bool (by simp [d1, d2]), hb1⟩

/-- The place of the first that is so; -1. -/
def atF {α : Type} (p : α → Bool) : List α → Nat → Int
  | [], _ => -1
  | y :: l, k => if p y = true then (k : Int) else atF p l (k + 1)
theorem atF_ge {α : Type} (p : α → Bool) : ∀ (l : List α) (k : Nat), decide (0 ≤ atF p l k) = l.any p
  | [], _ => rfl
  | y :: l, k => by
    rw [atF, List.any_cons]
    cases h : p y
    · rw [if_neg (by simp), atF_ge p l (k + 1), Bool.false_or]
    · rw [if_pos rfl, Bool.true_or]
      exact decide_eq_true (by omega)
def eqI (x : Int) (y : Int) : Bool := decide (y = x)

set_option maxRecDepth 1000000 in
set_option maxHeartbeats 1000000 in
theorem indexI_any (v : Value) (l : List Int) (x : Int) (w : World) (h : rowAt w v 1 iC l) (hl : l.length ≤ 4294967296) :
    Calls Try.prog 41 #[v, .int .i64 x] w fun e w' => e = .returned (.int .i64 (atF (eqI x) l 0)) ∧ w' = w := by
  obtain ⟨oa, cap, rfl, h2⟩ := h
  have H2 : Hid (∀ j y, l[j]? = some y → ∃ g off, oa = some ⟨g, off, none⟩ ∧ ∀ i u, (iC y)[i]? = some u → w.cell? ⟨g, off + j * 1 + i, none⟩ = some u) := h2
  clear h2
  generalize hA : atF (eqI x) l 0 = ans at *
  have HI : Hid (atF (eqI x) l 0 = ans) := hA
  clear hA
  generalize hn : l.length = n at *
  have HN : Hid (l.length = n) := hn
  clear hn
  go_enter Try.func41, Try.ntmps41
  go_wp2
  go_loop [5, 8] (fun _ i => ∃ k : Nat, i = .int .i64 k ∧ k ≤ n ∧ atF (eqI x) (l.drop k) k = atF (eqI x) l 0) (fun _ i => n - (intOf i).toNat)
  case atStart => exact ⟨0, rfl, by omega, by simp⟩
  case round =>
    obtain ⟨k, rfl, hk, hc⟩ := hrel
    have HC : Hid (atF (eqI x) (l.drop k) k = atF (eqI x) l 0) := hc
    clear hc
    by_cases hlt : k < n
    · obtain ⟨y, hy⟩ : ∃ y, l[k]? = some y := ⟨l[k]'(by rw [HN.out]; exact hlt), List.getElem?_eq_getElem _⟩
      obtain ⟨g, off, rfl, hcell⟩ := H2.out k y hy
      have c0 := hcell 0 _ rfl
      simp only [Nat.mul_one, Nat.add_zero] at c0
      rw [drop_at hy, atF] at HC
      clear hcell hy
      by_cases hxy : y = x
      · have hb : ((x : Int) == y) = true := by simp [hxy]
        rw [if_pos (show eqI x y = true from decide_eq_true hxy)] at HC
        clear hxy
        go_wp2
        go_ret
        exact ⟨by rw [← HI.out, ← HC.out]; rfl, rfl⟩
      · have hb : ((x : Int) == y) = false := by simp; exact fun h => hxy h.symm
        rw [if_neg (by simp [eqI, hxy])] at HC
        clear hxy
        go_wp2
        go_round
        case rel => exact ⟨k + 1, by go_num, by omega, HC.out⟩
        case measure => simp [intOf]; omega
    · have h1 := HC.out
      rw [List.drop_of_length_le (by rw [HN.out]; omega), atF] at h1
      have H1 : Hid (-1 = atF (eqI x) l 0) := h1
      clear h1
      go_wp2
      go_ret
      exact ⟨by rw [← HI.out, ← H1.out]; rfl, rfl⟩

theorem containsI_any (v : Value) (l : List Int) (x : Int) (w : World) (h : rowAt w v 1 iC l) (hl : l.length ≤ 4294967296) :
    Calls Try.prog 31 #[v, .int .i64 x] w fun e w' => e = .returned (.bool (inB l x)) ∧ w' = w := by
  have HI : decide (0 ≤ atF (eqI x) l 0) = inB l x := atF_ge _ _ _
  have C := indexI_any v l x w h hl
  rw [← HI]
  generalize atF (eqI x) l 0 = n at *
  clear h HI
  go_enter Try.func31, Try.ntmps31
  go_wp2_with fail
  refine C.mono ?_
  rintro e w1 ⟨rfl, rfl⟩
  go_wp2
  go_ret
  exact ⟨rfl, rfl⟩
end Go.Proofs.Ytceebimgfajbcaa
