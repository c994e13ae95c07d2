/-
  Of any row of numbers: FieldMoves returns true.
-/
import Derived.Test.YthmbpohebcnehaaRows
import Derived.Test.YthmbpohebcnehaaFdKnown
import Derived.Test.YthmbpohebcnehaaLawInts
import Derived.WalkKit
import Derived.ProofKit
import Derived.OpenShut
import Derived.ShutString
import Derived.ChangeOld
import Derived.Below
import Derived.SizedLaws
import Derived.PinnedBridge
import Derived.Lib.LaidU8T
import Derived.Lay
import Derived.LaidOnce
import Derived.SevenTiedAt
import Derived.Deep.DeepHandedRow
namespace Go.Proofs.Ythmbpohebcnehaa.fieldMoves
open Go.ChangeShapes Go.WideShapes Go.ChangeAt Go.RowKit

theorem dr0 (l y m : Int) : drivenF (l, y, m) 0 = (l, 0, 0) := by simp [drivenF, restF]
theorem drS (y m d : Int) : drivenF (d, y, m) d = (d, 0, 0) := by simp [drivenF, restF]
theorem stY (l d m : Int) : stepsF (l, d, m) d = m + 1 := by simp [stepsF, Int.add_comm]
theorem drE {l y m d : Int} (h0 : d ≠ 0) (hl : d ≠ l) (hy : d = y) (hm : m + 1 = 3) : drivenF (l, y, m) d = (d, 0, 0) := by
  subst hy
  rw [drivenF, if_neg (by rintro (h | h); exact h0 h; exact hl h), stY, if_pos hm]
  rfl
theorem drG {l y m d : Int} (h0 : d ≠ 0) (hl : d ≠ l) (hy : d = y) (hm : m + 1 ≠ 3) : drivenF (l, y, m) d = (0, d, m + 1) := by
  subst hy
  rw [drivenF, if_neg (by rintro (h | h); exact h0 h; exact hl h), stY, if_neg hm]
theorem drN {l y m d : Int} (h0 : d ≠ 0) (hl : d ≠ l) (hy : d ≠ y) : drivenF (l, y, m) d = (0, d, 1) := by
  have hs : stepsF (l, y, m) d = 1 := by rw [stepsF, if_neg hy]
  rw [drivenF, if_neg (by rintro (h | h); exact h0 h; exact hl h), hs, if_neg (by decide)]

set_option maxRecDepth 1000000 in
set_option maxHeartbeats 32000000 in
theorem walk (w : World) (oa : Option Addr) (len cap : Nat) (ls : List Int) (e1 : ls.length = len) (m1 : len ≤ maxLen) (hI : hasInts w oa ls) : Calls Try.prog 3 #[.slice oa len cap] w fun e w' => e = .returned (.bool true) ∧ Below w.heap.size w w' := by
  unfold maxLen at m1
  by_cases h6 : 40 < len
  · have hq : (40 : Int) < (len : Int) := by omega
    clear e1 hI
    go_enter Try.func3, Try.ntmps3
    go_wp2
    go_ret
    exact ⟨rfl, Below.refl _ _⟩
  have hq : ¬ (40 : Int) < (len : Int) := by omega
  have HE : Hid (ls.length = len) := e1
  have HI : Hid (hasInts w oa ls) := hI
  have HL40 : Hid (len ≤ 40) := (by show len ≤ 40; omega)
  clear e1 hI m1 h6
  go_enter Try.func3, Try.ntmps3
  go_wp2_with fail
  refine (one_any 1 w (by omega)).mono ?_
  rintro e w1 ⟨v, rfl, hL, hF, hb1⟩
  have D := new_f 1 w w1 v hL hF one1 (by omega) hb1
  clear hL hF
  go_wp2_with fail
  refine D.mono ?_
  rintro e w2 ⟨fb, rfl, hK, -⟩
  clear D hb1
  have HK2 : Hid (FdL w w2 fb [false] [(1, 0, 0)]) := hK
  clear hK
  clear hq
  go_wp2
  go_loopg [5, 6, 7, 8, 9, 10] len (fun gk a5 a6 a7 a8 a9 a10 wr => ∃ (k : Nat) (l y m : Int), gk = len - k ∧ a8 = .int .i64 k ∧ a5 = .int .i64 l ∧ a6 = .int .i64 m ∧ a7 = .int .i64 y ∧ k ≤ len ∧ 0 ≤ m ∧ m ≤ 2 ∧ FdL w wr fb [false] [(l, y, m)])
  case atStart => exact ⟨0, 1, 0, 0, rfl, rfl, rfl, rfl, rfl, by omega, by omega, by omega, HK2.out⟩
  case round =>
    clear HK2
    obtain ⟨k, l, y, m, rfl, rfl, rfl, rfl, rfl, hk, hm0, hm2, hK⟩ := hrel
    have HKR : Hid (FdL w wr fb [false] [(l, y, m)]) := hK
    clear hK
    have hL40 := HL40.out
    by_cases hlt : k < len
    · have hki : (k : Int) < (len : Int) := by omega
      obtain ⟨x, hxk⟩ : ∃ x, ls[k]? = some x := ⟨ls[k]'(by rw [HE.out]; exact hlt), List.getElem?_eq_getElem _⟩
      obtain ⟨b0, off, rfl, c1⟩ := HI.out k x hxk
      have d1 := (HKR.out.bl.cell (p := ⟨b0, off + k, none⟩) (World.block_lt_of_cell? w _ c1)).trans c1
      have hand3 := i64_and3 x
      clear hxk c1
      have h4 : x % 4 = 0 ∨ x % 4 = 1 ∨ x % 4 = 2 ∨ x % 4 = 3 := by omega
      rcases h4 with hc | hc | hc | hc
      · rw [hc] at hand3
        clear hc
        have HBAwr : Hid (Below wr.heap.size wr (wr.alloc (.cells #[.int .i64 0] 3))) := (Below.refl _ _).alloc (Nat.le_refl _) _
        have D := step_f w (wr.alloc (.cells #[.int .i64 0] 3)) fb [false] _ [0] wr.heap.size 1 1 (HKR.out.step HBAwr.out) (blk_new _ _) rfl (by omega)
        go_wp2_with fail
        clear d1 hand3
        refine D.mono ?_
        rintro e w3 ⟨rfl, hs, -⟩
        rw [step1 _ 0 (by decide), dr0] at hs
        have HKw3 : Hid (FdL w w3 fb [false] [(l, 0, 0)]) := hs
        clear D hs
        have D := in_f w w3 fb [false] [(l, 0, 0)] 1 1 HKw3.out rfl rfl (by omega)
        go_wp2_with fail
        refine D.mono ?_
        rintro e w4 ⟨g, c, b, rfl, ho, hl, -, hb⟩
        generalize hch : w4.alloc (.cells #[.slice (some ⟨g, 0, none⟩) 1 c, .slice (some ⟨b, 0, none⟩) 1 1] 36) = w5
        have HBw5 : Hid (Below w4.heap.size w4 w5) := by show Below _ _ _; rw [← hch]; exact (Below.refl _ _).alloc (Nat.le_refl _) _
        have HXw5 : Hid (w5.heap[w4.heap.size]? = some (.cells #[.slice (some ⟨g, 0, none⟩) 1 c, .slice (some ⟨b, 0, none⟩) 1 1] 36 (0, 0))) := by show _ = _; rw [← hch]; exact blk_new _ _
        have HKw5 : Hid (FdL w w5 fb [false] [(l, 0, 0)]) := (HKw3.out.step hb).step HBw5.out
        obtain ⟨y0, y1⟩ := cells2 HXw5.out
        have z0 := up_cell HBw5.out (lies_cell hl (k := 0) (x := l) (rfl))
        clear D ho hl hb
        go_wp2
        clear hch
        go_roundg (len - (k + 1))
        case rel => exact ⟨k + 1, l, 0, 0, rfl, by go_num, rfl, rfl, rfl, by omega, by omega, by omega, HKw5.out⟩
        case measure => omega
      · by_cases hl : 1 = l
        · subst hl
          rw [hc] at hand3
          clear hc
          have HBAwr : Hid (Below wr.heap.size wr (wr.alloc (.cells #[.int .i64 1] 3))) := (Below.refl _ _).alloc (Nat.le_refl _) _
          have D := step_f w (wr.alloc (.cells #[.int .i64 1] 3)) fb [false] _ [1] wr.heap.size 1 1 (HKR.out.step HBAwr.out) (blk_new _ _) rfl (by omega)
          go_wp2_with fail
          clear d1 hand3
          refine D.mono ?_
          rintro e w3 ⟨rfl, hs, -⟩
          rw [step1 _ 1 (by decide), drS] at hs
          have HKw3 : Hid (FdL w w3 fb [false] [(1, 0, 0)]) := hs
          clear D hs
          have D := in_f w w3 fb [false] [(1, 0, 0)] 1 1 HKw3.out rfl rfl (by omega)
          go_wp2_with fail
          refine D.mono ?_
          rintro e w4 ⟨g, c, b, rfl, ho, hl, -, hb⟩
          generalize hch : w4.alloc (.cells #[.slice (some ⟨g, 0, none⟩) 1 c, .slice (some ⟨b, 0, none⟩) 1 1] 36) = w5
          have HBw5 : Hid (Below w4.heap.size w4 w5) := by show Below _ _ _; rw [← hch]; exact (Below.refl _ _).alloc (Nat.le_refl _) _
          have HXw5 : Hid (w5.heap[w4.heap.size]? = some (.cells #[.slice (some ⟨g, 0, none⟩) 1 c, .slice (some ⟨b, 0, none⟩) 1 1] 36 (0, 0))) := by show _ = _; rw [← hch]; exact blk_new _ _
          have HKw5 : Hid (FdL w w5 fb [false] [(1, 0, 0)]) := (HKw3.out.step hb).step HBw5.out
          obtain ⟨y0, y1⟩ := cells2 HXw5.out
          have z0 := up_cell HBw5.out (lies_cell hl (k := 0) (x := 1) (rfl))
          clear D ho hl hb
          go_wp2
          clear hch
          go_roundg (len - (k + 1))
          case rel => exact ⟨k + 1, 1, 0, 0, rfl, by go_num, rfl, rfl, rfl, by omega, by omega, by omega, HKw5.out⟩
          case measure => omega
        have ql : ((1 : Int) == l) = false := by simp [hl]
        by_cases hy : 1 = y
        · by_cases h3 : m + 1 = 3
          · subst hy
            rw [hc] at hand3
            clear hc
            have HBAwr : Hid (Below wr.heap.size wr (wr.alloc (.cells #[.int .i64 1] 3))) := (Below.refl _ _).alloc (Nat.le_refl _) _
            have D := step_f w (wr.alloc (.cells #[.int .i64 1] 3)) fb [false] _ [1] wr.heap.size 1 1 (HKR.out.step HBAwr.out) (blk_new _ _) rfl (by omega)
            go_wp2_with fail
            clear d1 hand3
            refine D.mono ?_
            rintro e w3 ⟨rfl, hs, -⟩
            rw [step1 _ 1 (by decide), drE (by decide) hl rfl h3] at hs
            have HKw3 : Hid (FdL w w3 fb [false] [(1, 0, 0)]) := hs
            clear D hs
            have D := in_f w w3 fb [false] [(1, 0, 0)] 1 1 HKw3.out rfl rfl (by omega)
            go_wp2_with fail
            refine D.mono ?_
            rintro e w4 ⟨g, c, b, rfl, ho, hl, -, hb⟩
            generalize hch : w4.alloc (.cells #[.slice (some ⟨g, 0, none⟩) 1 c, .slice (some ⟨b, 0, none⟩) 1 1] 36) = w5
            have HBw5 : Hid (Below w4.heap.size w4 w5) := by show Below _ _ _; rw [← hch]; exact (Below.refl _ _).alloc (Nat.le_refl _) _
            have HXw5 : Hid (w5.heap[w4.heap.size]? = some (.cells #[.slice (some ⟨g, 0, none⟩) 1 c, .slice (some ⟨b, 0, none⟩) 1 1] 36 (0, 0))) := by show _ = _; rw [← hch]; exact blk_new _ _
            have HKw5 : Hid (FdL w w5 fb [false] [(1, 0, 0)]) := (HKw3.out.step hb).step HBw5.out
            obtain ⟨y0, y1⟩ := cells2 HXw5.out
            have z0 := up_cell HBw5.out (lies_cell hl (k := 0) (x := 1) (rfl))
            clear D ho hl hb
            go_wp2
            clear hch
            go_roundg (len - (k + 1))
            case rel => exact ⟨k + 1, 1, 0, 0, rfl, by go_num, rfl, rfl, rfl, by omega, by omega, by omega, HKw5.out⟩
            case measure => omega
          · subst hy
            have q3 : (m + 1 == 3) = false := by simp [h3]
            rw [hc] at hand3
            clear hc
            have HBAwr : Hid (Below wr.heap.size wr (wr.alloc (.cells #[.int .i64 1] 3))) := (Below.refl _ _).alloc (Nat.le_refl _) _
            have D := step_f w (wr.alloc (.cells #[.int .i64 1] 3)) fb [false] _ [1] wr.heap.size 1 1 (HKR.out.step HBAwr.out) (blk_new _ _) rfl (by omega)
            go_wp2_with fail
            clear d1 hand3
            refine D.mono ?_
            rintro e w3 ⟨rfl, hs, -⟩
            rw [step1 _ 1 (by decide), drG (by decide) hl rfl h3] at hs
            have HKw3 : Hid (FdL w w3 fb [false] [(0, 1, m + 1)]) := hs
            clear D hs
            have D := in_f w w3 fb [false] [(0, 1, m + 1)] 1 1 HKw3.out rfl rfl (by omega)
            go_wp2_with fail
            refine D.mono ?_
            rintro e w4 ⟨g, c, b, rfl, ho, hl, -, hb⟩
            generalize hch : w4.alloc (.cells #[.slice (some ⟨g, 0, none⟩) 1 c, .slice (some ⟨b, 0, none⟩) 1 1] 36) = w5
            have HBw5 : Hid (Below w4.heap.size w4 w5) := by show Below _ _ _; rw [← hch]; exact (Below.refl _ _).alloc (Nat.le_refl _) _
            have HXw5 : Hid (w5.heap[w4.heap.size]? = some (.cells #[.slice (some ⟨g, 0, none⟩) 1 c, .slice (some ⟨b, 0, none⟩) 1 1] 36 (0, 0))) := by show _ = _; rw [← hch]; exact blk_new _ _
            have HKw5 : Hid (FdL w w5 fb [false] [(0, 1, m + 1)]) := (HKw3.out.step hb).step HBw5.out
            obtain ⟨y0, y1⟩ := cells2 HXw5.out
            have z0 := up_cell HBw5.out (lies_cell hl (k := 0) (x := 0) (rfl))
            clear D ho hl hb
            go_wp2
            clear hch
            go_roundg (len - (k + 1))
            case rel => exact ⟨k + 1, 0, 1, (m + 1), rfl, by go_num, rfl, rfl, rfl, by omega, by omega, by omega, HKw5.out⟩
            case measure => omega
        · have qy : ((1 : Int) == y) = false := by simp [hy]
          rw [hc] at hand3
          clear hc
          have HBAwr : Hid (Below wr.heap.size wr (wr.alloc (.cells #[.int .i64 1] 3))) := (Below.refl _ _).alloc (Nat.le_refl _) _
          have D := step_f w (wr.alloc (.cells #[.int .i64 1] 3)) fb [false] _ [1] wr.heap.size 1 1 (HKR.out.step HBAwr.out) (blk_new _ _) rfl (by omega)
          go_wp2_with fail
          clear d1 hand3
          refine D.mono ?_
          rintro e w3 ⟨rfl, hs, -⟩
          rw [step1 _ 1 (by decide), drN (by decide) hl hy] at hs
          have HKw3 : Hid (FdL w w3 fb [false] [(0, 1, 1)]) := hs
          clear D hs
          have D := in_f w w3 fb [false] [(0, 1, 1)] 1 1 HKw3.out rfl rfl (by omega)
          go_wp2_with fail
          refine D.mono ?_
          rintro e w4 ⟨g, c, b, rfl, ho, hl, -, hb⟩
          generalize hch : w4.alloc (.cells #[.slice (some ⟨g, 0, none⟩) 1 c, .slice (some ⟨b, 0, none⟩) 1 1] 36) = w5
          have HBw5 : Hid (Below w4.heap.size w4 w5) := by show Below _ _ _; rw [← hch]; exact (Below.refl _ _).alloc (Nat.le_refl _) _
          have HXw5 : Hid (w5.heap[w4.heap.size]? = some (.cells #[.slice (some ⟨g, 0, none⟩) 1 c, .slice (some ⟨b, 0, none⟩) 1 1] 36 (0, 0))) := by show _ = _; rw [← hch]; exact blk_new _ _
          have HKw5 : Hid (FdL w w5 fb [false] [(0, 1, 1)]) := (HKw3.out.step hb).step HBw5.out
          obtain ⟨y0, y1⟩ := cells2 HXw5.out
          have z0 := up_cell HBw5.out (lies_cell hl (k := 0) (x := 0) (rfl))
          clear D ho hl hb
          go_wp2
          clear hch
          go_roundg (len - (k + 1))
          case rel => exact ⟨k + 1, 0, 1, 1, rfl, by go_num, rfl, rfl, rfl, by omega, by omega, by omega, HKw5.out⟩
          case measure => omega
      · by_cases hl : 2 = l
        · subst hl
          rw [hc] at hand3
          clear hc
          have HBAwr : Hid (Below wr.heap.size wr (wr.alloc (.cells #[.int .i64 2] 3))) := (Below.refl _ _).alloc (Nat.le_refl _) _
          have D := step_f w (wr.alloc (.cells #[.int .i64 2] 3)) fb [false] _ [2] wr.heap.size 1 1 (HKR.out.step HBAwr.out) (blk_new _ _) rfl (by omega)
          go_wp2_with fail
          clear d1 hand3
          refine D.mono ?_
          rintro e w3 ⟨rfl, hs, -⟩
          rw [step1 _ 2 (by decide), drS] at hs
          have HKw3 : Hid (FdL w w3 fb [false] [(2, 0, 0)]) := hs
          clear D hs
          have D := in_f w w3 fb [false] [(2, 0, 0)] 1 1 HKw3.out rfl rfl (by omega)
          go_wp2_with fail
          refine D.mono ?_
          rintro e w4 ⟨g, c, b, rfl, ho, hl, -, hb⟩
          generalize hch : w4.alloc (.cells #[.slice (some ⟨g, 0, none⟩) 1 c, .slice (some ⟨b, 0, none⟩) 1 1] 36) = w5
          have HBw5 : Hid (Below w4.heap.size w4 w5) := by show Below _ _ _; rw [← hch]; exact (Below.refl _ _).alloc (Nat.le_refl _) _
          have HXw5 : Hid (w5.heap[w4.heap.size]? = some (.cells #[.slice (some ⟨g, 0, none⟩) 1 c, .slice (some ⟨b, 0, none⟩) 1 1] 36 (0, 0))) := by show _ = _; rw [← hch]; exact blk_new _ _
          have HKw5 : Hid (FdL w w5 fb [false] [(2, 0, 0)]) := (HKw3.out.step hb).step HBw5.out
          obtain ⟨y0, y1⟩ := cells2 HXw5.out
          have z0 := up_cell HBw5.out (lies_cell hl (k := 0) (x := 2) (rfl))
          clear D ho hl hb
          go_wp2
          clear hch
          go_roundg (len - (k + 1))
          case rel => exact ⟨k + 1, 2, 0, 0, rfl, by go_num, rfl, rfl, rfl, by omega, by omega, by omega, HKw5.out⟩
          case measure => omega
        have ql : ((2 : Int) == l) = false := by simp [hl]
        by_cases hy : 2 = y
        · by_cases h3 : m + 1 = 3
          · subst hy
            rw [hc] at hand3
            clear hc
            have HBAwr : Hid (Below wr.heap.size wr (wr.alloc (.cells #[.int .i64 2] 3))) := (Below.refl _ _).alloc (Nat.le_refl _) _
            have D := step_f w (wr.alloc (.cells #[.int .i64 2] 3)) fb [false] _ [2] wr.heap.size 1 1 (HKR.out.step HBAwr.out) (blk_new _ _) rfl (by omega)
            go_wp2_with fail
            clear d1 hand3
            refine D.mono ?_
            rintro e w3 ⟨rfl, hs, -⟩
            rw [step1 _ 2 (by decide), drE (by decide) hl rfl h3] at hs
            have HKw3 : Hid (FdL w w3 fb [false] [(2, 0, 0)]) := hs
            clear D hs
            have D := in_f w w3 fb [false] [(2, 0, 0)] 1 1 HKw3.out rfl rfl (by omega)
            go_wp2_with fail
            refine D.mono ?_
            rintro e w4 ⟨g, c, b, rfl, ho, hl, -, hb⟩
            generalize hch : w4.alloc (.cells #[.slice (some ⟨g, 0, none⟩) 1 c, .slice (some ⟨b, 0, none⟩) 1 1] 36) = w5
            have HBw5 : Hid (Below w4.heap.size w4 w5) := by show Below _ _ _; rw [← hch]; exact (Below.refl _ _).alloc (Nat.le_refl _) _
            have HXw5 : Hid (w5.heap[w4.heap.size]? = some (.cells #[.slice (some ⟨g, 0, none⟩) 1 c, .slice (some ⟨b, 0, none⟩) 1 1] 36 (0, 0))) := by show _ = _; rw [← hch]; exact blk_new _ _
            have HKw5 : Hid (FdL w w5 fb [false] [(2, 0, 0)]) := (HKw3.out.step hb).step HBw5.out
            obtain ⟨y0, y1⟩ := cells2 HXw5.out
            have z0 := up_cell HBw5.out (lies_cell hl (k := 0) (x := 2) (rfl))
            clear D ho hl hb
            go_wp2
            clear hch
            go_roundg (len - (k + 1))
            case rel => exact ⟨k + 1, 2, 0, 0, rfl, by go_num, rfl, rfl, rfl, by omega, by omega, by omega, HKw5.out⟩
            case measure => omega
          · subst hy
            have q3 : (m + 1 == 3) = false := by simp [h3]
            rw [hc] at hand3
            clear hc
            have HBAwr : Hid (Below wr.heap.size wr (wr.alloc (.cells #[.int .i64 2] 3))) := (Below.refl _ _).alloc (Nat.le_refl _) _
            have D := step_f w (wr.alloc (.cells #[.int .i64 2] 3)) fb [false] _ [2] wr.heap.size 1 1 (HKR.out.step HBAwr.out) (blk_new _ _) rfl (by omega)
            go_wp2_with fail
            clear d1 hand3
            refine D.mono ?_
            rintro e w3 ⟨rfl, hs, -⟩
            rw [step1 _ 2 (by decide), drG (by decide) hl rfl h3] at hs
            have HKw3 : Hid (FdL w w3 fb [false] [(0, 2, m + 1)]) := hs
            clear D hs
            have D := in_f w w3 fb [false] [(0, 2, m + 1)] 1 1 HKw3.out rfl rfl (by omega)
            go_wp2_with fail
            refine D.mono ?_
            rintro e w4 ⟨g, c, b, rfl, ho, hl, -, hb⟩
            generalize hch : w4.alloc (.cells #[.slice (some ⟨g, 0, none⟩) 1 c, .slice (some ⟨b, 0, none⟩) 1 1] 36) = w5
            have HBw5 : Hid (Below w4.heap.size w4 w5) := by show Below _ _ _; rw [← hch]; exact (Below.refl _ _).alloc (Nat.le_refl _) _
            have HXw5 : Hid (w5.heap[w4.heap.size]? = some (.cells #[.slice (some ⟨g, 0, none⟩) 1 c, .slice (some ⟨b, 0, none⟩) 1 1] 36 (0, 0))) := by show _ = _; rw [← hch]; exact blk_new _ _
            have HKw5 : Hid (FdL w w5 fb [false] [(0, 2, m + 1)]) := (HKw3.out.step hb).step HBw5.out
            obtain ⟨y0, y1⟩ := cells2 HXw5.out
            have z0 := up_cell HBw5.out (lies_cell hl (k := 0) (x := 0) (rfl))
            clear D ho hl hb
            go_wp2
            clear hch
            go_roundg (len - (k + 1))
            case rel => exact ⟨k + 1, 0, 2, (m + 1), rfl, by go_num, rfl, rfl, rfl, by omega, by omega, by omega, HKw5.out⟩
            case measure => omega
        · have qy : ((2 : Int) == y) = false := by simp [hy]
          rw [hc] at hand3
          clear hc
          have HBAwr : Hid (Below wr.heap.size wr (wr.alloc (.cells #[.int .i64 2] 3))) := (Below.refl _ _).alloc (Nat.le_refl _) _
          have D := step_f w (wr.alloc (.cells #[.int .i64 2] 3)) fb [false] _ [2] wr.heap.size 1 1 (HKR.out.step HBAwr.out) (blk_new _ _) rfl (by omega)
          go_wp2_with fail
          clear d1 hand3
          refine D.mono ?_
          rintro e w3 ⟨rfl, hs, -⟩
          rw [step1 _ 2 (by decide), drN (by decide) hl hy] at hs
          have HKw3 : Hid (FdL w w3 fb [false] [(0, 2, 1)]) := hs
          clear D hs
          have D := in_f w w3 fb [false] [(0, 2, 1)] 1 1 HKw3.out rfl rfl (by omega)
          go_wp2_with fail
          refine D.mono ?_
          rintro e w4 ⟨g, c, b, rfl, ho, hl, -, hb⟩
          generalize hch : w4.alloc (.cells #[.slice (some ⟨g, 0, none⟩) 1 c, .slice (some ⟨b, 0, none⟩) 1 1] 36) = w5
          have HBw5 : Hid (Below w4.heap.size w4 w5) := by show Below _ _ _; rw [← hch]; exact (Below.refl _ _).alloc (Nat.le_refl _) _
          have HXw5 : Hid (w5.heap[w4.heap.size]? = some (.cells #[.slice (some ⟨g, 0, none⟩) 1 c, .slice (some ⟨b, 0, none⟩) 1 1] 36 (0, 0))) := by show _ = _; rw [← hch]; exact blk_new _ _
          have HKw5 : Hid (FdL w w5 fb [false] [(0, 2, 1)]) := (HKw3.out.step hb).step HBw5.out
          obtain ⟨y0, y1⟩ := cells2 HXw5.out
          have z0 := up_cell HBw5.out (lies_cell hl (k := 0) (x := 0) (rfl))
          clear D ho hl hb
          go_wp2
          clear hch
          go_roundg (len - (k + 1))
          case rel => exact ⟨k + 1, 0, 2, 1, rfl, by go_num, rfl, rfl, rfl, by omega, by omega, by omega, HKw5.out⟩
          case measure => omega
      · rw [hc] at hand3
        clear hc
        have HBAwr : Hid (Below wr.heap.size wr (wr.alloc (.cells #[.int .i64 0] 3))) := (Below.refl _ _).alloc (Nat.le_refl _) _
        have D := step_f w (wr.alloc (.cells #[.int .i64 0] 3)) fb [false] _ [0] wr.heap.size 1 1 (HKR.out.step HBAwr.out) (blk_new _ _) rfl (by omega)
        go_wp2_with fail
        clear d1 hand3
        refine D.mono ?_
        rintro e w3 ⟨rfl, hs, -⟩
        rw [step1 _ 0 (by decide), dr0] at hs
        have HKw3 : Hid (FdL w w3 fb [false] [(l, 0, 0)]) := hs
        clear D hs
        have D := in_f w w3 fb [false] [(l, 0, 0)] 1 1 HKw3.out rfl rfl (by omega)
        go_wp2_with fail
        refine D.mono ?_
        rintro e w4 ⟨g, c, b, rfl, ho, hl, -, hb⟩
        generalize hch : w4.alloc (.cells #[.slice (some ⟨g, 0, none⟩) 1 c, .slice (some ⟨b, 0, none⟩) 1 1] 36) = w5
        have HBw5 : Hid (Below w4.heap.size w4 w5) := by show Below _ _ _; rw [← hch]; exact (Below.refl _ _).alloc (Nat.le_refl _) _
        have HXw5 : Hid (w5.heap[w4.heap.size]? = some (.cells #[.slice (some ⟨g, 0, none⟩) 1 c, .slice (some ⟨b, 0, none⟩) 1 1] 36 (0, 0))) := by show _ = _; rw [← hch]; exact blk_new _ _
        have HKw5 : Hid (FdL w w5 fb [false] [(l, 0, 0)]) := (HKw3.out.step hb).step HBw5.out
        obtain ⟨y0, y1⟩ := cells2 HXw5.out
        have z0 := up_cell HBw5.out (lies_cell hl (k := 0) (x := l) (rfl))
        clear D ho hl hb
        go_wp2
        clear hch
        go_roundg (len - (k + 1))
        case rel => exact ⟨k + 1, l, 0, 0, rfl, by go_num, rfl, rfl, rfl, by omega, by omega, by omega, HKw5.out⟩
        case measure => omega
    · have hkn : ¬ (k : Int) < (len : Int) := by omega
      go_wp2_with fail
      refine (fdKnown_any _).mono ?_
      rintro e wk ⟨rfl, hbk⟩
      go_wp2
      go_ret
      exact ⟨rfl, HKR.out.bl.trans (hbk.mono HKR.out.bl.size)⟩

theorem own : ownKnob Try.prog.godebug = none := by kernel_rfl

set_option maxRecDepth 100000 in
theorem lifted (os : Os) (started : os.Started) (H : Type) (enc : TypeId × Value → H) :
    ReturnsInHanded {} Try.checked os 3 .any (Rows.fieldMovesSpec.pre6 enc Try.prog Try.f3 Rows.fieldMovesRow.domain false) (Rows.fieldMovesSpec.post enc Try.prog Try.f3 false true false false) := by
  refine returnsInHanded_of_change (C := Try.checked) own started (by kernel_rfl) Try.func3
    (ChangeSpec.witness6 (enc := enc) (C := Try.checked) false ⟨#[], #[.slice none 0 0], []⟩ 8 (by kernel_rfl) (by kernel_rfl) (by kernel_rfl) (by kernel_rfl)) ?_
  intro W base args ds gs before hval0 hW _ _
  have hval : ∀ (j : Nat) t v, Try.f3.params[j]? = some t → args[j]? = some v → Value.okWide Try.prog W .any base t v := hval0
  have hW' := hW
  obtain ⟨p, q, hA0, hV, rfl, _, _⟩ := hW
  have hA : DataW.TrodAll enc Try.prog W 0 (fun _ => true) true Try.f3.params.toList args.toList ds p := hA0
  rw [Try.params3] at hA hval
  obtain ⟨v0, vs0, d0, ds0, p0, q0, hargs, rfl, rfl, h0, r0⟩ := trodAll_cons hA
  obtain ⟨rfl, rfl, rfl⟩ := trodAll_nil r0
  obtain rfl : args = #[v0] := by cases args; simp_all
  obtain ⟨rfl, rfl⟩ := trodVars_none hV
  obtain ⟨a0, len0, cap0, rfl⟩ := okWide_slice Try.underlying22 (hval 0 22 v0 rfl rfl)
  have k0 := h0
  have lt0 : ∀ x ∈ p0, x.block < W.heap.size := by obtain ⟨m, hm⟩ := k0; exact DataW.trod_lt m _ _ _ hm
  obtain ⟨z0, e0, m0, s0⟩ : ∃ l : List Int, l.length = len0 ∧ len0 ≤ maxLen ∧ hasInts W a0 l := by
    obtain ⟨fuel, hf⟩ := h0
    rcases open_ints Try.underlying22 Try.underlying3 (by kernel_rfl) hf with ⟨hcs, _⟩ | ⟨x, l, c, ss, hcs, _, hl, hm, hz, _, hcell, _⟩
    · simp [Value.cells] at hcs
      obtain ⟨rfl, rfl, rfl⟩ := hcs
      exact ⟨[], rfl, by unfold maxLen; omega, fun j x hj => by simp at hj⟩
    · simp [Value.cells] at hcs
      obtain ⟨rfl, rfl, rfl⟩ := hcs
      have hz' : ss.length = cap0 := by simpa using hz
      have q := ints_of (len := len0) (by omega) hcell
      exact ⟨ss.take len0, q.1, by omega, q.2⟩
  clear hA0 hval0
  refine (walk W a0 len0 cap0 z0 e0 m0 s0 ).mono fun e W' ⟨he, bel⟩ => ?_
  subst he
  exact ⟨_, rfl, _, _, _, [], _, [], hW', trodAll_mk1 (shut_bool Try.underlying4 _), (trodAll_cons_mk (Below.trod laidOut (by kernel_rfl) (of_decide_eq_true (by kernel_rfl)) k0 bel lt0) trodAll_mk0), rfl, bel.frame _, fun h => by cases h⟩

theorem over : Rows.fieldMovesRow.holds Try.pinned (OpenSpec.ofChange Rows.fieldMovesSpec) :=
  OpenClaim.holds_of_wide 3 Try.f3 rfl rfl rfl rfl rfl rfl rfl ⟨rfl, rfl, rfl, rfl, rfl⟩ rfl rfl rfl rfl rfl (by kernel_rfl) Try.func3 (by kernel_rfl)
    (of_decide_eq_true (by kernel_rfl)) (by unfold Func.isWrapper; first | (rw [if_pos (by decide +kernel)]; kernel_rfl) | (rw [if_neg (by decide +kernel)]; exact ⟨rfl, rfl⟩))
    (fun os started H enc _ => lifted os started H enc)

end Go.Proofs.Ythmbpohebcnehaa.fieldMoves
namespace Go.Proofs.Ythmbpohebcnehaa
theorem fieldMoves_holds : Rows.FieldMovesSaid := fieldMoves.over
#print axioms fieldMoves_holds
end Go.Proofs.Ythmbpohebcnehaa
