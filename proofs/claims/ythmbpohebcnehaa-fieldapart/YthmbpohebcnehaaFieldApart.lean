/-
  Of any number and any row of acts: FieldApart returns true.
-/
import Derived.Test.YthmbpohebcnehaaRows
import Derived.Test.YthmbpohebcnehaaFdKnown
import Derived.Test.YthmbpohebcnehaaLawActs
import Derived.WalkKit
import Derived.ProofKit
import Derived.OpenShut
import Derived.ShutString
import Derived.ChangeOld
import Derived.Below
import Derived.SizedLaws
import Derived.PinnedBridge
import Derived.Lib.LaidU8T
import Derived.Lay
import Derived.LaidOnce
import Derived.SevenTiedAt
import Derived.Deep.DeepHandedRow
namespace Go.Proofs.Ythmbpohebcnehaa.fieldApart
open Go.ChangeShapes Go.WideShapes Go.ChangeAt Go.RowKit

theorem one4 : isB (oneLay 4) = true := by decide +kernel
theorem keep0 : drivenF (restF 1) 0 = restF 1 := by decide
theorem noq {q : Int} (_ : 0 ≤ q ∧ q ≤ 3) : noPos (q % 3) = false := by
  have h3 : q % 3 = 0 ∨ q % 3 = 1 ∨ q % 3 = 2 := by omega
  rcases h3 with h | h | h <;> rw [h] <;> decide
theorem no0 : noPos 0 = false := by decide
theorem stp0 (p : Pt) (d : Int) (hd : noPos d = false) : stepF6 [p, restF 1, restF 1, restF 1] [d, 0, 0, 0] = [drivenF p d, restF 1, restF 1, restF 1] := by simp [stepF6, mayDrB, stepAll, hd, no0, keep0]
theorem stk0 (p : Pt) : stickF [p, restF 1, restF 1, restF 1] 0 = (0, [restF 0, restF 1, restF 1, restF 1]) := by simp [stickF]
theorem stp1 (p : Pt) (d : Int) (hd : noPos d = false) : stepF6 [restF 1, p, restF 1, restF 1] [0, d, 0, 0] = [restF 1, drivenF p d, restF 1, restF 1] := by simp [stepF6, mayDrB, stepAll, hd, no0, keep0]
theorem stk1 (p : Pt) : stickF [restF 1, p, restF 1, restF 1] 1 = (0, [restF 1, restF 0, restF 1, restF 1]) := by simp [stickF]
theorem stp2 (p : Pt) (d : Int) (hd : noPos d = false) : stepF6 [restF 1, restF 1, p, restF 1] [0, 0, d, 0] = [restF 1, restF 1, drivenF p d, restF 1] := by simp [stepF6, mayDrB, stepAll, hd, no0, keep0]
theorem stk2 (p : Pt) : stickF [restF 1, restF 1, p, restF 1] 2 = (0, [restF 1, restF 1, restF 0, restF 1]) := by simp [stickF]
theorem stp3 (p : Pt) (d : Int) (hd : noPos d = false) : stepF6 [restF 1, restF 1, restF 1, p] [0, 0, 0, d] = [restF 1, restF 1, restF 1, drivenF p d] := by simp [stepF6, mayDrB, stepAll, hd, no0, keep0]
theorem stk3 (p : Pt) : stickF [restF 1, restF 1, restF 1, p] 3 = (0, [restF 1, restF 1, restF 1, restF 0]) := by simp [stickF]
set_option maxRecDepth 1000000 in
set_option maxHeartbeats 32000000 in
theorem walk0 (w : World) (oa : Option Addr) (len cap : Nat) (ls : List (Int × Int × Int)) (HE : Hid (ls.length = len)) (HI : Hid (hasActs w oa ls)) (HL : Hid (len ≤ 10000)) : Calls Try.prog 4 #[.int .i64 0, .slice oa len cap] w fun e w' => e = .returned (.bool true) ∧ Below w.heap.size w w' := by
  have hq : ¬ (10000 : Int) < (len : Int) := by have := HL.out; omega
  go_enter Try.func4, Try.ntmps4
  go_wp2_with fail
  refine (one_any 4 w (by omega)).mono ?_
  rintro e w1 ⟨v, rfl, hL, hF, hb1⟩
  have D := new_f 4 w w1 v hL hF one4 (by omega) hb1
  clear hL hF
  go_wp2_with fail
  refine D.mono ?_
  rintro e w2 ⟨fb, rfl, hK, -⟩
  clear D hb1
  have HK2 : Hid (FdL w w2 fb [false] [restF 1, restF 1, restF 1, restF 1]) := hK
  clear hK
  clear hq
  go_wp2
  go_loopg [7, 8, 9, 10] len (fun gk i a1 a2 a3 wr => ∃ (k : Nat) (p : Pt), gk = len - k ∧ i = .int .i64 k ∧ k ≤ len ∧ k ≤ 60 ∧ FdL w wr fb [false] [p, restF 1, restF 1, restF 1])
  case atStart => exact ⟨0, restF 1, rfl, rfl, by omega, by omega, HK2.out⟩
  case round =>
    clear HK2
    obtain ⟨k, p, rfl, rfl, hk, hk60, hK⟩ := hrel
    have HKR : Hid (FdL w wr fb [false] [p, restF 1, restF 1, restF 1]) := hK
    clear hK
    have hL := HL.out
    by_cases hlt : k < len
    · have hki : (k : Int) < (len : Int) := by omega
      by_cases h60 : k < 60
      · have hk6 : (k : Int) < 60 := by omega
        have HKI : Hid ((k : Int) < (len : Int)) := hki
        obtain ⟨⟨x, y, z⟩, hxk⟩ : ∃ x, ls[k]? = some x := ⟨ls[k]'(by rw [HE.out]; exact hlt), List.getElem?_eq_getElem _⟩
        obtain ⟨b0, off, rfl, c0, c1, c2⟩ := HI.out k _ hxk
        have d0 := (HKR.out.bl.cell (p := ⟨b0, off + k * 3, none⟩) (World.block_lt_of_cell? w _ c0)).trans c0
        have d2 := (HKR.out.bl.cell (p := ⟨b0, off + k * 3 + 2, none⟩) (World.block_lt_of_cell? w _ c2)).trans c2
        have hand3 := i64_and3 z
        have hz4 : 0 ≤ z % 4 ∧ z % 4 ≤ 3 := by omega
        generalize z % 4 = q at hand3 hz4
        have HQ := (show Hid _ from noq hz4)
        have D0 := fun o => up_cell (Below.alloc (Below.refl wr.heap.size wr) (Nat.le_refl _) o) d0
        have D2 := fun o => up_cell (Below.alloc (Below.refl wr.heap.size wr) (Nat.le_refl _) o) d2
        clear hxk c0 c1 c2 d0 d2
        have HBA : Hid (Below wr.heap.size wr (wr.alloc (.cells #[.int .i64 (q % 3), .int .i64 0, .int .i64 0, .int .i64 0] 3))) := (Below.refl _ _).alloc (Nat.le_refl _) _
        by_cases hx : x = 2
        · subst hx
          have D := stick_f w (wr.alloc (.cells #[.int .i64 (q % 3), .int .i64 0, .int .i64 0, .int .i64 0] 3)) fb [false] _ 0 (HKR.out.step HBA.out) _ _ (stk0 p)
          go_wp2_with fail
          refine D.mono ?_
          rintro e w5 ⟨rfl, hs, -⟩
          have HK5 : Hid (FdL w w5 fb [false] [restF 0, restF 1, restF 1, restF 1]) := hs
          clear D hs D0 D2 hand3
          have D := in_f w w5 fb [false] [restF 0, restF 1, restF 1, restF 1] 1 4 HK5.out rfl rfl (by omega)
          go_wp2_with fail
          refine D.mono ?_
          rintro e w6 ⟨g, c, b, rfl, ho, hl, -, hb⟩
          generalize hch : w6.alloc (.cells #[.slice (some ⟨g, 0, none⟩) 1 c, .slice (some ⟨b, 0, none⟩) 4 4] 36) = w7
          have HB7 : Hid (Below w6.heap.size w6 w7) := by show Below _ _ _; rw [← hch]; exact (Below.refl _ _).alloc (Nat.le_refl _) _
          have HX7 : Hid (w7.heap[w6.heap.size]? = some (.cells #[.slice (some ⟨g, 0, none⟩) 1 c, .slice (some ⟨b, 0, none⟩) 4 4] 36 (0, 0))) := by show _ = _; rw [← hch]; exact blk_new _ _
          have HK7 : Hid (FdL w w7 fb [false] [restF 0, restF 1, restF 1, restF 1]) := (HK5.out.step hb).step HB7.out
          obtain ⟨y0, y1⟩ := cells2 HX7.out
          have z0 := up_cell HB7.out (lies_cell hl (k := 0) (x := _) rfl)
          have z1 := up_cell HB7.out (lies_cell hl (k := 1) (x := 1) rfl)
          have z2 := up_cell HB7.out (lies_cell hl (k := 2) (x := 1) rfl)
          have z3 := up_cell HB7.out (lies_cell hl (k := 3) (x := 1) rfl)
          clear D ho hl hb
          go_wp2
          clear hch
          have hki' := HKI.out
          go_loopg [10] 4 (fun gk i wr' => ∃ j : Nat, gk = 4 - j ∧ i = .int .i64 j ∧ j ≤ 4 ∧ wr' = w7)
          case atStart => exact ⟨0, rfl, rfl, by omega, rfl⟩
          case round =>
            obtain ⟨j, rfl, rfl, hj, rfl⟩ := hrel
            have h5 : j = 0 ∨ j = 1 ∨ j = 2 ∨ j = 3 ∨ j = 4 := by omega
            rcases h5 with rfl | rfl | rfl | rfl | rfl
            · go_wp2
              go_roundg 3
              case rel => exact ⟨1, rfl, rfl, by omega, rfl⟩
              case measure => omega
            · go_wp2
              go_roundg 2
              case rel => exact ⟨2, rfl, rfl, by omega, rfl⟩
              case measure => omega
            · go_wp2
              go_roundg 1
              case rel => exact ⟨3, rfl, rfl, by omega, rfl⟩
              case measure => omega
            · go_wp2
              go_roundg 0
              case rel => exact ⟨4, rfl, rfl, by omega, rfl⟩
              case measure => omega
            · go_wp2
              go_roundg (len - (k + 1))
              case rel => exact ⟨k + 1, restF 0, rfl, by go_num, by omega, by omega, HK7.out⟩
              case measure => omega
        · have qx : (x == 2) = false := by simp [hx]
          have D := step_f w (wr.alloc (.cells #[.int .i64 (q % 3), .int .i64 0, .int .i64 0, .int .i64 0] 3)) fb [false] [p, restF 1, restF 1, restF 1] [q % 3, 0, 0, 0] wr.heap.size 4 4 (HKR.out.step HBA.out) (blk_new _ _) rfl (by omega)
          go_wp2_with fail
          refine D.mono ?_
          rintro e w5 ⟨rfl, hs, -⟩
          rw [stp0 p _ HQ.out] at hs
          have HK5 : Hid (FdL w w5 fb [false] [drivenF p (q % 3), restF 1, restF 1, restF 1]) := hs
          clear D hs D0 D2 hand3
          have D := in_f w w5 fb [false] [drivenF p (q % 3), restF 1, restF 1, restF 1] 1 4 HK5.out rfl rfl (by omega)
          go_wp2_with fail
          refine D.mono ?_
          rintro e w6 ⟨g, c, b, rfl, ho, hl, -, hb⟩
          generalize hch : w6.alloc (.cells #[.slice (some ⟨g, 0, none⟩) 1 c, .slice (some ⟨b, 0, none⟩) 4 4] 36) = w7
          have HB7 : Hid (Below w6.heap.size w6 w7) := by show Below _ _ _; rw [← hch]; exact (Below.refl _ _).alloc (Nat.le_refl _) _
          have HX7 : Hid (w7.heap[w6.heap.size]? = some (.cells #[.slice (some ⟨g, 0, none⟩) 1 c, .slice (some ⟨b, 0, none⟩) 4 4] 36 (0, 0))) := by show _ = _; rw [← hch]; exact blk_new _ _
          have HK7 : Hid (FdL w w7 fb [false] [drivenF p (q % 3), restF 1, restF 1, restF 1]) := (HK5.out.step hb).step HB7.out
          obtain ⟨y0, y1⟩ := cells2 HX7.out
          have z0 := up_cell HB7.out (lies_cell hl (k := 0) (x := _) rfl)
          have z1 := up_cell HB7.out (lies_cell hl (k := 1) (x := 1) rfl)
          have z2 := up_cell HB7.out (lies_cell hl (k := 2) (x := 1) rfl)
          have z3 := up_cell HB7.out (lies_cell hl (k := 3) (x := 1) rfl)
          clear D ho hl hb
          go_wp2
          clear hch
          have hki' := HKI.out
          go_loopg [10] 4 (fun gk i wr' => ∃ j : Nat, gk = 4 - j ∧ i = .int .i64 j ∧ j ≤ 4 ∧ wr' = w7)
          case atStart => exact ⟨0, rfl, rfl, by omega, rfl⟩
          case round =>
            obtain ⟨j, rfl, rfl, hj, rfl⟩ := hrel
            have h5 : j = 0 ∨ j = 1 ∨ j = 2 ∨ j = 3 ∨ j = 4 := by omega
            rcases h5 with rfl | rfl | rfl | rfl | rfl
            · go_wp2
              go_roundg 3
              case rel => exact ⟨1, rfl, rfl, by omega, rfl⟩
              case measure => omega
            · go_wp2
              go_roundg 2
              case rel => exact ⟨2, rfl, rfl, by omega, rfl⟩
              case measure => omega
            · go_wp2
              go_roundg 1
              case rel => exact ⟨3, rfl, rfl, by omega, rfl⟩
              case measure => omega
            · go_wp2
              go_roundg 0
              case rel => exact ⟨4, rfl, rfl, by omega, rfl⟩
              case measure => omega
            · go_wp2
              go_roundg (len - (k + 1))
              case rel => exact ⟨k + 1, drivenF p (q % 3), rfl, by go_num, by omega, by omega, HK7.out⟩
              case measure => omega
      · have hk6 : ¬ (k : Int) < 60 := by omega
        go_wp2_with fail
        refine (fdKnown_any _).mono ?_
        rintro e wk ⟨rfl, hbk⟩
        go_wp2
        go_ret
        exact ⟨rfl, HKR.out.bl.trans (hbk.mono HKR.out.bl.size)⟩
    · have hki : ¬ (k : Int) < (len : Int) := by omega
      go_wp2_with fail
      refine (fdKnown_any _).mono ?_
      rintro e wk ⟨rfl, hbk⟩
      go_wp2
      go_ret
      exact ⟨rfl, HKR.out.bl.trans (hbk.mono HKR.out.bl.size)⟩

set_option maxRecDepth 1000000 in
set_option maxHeartbeats 32000000 in
theorem walk1 (w : World) (oa : Option Addr) (len cap : Nat) (ls : List (Int × Int × Int)) (HE : Hid (ls.length = len)) (HI : Hid (hasActs w oa ls)) (HL : Hid (len ≤ 10000)) : Calls Try.prog 4 #[.int .i64 1, .slice oa len cap] w fun e w' => e = .returned (.bool true) ∧ Below w.heap.size w w' := by
  have hq : ¬ (10000 : Int) < (len : Int) := by have := HL.out; omega
  go_enter Try.func4, Try.ntmps4
  go_wp2_with fail
  refine (one_any 4 w (by omega)).mono ?_
  rintro e w1 ⟨v, rfl, hL, hF, hb1⟩
  have D := new_f 4 w w1 v hL hF one4 (by omega) hb1
  clear hL hF
  go_wp2_with fail
  refine D.mono ?_
  rintro e w2 ⟨fb, rfl, hK, -⟩
  clear D hb1
  have HK2 : Hid (FdL w w2 fb [false] [restF 1, restF 1, restF 1, restF 1]) := hK
  clear hK
  clear hq
  go_wp2
  go_loopg [7, 8, 9, 10] len (fun gk i a1 a2 a3 wr => ∃ (k : Nat) (p : Pt), gk = len - k ∧ i = .int .i64 k ∧ k ≤ len ∧ k ≤ 60 ∧ FdL w wr fb [false] [restF 1, p, restF 1, restF 1])
  case atStart => exact ⟨0, restF 1, rfl, rfl, by omega, by omega, HK2.out⟩
  case round =>
    clear HK2
    obtain ⟨k, p, rfl, rfl, hk, hk60, hK⟩ := hrel
    have HKR : Hid (FdL w wr fb [false] [restF 1, p, restF 1, restF 1]) := hK
    clear hK
    have hL := HL.out
    by_cases hlt : k < len
    · have hki : (k : Int) < (len : Int) := by omega
      by_cases h60 : k < 60
      · have hk6 : (k : Int) < 60 := by omega
        have HKI : Hid ((k : Int) < (len : Int)) := hki
        obtain ⟨⟨x, y, z⟩, hxk⟩ : ∃ x, ls[k]? = some x := ⟨ls[k]'(by rw [HE.out]; exact hlt), List.getElem?_eq_getElem _⟩
        obtain ⟨b0, off, rfl, c0, c1, c2⟩ := HI.out k _ hxk
        have d0 := (HKR.out.bl.cell (p := ⟨b0, off + k * 3, none⟩) (World.block_lt_of_cell? w _ c0)).trans c0
        have d2 := (HKR.out.bl.cell (p := ⟨b0, off + k * 3 + 2, none⟩) (World.block_lt_of_cell? w _ c2)).trans c2
        have hand3 := i64_and3 z
        have hz4 : 0 ≤ z % 4 ∧ z % 4 ≤ 3 := by omega
        generalize z % 4 = q at hand3 hz4
        have HQ := (show Hid _ from noq hz4)
        have D0 := fun o => up_cell (Below.alloc (Below.refl wr.heap.size wr) (Nat.le_refl _) o) d0
        have D2 := fun o => up_cell (Below.alloc (Below.refl wr.heap.size wr) (Nat.le_refl _) o) d2
        clear hxk c0 c1 c2 d0 d2
        have HBA : Hid (Below wr.heap.size wr (wr.alloc (.cells #[.int .i64 0, .int .i64 (q % 3), .int .i64 0, .int .i64 0] 3))) := (Below.refl _ _).alloc (Nat.le_refl _) _
        by_cases hx : x = 2
        · subst hx
          have D := stick_f w (wr.alloc (.cells #[.int .i64 0, .int .i64 (q % 3), .int .i64 0, .int .i64 0] 3)) fb [false] _ 1 (HKR.out.step HBA.out) _ _ (stk1 p)
          go_wp2_with fail
          refine D.mono ?_
          rintro e w5 ⟨rfl, hs, -⟩
          have HK5 : Hid (FdL w w5 fb [false] [restF 1, restF 0, restF 1, restF 1]) := hs
          clear D hs D0 D2 hand3
          have D := in_f w w5 fb [false] [restF 1, restF 0, restF 1, restF 1] 1 4 HK5.out rfl rfl (by omega)
          go_wp2_with fail
          refine D.mono ?_
          rintro e w6 ⟨g, c, b, rfl, ho, hl, -, hb⟩
          generalize hch : w6.alloc (.cells #[.slice (some ⟨g, 0, none⟩) 1 c, .slice (some ⟨b, 0, none⟩) 4 4] 36) = w7
          have HB7 : Hid (Below w6.heap.size w6 w7) := by show Below _ _ _; rw [← hch]; exact (Below.refl _ _).alloc (Nat.le_refl _) _
          have HX7 : Hid (w7.heap[w6.heap.size]? = some (.cells #[.slice (some ⟨g, 0, none⟩) 1 c, .slice (some ⟨b, 0, none⟩) 4 4] 36 (0, 0))) := by show _ = _; rw [← hch]; exact blk_new _ _
          have HK7 : Hid (FdL w w7 fb [false] [restF 1, restF 0, restF 1, restF 1]) := (HK5.out.step hb).step HB7.out
          obtain ⟨y0, y1⟩ := cells2 HX7.out
          have z0 := up_cell HB7.out (lies_cell hl (k := 0) (x := 1) rfl)
          have z1 := up_cell HB7.out (lies_cell hl (k := 1) (x := _) rfl)
          have z2 := up_cell HB7.out (lies_cell hl (k := 2) (x := 1) rfl)
          have z3 := up_cell HB7.out (lies_cell hl (k := 3) (x := 1) rfl)
          clear D ho hl hb
          go_wp2
          clear hch
          have hki' := HKI.out
          go_loopg [10] 4 (fun gk i wr' => ∃ j : Nat, gk = 4 - j ∧ i = .int .i64 j ∧ j ≤ 4 ∧ wr' = w7)
          case atStart => exact ⟨0, rfl, rfl, by omega, rfl⟩
          case round =>
            obtain ⟨j, rfl, rfl, hj, rfl⟩ := hrel
            have h5 : j = 0 ∨ j = 1 ∨ j = 2 ∨ j = 3 ∨ j = 4 := by omega
            rcases h5 with rfl | rfl | rfl | rfl | rfl
            · go_wp2
              go_roundg 3
              case rel => exact ⟨1, rfl, rfl, by omega, rfl⟩
              case measure => omega
            · go_wp2
              go_roundg 2
              case rel => exact ⟨2, rfl, rfl, by omega, rfl⟩
              case measure => omega
            · go_wp2
              go_roundg 1
              case rel => exact ⟨3, rfl, rfl, by omega, rfl⟩
              case measure => omega
            · go_wp2
              go_roundg 0
              case rel => exact ⟨4, rfl, rfl, by omega, rfl⟩
              case measure => omega
            · go_wp2
              go_roundg (len - (k + 1))
              case rel => exact ⟨k + 1, restF 0, rfl, by go_num, by omega, by omega, HK7.out⟩
              case measure => omega
        · have qx : (x == 2) = false := by simp [hx]
          have D := step_f w (wr.alloc (.cells #[.int .i64 0, .int .i64 (q % 3), .int .i64 0, .int .i64 0] 3)) fb [false] [restF 1, p, restF 1, restF 1] [0, q % 3, 0, 0] wr.heap.size 4 4 (HKR.out.step HBA.out) (blk_new _ _) rfl (by omega)
          go_wp2_with fail
          refine D.mono ?_
          rintro e w5 ⟨rfl, hs, -⟩
          rw [stp1 p _ HQ.out] at hs
          have HK5 : Hid (FdL w w5 fb [false] [restF 1, drivenF p (q % 3), restF 1, restF 1]) := hs
          clear D hs D0 D2 hand3
          have D := in_f w w5 fb [false] [restF 1, drivenF p (q % 3), restF 1, restF 1] 1 4 HK5.out rfl rfl (by omega)
          go_wp2_with fail
          refine D.mono ?_
          rintro e w6 ⟨g, c, b, rfl, ho, hl, -, hb⟩
          generalize hch : w6.alloc (.cells #[.slice (some ⟨g, 0, none⟩) 1 c, .slice (some ⟨b, 0, none⟩) 4 4] 36) = w7
          have HB7 : Hid (Below w6.heap.size w6 w7) := by show Below _ _ _; rw [← hch]; exact (Below.refl _ _).alloc (Nat.le_refl _) _
          have HX7 : Hid (w7.heap[w6.heap.size]? = some (.cells #[.slice (some ⟨g, 0, none⟩) 1 c, .slice (some ⟨b, 0, none⟩) 4 4] 36 (0, 0))) := by show _ = _; rw [← hch]; exact blk_new _ _
          have HK7 : Hid (FdL w w7 fb [false] [restF 1, drivenF p (q % 3), restF 1, restF 1]) := (HK5.out.step hb).step HB7.out
          obtain ⟨y0, y1⟩ := cells2 HX7.out
          have z0 := up_cell HB7.out (lies_cell hl (k := 0) (x := 1) rfl)
          have z1 := up_cell HB7.out (lies_cell hl (k := 1) (x := _) rfl)
          have z2 := up_cell HB7.out (lies_cell hl (k := 2) (x := 1) rfl)
          have z3 := up_cell HB7.out (lies_cell hl (k := 3) (x := 1) rfl)
          clear D ho hl hb
          go_wp2
          clear hch
          have hki' := HKI.out
          go_loopg [10] 4 (fun gk i wr' => ∃ j : Nat, gk = 4 - j ∧ i = .int .i64 j ∧ j ≤ 4 ∧ wr' = w7)
          case atStart => exact ⟨0, rfl, rfl, by omega, rfl⟩
          case round =>
            obtain ⟨j, rfl, rfl, hj, rfl⟩ := hrel
            have h5 : j = 0 ∨ j = 1 ∨ j = 2 ∨ j = 3 ∨ j = 4 := by omega
            rcases h5 with rfl | rfl | rfl | rfl | rfl
            · go_wp2
              go_roundg 3
              case rel => exact ⟨1, rfl, rfl, by omega, rfl⟩
              case measure => omega
            · go_wp2
              go_roundg 2
              case rel => exact ⟨2, rfl, rfl, by omega, rfl⟩
              case measure => omega
            · go_wp2
              go_roundg 1
              case rel => exact ⟨3, rfl, rfl, by omega, rfl⟩
              case measure => omega
            · go_wp2
              go_roundg 0
              case rel => exact ⟨4, rfl, rfl, by omega, rfl⟩
              case measure => omega
            · go_wp2
              go_roundg (len - (k + 1))
              case rel => exact ⟨k + 1, drivenF p (q % 3), rfl, by go_num, by omega, by omega, HK7.out⟩
              case measure => omega
      · have hk6 : ¬ (k : Int) < 60 := by omega
        go_wp2_with fail
        refine (fdKnown_any _).mono ?_
        rintro e wk ⟨rfl, hbk⟩
        go_wp2
        go_ret
        exact ⟨rfl, HKR.out.bl.trans (hbk.mono HKR.out.bl.size)⟩
    · have hki : ¬ (k : Int) < (len : Int) := by omega
      go_wp2_with fail
      refine (fdKnown_any _).mono ?_
      rintro e wk ⟨rfl, hbk⟩
      go_wp2
      go_ret
      exact ⟨rfl, HKR.out.bl.trans (hbk.mono HKR.out.bl.size)⟩

set_option maxRecDepth 1000000 in
set_option maxHeartbeats 32000000 in
theorem walk2 (w : World) (oa : Option Addr) (len cap : Nat) (ls : List (Int × Int × Int)) (HE : Hid (ls.length = len)) (HI : Hid (hasActs w oa ls)) (HL : Hid (len ≤ 10000)) : Calls Try.prog 4 #[.int .i64 2, .slice oa len cap] w fun e w' => e = .returned (.bool true) ∧ Below w.heap.size w w' := by
  have hq : ¬ (10000 : Int) < (len : Int) := by have := HL.out; omega
  go_enter Try.func4, Try.ntmps4
  go_wp2_with fail
  refine (one_any 4 w (by omega)).mono ?_
  rintro e w1 ⟨v, rfl, hL, hF, hb1⟩
  have D := new_f 4 w w1 v hL hF one4 (by omega) hb1
  clear hL hF
  go_wp2_with fail
  refine D.mono ?_
  rintro e w2 ⟨fb, rfl, hK, -⟩
  clear D hb1
  have HK2 : Hid (FdL w w2 fb [false] [restF 1, restF 1, restF 1, restF 1]) := hK
  clear hK
  clear hq
  go_wp2
  go_loopg [7, 8, 9, 10] len (fun gk i a1 a2 a3 wr => ∃ (k : Nat) (p : Pt), gk = len - k ∧ i = .int .i64 k ∧ k ≤ len ∧ k ≤ 60 ∧ FdL w wr fb [false] [restF 1, restF 1, p, restF 1])
  case atStart => exact ⟨0, restF 1, rfl, rfl, by omega, by omega, HK2.out⟩
  case round =>
    clear HK2
    obtain ⟨k, p, rfl, rfl, hk, hk60, hK⟩ := hrel
    have HKR : Hid (FdL w wr fb [false] [restF 1, restF 1, p, restF 1]) := hK
    clear hK
    have hL := HL.out
    by_cases hlt : k < len
    · have hki : (k : Int) < (len : Int) := by omega
      by_cases h60 : k < 60
      · have hk6 : (k : Int) < 60 := by omega
        have HKI : Hid ((k : Int) < (len : Int)) := hki
        obtain ⟨⟨x, y, z⟩, hxk⟩ : ∃ x, ls[k]? = some x := ⟨ls[k]'(by rw [HE.out]; exact hlt), List.getElem?_eq_getElem _⟩
        obtain ⟨b0, off, rfl, c0, c1, c2⟩ := HI.out k _ hxk
        have d0 := (HKR.out.bl.cell (p := ⟨b0, off + k * 3, none⟩) (World.block_lt_of_cell? w _ c0)).trans c0
        have d2 := (HKR.out.bl.cell (p := ⟨b0, off + k * 3 + 2, none⟩) (World.block_lt_of_cell? w _ c2)).trans c2
        have hand3 := i64_and3 z
        have hz4 : 0 ≤ z % 4 ∧ z % 4 ≤ 3 := by omega
        generalize z % 4 = q at hand3 hz4
        have HQ := (show Hid _ from noq hz4)
        have D0 := fun o => up_cell (Below.alloc (Below.refl wr.heap.size wr) (Nat.le_refl _) o) d0
        have D2 := fun o => up_cell (Below.alloc (Below.refl wr.heap.size wr) (Nat.le_refl _) o) d2
        clear hxk c0 c1 c2 d0 d2
        have HBA : Hid (Below wr.heap.size wr (wr.alloc (.cells #[.int .i64 0, .int .i64 0, .int .i64 (q % 3), .int .i64 0] 3))) := (Below.refl _ _).alloc (Nat.le_refl _) _
        by_cases hx : x = 2
        · subst hx
          have D := stick_f w (wr.alloc (.cells #[.int .i64 0, .int .i64 0, .int .i64 (q % 3), .int .i64 0] 3)) fb [false] _ 2 (HKR.out.step HBA.out) _ _ (stk2 p)
          go_wp2_with fail
          refine D.mono ?_
          rintro e w5 ⟨rfl, hs, -⟩
          have HK5 : Hid (FdL w w5 fb [false] [restF 1, restF 1, restF 0, restF 1]) := hs
          clear D hs D0 D2 hand3
          have D := in_f w w5 fb [false] [restF 1, restF 1, restF 0, restF 1] 1 4 HK5.out rfl rfl (by omega)
          go_wp2_with fail
          refine D.mono ?_
          rintro e w6 ⟨g, c, b, rfl, ho, hl, -, hb⟩
          generalize hch : w6.alloc (.cells #[.slice (some ⟨g, 0, none⟩) 1 c, .slice (some ⟨b, 0, none⟩) 4 4] 36) = w7
          have HB7 : Hid (Below w6.heap.size w6 w7) := by show Below _ _ _; rw [← hch]; exact (Below.refl _ _).alloc (Nat.le_refl _) _
          have HX7 : Hid (w7.heap[w6.heap.size]? = some (.cells #[.slice (some ⟨g, 0, none⟩) 1 c, .slice (some ⟨b, 0, none⟩) 4 4] 36 (0, 0))) := by show _ = _; rw [← hch]; exact blk_new _ _
          have HK7 : Hid (FdL w w7 fb [false] [restF 1, restF 1, restF 0, restF 1]) := (HK5.out.step hb).step HB7.out
          obtain ⟨y0, y1⟩ := cells2 HX7.out
          have z0 := up_cell HB7.out (lies_cell hl (k := 0) (x := 1) rfl)
          have z1 := up_cell HB7.out (lies_cell hl (k := 1) (x := 1) rfl)
          have z2 := up_cell HB7.out (lies_cell hl (k := 2) (x := _) rfl)
          have z3 := up_cell HB7.out (lies_cell hl (k := 3) (x := 1) rfl)
          clear D ho hl hb
          go_wp2
          clear hch
          have hki' := HKI.out
          go_loopg [10] 4 (fun gk i wr' => ∃ j : Nat, gk = 4 - j ∧ i = .int .i64 j ∧ j ≤ 4 ∧ wr' = w7)
          case atStart => exact ⟨0, rfl, rfl, by omega, rfl⟩
          case round =>
            obtain ⟨j, rfl, rfl, hj, rfl⟩ := hrel
            have h5 : j = 0 ∨ j = 1 ∨ j = 2 ∨ j = 3 ∨ j = 4 := by omega
            rcases h5 with rfl | rfl | rfl | rfl | rfl
            · go_wp2
              go_roundg 3
              case rel => exact ⟨1, rfl, rfl, by omega, rfl⟩
              case measure => omega
            · go_wp2
              go_roundg 2
              case rel => exact ⟨2, rfl, rfl, by omega, rfl⟩
              case measure => omega
            · go_wp2
              go_roundg 1
              case rel => exact ⟨3, rfl, rfl, by omega, rfl⟩
              case measure => omega
            · go_wp2
              go_roundg 0
              case rel => exact ⟨4, rfl, rfl, by omega, rfl⟩
              case measure => omega
            · go_wp2
              go_roundg (len - (k + 1))
              case rel => exact ⟨k + 1, restF 0, rfl, by go_num, by omega, by omega, HK7.out⟩
              case measure => omega
        · have qx : (x == 2) = false := by simp [hx]
          have D := step_f w (wr.alloc (.cells #[.int .i64 0, .int .i64 0, .int .i64 (q % 3), .int .i64 0] 3)) fb [false] [restF 1, restF 1, p, restF 1] [0, 0, q % 3, 0] wr.heap.size 4 4 (HKR.out.step HBA.out) (blk_new _ _) rfl (by omega)
          go_wp2_with fail
          refine D.mono ?_
          rintro e w5 ⟨rfl, hs, -⟩
          rw [stp2 p _ HQ.out] at hs
          have HK5 : Hid (FdL w w5 fb [false] [restF 1, restF 1, drivenF p (q % 3), restF 1]) := hs
          clear D hs D0 D2 hand3
          have D := in_f w w5 fb [false] [restF 1, restF 1, drivenF p (q % 3), restF 1] 1 4 HK5.out rfl rfl (by omega)
          go_wp2_with fail
          refine D.mono ?_
          rintro e w6 ⟨g, c, b, rfl, ho, hl, -, hb⟩
          generalize hch : w6.alloc (.cells #[.slice (some ⟨g, 0, none⟩) 1 c, .slice (some ⟨b, 0, none⟩) 4 4] 36) = w7
          have HB7 : Hid (Below w6.heap.size w6 w7) := by show Below _ _ _; rw [← hch]; exact (Below.refl _ _).alloc (Nat.le_refl _) _
          have HX7 : Hid (w7.heap[w6.heap.size]? = some (.cells #[.slice (some ⟨g, 0, none⟩) 1 c, .slice (some ⟨b, 0, none⟩) 4 4] 36 (0, 0))) := by show _ = _; rw [← hch]; exact blk_new _ _
          have HK7 : Hid (FdL w w7 fb [false] [restF 1, restF 1, drivenF p (q % 3), restF 1]) := (HK5.out.step hb).step HB7.out
          obtain ⟨y0, y1⟩ := cells2 HX7.out
          have z0 := up_cell HB7.out (lies_cell hl (k := 0) (x := 1) rfl)
          have z1 := up_cell HB7.out (lies_cell hl (k := 1) (x := 1) rfl)
          have z2 := up_cell HB7.out (lies_cell hl (k := 2) (x := _) rfl)
          have z3 := up_cell HB7.out (lies_cell hl (k := 3) (x := 1) rfl)
          clear D ho hl hb
          go_wp2
          clear hch
          have hki' := HKI.out
          go_loopg [10] 4 (fun gk i wr' => ∃ j : Nat, gk = 4 - j ∧ i = .int .i64 j ∧ j ≤ 4 ∧ wr' = w7)
          case atStart => exact ⟨0, rfl, rfl, by omega, rfl⟩
          case round =>
            obtain ⟨j, rfl, rfl, hj, rfl⟩ := hrel
            have h5 : j = 0 ∨ j = 1 ∨ j = 2 ∨ j = 3 ∨ j = 4 := by omega
            rcases h5 with rfl | rfl | rfl | rfl | rfl
            · go_wp2
              go_roundg 3
              case rel => exact ⟨1, rfl, rfl, by omega, rfl⟩
              case measure => omega
            · go_wp2
              go_roundg 2
              case rel => exact ⟨2, rfl, rfl, by omega, rfl⟩
              case measure => omega
            · go_wp2
              go_roundg 1
              case rel => exact ⟨3, rfl, rfl, by omega, rfl⟩
              case measure => omega
            · go_wp2
              go_roundg 0
              case rel => exact ⟨4, rfl, rfl, by omega, rfl⟩
              case measure => omega
            · go_wp2
              go_roundg (len - (k + 1))
              case rel => exact ⟨k + 1, drivenF p (q % 3), rfl, by go_num, by omega, by omega, HK7.out⟩
              case measure => omega
      · have hk6 : ¬ (k : Int) < 60 := by omega
        go_wp2_with fail
        refine (fdKnown_any _).mono ?_
        rintro e wk ⟨rfl, hbk⟩
        go_wp2
        go_ret
        exact ⟨rfl, HKR.out.bl.trans (hbk.mono HKR.out.bl.size)⟩
    · have hki : ¬ (k : Int) < (len : Int) := by omega
      go_wp2_with fail
      refine (fdKnown_any _).mono ?_
      rintro e wk ⟨rfl, hbk⟩
      go_wp2
      go_ret
      exact ⟨rfl, HKR.out.bl.trans (hbk.mono HKR.out.bl.size)⟩

set_option maxRecDepth 1000000 in
set_option maxHeartbeats 32000000 in
theorem walk3 (w : World) (oa : Option Addr) (len cap : Nat) (ls : List (Int × Int × Int)) (HE : Hid (ls.length = len)) (HI : Hid (hasActs w oa ls)) (HL : Hid (len ≤ 10000)) : Calls Try.prog 4 #[.int .i64 3, .slice oa len cap] w fun e w' => e = .returned (.bool true) ∧ Below w.heap.size w w' := by
  have hq : ¬ (10000 : Int) < (len : Int) := by have := HL.out; omega
  go_enter Try.func4, Try.ntmps4
  go_wp2_with fail
  refine (one_any 4 w (by omega)).mono ?_
  rintro e w1 ⟨v, rfl, hL, hF, hb1⟩
  have D := new_f 4 w w1 v hL hF one4 (by omega) hb1
  clear hL hF
  go_wp2_with fail
  refine D.mono ?_
  rintro e w2 ⟨fb, rfl, hK, -⟩
  clear D hb1
  have HK2 : Hid (FdL w w2 fb [false] [restF 1, restF 1, restF 1, restF 1]) := hK
  clear hK
  clear hq
  go_wp2
  go_loopg [7, 8, 9, 10] len (fun gk i a1 a2 a3 wr => ∃ (k : Nat) (p : Pt), gk = len - k ∧ i = .int .i64 k ∧ k ≤ len ∧ k ≤ 60 ∧ FdL w wr fb [false] [restF 1, restF 1, restF 1, p])
  case atStart => exact ⟨0, restF 1, rfl, rfl, by omega, by omega, HK2.out⟩
  case round =>
    clear HK2
    obtain ⟨k, p, rfl, rfl, hk, hk60, hK⟩ := hrel
    have HKR : Hid (FdL w wr fb [false] [restF 1, restF 1, restF 1, p]) := hK
    clear hK
    have hL := HL.out
    by_cases hlt : k < len
    · have hki : (k : Int) < (len : Int) := by omega
      by_cases h60 : k < 60
      · have hk6 : (k : Int) < 60 := by omega
        have HKI : Hid ((k : Int) < (len : Int)) := hki
        obtain ⟨⟨x, y, z⟩, hxk⟩ : ∃ x, ls[k]? = some x := ⟨ls[k]'(by rw [HE.out]; exact hlt), List.getElem?_eq_getElem _⟩
        obtain ⟨b0, off, rfl, c0, c1, c2⟩ := HI.out k _ hxk
        have d0 := (HKR.out.bl.cell (p := ⟨b0, off + k * 3, none⟩) (World.block_lt_of_cell? w _ c0)).trans c0
        have d2 := (HKR.out.bl.cell (p := ⟨b0, off + k * 3 + 2, none⟩) (World.block_lt_of_cell? w _ c2)).trans c2
        have hand3 := i64_and3 z
        have hz4 : 0 ≤ z % 4 ∧ z % 4 ≤ 3 := by omega
        generalize z % 4 = q at hand3 hz4
        have HQ := (show Hid _ from noq hz4)
        have D0 := fun o => up_cell (Below.alloc (Below.refl wr.heap.size wr) (Nat.le_refl _) o) d0
        have D2 := fun o => up_cell (Below.alloc (Below.refl wr.heap.size wr) (Nat.le_refl _) o) d2
        clear hxk c0 c1 c2 d0 d2
        have HBA : Hid (Below wr.heap.size wr (wr.alloc (.cells #[.int .i64 0, .int .i64 0, .int .i64 0, .int .i64 (q % 3)] 3))) := (Below.refl _ _).alloc (Nat.le_refl _) _
        by_cases hx : x = 2
        · subst hx
          have D := stick_f w (wr.alloc (.cells #[.int .i64 0, .int .i64 0, .int .i64 0, .int .i64 (q % 3)] 3)) fb [false] _ 3 (HKR.out.step HBA.out) _ _ (stk3 p)
          go_wp2_with fail
          refine D.mono ?_
          rintro e w5 ⟨rfl, hs, -⟩
          have HK5 : Hid (FdL w w5 fb [false] [restF 1, restF 1, restF 1, restF 0]) := hs
          clear D hs D0 D2 hand3
          have D := in_f w w5 fb [false] [restF 1, restF 1, restF 1, restF 0] 1 4 HK5.out rfl rfl (by omega)
          go_wp2_with fail
          refine D.mono ?_
          rintro e w6 ⟨g, c, b, rfl, ho, hl, -, hb⟩
          generalize hch : w6.alloc (.cells #[.slice (some ⟨g, 0, none⟩) 1 c, .slice (some ⟨b, 0, none⟩) 4 4] 36) = w7
          have HB7 : Hid (Below w6.heap.size w6 w7) := by show Below _ _ _; rw [← hch]; exact (Below.refl _ _).alloc (Nat.le_refl _) _
          have HX7 : Hid (w7.heap[w6.heap.size]? = some (.cells #[.slice (some ⟨g, 0, none⟩) 1 c, .slice (some ⟨b, 0, none⟩) 4 4] 36 (0, 0))) := by show _ = _; rw [← hch]; exact blk_new _ _
          have HK7 : Hid (FdL w w7 fb [false] [restF 1, restF 1, restF 1, restF 0]) := (HK5.out.step hb).step HB7.out
          obtain ⟨y0, y1⟩ := cells2 HX7.out
          have z0 := up_cell HB7.out (lies_cell hl (k := 0) (x := 1) rfl)
          have z1 := up_cell HB7.out (lies_cell hl (k := 1) (x := 1) rfl)
          have z2 := up_cell HB7.out (lies_cell hl (k := 2) (x := 1) rfl)
          have z3 := up_cell HB7.out (lies_cell hl (k := 3) (x := _) rfl)
          clear D ho hl hb
          go_wp2
          clear hch
          have hki' := HKI.out
          go_loopg [10] 4 (fun gk i wr' => ∃ j : Nat, gk = 4 - j ∧ i = .int .i64 j ∧ j ≤ 4 ∧ wr' = w7)
          case atStart => exact ⟨0, rfl, rfl, by omega, rfl⟩
          case round =>
            obtain ⟨j, rfl, rfl, hj, rfl⟩ := hrel
            have h5 : j = 0 ∨ j = 1 ∨ j = 2 ∨ j = 3 ∨ j = 4 := by omega
            rcases h5 with rfl | rfl | rfl | rfl | rfl
            · go_wp2
              go_roundg 3
              case rel => exact ⟨1, rfl, rfl, by omega, rfl⟩
              case measure => omega
            · go_wp2
              go_roundg 2
              case rel => exact ⟨2, rfl, rfl, by omega, rfl⟩
              case measure => omega
            · go_wp2
              go_roundg 1
              case rel => exact ⟨3, rfl, rfl, by omega, rfl⟩
              case measure => omega
            · go_wp2
              go_roundg 0
              case rel => exact ⟨4, rfl, rfl, by omega, rfl⟩
              case measure => omega
            · go_wp2
              go_roundg (len - (k + 1))
              case rel => exact ⟨k + 1, restF 0, rfl, by go_num, by omega, by omega, HK7.out⟩
              case measure => omega
        · have qx : (x == 2) = false := by simp [hx]
          have D := step_f w (wr.alloc (.cells #[.int .i64 0, .int .i64 0, .int .i64 0, .int .i64 (q % 3)] 3)) fb [false] [restF 1, restF 1, restF 1, p] [0, 0, 0, q % 3] wr.heap.size 4 4 (HKR.out.step HBA.out) (blk_new _ _) rfl (by omega)
          go_wp2_with fail
          refine D.mono ?_
          rintro e w5 ⟨rfl, hs, -⟩
          rw [stp3 p _ HQ.out] at hs
          have HK5 : Hid (FdL w w5 fb [false] [restF 1, restF 1, restF 1, drivenF p (q % 3)]) := hs
          clear D hs D0 D2 hand3
          have D := in_f w w5 fb [false] [restF 1, restF 1, restF 1, drivenF p (q % 3)] 1 4 HK5.out rfl rfl (by omega)
          go_wp2_with fail
          refine D.mono ?_
          rintro e w6 ⟨g, c, b, rfl, ho, hl, -, hb⟩
          generalize hch : w6.alloc (.cells #[.slice (some ⟨g, 0, none⟩) 1 c, .slice (some ⟨b, 0, none⟩) 4 4] 36) = w7
          have HB7 : Hid (Below w6.heap.size w6 w7) := by show Below _ _ _; rw [← hch]; exact (Below.refl _ _).alloc (Nat.le_refl _) _
          have HX7 : Hid (w7.heap[w6.heap.size]? = some (.cells #[.slice (some ⟨g, 0, none⟩) 1 c, .slice (some ⟨b, 0, none⟩) 4 4] 36 (0, 0))) := by show _ = _; rw [← hch]; exact blk_new _ _
          have HK7 : Hid (FdL w w7 fb [false] [restF 1, restF 1, restF 1, drivenF p (q % 3)]) := (HK5.out.step hb).step HB7.out
          obtain ⟨y0, y1⟩ := cells2 HX7.out
          have z0 := up_cell HB7.out (lies_cell hl (k := 0) (x := 1) rfl)
          have z1 := up_cell HB7.out (lies_cell hl (k := 1) (x := 1) rfl)
          have z2 := up_cell HB7.out (lies_cell hl (k := 2) (x := 1) rfl)
          have z3 := up_cell HB7.out (lies_cell hl (k := 3) (x := _) rfl)
          clear D ho hl hb
          go_wp2
          clear hch
          have hki' := HKI.out
          go_loopg [10] 4 (fun gk i wr' => ∃ j : Nat, gk = 4 - j ∧ i = .int .i64 j ∧ j ≤ 4 ∧ wr' = w7)
          case atStart => exact ⟨0, rfl, rfl, by omega, rfl⟩
          case round =>
            obtain ⟨j, rfl, rfl, hj, rfl⟩ := hrel
            have h5 : j = 0 ∨ j = 1 ∨ j = 2 ∨ j = 3 ∨ j = 4 := by omega
            rcases h5 with rfl | rfl | rfl | rfl | rfl
            · go_wp2
              go_roundg 3
              case rel => exact ⟨1, rfl, rfl, by omega, rfl⟩
              case measure => omega
            · go_wp2
              go_roundg 2
              case rel => exact ⟨2, rfl, rfl, by omega, rfl⟩
              case measure => omega
            · go_wp2
              go_roundg 1
              case rel => exact ⟨3, rfl, rfl, by omega, rfl⟩
              case measure => omega
            · go_wp2
              go_roundg 0
              case rel => exact ⟨4, rfl, rfl, by omega, rfl⟩
              case measure => omega
            · go_wp2
              go_roundg (len - (k + 1))
              case rel => exact ⟨k + 1, drivenF p (q % 3), rfl, by go_num, by omega, by omega, HK7.out⟩
              case measure => omega
      · have hk6 : ¬ (k : Int) < 60 := by omega
        go_wp2_with fail
        refine (fdKnown_any _).mono ?_
        rintro e wk ⟨rfl, hbk⟩
        go_wp2
        go_ret
        exact ⟨rfl, HKR.out.bl.trans (hbk.mono HKR.out.bl.size)⟩
    · have hki : ¬ (k : Int) < (len : Int) := by omega
      go_wp2_with fail
      refine (fdKnown_any _).mono ?_
      rintro e wk ⟨rfl, hbk⟩
      go_wp2
      go_ret
      exact ⟨rfl, HKR.out.bl.trans (hbk.mono HKR.out.bl.size)⟩

set_option maxRecDepth 1000000 in
set_option maxHeartbeats 32000000 in
theorem walk (w : World) (n : Int) (oa : Option Addr) (len cap : Nat) (ls : List (Int × Int × Int)) (e1 : ls.length = len) (m1 : len ≤ maxLen) (hI : hasActs w oa ls) (_ : (Lit.int IntKind.i64 n).wf = true) : Calls Try.prog 4 #[.int .i64 n, .slice oa len cap] w fun e w' => e = .returned (.bool true) ∧ Below w.heap.size w w' := by
  unfold maxLen at m1
  by_cases h0 : n < 0
  · clear e1 hI
    go_enter Try.func4, Try.ntmps4
    go_wp2
    go_ret
    exact ⟨rfl, Below.refl _ _⟩
  by_cases h3 : 3 < n
  · clear e1 hI
    go_enter Try.func4, Try.ntmps4
    go_wp2
    go_ret
    exact ⟨rfl, Below.refl _ _⟩
  by_cases hl : 10000 < len
  · have hq : (10000 : Int) < (len : Int) := by omega
    clear e1 hI
    go_enter Try.func4, Try.ntmps4
    go_wp2
    go_ret
    exact ⟨rfl, Below.refl _ _⟩
  have hn : n = 0 ∨ n = 1 ∨ n = 2 ∨ n = 3 := by omega
  rcases hn with rfl | rfl | rfl | rfl
  · exact walk0 w oa len cap ls e1 hI (show len ≤ 10000 by omega)
  · exact walk1 w oa len cap ls e1 hI (show len ≤ 10000 by omega)
  · exact walk2 w oa len cap ls e1 hI (show len ≤ 10000 by omega)
  · exact walk3 w oa len cap ls e1 hI (show len ≤ 10000 by omega)

theorem own : ownKnob Try.prog.godebug = none := by kernel_rfl

set_option maxRecDepth 100000 in
theorem lifted (os : Os) (started : os.Started) (H : Type) (enc : TypeId × Value → H) :
    ReturnsInHanded {} Try.checked os 4 .any (Rows.fieldApartSpec.pre6 enc Try.prog Try.f4 Rows.fieldApartRow.domain false) (Rows.fieldApartSpec.post enc Try.prog Try.f4 false true false false) := by
  refine returnsInHanded_of_change (C := Try.checked) own started (by kernel_rfl) Try.func4
    (ChangeSpec.witness6 (enc := enc) (C := Try.checked) false ⟨#[], #[.int .i64 0, .slice none 0 0], []⟩ 8 (by kernel_rfl) (by kernel_rfl) (by kernel_rfl) (by kernel_rfl)) ?_
  intro W base args ds gs before hval0 hW _ _
  have hval : ∀ (j : Nat) t v, Try.f4.params[j]? = some t → args[j]? = some v → Value.okWide Try.prog W .any base t v := hval0
  have hW' := hW
  obtain ⟨p, q, hA0, hV, rfl, _, _⟩ := hW
  have hA : DataW.TrodAll enc Try.prog W 0 (fun _ => true) true Try.f4.params.toList args.toList ds p := hA0
  rw [Try.params4] at hA hval
  obtain ⟨v0, vs0, d0, ds0, p0, q0, hargs, rfl, rfl, h0, r0⟩ := trodAll_cons hA
  obtain ⟨v1, vs1, d1, ds1, p1, q1, rfl, rfl, rfl, h1, r1⟩ := trodAll_cons r0
  obtain ⟨rfl, rfl, rfl⟩ := trodAll_nil r1
  obtain rfl : args = #[v0, v1] := by cases args; simp_all
  obtain ⟨rfl, rfl⟩ := trodVars_none hV
  obtain ⟨a0, rfl, rfl, rfl, w0⟩ := open_int Try.underlying3 (hval 0 3 v0 rfl rfl) h0
  obtain ⟨a1, len1, cap1, rfl⟩ := okWide_slice Try.underlying40 (hval 1 40 v1 rfl rfl)
  have k1 := h1
  have lt1 : ∀ x ∈ p1, x.block < W.heap.size := by obtain ⟨m, hm⟩ := k1; exact DataW.trod_lt m _ _ _ hm
  obtain ⟨z1, e1, m1, s1⟩ : ∃ l : List (Int × Int × Int), l.length = len1 ∧ len1 ≤ maxLen ∧ hasActs W a1 l := by
    obtain ⟨fuel, hf⟩ := h1
    exact open_acts hf
  clear hA0 hval0
  refine (walk W a0 a1 len1 cap1 z1 e1 m1 s1 w0).mono fun e W' ⟨he, bel⟩ => ?_
  subst he
  exact ⟨_, rfl, _, _, _, [], _, [], hW', trodAll_mk1 (shut_bool Try.underlying4 _), (trodAll_cons_mk (shut_int Try.underlying3 w0) (trodAll_cons_mk (Below.trod laidOut (by kernel_rfl) (of_decide_eq_true (by kernel_rfl)) k1 bel lt1) trodAll_mk0)), rfl, bel.frame _, fun h => by cases h⟩

theorem over : Rows.fieldApartRow.holds Try.pinned (OpenSpec.ofChange Rows.fieldApartSpec) :=
  OpenClaim.holds_of_wide 4 Try.f4 rfl rfl rfl rfl rfl rfl rfl ⟨rfl, rfl, rfl, rfl, rfl⟩ rfl rfl rfl rfl rfl (by kernel_rfl) Try.func4 (by kernel_rfl)
    (of_decide_eq_true (by kernel_rfl)) (by unfold Func.isWrapper; first | (rw [if_pos (by decide +kernel)]; kernel_rfl) | (rw [if_neg (by decide +kernel)]; exact ⟨rfl, rfl⟩))
    (fun os started H enc _ => lifted os started H enc)

end Go.Proofs.Ythmbpohebcnehaa.fieldApart
namespace Go.Proofs.Ythmbpohebcnehaa
theorem fieldApart_holds : Rows.FieldApartSaid := fieldApart.over
#print axioms fieldApart_holds
end Go.Proofs.Ythmbpohebcnehaa
