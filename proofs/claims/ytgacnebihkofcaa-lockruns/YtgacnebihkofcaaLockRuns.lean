/-
  Of every number: LockRuns returns true.
-/
import Derived.Test.YtgacnebihkofcaaRows
import Derived.Test.YtgacnebihkofcaaLkKnown
import Derived.WalkKit
import Derived.ProofKit
import Derived.OpenShut
import Derived.ShutString
import Derived.ChangeOld
import Derived.Below
import Derived.SizedLaws
import Derived.PinnedBridge
import Derived.Lib.LaidU8T
import Derived.Lay
import Derived.LaidOnce
import Derived.SevenTiedAt
import Derived.Deep.DeepHandedRow
namespace Go.Proofs.Ytgacnebihkofcaa.lockRuns
open Go.ChangeShapes Go.WideShapes Go.ChangeAt Go.RowKit

/-- How the route stands behind so many cycles. -/
def rF (k : Nat) : St := if k = 0 then (1, 0, 0, false) else (2, 0, 0, false)
theorem cyc_all (k : Nat) : cycL [rF k, idleS] (bitsF 0) [1] = ([rF (k + 1), idleS], ([0], [true, false, false])) := by
  cases k
  · decide +kernel
  · show cycL [(2, 0, 0, false), idleS] (bitsF 0) [1] = ([(2, 0, 0, false), idleS], _)
    decide +kernel
theorem ok_all (k : Nat) : mayBeF (rF k) 2 = true := by
  cases k
  · decide
  · show mayBeF (2, 0, 0, false) 2 = true
    decide

set_option maxRecDepth 1000000 in
set_option maxHeartbeats 32000000 in
theorem walk (n : Int) (_ : (Lit.int IntKind.i64 n).wf = true) (w : World) : Calls Try.prog 3 #[.int .i64 n] w fun e w' => e = .returned (.bool true) ∧ Below w.heap.size w w' := by
  by_cases hr : n < 0 ∨ 10 < n
  · by_cases h0 : n < 0
    · go_enter Try.func3, Try.ntmps3
      go_wp2
      go_ret
      exact ⟨rfl, Below.refl _ _⟩
    · have h1 : 10 < n := by omega
      clear hr
      go_enter Try.func3, Try.ntmps3
      go_wp2
      go_ret
      exact ⟨rfl, Below.refl _ _⟩
  obtain ⟨N, rfl, hN⟩ := nat_of (n := 11) (i := n) ⟨by omega, by omega⟩
  have hq0 : ¬ (N : Int) < 0 := by omega
  have hq1 : ¬ (10 : Int) < (N : Int) := by omega
  clear hr
  go_enter Try.func3, Try.ntmps3
  go_wp2_with fail
  refine (line_any w).mono ?_
  rintro e w1 ⟨v, a, b, c, d, e', f, rfl, hL, hF, hb1⟩
  have D := new_l w w1 v a b c d e' f hL hF hb1
  clear hL hF
  go_wp2_with fail
  refine D.mono ?_
  rintro e w2 ⟨kb, rfl, hK, hb2⟩
  clear D
  have HK2 : Hid (LkL w w2 kb [idleS, idleS]) := hK
  clear hK hb1 hb2
  go_wp2_with fail
  refine (at_any 0 1 w2 (by omega)).mono ?_
  rintro e w3 ⟨v3, rfl, hi, hb⟩
  have HIw3 : Hid (InNew w3 v3 (bitsF 0) [1] ∧ Below w2.heap.size w2 w3) := ⟨hi, hb⟩
  clear hi hb
  have D := cmd_l w w3 kb _ v3 (bitsF 0) [1] 1 0 (HK2.out.step HIw3.out.2) HIw3.out.1 (by simp) 0 [(1, 0, 0, false), idleS] (by decide +kernel) ⟨_, _, rfl, by decide, by decide⟩
  go_wp2_with fail
  refine D.mono ?_
  rintro e w4 ⟨rfl, hk, hc⟩
  have HKw4 : Hid (LkL w w4 kb [(1, 0, 0, false), idleS]) := hk
  clear D hk
  clear hc
  clear hq0 hq1
  go_wp2
  go_loopg [5, 6] (N + 1) (fun gk i a1 wr => ∃ k : Nat, gk = N + 1 - k ∧ i = .int .i64 k ∧ k ≤ N + 1 ∧ LkL w wr kb [rF k, idleS])
  case atStart => exact ⟨0, rfl, rfl, by omega, HKw4.out⟩
  case round =>
    obtain ⟨k, rfl, rfl, hk, hK⟩ := hrel
    have HKR : Hid (LkL w wr kb [rF k, idleS]) := hK
    clear hK
    by_cases hlt : k < N + 1
    · have hki : (k : Int) ≤ (N : Int) := by omega
      go_wp2_with fail
      refine (at_any 0 1 wr (by omega)).mono ?_
      rintro e w5 ⟨v5, rfl, hi, hb⟩
      have HIw5 : Hid (InNew w5 v5 (bitsF 0) [1] ∧ Below wr.heap.size wr w5) := ⟨hi, hb⟩
      clear hi hb
      have D := cyc_l w w5 kb _ v5 (bitsF 0) [1] (HKR.out.step HIw5.out.2) HIw5.out.1 (by simp) [rF (k + 1), idleS] [0] [true, false, false] (cyc_all k) ⟨_, _, rfl, ok_all (k + 1), by decide⟩
      go_wp2_with fail
      refine D.mono ?_
      rintro e w6 ⟨b1, b2, rfl, ho, hk, hc⟩
      have HKw6 : Hid (LkL w w6 kb [rF (k + 1), idleS]) := hk
      have HOw6 : Hid (OutAt w6 w5.heap.size b1 b2 [0] [true, false, false]) := ho
      clear D hk ho hc
      generalize hch : w6.alloc (.cells #[.slice (some ⟨b1, 0, none⟩) 1 1, .slice (some ⟨b2, 0, none⟩) 3 3] 41) = w7
      have HBw7 : Hid (Below w6.heap.size w6 w7) := by show Below _ _ _; rw [← hch]; exact (Below.refl _ _).alloc (Nat.le_refl _) _
      have HXw7 : Hid (w7.heap[w6.heap.size]? = some (.cells #[.slice (some ⟨b1, 0, none⟩) 1 1, .slice (some ⟨b2, 0, none⟩) 3 3] 41 (0, 0))) := by show _ = _; rw [← hch]; exact blk_new _ _
      obtain ⟨y0, y1⟩ := cells2 HXw7.out
      have z1 := ((HOw6.out.below HBw7.out).cell2 (p := 0) rfl).1
      go_wp2
      clear hch
      go_roundg (N + 1 - (k + 1))
      case rel => exact ⟨k + 1, rfl, by go_num, by omega, HKw6.out.step HBw7.out⟩
      case measure => omega
    · have hkn : ¬ (k : Int) ≤ (N : Int) := by omega
      have hk0 : rF k = (2, 0, 0, false) := if_neg (by omega)
      rw [hk0] at HKR
      clear hk0
      generalize wr = w6 at *
      generalize hch : ((((((((w6.alloc (.cells #[.int .i64 1, .int .i64 1, .int .i64 3, .int .i64 2, .int .i64 2, .int .i64 0, .int .i64 0] 3)).alloc (.cells #[.int .i64 0, .int .i64 0] 3)).alloc (.cells #[.int .i64 0, .int .i64 0] 3)).alloc (.cells #[.int .i64 0, .int .i64 0] 3)).alloc (.cells #[.int .i64 (-1), .int .i64 0] 3)).alloc (.cells #[.int .i64 (-1), .int .i64 0] 3)).alloc (.cells #[.int .i64 (-1), .int .i64 (-1)] 3)).alloc (.cells #[.int .i64 (-1), .int .i64 (-1)] 3)).alloc (.cells #[.slice (some ⟨w6.heap.size + 1, 0, none⟩) 2 2, .slice (some ⟨w6.heap.size + 1 + 1, 0, none⟩) 2 2, .slice (some ⟨w6.heap.size + 1 + 1 + 1, 0, none⟩) 2 2, .slice (some ⟨w6.heap.size + 1 + 1 + 1 + 1, 0, none⟩) 2 2, .slice (some ⟨w6.heap.size + 1 + 1 + 1 + 1 + 1, 0, none⟩) 2 2, .slice (some ⟨w6.heap.size + 1 + 1 + 1 + 1 + 1 + 1, 0, none⟩) 2 2, .slice (some ⟨w6.heap.size + 1 + 1 + 1 + 1 + 1 + 1 + 1, 0, none⟩) 2 2] 34) = w7
      have HB7 : Hid (Below w6.heap.size w6 w7) := by show Below _ _ _; rw [← hch]; exact (by repeat' (with_reducible first | exact Below.refl _ _ | refine Below.drew ?_ | refine _root_.Go.below_drewN ?_ _ | refine Below.alloc ?_ ?_ _ | refine Below.setCell ?_ ?_ _ | exact Nat.le_refl _ | (simp; done) | (simp; omega)))
      have HS0 : Hid (w7.heap[w6.heap.size]? = some (.cells #[.int .i64 1, .int .i64 1, .int .i64 3, .int .i64 2, .int .i64 2, .int .i64 0, .int .i64 0] 3 (0, 0))) := by show _ = _; rw [← hch]; repeat (first | (refine blk_new' ?_; simp; done) | refine blk_old ?_)
      have HR0 : Hid (w7.heap[w6.heap.size + 1]? = some (.cells #[.int .i64 0, .int .i64 0] 3 (0, 0))) := by show _ = _; rw [← hch]; repeat (first | (refine blk_new' ?_; simp; done) | refine blk_old ?_)
      have HR1 : Hid (w7.heap[w6.heap.size + 1 + 1]? = some (.cells #[.int .i64 0, .int .i64 0] 3 (0, 0))) := by show _ = _; rw [← hch]; repeat (first | (refine blk_new' ?_; simp; done) | refine blk_old ?_)
      have HR2 : Hid (w7.heap[w6.heap.size + 1 + 1 + 1]? = some (.cells #[.int .i64 0, .int .i64 0] 3 (0, 0))) := by show _ = _; rw [← hch]; repeat (first | (refine blk_new' ?_; simp; done) | refine blk_old ?_)
      have HR3 : Hid (w7.heap[w6.heap.size + 1 + 1 + 1 + 1]? = some (.cells #[.int .i64 (-1), .int .i64 0] 3 (0, 0))) := by show _ = _; rw [← hch]; repeat (first | (refine blk_new' ?_; simp; done) | refine blk_old ?_)
      have HR4 : Hid (w7.heap[w6.heap.size + 1 + 1 + 1 + 1 + 1]? = some (.cells #[.int .i64 (-1), .int .i64 0] 3 (0, 0))) := by show _ = _; rw [← hch]; repeat (first | (refine blk_new' ?_; simp; done) | refine blk_old ?_)
      have HR5 : Hid (w7.heap[w6.heap.size + 1 + 1 + 1 + 1 + 1 + 1]? = some (.cells #[.int .i64 (-1), .int .i64 (-1)] 3 (0, 0))) := by show _ = _; rw [← hch]; repeat (first | (refine blk_new' ?_; simp; done) | refine blk_old ?_)
      have HR6 : Hid (w7.heap[w6.heap.size + 1 + 1 + 1 + 1 + 1 + 1 + 1]? = some (.cells #[.int .i64 (-1), .int .i64 (-1)] 3 (0, 0))) := by show _ = _; rw [← hch]; repeat (first | (refine blk_new' ?_; simp; done) | refine blk_old ?_)
      have HH0 : Hid (w7.heap[w6.heap.size + 1 + 1 + 1 + 1 + 1 + 1 + 1 + 1]? = some (.cells #[.slice (some ⟨w6.heap.size + 1, 0, none⟩) 2 2, .slice (some ⟨w6.heap.size + 1 + 1, 0, none⟩) 2 2, .slice (some ⟨w6.heap.size + 1 + 1 + 1, 0, none⟩) 2 2, .slice (some ⟨w6.heap.size + 1 + 1 + 1 + 1, 0, none⟩) 2 2, .slice (some ⟨w6.heap.size + 1 + 1 + 1 + 1 + 1, 0, none⟩) 2 2, .slice (some ⟨w6.heap.size + 1 + 1 + 1 + 1 + 1 + 1, 0, none⟩) 2 2, .slice (some ⟨w6.heap.size + 1 + 1 + 1 + 1 + 1 + 1 + 1, 0, none⟩) 2 2] 34 (0, 0))) := by show _ = _; rw [← hch]; repeat (first | (refine blk_new' ?_; simp; done) | refine blk_old ?_)
      have HK7 : Hid (LkL w w7 kb [(2, 0, 0, false), idleS]) := HKR.out.step HB7.out
      go_wp2
      clear hch
      go_loopg [9, 10] 7 (fun gk i a1 wr => ∃ k : Nat, gk = 7 - k ∧ i = .int .i64 k ∧ k ≤ 7 ∧ LkL w wr kb [[(2, 0, 0, false), (3, 0, 0, true), (3, 0, 0, true), (3, 0, 0, true), (3, 0, 1, false), (3, 0, 1, true), idleS, idleS].getD k idleS, idleS] ∧ TC w7 wr)
      case atStart => exact ⟨0, rfl, rfl, by omega, HK7.out, TC.refl _⟩
      case round =>
        obtain ⟨k, rfl, rfl, hk', hK, hT⟩ := hrel
        have HT : Hid (TC w7 wr) := hT
        have HKR2 : Hid (LkL w wr kb [[(2, 0, 0, false), (3, 0, 0, true), (3, 0, 0, true), (3, 0, 0, true), (3, 0, 1, false), (3, 0, 1, true), idleS, idleS].getD k idleS, idleS]) := hK
        clear hK hT
        by_cases hlt2 : k < 7
        · have hcase : k = 0 ∨ k = 1 ∨ k = 2 ∨ k = 3 ∨ k = 4 ∨ k = 5 ∨ k = 6 := by omega
          rcases hcase with rfl | rfl | rfl | rfl | rfl | rfl | rfl
          · have HKk : Hid (LkL w wr kb [(2, 0, 0, false), idleS]) := HKR2.out
            have s0 : wr.cell? ⟨w6.heap.size, 0, none⟩ = some (.int .i64 1) := by have := HT.out.blk HS0.out (by decide); simp [World.cell?, this]
            go_wp2_with fail
            clear s0
            refine (at_any 1 1 wr (by omega)).mono ?_
            rintro e w8 ⟨v8, rfl, hi, hb⟩
            have HIw8 : Hid (InNew w8 v8 (bitsF 1) [1] ∧ Below wr.heap.size wr w8) := ⟨hi, hb⟩
            clear hi hb
            have D := cyc_l w w8 kb _ v8 (bitsF 1) [1] (HKk.out.step HIw8.out.2) HIw8.out.1 (by simp) [(3, 0, 0, true), idleS] [0] [false, false, false] (by decide +kernel) ⟨_, _, rfl, by decide, by decide⟩
            go_wp2_with fail
            refine D.mono ?_
            rintro e w9 ⟨b1, b2, rfl, ho, hk, hc⟩
            have HKw9 : Hid (LkL w w9 kb [(3, 0, 0, true), idleS]) := hk
            have HOw9 : Hid (OutAt w9 w8.heap.size b1 b2 [0] [false, false, false]) := ho
            have HCw9 : Hid (TC w8 w9) := hc
            clear D hk ho hc
            generalize hch : w9.alloc (.cells #[.slice (some ⟨b1, 0, none⟩) 1 1, .slice (some ⟨b2, 0, none⟩) 3 3] 41) = wa
            have HBwa : Hid (Below w9.heap.size w9 wa) := by show Below _ _ _; rw [← hch]; exact (Below.refl _ _).alloc (Nat.le_refl _) _
            have HXwa : Hid (wa.heap[w9.heap.size]? = some (.cells #[.slice (some ⟨b1, 0, none⟩) 1 1, .slice (some ⟨b2, 0, none⟩) 3 3] 41 (0, 0))) := by show _ = _; rw [← hch]; exact blk_new _ _
            have HTA : Hid (TC w7 wa) := ((HT.out.trans (TC.of_below HIw8.out.2)).trans HCw9.out).trans (TC.of_below HBwa.out)
            have HKA : Hid (LkL w wa kb [(3, 0, 0, true), idleS]) := HKw9.out.step HBwa.out
            obtain ⟨y0, y1⟩ := cells2 HXwa.out
            have z1 := ((HOw9.out.below HBwa.out).cell2 (p := 0) rfl).1
            have t0 : wa.cell? ⟨w6.heap.size + 1 + 1 + 1 + 1 + 1 + 1 + 1 + 1, 0, none⟩ = some (.slice (some ⟨w6.heap.size + 1, 0, none⟩) 2 2) := by have := HTA.out.blk HH0.out (by decide); simp [World.cell?, this]
            obtain ⟨t1, t2⟩ := cells2 (HTA.out.blk HR0.out (by decide))
            go_wp2_with fail
            clear hch
            have f0 := ext_cell y0
            have f1 := ext_cell y1
            have f2 := ext_cell z1
            have f3 := ext_cell t0
            have f4 := ext_cell t1
            have f5 := ext_cell t2
            haveI := ext_some wa
            have HB8 : Hid (Below wa.heap.size wa wa.drew) := (Below.refl _ _).drew
            clear y0 y1 z1 t0 t1 t2
            refine wp_region_mix_seq (C := fun W => ∃ y : Ext wa, W = y.z) [0, 1, 2, 3, 4, 5, 6, 7, 8, 9, 10, 11, 13, 14, 15, 16, 17, 18, 12, 19, 20, 21, 22, 24, 25, 26, 27, 28, 29, 23, 30, 31] (by kernel_rfl) (by kernel_rfl) (by kernel_rfl) (by kernel_rfl) (by simp only [List.filterMap_cons, List.getElem?_toArray, List.getElem?_cons_zero, List.getElem?_cons_succ, List.filterMap_nil]; rfl) ⟨⟨_, (Below.refl _ _).drew⟩, rfl⟩ ?_
            (repeat (first | (with_reducible refine mix_read (by kernel_rfl) ?_; go_big_quiet_want; go_big_quiet_op; go_big_quiet_on; with_reducible refine wpQuiet_nil ?_) | (with_reducible refine mix_pass (by kernel_rfl) ?_; go_big_quiet_skip; with_reducible refine wpQuiet_nil ?_)))
            with_reducible refine mix_call (by kernel_rfl) (by kernel_rfl) ((hold_l w _ kb _ 0 (HKA.out.step HB8.out) (0) (by decide +kernel)).mono ?_) (by kernel_rfl)
            rintro e wb ⟨rfl, hbb⟩
            have HB9 : Hid (Below wa.heap.size wa wb) := HB8.out.trans (hbb.mono HB8.out.size)
            clear hbb
            refine ⟨_, rfl, ⟨⟨_, HB9.out⟩, rfl⟩, ?_⟩
            simp only [Act.put, List.setIfInBounds_toArray, List.set_cons_zero, List.set_cons_succ]
            (repeat (first | (with_reducible refine mix_read (by kernel_rfl) ?_; go_big_quiet_want; go_big_quiet_op; go_big_quiet_on; with_reducible refine wpQuiet_nil ?_) | (with_reducible refine mix_pass (by kernel_rfl) ?_; go_big_quiet_skip; with_reducible refine wpQuiet_nil ?_)))
            with_reducible refine mix_call (by kernel_rfl) (by kernel_rfl) ((hold_l w _ kb _ 1 (HKA.out.step HB9.out) (0) (by decide +kernel)).mono ?_) (by kernel_rfl)
            rintro e wc ⟨rfl, hbb⟩
            have HBc : Hid (Below wa.heap.size wa wc) := HB9.out.trans (hbb.mono HB9.out.size)
            clear hbb
            refine ⟨_, rfl, ⟨⟨_, HBc.out⟩, rfl⟩, ?_⟩
            simp only [Act.put, List.setIfInBounds_toArray, List.set_cons_zero, List.set_cons_succ]
            (repeat (first | (with_reducible refine mix_read (by kernel_rfl) ?_; go_big_quiet_want; go_big_quiet_op; go_big_quiet_on; with_reducible refine wpQuiet_nil ?_) | (with_reducible refine mix_pass (by kernel_rfl) ?_; go_big_quiet_skip; with_reducible refine wpQuiet_nil ?_)))
            with_reducible refine mix_end ?_
            intro _
            clear f0 f1 f2 f3 f4 f5
            go_wp2
            go_roundg (7 - (0 + 1))
            case rel => exact ⟨0 + 1, rfl, by go_num, by omega, HKA.out.step HBc.out, HTA.out.trans (TC.of_below HBc.out)⟩
            case measure => omega
          · have HKk : Hid (LkL w wr kb [(3, 0, 0, true), idleS]) := HKR2.out
            have s0 : wr.cell? ⟨w6.heap.size, 1, none⟩ = some (.int .i64 1) := by have := HT.out.blk HS0.out (by decide); simp [World.cell?, this]
            go_wp2_with fail
            clear s0
            refine (at_any 1 1 wr (by omega)).mono ?_
            rintro e w8 ⟨v8, rfl, hi, hb⟩
            have HIw8 : Hid (InNew w8 v8 (bitsF 1) [1] ∧ Below wr.heap.size wr w8) := ⟨hi, hb⟩
            clear hi hb
            have D := cyc_l w w8 kb _ v8 (bitsF 1) [1] (HKk.out.step HIw8.out.2) HIw8.out.1 (by simp) [(3, 0, 0, true), idleS] [0] [false, false, false] (by decide +kernel) ⟨_, _, rfl, by decide, by decide⟩
            go_wp2_with fail
            refine D.mono ?_
            rintro e w9 ⟨b1, b2, rfl, ho, hk, hc⟩
            have HKw9 : Hid (LkL w w9 kb [(3, 0, 0, true), idleS]) := hk
            have HOw9 : Hid (OutAt w9 w8.heap.size b1 b2 [0] [false, false, false]) := ho
            have HCw9 : Hid (TC w8 w9) := hc
            clear D hk ho hc
            generalize hch : w9.alloc (.cells #[.slice (some ⟨b1, 0, none⟩) 1 1, .slice (some ⟨b2, 0, none⟩) 3 3] 41) = wa
            have HBwa : Hid (Below w9.heap.size w9 wa) := by show Below _ _ _; rw [← hch]; exact (Below.refl _ _).alloc (Nat.le_refl _) _
            have HXwa : Hid (wa.heap[w9.heap.size]? = some (.cells #[.slice (some ⟨b1, 0, none⟩) 1 1, .slice (some ⟨b2, 0, none⟩) 3 3] 41 (0, 0))) := by show _ = _; rw [← hch]; exact blk_new _ _
            have HTA : Hid (TC w7 wa) := ((HT.out.trans (TC.of_below HIw8.out.2)).trans HCw9.out).trans (TC.of_below HBwa.out)
            have HKA : Hid (LkL w wa kb [(3, 0, 0, true), idleS]) := HKw9.out.step HBwa.out
            obtain ⟨y0, y1⟩ := cells2 HXwa.out
            have z1 := ((HOw9.out.below HBwa.out).cell2 (p := 0) rfl).1
            have t0 : wa.cell? ⟨w6.heap.size + 1 + 1 + 1 + 1 + 1 + 1 + 1 + 1, 1, none⟩ = some (.slice (some ⟨w6.heap.size + 1 + 1, 0, none⟩) 2 2) := by have := HTA.out.blk HH0.out (by decide); simp [World.cell?, this]
            obtain ⟨t1, t2⟩ := cells2 (HTA.out.blk HR1.out (by decide))
            go_wp2_with fail
            clear hch
            have f0 := ext_cell y0
            have f1 := ext_cell y1
            have f2 := ext_cell z1
            have f3 := ext_cell t0
            have f4 := ext_cell t1
            have f5 := ext_cell t2
            haveI := ext_some wa
            have HB8 : Hid (Below wa.heap.size wa wa.drew) := (Below.refl _ _).drew
            clear y0 y1 z1 t0 t1 t2
            refine wp_region_mix_seq (C := fun W => ∃ y : Ext wa, W = y.z) [0, 1, 2, 3, 4, 5, 6, 7, 8, 9, 10, 11, 13, 14, 15, 16, 17, 18, 12, 19, 20, 21, 22, 24, 25, 26, 27, 28, 29, 23, 30, 31] (by kernel_rfl) (by kernel_rfl) (by kernel_rfl) (by kernel_rfl) (by simp only [List.filterMap_cons, List.getElem?_toArray, List.getElem?_cons_zero, List.getElem?_cons_succ, List.filterMap_nil]; rfl) ⟨⟨_, (Below.refl _ _).drew⟩, rfl⟩ ?_
            (repeat (first | (with_reducible refine mix_read (by kernel_rfl) ?_; go_big_quiet_want; go_big_quiet_op; go_big_quiet_on; with_reducible refine wpQuiet_nil ?_) | (with_reducible refine mix_pass (by kernel_rfl) ?_; go_big_quiet_skip; with_reducible refine wpQuiet_nil ?_)))
            with_reducible refine mix_call (by kernel_rfl) (by kernel_rfl) ((hold_l w _ kb _ 0 (HKA.out.step HB8.out) (0) (by decide +kernel)).mono ?_) (by kernel_rfl)
            rintro e wb ⟨rfl, hbb⟩
            have HB9 : Hid (Below wa.heap.size wa wb) := HB8.out.trans (hbb.mono HB8.out.size)
            clear hbb
            refine ⟨_, rfl, ⟨⟨_, HB9.out⟩, rfl⟩, ?_⟩
            simp only [Act.put, List.setIfInBounds_toArray, List.set_cons_zero, List.set_cons_succ]
            (repeat (first | (with_reducible refine mix_read (by kernel_rfl) ?_; go_big_quiet_want; go_big_quiet_op; go_big_quiet_on; with_reducible refine wpQuiet_nil ?_) | (with_reducible refine mix_pass (by kernel_rfl) ?_; go_big_quiet_skip; with_reducible refine wpQuiet_nil ?_)))
            with_reducible refine mix_call (by kernel_rfl) (by kernel_rfl) ((hold_l w _ kb _ 1 (HKA.out.step HB9.out) (0) (by decide +kernel)).mono ?_) (by kernel_rfl)
            rintro e wc ⟨rfl, hbb⟩
            have HBc : Hid (Below wa.heap.size wa wc) := HB9.out.trans (hbb.mono HB9.out.size)
            clear hbb
            refine ⟨_, rfl, ⟨⟨_, HBc.out⟩, rfl⟩, ?_⟩
            simp only [Act.put, List.setIfInBounds_toArray, List.set_cons_zero, List.set_cons_succ]
            (repeat (first | (with_reducible refine mix_read (by kernel_rfl) ?_; go_big_quiet_want; go_big_quiet_op; go_big_quiet_on; with_reducible refine wpQuiet_nil ?_) | (with_reducible refine mix_pass (by kernel_rfl) ?_; go_big_quiet_skip; with_reducible refine wpQuiet_nil ?_)))
            with_reducible refine mix_end ?_
            intro _
            clear f0 f1 f2 f3 f4 f5
            go_wp2
            go_roundg (7 - (1 + 1))
            case rel => exact ⟨1 + 1, rfl, by go_num, by omega, HKA.out.step HBc.out, HTA.out.trans (TC.of_below HBc.out)⟩
            case measure => omega
          · have HKk : Hid (LkL w wr kb [(3, 0, 0, true), idleS]) := HKR2.out
            have s0 : wr.cell? ⟨w6.heap.size, 2, none⟩ = some (.int .i64 3) := by have := HT.out.blk HS0.out (by decide); simp [World.cell?, this]
            go_wp2_with fail
            clear s0
            refine (at_any 3 1 wr (by omega)).mono ?_
            rintro e w8 ⟨v8, rfl, hi, hb⟩
            have HIw8 : Hid (InNew w8 v8 (bitsF 3) [1] ∧ Below wr.heap.size wr w8) := ⟨hi, hb⟩
            clear hi hb
            have D := cyc_l w w8 kb _ v8 (bitsF 3) [1] (HKk.out.step HIw8.out.2) HIw8.out.1 (by simp) [(3, 0, 0, true), idleS] [0] [false, false, false] (by decide +kernel) ⟨_, _, rfl, by decide, by decide⟩
            go_wp2_with fail
            refine D.mono ?_
            rintro e w9 ⟨b1, b2, rfl, ho, hk, hc⟩
            have HKw9 : Hid (LkL w w9 kb [(3, 0, 0, true), idleS]) := hk
            have HOw9 : Hid (OutAt w9 w8.heap.size b1 b2 [0] [false, false, false]) := ho
            have HCw9 : Hid (TC w8 w9) := hc
            clear D hk ho hc
            generalize hch : w9.alloc (.cells #[.slice (some ⟨b1, 0, none⟩) 1 1, .slice (some ⟨b2, 0, none⟩) 3 3] 41) = wa
            have HBwa : Hid (Below w9.heap.size w9 wa) := by show Below _ _ _; rw [← hch]; exact (Below.refl _ _).alloc (Nat.le_refl _) _
            have HXwa : Hid (wa.heap[w9.heap.size]? = some (.cells #[.slice (some ⟨b1, 0, none⟩) 1 1, .slice (some ⟨b2, 0, none⟩) 3 3] 41 (0, 0))) := by show _ = _; rw [← hch]; exact blk_new _ _
            have HTA : Hid (TC w7 wa) := ((HT.out.trans (TC.of_below HIw8.out.2)).trans HCw9.out).trans (TC.of_below HBwa.out)
            have HKA : Hid (LkL w wa kb [(3, 0, 0, true), idleS]) := HKw9.out.step HBwa.out
            obtain ⟨y0, y1⟩ := cells2 HXwa.out
            have z1 := ((HOw9.out.below HBwa.out).cell2 (p := 0) rfl).1
            have t0 : wa.cell? ⟨w6.heap.size + 1 + 1 + 1 + 1 + 1 + 1 + 1 + 1, 2, none⟩ = some (.slice (some ⟨w6.heap.size + 1 + 1 + 1, 0, none⟩) 2 2) := by have := HTA.out.blk HH0.out (by decide); simp [World.cell?, this]
            obtain ⟨t1, t2⟩ := cells2 (HTA.out.blk HR2.out (by decide))
            go_wp2_with fail
            clear hch
            have f0 := ext_cell y0
            have f1 := ext_cell y1
            have f2 := ext_cell z1
            have f3 := ext_cell t0
            have f4 := ext_cell t1
            have f5 := ext_cell t2
            haveI := ext_some wa
            have HB8 : Hid (Below wa.heap.size wa wa.drew) := (Below.refl _ _).drew
            clear y0 y1 z1 t0 t1 t2
            refine wp_region_mix_seq (C := fun W => ∃ y : Ext wa, W = y.z) [0, 1, 2, 3, 4, 5, 6, 7, 8, 9, 10, 11, 13, 14, 15, 16, 17, 18, 12, 19, 20, 21, 22, 24, 25, 26, 27, 28, 29, 23, 30, 31] (by kernel_rfl) (by kernel_rfl) (by kernel_rfl) (by kernel_rfl) (by simp only [List.filterMap_cons, List.getElem?_toArray, List.getElem?_cons_zero, List.getElem?_cons_succ, List.filterMap_nil]; rfl) ⟨⟨_, (Below.refl _ _).drew⟩, rfl⟩ ?_
            (repeat (first | (with_reducible refine mix_read (by kernel_rfl) ?_; go_big_quiet_want; go_big_quiet_op; go_big_quiet_on; with_reducible refine wpQuiet_nil ?_) | (with_reducible refine mix_pass (by kernel_rfl) ?_; go_big_quiet_skip; with_reducible refine wpQuiet_nil ?_)))
            with_reducible refine mix_call (by kernel_rfl) (by kernel_rfl) ((hold_l w _ kb _ 0 (HKA.out.step HB8.out) (0) (by decide +kernel)).mono ?_) (by kernel_rfl)
            rintro e wb ⟨rfl, hbb⟩
            have HB9 : Hid (Below wa.heap.size wa wb) := HB8.out.trans (hbb.mono HB8.out.size)
            clear hbb
            refine ⟨_, rfl, ⟨⟨_, HB9.out⟩, rfl⟩, ?_⟩
            simp only [Act.put, List.setIfInBounds_toArray, List.set_cons_zero, List.set_cons_succ]
            (repeat (first | (with_reducible refine mix_read (by kernel_rfl) ?_; go_big_quiet_want; go_big_quiet_op; go_big_quiet_on; with_reducible refine wpQuiet_nil ?_) | (with_reducible refine mix_pass (by kernel_rfl) ?_; go_big_quiet_skip; with_reducible refine wpQuiet_nil ?_)))
            with_reducible refine mix_call (by kernel_rfl) (by kernel_rfl) ((hold_l w _ kb _ 1 (HKA.out.step HB9.out) (0) (by decide +kernel)).mono ?_) (by kernel_rfl)
            rintro e wc ⟨rfl, hbb⟩
            have HBc : Hid (Below wa.heap.size wa wc) := HB9.out.trans (hbb.mono HB9.out.size)
            clear hbb
            refine ⟨_, rfl, ⟨⟨_, HBc.out⟩, rfl⟩, ?_⟩
            simp only [Act.put, List.setIfInBounds_toArray, List.set_cons_zero, List.set_cons_succ]
            (repeat (first | (with_reducible refine mix_read (by kernel_rfl) ?_; go_big_quiet_want; go_big_quiet_op; go_big_quiet_on; with_reducible refine wpQuiet_nil ?_) | (with_reducible refine mix_pass (by kernel_rfl) ?_; go_big_quiet_skip; with_reducible refine wpQuiet_nil ?_)))
            with_reducible refine mix_end ?_
            intro _
            clear f0 f1 f2 f3 f4 f5
            go_wp2
            go_roundg (7 - (2 + 1))
            case rel => exact ⟨2 + 1, rfl, by go_num, by omega, HKA.out.step HBc.out, HTA.out.trans (TC.of_below HBc.out)⟩
            case measure => omega
          · have HKk : Hid (LkL w wr kb [(3, 0, 0, true), idleS]) := HKR2.out
            have s0 : wr.cell? ⟨w6.heap.size, 3, none⟩ = some (.int .i64 2) := by have := HT.out.blk HS0.out (by decide); simp [World.cell?, this]
            go_wp2_with fail
            clear s0
            refine (at_any 2 1 wr (by omega)).mono ?_
            rintro e w8 ⟨v8, rfl, hi, hb⟩
            have HIw8 : Hid (InNew w8 v8 (bitsF 2) [1] ∧ Below wr.heap.size wr w8) := ⟨hi, hb⟩
            clear hi hb
            have D := cyc_l w w8 kb _ v8 (bitsF 2) [1] (HKk.out.step HIw8.out.2) HIw8.out.1 (by simp) [(3, 0, 1, false), idleS] [0] [false, false, false] (by decide +kernel) ⟨_, _, rfl, by decide, by decide⟩
            go_wp2_with fail
            refine D.mono ?_
            rintro e w9 ⟨b1, b2, rfl, ho, hk, hc⟩
            have HKw9 : Hid (LkL w w9 kb [(3, 0, 1, false), idleS]) := hk
            have HOw9 : Hid (OutAt w9 w8.heap.size b1 b2 [0] [false, false, false]) := ho
            have HCw9 : Hid (TC w8 w9) := hc
            clear D hk ho hc
            generalize hch : w9.alloc (.cells #[.slice (some ⟨b1, 0, none⟩) 1 1, .slice (some ⟨b2, 0, none⟩) 3 3] 41) = wa
            have HBwa : Hid (Below w9.heap.size w9 wa) := by show Below _ _ _; rw [← hch]; exact (Below.refl _ _).alloc (Nat.le_refl _) _
            have HXwa : Hid (wa.heap[w9.heap.size]? = some (.cells #[.slice (some ⟨b1, 0, none⟩) 1 1, .slice (some ⟨b2, 0, none⟩) 3 3] 41 (0, 0))) := by show _ = _; rw [← hch]; exact blk_new _ _
            have HTA : Hid (TC w7 wa) := ((HT.out.trans (TC.of_below HIw8.out.2)).trans HCw9.out).trans (TC.of_below HBwa.out)
            have HKA : Hid (LkL w wa kb [(3, 0, 1, false), idleS]) := HKw9.out.step HBwa.out
            obtain ⟨y0, y1⟩ := cells2 HXwa.out
            have z1 := ((HOw9.out.below HBwa.out).cell2 (p := 0) rfl).1
            have t0 : wa.cell? ⟨w6.heap.size + 1 + 1 + 1 + 1 + 1 + 1 + 1 + 1, 3, none⟩ = some (.slice (some ⟨w6.heap.size + 1 + 1 + 1 + 1, 0, none⟩) 2 2) := by have := HTA.out.blk HH0.out (by decide); simp [World.cell?, this]
            obtain ⟨t1, t2⟩ := cells2 (HTA.out.blk HR3.out (by decide))
            go_wp2_with fail
            clear hch
            have f0 := ext_cell y0
            have f1 := ext_cell y1
            have f2 := ext_cell z1
            have f3 := ext_cell t0
            have f4 := ext_cell t1
            have f5 := ext_cell t2
            haveI := ext_some wa
            have HB8 : Hid (Below wa.heap.size wa wa.drew) := (Below.refl _ _).drew
            clear y0 y1 z1 t0 t1 t2
            refine wp_region_mix_seq (C := fun W => ∃ y : Ext wa, W = y.z) [0, 1, 2, 3, 4, 5, 6, 7, 8, 9, 10, 11, 13, 14, 15, 16, 17, 18, 12, 19, 20, 21, 22, 24, 25, 26, 27, 28, 29, 23, 30, 31] (by kernel_rfl) (by kernel_rfl) (by kernel_rfl) (by kernel_rfl) (by simp only [List.filterMap_cons, List.getElem?_toArray, List.getElem?_cons_zero, List.getElem?_cons_succ, List.filterMap_nil]; rfl) ⟨⟨_, (Below.refl _ _).drew⟩, rfl⟩ ?_
            (repeat (first | (with_reducible refine mix_read (by kernel_rfl) ?_; go_big_quiet_want; go_big_quiet_op; go_big_quiet_on; with_reducible refine wpQuiet_nil ?_) | (with_reducible refine mix_pass (by kernel_rfl) ?_; go_big_quiet_skip; with_reducible refine wpQuiet_nil ?_)))
            with_reducible refine mix_call (by kernel_rfl) (by kernel_rfl) ((hold_l w _ kb _ 0 (HKA.out.step HB8.out) (-1) (by decide +kernel)).mono ?_) (by kernel_rfl)
            rintro e wb ⟨rfl, hbb⟩
            have HB9 : Hid (Below wa.heap.size wa wb) := HB8.out.trans (hbb.mono HB8.out.size)
            clear hbb
            refine ⟨_, rfl, ⟨⟨_, HB9.out⟩, rfl⟩, ?_⟩
            simp only [Act.put, List.setIfInBounds_toArray, List.set_cons_zero, List.set_cons_succ]
            (repeat (first | (with_reducible refine mix_read (by kernel_rfl) ?_; go_big_quiet_want; go_big_quiet_op; go_big_quiet_on; with_reducible refine wpQuiet_nil ?_) | (with_reducible refine mix_pass (by kernel_rfl) ?_; go_big_quiet_skip; with_reducible refine wpQuiet_nil ?_)))
            with_reducible refine mix_call (by kernel_rfl) (by kernel_rfl) ((hold_l w _ kb _ 1 (HKA.out.step HB9.out) (0) (by decide +kernel)).mono ?_) (by kernel_rfl)
            rintro e wc ⟨rfl, hbb⟩
            have HBc : Hid (Below wa.heap.size wa wc) := HB9.out.trans (hbb.mono HB9.out.size)
            clear hbb
            refine ⟨_, rfl, ⟨⟨_, HBc.out⟩, rfl⟩, ?_⟩
            simp only [Act.put, List.setIfInBounds_toArray, List.set_cons_zero, List.set_cons_succ]
            (repeat (first | (with_reducible refine mix_read (by kernel_rfl) ?_; go_big_quiet_want; go_big_quiet_op; go_big_quiet_on; with_reducible refine wpQuiet_nil ?_) | (with_reducible refine mix_pass (by kernel_rfl) ?_; go_big_quiet_skip; with_reducible refine wpQuiet_nil ?_)))
            with_reducible refine mix_end ?_
            intro _
            clear f0 f1 f2 f3 f4 f5
            go_wp2
            go_roundg (7 - (3 + 1))
            case rel => exact ⟨3 + 1, rfl, by go_num, by omega, HKA.out.step HBc.out, HTA.out.trans (TC.of_below HBc.out)⟩
            case measure => omega
          · have HKk : Hid (LkL w wr kb [(3, 0, 1, false), idleS]) := HKR2.out
            have s0 : wr.cell? ⟨w6.heap.size, 4, none⟩ = some (.int .i64 2) := by have := HT.out.blk HS0.out (by decide); simp [World.cell?, this]
            go_wp2_with fail
            clear s0
            refine (at_any 2 1 wr (by omega)).mono ?_
            rintro e w8 ⟨v8, rfl, hi, hb⟩
            have HIw8 : Hid (InNew w8 v8 (bitsF 2) [1] ∧ Below wr.heap.size wr w8) := ⟨hi, hb⟩
            clear hi hb
            have D := cyc_l w w8 kb _ v8 (bitsF 2) [1] (HKk.out.step HIw8.out.2) HIw8.out.1 (by simp) [(3, 0, 1, true), idleS] [0] [false, false, false] (by decide +kernel) ⟨_, _, rfl, by decide, by decide⟩
            go_wp2_with fail
            refine D.mono ?_
            rintro e w9 ⟨b1, b2, rfl, ho, hk, hc⟩
            have HKw9 : Hid (LkL w w9 kb [(3, 0, 1, true), idleS]) := hk
            have HOw9 : Hid (OutAt w9 w8.heap.size b1 b2 [0] [false, false, false]) := ho
            have HCw9 : Hid (TC w8 w9) := hc
            clear D hk ho hc
            generalize hch : w9.alloc (.cells #[.slice (some ⟨b1, 0, none⟩) 1 1, .slice (some ⟨b2, 0, none⟩) 3 3] 41) = wa
            have HBwa : Hid (Below w9.heap.size w9 wa) := by show Below _ _ _; rw [← hch]; exact (Below.refl _ _).alloc (Nat.le_refl _) _
            have HXwa : Hid (wa.heap[w9.heap.size]? = some (.cells #[.slice (some ⟨b1, 0, none⟩) 1 1, .slice (some ⟨b2, 0, none⟩) 3 3] 41 (0, 0))) := by show _ = _; rw [← hch]; exact blk_new _ _
            have HTA : Hid (TC w7 wa) := ((HT.out.trans (TC.of_below HIw8.out.2)).trans HCw9.out).trans (TC.of_below HBwa.out)
            have HKA : Hid (LkL w wa kb [(3, 0, 1, true), idleS]) := HKw9.out.step HBwa.out
            obtain ⟨y0, y1⟩ := cells2 HXwa.out
            have z1 := ((HOw9.out.below HBwa.out).cell2 (p := 0) rfl).1
            have t0 : wa.cell? ⟨w6.heap.size + 1 + 1 + 1 + 1 + 1 + 1 + 1 + 1, 4, none⟩ = some (.slice (some ⟨w6.heap.size + 1 + 1 + 1 + 1 + 1, 0, none⟩) 2 2) := by have := HTA.out.blk HH0.out (by decide); simp [World.cell?, this]
            obtain ⟨t1, t2⟩ := cells2 (HTA.out.blk HR4.out (by decide))
            go_wp2_with fail
            clear hch
            have f0 := ext_cell y0
            have f1 := ext_cell y1
            have f2 := ext_cell z1
            have f3 := ext_cell t0
            have f4 := ext_cell t1
            have f5 := ext_cell t2
            haveI := ext_some wa
            have HB8 : Hid (Below wa.heap.size wa wa.drew) := (Below.refl _ _).drew
            clear y0 y1 z1 t0 t1 t2
            refine wp_region_mix_seq (C := fun W => ∃ y : Ext wa, W = y.z) [0, 1, 2, 3, 4, 5, 6, 7, 8, 9, 10, 11, 13, 14, 15, 16, 17, 18, 12, 19, 20, 21, 22, 24, 25, 26, 27, 28, 29, 23, 30, 31] (by kernel_rfl) (by kernel_rfl) (by kernel_rfl) (by kernel_rfl) (by simp only [List.filterMap_cons, List.getElem?_toArray, List.getElem?_cons_zero, List.getElem?_cons_succ, List.filterMap_nil]; rfl) ⟨⟨_, (Below.refl _ _).drew⟩, rfl⟩ ?_
            (repeat (first | (with_reducible refine mix_read (by kernel_rfl) ?_; go_big_quiet_want; go_big_quiet_op; go_big_quiet_on; with_reducible refine wpQuiet_nil ?_) | (with_reducible refine mix_pass (by kernel_rfl) ?_; go_big_quiet_skip; with_reducible refine wpQuiet_nil ?_)))
            with_reducible refine mix_call (by kernel_rfl) (by kernel_rfl) ((hold_l w _ kb _ 0 (HKA.out.step HB8.out) (-1) (by decide +kernel)).mono ?_) (by kernel_rfl)
            rintro e wb ⟨rfl, hbb⟩
            have HB9 : Hid (Below wa.heap.size wa wb) := HB8.out.trans (hbb.mono HB8.out.size)
            clear hbb
            refine ⟨_, rfl, ⟨⟨_, HB9.out⟩, rfl⟩, ?_⟩
            simp only [Act.put, List.setIfInBounds_toArray, List.set_cons_zero, List.set_cons_succ]
            (repeat (first | (with_reducible refine mix_read (by kernel_rfl) ?_; go_big_quiet_want; go_big_quiet_op; go_big_quiet_on; with_reducible refine wpQuiet_nil ?_) | (with_reducible refine mix_pass (by kernel_rfl) ?_; go_big_quiet_skip; with_reducible refine wpQuiet_nil ?_)))
            with_reducible refine mix_call (by kernel_rfl) (by kernel_rfl) ((hold_l w _ kb _ 1 (HKA.out.step HB9.out) (0) (by decide +kernel)).mono ?_) (by kernel_rfl)
            rintro e wc ⟨rfl, hbb⟩
            have HBc : Hid (Below wa.heap.size wa wc) := HB9.out.trans (hbb.mono HB9.out.size)
            clear hbb
            refine ⟨_, rfl, ⟨⟨_, HBc.out⟩, rfl⟩, ?_⟩
            simp only [Act.put, List.setIfInBounds_toArray, List.set_cons_zero, List.set_cons_succ]
            (repeat (first | (with_reducible refine mix_read (by kernel_rfl) ?_; go_big_quiet_want; go_big_quiet_op; go_big_quiet_on; with_reducible refine wpQuiet_nil ?_) | (with_reducible refine mix_pass (by kernel_rfl) ?_; go_big_quiet_skip; with_reducible refine wpQuiet_nil ?_)))
            with_reducible refine mix_end ?_
            intro _
            clear f0 f1 f2 f3 f4 f5
            go_wp2
            go_roundg (7 - (4 + 1))
            case rel => exact ⟨4 + 1, rfl, by go_num, by omega, HKA.out.step HBc.out, HTA.out.trans (TC.of_below HBc.out)⟩
            case measure => omega
          · have HKk : Hid (LkL w wr kb [(3, 0, 1, true), idleS]) := HKR2.out
            have s0 : wr.cell? ⟨w6.heap.size, 5, none⟩ = some (.int .i64 0) := by have := HT.out.blk HS0.out (by decide); simp [World.cell?, this]
            go_wp2_with fail
            clear s0
            refine (at_any 0 1 wr (by omega)).mono ?_
            rintro e w8 ⟨v8, rfl, hi, hb⟩
            have HIw8 : Hid (InNew w8 v8 (bitsF 0) [1] ∧ Below wr.heap.size wr w8) := ⟨hi, hb⟩
            clear hi hb
            have D := cyc_l w w8 kb _ v8 (bitsF 0) [1] (HKk.out.step HIw8.out.2) HIw8.out.1 (by simp) [idleS, idleS] [0] [false, false, false] (by decide +kernel) ⟨_, _, rfl, by decide, by decide⟩
            go_wp2_with fail
            refine D.mono ?_
            rintro e w9 ⟨b1, b2, rfl, ho, hk, hc⟩
            have HKw9 : Hid (LkL w w9 kb [idleS, idleS]) := hk
            have HOw9 : Hid (OutAt w9 w8.heap.size b1 b2 [0] [false, false, false]) := ho
            have HCw9 : Hid (TC w8 w9) := hc
            clear D hk ho hc
            generalize hch : w9.alloc (.cells #[.slice (some ⟨b1, 0, none⟩) 1 1, .slice (some ⟨b2, 0, none⟩) 3 3] 41) = wa
            have HBwa : Hid (Below w9.heap.size w9 wa) := by show Below _ _ _; rw [← hch]; exact (Below.refl _ _).alloc (Nat.le_refl _) _
            have HXwa : Hid (wa.heap[w9.heap.size]? = some (.cells #[.slice (some ⟨b1, 0, none⟩) 1 1, .slice (some ⟨b2, 0, none⟩) 3 3] 41 (0, 0))) := by show _ = _; rw [← hch]; exact blk_new _ _
            have HTA : Hid (TC w7 wa) := ((HT.out.trans (TC.of_below HIw8.out.2)).trans HCw9.out).trans (TC.of_below HBwa.out)
            have HKA : Hid (LkL w wa kb [idleS, idleS]) := HKw9.out.step HBwa.out
            obtain ⟨y0, y1⟩ := cells2 HXwa.out
            have z1 := ((HOw9.out.below HBwa.out).cell2 (p := 0) rfl).1
            have t0 : wa.cell? ⟨w6.heap.size + 1 + 1 + 1 + 1 + 1 + 1 + 1 + 1, 5, none⟩ = some (.slice (some ⟨w6.heap.size + 1 + 1 + 1 + 1 + 1 + 1, 0, none⟩) 2 2) := by have := HTA.out.blk HH0.out (by decide); simp [World.cell?, this]
            obtain ⟨t1, t2⟩ := cells2 (HTA.out.blk HR5.out (by decide))
            go_wp2_with fail
            clear hch
            have f0 := ext_cell y0
            have f1 := ext_cell y1
            have f2 := ext_cell z1
            have f3 := ext_cell t0
            have f4 := ext_cell t1
            have f5 := ext_cell t2
            haveI := ext_some wa
            have HB8 : Hid (Below wa.heap.size wa wa.drew) := (Below.refl _ _).drew
            clear y0 y1 z1 t0 t1 t2
            refine wp_region_mix_seq (C := fun W => ∃ y : Ext wa, W = y.z) [0, 1, 2, 3, 4, 5, 6, 7, 8, 9, 10, 11, 13, 14, 15, 16, 17, 18, 12, 19, 20, 21, 22, 24, 25, 26, 27, 28, 29, 23, 30, 31] (by kernel_rfl) (by kernel_rfl) (by kernel_rfl) (by kernel_rfl) (by simp only [List.filterMap_cons, List.getElem?_toArray, List.getElem?_cons_zero, List.getElem?_cons_succ, List.filterMap_nil]; rfl) ⟨⟨_, (Below.refl _ _).drew⟩, rfl⟩ ?_
            (repeat (first | (with_reducible refine mix_read (by kernel_rfl) ?_; go_big_quiet_want; go_big_quiet_op; go_big_quiet_on; with_reducible refine wpQuiet_nil ?_) | (with_reducible refine mix_pass (by kernel_rfl) ?_; go_big_quiet_skip; with_reducible refine wpQuiet_nil ?_)))
            with_reducible refine mix_call (by kernel_rfl) (by kernel_rfl) ((hold_l w _ kb _ 0 (HKA.out.step HB8.out) (-1) (by decide +kernel)).mono ?_) (by kernel_rfl)
            rintro e wb ⟨rfl, hbb⟩
            have HB9 : Hid (Below wa.heap.size wa wb) := HB8.out.trans (hbb.mono HB8.out.size)
            clear hbb
            refine ⟨_, rfl, ⟨⟨_, HB9.out⟩, rfl⟩, ?_⟩
            simp only [Act.put, List.setIfInBounds_toArray, List.set_cons_zero, List.set_cons_succ]
            (repeat (first | (with_reducible refine mix_read (by kernel_rfl) ?_; go_big_quiet_want; go_big_quiet_op; go_big_quiet_on; with_reducible refine wpQuiet_nil ?_) | (with_reducible refine mix_pass (by kernel_rfl) ?_; go_big_quiet_skip; with_reducible refine wpQuiet_nil ?_)))
            with_reducible refine mix_call (by kernel_rfl) (by kernel_rfl) ((hold_l w _ kb _ 1 (HKA.out.step HB9.out) (-1) (by decide +kernel)).mono ?_) (by kernel_rfl)
            rintro e wc ⟨rfl, hbb⟩
            have HBc : Hid (Below wa.heap.size wa wc) := HB9.out.trans (hbb.mono HB9.out.size)
            clear hbb
            refine ⟨_, rfl, ⟨⟨_, HBc.out⟩, rfl⟩, ?_⟩
            simp only [Act.put, List.setIfInBounds_toArray, List.set_cons_zero, List.set_cons_succ]
            (repeat (first | (with_reducible refine mix_read (by kernel_rfl) ?_; go_big_quiet_want; go_big_quiet_op; go_big_quiet_on; with_reducible refine wpQuiet_nil ?_) | (with_reducible refine mix_pass (by kernel_rfl) ?_; go_big_quiet_skip; with_reducible refine wpQuiet_nil ?_)))
            with_reducible refine mix_end ?_
            intro _
            clear f0 f1 f2 f3 f4 f5
            go_wp2
            go_roundg (7 - (5 + 1))
            case rel => exact ⟨5 + 1, rfl, by go_num, by omega, HKA.out.step HBc.out, HTA.out.trans (TC.of_below HBc.out)⟩
            case measure => omega
          · have HKk : Hid (LkL w wr kb [idleS, idleS]) := HKR2.out
            have s0 : wr.cell? ⟨w6.heap.size, 6, none⟩ = some (.int .i64 0) := by have := HT.out.blk HS0.out (by decide); simp [World.cell?, this]
            go_wp2_with fail
            clear s0
            refine (at_any 0 1 wr (by omega)).mono ?_
            rintro e w8 ⟨v8, rfl, hi, hb⟩
            have HIw8 : Hid (InNew w8 v8 (bitsF 0) [1] ∧ Below wr.heap.size wr w8) := ⟨hi, hb⟩
            clear hi hb
            have D := cyc_l w w8 kb _ v8 (bitsF 0) [1] (HKk.out.step HIw8.out.2) HIw8.out.1 (by simp) [idleS, idleS] [0] [false, false, false] (by decide +kernel) ⟨_, _, rfl, by decide, by decide⟩
            go_wp2_with fail
            refine D.mono ?_
            rintro e w9 ⟨b1, b2, rfl, ho, hk, hc⟩
            have HKw9 : Hid (LkL w w9 kb [idleS, idleS]) := hk
            have HOw9 : Hid (OutAt w9 w8.heap.size b1 b2 [0] [false, false, false]) := ho
            have HCw9 : Hid (TC w8 w9) := hc
            clear D hk ho hc
            generalize hch : w9.alloc (.cells #[.slice (some ⟨b1, 0, none⟩) 1 1, .slice (some ⟨b2, 0, none⟩) 3 3] 41) = wa
            have HBwa : Hid (Below w9.heap.size w9 wa) := by show Below _ _ _; rw [← hch]; exact (Below.refl _ _).alloc (Nat.le_refl _) _
            have HXwa : Hid (wa.heap[w9.heap.size]? = some (.cells #[.slice (some ⟨b1, 0, none⟩) 1 1, .slice (some ⟨b2, 0, none⟩) 3 3] 41 (0, 0))) := by show _ = _; rw [← hch]; exact blk_new _ _
            have HTA : Hid (TC w7 wa) := ((HT.out.trans (TC.of_below HIw8.out.2)).trans HCw9.out).trans (TC.of_below HBwa.out)
            have HKA : Hid (LkL w wa kb [idleS, idleS]) := HKw9.out.step HBwa.out
            obtain ⟨y0, y1⟩ := cells2 HXwa.out
            have z1 := ((HOw9.out.below HBwa.out).cell2 (p := 0) rfl).1
            have t0 : wa.cell? ⟨w6.heap.size + 1 + 1 + 1 + 1 + 1 + 1 + 1 + 1, 6, none⟩ = some (.slice (some ⟨w6.heap.size + 1 + 1 + 1 + 1 + 1 + 1 + 1, 0, none⟩) 2 2) := by have := HTA.out.blk HH0.out (by decide); simp [World.cell?, this]
            obtain ⟨t1, t2⟩ := cells2 (HTA.out.blk HR6.out (by decide))
            go_wp2_with fail
            clear hch
            have f0 := ext_cell y0
            have f1 := ext_cell y1
            have f2 := ext_cell z1
            have f3 := ext_cell t0
            have f4 := ext_cell t1
            have f5 := ext_cell t2
            haveI := ext_some wa
            have HB8 : Hid (Below wa.heap.size wa wa.drew) := (Below.refl _ _).drew
            clear y0 y1 z1 t0 t1 t2
            refine wp_region_mix_seq (C := fun W => ∃ y : Ext wa, W = y.z) [0, 1, 2, 3, 4, 5, 6, 7, 8, 9, 10, 11, 13, 14, 15, 16, 17, 18, 12, 19, 20, 21, 22, 24, 25, 26, 27, 28, 29, 23, 30, 31] (by kernel_rfl) (by kernel_rfl) (by kernel_rfl) (by kernel_rfl) (by simp only [List.filterMap_cons, List.getElem?_toArray, List.getElem?_cons_zero, List.getElem?_cons_succ, List.filterMap_nil]; rfl) ⟨⟨_, (Below.refl _ _).drew⟩, rfl⟩ ?_
            (repeat (first | (with_reducible refine mix_read (by kernel_rfl) ?_; go_big_quiet_want; go_big_quiet_op; go_big_quiet_on; with_reducible refine wpQuiet_nil ?_) | (with_reducible refine mix_pass (by kernel_rfl) ?_; go_big_quiet_skip; with_reducible refine wpQuiet_nil ?_)))
            with_reducible refine mix_call (by kernel_rfl) (by kernel_rfl) ((hold_l w _ kb _ 0 (HKA.out.step HB8.out) (-1) (by decide +kernel)).mono ?_) (by kernel_rfl)
            rintro e wb ⟨rfl, hbb⟩
            have HB9 : Hid (Below wa.heap.size wa wb) := HB8.out.trans (hbb.mono HB8.out.size)
            clear hbb
            refine ⟨_, rfl, ⟨⟨_, HB9.out⟩, rfl⟩, ?_⟩
            simp only [Act.put, List.setIfInBounds_toArray, List.set_cons_zero, List.set_cons_succ]
            (repeat (first | (with_reducible refine mix_read (by kernel_rfl) ?_; go_big_quiet_want; go_big_quiet_op; go_big_quiet_on; with_reducible refine wpQuiet_nil ?_) | (with_reducible refine mix_pass (by kernel_rfl) ?_; go_big_quiet_skip; with_reducible refine wpQuiet_nil ?_)))
            with_reducible refine mix_call (by kernel_rfl) (by kernel_rfl) ((hold_l w _ kb _ 1 (HKA.out.step HB9.out) (-1) (by decide +kernel)).mono ?_) (by kernel_rfl)
            rintro e wc ⟨rfl, hbb⟩
            have HBc : Hid (Below wa.heap.size wa wc) := HB9.out.trans (hbb.mono HB9.out.size)
            clear hbb
            refine ⟨_, rfl, ⟨⟨_, HBc.out⟩, rfl⟩, ?_⟩
            simp only [Act.put, List.setIfInBounds_toArray, List.set_cons_zero, List.set_cons_succ]
            (repeat (first | (with_reducible refine mix_read (by kernel_rfl) ?_; go_big_quiet_want; go_big_quiet_op; go_big_quiet_on; with_reducible refine wpQuiet_nil ?_) | (with_reducible refine mix_pass (by kernel_rfl) ?_; go_big_quiet_skip; with_reducible refine wpQuiet_nil ?_)))
            with_reducible refine mix_end ?_
            intro _
            clear f0 f1 f2 f3 f4 f5
            go_wp2
            go_roundg (7 - (6 + 1))
            case rel => exact ⟨6 + 1, rfl, by go_num, by omega, HKA.out.step HBc.out, HTA.out.trans (TC.of_below HBc.out)⟩
            case measure => omega
        · have hk7 : k = 7 := by omega
          subst hk7
          have HKk : Hid (LkL w wr kb [idleS, idleS]) := HKR2.out
          have D := routes_l w wr kb _ HKk.out
          go_wp2_with fail
          refine D.mono ?_
          rintro e w8 ⟨g, c, rfl, hr, hb8⟩
          clear D
          have HK8 : Hid (LkL w w8 kb [idleS, idleS]) := HKk.out.step hb8
          obtain ⟨g', f', e6, r0, -, -, -⟩ := row_st hr 0 idleS rfl
          injection e6 with e6
          injection e6 with e61 e62
          subst e61 e62
          simp only [Nat.zero_mul, Nat.add_zero, idleS] at r0
          clear hr hb8
          go_wp2_with fail
          refine (known_any _).mono ?_
          rintro e w9 ⟨rfl, hb9⟩
          go_wp2
          go_ret
          exact ⟨rfl, HK8.out.bl.trans (hb9.mono HK8.out.bl.size)⟩

theorem own : ownKnob Try.prog.godebug = none := by kernel_rfl

set_option maxRecDepth 100000 in
theorem lifted (os : Os) (started : os.Started) (H : Type) (enc : TypeId × Value → H) :
    ReturnsInHanded {} Try.checked os 3 .any (Rows.lockRunsSpec.pre6 enc Try.prog Try.f3 Rows.lockRunsRow.domain false) (Rows.lockRunsSpec.post enc Try.prog Try.f3 false true false false) := by
  refine returnsInHanded_of_change (C := Try.checked) own started (by kernel_rfl) Try.func3
    (ChangeSpec.witness6 (enc := enc) (C := Try.checked) false ⟨#[], #[.int .i64 0], []⟩ 8 (by kernel_rfl) (by kernel_rfl) (by kernel_rfl) (by kernel_rfl)) ?_
  intro W base args ds gs before hval0 hW _ _
  have hval : ∀ (j : Nat) t v, Try.f3.params[j]? = some t → args[j]? = some v → Value.okWide Try.prog W .any base t v := hval0
  have hW' := hW
  obtain ⟨p, q, hA0, hV, rfl, _, _⟩ := hW
  have hA : DataW.TrodAll enc Try.prog W 0 (fun _ => true) true Try.f3.params.toList args.toList ds p := hA0
  rw [Try.params3] at hA hval
  obtain ⟨v0, vs0, d0, ds0, p0, q0, hargs, rfl, rfl, h0, r0⟩ := trodAll_cons hA
  obtain ⟨rfl, rfl, rfl⟩ := trodAll_nil r0
  obtain rfl : args = #[v0] := by cases args; simp_all
  obtain ⟨rfl, rfl⟩ := trodVars_none hV
  obtain ⟨a0, rfl, rfl, rfl, w0⟩ := open_int Try.underlying3 (hval 0 3 v0 rfl rfl) h0
  clear hA0 hval0
  refine (walk a0 w0 W).mono fun e W' ⟨he, bel⟩ => ?_
  subst he
  exact ⟨_, rfl, _, _, _, [], _, [], hW', trodAll_mk1 (shut_bool Try.underlying4 _), (trodAll_cons_mk (shut_int Try.underlying3 w0) trodAll_mk0), rfl, bel.frame _, fun h => by cases h⟩

theorem over : Rows.lockRunsRow.holds Try.pinned (OpenSpec.ofChange Rows.lockRunsSpec) :=
  OpenClaim.holds_of_wide 3 Try.f3 rfl rfl rfl rfl rfl rfl rfl ⟨rfl, rfl, rfl, rfl, rfl⟩ rfl rfl rfl rfl rfl (by kernel_rfl) Try.func3 (by kernel_rfl)
    (of_decide_eq_true (by kernel_rfl)) (by unfold Func.isWrapper; first | (rw [if_pos (by decide +kernel)]; kernel_rfl) | (rw [if_neg (by decide +kernel)]; exact ⟨rfl, rfl⟩))
    (fun os started H enc _ => lifted os started H enc)

end Go.Proofs.Ytgacnebihkofcaa.lockRuns
namespace Go.Proofs.Ytgacnebihkofcaa
theorem lockRuns_holds : Rows.LockRunsSaid := lockRuns.over
#print axioms lockRuns_holds
end Go.Proofs.Ytgacnebihkofcaa
