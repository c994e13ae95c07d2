/-
  What is known of the law's layout: by a contract.
-/
import Derived.Test.YtceebimgfajbcaaGreatDoorLkAtIn
namespace Go.Proofs.YtceebimgfajbcaaGreatDoor
open Go.RowKit

set_option maxRecDepth 1000000 in
set_option maxHeartbeats 16000000 in
theorem known_any (w : World) : Calls Tryz.prog 17 #[] w fun e w' => e = .returned (.bool true) ∧ Below w.heap.size w w' := by
  go_enter Tryz.func17, Tryz.ntmps17
  go_wp2_with fail
  refine (line_any w).mono ?_
  rintro e w1 ⟨v, a, b, c, d, e', f, rfl, hL, hF, hb1⟩
  have D := new_l w w1 v a b c d e' f hL hF hb1
  clear hL hF
  go_wp2_with fail
  refine D.mono ?_
  rintro e w2 ⟨kb, rfl, hK, hb2⟩
  clear D
  have HK2 : Hid (LkL w w2 kb [idleS, idleS]) := hK
  clear hK hb1 hb2
  have MB3 : ∀ W : World, (Instr.makeSlice 35 (.int .i64 3) (.int .i64 3)).run Tryz.prog W = .ok (.slice (some ⟨W.heap.size, 0, none⟩) 3 3) (W.alloc (.cells #[.bool false, .bool false, .bool false] 4)) := fun W => mk_bool 3 (by omega) W
  generalize hch : ((w2.alloc (.cells #[.bool false, .bool false, .bool false] 4)).alloc (.cells #[.int .i64 1] 3)).alloc (.cells #[.slice (some ⟨w2.heap.size, 0, none⟩) 3 3, .slice (some ⟨w2.heap.size + 1, 0, none⟩) 1 1] 38) = w3
  have HB3 : Hid (Below w2.heap.size w2 w3) := by show Below _ _ _; rw [← hch]; exact (by repeat' (with_reducible first | exact Below.refl _ _ | refine Below.drew ?_ | refine _root_.Go.below_drewN ?_ _ | refine Below.alloc ?_ ?_ _ | refine Below.setCell ?_ ?_ _ | exact Nat.le_refl _ | (simp; done) | (simp; omega)))
  have G0 : Hid (w3.heap[w2.heap.size]? = some (.cells #[.bool false, .bool false, .bool false] 4 (0, 0))) := by show _ = _; rw [← hch]; exact blk_old (blk_old (blk_new _ _))
  have G1 : Hid (w3.heap[w2.heap.size + 1]? = some (.cells #[.int .i64 1] 3 (0, 0))) := by show _ = _; rw [← hch]; exact blk_old (blk_at1 _ _ _)
  have G2 : Hid (w3.heap[w2.heap.size + 1 + 1]? = some (.cells #[.slice (some ⟨w2.heap.size, 0, none⟩) 3 3, .slice (some ⟨w2.heap.size + 1, 0, none⟩) 1 1] 38 (0, 0))) := by show _ = _; rw [← hch]; exact blk_at2 _ _ _ _
  have HIN : Hid (InNew w3 (v4 (.slice (some ⟨w2.heap.size, 0, none⟩) 3 3) (.slice (some ⟨w2.heap.size + 1, 0, none⟩) 1 1) .nilIface .nilIface) [false, false, false] [1]) := fun W hW => ⟨row_blk (cs := bC) (fun _ => rfl) [false, false, false] (hW.blk G0.out (by decide)) rfl, row_blk (cs := iC) (fun _ => rfl) [1] (hW.blk G1.out (by decide)) rfl⟩
  have HK3 : Hid (LkL w w3 kb [idleS, idleS]) := HK2.out.step HB3.out
  obtain ⟨x0, x1⟩ := cells2 G2.out
  have D := cmd_l w w3 kb [idleS, idleS] _ [false, false, false] [1] 1 0 HK3.out HIN.out (by simp) 0 [(1, 0, 0, false), idleS] (by decide +kernel) ⟨_, _, rfl, by decide, by decide⟩
  simp only [v4] at D
  go_wp2_with fail
  clear hch MB3 x0 x1
  refine D.mono ?_
  rintro e w4 ⟨rfl, hk, hc⟩
  clear D
  have HK4 : Hid (LkL w w4 kb [(1, 0, 0, false), idleS]) := hk
  have HIN4 : Hid (InNew w4 (v4 (.slice (some ⟨w2.heap.size, 0, none⟩) 3 3) (.slice (some ⟨w2.heap.size + 1, 0, none⟩) 1 1) .nilIface .nilIface) [false, false, false] [1]) := HIN.out.step hc
  have G24 : Hid (w4.heap[w2.heap.size + 1 + 1]? = some (.cells #[.slice (some ⟨w2.heap.size, 0, none⟩) 3 3, .slice (some ⟨w2.heap.size + 1, 0, none⟩) 1 1] 38 (0, 0))) := hc.blk G2.out (by decide)
  clear hk hc
  have D := hold_l w w4 kb _ 1 HK4.out 0 (by decide +kernel)
  go_wp2_with fail
  refine D.mono ?_
  rintro e w5 ⟨rfl, hb5⟩
  clear D
  have HK5 : Hid (LkL w w5 kb [(1, 0, 0, false), idleS]) := HK4.out.step hb5
  have HIN5 : Hid (InNew w5 (v4 (.slice (some ⟨w2.heap.size, 0, none⟩) 3 3) (.slice (some ⟨w2.heap.size + 1, 0, none⟩) 1 1) .nilIface .nilIface) [false, false, false] [1]) := HIN4.out.step (TC.of_below hb5)
  have G25 : Hid (w5.heap[w2.heap.size + 1 + 1]? = some (.cells #[.slice (some ⟨w2.heap.size, 0, none⟩) 3 3, .slice (some ⟨w2.heap.size + 1, 0, none⟩) 1 1] 38 (0, 0))) := blk_below hb5 G24.out
  clear hb5
  obtain ⟨x0, x1⟩ := cells2 G25.out
  have D := cyc_l w w5 kb _ _ _ _ HK5.out HIN5.out (by simp) [(2, 0, 0, false), idleS] [0] [true, false, false] (by decide +kernel) ⟨_, _, rfl, by decide, by decide⟩
  simp only [v4] at D
  go_wp2_with fail
  refine D.mono ?_
  rintro e w6 ⟨b1, b2, rfl, ho, hk, hc⟩
  clear D x0 x1
  have HO6 : Hid (OutAt w6 w5.heap.size b1 b2 [0] [true, false, false]) := ho
  have HK6 : Hid (LkL w w6 kb [(2, 0, 0, false), idleS]) := hk
  clear ho hk hc
  generalize hch : w6.alloc (.cells #[.slice (some ⟨b1, 0, none⟩) 1 1, .slice (some ⟨b2, 0, none⟩) 3 3] 46) = w7
  have HB7 : Hid (Below w6.heap.size w6 w7) := by show Below _ _ _; rw [← hch]; exact (Below.refl _ _).alloc (Nat.le_refl _) _
  have G7 : Hid (w7.heap[w6.heap.size]? = some (.cells #[.slice (some ⟨b1, 0, none⟩) 1 1, .slice (some ⟨b2, 0, none⟩) 3 3] 46 (0, 0))) := by show _ = _; rw [← hch]; exact blk_new _ _
  have D := routes_l w w7 kb _ (HK6.out.step HB7.out)
  go_wp2_with fail
  clear hch
  refine D.mono ?_
  rintro e w8 ⟨g, c, rfl, hr, hb8⟩
  clear D
  have HK8 : Hid (LkL w w8 kb [(2, 0, 0, false), idleS]) := (HK6.out.step HB7.out).step hb8
  obtain ⟨g', f', e6, r0, -, -, -⟩ := row_st hr 0 (2, 0, 0, false) rfl
  injection e6 with e6
  injection e6 with e61 e62
  subst e61 e62
  simp only [Nat.zero_mul, Nat.add_zero] at r0
  have HO8 := (HO6.out.below HB7.out).below hb8
  obtain ⟨y0, y1⟩ := cells2 (blk_below hb8 G7.out)
  have z0 := (HO8.cell1 (p := 0) rfl).1
  have z1 := (HO8.cell2 (p := 0) rfl).1
  have z2 := (HO8.cell2 (p := 1) rfl).1
  clear hr hb8 HO8
  go_wp2
  go_ret
  exact ⟨rfl, HK8.out.bl⟩
end Go.Proofs.YtceebimgfajbcaaGreatDoor
