/-
  Of every number: LockOwn returns true.
-/
import Derived.Test.YtfgkkhcoidegdabRows
import Derived.Test.YtfgkkhcoidegdabLkKnown
import Derived.Test.YtfgkkhcoidegdabLkStand
import Derived.Test.YtfgkkhcoidegdabLyTree
import Derived.WalkKit
import Derived.ProofKit
import Derived.OpenShut
import Derived.ShutString
import Derived.ChangeOld
import Derived.Below
import Derived.SizedLaws
import Derived.PinnedBridge
import Derived.Lib.LaidU8T
import Derived.Lay
import Derived.LaidOnce
import Derived.SevenTiedAt
import Derived.Deep.DeepHandedRow
namespace Go.Proofs.Ytfgkkhcoidegdab.lockOwn
open Go.ChangeShapes Go.WideShapes Go.ChangeAt Go.RowKit

/-- How the law has all routes stand. -/
def setS : List St := [(2, 0, 0, false), idleS]
theorem set_ok : standF lineW setS = true := by decide +kernel
theorem okS_set : okS setS := ⟨_, _, rfl, by decide, by decide⟩
theorem set_l (w0 W : World) (kb : Nat) (ss : List St) (v : Value) (h : LkL w0 W kb ss) (hv : rowAt W v 4 stC setS) :
    Calls Try.prog 10 #[.pointer (some ⟨kb, 0, none⟩), v] W fun e w' => e = .returned (.bool true) ∧ (∃ u ws, LkAt w' w0.heap.size kb u 3 3 [1] ws setS ∧ ws.map (·.1) = lineW ∧ ∀ k, (u 2).ownBlock = some k → W.heap.size ≤ k) ∧ Chg (fun k => k = kb) W w' := by
  obtain ⟨u, ws, h1, h2⟩ := h.ex
  have hok := okL h.ok
  have hlen : ws.length = lineW.length := by rw [← h2, List.length_map]
  have each : ∀ x ∈ ws, x.1 ∈ lineW := fun x hx => by rw [← h2]; exact List.mem_map.2 ⟨x, hx, rfl⟩
  refine (set_yes w0.heap.size kb u 3 3 [1] ws ss setS v W h1 h.bl.size hv (fun x hx f hf => by rw [hlen]; exact hok.foes x.1 (each x hx) f hf) ⟨by rw [hlen]; simp [lineW], by simp [setS], fun x hx => ⟨(hok.ways x.1 (each x hx)).few.1, (hok.ways x.1 (each x hx)).few.2.2⟩⟩ (by rw [h2]; exact set_ok)).mono ?_
  rintro e w' ⟨u', rfl, h3, h4, h5⟩
  exact ⟨rfl, ⟨u', ws, h3, h2, h5⟩, h4⟩
theorem routes_l2 (w0 W : World) (kb : Nat) (ss : List St) (h : LkL w0 W kb ss) :
    Calls Try.prog 9 #[.pointer (some ⟨kb, 0, none⟩)] W fun e w' => ∃ g c cur, e = .returned (.slice (some ⟨g, 0, none⟩) 2 c) ∧ w'.heap[g]? = some (.cells cur 46 (0, 0)) ∧ 8 ≤ cur.size ∧ W.heap.size ≤ g ∧ Below W.heap.size W w' := by
  obtain ⟨u, ws, h1, h2⟩ := h.ex
  have hl : ss.length = 2 := by obtain ⟨s0, s1, rfl, _⟩ := h.ok; rfl
  refine (routes_any kb u 3 3 [1] ws ss W h1.rd (by omega)).mono ?_
  rintro e w' ⟨v, rfl, ho, hb⟩
  rcases ho.2 with ⟨_, h0⟩ | ⟨g, cap, cur, rfl, hg, hc, hn, _, hs, _⟩
  · omega
  · rw [hl]
    exact ⟨g, cap, cur, rfl, hc, by omega, hg, hb⟩
theorem blk_ne {W : World} {j k : Nat} {c c' : Array Value} {t t' : TypeId} {z z' : Nat × Nat} (hj : W.heap[j]? = some (.cells c t z)) (hk : W.heap[k]? = some (.cells c' t' z')) (ht : t ≠ t') : j ≠ k := fun e => by
  rw [e, hk] at hj
  injection hj with hj
  injection hj with h1 h2 h3
  exact ht h2.symm
/-- A header of which one cell reads so. -/
structure OneC (p : Addr) (v : Value) where
  z : World
  h : z.cell? p = some v
theorem heap_size_set (W : World) (a : Addr) (v : Value) : (W.setCell a v).heap.size = W.heap.size := by simp

set_option maxRecDepth 1000000 in
set_option maxHeartbeats 16000000 in
theorem walk (n : Int) (_ : (Lit.int IntKind.i64 n).wf = true) (w : World) : Calls Try.prog 3 #[.int .i64 n] w fun e w' => e = .returned (.bool true) ∧ Below w.heap.size w w' := by
  go_enter Try.func3, Try.ntmps3
  go_wp2_with fail
  refine (line_any w).mono ?_
  rintro e w1 ⟨v, a, b, c, d, e', f, rfl, hL, hF, hb1⟩
  have D := new_l w w1 v a b c d e' f hL hF hb1
  clear hL hF
  go_wp2_with fail
  refine D.mono ?_
  rintro e w2 ⟨kb, rfl, hK, hb2⟩
  clear D
  have HK2 : Hid (LkL w w2 kb [idleS, idleS]) := hK
  clear hK hb1 hb2
  go_wp2_with fail
  refine (at_any 0 1 w2 (by omega)).mono ?_
  rintro e w3 ⟨v3, rfl, hi, hb⟩
  have HIw3 : Hid (InNew w3 v3 (bitsF 0) [1] ∧ Below w2.heap.size w2 w3) := ⟨hi, hb⟩
  clear hi hb
  have D := cmd_l w w3 kb _ v3 (bitsF 0) [1] 1 0 (HK2.out.step HIw3.out.2) HIw3.out.1 (by simp) 0 [(1, 0, 0, false), idleS] (by decide +kernel) ⟨_, _, rfl, by decide, by decide⟩
  go_wp2_with fail
  refine D.mono ?_
  rintro e w4 ⟨rfl, hk, hc⟩
  have HKw4 : Hid (LkL w w4 kb [(1, 0, 0, false), idleS]) := hk
  clear D hk
  clear hc
  go_wp2_with fail
  refine (at_any 0 1 w4 (by omega)).mono ?_
  rintro e w5 ⟨v5, rfl, hi, hb⟩
  have HIw5 : Hid (InNew w5 v5 (bitsF 0) [1] ∧ Below w4.heap.size w4 w5) := ⟨hi, hb⟩
  clear hi hb
  have D := cyc_l w w5 kb _ v5 (bitsF 0) [1] (HKw4.out.step HIw5.out.2) HIw5.out.1 (by simp) [(2, 0, 0, false), idleS] [0] [true, false, false] (by decide +kernel) ⟨_, _, rfl, by decide, by decide⟩
  go_wp2_with fail
  refine D.mono ?_
  rintro e w6 ⟨b1, b2, rfl, ho, hk, hc⟩
  have HKw6 : Hid (LkL w w6 kb [(2, 0, 0, false), idleS]) := hk
  have HOw6 : Hid (OutAt w6 w5.heap.size b1 b2 [0] [true, false, false] ∧ w.heap.size ≤ w5.heap.size) := ⟨ho, (HKw4.out.step HIw5.out.2).bl.size⟩
  clear D hk ho hc
  generalize hch : w6.alloc (.cells #[.slice (some ⟨b1, 0, none⟩) 1 1, .slice (some ⟨b2, 0, none⟩) 3 3] 41) = w7
  have HB7 : Hid (Below w6.heap.size w6 w7) := by show Below _ _ _; rw [← hch]; exact (Below.refl _ _).alloc (Nat.le_refl _) _
  have G7 : Hid (w7.heap[w6.heap.size]? = some (.cells #[.slice (some ⟨b1, 0, none⟩) 1 1, .slice (some ⟨b2, 0, none⟩) 3 3] 41 (0, 0))) := by show _ = _; rw [← hch]; exact blk_new _ _
  have HK7 : Hid (LkL w w7 kb [(2, 0, 0, false), idleS]) := HKw6.out.step HB7.out
  have HO7 : Hid (OutAt w7 w5.heap.size b1 b2 [0] [true, false, false]) := HOw6.out.1.below HB7.out
  have D := routes_l2 w w7 kb _ HK7.out
  go_wp2_with fail
  clear hch
  refine D.mono ?_
  rintro e w8 ⟨g, c8, cur, rfl, hg, hcs, hge, hb8⟩
  clear D
  have HK8 : Hid (LkL w w8 kb [(2, 0, 0, false), idleS]) := HK7.out.step hb8
  have G8 : Hid (w8.heap[w6.heap.size]? = some (.cells #[.slice (some ⟨b1, 0, none⟩) 1 1, .slice (some ⟨b2, 0, none⟩) 3 3] 41 (0, 0))) := blk_below hb8 G7.out
  have HO8 : Hid (OutAt w8 w5.heap.size b1 b2 [0] [true, false, false]) := HO7.out.below hb8
  have HG8 : Hid (w8.heap[g]? = some (.cells cur 46 (0, 0)) ∧ 8 ≤ cur.size ∧ w7.heap.size ≤ g) := ⟨hg, hcs, hge⟩
  have HS7 : Hid (w6.heap.size ≤ w7.heap.size) := HB7.out.size
  clear hg hcs hge hb8 G7 HO7 HK7 HB7
  obtain ⟨x0, x1⟩ := cells2 G8.out
  generalize hch : w8.alloc (.cells #[.int .i64 2, .int .i64 0, .int .i64 0, .bool false, .int .i64 0, .int .i64 0, .int .i64 0, .bool false] 46) = w9
  have HB9 : Hid (Below w8.heap.size w8 w9) := by show Below _ _ _; rw [← hch]; exact (Below.refl _ _).alloc (Nat.le_refl _) _
  have S9 : Hid (w9.heap[w8.heap.size]? = some (.cells #[.int .i64 2, .int .i64 0, .int .i64 0, .bool false, .int .i64 0, .int .i64 0, .int .i64 0, .bool false] 46 (0, 0))) := by show _ = _; rw [← hch]; exact blk_new _ _
  have D := set_l w w9 kb _ (.slice (some ⟨w8.heap.size, 0, none⟩) 2 2) (HK8.out.step HB9.out) (row_blk (cs := stC) (fun _ => rfl) setS S9.out rfl)
  go_wp2_with fail
  clear hch x0 x1
  obtain ⟨ua, wa, hka, hwa⟩ := (HK8.out.step HB9.out).ex
  have HO9 := HO8.out.below HB9.out
  have G9 := blk_below HB9.out G8.out
  have g9 := blk_below HB9.out HG8.out.1
  have n1 : w6.heap.size ≠ kb := blk_ne G9 hka.blk (by decide)
  have n2 : g ≠ kb := blk_ne g9 hka.blk (by decide)
  have n3 : w8.heap.size ≠ kb := blk_ne S9.out hka.blk (by decide)
  have n4 : b2 ≠ kb := blk_ne HO9.h2 hka.blk (by decide)
  have n5 : b2 ≠ g := blk_ne HO9.h2 g9 (by decide)
  have n6 : b2 ≠ w8.heap.size := blk_ne HO9.h2 S9.out (by decide)
  have n7 : w6.heap.size ≠ g := blk_ne G9 g9 (by decide)
  have n8 : w6.heap.size ≠ w8.heap.size := blk_ne G9 S9.out (by decide)
  have lg : g < w8.heap.size := (Array.getElem?_eq_some_iff.1 HG8.out.1).1
  have ls : w8.heap.size < w9.heap.size := (Array.getElem?_eq_some_iff.1 S9.out).1
  have lb : b2 < w9.heap.size := (Array.getElem?_eq_some_iff.1 HO9.h2).1
  have q1 := HOw6.out.1.base.2
  have q2 := HOw6.out.2
  have q3 := HG8.out.2.2
  have q4 := HKw6.out.bl.size
  have q5 : w.heap.size ≤ w8.heap.size := HK8.out.bl.size
  have q6 : w.heap.size ≤ g := by
    have h7 : w6.heap.size < w8.heap.size := (Array.getElem?_eq_some_iff.1 G8.out).1
    have h9 := HG8.out.1
    have : w6.heap.size ≤ w7.heap.size := HS7.out
    omega
  have HNE : Hid ((w6.heap.size ≠ kb ∧ g ≠ kb ∧ w8.heap.size ≠ kb ∧ b2 ≠ kb) ∧ (b2 ≠ g ∧ b2 ≠ w8.heap.size ∧ w6.heap.size ≠ g ∧ w6.heap.size ≠ w8.heap.size) ∧ (g < w8.heap.size ∧ w8.heap.size < w9.heap.size ∧ b2 < w9.heap.size) ∧ w.heap.size ≤ w8.heap.size ∧ w.heap.size ≤ g ∧ w.heap.size ≤ b2) := ⟨⟨n1, n2, n3, n4⟩, ⟨n5, n6, n7, n8⟩, ⟨lg, ls, lb⟩, q5, q6, by omega⟩
  have HR9 : Hid (w9.heap[w6.heap.size]? = some (.cells #[.slice (some ⟨b1, 0, none⟩) 1 1, .slice (some ⟨b2, 0, none⟩) 3 3] 41 (0, 0)) ∧ w9.heap[g]? = some (.cells cur 46 (0, 0)) ∧ w9.heap[b2]? = some (.cells #[.bool true, .bool false, .bool false] 4 (0, 0))) := ⟨G9, g9, HO9.h2⟩
  have HBL9 : Hid (Below w.heap.size w w9) := (HK8.out.step HB9.out).bl
  have HCS : Hid (8 ≤ cur.size) := HG8.out.2.1
  clear hka hwa HO9 G9 g9 n1 n2 n3 n4 n5 n6 n7 n8 lg ls lb q1 q2 q3 q4 q5 q6
  refine D.mono ?_
  rintro e w10 ⟨rfl, ⟨u, ws, hk, hws, hu⟩, hc⟩
  clear D
  have HK10 : Hid (LkAt w10 w.heap.size kb u 3 3 [1] ws setS) := hk
  have HW10 : Hid (ws.map (·.1) = lineW) := hws
  have HU : Hid (∀ k, (u 2).ownBlock = some k → w9.heap.size ≤ k) := hu
  have HR10 : Hid (w10.heap[w6.heap.size]? = some (.cells #[.slice (some ⟨b1, 0, none⟩) 1 1, .slice (some ⟨b2, 0, none⟩) 3 3] 41 (0, 0)) ∧ w10.heap[g]? = some (.cells cur 46 (0, 0)) ∧ w10.heap[b2]? = some (.cells #[.bool true, .bool false, .bool false] 4 (0, 0)) ∧ w10.heap[w8.heap.size]? = some (.cells #[.int .i64 2, .int .i64 0, .int .i64 0, .bool false, .int .i64 0, .int .i64 0, .int .i64 0, .bool false] 46 (0, 0))) := ⟨hc.blk HR9.out.1 HNE.out.1.1, hc.blk HR9.out.2.1 HNE.out.1.2.1, hc.blk HR9.out.2.2 HNE.out.1.2.2.2, hc.blk S9.out HNE.out.1.2.2.1⟩
  have HBL10 : Hid (Below w.heap.size w w10) := HBL9.out.trans (hc.below (B := w.heap.size) (fun k (e : k = kb) => by rw [e]; exact hk.base) HBL9.out.size)
  clear hk hws hu hc HR9 HBL9 HB9 S9 HK8 HKw6 HO8 HG8 G8 HOw6 HIw3 HIw5 HKw4 HK2
  generalize hgs : w8.heap.size = gs at *
  generalize hgo : w6.heap.size = go at *
  clear hgs hgo
  go_upto_region 10 with fail
  have f1 : ∀ y : OneC ⟨go, 1, none⟩ (.slice (some ⟨b2, 0, none⟩) 3 3), y.z.cell? ⟨go, 1, none⟩ = some (.slice (some ⟨b2, 0, none⟩) 3 3) := fun y => y.h
  have HC10 : Hid (w10.drew.cell? ⟨go, 1, none⟩ = some (.slice (some ⟨b2, 0, none⟩) 3 3)) := (cells2 HR10.out.1).2
  haveI : Nonempty (OneC ⟨go, 1, none⟩ (.slice (some ⟨b2, 0, none⟩) 3 3)) := ⟨⟨w10.drew, HC10.out⟩⟩
  refine wp_region_last (C := fun W => ∃ y : OneC ⟨go, 1, none⟩ (.slice (some ⟨b2, 0, none⟩) 3 3), W = y.z) [0, 1, 2, 3, 4, 5, 6, 7, 8, 9, 10, 11] [12, 13] (by kernel_rfl) (by kernel_rfl) (by kernel_rfl) (by kernel_rfl) (by simp only [List.filterMap_cons, List.getElem?_toArray, List.getElem?_cons_zero, List.getElem?_cons_succ, List.filterMap_nil]; rfl) (by simp only [List.filterMap_cons, List.getElem?_toArray, List.getElem?_cons_zero, List.getElem?_cons_succ, List.filterMap_nil]; rfl) ⟨⟨w10.drew, HC10.out⟩, rfl⟩ ?_
  have HT : Hid (Below w10.heap.size w10 w10.drew) := (Below.refl _ _).drew
  have HRD : Hid (w10.drew.heap[g]? = some (.cells cur 46 (0, 0)) ∧ w10.drew.heap[b2]? = some (.cells #[.bool true, .bool false, .bool false] 4 (0, 0)) ∧ w10.drew.heap[gs]? = some (.cells #[.int .i64 2, .int .i64 0, .int .i64 0, .bool false, .int .i64 0, .int .i64 0, .int .i64 0, .bool false] 46 (0, 0)) ∧ w10.drew.heap[go]? = some (.cells #[.slice (some ⟨b1, 0, none⟩) 1 1, .slice (some ⟨b2, 0, none⟩) 3 3] 41 (0, 0))) := ⟨HR10.out.2.1, HR10.out.2.2.1, HR10.out.2.2.2, HR10.out.1⟩
  have HKD : Hid (LkAt w10.drew w.heap.size kb u 3 3 [1] ws setS) := HK10.out.below HT.out
  have HBV : Hid (Below w.heap.size w w10.drew) := HBL10.out.drew
  clear HR10 HK10 HBL10 HT
  generalize w10.drew = wd at *
  (repeat (first | (with_reducible refine mix_read (by kernel_rfl) ?_; go_big_quiet_want; go_big_quiet_op; go_big_quiet_on; with_reducible refine wpQuiet_nil ?_) | (with_reducible refine mix_pass (by kernel_rfl) ?_; go_big_quiet_skip; with_reducible refine wpQuiet_nil ?_)))
  have hfoot : ∀ k, k ≠ kb → k < w9.heap.size → ¬ lkFoot kb (u 2) setS k := fun k h1 h2 h3 => by
    rcases h3 with h3 | ⟨_, h3⟩
    · exact h1 h3
    · have := HU.out k h3
      omega
  have HFT : Hid (∀ k, k ≠ kb → k < w9.heap.size → ¬ lkFoot kb (u 2) setS k) := hfoot
  clear hfoot
  have cs : wd.cell? ⟨gs, 0, none⟩ = some (.int .i64 2) := by simp [World.cell?, HRD.out.2.2.1]
  have fs := froz2 HRD.out.2.2.1 0
  have HK1 : Hid (LkAt (wd.setCell ⟨gs, 0, none⟩ (.int .i64 n)) w.heap.size kb u 3 3 [1] ws setS) := HKD.out.store ⟨HFT.out gs HNE.out.1.2.2.1 HNE.out.2.2.1.2.1, not_clean HRD.out.2.2.1 (by decide)⟩ _
  have HB1 : Hid (Below w.heap.size w (wd.setCell ⟨gs, 0, none⟩ (.int .i64 n))) := HBV.out.setCell HNE.out.2.2.2.1 _
  have ngs : g ≠ gs := by have := HNE.out.2.2.1.1; omega
  have HR1 : Hid ((wd.setCell ⟨gs, 0, none⟩ (.int .i64 n)).heap[g]? = some (.cells cur 46 (0, 0)) ∧ (wd.setCell ⟨gs, 0, none⟩ (.int .i64 n)).heap[b2]? = some (.cells #[.bool true, .bool false, .bool false] 4 (0, 0)) ∧ (wd.setCell ⟨gs, 0, none⟩ (.int .i64 n)).heap[go]? = some (.cells #[.slice (some ⟨b1, 0, none⟩) 1 1, .slice (some ⟨b2, 0, none⟩) 3 3] 41 (0, 0))) := ⟨(Below.heap_setCell wd ⟨gs, 0, none⟩ _ g ngs).trans HRD.out.1, (Below.heap_setCell wd ⟨gs, 0, none⟩ _ b2 HNE.out.2.1.2.1).trans HRD.out.2.1, (Below.heap_setCell wd ⟨gs, 0, none⟩ _ go HNE.out.2.1.2.2.2).trans HRD.out.2.2.2⟩
  have HC1 : Hid ((wd.setCell ⟨gs, 0, none⟩ (.int .i64 n)).cell? ⟨go, 1, none⟩ = some (.slice (some ⟨b2, 0, none⟩) 3 3)) := (cells2 HR1.out.2.2).2
  refine mix_skips (w' := wd.setCell ⟨gs, 0, none⟩ (.int .i64 n)) (by kernel_rfl) (by kernel_rfl) (by simp [execOp, go_sem, cs, fs]) ⟨⟨_, HC1.out⟩, rfl⟩ ?_
  simp only [Act.put]
  clear cs fs ngs HKD HBV HRD HC10
  generalize wd.setCell ⟨gs, 0, none⟩ (.int .i64 n) = wd1 at *
  (repeat (first | (with_reducible refine mix_read (by kernel_rfl) ?_; go_big_quiet_want; go_big_quiet_op; go_big_quiet_on; with_reducible refine wpQuiet_nil ?_) | (with_reducible refine mix_pass (by kernel_rfl) ?_; go_big_quiet_skip; with_reducible refine wpQuiet_nil ?_)))
  obtain ⟨og, cg⟩ : ∃ v, wd1.cell? ⟨g, 0, none⟩ = some v := ⟨cur[0]'(by have := HCS.out; omega), by
    have := HCS.out
    simp [World.cell?, HR1.out.1, show 0 < cur.size by omega]⟩
  have fg := froz2 HR1.out.1 0
  have HK2 : Hid (LkAt (wd1.setCell ⟨g, 0, none⟩ (.int .i64 n)) w.heap.size kb u 3 3 [1] ws setS) := HK1.out.store ⟨HFT.out g HNE.out.1.2.1 (by have := HNE.out.2.2.1; omega), not_clean HR1.out.1 (by decide)⟩ _
  have HB2 : Hid (Below w.heap.size w (wd1.setCell ⟨g, 0, none⟩ (.int .i64 n))) := HB1.out.setCell HNE.out.2.2.2.2.1 _
  have HR2 : Hid ((wd1.setCell ⟨g, 0, none⟩ (.int .i64 n)).heap[b2]? = some (.cells #[.bool true, .bool false, .bool false] 4 (0, 0)) ∧ (wd1.setCell ⟨g, 0, none⟩ (.int .i64 n)).heap[go]? = some (.cells #[.slice (some ⟨b1, 0, none⟩) 1 1, .slice (some ⟨b2, 0, none⟩) 3 3] 41 (0, 0))) := ⟨(Below.heap_setCell wd1 ⟨g, 0, none⟩ _ b2 HNE.out.2.1.1).trans HR1.out.2.1, (Below.heap_setCell wd1 ⟨g, 0, none⟩ _ go HNE.out.2.1.2.2.1).trans HR1.out.2.2⟩
  have HC2 : Hid ((wd1.setCell ⟨g, 0, none⟩ (.int .i64 n)).cell? ⟨go, 1, none⟩ = some (.slice (some ⟨b2, 0, none⟩) 3 3)) := (cells2 HR2.out.2).2
  refine mix_skips (w' := wd1.setCell ⟨g, 0, none⟩ (.int .i64 n)) (by kernel_rfl) (by kernel_rfl) (by simp [execOp, go_sem, cg, fg]) ⟨⟨_, HC2.out⟩, rfl⟩ ?_
  simp only [Act.put]
  clear cg fg f1 HK1 HB1 HR1 HC1 HC2
  generalize wd1.setCell ⟨g, 0, none⟩ (.int .i64 n) = wd2 at *
  with_reducible refine mix_end ?_
  have cb : wd2.cell? ⟨b2, 0, none⟩ = some (.bool true) := by simp [World.cell?, HR2.out.1]
  have fb := froz2 HR2.out.1 0
  have HK3 : Hid (LkL w (wd2.setCell ⟨b2, 0, none⟩ (.bool false)) kb setS) := ⟨⟨u, ws, HK2.out.store ⟨HFT.out b2 HNE.out.1.2.2.2 HNE.out.2.2.1.2.2, not_clean HR2.out.1 (by decide)⟩ _, HW10.out⟩, okS_set, HB2.out.setCell HNE.out.2.2.2.2.2 _⟩
  clear HK2 HB2 HR2
  generalize hg3 : wd2.setCell ⟨b2, 0, none⟩ (.bool false) = wd3 at HK3
  have HG3 : Hid (wd2.setCell ⟨b2, 0, none⟩ (.bool false) = wd3) := hg3
  clear hg3
  go_wp2_with fail
  rw [HG3.out]
  clear cb fb
  refine (routes_l w wd3 kb _ HK3.out).mono ?_
  rintro e w11 ⟨g2, c2, rfl, hr, hb⟩
  have HK11 : Hid (LkL w w11 kb setS) := HK3.out.step hb
  obtain ⟨g', f', e6, r0, -, -, -⟩ := row_st hr 0 (2, 0, 0, false) rfl
  injection e6 with e6
  injection e6 with e61 e62
  subst e61 e62
  simp only [Nat.zero_mul, Nat.add_zero] at r0
  clear hr hb
  have D := hold_l w w11 kb _ 0 HK11.out 0 (by decide +kernel)
  go_wp2_with fail
  refine D.mono ?_
  rintro e w12 ⟨rfl, hb⟩
  have HK12 : Hid (LkL w w12 kb setS) := HK11.out.step hb
  clear D hb r0
  go_wp2_with fail
  refine (known_any _).mono ?_
  rintro e w13 ⟨rfl, hb⟩
  go_wp2
  go_ret
  exact ⟨rfl, HK12.out.bl.trans (hb.mono HK12.out.bl.size)⟩

theorem own : ownKnob Try.prog.godebug = none := by kernel_rfl

set_option maxRecDepth 100000 in
theorem lifted (os : Os) (started : os.Started) (H : Type) (enc : TypeId × Value → H) :
    ReturnsInHanded {} Try.checked os 3 .any (Rows.lockOwnSpec.pre6 enc Try.prog Try.f3 Rows.lockOwnRow.domain false) (Rows.lockOwnSpec.post enc Try.prog Try.f3 false true false false) := by
  refine returnsInHanded_of_change (C := Try.checked) own started (by kernel_rfl) Try.func3
    (ChangeSpec.witness6 (enc := enc) (C := Try.checked) false ⟨#[], #[.int .i64 0], []⟩ 8 (by kernel_rfl) (by kernel_rfl) (by kernel_rfl) (by kernel_rfl)) ?_
  intro W base args ds gs before hval0 hW _ _
  have hval : ∀ (j : Nat) t v, Try.f3.params[j]? = some t → args[j]? = some v → Value.okWide Try.prog W .any base t v := hval0
  have hW' := hW
  obtain ⟨p, q, hA0, hV, rfl, _, _⟩ := hW
  have hA : DataW.TrodAll enc Try.prog W 0 (fun _ => true) true Try.f3.params.toList args.toList ds p := hA0
  rw [Try.params3] at hA hval
  obtain ⟨v0, vs0, d0, ds0, p0, q0, hargs, rfl, rfl, h0, r0⟩ := trodAll_cons hA
  obtain ⟨rfl, rfl, rfl⟩ := trodAll_nil r0
  obtain rfl : args = #[v0] := by cases args; simp_all
  obtain ⟨rfl, rfl⟩ := trodVars_none hV
  obtain ⟨a0, rfl, rfl, rfl, w0⟩ := open_int Try.underlying3 (hval 0 3 v0 rfl rfl) h0
  clear hA0 hval0
  refine (walk a0 w0 W).mono fun e W' ⟨he, bel⟩ => ?_
  subst he
  exact ⟨_, rfl, _, _, _, [], _, [], hW', trodAll_mk1 (shut_bool Try.underlying4 _), (trodAll_cons_mk (shut_int Try.underlying3 w0) trodAll_mk0), rfl, bel.frame _, fun h => by cases h⟩

theorem over : Rows.lockOwnRow.holds Try.pinned (OpenSpec.ofChange Rows.lockOwnSpec) :=
  OpenClaim.holds_of_wide 3 Try.f3 rfl rfl rfl rfl rfl rfl rfl ⟨rfl, rfl, rfl, rfl, rfl⟩ rfl rfl rfl rfl rfl (by kernel_rfl) Try.func3 (by kernel_rfl)
    (of_decide_eq_true (by kernel_rfl)) (by unfold Func.isWrapper; first | (rw [if_pos (by decide +kernel)]; kernel_rfl) | (rw [if_neg (by decide +kernel)]; exact ⟨rfl, rfl⟩))
    (fun os started H enc _ => lifted os started H enc)

end Go.Proofs.Ytfgkkhcoidegdab.lockOwn
namespace Go.Proofs.Ytfgkkhcoidegdab
theorem lockOwn_holds : Rows.LockOwnSaid := lockOwn.over
#print axioms lockOwn_holds
end Go.Proofs.Ytfgkkhcoidegdab
