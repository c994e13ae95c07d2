/-
  Of every row of numbers: LockDanger returns true.
-/
import Derived.Test.YtgacnebihkofcabRows
import Derived.Test.YtgacnebihkofcabLkKnown
import Derived.WalkKit
import Derived.ProofKit
import Derived.OpenShut
import Derived.ShutString
import Derived.ChangeOld
import Derived.Below
import Derived.SizedLaws
import Derived.PinnedBridge
import Derived.Lib.LaidU8T
import Derived.Lay
import Derived.LaidOnce
import Derived.SevenTiedAt
import Derived.Deep.DeepHandedRow
namespace Go.Proofs.Ytgacnebihkofcab.lockDanger
open Go.ChangeShapes Go.WideShapes Go.ChangeAt Go.RowKit

theorem i64_and3 (n : Int) : bits .and .i64 n 3 = n % 4 := by
  have h3 : (BitVec.ofInt 64 3).toNat = 2 ^ 2 - 1 := by decide
  have key : (BitVec.ofInt 64 n &&& BitVec.ofInt 64 3).toNat = (n % ((2 ^ 64 : Nat) : Int)).toNat % 2 ^ 2 := by
    rw [BitVec.toNat_and, BitVec.toNat_ofInt, h3, Nat.and_two_pow_sub_one_eq_mod]
  show IntKind.i64.wrap ((BitVec.ofInt 64 n &&& BitVec.ofInt 64 3).toNat : Nat) = n % 4
  rw [key, IntKind.wrap_i64]
  omega
theorem i64_and1 (n : Int) : bits .and .i64 n 1 = n % 2 := by
  have h1 : (BitVec.ofInt 64 1).toNat = 2 ^ 1 - 1 := by decide
  have key : (BitVec.ofInt 64 n &&& BitVec.ofInt 64 1).toNat = (n % ((2 ^ 64 : Nat) : Int)).toNat % 2 ^ 1 := by
    rw [BitVec.toNat_and, BitVec.toNat_ofInt, h1, Nat.and_two_pow_sub_one_eq_mod]
  show IntKind.i64.wrap ((BitVec.ofInt 64 n &&& BitVec.ofInt 64 1).toNat : Nat) = n % 2
  rw [key, IntKind.wrap_i64]
  omega
def hasInts (w : World) (oa : Option Addr) (ls : List Int) : Prop := ∀ j x, ls[j]? = some x → ∃ b off, oa = some ⟨b, off, none⟩ ∧ w.cell? ⟨b, off + j, none⟩ = some (.int .i64 x)
/-- The address of a row one cell of which is there. -/
theorem addr_plain {W : World} {x : Addr} {v : Value} (h : W.cell? (x.add 0) = some v) : ∃ b off, x = ⟨b, off, none⟩ := by
  obtain ⟨b, off, spot⟩ := x
  have hs : spot = none := by simpa [Addr.add] using World.cell?_spot h
  subst hs
  exact ⟨b, off, rfl⟩
theorem addr_at (b off j : Nat) : (⟨b, off, none⟩ : Addr).add j = ⟨b, off + j, none⟩ := by unfold Addr.add; split <;> simp_all
theorem ints_of {W : World} {x : Addr} {len : Nat} {ss : List Int} (hl : len ≤ ss.length) (hcell : ∀ i, i < ss.length → W.cell? (x.add i) = some (.int .i64 (ss.getD i 0))) : (ss.take len).length = len ∧ hasInts W (some x) (ss.take len) := by
  refine ⟨by rw [List.length_take]; omega, fun j y hj => ?_⟩
  obtain ⟨h1, h2⟩ := List.getElem?_eq_some_iff.1 hj
  rw [List.length_take] at h1
  obtain ⟨b, off, rfl⟩ := addr_plain (hcell 0 (by omega))
  refine ⟨b, off, rfl, ?_⟩
  have := hcell j (by omega)
  rw [addr_at] at this
  rw [this, ← h2, List.getElem_take, List.getD_eq_getElem?_getD, List.getElem?_eq_getElem (by omega)]
  rfl
theorem laidOut : laidOutB Try.prog = true := by kernel_rfl

set_option maxRecDepth 1000000 in
set_option maxHeartbeats 32000000 in
theorem walk (w : World) (oa : Option Addr) (len cap : Nat) (ls : List Int) (e1 : ls.length = len) (m1 : len ≤ maxLen) (hI : hasInts w oa ls) : Calls Try.prog 5 #[.slice oa len cap] w fun e w' => e = .returned (.bool true) ∧ Below w.heap.size w w' := by
  unfold maxLen at m1
  by_cases h30 : 30 < len
  · have hq : (30 : Int) < (len : Int) := by omega
    clear e1 hI
    go_enter Try.func5, Try.ntmps5
    go_wp2
    go_ret
    exact ⟨rfl, Below.refl _ _⟩
  have hq : ¬ (30 : Int) < (len : Int) := by omega
  have HE : Hid (ls.length = len) := e1
  have HI : Hid (hasInts w oa ls) := hI
  have HL30 : Hid (len ≤ 30) := (by show len ≤ 30; omega)
  clear e1 hI m1 h30
  go_enter Try.func5, Try.ntmps5
  go_wp2_with fail
  refine (line_any w).mono ?_
  rintro e w1 ⟨v, a, b, c, d, e', f, rfl, hL, hF, hb1⟩
  have D := new_l w w1 v a b c d e' f hL hF hb1
  clear hL hF
  go_wp2_with fail
  refine D.mono ?_
  rintro e w2 ⟨kb, rfl, hK, hb2⟩
  clear D
  have HK2 : Hid (LkL w w2 kb [idleS, idleS]) := hK
  clear hK hb1 hb2
  go_wp2_with fail
  refine (at_any 0 1 w2 (by omega)).mono ?_
  rintro e w3 ⟨v3, rfl, hi, hb⟩
  have HIw3 : Hid (InNew w3 v3 (bitsF 0) [1] ∧ Below w2.heap.size w2 w3) := ⟨hi, hb⟩
  clear hi hb
  have D := cmd_l w w3 kb _ v3 (bitsF 0) [1] 1 0 (HK2.out.step HIw3.out.2) HIw3.out.1 (by simp) 0 [(1, 0, 0, false), idleS] (by decide +kernel) ⟨_, _, rfl, by decide, by decide⟩
  go_wp2_with fail
  refine D.mono ?_
  rintro e w4 ⟨rfl, hk, hc⟩
  have HKw4 : Hid (LkL w w4 kb [(1, 0, 0, false), idleS]) := hk
  clear D hk
  clear hc
  go_wp2_with fail
  refine (at_any 0 1 w4 (by omega)).mono ?_
  rintro e w5 ⟨v5, rfl, hi, hb⟩
  have HIw5 : Hid (InNew w5 v5 (bitsF 0) [1] ∧ Below w4.heap.size w4 w5) := ⟨hi, hb⟩
  clear hi hb
  have D := cyc_l w w5 kb _ v5 (bitsF 0) [1] (HKw4.out.step HIw5.out.2) HIw5.out.1 (by simp) [(2, 0, 0, false), idleS] [0] [true, false, false] (by decide +kernel) ⟨_, _, rfl, by decide, by decide⟩
  go_wp2_with fail
  refine D.mono ?_
  rintro e w6 ⟨b1, b2, rfl, ho, hk, hc⟩
  have HKw6 : Hid (LkL w w6 kb [(2, 0, 0, false), idleS]) := hk
  have HOw6 : Hid (OutAt w6 w5.heap.size b1 b2 [0] [true, false, false]) := ho
  clear D hk ho hc
  clear HOw6
  clear hq
  go_wp2
  go_loopg [5, 6, 7, 8] len (fun gk i a1 a2 a3 wr => ∃ k : Nat, gk = len - k ∧ i = .int .i64 k ∧ k ≤ len ∧ LkL w wr kb [(2, 0, 0, false), idleS])
  case atStart => exact ⟨0, rfl, rfl, by omega, HKw6.out⟩
  case round =>
    obtain ⟨k, rfl, rfl, hk, hK⟩ := hrel
    have HKR : Hid (LkL w wr kb [(2, 0, 0, false), idleS]) := hK
    clear hK
    have hL30 := HL30.out
    by_cases hlt : k < len
    · have hki : (k : Int) < (len : Int) := by omega
      obtain ⟨x, hxk⟩ : ∃ x, ls[k]? = some x := ⟨ls[k]'(by rw [HE.out]; exact hlt), List.getElem?_eq_getElem _⟩
      obtain ⟨b, off, rfl, c1⟩ := HI.out k x hxk
      have HX : Hid (w.cell? ⟨b, off + k, none⟩ = some (.int .i64 x)) := c1
      have d1 := (HKR.out.bl.cell (p := ⟨b, off + k, none⟩) (World.block_lt_of_cell? w _ c1)).trans c1
      have hand3 := i64_and3 x
      have hand1 := i64_and1 (x / 4)
      clear hxk c1
      have h4 : x % 4 = 0 ∨ x % 4 = 1 ∨ x % 4 = 2 ∨ x % 4 = 3 := by omega
      have h2 : (x / 4) % 2 = 0 ∨ (x / 4) % 2 = 1 := by omega
      rcases h4 with hc | hc | hc | hc <;> rcases h2 with hb2 | hb2
      · rw [hc] at hand3
        rw [hb2] at hand1
        clear hc hb2
        go_wp2_with fail
        have f0 := ext_cell d1
        haveI := ext_some wr
        have HB8 : Hid (Below wr.heap.size wr wr.drew) := (Below.refl _ _).drew
        clear d1
        refine wp_region_mix_seq (C := fun W => ∃ y : Ext wr, W = y.z) [0, 1, 2, 3, 4, 5, 6, 7, 8, 9, 10, 11, 12, 13] (by kernel_rfl) (by kernel_rfl) (by kernel_rfl) (by kernel_rfl) (by simp only [List.filterMap_cons, List.getElem?_toArray, List.getElem?_cons_zero, List.getElem?_cons_succ, List.filterMap_nil]; rfl) ⟨⟨_, (Below.refl _ _).drew⟩, rfl⟩ ?_
        (repeat (first | (with_reducible refine mix_read (by kernel_rfl) ?_; go_big_quiet_want; go_big_quiet_op; go_big_quiet_on; with_reducible refine wpQuiet_nil ?_) | (with_reducible refine mix_pass (by kernel_rfl) ?_; go_big_quiet_skip; with_reducible refine wpQuiet_nil ?_)))
        with_reducible refine mix_end ?_
        intro _
        clear f0
        have HKD : Hid (LkL w wr.drew kb [(2, 0, 0, false), idleS]) := HKR.out.step HB8.out
        clear HB8
        generalize hwd : wr.drew = wd at HKD ⊢
        clear hwd
        go_wp2_with fail
        refine (at_any 0 0 wd (by omega)).mono ?_
        rintro e w8 ⟨v8, rfl, hi, hb⟩
        have HIw8 : Hid (InNew w8 v8 (bitsF 0) [0] ∧ Below wd.heap.size wd w8) := ⟨hi, hb⟩
        clear hi hb
        have D := cyc_l w w8 kb _ v8 (bitsF 0) [0] (HKD.out.step HIw8.out.2) HIw8.out.1 (by simp) [(2, 0, 0, false), idleS] [0] [false, false, false] (by decide +kernel) ⟨_, _, rfl, by decide, by decide⟩
        go_wp2_with fail
        refine D.mono ?_
        rintro e w9 ⟨b1, b2, rfl, ho, hk, hc⟩
        have HKw9 : Hid (LkL w w9 kb [(2, 0, 0, false), idleS]) := hk
        have HOw9 : Hid (OutAt w9 w8.heap.size b1 b2 [0] [false, false, false]) := ho
        clear D hk ho hc
        generalize hch : w9.alloc (.cells #[.slice (some ⟨b1, 0, none⟩) 1 1, .slice (some ⟨b2, 0, none⟩) 3 3] 48) = wa
        have HBwa : Hid (Below w9.heap.size w9 wa) := by show Below _ _ _; rw [← hch]; exact (Below.refl _ _).alloc (Nat.le_refl _) _
        have HXwa : Hid (wa.heap[w9.heap.size]? = some (.cells #[.slice (some ⟨b1, 0, none⟩) 1 1, .slice (some ⟨b2, 0, none⟩) 3 3] 48 (0, 0))) := by show _ = _; rw [← hch]; exact blk_new _ _
        obtain ⟨y0, y1⟩ := cells2 HXwa.out
        have z0 := ((HOw9.out.below HBwa.out).cell1 (p := 0) rfl).1
        have z1 := ((HOw9.out.below HBwa.out).cell2 (p := 0) rfl).1
        go_wp2
        clear hch
        go_roundg (len - (k + 1))
        case rel => exact ⟨k + 1, rfl, by go_num, by omega, HKw9.out.step HBwa.out⟩
        case measure => omega
      · rw [hc] at hand3
        rw [hb2] at hand1
        clear hc hb2
        go_wp2_with fail
        have f0 := ext_cell d1
        haveI := ext_some wr
        have HB8 : Hid (Below wr.heap.size wr wr.drew) := (Below.refl _ _).drew
        clear d1
        refine wp_region_mix_seq (C := fun W => ∃ y : Ext wr, W = y.z) [0, 1, 2, 3, 4, 5, 6, 7, 8, 9, 10, 11, 12, 13] (by kernel_rfl) (by kernel_rfl) (by kernel_rfl) (by kernel_rfl) (by simp only [List.filterMap_cons, List.getElem?_toArray, List.getElem?_cons_zero, List.getElem?_cons_succ, List.filterMap_nil]; rfl) ⟨⟨_, (Below.refl _ _).drew⟩, rfl⟩ ?_
        (repeat (first | (with_reducible refine mix_read (by kernel_rfl) ?_; go_big_quiet_want; go_big_quiet_op; go_big_quiet_on; with_reducible refine wpQuiet_nil ?_) | (with_reducible refine mix_pass (by kernel_rfl) ?_; go_big_quiet_skip; with_reducible refine wpQuiet_nil ?_)))
        with_reducible refine mix_end ?_
        intro _
        clear f0
        have HKD : Hid (LkL w wr.drew kb [(2, 0, 0, false), idleS]) := HKR.out.step HB8.out
        clear HB8
        generalize hwd : wr.drew = wd at HKD ⊢
        clear hwd
        go_wp2_with fail
        refine (at_any 2 0 wd (by omega)).mono ?_
        rintro e w8 ⟨v8, rfl, hi, hb⟩
        have HIw8 : Hid (InNew w8 v8 (bitsF 2) [0] ∧ Below wd.heap.size wd w8) := ⟨hi, hb⟩
        clear hi hb
        have D := cyc_l w w8 kb _ v8 (bitsF 2) [0] (HKD.out.step HIw8.out.2) HIw8.out.1 (by simp) [(2, 0, 0, false), idleS] [0] [false, false, false] (by decide +kernel) ⟨_, _, rfl, by decide, by decide⟩
        go_wp2_with fail
        refine D.mono ?_
        rintro e w9 ⟨b1, b2, rfl, ho, hk, hc⟩
        have HKw9 : Hid (LkL w w9 kb [(2, 0, 0, false), idleS]) := hk
        have HOw9 : Hid (OutAt w9 w8.heap.size b1 b2 [0] [false, false, false]) := ho
        clear D hk ho hc
        generalize hch : w9.alloc (.cells #[.slice (some ⟨b1, 0, none⟩) 1 1, .slice (some ⟨b2, 0, none⟩) 3 3] 48) = wa
        have HBwa : Hid (Below w9.heap.size w9 wa) := by show Below _ _ _; rw [← hch]; exact (Below.refl _ _).alloc (Nat.le_refl _) _
        have HXwa : Hid (wa.heap[w9.heap.size]? = some (.cells #[.slice (some ⟨b1, 0, none⟩) 1 1, .slice (some ⟨b2, 0, none⟩) 3 3] 48 (0, 0))) := by show _ = _; rw [← hch]; exact blk_new _ _
        obtain ⟨y0, y1⟩ := cells2 HXwa.out
        have z0 := ((HOw9.out.below HBwa.out).cell1 (p := 0) rfl).1
        have z1 := ((HOw9.out.below HBwa.out).cell2 (p := 0) rfl).1
        go_wp2
        clear hch
        go_roundg (len - (k + 1))
        case rel => exact ⟨k + 1, rfl, by go_num, by omega, HKw9.out.step HBwa.out⟩
        case measure => omega
      · rw [hc] at hand3
        rw [hb2] at hand1
        clear hc hb2
        go_wp2_with fail
        have f0 := ext_cell d1
        haveI := ext_some wr
        have HB8 : Hid (Below wr.heap.size wr wr.drew) := (Below.refl _ _).drew
        clear d1
        refine wp_region_mix_seq (C := fun W => ∃ y : Ext wr, W = y.z) [0, 1, 2, 3, 4, 5, 6, 7, 8, 9, 10, 11, 12, 13] (by kernel_rfl) (by kernel_rfl) (by kernel_rfl) (by kernel_rfl) (by simp only [List.filterMap_cons, List.getElem?_toArray, List.getElem?_cons_zero, List.getElem?_cons_succ, List.filterMap_nil]; rfl) ⟨⟨_, (Below.refl _ _).drew⟩, rfl⟩ ?_
        (repeat (first | (with_reducible refine mix_read (by kernel_rfl) ?_; go_big_quiet_want; go_big_quiet_op; go_big_quiet_on; with_reducible refine wpQuiet_nil ?_) | (with_reducible refine mix_pass (by kernel_rfl) ?_; go_big_quiet_skip; with_reducible refine wpQuiet_nil ?_)))
        with_reducible refine mix_end ?_
        intro _
        clear f0
        have HKD : Hid (LkL w wr.drew kb [(2, 0, 0, false), idleS]) := HKR.out.step HB8.out
        clear HB8
        generalize hwd : wr.drew = wd at HKD ⊢
        clear hwd
        go_wp2_with fail
        refine (at_any 0 1 wd (by omega)).mono ?_
        rintro e w8 ⟨v8, rfl, hi, hb⟩
        have HIw8 : Hid (InNew w8 v8 (bitsF 0) [1] ∧ Below wd.heap.size wd w8) := ⟨hi, hb⟩
        clear hi hb
        have D := cyc_l w w8 kb _ v8 (bitsF 0) [1] (HKD.out.step HIw8.out.2) HIw8.out.1 (by simp) [(2, 0, 0, false), idleS] [0] [true, false, false] (by decide +kernel) ⟨_, _, rfl, by decide, by decide⟩
        go_wp2_with fail
        refine D.mono ?_
        rintro e w9 ⟨b1, b2, rfl, ho, hk, hc⟩
        have HKw9 : Hid (LkL w w9 kb [(2, 0, 0, false), idleS]) := hk
        have HOw9 : Hid (OutAt w9 w8.heap.size b1 b2 [0] [true, false, false]) := ho
        clear D hk ho hc
        generalize hch : w9.alloc (.cells #[.slice (some ⟨b1, 0, none⟩) 1 1, .slice (some ⟨b2, 0, none⟩) 3 3] 48) = wa
        have HBwa : Hid (Below w9.heap.size w9 wa) := by show Below _ _ _; rw [← hch]; exact (Below.refl _ _).alloc (Nat.le_refl _) _
        have HXwa : Hid (wa.heap[w9.heap.size]? = some (.cells #[.slice (some ⟨b1, 0, none⟩) 1 1, .slice (some ⟨b2, 0, none⟩) 3 3] 48 (0, 0))) := by show _ = _; rw [← hch]; exact blk_new _ _
        obtain ⟨y0, y1⟩ := cells2 HXwa.out
        have z0 := ((HOw9.out.below HBwa.out).cell1 (p := 0) rfl).1
        have z1 := ((HOw9.out.below HBwa.out).cell2 (p := 0) rfl).1
        go_wp2
        clear hch
        go_roundg (len - (k + 1))
        case rel => exact ⟨k + 1, rfl, by go_num, by omega, HKw9.out.step HBwa.out⟩
        case measure => omega
      · rw [hc] at hand3
        rw [hb2] at hand1
        clear hc hb2
        go_wp2_with fail
        have f0 := ext_cell d1
        haveI := ext_some wr
        have HB8 : Hid (Below wr.heap.size wr wr.drew) := (Below.refl _ _).drew
        clear d1
        refine wp_region_mix_seq (C := fun W => ∃ y : Ext wr, W = y.z) [0, 1, 2, 3, 4, 5, 6, 7, 8, 9, 10, 11, 12, 13] (by kernel_rfl) (by kernel_rfl) (by kernel_rfl) (by kernel_rfl) (by simp only [List.filterMap_cons, List.getElem?_toArray, List.getElem?_cons_zero, List.getElem?_cons_succ, List.filterMap_nil]; rfl) ⟨⟨_, (Below.refl _ _).drew⟩, rfl⟩ ?_
        (repeat (first | (with_reducible refine mix_read (by kernel_rfl) ?_; go_big_quiet_want; go_big_quiet_op; go_big_quiet_on; with_reducible refine wpQuiet_nil ?_) | (with_reducible refine mix_pass (by kernel_rfl) ?_; go_big_quiet_skip; with_reducible refine wpQuiet_nil ?_)))
        with_reducible refine mix_end ?_
        intro _
        clear f0
        have HKD : Hid (LkL w wr.drew kb [(2, 0, 0, false), idleS]) := HKR.out.step HB8.out
        clear HB8
        generalize hwd : wr.drew = wd at HKD ⊢
        clear hwd
        go_wp2_with fail
        refine (at_any 2 1 wd (by omega)).mono ?_
        rintro e w8 ⟨v8, rfl, hi, hb⟩
        have HIw8 : Hid (InNew w8 v8 (bitsF 2) [1] ∧ Below wd.heap.size wd w8) := ⟨hi, hb⟩
        clear hi hb
        have D := cyc_l w w8 kb _ v8 (bitsF 2) [1] (HKD.out.step HIw8.out.2) HIw8.out.1 (by simp) [(2, 0, 0, false), idleS] [0] [false, false, false] (by decide +kernel) ⟨_, _, rfl, by decide, by decide⟩
        go_wp2_with fail
        refine D.mono ?_
        rintro e w9 ⟨b1, b2, rfl, ho, hk, hc⟩
        have HKw9 : Hid (LkL w w9 kb [(2, 0, 0, false), idleS]) := hk
        have HOw9 : Hid (OutAt w9 w8.heap.size b1 b2 [0] [false, false, false]) := ho
        clear D hk ho hc
        generalize hch : w9.alloc (.cells #[.slice (some ⟨b1, 0, none⟩) 1 1, .slice (some ⟨b2, 0, none⟩) 3 3] 48) = wa
        have HBwa : Hid (Below w9.heap.size w9 wa) := by show Below _ _ _; rw [← hch]; exact (Below.refl _ _).alloc (Nat.le_refl _) _
        have HXwa : Hid (wa.heap[w9.heap.size]? = some (.cells #[.slice (some ⟨b1, 0, none⟩) 1 1, .slice (some ⟨b2, 0, none⟩) 3 3] 48 (0, 0))) := by show _ = _; rw [← hch]; exact blk_new _ _
        obtain ⟨y0, y1⟩ := cells2 HXwa.out
        have z0 := ((HOw9.out.below HBwa.out).cell1 (p := 0) rfl).1
        have z1 := ((HOw9.out.below HBwa.out).cell2 (p := 0) rfl).1
        go_wp2
        clear hch
        go_roundg (len - (k + 1))
        case rel => exact ⟨k + 1, rfl, by go_num, by omega, HKw9.out.step HBwa.out⟩
        case measure => omega
      · rw [hc] at hand3
        rw [hb2] at hand1
        clear hc hb2
        go_wp2_with fail
        have f0 := ext_cell d1
        haveI := ext_some wr
        have HB8 : Hid (Below wr.heap.size wr wr.drew) := (Below.refl _ _).drew
        clear d1
        refine wp_region_mix_seq (C := fun W => ∃ y : Ext wr, W = y.z) [0, 1, 2, 3, 4, 5, 6, 7, 8, 9, 10, 11, 12, 13] (by kernel_rfl) (by kernel_rfl) (by kernel_rfl) (by kernel_rfl) (by simp only [List.filterMap_cons, List.getElem?_toArray, List.getElem?_cons_zero, List.getElem?_cons_succ, List.filterMap_nil]; rfl) ⟨⟨_, (Below.refl _ _).drew⟩, rfl⟩ ?_
        (repeat (first | (with_reducible refine mix_read (by kernel_rfl) ?_; go_big_quiet_want; go_big_quiet_op; go_big_quiet_on; with_reducible refine wpQuiet_nil ?_) | (with_reducible refine mix_pass (by kernel_rfl) ?_; go_big_quiet_skip; with_reducible refine wpQuiet_nil ?_)))
        with_reducible refine mix_end ?_
        intro _
        clear f0
        have HKD : Hid (LkL w wr.drew kb [(2, 0, 0, false), idleS]) := HKR.out.step HB8.out
        clear HB8
        generalize hwd : wr.drew = wd at HKD ⊢
        clear hwd
        go_wp2_with fail
        refine (at_any 0 2 wd (by omega)).mono ?_
        rintro e w8 ⟨v8, rfl, hi, hb⟩
        have HIw8 : Hid (InNew w8 v8 (bitsF 0) [2] ∧ Below wd.heap.size wd w8) := ⟨hi, hb⟩
        clear hi hb
        have D := cyc_l w w8 kb _ v8 (bitsF 0) [2] (HKD.out.step HIw8.out.2) HIw8.out.1 (by simp) [(2, 0, 0, false), idleS] [0] [false, false, false] (by decide +kernel) ⟨_, _, rfl, by decide, by decide⟩
        go_wp2_with fail
        refine D.mono ?_
        rintro e w9 ⟨b1, b2, rfl, ho, hk, hc⟩
        have HKw9 : Hid (LkL w w9 kb [(2, 0, 0, false), idleS]) := hk
        have HOw9 : Hid (OutAt w9 w8.heap.size b1 b2 [0] [false, false, false]) := ho
        clear D hk ho hc
        generalize hch : w9.alloc (.cells #[.slice (some ⟨b1, 0, none⟩) 1 1, .slice (some ⟨b2, 0, none⟩) 3 3] 48) = wa
        have HBwa : Hid (Below w9.heap.size w9 wa) := by show Below _ _ _; rw [← hch]; exact (Below.refl _ _).alloc (Nat.le_refl _) _
        have HXwa : Hid (wa.heap[w9.heap.size]? = some (.cells #[.slice (some ⟨b1, 0, none⟩) 1 1, .slice (some ⟨b2, 0, none⟩) 3 3] 48 (0, 0))) := by show _ = _; rw [← hch]; exact blk_new _ _
        obtain ⟨y0, y1⟩ := cells2 HXwa.out
        have z0 := ((HOw9.out.below HBwa.out).cell1 (p := 0) rfl).1
        have z1 := ((HOw9.out.below HBwa.out).cell2 (p := 0) rfl).1
        go_wp2
        clear hch
        go_roundg (len - (k + 1))
        case rel => exact ⟨k + 1, rfl, by go_num, by omega, HKw9.out.step HBwa.out⟩
        case measure => omega
      · rw [hc] at hand3
        rw [hb2] at hand1
        clear hc hb2
        go_wp2_with fail
        have f0 := ext_cell d1
        haveI := ext_some wr
        have HB8 : Hid (Below wr.heap.size wr wr.drew) := (Below.refl _ _).drew
        clear d1
        refine wp_region_mix_seq (C := fun W => ∃ y : Ext wr, W = y.z) [0, 1, 2, 3, 4, 5, 6, 7, 8, 9, 10, 11, 12, 13] (by kernel_rfl) (by kernel_rfl) (by kernel_rfl) (by kernel_rfl) (by simp only [List.filterMap_cons, List.getElem?_toArray, List.getElem?_cons_zero, List.getElem?_cons_succ, List.filterMap_nil]; rfl) ⟨⟨_, (Below.refl _ _).drew⟩, rfl⟩ ?_
        (repeat (first | (with_reducible refine mix_read (by kernel_rfl) ?_; go_big_quiet_want; go_big_quiet_op; go_big_quiet_on; with_reducible refine wpQuiet_nil ?_) | (with_reducible refine mix_pass (by kernel_rfl) ?_; go_big_quiet_skip; with_reducible refine wpQuiet_nil ?_)))
        with_reducible refine mix_end ?_
        intro _
        clear f0
        have HKD : Hid (LkL w wr.drew kb [(2, 0, 0, false), idleS]) := HKR.out.step HB8.out
        clear HB8
        generalize hwd : wr.drew = wd at HKD ⊢
        clear hwd
        go_wp2_with fail
        refine (at_any 2 2 wd (by omega)).mono ?_
        rintro e w8 ⟨v8, rfl, hi, hb⟩
        have HIw8 : Hid (InNew w8 v8 (bitsF 2) [2] ∧ Below wd.heap.size wd w8) := ⟨hi, hb⟩
        clear hi hb
        have D := cyc_l w w8 kb _ v8 (bitsF 2) [2] (HKD.out.step HIw8.out.2) HIw8.out.1 (by simp) [(2, 0, 0, false), idleS] [0] [false, false, false] (by decide +kernel) ⟨_, _, rfl, by decide, by decide⟩
        go_wp2_with fail
        refine D.mono ?_
        rintro e w9 ⟨b1, b2, rfl, ho, hk, hc⟩
        have HKw9 : Hid (LkL w w9 kb [(2, 0, 0, false), idleS]) := hk
        have HOw9 : Hid (OutAt w9 w8.heap.size b1 b2 [0] [false, false, false]) := ho
        clear D hk ho hc
        generalize hch : w9.alloc (.cells #[.slice (some ⟨b1, 0, none⟩) 1 1, .slice (some ⟨b2, 0, none⟩) 3 3] 48) = wa
        have HBwa : Hid (Below w9.heap.size w9 wa) := by show Below _ _ _; rw [← hch]; exact (Below.refl _ _).alloc (Nat.le_refl _) _
        have HXwa : Hid (wa.heap[w9.heap.size]? = some (.cells #[.slice (some ⟨b1, 0, none⟩) 1 1, .slice (some ⟨b2, 0, none⟩) 3 3] 48 (0, 0))) := by show _ = _; rw [← hch]; exact blk_new _ _
        obtain ⟨y0, y1⟩ := cells2 HXwa.out
        have z0 := ((HOw9.out.below HBwa.out).cell1 (p := 0) rfl).1
        have z1 := ((HOw9.out.below HBwa.out).cell2 (p := 0) rfl).1
        go_wp2
        clear hch
        go_roundg (len - (k + 1))
        case rel => exact ⟨k + 1, rfl, by go_num, by omega, HKw9.out.step HBwa.out⟩
        case measure => omega
      · rw [hc] at hand3
        rw [hb2] at hand1
        clear hc hb2
        go_wp2_with fail
        have f0 := ext_cell d1
        haveI := ext_some wr
        have HB8 : Hid (Below wr.heap.size wr wr.drew) := (Below.refl _ _).drew
        clear d1
        refine wp_region_mix_seq (C := fun W => ∃ y : Ext wr, W = y.z) [0, 1, 2, 3, 4, 5, 6, 7, 8, 9, 10, 11, 12, 13] (by kernel_rfl) (by kernel_rfl) (by kernel_rfl) (by kernel_rfl) (by simp only [List.filterMap_cons, List.getElem?_toArray, List.getElem?_cons_zero, List.getElem?_cons_succ, List.filterMap_nil]; rfl) ⟨⟨_, (Below.refl _ _).drew⟩, rfl⟩ ?_
        (repeat (first | (with_reducible refine mix_read (by kernel_rfl) ?_; go_big_quiet_want; go_big_quiet_op; go_big_quiet_on; with_reducible refine wpQuiet_nil ?_) | (with_reducible refine mix_pass (by kernel_rfl) ?_; go_big_quiet_skip; with_reducible refine wpQuiet_nil ?_)))
        with_reducible refine mix_end ?_
        intro _
        clear f0
        have HKD : Hid (LkL w wr.drew kb [(2, 0, 0, false), idleS]) := HKR.out.step HB8.out
        clear HB8
        generalize hwd : wr.drew = wd at HKD ⊢
        clear hwd
        go_wp2_with fail
        refine (at_any 0 0 wd (by omega)).mono ?_
        rintro e w8 ⟨v8, rfl, hi, hb⟩
        have HIw8 : Hid (InNew w8 v8 (bitsF 0) [0] ∧ Below wd.heap.size wd w8) := ⟨hi, hb⟩
        clear hi hb
        have D := cyc_l w w8 kb _ v8 (bitsF 0) [0] (HKD.out.step HIw8.out.2) HIw8.out.1 (by simp) [(2, 0, 0, false), idleS] [0] [false, false, false] (by decide +kernel) ⟨_, _, rfl, by decide, by decide⟩
        go_wp2_with fail
        refine D.mono ?_
        rintro e w9 ⟨b1, b2, rfl, ho, hk, hc⟩
        have HKw9 : Hid (LkL w w9 kb [(2, 0, 0, false), idleS]) := hk
        have HOw9 : Hid (OutAt w9 w8.heap.size b1 b2 [0] [false, false, false]) := ho
        clear D hk ho hc
        generalize hch : w9.alloc (.cells #[.slice (some ⟨b1, 0, none⟩) 1 1, .slice (some ⟨b2, 0, none⟩) 3 3] 48) = wa
        have HBwa : Hid (Below w9.heap.size w9 wa) := by show Below _ _ _; rw [← hch]; exact (Below.refl _ _).alloc (Nat.le_refl _) _
        have HXwa : Hid (wa.heap[w9.heap.size]? = some (.cells #[.slice (some ⟨b1, 0, none⟩) 1 1, .slice (some ⟨b2, 0, none⟩) 3 3] 48 (0, 0))) := by show _ = _; rw [← hch]; exact blk_new _ _
        obtain ⟨y0, y1⟩ := cells2 HXwa.out
        have z0 := ((HOw9.out.below HBwa.out).cell1 (p := 0) rfl).1
        have z1 := ((HOw9.out.below HBwa.out).cell2 (p := 0) rfl).1
        go_wp2
        clear hch
        go_roundg (len - (k + 1))
        case rel => exact ⟨k + 1, rfl, by go_num, by omega, HKw9.out.step HBwa.out⟩
        case measure => omega
      · rw [hc] at hand3
        rw [hb2] at hand1
        clear hc hb2
        go_wp2_with fail
        have f0 := ext_cell d1
        haveI := ext_some wr
        have HB8 : Hid (Below wr.heap.size wr wr.drew) := (Below.refl _ _).drew
        clear d1
        refine wp_region_mix_seq (C := fun W => ∃ y : Ext wr, W = y.z) [0, 1, 2, 3, 4, 5, 6, 7, 8, 9, 10, 11, 12, 13] (by kernel_rfl) (by kernel_rfl) (by kernel_rfl) (by kernel_rfl) (by simp only [List.filterMap_cons, List.getElem?_toArray, List.getElem?_cons_zero, List.getElem?_cons_succ, List.filterMap_nil]; rfl) ⟨⟨_, (Below.refl _ _).drew⟩, rfl⟩ ?_
        (repeat (first | (with_reducible refine mix_read (by kernel_rfl) ?_; go_big_quiet_want; go_big_quiet_op; go_big_quiet_on; with_reducible refine wpQuiet_nil ?_) | (with_reducible refine mix_pass (by kernel_rfl) ?_; go_big_quiet_skip; with_reducible refine wpQuiet_nil ?_)))
        with_reducible refine mix_end ?_
        intro _
        clear f0
        have HKD : Hid (LkL w wr.drew kb [(2, 0, 0, false), idleS]) := HKR.out.step HB8.out
        clear HB8
        generalize hwd : wr.drew = wd at HKD ⊢
        clear hwd
        go_wp2_with fail
        refine (at_any 2 0 wd (by omega)).mono ?_
        rintro e w8 ⟨v8, rfl, hi, hb⟩
        have HIw8 : Hid (InNew w8 v8 (bitsF 2) [0] ∧ Below wd.heap.size wd w8) := ⟨hi, hb⟩
        clear hi hb
        have D := cyc_l w w8 kb _ v8 (bitsF 2) [0] (HKD.out.step HIw8.out.2) HIw8.out.1 (by simp) [(2, 0, 0, false), idleS] [0] [false, false, false] (by decide +kernel) ⟨_, _, rfl, by decide, by decide⟩
        go_wp2_with fail
        refine D.mono ?_
        rintro e w9 ⟨b1, b2, rfl, ho, hk, hc⟩
        have HKw9 : Hid (LkL w w9 kb [(2, 0, 0, false), idleS]) := hk
        have HOw9 : Hid (OutAt w9 w8.heap.size b1 b2 [0] [false, false, false]) := ho
        clear D hk ho hc
        generalize hch : w9.alloc (.cells #[.slice (some ⟨b1, 0, none⟩) 1 1, .slice (some ⟨b2, 0, none⟩) 3 3] 48) = wa
        have HBwa : Hid (Below w9.heap.size w9 wa) := by show Below _ _ _; rw [← hch]; exact (Below.refl _ _).alloc (Nat.le_refl _) _
        have HXwa : Hid (wa.heap[w9.heap.size]? = some (.cells #[.slice (some ⟨b1, 0, none⟩) 1 1, .slice (some ⟨b2, 0, none⟩) 3 3] 48 (0, 0))) := by show _ = _; rw [← hch]; exact blk_new _ _
        obtain ⟨y0, y1⟩ := cells2 HXwa.out
        have z0 := ((HOw9.out.below HBwa.out).cell1 (p := 0) rfl).1
        have z1 := ((HOw9.out.below HBwa.out).cell2 (p := 0) rfl).1
        go_wp2
        clear hch
        go_roundg (len - (k + 1))
        case rel => exact ⟨k + 1, rfl, by go_num, by omega, HKw9.out.step HBwa.out⟩
        case measure => omega
    · have hkn : ¬ (k : Int) < (len : Int) := by omega
      go_wp2_with fail
      refine (known_any _).mono ?_
      rintro e w9 ⟨rfl, hb9⟩
      go_wp2
      go_ret
      exact ⟨rfl, HKR.out.bl.trans (hb9.mono HKR.out.bl.size)⟩

theorem own : ownKnob Try.prog.godebug = none := by kernel_rfl

set_option maxRecDepth 100000 in
theorem lifted (os : Os) (started : os.Started) (H : Type) (enc : TypeId × Value → H) :
    ReturnsInHanded {} Try.checked os 5 .any (Rows.lockDangerSpec.pre6 enc Try.prog Try.f5 Rows.lockDangerRow.domain false) (Rows.lockDangerSpec.post enc Try.prog Try.f5 false true false false) := by
  refine returnsInHanded_of_change (C := Try.checked) own started (by kernel_rfl) Try.func5
    (ChangeSpec.witness6 (enc := enc) (C := Try.checked) false ⟨#[], #[.slice none 0 0], []⟩ 8 (by kernel_rfl) (by kernel_rfl) (by kernel_rfl) (by kernel_rfl)) ?_
  intro W base args ds gs before hval0 hW _ _
  have hval : ∀ (j : Nat) t v, Try.f5.params[j]? = some t → args[j]? = some v → Value.okWide Try.prog W .any base t v := hval0
  have hW' := hW
  obtain ⟨p, q, hA0, hV, rfl, _, _⟩ := hW
  have hA : DataW.TrodAll enc Try.prog W 0 (fun _ => true) true Try.f5.params.toList args.toList ds p := hA0
  rw [Try.params5] at hA hval
  obtain ⟨v0, vs0, d0, ds0, p0, q0, hargs, rfl, rfl, h0, r0⟩ := trodAll_cons hA
  obtain ⟨rfl, rfl, rfl⟩ := trodAll_nil r0
  obtain rfl : args = #[v0] := by cases args; simp_all
  obtain ⟨rfl, rfl⟩ := trodVars_none hV
  obtain ⟨a0, len0, cap0, rfl⟩ := okWide_slice Try.underlying33 (hval 0 33 v0 rfl rfl)
  have k0 := h0
  have lt0 : ∀ x ∈ p0, x.block < W.heap.size := by obtain ⟨m, hm⟩ := k0; exact DataW.trod_lt m _ _ _ hm
  obtain ⟨z0, e0, m0, s0⟩ : ∃ l : List Int, l.length = len0 ∧ len0 ≤ maxLen ∧ hasInts W a0 l := by
    obtain ⟨fuel, hf⟩ := h0
    rcases open_ints Try.underlying33 Try.underlying3 (by kernel_rfl) hf with ⟨hcs, _⟩ | ⟨x, l, c, ss, hcs, _, hl, hm, hz, _, hcell, _⟩
    · simp [Value.cells] at hcs
      obtain ⟨rfl, rfl, rfl⟩ := hcs
      exact ⟨[], rfl, by unfold maxLen; omega, fun j x hj => by simp at hj⟩
    · simp [Value.cells] at hcs
      obtain ⟨rfl, rfl, rfl⟩ := hcs
      have hz' : ss.length = cap0 := by simpa using hz
      have q := ints_of (len := len0) (by omega) hcell
      exact ⟨ss.take len0, q.1, by omega, q.2⟩
  clear hA0 hval0
  refine (walk W a0 len0 cap0 z0 e0 m0 s0 ).mono fun e W' ⟨he, bel⟩ => ?_
  subst he
  exact ⟨_, rfl, _, _, _, [], _, [], hW', trodAll_mk1 (shut_bool Try.underlying4 _), (trodAll_cons_mk (Below.trod laidOut (by kernel_rfl) (of_decide_eq_true (by kernel_rfl)) k0 bel lt0) trodAll_mk0), rfl, bel.frame _, fun h => by cases h⟩

theorem over : Rows.lockDangerRow.holds Try.pinned (OpenSpec.ofChange Rows.lockDangerSpec) :=
  OpenClaim.holds_of_wide 5 Try.f5 rfl rfl rfl rfl rfl rfl rfl ⟨rfl, rfl, rfl, rfl, rfl⟩ rfl rfl rfl rfl rfl (by kernel_rfl) Try.func5 (by kernel_rfl)
    (of_decide_eq_true (by kernel_rfl)) (by unfold Func.isWrapper; first | (rw [if_pos (by decide +kernel)]; kernel_rfl) | (rw [if_neg (by decide +kernel)]; exact ⟨rfl, rfl⟩))
    (fun os started H enc _ => lifted os started H enc)

end Go.Proofs.Ytgacnebihkofcab.lockDanger
namespace Go.Proofs.Ytgacnebihkofcab
theorem lockDanger_holds : Rows.LockDangerSaid := lockDanger.over
#print axioms lockDanger_holds
end Go.Proofs.Ytgacnebihkofcab
