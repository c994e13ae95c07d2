/-
  slices.Equal of texts, points, numbers, needs: are two rows one? by contracts.
-/
import Derived.Test.YtgiaicmhnkhbnaaDoorJoin3
namespace Go.Proofs.YtgiaicmhnkhbnaaDoor
open Go.RowKit

set_option maxRecDepth 1000000 in
set_option maxHeartbeats 4000000 in
theorem equalS_any (va vb : Value) (xs ys : List (ByteArray)) (w : World) (ha : rowAt w va 1 sC xs) (hb : rowAt w vb 1 sC ys) (hn : xs.length ≤ 4294967296) :
    Calls Tryd.prog 11 #[va, vb] w fun e w' => e = .returned (.bool (decide (xs = ys))) ∧ ∃ n, w' = w.drewN n := by
  obtain ⟨oa, ca, rfl, h1⟩ := ha
  obtain ⟨ob, cb, rfl, h2⟩ := hb
  have H1 : Hid (∀ j x, xs[j]? = some x → ∃ g off, oa = some ⟨g, off, none⟩ ∧ ∀ i u, (sC x)[i]? = some u → w.cell? ⟨g, off + j * 1 + i, none⟩ = some u) := h1
  have H2 : Hid (∀ j x, ys[j]? = some x → ∃ g off, ob = some ⟨g, off, none⟩ ∧ ∀ i u, (sC x)[i]? = some u → w.cell? ⟨g, off + j * 1 + i, none⟩ = some u) := h2
  clear h1 h2
  by_cases hlen : xs.length = ys.length
  · generalize hx : xs.length = nx at *
    have HN : Hid (xs.length = nx) := hx
    rw [← hlen]
    have HM : Hid (ys.length = nx) := hlen.symm
    have hbl : ((nx : Int) == (nx : Int)) = true := by simp
    clear hx hlen
    go_enter Tryd.func11, Tryd.ntmps11
    go_wp2
    go_loopw [5, 13] (fun _ i wr => ∃ k n : Nat, i = .int .i64 k ∧ k ≤ nx ∧ wr = w.drewN n ∧ xs.take k = ys.take k) (fun _ i _ => nx - (intOf i).toNat)
    case atStart => exact ⟨0, 0, rfl, by omega, rfl, by simp⟩
    case round =>
     obtain ⟨k, n, rfl, hk, rfl, ht⟩ := hrel
     have HT : Hid (xs.take k = ys.take k) := ht
     clear ht
     by_cases hlt : k < nx
     · have hki : (k : Int) < (nx : Int) := by omega
       obtain ⟨x, hxk⟩ : ∃ x, xs[k]? = some x := ⟨xs[k]'(by rw [HN.out]; exact hlt), List.getElem?_eq_getElem _⟩
       obtain ⟨y, hyk⟩ : ∃ y, ys[k]? = some y := ⟨ys[k]'(by rw [HM.out]; exact hlt), List.getElem?_eq_getElem _⟩
       obtain ⟨g, off, rfl, hcx⟩ := H1.out k x hxk
       obtain ⟨g', off', rfl, hcy⟩ := H2.out k y hyk
       have HXK : Hid (xs[k]? = some x) := hxk
       have HYK : Hid (ys[k]? = some y) := hyk
       have a0 := hcx 0 _ rfl
       have b0 := hcy 0 _ rfl
       rw [show off + k * 1 + 0 = off + k by omega] at a0
       rw [show off' + k * 1 + 0 = off' + k by omega] at b0
       clear H1 H2 hxk hyk hcx hcy
       by_cases hxy : x = y
       · have HXY : Hid (x = y) := hxy
         have hb : (x.toList == y.toList) = true := by rw [toList_eq, decide_eq_true hxy]
         clear hxy
         go_wp2_with fail
         go_quiet (fail)
         go_wp2
         go_roundw
         case rel => exact ⟨k + 1, _, by go_num, by omega, rfl, by rw [take_one HXK.out, take_one HYK.out, HT.out, HXY.out]⟩
         case measure => simp [intOf]; omega
       · have HXY : Hid (¬ (x = y)) := hxy
         have hb : (x.toList == y.toList) = false := by rw [toList_eq, decide_eq_false hxy]
         clear hxy
         go_wp2_with fail
         go_quiet (fail)
         go_wp2
         go_ret
         exact ⟨ret_bool (decide_eq_false (rows_no HXK.out HYK.out HXY.out)).symm, _, World.drewN_drewN ..⟩
     · have hki : ¬ (k : Int) < (nx : Int) := by omega
       have HE : Hid (xs = ys) := by
         have := HT.out
         rw [List.take_of_length_le (by rw [HN.out]; omega), List.take_of_length_le (by rw [HM.out]; omega)] at this
         exact this
       go_wp2
       go_ret
       exact ⟨ret_bool (decide_eq_true HE.out).symm, _, rfl⟩
  · have HNE : Hid (¬ xs = ys) := fun e => hlen (by rw [e])
    generalize hx : xs.length = nx at *
    generalize hy : ys.length = ny at *
    have hbl : ((nx : Int) == (ny : Int)) = false := by simp; omega
    clear hx hy hlen
    go_enter Tryd.func11, Tryd.ntmps11
    go_wp2
    go_ret
    exact ⟨ret_bool (decide_eq_false HNE.out).symm, 0, rfl⟩

set_option maxRecDepth 1000000 in
set_option maxHeartbeats 4000000 in
theorem equalP_any (va vb : Value) (xs ys : List (ByteArray × Int)) (w : World) (ha : rowAt w va 2 pC xs) (hb : rowAt w vb 2 pC ys) (hn : xs.length ≤ 4294967296) :
    Calls Tryd.prog 12 #[va, vb] w fun e w' => e = .returned (.bool (decide (xs = ys))) ∧ ∃ n, w' = w.drewN n := by
  obtain ⟨oa, ca, rfl, h1⟩ := ha
  obtain ⟨ob, cb, rfl, h2⟩ := hb
  have H1 : Hid (∀ j x, xs[j]? = some x → ∃ g off, oa = some ⟨g, off, none⟩ ∧ ∀ i u, (pC x)[i]? = some u → w.cell? ⟨g, off + j * 2 + i, none⟩ = some u) := h1
  have H2 : Hid (∀ j x, ys[j]? = some x → ∃ g off, ob = some ⟨g, off, none⟩ ∧ ∀ i u, (pC x)[i]? = some u → w.cell? ⟨g, off + j * 2 + i, none⟩ = some u) := h2
  clear h1 h2
  by_cases hlen : xs.length = ys.length
  · generalize hx : xs.length = nx at *
    have HN : Hid (xs.length = nx) := hx
    rw [← hlen]
    have HM : Hid (ys.length = nx) := hlen.symm
    have hbl : ((nx : Int) == (nx : Int)) = true := by simp
    clear hx hlen
    go_enter Tryd.func12, Tryd.ntmps12
    go_wp2
    go_loopw [5, 13] (fun _ i wr => ∃ k n : Nat, i = .int .i64 k ∧ k ≤ nx ∧ wr = w.drewN n ∧ xs.take k = ys.take k) (fun _ i _ => nx - (intOf i).toNat)
    case atStart => exact ⟨0, 0, rfl, by omega, rfl, by simp⟩
    case round =>
     obtain ⟨k, n, rfl, hk, rfl, ht⟩ := hrel
     have HT : Hid (xs.take k = ys.take k) := ht
     clear ht
     by_cases hlt : k < nx
     · have hki : (k : Int) < (nx : Int) := by omega
       obtain ⟨x, hxk⟩ : ∃ x, xs[k]? = some x := ⟨xs[k]'(by rw [HN.out]; exact hlt), List.getElem?_eq_getElem _⟩
       obtain ⟨y, hyk⟩ : ∃ y, ys[k]? = some y := ⟨ys[k]'(by rw [HM.out]; exact hlt), List.getElem?_eq_getElem _⟩
       obtain ⟨g, off, rfl, hcx⟩ := H1.out k x hxk
       obtain ⟨g', off', rfl, hcy⟩ := H2.out k y hyk
       obtain ⟨x, x2⟩ := x
       obtain ⟨y, y2⟩ := y
       have HXK : Hid (xs[k]? = some (x, x2)) := hxk
       have HYK : Hid (ys[k]? = some (y, y2)) := hyk
       have a0 := hcx 0 _ rfl
       have b0 := hcy 0 _ rfl
       have a1 := hcx 1 _ rfl
       have b1 := hcy 1 _ rfl
       rw [Nat.add_zero] at a0 b0
       clear H1 H2 hxk hyk hcx hcy
       by_cases hxy : x = y ∧ x2 = y2
       · have HXY : Hid (x = y ∧ x2 = y2) := hxy
         have hg := eqGuardPt
         have hb := run_neqPt x y x2 y2
         rw [decide_eq_true hxy] at hb
         clear hxy
         go_wp2_with fail
         go_quiet (fail)
         go_wp2
         go_roundw
         case rel => exact ⟨k + 1, _, by go_num, by omega, rfl, by rw [take_one HXK.out, take_one HYK.out, HT.out, HXY.out.1, HXY.out.2]⟩
         case measure => simp [intOf]; omega
       · have HXY : Hid (¬ (x = y ∧ x2 = y2)) := hxy
         have hg := eqGuardPt
         have hb := run_neqPt x y x2 y2
         rw [decide_eq_false hxy] at hb
         clear hxy
         go_wp2_with fail
         go_quiet (fail)
         go_wp2
         go_ret
         exact ⟨ret_bool (decide_eq_false (rows_no HXK.out HYK.out (fun e => HXY.out (by simpa using e)))).symm, _, World.drewN_drewN ..⟩
     · have hki : ¬ (k : Int) < (nx : Int) := by omega
       have HE : Hid (xs = ys) := by
         have := HT.out
         rw [List.take_of_length_le (by rw [HN.out]; omega), List.take_of_length_le (by rw [HM.out]; omega)] at this
         exact this
       go_wp2
       go_ret
       exact ⟨ret_bool (decide_eq_true HE.out).symm, _, rfl⟩
  · have HNE : Hid (¬ xs = ys) := fun e => hlen (by rw [e])
    generalize hx : xs.length = nx at *
    generalize hy : ys.length = ny at *
    have hbl : ((nx : Int) == (ny : Int)) = false := by simp; omega
    clear hx hy hlen
    go_enter Tryd.func12, Tryd.ntmps12
    go_wp2
    go_ret
    exact ⟨ret_bool (decide_eq_false HNE.out).symm, 0, rfl⟩

set_option maxRecDepth 1000000 in
set_option maxHeartbeats 4000000 in
theorem equalI_any (va vb : Value) (xs ys : List (Int)) (w : World) (ha : rowAt w va 1 iC xs) (hb : rowAt w vb 1 iC ys) (hn : xs.length ≤ 4294967296) :
    Calls Tryd.prog 27 #[va, vb] w fun e w' => e = .returned (.bool (decide (xs = ys))) ∧ ∃ n, w' = w.drewN n := by
  obtain ⟨oa, ca, rfl, h1⟩ := ha
  obtain ⟨ob, cb, rfl, h2⟩ := hb
  have H1 : Hid (∀ j x, xs[j]? = some x → ∃ g off, oa = some ⟨g, off, none⟩ ∧ ∀ i u, (iC x)[i]? = some u → w.cell? ⟨g, off + j * 1 + i, none⟩ = some u) := h1
  have H2 : Hid (∀ j x, ys[j]? = some x → ∃ g off, ob = some ⟨g, off, none⟩ ∧ ∀ i u, (iC x)[i]? = some u → w.cell? ⟨g, off + j * 1 + i, none⟩ = some u) := h2
  clear h1 h2
  by_cases hlen : xs.length = ys.length
  · generalize hx : xs.length = nx at *
    have HN : Hid (xs.length = nx) := hx
    rw [← hlen]
    have HM : Hid (ys.length = nx) := hlen.symm
    have hbl : ((nx : Int) == (nx : Int)) = true := by simp
    clear hx hlen
    go_enter Tryd.func27, Tryd.ntmps27
    go_wp2
    go_loopw [5, 13] (fun _ i wr => ∃ k n : Nat, i = .int .i64 k ∧ k ≤ nx ∧ wr = w.drewN n ∧ xs.take k = ys.take k) (fun _ i _ => nx - (intOf i).toNat)
    case atStart => exact ⟨0, 0, rfl, by omega, rfl, by simp⟩
    case round =>
     obtain ⟨k, n, rfl, hk, rfl, ht⟩ := hrel
     have HT : Hid (xs.take k = ys.take k) := ht
     clear ht
     by_cases hlt : k < nx
     · have hki : (k : Int) < (nx : Int) := by omega
       obtain ⟨x, hxk⟩ : ∃ x, xs[k]? = some x := ⟨xs[k]'(by rw [HN.out]; exact hlt), List.getElem?_eq_getElem _⟩
       obtain ⟨y, hyk⟩ : ∃ y, ys[k]? = some y := ⟨ys[k]'(by rw [HM.out]; exact hlt), List.getElem?_eq_getElem _⟩
       obtain ⟨g, off, rfl, hcx⟩ := H1.out k x hxk
       obtain ⟨g', off', rfl, hcy⟩ := H2.out k y hyk
       have HXK : Hid (xs[k]? = some x) := hxk
       have HYK : Hid (ys[k]? = some y) := hyk
       have a0 := hcx 0 _ rfl
       have b0 := hcy 0 _ rfl
       rw [show off + k * 1 + 0 = off + k by omega] at a0
       rw [show off' + k * 1 + 0 = off' + k by omega] at b0
       clear H1 H2 hxk hyk hcx hcy
       by_cases hxy : x = y
       · have HXY : Hid (x = y) := hxy
         have hb : ((x : Int) == y) = true := by simp [hxy]
         clear hxy
         go_wp2_with fail
         go_quiet (fail)
         go_wp2
         go_roundw
         case rel => exact ⟨k + 1, _, by go_num, by omega, rfl, by rw [take_one HXK.out, take_one HYK.out, HT.out, HXY.out]⟩
         case measure => simp [intOf]; omega
       · have HXY : Hid (¬ (x = y)) := hxy
         have hb : ((x : Int) == y) = false := by simp [hxy]
         clear hxy
         go_wp2_with fail
         go_quiet (fail)
         go_wp2
         go_ret
         exact ⟨ret_bool (decide_eq_false (rows_no HXK.out HYK.out HXY.out)).symm, _, World.drewN_drewN ..⟩
     · have hki : ¬ (k : Int) < (nx : Int) := by omega
       have HE : Hid (xs = ys) := by
         have := HT.out
         rw [List.take_of_length_le (by rw [HN.out]; omega), List.take_of_length_le (by rw [HM.out]; omega)] at this
         exact this
       go_wp2
       go_ret
       exact ⟨ret_bool (decide_eq_true HE.out).symm, _, rfl⟩
  · have HNE : Hid (¬ xs = ys) := fun e => hlen (by rw [e])
    generalize hx : xs.length = nx at *
    generalize hy : ys.length = ny at *
    have hbl : ((nx : Int) == (ny : Int)) = false := by simp; omega
    clear hx hy hlen
    go_enter Tryd.func27, Tryd.ntmps27
    go_wp2
    go_ret
    exact ⟨ret_bool (decide_eq_false HNE.out).symm, 0, rfl⟩

set_option maxRecDepth 1000000 in
set_option maxHeartbeats 4000000 in
theorem equalN_any (va vb : Value) (xs ys : List (Int × Bool)) (w : World) (ha : rowAt w va 2 nC xs) (hb : rowAt w vb 2 nC ys) (hn : xs.length ≤ 4294967296) :
    Calls Tryd.prog 28 #[va, vb] w fun e w' => e = .returned (.bool (decide (xs = ys))) ∧ ∃ n, w' = w.drewN n := by
  obtain ⟨oa, ca, rfl, h1⟩ := ha
  obtain ⟨ob, cb, rfl, h2⟩ := hb
  have H1 : Hid (∀ j x, xs[j]? = some x → ∃ g off, oa = some ⟨g, off, none⟩ ∧ ∀ i u, (nC x)[i]? = some u → w.cell? ⟨g, off + j * 2 + i, none⟩ = some u) := h1
  have H2 : Hid (∀ j x, ys[j]? = some x → ∃ g off, ob = some ⟨g, off, none⟩ ∧ ∀ i u, (nC x)[i]? = some u → w.cell? ⟨g, off + j * 2 + i, none⟩ = some u) := h2
  clear h1 h2
  by_cases hlen : xs.length = ys.length
  · generalize hx : xs.length = nx at *
    have HN : Hid (xs.length = nx) := hx
    rw [← hlen]
    have HM : Hid (ys.length = nx) := hlen.symm
    have hbl : ((nx : Int) == (nx : Int)) = true := by simp
    clear hx hlen
    go_enter Tryd.func28, Tryd.ntmps28
    go_wp2
    go_loopw [5, 13] (fun _ i wr => ∃ k n : Nat, i = .int .i64 k ∧ k ≤ nx ∧ wr = w.drewN n ∧ xs.take k = ys.take k) (fun _ i _ => nx - (intOf i).toNat)
    case atStart => exact ⟨0, 0, rfl, by omega, rfl, by simp⟩
    case round =>
     obtain ⟨k, n, rfl, hk, rfl, ht⟩ := hrel
     have HT : Hid (xs.take k = ys.take k) := ht
     clear ht
     by_cases hlt : k < nx
     · have hki : (k : Int) < (nx : Int) := by omega
       obtain ⟨x, hxk⟩ : ∃ x, xs[k]? = some x := ⟨xs[k]'(by rw [HN.out]; exact hlt), List.getElem?_eq_getElem _⟩
       obtain ⟨y, hyk⟩ : ∃ y, ys[k]? = some y := ⟨ys[k]'(by rw [HM.out]; exact hlt), List.getElem?_eq_getElem _⟩
       obtain ⟨g, off, rfl, hcx⟩ := H1.out k x hxk
       obtain ⟨g', off', rfl, hcy⟩ := H2.out k y hyk
       obtain ⟨x, x2⟩ := x
       obtain ⟨y, y2⟩ := y
       have HXK : Hid (xs[k]? = some (x, x2)) := hxk
       have HYK : Hid (ys[k]? = some (y, y2)) := hyk
       have a0 := hcx 0 _ rfl
       have b0 := hcy 0 _ rfl
       have a1 := hcx 1 _ rfl
       have b1 := hcy 1 _ rfl
       rw [Nat.add_zero] at a0 b0
       clear H1 H2 hxk hyk hcx hcy
       by_cases hxy : x = y ∧ x2 = y2
       · have HXY : Hid (x = y ∧ x2 = y2) := hxy
         have hg := eqGuardNd
         have hb := run_neqNd x y x2 y2
         rw [decide_eq_true hxy] at hb
         clear hxy
         go_wp2_with fail
         go_quiet (fail)
         go_wp2
         go_roundw
         case rel => exact ⟨k + 1, _, by go_num, by omega, rfl, by rw [take_one HXK.out, take_one HYK.out, HT.out, HXY.out.1, HXY.out.2]⟩
         case measure => simp [intOf]; omega
       · have HXY : Hid (¬ (x = y ∧ x2 = y2)) := hxy
         have hg := eqGuardNd
         have hb := run_neqNd x y x2 y2
         rw [decide_eq_false hxy] at hb
         clear hxy
         go_wp2_with fail
         go_quiet (fail)
         go_wp2
         go_ret
         exact ⟨ret_bool (decide_eq_false (rows_no HXK.out HYK.out (fun e => HXY.out (by simpa using e)))).symm, _, World.drewN_drewN ..⟩
     · have hki : ¬ (k : Int) < (nx : Int) := by omega
       have HE : Hid (xs = ys) := by
         have := HT.out
         rw [List.take_of_length_le (by rw [HN.out]; omega), List.take_of_length_le (by rw [HM.out]; omega)] at this
         exact this
       go_wp2
       go_ret
       exact ⟨ret_bool (decide_eq_true HE.out).symm, _, rfl⟩
  · have HNE : Hid (¬ xs = ys) := fun e => hlen (by rw [e])
    generalize hx : xs.length = nx at *
    generalize hy : ys.length = ny at *
    have hbl : ((nx : Int) == (ny : Int)) = false := by simp; omega
    clear hx hy hlen
    go_enter Tryd.func28, Tryd.ntmps28
    go_wp2
    go_ret
    exact ⟨ret_bool (decide_eq_false HNE.out).symm, 0, rfl⟩
end Go.Proofs.YtgiaicmhnkhbnaaDoor
