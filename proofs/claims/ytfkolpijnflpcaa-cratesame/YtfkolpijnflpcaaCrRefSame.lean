/-
  The reference's Same, by a contract.
-/
import Derived.Test.YtfkolpijnflpcaaCrRef
namespace Go.Proofs.Ytfkolpijnflpcaa
open Go.RowKit

theorem take_moreT {l : List Th} {k : Nat} {x : Th} (h : l[k]? = some x) : l.take (k + 1) = l.take k ++ [x] := by
  obtain ⟨hl, rfl⟩ := List.getElem?_eq_some_iff.1 h
  rw [List.take_succ_eq_append_getElem hl]

set_option maxRecDepth 1000000 in
set_option maxHeartbeats 4000000 in
theorem refSame_some (c d : Nat) (oa ob : Option Addr) (cap cap' nx : Nat) (xs ys : List Th) (w : World) (hx : nx ≤ 1000) (HN : Hid (xs.length = nx)) (HM : Hid (ys.length = nx))
    (hc : w.cell? ⟨c, 0, none⟩ = some (.slice oa nx cap)) (hd : w.cell? ⟨d, 0, none⟩ = some (.slice ob nx cap'))
    (h1 : ∀ j x, xs[j]? = some x → ∃ g, oa = some ⟨g, 0, none⟩ ∧ w.cell? ⟨g, j * 4, none⟩ = some (.int .i64 x.k) ∧ w.cell? ⟨g, j * 4 + 1, none⟩ = some (.int .i64 x.n) ∧ w.cell? ⟨g, j * 4 + 2, none⟩ = some (.string x.s) ∧ w.cell? ⟨g, j * 4 + 3, none⟩ = some (.bool x.b))
    (h2 : ∀ j x, ys[j]? = some x → ∃ g, ob = some ⟨g, 0, none⟩ ∧ w.cell? ⟨g, j * 4, none⟩ = some (.int .i64 x.k) ∧ w.cell? ⟨g, j * 4 + 1, none⟩ = some (.int .i64 x.n) ∧ w.cell? ⟨g, j * 4 + 2, none⟩ = some (.string x.s) ∧ w.cell? ⟨g, j * 4 + 3, none⟩ = some (.bool x.b)) :
    Calls Try.prog 17 #[.pointer (some ⟨c, 0, none⟩), .pointer (some ⟨d, 0, none⟩)] w fun e w' => e = .returned (.bool (decide (xs.map Th.tup = ys.map Th.tup))) ∧ ∃ n, w' = w.drewN n := by
  have H1 : Hid _ := h1
  have H2 : Hid _ := h2
  clear h1 h2
  have hnn : ((nx : Int) != (nx : Int)) = false := by simp
  go_enter Try.func17, Try.ntmps17
  go_wp2
  go_quiet (fail)
  go_wp2
  go_loopw [5] (fun i wr => ∃ k n : Nat, i = .int .i64 k ∧ k ≤ nx ∧ wr = w.drewN n ∧ xs.take k = ys.take k) (fun i _ => nx - (intOf i).toNat)
  case atStart => exact ⟨0, _, rfl, by omega, rfl, by simp⟩
  case round =>
    obtain ⟨k, n, rfl, hk, rfl, ht⟩ := hrel
    have HT : Hid (xs.take k = ys.take k) := ht
    clear ht
    by_cases hlt : k < nx
    · have hki : (k : Int) < (nx : Int) := by omega
      obtain ⟨x, hxk⟩ : ∃ x, xs[k]? = some x := ⟨xs[k]'(by rw [HN.out]; exact hlt), List.getElem?_eq_getElem _⟩
      obtain ⟨y, hyk⟩ : ∃ y, ys[k]? = some y := ⟨ys[k]'(by rw [HM.out]; exact hlt), List.getElem?_eq_getElem _⟩
      obtain ⟨g, rfl, a1, a2, a3, a4⟩ := H1.out k x hxk
      obtain ⟨g', rfl, b1, b2, b3, b4⟩ := H2.out k y hyk
      have HXK : Hid (xs[k]? = some x) := hxk
      have HYK : Hid (ys[k]? = some y) := hyk
      clear H1 H2 hxk hyk
      have e1 := run_neqT x y
      have e2 := eqGuardT
      by_cases hxy : x = y
      · rw [decide_eq_true (congrArg Th.tup hxy)] at e1
        have HXY : Hid (x = y) := hxy
        clear hxy
        go_wp2_with fail
        go_quiet (fail)
        go_wp2
        go_roundw
        case rel => exact ⟨k + 1, _, by go_num, by omega, rfl, by rw [take_moreT HXK.out, take_moreT HYK.out, HT.out, HXY.out]⟩
        case measure => simp [intOf]; omega
      · rw [decide_eq_false (fun e => hxy (tup_inj e))] at e1
        have HXY : Hid (¬ x = y) := hxy
        clear hxy
        go_wp2_with fail
        go_quiet (fail)
        go_wp2
        go_ret
        refine ⟨ret_bool ?_, _, World.drewN_drewN ..⟩
        symm
        rw [decide_eq_false_iff_not]
        intro e'
        have e := map_tup e'
        have := HXK.out
        rw [e, HYK.out] at this
        exact HXY.out (Option.some.inj this).symm
    · go_wp2
      go_ret
      refine ⟨ret_bool ?_, _, rfl⟩
      symm
      rw [decide_eq_true_eq]
      have := HT.out
      rw [List.take_of_length_le (by rw [HN.out]; omega), List.take_of_length_le (by rw [HM.out]; omega)] at this
      rw [this]

set_option maxRecDepth 1000000 in
set_option maxHeartbeats 1000000 in
theorem refSame_any (p q : Value) (xs ys : List Th) (w : World) (h1 : ReadsT w p xs) (h2 : ReadsT w q ys) :
    Calls Try.prog 17 #[p, q] w fun e w' => e = .returned (.bool (decide (xs.map Th.tup = ys.map Th.tup))) ∧ ∃ n, w' = w.drewN n := by
  obtain ⟨c, oa, cap, rfl, hc, _, hl, h1⟩ := h1
  obtain ⟨d, ob, cap', rfl, hd, _, hl', h2⟩ := h2
  by_cases he : xs.length = ys.length
  · rw [← he] at hd
    exact refSame_some c d oa ob cap cap' xs.length xs ys w hl rfl he.symm hc hd h1 h2
  · have hdd : decide (xs.map Th.tup = ys.map Th.tup) = false := by
      rw [decide_eq_false_iff_not]
      intro e
      exact he (by rw [map_tup e])
    rw [hdd]
    clear h1 h2 hdd
    generalize xs.length = nx at *
    generalize ys.length = ny at *
    have hb : ((nx : Int) != (ny : Int)) = true := by rw [bne_iff_ne]; omega
    go_enter Try.func17, Try.ntmps17
    go_wp2
    go_quiet (fail)
    go_wp2
    go_ret
    exact ⟨rfl, _, rfl⟩

end Go.Proofs.Ytfkolpijnflpcaa
