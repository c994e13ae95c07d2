/-
  The reference's Cmp, by a contract: it says what glyph.Cmp says.
-/
import Derived.Test.YtnnhnjccicfdlaaDoorCmp
namespace Go.Proofs.YtnnhnjccicfdlaaDoor
open Go.RowKit

set_option maxRecDepth 1000000 in
set_option maxHeartbeats 4000000 in
theorem refCmp_any (a b : ByteArray) (w : World) (ha : a.size ≤ 4294967296) (hb : b.size ≤ 4294967296) (hT : Lib.Utf8Tabs 0 1 w) :
    Calls Tryd.prog 14 #[.string a, .string b] w fun e w' => e = .returned (.int .i64 (cmpS a.data.toList b.data.toList)) ∧ Below w.heap.size w w' := by
  have hla : (runes a.data.toList).length ≤ a.size := by have := runes_length_le a.data.toList; rw [← Lib.size_eq] at this; omega
  have hlb : (runes b.data.toList).length ≤ b.size := by have := runes_length_le b.data.toList; rw [← Lib.size_eq] at this; omega
  have H0 : Hid (cmpF (runes a.data.toList) (runes b.data.toList) = cmpS a.data.toList b.data.toList) := by simp [Hid, cmpS]
  generalize cmpS a.data.toList b.data.toList = ans at *
  go_enter Tryd.func14, Tryd.ntmps14
  go_wp2_with fail
  refine (refRunes_any a _ ha hT).mono ?_
  rintro e w1 ⟨v, rfl, hown, hb1⟩
  go_wp2_with fail
  refine (refRunes_any b _ hb (tabs_below hT hb1)).mono ?_
  rintro e w2 ⟨v', rfl, hown', hb2⟩
  obtain ⟨oa, cap, rfl, hcl⟩ := hasRunes_below (hasRunes_of_owns hown) hb2
  obtain ⟨ob, cap', rfl, hcl'⟩ := hasRunes_of_owns hown'
  have hbl : Below w.heap.size w w2 := hb1.trans (hb2.mono hb1.size)
  clear hown hown' hT hb1 hb2
  generalize runes a.data.toList = xs at *
  generalize runes b.data.toList = ys at *
  generalize hnx : xs.length = nx at *
  generalize hny : ys.length = ny at *
  have HX : Hid (xs.length = nx) := hnx
  have HY : Hid (ys.length = ny) := hny
  have HCL : Hid (∀ j x, xs[j]? = some x → ∃ g, oa = some ⟨g, 0, none⟩ ∧ w2.cell? ⟨g, j * 3, none⟩ = some (.int .i32 x.1) ∧ w2.cell? ⟨g, j * 3 + 1, none⟩ = some (.int .i64 x.2) ∧ w2.cell? ⟨g, j * 3 + 2, none⟩ = some (.bool (badB x))) := hcl
  have HCL' : Hid (∀ j x, ys[j]? = some x → ∃ g, ob = some ⟨g, 0, none⟩ ∧ w2.cell? ⟨g, j * 3, none⟩ = some (.int .i32 x.1) ∧ w2.cell? ⟨g, j * 3 + 1, none⟩ = some (.int .i64 x.2) ∧ w2.cell? ⟨g, j * 3 + 2, none⟩ = some (.bool (badB x))) := hcl'
  clear hcl hcl' hnx hny
  go_wp2
  go_loopw [7] (fun i wr => ∃ k n : Nat, i = .int .i64 k ∧ k ≤ nx ∧ k ≤ ny ∧ wr = w2.drewN n ∧ cmpF (xs.drop k) (ys.drop k) = ans) (fun i _ => nx - (intOf i).toNat)
  case atStart => exact ⟨0, 0, rfl, by omega, by omega, rfl, H0.out⟩
  case round =>
    obtain ⟨k, n, rfl, hk, hk', rfl, hc⟩ := hrel
    have HC : Hid (cmpF (xs.drop k) (ys.drop k) = ans) := hc
    clear hc H0
    by_cases hlt : k < nx
    · have hdx : ∃ x, xs[k]? = some x ∧ xs.drop k = x :: xs.drop (k + 1) := by
        have hl : k < xs.length := by rw [HX.out]; exact hlt
        exact ⟨xs[k], List.getElem?_eq_getElem _, List.drop_eq_getElem_cons hl⟩
      obtain ⟨x, hxk, hdx⟩ := hdx
      rw [hdx] at HC
      by_cases hlt' : k < ny
      · have hdy : ∃ y, ys[k]? = some y ∧ ys.drop k = y :: ys.drop (k + 1) := by
          have hl : k < ys.length := by rw [HY.out]; exact hlt'
          exact ⟨ys[k], List.getElem?_eq_getElem _, List.drop_eq_getElem_cons hl⟩
        obtain ⟨y, hyk, hdy⟩ := hdy
        rw [hdy] at HC
        obtain ⟨g, rfl, c1, _, _⟩ := HCL.out k x hxk
        obtain ⟨g', rfl, c2, _, _⟩ := HCL'.out k y hyk
        clear HCL HCL' hdx hdy hxk hyk
        obtain ⟨r, wd⟩ := x
        obtain ⟨r', wd'⟩ := y
        simp only at c1 c2
        rw [cmpF] at HC
        simp only at HC
        rcases (show r < r' ∨ r' < r ∨ r = r' by omega) with h | h | h
        · rw [if_pos h] at HC
          have hz : (r : Int) < (r' : Int) := by omega
          go_wp2_with fail
          go_quiet (fail)
          go_wp2
          go_ret
          exact ⟨ret_int HC.out, below_drewN (below_drewN hbl _) _⟩
        · rw [if_neg (by omega), if_pos h] at HC
          have hz : (r' : Int) < (r : Int) := by omega
          have hz' : decide ((r : Int) < (r' : Int)) = false := by simp; omega
          go_wp2_with fail
          go_quiet (fail)
          go_wp2_with fail
          go_quiet (fail)
          go_wp2
          go_ret
          exact ⟨ret_int HC.out, below_drewN (below_drewN (below_drewN hbl _) _) _⟩
        · subst h
          rw [if_neg (by omega), if_neg (by omega)] at HC
          go_wp2_with fail
          go_quiet (fail)
          go_wp2_with fail
          go_quiet (fail)
          go_wp2
          go_roundw
          case rel => exact ⟨k + 1, _, by go_num, by omega, by omega, rfl, HC.out⟩
          case measure => simp [intOf]; omega
      · have hzl : ny < nx := by omega
        have HC2 : Hid ((1 : Int) = ans) := by
          rw [← HC.out, show ys.drop k = [] from List.drop_of_length_le (by rw [HY.out]; omega)]; rfl
        go_wp2
        go_ret
        exact ⟨ret_int HC2.out, below_drewN hbl _⟩
    · have hkx : xs.drop k = [] := List.drop_of_length_le (by rw [HX.out]; omega)
      rw [hkx] at HC
      by_cases hlt' : k < ny
      · have hzl : nx < ny := by omega
        have HC2 : Hid ((-1 : Int) = ans) := by
          have hl : k < ys.length := by rw [HY.out]; exact hlt'
          rw [← HC.out, List.drop_eq_getElem_cons hl]; rfl
        go_wp2
        go_ret
        exact ⟨ret_int HC2.out, below_drewN hbl _⟩
      · have hxy : nx = ny := by omega
        subst hxy
        have HC2 : Hid ((0 : Int) = ans) := by
          rw [← HC.out, List.drop_of_length_le (by rw [HY.out]; omega)]; rfl
        go_wp2
        go_ret
        exact ⟨ret_int HC2.out, below_drewN hbl _⟩
end Go.Proofs.YtnnhnjccicfdlaaDoor
