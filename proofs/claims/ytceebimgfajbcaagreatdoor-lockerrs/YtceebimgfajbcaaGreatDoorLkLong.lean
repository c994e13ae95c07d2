/-
  The law's long, by a contract.
-/
import Derived.Test.YtceebimgfajbcaaGreatDoorLawActs5
namespace Go.Proofs.YtceebimgfajbcaaGreatDoor
open Go.RowKit

def wideB (x : Ac5) : Bool := decide (50 < x.2.1.1.length) || decide (50 < x.2.1.2.length)
def longOne (x : Ac5) : Bool := wideB x || decide (50 < x.2.2.2.length)
/-- Are acts more than is looked at? -/
def longB (ls : List Ac5) : Bool := (ls.take 60).any longOne
theorem long_yes {ls : List Ac5} {k : Nat} {x : Ac5} (hk : k < 60) (hx : ls[k]? = some x) (h : longOne x = true) : longB ls = true :=
  List.any_eq_true.2 ⟨x, List.mem_of_getElem? (i := k) (by rw [List.getElem?_take, if_pos hk]; exact hx), h⟩
theorem long_no {ls : List Ac5} (h : ∀ (k : Nat) (x : Ac5), k < 60 → ls[k]? = some x → longOne x = false) : longB ls = false :=
  List.any_eq_false.2 fun x hx => by
    obtain ⟨k, hk⟩ := List.getElem?_of_mem hx
    rw [List.getElem?_take] at hk
    split at hk
    · rename_i hlt
      rw [h k x hlt hk]
      decide
    · cases hk
theorem not_long {ls : List Ac5} (h : longB ls = false) {k : Nat} {x : Ac5} (hk : k < 60) (hx : ls[k]? = some x) : x.2.1.1.length ≤ 50 ∧ x.2.1.2.length ≤ 50 ∧ x.2.2.2.length ≤ 50 := by
  have := List.any_eq_false.1 h x (List.mem_of_getElem? (i := k) (by rw [List.getElem?_take, if_pos hk]; exact hx))
  rw [longOne, wideB] at this
  simp at this
  omega
set_option maxRecDepth 1000000 in
set_option maxHeartbeats 4000000 in
theorem long_any (oa : Option Addr) (c : Nat) (ls : List Ac5) (w : World) (h : hasActs5 w oa ls) (hl : ls.length ≤ maxLen) :
    Calls Tryz.prog 6 #[.slice oa ls.length c] w fun e w' => e = .returned (.bool (longB ls)) ∧ Below w.heap.size w w' := by
  have HA : Hid (hasActs5 w oa ls) := h
  unfold maxLen at hl
  clear h
  go_enter Tryz.func6, Tryz.ntmps6
  go_wp2
  go_loopg [3] 60 (fun gk i wr => ∃ k : Nat, gk = 60 - k ∧ i = .int .i64 k ∧ k ≤ 60 ∧ k ≤ ls.length ∧ (∀ j x, j < k → ls[j]? = some x → longOne x = false) ∧ Below w.heap.size w wr)
  case atStart => exact ⟨0, rfl, rfl, by omega, by omega, by omega, Below.refl _ _⟩
  case round =>
    obtain ⟨k, rfl, rfl, hk, hkn, hgood, hb⟩ := hrel
    have HG : Hid (∀ j x, j < k → ls[j]? = some x → longOne x = false) := hgood
    have HB : Hid (Below w.heap.size w wr) := hb
    clear hgood hb
    by_cases hlt : k < ls.length
    · by_cases h60 : k < 60
      · obtain ⟨x, hx⟩ := at_of hlt
        have HX : Hid (ls[k]? = some x) := hx
        obtain ⟨b, off, rfl, v, c0, c1, c2, c3, c4, c5, hin, hr⟩ := (HA.out.below HB.out) k x hx
        have WD : Hid (∀ W, Below wr.heap.size wr W → Calls Tryz.prog 22 #[.agg #[v 0, v 1]] W fun e w' => e = .returned (.bool (wideB x)) ∧ Below W.heap.size W w') := fun W hW => wide_any v _ _ W (hin.below hW)
        have HO : Hid (longOne x = (wideB x || decide (50 < x.2.2.2.length))) := rfl
        obtain ⟨o5, n5, e5, -⟩ := hr
        rw [e5] at c5
        have d1 : wr.cell? ⟨b, off + k * 6 + 1 + 0, none⟩ = some (v 0) := c1
        have d2 : wr.cell? ⟨b, off + k * 6 + 1 + 1, none⟩ = some (v 1) := c2
        have hki : (k : Int) < (ls.length : Int) := by omega
        have hkj : (k : Int) < 60 := by omega
        clear hx hin c0 c3 c4
        generalize wideB x = wb at *
        generalize x.2.2.2.length = n6 at *
        cases wb
        · by_cases hn : 50 < n6
          · have hni : (50 : Int) < (n6 : Int) := by omega
            have HY : Hid (longB ls = true) := long_yes h60 HX.out (by rw [HO.out, decide_eq_true hn]; rfl)
            go_wp2_with fail
            refine (WD.out _ (Below.refl _ _)).mono ?_
            rintro e w2 ⟨rfl, hb2⟩
            have c5' := cell_kept hb2 c5
            have HB2 : Hid (Below w.heap.size w w2) := HB.out.trans (hb2.mono HB.out.size)
            clear hb2 c5 c1 c2 d1 d2
            go_wp2
            go_ret
            exact ⟨ret_bool HY.out.symm, HB2.out⟩
          · have hni : ¬ (50 : Int) < (n6 : Int) := by omega
            have HN : Hid (longOne x = false) := by show _ = _; rw [HO.out, decide_eq_false hn]; rfl
            go_wp2_with fail
            refine (WD.out _ (Below.refl _ _)).mono ?_
            rintro e w2 ⟨rfl, hb2⟩
            have c5' := cell_kept hb2 c5
            have HB2 : Hid (Below w.heap.size w w2) := HB.out.trans (hb2.mono HB.out.size)
            clear hb2 c5 c1 c2 d1 d2
            go_wp2
            go_roundg (60 - (k + 1))
            case rel =>
              refine ⟨k + 1, rfl, by go_num, by omega, by omega, fun j y hj hy => ?_, HB2.out⟩
              by_cases hjk : j < k
              · exact HG.out j y hjk hy
              · obtain rfl : j = k := by omega
                obtain rfl := Option.some.inj (HX.out.symm.trans hy)
                exact HN.out
            case measure => omega
        · have HY : Hid (longB ls = true) := long_yes h60 HX.out (by rw [HO.out]; rfl)
          go_wp2_with fail
          refine (WD.out _ (Below.refl _ _)).mono ?_
          rintro e w2 ⟨rfl, hb2⟩
          have HB2 : Hid (Below w.heap.size w w2) := HB.out.trans (hb2.mono HB.out.size)
          clear hb2 c5 c1 c2 d1 d2
          go_wp2
          go_ret
          exact ⟨ret_bool HY.out.symm, HB2.out⟩
      · have hki : (k : Int) < (ls.length : Int) := by omega
        have hkj : ¬ (k : Int) < 60 := by omega
        have HN : Hid (longB ls = false) := long_no fun j x hj hx => HG.out j x (by omega) hx
        go_wp2
        go_ret
        exact ⟨ret_bool HN.out.symm, HB.out⟩
    · have hki : ¬ (k : Int) < (ls.length : Int) := by omega
      have HN : Hid (longB ls = false) := long_no fun j x hj hx => HG.out j x (by have := (List.getElem?_eq_some_iff.1 hx).1; omega) hx
      go_wp2
      go_ret
      exact ⟨ret_bool HN.out.symm, HB.out⟩
end Go.Proofs.YtceebimgfajbcaaGreatDoor
