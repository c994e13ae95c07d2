/-
  The reference's IsName, by a contract: it says what glyph.IsName says.
-/
import Derived.Test.YtgiaicmhnkhbnaaDoorPlTabs
namespace Go.Proofs.YtgiaicmhnkhbnaaDoor
open Go.RowKit

/-- A slice value that holds these runes. -/
def hasRunes (w : World) (v : Value) (rs : List (Nat × Nat)) : Prop :=
  ∃ oa cap, v = .slice oa rs.length cap ∧ ∀ j x, rs[j]? = some x → ∃ g, oa = some ⟨g, 0, none⟩ ∧ w.cell? ⟨g, j * 3, none⟩ = some (.int .i32 x.1) ∧ w.cell? ⟨g, j * 3 + 1, none⟩ = some (.int .i64 x.2) ∧ w.cell? ⟨g, j * 3 + 2, none⟩ = some (.bool (badB x))

theorem runeCells_get : ∀ (rs : List (Nat × Nat)) (j : Nat) (x : Nat × Nat), rs[j]? = some x → (runeCells rs)[j * 3]? = some (.int .i32 x.1) ∧ (runeCells rs)[j * 3 + 1]? = some (.int .i64 x.2) ∧ (runeCells rs)[j * 3 + 2]? = some (.bool (badB x))
  | y :: rs, 0, x, h => by simp at h; subst h; simp [runeCells]
  | y :: rs, j + 1, x, h => by
    have ih := runeCells_get rs j x (by simpa using h)
    have e : runeCells (y :: rs) = .int .i32 y.1 :: .int .i64 y.2 :: .bool (badB y) :: runeCells rs := by simp [runeCells]
    rw [e, show (j + 1) * 3 = j * 3 + 1 + 1 + 1 by omega, show j * 3 + 1 + 1 + 1 + 1 = (j * 3 + 1) + 1 + 1 + 1 by omega, show j * 3 + 1 + 1 + 1 + 2 = (j * 3 + 2) + 1 + 1 + 1 by omega]
    simp only [List.getElem?_cons_succ]
    exact ih

theorem hasRunes_of_owns {w : World} {base : Nat} {e : TypeId} {v : Value} {rs : List (Nat × Nat)} (h : w.ownsRow base e 3 v rs.length (runeCells rs)) : hasRunes w v rs := by
  rcases h.2 with ⟨h1, h2⟩ | ⟨g, cap, cur, h1, _, _, h2, _⟩
  · have e := List.eq_nil_of_length_eq_zero h2
    subst e
    exact ⟨none, 0, h1, fun j x hj => by simp at hj⟩
  · refine ⟨some ⟨g, 0, none⟩, cap, h1, fun j x hj => ⟨g, rfl, ?_⟩⟩
    have hc := h.cells (g := g) (by rw [h1]; rfl)
    have hw := runeCells_get rs j x hj
    have a1 := hc _ _ hw.1
    have a2 := hc _ _ hw.2.1
    have a3 := hc _ _ hw.2.2
    rw [addr_add] at a1 a2 a3
    exact ⟨a1, a2, a3⟩

theorem hasRunes_below {w w' : World} {v : Value} {rs : List (Nat × Nat)} (h : hasRunes w v rs) (hb : Below w.heap.size w w') : hasRunes w' v rs := by
  obtain ⟨oa, cap, h1, h3⟩ := h
  refine ⟨oa, cap, h1, fun j x hj => ?_⟩
  obtain ⟨g, e, c1, c2, c3⟩ := h3 j x hj
  have hlt := World.block_lt_of_cell? w _ c1
  exact ⟨g, e, (hb.cell (p := ⟨g, j * 3, none⟩) hlt).trans c1, (hb.cell (p := ⟨g, j * 3 + 1, none⟩) hlt).trans c2, (hb.cell (p := ⟨g, j * 3 + 2, none⟩) hlt).trans c3⟩

/-- The reference's way: each rune in its place. -/
def refF : Nat → List (Nat × Nat) → Bool
  | _, [] => true
  | k, x :: rs => if badB x = true ∨ (letterB x.1 = false ∧ (k = 0 ∨ digitB x.1 = false)) then false else refF (k + 1) rs

theorem bad_none (x : Nat × Nat) (h : badB x = true) : letterB x.1 = false ∧ digitB x.1 = false := by
  simp only [badB, decide_eq_true_eq] at h
  rw [h.1]
  exact ⟨by decide +kernel, by decide +kernel⟩

theorem refF_name : ∀ (rs : List (Nat × Nat)) (k : Nat), k + rs.length ≤ 8 → nameF k rs = (refF k rs && decide (1 ≤ k + rs.length))
  | [], k, _ => by simp [nameF, refF]; omega
  | x :: rs, k, h => by
    rw [List.length_cons] at h
    have ih := refF_name rs (k + 1) (by omega)
    rw [nameF, refF]
    have hst : standB x.1 k = (letterB x.1 || (decide (0 < k) && digitB x.1)) := by simp [standB]
    by_cases hb : badB x = true
    · obtain ⟨h1, h2⟩ := bad_none x hb
      rw [if_pos (.inr (by rw [hst, h1, h2]; simp)), if_pos (.inl hb)]
      rfl
    · by_cases hc : letterB x.1 = false ∧ (k = 0 ∨ digitB x.1 = false)
      · rw [if_pos (.inr (by rw [hst, hc.1]; rcases hc.2 with h0 | h0 <;> simp [h0])), if_pos (.inr hc)]
        rfl
      · rw [if_neg, if_neg (fun h => h.elim hb hc), ih, List.length_cons, show k + 1 + rs.length = k + (rs.length + 1) by omega]
        rw [hst]
        intro hh
        rcases hh with hh | hh
        · omega
        · apply hc
          revert hh
          cases letterB x.1 <;> cases digitB x.1 <;> simp
theorem nameF_long : ∀ (rs : List (Nat × Nat)) (k : Nat), k ≤ 8 → 8 < k + rs.length → nameF k rs = false
  | [], k, h1, h2 => by simp at h2; omega
  | x :: rs, k, h1, h2 => by
    rw [nameF]
    by_cases h : k = 8 ∨ standB x.1 k = false
    · rw [if_pos h]
    · rw [if_neg h]
      exact nameF_long rs (k + 1) (by omega) (by rw [List.length_cons] at h2; omega)
theorem ref_name (rs : List (Nat × Nat)) : (refF 0 rs && (decide (1 ≤ rs.length) && decide (rs.length ≤ 8))) = nameF 0 rs := by
  by_cases h : rs.length ≤ 8
  · rw [refF_name rs 0 (by omega), Nat.zero_add]
    simp [h]
  · rw [nameF_long rs 0 (by omega) (by omega)]
    simp [h]

set_option maxRecDepth 1000000 in
set_option maxHeartbeats 4000000 in
theorem refName_any (s : ByteArray) (w : World) (hs : s.size ≤ 4294967296) (hT : Lib.Utf8Tabs 0 1 w) :
    Calls Tryd.prog 29 #[.string s] w fun e w' => e = .returned (.bool (nameB s.data.toList)) ∧ Below w.heap.size w w' := by
  have HF : Hid ((refF 0 (runes s.data.toList) && (decide (1 ≤ (runes s.data.toList).length) && decide ((runes s.data.toList).length ≤ 8))) = nameB s.data.toList) := ref_name _
  have hlen : (runes s.data.toList).length ≤ 4294967296 := by have := runes_length_le s.data.toList; rw [← Lib.size_eq] at this; omega
  generalize nameB s.data.toList = ans at *
  go_enter Tryd.func29, Tryd.ntmps29
  go_wp2_with fail
  refine (refRunes_any s _ hs hT).mono ?_
  rintro e w1 ⟨v, rfl, hown, hb1⟩
  obtain ⟨oa, cap, rfl, hcl⟩ := hasRunes_of_owns hown
  clear hown hT
  generalize hrs : runes s.data.toList = rs at *
  have HL : Hid (rs.length = rs.length) := rfl
  generalize hnx : rs.length = nx at *
  have HN : Hid (rs.length = nx) := hnx
  have HCL : Hid (∀ j x, rs[j]? = some x → ∃ g, oa = some ⟨g, 0, none⟩ ∧ w1.cell? ⟨g, j * 3, none⟩ = some (.int .i32 x.1) ∧ w1.cell? ⟨g, j * 3 + 1, none⟩ = some (.int .i64 x.2) ∧ w1.cell? ⟨g, j * 3 + 2, none⟩ = some (.bool (badB x))) := hcl
  clear hcl hnx hrs HL
  go_wp2
  go_loop [4] (fun i => ∃ k : Nat, i = .int .i64 k ∧ k ≤ nx ∧ refF k (rs.drop k) = refF 0 rs) (fun i => nx - (intOf i).toNat)
  case atStart => exact ⟨0, rfl, by omega, by simp⟩
  case round =>
    obtain ⟨k, rfl, hk, hc⟩ := hrel
    have HC : Hid (refF k (rs.drop k) = refF 0 rs) := hc
    clear hc
    by_cases hlt : k < nx
    · obtain ⟨x, hxk⟩ : ∃ x, rs[k]? = some x := ⟨rs[k]'(by rw [HN.out]; exact hlt), List.getElem?_eq_getElem _⟩
      obtain ⟨g, rfl, c1, c2, c3⟩ := HCL.out k x hxk
      have hdr : rs.drop k = x :: rs.drop (k + 1) := by
        obtain ⟨hl, he⟩ := List.getElem?_eq_some_iff.1 hxk
        rw [List.drop_eq_getElem_cons hl, he]
      rw [hdr, refF] at HC
      clear hdr hxk c2
      obtain ⟨r, wd⟩ := x
      simp only at c1 c3 HC
      cases hbad : badB (r, wd)
      · rw [hbad] at c3 HC
        simp only [Bool.false_eq_true, false_or] at HC
        have hL := fun W => refLetter_any (r : Int) W
        cases hle : letterB (r : Int)
        · rw [hle] at hL HC
          simp only [true_and] at HC
          by_cases hk0 : k = 0
          · subst hk0
            simp only [true_or, if_true] at HC
            go_wp2_with (go_at_call 37; refine (hL _).mono ?_; rintro e w' ⟨rfl, rfl⟩)
            go_ret
            refine ⟨ret_bool ?_, hb1⟩
            rw [← HF.out, ← HC.out]
            rfl
          · have hk' : ((k : Int) == 0) = false := by simp; omega
            simp only [hk0, false_or] at HC
            by_cases hd : 48 ≤ (r : Int) ∧ (r : Int) ≤ 57
            · rw [if_neg (by simp [digitB, hd])] at HC
              obtain ⟨hd1, hd2⟩ := hd
              go_wp2_with (go_at_call 37; refine (hL _).mono ?_; rintro e w' ⟨rfl, rfl⟩)
              go_round
              case rel => exact ⟨k + 1, by go_num, by omega, HC.out⟩
              case measure => simp [intOf]; omega
            · rw [if_pos (by simp only [digitB, decide_eq_false_iff_not]; exact hd)] at HC
              rcases (show (r : Int) < 48 ∨ 57 < (r : Int) by omega) with hd | hd
              all_goals
                go_wp2_with (go_at_call 37; refine (hL _).mono ?_; rintro e w' ⟨rfl, rfl⟩)
                go_ret
                refine ⟨ret_bool ?_, hb1⟩
                rw [← HF.out, ← HC.out]
                rfl
        · rw [hle] at hL HC
          simp only [Bool.true_eq_false, false_and, if_false] at HC
          go_wp2_with (go_at_call 37; refine (hL _).mono ?_; rintro e w' ⟨rfl, rfl⟩)
          go_round
          case rel => exact ⟨k + 1, by go_num, by omega, HC.out⟩
          case measure => simp [intOf]; omega
      · rw [hbad] at c3 HC
        go_wp2
        go_ret
        refine ⟨ret_bool ?_, hb1⟩
        rw [← HF.out, ← HC.out]
        simp
    · have h1 := HC.out
      rw [List.drop_of_length_le (by rw [HN.out]; omega), refF] at h1
      rw [← h1, Bool.true_and] at HF
      clear h1
      by_cases hn1 : 1 ≤ nx
      · go_wp2
        go_ret
        refine ⟨ret_bool ?_, hb1⟩
        rw [← HF.out, Bool.eq_iff_iff]
        simp
        omega
      · go_wp2
        go_ret
        refine ⟨ret_bool ?_, hb1⟩
        rw [← HF.out]
        simp [hn1]
end Go.Proofs.YtgiaicmhnkhbnaaDoor
