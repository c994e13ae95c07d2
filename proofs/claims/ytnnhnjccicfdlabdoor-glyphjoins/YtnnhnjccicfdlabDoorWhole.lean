/-
  The law's own 'whole' (has a text no wrong rune?), by a contract.
-/
import Derived.Test.YtnnhnjccicfdlabDoorWholeP
import Derived.Test.YtnnhnjccicfdlabDoorRefName
namespace Go.Proofs.YtnnhnjccicfdlabDoor
open Go.RowKit

set_option maxRecDepth 1000000 in
set_option maxHeartbeats 2000000 in
theorem whole_any (s : ByteArray) (w : World) (hs : s.size ≤ 4294967296) (hT : Lib.Utf8Tabs 0 1 w) :
    Calls Tryd.prog 7 #[.string s] w fun e w' => e = .returned (.bool (wholeB s.data.toList)) ∧ Below w.heap.size w w' := by
  have hlen : (runes s.data.toList).length ≤ 4294967296 := by have := runes_length_le s.data.toList; rw [← Lib.size_eq] at this; omega
  have HW : Hid (wholeL (runes s.data.toList) = wholeB s.data.toList) := rfl
  generalize wholeB s.data.toList = ans at *
  go_enter Tryd.func7, Tryd.ntmps7
  go_wp2_with fail
  refine (refRunes_any s _ hs hT).mono ?_
  rintro e w1 ⟨v, rfl, hown, hb1⟩
  obtain ⟨oa, cap, rfl, hcl⟩ := hasRunes_of_owns hown
  clear hown hT
  generalize runes s.data.toList = rs at *
  generalize hnx : rs.length = nx at *
  have HN : Hid (rs.length = nx) := hnx
  have HCL : Hid (∀ j x, rs[j]? = some x → ∃ g, oa = some ⟨g, 0, none⟩ ∧ w1.cell? ⟨g, j * 3, none⟩ = some (.int .i32 x.1) ∧ w1.cell? ⟨g, j * 3 + 1, none⟩ = some (.int .i64 x.2) ∧ w1.cell? ⟨g, j * 3 + 2, none⟩ = some (.bool (badB x))) := hcl
  clear hcl hnx
  go_wp2
  go_loop [4] (fun i => ∃ k : Nat, i = .int .i64 k ∧ k ≤ nx ∧ wholeL (rs.drop k) = ans) (fun i => nx - (intOf i).toNat)
  case atStart => exact ⟨0, rfl, by omega, HW.out⟩
  case round =>
    obtain ⟨k, rfl, hk, hc⟩ := hrel
    have HC : Hid (wholeL (rs.drop k) = ans) := hc
    clear hc HW
    by_cases hlt : k < nx
    · have hdx : ∃ x, rs[k]? = some x ∧ rs.drop k = x :: rs.drop (k + 1) := by
        have hl : k < rs.length := by rw [HN.out]; exact hlt
        exact ⟨rs[k], List.getElem?_eq_getElem _, List.drop_eq_getElem_cons hl⟩
      obtain ⟨x, hxk, hdx⟩ := hdx
      obtain ⟨g, rfl, _, _, c3⟩ := HCL.out k x hxk
      rw [hdx, wholeL, List.all_cons] at HC
      clear hdx hxk
      cases hb : badB x
      · rw [hb] at c3 HC
        have HC2 : Hid (wholeL (rs.drop (k + 1)) = ans) := by rw [← HC.out]; simp [Hid, wholeL]
        clear HC
        go_wp2
        go_round
        case rel => exact ⟨k + 1, by go_num, by omega, HC2.out⟩
        case measure => simp [intOf]; omega
      · rw [hb] at c3 HC
        have HC2 : Hid (false = ans) := by rw [← HC.out]; simp [Hid]
        clear HC
        go_wp2
        go_ret
        exact ⟨ret_bool HC2.out, hb1⟩
    · have HC2 : Hid (true = ans) := by rw [← HC.out, List.drop_of_length_le (by rw [HN.out]; omega)]; rfl
      go_wp2
      go_ret
      exact ⟨ret_bool HC2.out, hb1⟩
end Go.Proofs.YtnnhnjccicfdlabDoor
