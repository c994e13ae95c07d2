/-
  The reference's Name, by a contract.
-/
import Derived.Test.YtgiaicmhnkhbnaaDoorPlRefName
import Derived.Test.YtgiaicmhnkhbnaaDoorPlNamesP
namespace Go.Proofs.YtgiaicmhnkhbnaaDoor
open Go.RowKit

set_option maxRecDepth 1000000 in
set_option maxHeartbeats 4000000 in
theorem refCap_any (s : ByteArray) (w : World) (hs : s.size ≤ 4294967296) (hT : Lib.Utf8Tabs 0 1 w) :
    Calls Tryd.prog 18 #[.string s] w fun e w' => e = .returned (.bool (capB s)) ∧ Below w.heap.size w w' := by
  have N := refName_any s w hs hT
  clear hT
  cases hn : nameB s.data.toList
  · have HC : Hid (capB s = false) := by simp [Hid, capB, hn]
    rw [hn] at N
    rw [HC.out]
    go_enter Tryd.func18, Tryd.ntmps18
    go_wp2_with fail
    refine N.mono ?_
    rintro e w1 ⟨rfl, hb1⟩
    go_wp2
    go_ret
    exact ⟨rfl, hb1⟩
  · rw [hn] at N
    by_cases h1 : s = kSet
    · subst h1
      rw [show capB kSet = false by decide +kernel]
      rw [kSet] at N ⊢
      go_enter Tryd.func18, Tryd.ntmps18
      go_wp2_with fail
      refine N.mono ?_
      rintro e w1 ⟨rfl, hb1⟩
      go_wp2
      go_ret
      exact ⟨rfl, hb1⟩
    · by_cases h2 : s = kFlank
      · subst h2
        rw [show capB kFlank = false by decide +kernel]
        rw [kFlank] at N ⊢
        go_enter Tryd.func18, Tryd.ntmps18
        go_wp2_with fail
        refine N.mono ?_
        rintro e w1 ⟨rfl, hb1⟩
        go_wp2
        go_ret
        exact ⟨rfl, hb1⟩
      · have HC : Hid (capB s = true) := by simp [Hid, capB, hn, endsB, h1, h2]
        rw [HC.out]
        have d1 : ¬ s.toList = [115, 101, 116] := fun h => h1 (bytes_ext (by rw [← Lib.toList_data, h]))
        have d2 : ¬ s.toList = [102, 108, 97, 110, 107] := fun h => h2 (bytes_ext (by rw [← Lib.toList_data, h]))
        go_enter Tryd.func18, Tryd.ntmps18
        go_wp2_with fail
        refine N.mono ?_
        rintro e w1 ⟨rfl, hb1⟩
        go_wp2
        go_ret
        exact ⟨ret_bool (by simp [d1, d2]), hb1⟩
end Go.Proofs.YtgiaicmhnkhbnaaDoor
