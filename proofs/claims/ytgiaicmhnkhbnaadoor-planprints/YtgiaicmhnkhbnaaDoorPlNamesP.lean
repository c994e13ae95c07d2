/-
  Plain facts: two lines, a section's name in each, parsed.
-/
import Derived.Test.YtgiaicmhnkhbnaaDoorPlBackP
namespace Go.Proofs.YtgiaicmhnkhbnaaDoor

theorem name_wok {x : ByteArray} (hn : nameB x.data.toList = true) : WOk x := by
  obtain ⟨h1, h2, h3, _⟩ := name_parts hn
  have hne : bytesOf x ≠ [] := fun e => h3 (by rw [show x.data.toList = [] from e]; rfl)
  refine ⟨⟨h2, h1, hne⟩, fun e => ?_, fun e => ?_⟩
  · obtain ⟨d, hd, e2⟩ := mem_rune (by decide) e
    have := nameF_high _ 0 hn d hd
    rw [e2] at this
    exact absurd this (by decide)
  · obtain ⟨d, hd, e2⟩ := mem_rune (by decide) e
    have := nameF_high _ 0 hn d hd
    rw [e2] at this
    exact absurd this (by decide)
theorem section_wok : WOk kSection := name_wok (by decide +kernel)
theorem laid_plain : Laid [32] [] [] := ⟨by decide, by decide, by simp, .inl rfl⟩
/-- A line that names a section. -/
def secB (a : ByteArray) : List UInt8 := lineB [32] [] [kSection, a] ++ []
theorem secB_is (a : ByteArray) : secB a = [115, 101, 99, 116, 105, 111, 110, 32] ++ a.data.toList := by
  simp [secB, lineB, behind, bytesOf, kSection]
theorem sec_add (l : Lay) {a : ByteArray} (h : nameB a.data.toList = true) : addLineP l (mkB (secB a)) = addWords l [kSection, a] :=
  addLine_lineB l laid_plain (by simp) (by
    intro w hw
    simp at hw
    rcases hw with rfl | rfl
    · exact section_wok
    · exact name_wok h)
theorem sec_feed {a : ByteArray} (h : nameB a.data.toList = true) : (10 : UInt8) ∉ secB a := by
  rw [secB, List.append_nil]
  exact mem_lineB (by decide) (by decide) (fun w hw => by
    simp at hw
    rcases hw with rfl | rfl
    · exact section_wok.feed
    · exact (name_wok h).feed)
theorem add_no (l : Lay) {a : ByteArray} (h : capB a = false) : ∃ l', addWords l [kSection, a] = (3, l') := by
  refine ⟨(addWords l [kSection, a]).2, Prod.ext ?_ rfl⟩
  simp [addWords, addNameP, rName, rNext, h, failE, rEnd]
theorem add_twice (l : Lay) {a : ByteArray} (h : capB a = true) (hi : idx l.sections a ≠ -1) : ∃ l', addWords l [kSection, a] = (4, l') := by
  refine ⟨(addWords l [kSection, a]).2, Prod.ext ?_ rfl⟩
  simp [addWords, addNameP, rName, rNext, h, rEnd, hi]
theorem parse_lastbad {f n e : Nat} {l l' : Lay} {s : ByteArray} (hz : s.size ≠ 0) (hn : (10 : UInt8) ∉ s.data.toList) (h60 : n < 60) (ha : addLineP l s = (e, l')) (he : e ≠ 0) : parseF (f + 1) l n s = (.zero, n + 1, e) := by
  rw [parseF, if_neg hz, if_neg (by omega), cutLine_no hn, ha]
  exact if_neg he
theorem sec_size (b : ByteArray) : (mkB (secB b)).size ≠ 0 := by
  rw [secB_is]
  show ([115, 101, 99, 116, 105, 111, 110, 32] ++ b.data.toList).toArray.size ≠ 0
  rw [List.size_toArray, List.length_append]
  exact Nat.ne_of_gt (Nat.lt_of_lt_of_le (by decide) (Nat.le_add_right _ _))

def twoT (a b : ByteArray) : ByteArray := mkB (secB a ++ 10 :: secB b)
theorem two_ok {a b : ByteArray} (ha : capB a = true) (hb : capB b = true) (hab : a ≠ b) : parseP (twoT a b) = ({ Lay.zero with sections := [a, b] }, 2, 0) := by
  have e1 : addLineP .zero ⟨(secB a).toArray⟩ = (0, { Lay.zero with sections := [a] }) := (sec_add _ (cap_name ha)).trans (add_section .zero a ha rfl (by decide))
  have e2 : addLineP { Lay.zero with sections := [a] } (mkB (secB b)) = (0, { Lay.zero with sections := [a, b] }) :=
    (sec_add _ (cap_name hb)).trans (add_section { Lay.zero with sections := [a] } b hb (by simp [idx, idxF, Ne.symm hab]) (by simp))
  have hz := sec_size b
  rw [parseP, parse_ok (f := 60) (rest := secB b) rfl (sec_feed (cap_name ha)) (by omega) e1]
  exact (parse_last (f := 59) hz (sec_feed (cap_name hb)) (by omega) e2).trans (parse_end _ _ _)
theorem two_no {a b : ByteArray} (ha : nameB a.data.toList = true) (hb : nameB b.data.toList = true) (h : ¬ (capB a = true ∧ capB b = true ∧ a ≠ b)) : ∃ n e, parseP (twoT a b) = (.zero, n, e) ∧ e ≠ 0 := by
  cases ca : capB a
  · obtain ⟨l', e1⟩ := add_no .zero ca
    exact ⟨1, 3, parse_bad (f := 60) (rest := secB b) rfl (sec_feed ha) (by omega) ((sec_add _ ha).trans e1) (by decide), by decide⟩
  · have e1 : addLineP .zero ⟨(secB a).toArray⟩ = (0, { Lay.zero with sections := [a] }) := (sec_add _ ha).trans (add_section .zero a ca rfl (by decide))
    have st : parseP (twoT a b) = parseF 60 { Lay.zero with sections := [a] } 1 (mkB (secB b)) := parse_ok (f := 60) (rest := secB b) rfl (sec_feed ha) (by omega) e1
    cases cb : capB b
    · obtain ⟨l', e2⟩ := add_no { Lay.zero with sections := [a] } cb
      exact ⟨2, 3, st.trans (parse_lastbad (f := 59) (sec_size b) (sec_feed hb) (by omega) ((sec_add _ hb).trans e2) (by decide)), by decide⟩
    · have hab : a = b := Classical.byContradiction fun hne => h ⟨ca, cb, hne⟩
      obtain ⟨l', e2⟩ := add_twice { Lay.zero with sections := [a] } cb (by simp [idx, idxF, hab])
      exact ⟨2, 4, st.trans (parse_lastbad (f := 59) (sec_size b) (sec_feed hb) (by omega) ((sec_add _ hb).trans e2) (by decide)), by decide⟩
end Go.Proofs.YtgiaicmhnkhbnaaDoor
