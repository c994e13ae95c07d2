/-
  Plain facts: the words of a line that is put together of words, with blanks between and behind.
-/
import Derived.Test.YtgiaicmhnkhbnaaDoorPlText
import Derived.Test.YtgiaicmhnkhbnaaDoorWordsP
namespace Go.Proofs.YtgiaicmhnkhbnaaDoor

def mkB (l : List UInt8) : ByteArray := ⟨l.toArray⟩
/-- A text that is one word. -/
def okW (x : List UInt8) : Prop := wholeB x = true ∧ noBlank (runes x) = true ∧ x ≠ []
/-- Words behind the first, each behind the blanks; blanks at the end. -/
def behind (sep tl : List UInt8) (ys : List (List UInt8)) : List UInt8 := ys.flatMap (fun y => sep ++ y) ++ tl

theorem runes_ne {x : List UInt8} (h : x ≠ []) : runes x ≠ [] := by rw [runes_cons x h]; simp

theorem split_blank_in (s : ByteArray) {bs rs : List (Nat × Nat)} (hb : allBlank bs = true) (hne : bs ≠ []) (pos k st a : Nat) :
    splitF s (bs ++ rs) pos k true st a = (s.extract st pos, a) :: splitF s rs (pos + wsum bs) (k + bs.length) false st a := by
  cases bs with
  | nil => exact absurd rfl hne
  | cons b bs =>
    rw [allBlank, List.all_cons, Bool.and_eq_true] at hb
    rw [List.cons_append, splitF_cons, if_pos hb.1, if_pos rfl, split_blanks s bs rs _ _ st a hb.2, wsum, List.length_cons]
    simp only [List.cons_append, List.nil_append]
    congr 2 <;> omega

theorem split_behind (s : ByteArray) (sep tl : List UInt8) (hsep : blankBytes sep = true) (hse : sep ≠ []) (htl : blankBytes tl = true) :
    ∀ (ys : List (List UInt8)) (x pre : List UInt8) (k a : Nat), (∀ y ∈ ys, okW y) → s.data.toList = pre ++ x ++ behind sep tl ys →
      (splitF s (runes (behind sep tl ys)) (pre.length + x.length) k true pre.length a).map (·.1) = mkB x :: ys.map mkB
  | [], x, pre, k, a, _, hs => by
    have hx : s.extract pre.length (pre.length + x.length) = mkB x := extract_piece s pre x (behind sep tl []) hs (mkB x) rfl
    have hb : behind sep tl [] = tl := by simp [behind]
    rw [hb] at hs ⊢
    by_cases ht : tl = []
    · subst ht
      rw [List.append_nil] at hs
      rw [runes_nil, splitF_nil, if_pos rfl]
      have he : s.size = pre.length + x.length := by rw [Lib.size_eq, hs, List.length_append]
      rw [he, hx]
      rfl
    · obtain ⟨bs, h1, h2, _, h4, _⟩ := blankBytes_runes tl [] htl
      rw [List.append_nil, runes_nil, List.append_nil] at h1
      have hbs : bs ≠ [] := by
        intro e
        rw [e] at h4
        exact ht (List.eq_nil_of_length_eq_zero h4.symm)
      have h5 := split_blank_in s (rs := []) h2 hbs (pre.length + x.length) k pre.length a
      rw [List.append_nil] at h5
      rw [h1, h5, splitF_nil, if_neg (by simp), hx]
      rfl
  | y :: ys, x, pre, k, a, hy, hs => by
    have hx : s.extract pre.length (pre.length + x.length) = mkB x := extract_piece s pre x (behind sep tl (y :: ys)) hs (mkB x) rfl
    have hb : behind sep tl (y :: ys) = sep ++ (y ++ behind sep tl ys) := by simp [behind]
    rw [hb] at hs ⊢
    have oky := hy y (by simp)
    obtain ⟨bs, h1, h2, _, h4, h5⟩ := blankBytes_runes sep (y ++ behind sep tl ys) hsep
    have hbs : bs ≠ [] := by
      intro e
      rw [e] at h4
      exact hse (List.eq_nil_of_length_eq_zero h4.symm)
    rw [h1, split_blank_in s h2 hbs, hx, runes_append _ y oky.1, split_start s (runes y) _ _ _ _ _ (runes_ne oky.2.2) oky.2.1, wsum_runes, h5, List.map_cons]
    have ih := split_behind s sep tl hsep hse htl ys y (pre ++ x ++ sep) (k + bs.length + (runes y).length) (k + bs.length) (fun z hz => hy z (by simp [hz])) (by rw [hs]; simp)
    rw [show (pre ++ x ++ sep).length = pre.length + x.length + sep.length by simp [Nat.add_assoc]] at ih
    rw [ih]
    rfl

/-- The words of such a line. -/
theorem words_line (sep tl : List UInt8) (hsep : blankBytes sep = true) (hse : sep ≠ []) (htl : blankBytes tl = true) (x : List UInt8) (ys : List (List UInt8)) (hx : okW x) (hy : ∀ y ∈ ys, okW y) :
    (wordsL (mkB (x ++ behind sep tl ys))).map (·.1) = mkB x :: ys.map mkB := by
  have hs : (mkB (x ++ behind sep tl ys)).data.toList = [] ++ x ++ behind sep tl ys := by simp [mkB]
  have h := split_behind (mkB (x ++ behind sep tl ys)) sep tl hsep hse htl ys x [] (0 + (runes x).length) 0 hy hs
  rw [wordsL, runesAt, List.drop_zero, hs, List.nil_append, runes_append _ x hx.1, split_start _ (runes x) _ 0 0 0 0 (runes_ne hx.2.2) hx.2.1, wsum_runes]
  exact h
theorem whole_behind (sep tl : List UInt8) (hsep : blankBytes sep = true) (htl : blankBytes tl = true) : ∀ (ys : List (List UInt8)), (∀ y ∈ ys, okW y) → wholeB (behind sep tl ys) = true
  | [], _ => by
    have : behind sep tl [] = tl := by simp [behind]
    rw [this]
    exact blankBytes_whole htl
  | y :: ys, h => by
    rw [show behind sep tl (y :: ys) = sep ++ (y ++ behind sep tl ys) by simp [behind]]
    exact whole_append (blankBytes_whole hsep) (whole_append (h y (by simp)).1 (whole_behind sep tl hsep htl ys fun z hz => h z (by simp [hz])))

/-- A line without a remark: what it adds is told by its words. -/
theorem addLine_words (l : Lay) (sep tl : List UInt8) (hsep : blankBytes sep = true) (hse : sep ≠ []) (htl : blankBytes tl = true) (x : List UInt8) (ys : List (List UInt8)) (hx : okW x) (hy : ∀ y ∈ ys, okW y)
    (hr : (35 : UInt8) ∉ x ++ behind sep tl ys) : addLineP l (mkB (x ++ behind sep tl ys)) = addWords l (mkB x :: ys.map mkB) := by
  have hn : noRemark (mkB (x ++ behind sep tl ys)) = mkB (x ++ behind sep tl ys) := noRemark_no hr
  rw [addLineP, hn, words_line sep tl hsep hse htl x ys hx hy, if_pos (show wrongO (mkB (x ++ behind sep tl ys)).data.toList = none from whole_wrong (whole_append hx.1 (whole_behind sep tl hsep htl ys hy)))]
/-- With a remark behind it. -/
theorem addLine_remark (l : Lay) (sep tl rm : List UInt8) (hsep : blankBytes sep = true) (hse : sep ≠ []) (htl : blankBytes tl = true) (x : List UInt8) (ys : List (List UInt8)) (hx : okW x) (hy : ∀ y ∈ ys, okW y)
    (hr : (35 : UInt8) ∉ x ++ behind sep tl ys) : addLineP l (mkB (x ++ behind sep tl ys ++ 35 :: rm)) = addWords l (mkB x :: ys.map mkB) := by
  have hn : noRemark (mkB (x ++ behind sep tl ys ++ 35 :: rm)) = mkB (x ++ behind sep tl ys) := noRemark_at (a := x ++ behind sep tl ys) (rest := rm) rfl hr
  rw [addLineP, hn, words_line sep tl hsep hse htl x ys hx hy, if_pos (show wrongO (mkB (x ++ behind sep tl ys)).data.toList = none from whole_wrong (whole_append hx.1 (whole_behind sep tl hsep htl ys hy)))]

end Go.Proofs.YtgiaicmhnkhbnaaDoor
