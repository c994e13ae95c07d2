/-
  Plain: a layout that may be has lines; the text that the reference prints, word by word.
-/
import Derived.Test.YtgiaicmhnkhbnaaDoorLyIs
import Derived.Test.YtgiaicmhnkhbnaaDoorPlBackP
namespace Go.Proofs.YtgiaicmhnkhbnaaDoor

theorem needsF_rise (l : Lay) (path : List Int) (b : Bool) : ∀ (ns : List (Int × Bool)) (pr : Option Int), needsF l path b pr ns = true → (∀ n ∈ ns, 0 ≤ n.1 ∧ n.1 < l.points.length) ∧ (∀ q, pr = some q → 0 ≤ q → ns = [] ∨ q + ns.length < l.points.length) ∧ ns.length ≤ l.points.length
  | [], pr, _ => ⟨by simp, fun _ _ _ => .inl rfl, by simp⟩
  | x :: ns, pr, h => by
    rw [needsF, Bool.and_eq_true, needOk, Bool.and_eq_true, Bool.and_eq_true, decide_eq_true_eq] at h
    obtain ⟨⟨⟨h1, h2⟩, h3, _⟩, h4⟩ := h
    obtain ⟨i1, i2, i3⟩ := needsF_rise l path b ns _ h4
    have i2' := i2 x.1 rfl h1
    have hrest : x.1 + (ns.length : Int) < l.points.length := by
      rcases i2' with rfl | h
      · simpa using h2
      · exact h
    refine ⟨fun n hn => ?_, fun q hq h0 => .inr ?_, ?_⟩
    · rcases List.mem_cons.1 hn with rfl | hn
      · exact ⟨h1, h2⟩
      · exact i1 n hn
    · subst hq
      rw [prevB, decide_eq_true_eq] at h3
      rw [List.length_cons]
      omega
    · rw [List.length_cons]
      omega

theorem isL_of {l : Lay} (h : isB l = true) : IsL l := by
  rw [isB, Bool.and_eq_true, Bool.and_eq_true, Bool.and_eq_true, namesAll, Bool.and_eq_true, Bool.and_eq_true, Bool.and_eq_true, boundsB, secsB, namesB, namesB, namesB, namesB, decide_eq_true_eq, decide_eq_true_eq, decide_eq_true_eq, decide_eq_true_eq, decide_eq_true_eq, decide_eq_true_eq, List.all_eq_true] at h
  obtain ⟨⟨b1, b2, b3, b4, b5, b6⟩, hs, ⟨⟨n1, m1⟩, ⟨n2, m2⟩, ⟨n3, m3⟩, n4, m4⟩, hr⟩ := h
  refine ⟨⟨b2, n1, m1⟩, ⟨b4, n2, m2⟩, ⟨b5, n3, fun x hx => ⟨m3 _ (List.mem_map.2 ⟨x, hx, rfl⟩), hs x hx⟩⟩, ⟨b6, n4, fun x hx => ⟨m4 _ (List.mem_map.2 ⟨x, hx, rfl⟩), ?_⟩⟩⟩
  have := hr x hx
  rw [routeB, Bool.and_eq_true, Bool.and_eq_true, headB, pathB, restB, Bool.and_eq_true, Bool.and_eq_true, decide_eq_true_eq, decide_eq_true_eq] at this
  obtain ⟨⟨h1, h2, _, h4, h5⟩, ⟨_, h6⟩, _, h7, h8⟩ := this
  obtain ⟨a1, _, a3⟩ := needsF_rise _ _ _ _ _ h7
  obtain ⟨c1, _, c3⟩ := needsF_rise _ _ _ _ _ h8
  exact ⟨h1, h2, ⟨fun e => by rw [e] at h4; simp at h4, h5, h6⟩, ⟨by omega, a1⟩, ⟨by omega, c1⟩⟩

/-- Whole lines, and the words of one that is under way. -/
def cur (d : List (List ByteArray)) (ws : List ByteArray) : ByteArray := mkB (textB [32] [] [] [] d ++ lineB [32] [] ws)
theorem cur_nil : cur [] [] = ⟨#[]⟩ := rfl
theorem bytes_eq {a b : ByteArray} (h : a.data.toList = b.data.toList) : a = b := ByteArray.ext (Array.ext' h)
theorem cur_data (d : List (List ByteArray)) (ws : List ByteArray) : (cur d ws).data.toList = textB [32] [] [] [] d ++ lineB [32] [] ws := by simp [cur, mkB]
theorem text_snoc (d : List (List ByteArray)) (ws : List ByteArray) : textB [32] [] [] [] (d ++ [ws]) = textB [32] [] [] [] d ++ lineB [32] [] ws ++ [10] := by simp [textB]
theorem cur_section (d : List (List ByteArray)) (x : ByteArray) : cur d [] ++ ⟨#[115, 101, 99, 116, 105, 111, 110, 32]⟩ ++ x ++ ⟨#[10]⟩ = cur (d ++ [[kSection, x]]) [] := by
  apply bytes_eq
  simp [cur_data, text_snoc, lineB, behind, bytesOf, kSection]
theorem cur_signal (d : List (List ByteArray)) (x : ByteArray) : cur d [] ++ ⟨#[115, 105, 103, 110, 97, 108, 32]⟩ ++ x ++ ⟨#[10]⟩ = cur (d ++ [[kSignal, x]]) [] := by
  apply bytes_eq
  simp [cur_data, text_snoc, lineB, behind, bytesOf, kSignal]
theorem cur_point (d : List (List ByteArray)) (x y : ByteArray) : cur d [] ++ ⟨#[112, 111, 105, 110, 116, 32]⟩ ++ x ++ ⟨#[32, 105, 110, 32]⟩ ++ y ++ ⟨#[10]⟩ = cur (d ++ [[kPoint, x, kIn, y]]) [] := by
  apply bytes_eq
  simp [cur_data, text_snoc, lineB, behind, bytesOf, kPoint, kIn]
theorem cur_route (d : List (List ByteArray)) (x a b : ByteArray) : cur d [] ++ ⟨#[114, 111, 117, 116, 101, 32]⟩ ++ x ++ ⟨#[32, 102, 114, 111, 109, 32]⟩ ++ a ++ ⟨#[32, 116, 111, 32]⟩ ++ b ++ ⟨#[32, 118, 105, 97]⟩ = cur d [kRoute, x, kFrom, a, kTo, b, kVia] := by
  apply bytes_eq
  simp [cur_data, lineB, behind, bytesOf, kRoute, kFrom, kTo, kVia]
theorem line_snoc {ws : List ByteArray} (h : ws ≠ []) (ys : List ByteArray) : lineB [32] [] (ws ++ ys) = lineB [32] [] ws ++ ys.flatMap fun y => 32 :: bytesOf y := by
  cases ws with
  | nil => exact absurd rfl h
  | cons x xs =>
    simp [lineB, behind, List.flatMap_append, List.flatMap_map]
theorem cur_word {ws : List ByteArray} (h : ws ≠ []) (d : List (List ByteArray)) (y : ByteArray) : cur d ws ++ ⟨#[32]⟩ ++ y = cur d (ws ++ [y]) := by
  apply bytes_eq
  simp [cur_data, line_snoc h, bytesOf]
theorem cur_end (d : List (List ByteArray)) (ws : List ByteArray) : cur d ws ++ ⟨#[10]⟩ = cur (d ++ [ws]) [] := by
  apply bytes_eq
  simp [cur_data, text_snoc, lineB]
/-- Wants as words, each behind a blank. -/
def wantsT (xs : List Wt) : ByteArray := mkB (xs.flatMap fun x => 32 :: bytesOf (wantW x))
theorem wants_snoc (xs : List Wt) (n : ByteArray) (b : Bool) : wantsT xs ++ ⟨#[32]⟩ ++ n ++ (if b = true then ⟨#[45]⟩ else ⟨#[43]⟩) = wantsT (xs ++ [(n, b)]) := by
  apply bytes_eq
  cases b <;> simp [wantsT, mkB, wantW, bytesOf]
theorem cur_set {ws : List ByteArray} (h : ws ≠ []) (d : List (List ByteArray)) {xs : List Wt} (hx : xs ≠ []) : cur d ws ++ ⟨#[32, 115, 101, 116]⟩ ++ wantsT xs = cur d (ws ++ wantRow kSet xs) := by
  cases xs with
  | nil => exact absurd rfl hx
  | cons x xs =>
    apply bytes_eq
    simp [cur_data, line_snoc h, wantRow, wantsT, mkB, bytesOf, kSet, List.flatMap_map]
theorem cur_flank {ws : List ByteArray} (h : ws ≠ []) (d : List (List ByteArray)) {xs : List Wt} (hx : xs ≠ []) : cur d ws ++ ⟨#[32, 102, 108, 97, 110, 107]⟩ ++ wantsT xs = cur d (ws ++ wantRow kFlank xs) := by
  cases xs with
  | nil => exact absurd rfl hx
  | cons x xs =>
    apply bytes_eq
    simp [cur_data, line_snoc h, wantRow, wantsT, mkB, bytesOf, kFlank, List.flatMap_map]
theorem wantW_len (x : Wt) : (bytesOf (wantW x)).length = x.1.size + 1 := by
  rw [Lib.size_eq]
  simp [bytesOf, wantW]
theorem wantsT_size : ∀ {xs : List Wt}, (∀ x ∈ xs, x.1.size < 3000) → (wantsT xs).size ≤ 3002 * xs.length
  | [], _ => by show (⟨#[]⟩ : ByteArray).size ≤ 3002 * 0; decide
  | x :: xs, h => by
    have ih := wantsT_size (xs := xs) fun y hy => h y (by simp [hy])
    have h1 := h x (by simp)
    have h2 := wantW_len x
    rw [Lib.size_eq] at ih ⊢
    simp only [wantsT, mkB, List.flatMap_cons, List.length_append, List.length_cons, h2] at ih ⊢
    omega
theorem nth_size {l : List ByteArray} (h : ∀ x ∈ l, x.size < 3000) (i : Int) : (nth l i).size < 3000 := by
  rw [nth, List.getD_eq_getElem?_getD]
  cases e : l[i.toNat]? with
  | none => show (⟨#[]⟩ : ByteArray).size < 3000; decide
  | some x => exact h x (List.mem_of_getElem? e)
/-- The text that tells a layout. -/
def printT (l : Lay) : ByteArray := cur (lineWords l) []
theorem nth_at {l : List ByteArray} {k : Nat} {x : ByteArray} (h : l[k]? = some x) : nth l (k : Int) = x := by
  rw [nth, Int.toNat_natCast, List.getD_eq_getElem?_getD, h]
  rfl
end Go.Proofs.YtgiaicmhnkhbnaaDoor
