/-
  Plain facts on the words of a text that is made of a text, blanks and a name.
-/
import Derived.Test.YtgiaicmhnkhbnaaDoorWholeP
import Derived.Test.YtgiaicmhnkhbnaaDoorEnc
import Derived.Test.YtgiaicmhnkhbnaaDoorJoin1
namespace Go.Proofs.YtgiaicmhnkhbnaaDoor

def wsum : List (Nat × Nat) → Nat
  | [] => 0
  | x :: xs => x.2 + wsum xs
theorem wsum_append (xs ys : List (Nat × Nat)) : wsum (xs ++ ys) = wsum xs + wsum ys := by
  induction xs with
  | nil => simp [wsum]
  | cons x xs ih => rw [List.cons_append, wsum, wsum, ih]; omega
theorem wsum_runes (l : List UInt8) : wsum (runes l) = l.length := by
  suffices h : ∀ (n : Nat) (l : List UInt8), l.length ≤ n → wsum (runes l) = l.length from h l.length l (Nat.le_refl _)
  intro n
  induction n with
  | zero => intro l h; have : l = [] := List.eq_nil_of_length_eq_zero (by omega); subst this; rfl
  | succ n ih =>
    intro l h
    by_cases hn : l = []
    · subst hn; rfl
    · have hw := dec_width l hn
      rw [runes_cons l hn, wsum, ih _ (by rw [List.length_drop]; omega), List.length_drop]
      omega

/-- A row of runes none of which is a blank. -/
def noBlank (xs : List (Nat × Nat)) : Bool := xs.all fun x => !blankB x.1
/-- A row of blanks. -/
def allBlank (xs : List (Nat × Nat)) : Bool := xs.all fun x => blankB x.1

theorem splitF_nil (s : ByteArray) (pos k : Nat) (b : Bool) (st a : Nat) : splitF s [] pos k b st a = if b = true then [(s.extract st s.size, a)] else [] := rfl
theorem splitF_cons (s : ByteArray) (d : Nat × Nat) (rs : List (Nat × Nat)) (pos k : Nat) (b : Bool) (st a : Nat) : splitF s (d :: rs) pos k b st a =
    if blankB d.1 = true then (if b = true then [(s.extract st pos, a)] else []) ++ splitF s rs (pos + d.2) (k + 1) false st a
    else if b = true then splitF s rs (pos + d.2) (k + 1) true st a
    else splitF s rs (pos + d.2) (k + 1) true pos k := rfl

theorem split_in (s : ByteArray) : ∀ (xs rs : List (Nat × Nat)) (pos k st a : Nat), noBlank xs = true → splitF s (xs ++ rs) pos k true st a = splitF s rs (pos + wsum xs) (k + xs.length) true st a
  | [], rs, pos, k, st, a, _ => by simp [wsum]
  | x :: xs, rs, pos, k, st, a, h => by
    rw [noBlank, List.all_cons, Bool.and_eq_true] at h
    rw [List.cons_append, splitF, if_neg (by simpa using h.1), if_pos rfl, split_in s xs rs _ _ st a h.2, wsum, List.length_cons]
    congr 1 <;> omega
theorem split_start (s : ByteArray) (xs rs : List (Nat × Nat)) (pos k st a : Nat) (hne : xs ≠ []) (h : noBlank xs = true) : splitF s (xs ++ rs) pos k false st a = splitF s rs (pos + wsum xs) (k + xs.length) true pos k := by
  cases xs with
  | nil => exact absurd rfl hne
  | cons x xs =>
    rw [noBlank, List.all_cons, Bool.and_eq_true] at h
    rw [List.cons_append, splitF, if_neg (by simpa using h.1), if_neg (by simp), split_in s xs rs _ _ pos k h.2, wsum, List.length_cons]
    congr 1 <;> omega
theorem split_blanks (s : ByteArray) : ∀ (xs rs : List (Nat × Nat)) (pos k st a : Nat), allBlank xs = true → splitF s (xs ++ rs) pos k false st a = splitF s rs (pos + wsum xs) (k + xs.length) false st a
  | [], rs, pos, k, st, a, _ => by simp [wsum]
  | x :: xs, rs, pos, k, st, a, h => by
    rw [allBlank, List.all_cons, Bool.and_eq_true] at h
    rw [List.cons_append, splitF, if_pos h.1, if_neg (by simp), List.nil_append, split_blanks s xs rs _ _ st a h.2, wsum, List.length_cons]
    congr 1 <;> omega
/-- Outside a word the two last numbers do not matter. -/
theorem split_out (s : ByteArray) : ∀ (rs : List (Nat × Nat)) (pos k st a st' a' : Nat), splitF s rs pos k false st a = splitF s rs pos k false st' a'
  | [], pos, k, st, a, st', a' => by simp [splitF]
  | x :: rs, pos, k, st, a, st', a' => by
    rw [splitF, splitF, split_out s rs (pos + x.2) (k + 1) st a st' a']
    simp

theorem nameF_len : ∀ (rs : List (Nat × Nat)) (k : Nat), nameF k rs = true → k ≤ 8 → rs.length + k ≤ 8
  | [], k, _, hk => by simpa using hk
  | x :: rs, k, h, hk => by
    rw [nameF] at h
    have hc : ¬ (k = 8 ∨ standB x.1 k = false) := by
      intro e
      rw [if_pos e] at h
      exact absurd h (by simp)
    rw [if_neg hc] at h
    have := nameF_len rs (k + 1) h (by omega)
    rw [List.length_cons]
    omega
/-- What a name is made of. -/
theorem nameF_parts : ∀ (rs : List (Nat × Nat)) (k : Nat), nameF k rs = true → noBlank rs = true ∧ wholeL rs = true ∧ (k = 0 → rs ≠ [])
  | [], k, h => by
    rw [nameF, decide_eq_true_eq] at h
    exact ⟨rfl, rfl, fun e => by omega⟩
  | x :: rs, k, h => by
    rw [nameF] at h
    have hc : ¬ (k = 8 ∨ standB x.1 k = false) := by
      intro e
      rw [if_pos e] at h
      exact absurd h (by simp)
    rw [if_neg hc] at h
    have hst : standB x.1 k = true := by
      cases hs : standB x.1 k
      · exact absurd (.inr hs) hc
      · rfl
    have ih := nameF_parts rs (k + 1) h
    have hl : 48 ≤ x.1 ∧ x.1 ≤ 591 := by
      rw [standB, Bool.or_eq_true, Bool.and_eq_true] at hst
      rcases hst with hst | ⟨_, hst⟩
      · simp [letterB] at hst; omega
      · simp [digitB] at hst; omega
    refine ⟨?_, ?_, fun _ => by simp⟩
    · rw [noBlank, List.all_cons, Bool.and_eq_true]
      refine ⟨?_, ih.1⟩
      simp [blankB]
      omega
    · rw [wholeL, List.all_cons, Bool.and_eq_true]
      refine ⟨?_, ih.2.1⟩
      simp [badB]
      omega

theorem name_parts {l : List UInt8} (h : nameB l = true) : noBlank (runes l) = true ∧ wholeB l = true ∧ runes l ≠ [] ∧ (runes l).length ≤ 8 :=
  let p := nameF_parts _ 0 h
  ⟨p.1, p.2.1, p.2.2 rfl, nameF_len _ 0 h (by omega)⟩
/-- A name has at most so many bytes. -/
theorem dec_four (l : List UInt8) : (dec l).2 ≤ 4 := by
  unfold dec Lib.decodeN
  repeat' split
  all_goals (simp only; omega)
theorem runes_four (l : List UInt8) : l.length ≤ 4 * (runes l).length := by
  suffices h : ∀ (n : Nat) (l : List UInt8), l.length ≤ n → l.length ≤ 4 * (runes l).length from h l.length l (Nat.le_refl _)
  intro n
  induction n with
  | zero => intro l h; omega
  | succ n ih =>
    intro l h
    by_cases hn : l = []
    · subst hn; simp
    · have hw := dec_width l hn
      have hf := dec_four l
      have := ih (l.drop (dec l).2) (by rw [List.length_drop]; omega)
      rw [runes_cons l hn, List.length_cons]
      rw [List.length_drop] at this
      omega
theorem name_size {l : List UInt8} (h : nameB l = true) : l.length ≤ 32 := by
  have := runes_four l
  have := (name_parts h).2.2.2
  omega

/-- Blanks as bytes. -/
def blankBytes (bl : List UInt8) : Bool := bl.all fun b => b == 32 || b == 9
theorem blankBytes_runes : ∀ (bl rest : List UInt8), blankBytes bl = true → ∃ xs, runes (bl ++ rest) = xs ++ runes rest ∧ allBlank xs = true ∧ wholeL xs = true ∧ xs.length = bl.length ∧ wsum xs = bl.length
  | [], rest, _ => ⟨[], rfl, rfl, rfl, rfl, rfl⟩
  | b :: bl, rest, h => by
    rw [blankBytes, List.all_cons, Bool.and_eq_true] at h
    obtain ⟨xs, h1, h2, h3, h4, h5⟩ := blankBytes_runes bl rest h.2
    have hb : b = 32 ∨ b = 9 := by simpa using h.1
    have hlt : b.toNat < 128 := by rcases hb with rfl | rfl <;> decide
    refine ⟨(b.toNat, 1) :: xs, ?_, ?_, ?_, ?_, ?_⟩
    · rw [List.cons_append, runes_ascii b hlt, h1, List.cons_append]
    · rw [allBlank, List.all_cons, Bool.and_eq_true]
      refine ⟨?_, h2⟩
      rcases hb with rfl | rfl <;> decide
    · rw [wholeL, List.all_cons, Bool.and_eq_true]
      refine ⟨?_, h3⟩
      rcases hb with rfl | rfl <;> decide
    · rw [List.length_cons, List.length_cons, h4]
    · rw [wsum, h5, List.length_cons]; omega
theorem blankBytes_whole {bl : List UInt8} (h : blankBytes bl = true) : wholeB bl = true := by
  obtain ⟨xs, h1, _, h3, _, _⟩ := blankBytes_runes bl [] h
  rw [List.append_nil, runes_nil, List.append_nil] at h1
  rw [wholeB, h1]
  exact h3

/-- A piece of a text. -/
theorem extract_piece (S : ByteArray) (x y z : List UInt8) (h : S.data.toList = x ++ y ++ z) (W : ByteArray) (hW : W.data.toList = y) : S.extract x.length (x.length + y.length) = W := by
  apply ByteArray.ext
  apply Array.ext'
  rw [Lib.extract_data, h, hW, List.append_assoc, List.drop_left, Nat.add_sub_cancel_left, List.take_left]
theorem extract_head (S s : ByteArray) (z : List UInt8) (h : S.data.toList = s.data.toList ++ z) (i j : Nat) (hj : j ≤ s.size) : S.extract i j = s.extract i j := by
  apply ByteArray.ext
  apply Array.ext'
  rw [Lib.extract_data, Lib.extract_data, h]
  rcases Nat.lt_or_ge j i with hi | hi
  · rw [show j - i = 0 by omega, List.take_zero, List.take_zero]
  · rw [List.drop_append_of_le_length (by rw [← Lib.size_eq]; omega), List.take_append_of_le_length (by rw [List.length_drop, ← Lib.size_eq]; omega)]

/-- A text, blanks and a name behind it: its words and one more. -/
theorem split_more (S s : ByteArray) (bl : List UInt8) (W : ByteArray) (hS : S.data.toList = s.data.toList ++ bl ++ W.data.toList) (xs : List (Nat × Nat)) (hb : allBlank xs = true) (hx : wsum xs = bl.length) (hxl : xs.length = bl.length)
    (hW : nameB W.data.toList = true) : ∀ (rs : List (Nat × Nat)) (pos k : Nat) (b : Bool) (st a : Nat), pos + wsum rs = s.size → (xs ≠ [] ∨ (rs = [] ∧ b = false)) →
    splitF S (rs ++ (xs ++ runes W.data.toList)) pos k b st a = splitF s rs pos k b st a ++ [(W, k + rs.length + bl.length)]
  | [], pos, k, b, st, a, hp, hne => by
    obtain ⟨n1, _, n3, _⟩ := name_parts hW
    have hend : ∀ q k', q = s.size + bl.length → splitF S (runes W.data.toList) q k' false st a = [(W, k')] := by
      intro q k' hq
      have h1 := split_start S (runes W.data.toList) [] q k' st a n3 n1
      rw [List.append_nil] at h1
      rw [h1, splitF_nil, if_pos rfl, hq]
      have h2 := extract_piece S (s.data.toList ++ bl) W.data.toList [] (by rw [hS, List.append_nil]) W rfl
      rw [List.length_append, ← Lib.size_eq] at h2
      rw [← Lib.size_eq] at h2
      have h3 : S.size = s.size + bl.length + W.size := by
        rw [Lib.size_eq, hS, List.length_append, List.length_append, ← Lib.size_eq, ← Lib.size_eq]
      rw [h3, h2]
    rw [wsum] at hp
    rw [List.nil_append]
    cases b
    · rw [split_blanks S xs _ pos k st a hb, hend _ _ (by omega), splitF, hxl]
      simp
    · cases xs with
      | nil => rcases hne with h | h
               · exact absurd rfl h
               · exact absurd h.2 (by simp)
      | cons x xs =>
        rw [allBlank, List.all_cons, Bool.and_eq_true] at hb
        rw [List.cons_append, splitF_cons, if_pos hb.1, if_pos rfl, split_blanks S xs _ _ _ st a hb.2, hend _ _ (by rw [wsum] at hx; omega), splitF_nil, if_pos rfl]
        have h4 : S.extract st pos = s.extract st s.size := by
          rw [show pos = s.size by omega]
          exact extract_head S s (bl ++ W.data.toList) (by rw [hS, List.append_assoc]) st s.size (Nat.le_refl _)
        rw [h4]
        rw [List.length_cons] at hxl
        simp
        omega
  | d :: rs, pos, k, b, st, a, hp, hne => by
    have hne' : xs ≠ [] := by
      rcases hne with h | h
      · exact h
      · exact absurd h.1 (by simp)
    rw [wsum] at hp
    have ih := fun k' b' st' a' => split_more S s bl W hS xs hb hx hxl hW rs (pos + d.2) k' b' st' a' (by omega) (.inl hne')
    have hex : S.extract st pos = s.extract st pos := extract_head S s (bl ++ W.data.toList) (by rw [hS, List.append_assoc]) st pos (by omega)
    rw [List.cons_append, splitF_cons, splitF_cons, hex, ih, ih, ih, List.length_cons]
    have e : k + 1 + rs.length + bl.length = k + (rs.length + 1) + bl.length := by omega
    rw [e]
    split
    · rw [List.append_assoc]
    · split <;> rfl

theorem words_more (S s : ByteArray) (bl : List UInt8) (W : ByteArray) (hS : S.data.toList = s.data.toList ++ bl ++ W.data.toList) (hs : wholeB s.data.toList = true) (hb : blankBytes bl = true) (hW : nameB W.data.toList = true)
    (hne : bl ≠ [] ∨ s.size = 0) : wordsL S = wordsL s ++ [(W, (runes s.data.toList).length + bl.length)] := by
  obtain ⟨xs, h1, h2, h3, h4, h5⟩ := blankBytes_runes bl W.data.toList hb
  rw [wordsL, wordsL, runesAt, runesAt, List.drop_zero, List.drop_zero, hS, List.append_assoc, runes_append _ _ hs, h1]
  have := split_more S s bl W hS xs h2 h5 h4 hW (runes s.data.toList) 0 0 false 0 0 (by rw [wsum_runes, Nat.zero_add, ← Lib.size_eq]) (by
    rcases hne with h | h
    · left
      intro e
      rw [e] at h4
      exact h (List.eq_nil_of_length_eq_zero h4.symm)
    · right
      have : s.data.toList = [] := List.eq_nil_of_length_eq_zero (by rw [← Lib.size_eq]; exact h)
      rw [this]
      exact ⟨rfl, rfl⟩)
  rw [this, Nat.zero_add]

/-- Blanks behind a text: its words. -/
theorem split_tail (S s : ByteArray) (bl : List UInt8) (hS : S.data.toList = s.data.toList ++ bl) (xs : List (Nat × Nat)) (hb : allBlank xs = true) (hx : wsum xs = bl.length) :
    ∀ (rs : List (Nat × Nat)) (pos k : Nat) (b : Bool) (st a : Nat), pos + wsum rs = s.size → splitF S (rs ++ xs) pos k b st a = splitF s rs pos k b st a
  | [], pos, k, b, st, a, hp => by
    rw [wsum] at hp
    rw [List.nil_append]
    cases b
    · have := split_blanks S xs [] pos k st a hb
      rw [List.append_nil] at this
      rw [this]
      simp [splitF]
    · cases xs with
      | nil =>
        have e : S = s := by
          apply ByteArray.ext
          apply Array.ext'
          rw [hS, List.eq_nil_of_length_eq_zero hx.symm, List.append_nil]
        rw [e]
      | cons x xs =>
        rw [allBlank, List.all_cons, Bool.and_eq_true] at hb
        have := split_blanks S xs [] (pos + x.2) (k + 1) st a hb.2
        rw [List.append_nil] at this
        rw [splitF_cons, if_pos hb.1, if_pos rfl, this, splitF_nil, splitF_nil, if_pos rfl]
        have h4 : S.extract st pos = s.extract st s.size := by
          rw [show pos = s.size by omega]
          exact extract_head S s bl hS st s.size (Nat.le_refl _)
        rw [h4]
        simp
  | d :: rs, pos, k, b, st, a, hp => by
    rw [wsum] at hp
    have ih := fun k' b' st' a' => split_tail S s bl hS xs hb hx rs (pos + d.2) k' b' st' a' (by omega)
    have hex : S.extract st pos = s.extract st pos := extract_head S s bl hS st pos (by omega)
    rw [List.cons_append, splitF_cons, splitF_cons, hex, ih, ih, ih]

theorem words_tail (S s : ByteArray) (bl : List UInt8) (hS : S.data.toList = s.data.toList ++ bl) (hs : wholeB s.data.toList = true) (hb : blankBytes bl = true) : wordsL S = wordsL s := by
  obtain ⟨xs, h1, h2, h3, h4, h5⟩ := blankBytes_runes bl [] hb
  rw [List.append_nil, runes_nil, List.append_nil] at h1
  rw [wordsL, wordsL, runesAt, runesAt, List.drop_zero, List.drop_zero, hS, runes_append _ _ hs, h1]
  exact split_tail S s bl hS xs h2 h5 (runes s.data.toList) 0 0 false 0 0 (by rw [wsum_runes, Nat.zero_add, ← Lib.size_eq])
theorem words_nil : wordsL ⟨#[]⟩ = [] := rfl

end Go.Proofs.YtgiaicmhnkhbnaaDoor
