/-
  Plain facts on the order of texts, and on a text with a sign below 128 behind it.
-/
import Derived.Test.YtnnhnjccicfdlabDoorCmp
import Derived.Test.YtnnhnjccicfdlabDoorEnc
namespace Go.Proofs.YtnnhnjccicfdlabDoor

theorem cmpF_anti : ∀ (xs ys : List (Nat × Nat)), cmpF ys xs = -cmpF xs ys
  | [], [] => rfl
  | [], _ :: _ => rfl
  | _ :: _, [] => rfl
  | x :: xs, y :: ys => by
    rw [cmpF, cmpF]
    rcases (show x.1 < y.1 ∨ y.1 < x.1 ∨ x.1 = y.1 by omega) with h | h | h
    · rw [if_neg (by omega), if_pos h, if_pos h]; rfl
    · rw [if_pos h, if_neg (by omega), if_pos h]
    · rw [if_neg (by omega), if_neg (by omega), if_neg (by omega), if_neg (by omega)]
      exact cmpF_anti xs ys
theorem cmpF_self : ∀ (xs : List (Nat × Nat)), cmpF xs xs = 0
  | [] => rfl
  | x :: xs => by
    rw [cmpF, if_neg (by omega), if_neg (by omega)]
    exact cmpF_self xs
theorem cmpF_range : ∀ (xs ys : List (Nat × Nat)), -1 ≤ cmpF xs ys ∧ cmpF xs ys ≤ 1
  | [], [] => by decide
  | [], _ :: _ => by rw [cmpF]; decide
  | _ :: _, [] => by rw [cmpF]; decide
  | x :: xs, y :: ys => by
    rw [cmpF]
    split
    · decide
    · split
      · decide
      · exact cmpF_range xs ys
theorem cmpF_trans : ∀ (xs ys zs : List (Nat × Nat)), cmpF xs ys ≤ 0 → cmpF ys zs ≤ 0 → cmpF xs zs ≤ 0
  | [], _, [] => fun _ _ => by decide
  | [], _, _ :: _ => fun _ _ => by rw [cmpF]; decide
  | _ :: _, [], _ => fun h _ => by rw [cmpF] at h; omega
  | _ :: _, _ :: _, [] => fun _ h => by rw [cmpF] at h; omega
  | x :: xs, y :: ys, z :: zs => by
    intro h1 h2
    rw [cmpF] at *
    rcases (show x.1 < y.1 ∨ y.1 < x.1 ∨ x.1 = y.1 by omega) with h | h | h
    · rcases (show y.1 < z.1 ∨ z.1 < y.1 ∨ y.1 = z.1 by omega) with k | k | k
      · rw [if_pos (by omega)]; decide
      · rw [if_neg (by omega), if_pos k] at h2; omega
      · rw [if_pos (by omega)]; decide
    · rw [if_neg (by omega), if_pos h] at h1; omega
    · rw [if_neg (by omega), if_neg (by omega)] at h1
      rcases (show y.1 < z.1 ∨ z.1 < y.1 ∨ y.1 = z.1 by omega) with k | k | k
      · rw [if_pos (by omega)]; decide
      · rw [if_neg (by omega), if_pos k] at h2; omega
      · rw [if_neg (by omega), if_neg (by omega)] at h2
        rw [if_neg (by omega), if_neg (by omega)]
        exact cmpF_trans xs ys zs h1 h2
theorem cmpF_more (y : Nat × Nat) : ∀ (xs : List (Nat × Nat)), cmpF xs (xs ++ [y]) = -1
  | [] => rfl
  | x :: xs => by
    rw [List.cons_append, cmpF, if_neg (by omega), if_neg (by omega)]
    exact cmpF_more y xs

theorem getD_snoc (l : List UInt8) (b : UInt8) (k : Nat) : (l ++ [b]).getD k 0 = if k < l.length then l.getD k 0 else if k = l.length then b else 0 := by
  simp only [List.getD_eq_getElem?_getD]
  rcases Nat.lt_trichotomy k l.length with h | h | h
  · rw [if_pos h, List.getElem?_append_left h]
  · subst h
    rw [if_neg (by omega), if_pos rfl]
    simp
  · rw [if_neg (by omega), if_neg (by omega), List.getElem?_eq_none (by simp; omega)]
    rfl
theorem getD_ge (l : List UInt8) (k : Nat) (h : l.length ≤ k) : l.getD k 0 = 0 := by
  rw [List.getD_eq_getElem?_getD, List.getElem?_eq_none h]; rfl

set_option maxHeartbeats 1000000 in
theorem decN_snoc (n b0 b1 b2 b3 c1 c2 c3 : Nat) (h1 : (1 < n ∧ c1 = b1) ∨ (n ≤ 1 ∧ c1 / 64 ≠ 2)) (h2 : (2 < n ∧ c2 = b2) ∨ (n ≤ 2 ∧ c2 / 64 ≠ 2)) (h3 : (3 < n ∧ c3 = b3) ∨ (n ≤ 3 ∧ c3 / 64 ≠ 2)) :
    Lib.decodeN (n + 1) b0 c1 c2 c3 = Lib.decodeN n b0 b1 b2 b3 := by
  unfold Lib.decodeN
  rcases h1 with ⟨h1, rfl⟩ | ⟨h1, e1⟩
  · rcases h2 with ⟨h2, rfl⟩ | ⟨h2, e2⟩
    · rcases h3 with ⟨h3, rfl⟩ | ⟨h3, e3⟩
      · simp only [show 1 < n + 1 by omega, show 2 < n + 1 by omega, show 3 < n + 1 by omega, h1, h2, h3, true_and]
      · simp only [show 1 < n + 1 by omega, show 2 < n + 1 by omega, h1, h2, show ¬ 3 < n by omega, e3, true_and, false_and, and_false, if_false]
    · simp only [show 1 < n + 1 by omega, h1, show ¬ 2 < n by omega, e2, true_and, false_and, and_false, if_false]
  · simp only [show ¬ 1 < n by omega, e1, false_and, and_false, if_false]

theorem dec_snoc (l : List UInt8) (b : UInt8) (hb : b.toNat < 128) (h : l ≠ []) : dec (l ++ [b]) = dec l := by
  have hl : 0 < l.length := List.length_pos_iff.2 h
  unfold dec
  rw [List.length_append, List.length_singleton, show (l ++ [b]).getD 0 0 = l.getD 0 0 by rw [getD_snoc, if_pos hl]]
  have key : ∀ k, (k < l.length ∧ ((l ++ [b]).getD k 0).toNat = (l.getD k 0).toNat) ∨ (l.length ≤ k ∧ ((l ++ [b]).getD k 0).toNat / 64 ≠ 2) := by
    intro k
    rcases Nat.lt_or_ge k l.length with hk | hk
    · exact .inl ⟨hk, by rw [getD_snoc, if_pos hk]⟩
    · refine .inr ⟨hk, ?_⟩
      rw [getD_snoc, if_neg (by omega)]
      split
      · omega
      · decide
  exact decN_snoc _ _ _ _ _ _ _ _ (key 1) (key 2) (key 3)

/-- A sign below 128 behind a text is one rune more, whatever the text. -/
theorem runes_snoc (b : UInt8) (hb : b.toNat < 128) (l : List UInt8) : runes (l ++ [b]) = runes l ++ [(b.toNat, 1)] := by
  suffices h : ∀ (n : Nat) (l : List UInt8), l.length ≤ n → runes (l ++ [b]) = runes l ++ [(b.toNat, 1)] from h l.length l (Nat.le_refl _)
  intro n
  induction n with
  | zero =>
    intro l h
    have : l = [] := List.eq_nil_of_length_eq_zero (by omega)
    subst this
    rw [List.nil_append, runes_ascii b hb, runes_nil]
    rfl
  | succ n ih =>
    intro l h
    by_cases hn : l = []
    · subst hn
      rw [List.nil_append, runes_ascii b hb, runes_nil]
      rfl
    · have hw := dec_width l hn
      rw [runes_cons (l ++ [b]) (by simp), dec_snoc l b hb hn, runes_cons l hn, List.drop_append_of_le_length hw.2, ih _ (by rw [List.length_drop]; omega)]
      rfl

end Go.Proofs.YtnnhnjccicfdlabDoor
