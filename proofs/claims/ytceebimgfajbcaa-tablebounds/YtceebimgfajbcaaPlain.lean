/-
  Plain facts on texts as lists of bytes and their runes: nothing of the program.
-/
import Derived.Lib.DecodeN
import Derived.Lib.Strings
namespace Go.Proofs.Ytceebimgfajbcaa

/-- The rune at the head of a text, and its width. -/
def dec (l : List UInt8) : Nat × Nat := Lib.decodeN l.length (l.getD 0 0).toNat (l.getD 1 0).toNat (l.getD 2 0).toNat (l.getD 3 0).toNat

theorem get!_drop (s : ByteArray) (p k : Nat) : s.get! (p + k) = (s.data.toList.drop p).getD k 0 := by
  rw [List.getD_eq_getElem?_getD, List.getElem?_drop]
  obtain ⟨⟨l⟩⟩ := s
  simp only [ByteArray.get!, List.getElem!_toArray, List.getElem!_eq_getElem?_getD]
  rfl

theorem decode_drop (s : ByteArray) (p : Nat) : Utf8.decode s p = dec (s.data.toList.drop p) := by
  rw [Lib.decode_at, dec, List.length_drop, ← Lib.size_eq]
  rw [← get!_drop s p 0, ← get!_drop s p 1, ← get!_drop s p 2, ← get!_drop s p 3]
  rfl

theorem dec_width (l : List UInt8) (h : l ≠ []) : 1 ≤ (dec l).2 ∧ (dec l).2 ≤ l.length := by
  have hl : 0 < l.length := List.length_pos_iff.2 h
  unfold dec Lib.decodeN
  repeat' split
  all_goals (simp only; omega)

theorem dec_le (l : List UInt8) : (dec l).1 ≤ 1114111 := by
  have h0 := (l.getD 0 0).toNat_lt; have h1 := (l.getD 1 0).toNat_lt; have h2 := (l.getD 2 0).toNat_lt; have h3 := (l.getD 3 0).toNat_lt
  unfold dec Lib.decodeN
  repeat' split
  all_goals (simp only; omega)

def runesF : Nat → List UInt8 → List (Nat × Nat)
  | 0, _ => []
  | f + 1, l => if l = [] then [] else dec l :: runesF f (l.drop (dec l).2)
def runes (l : List UInt8) : List (Nat × Nat) := runesF l.length l

theorem runesF_more : ∀ (f g : Nat) (l : List UInt8), l.length ≤ f → l.length ≤ g → runesF f l = runesF g l
  | 0, g, l, h, _ => by
    have : l = [] := List.eq_nil_of_length_eq_zero (by omega)
    subst this
    cases g <;> simp [runesF]
  | f + 1, 0, l, _, h => by
    have : l = [] := List.eq_nil_of_length_eq_zero (by omega)
    subst this
    simp [runesF]
  | f + 1, g + 1, l, h1, h2 => by
    unfold runesF
    split
    · rfl
    · rename_i hn
      have hw := dec_width l hn
      rw [runesF_more f g (l.drop (dec l).2) (by rw [List.length_drop]; omega) (by rw [List.length_drop]; omega)]

theorem runes_nil : runes [] = [] := rfl
theorem runes_cons (l : List UInt8) (h : l ≠ []) : runes l = dec l :: runes (l.drop (dec l).2) := by
  have hw := dec_width l h
  have hl : 0 < l.length := List.length_pos_iff.2 h
  unfold runes
  obtain ⟨f, hf⟩ : ∃ f, l.length = f + 1 := ⟨l.length - 1, by omega⟩
  rw [hf]
  conv => lhs; unfold runesF
  rw [if_neg h, runesF_more f (l.drop (dec l).2).length (l.drop (dec l).2) (by rw [List.length_drop]; omega) (Nat.le_refl _)]

theorem runes_length_le (l : List UInt8) : (runes l).length ≤ l.length := by
  suffices h : ∀ (n : Nat) (l : List UInt8), l.length ≤ n → (runes l).length ≤ l.length from h l.length l (Nat.le_refl _)
  intro n
  induction n with
  | zero => intro l h; have : l = [] := List.eq_nil_of_length_eq_zero (by omega); subst this; simp [runes_nil]
  | succ n ih =>
    intro l h
    by_cases hn : l = []
    · subst hn; simp [runes_nil]
    · have hw := dec_width l hn
      rw [runes_cons l hn, List.length_cons]
      have := ih (l.drop (dec l).2) (by rw [List.length_drop]; omega)
      rw [List.length_drop] at this
      omega

/-- From place p on. -/
def runesAt (s : ByteArray) (p : Nat) : List (Nat × Nat) := runes (s.data.toList.drop p)
theorem runesAt_end (s : ByteArray) (p : Nat) (h : ¬ p < s.size) : runesAt s p = [] := by
  rw [runesAt, List.drop_of_length_le (by rw [← Lib.size_eq]; omega), runes_nil]
theorem runesAt_next (s : ByteArray) (p : Nat) (h : p < s.size) : runesAt s p = Utf8.decode s p :: runesAt s (p + (Utf8.decode s p).2) := by
  have hne : s.data.toList.drop p ≠ [] := by
    intro e
    have := congrArg List.length e
    rw [List.length_drop, ← Lib.size_eq] at this
    simp at this; omega
  rw [runesAt, runes_cons _ hne, ← decode_drop, runesAt, List.drop_drop]
theorem width_at (s : ByteArray) (p : Nat) (h : p < s.size) : 1 ≤ (Utf8.decode s p).2 ∧ p + (Utf8.decode s p).2 ≤ s.size := by
  have hne : s.data.toList.drop p ≠ [] := by
    intro e
    have := congrArg List.length e
    rw [List.length_drop, ← Lib.size_eq] at this
    simp at this; omega
  have := dec_width _ hne
  rw [decode_drop]
  rw [List.length_drop, ← Lib.size_eq] at this
  omega
theorem runesAt_le (s : ByteArray) (p : Nat) : (runesAt s p).length ≤ s.size - p := by
  have := runes_length_le (s.data.toList.drop p)
  rw [List.length_drop, ← Lib.size_eq] at this
  exact this

/-- A wrong rune. -/
def badB (r : Nat × Nat) : Bool := decide (r.1 = 65533 ∧ r.2 = 1)
theorem getD_nil (l : List UInt8) (k : Nat) (h : l.length ≤ k) : l.getD k 0 = 0 := by
  rw [List.getD_eq_getElem?_getD, List.getElem?_eq_none h]; rfl
theorem prefix3 (l : List UInt8) (a b c : UInt8) : Lib.hasPrefix l [a, b, c] = true ↔ 3 ≤ l.length ∧ l.getD 0 0 = a ∧ l.getD 1 0 = b ∧ l.getD 2 0 = c := by
  unfold Lib.hasPrefix
  match l with
  | [] => simp
  | [x] => simp [List.isPrefixOf]
  | [x, y] => simp [List.isPrefixOf]
  | x :: y :: z :: r => simp [List.isPrefixOf]; exact ⟨fun h => ⟨h.1.symm, h.2.1.symm, h.2.2.symm⟩, fun h => ⟨h.1.symm, h.2.1.symm, h.2.2.symm⟩⟩
theorem decN_error (n b0 b1 b2 b3 : Nat) (h0 : b0 < 256) (d : Nat × Nat) (hd : Lib.decodeN n b0 b1 b2 b3 = d) (h : d.1 = 65533) : (3 ≤ n ∧ b0 = 239 ∧ b1 = 191 ∧ b2 = 189) ↔ ¬ d.2 = 1 := by
  unfold Lib.decodeN at hd
  repeat' split at hd
  all_goals (subst hd; dsimp only at h ⊢; omega)
theorem dec_error (l : List UInt8) (h : (dec l).1 = 65533) : Lib.hasPrefix l [239, 191, 189] = !badB (dec l) := by
  have h0 := (l.getD 0 0).toNat_lt
  rw [Bool.eq_iff_iff, prefix3]
  have e0 : l.getD 0 0 = 239 ↔ (l.getD 0 0).toNat = 239 := by rw [← UInt8.toNat_inj]; rfl
  have e1 : l.getD 1 0 = 191 ↔ (l.getD 1 0).toNat = 191 := by rw [← UInt8.toNat_inj]; rfl
  have e2 : l.getD 2 0 = 189 ↔ (l.getD 2 0).toNat = 189 := by rw [← UInt8.toNat_inj]; rfl
  rw [e0, e1, e2]
  simp only [badB, h, true_and, Bool.not_eq_true', decide_eq_false_iff_not]
  exact decN_error _ _ _ _ _ h0 _ rfl h

/-- How many runes stand ahead of the first wrong one. -/
def wrongF : Nat → List (Nat × Nat) → Option Nat
  | _, [] => none
  | n, r :: rs => if badB r = true then some n else wrongF (n + 1) rs
def wrongO (l : List UInt8) : Option Nat := wrongF 0 (runes l)

theorem prefix_at (s : ByteArray) (p : Nat) (h : (Utf8.decode s p).1 = 65533) : Lib.hasPrefix (s.extract p s.size).data.toList [239, 191, 189] = !badB (Utf8.decode s p) := by
  rw [decode_drop] at *
  rw [Lib.extract_data, List.take_of_length_le (by rw [List.length_drop, ← Lib.size_eq]; exact Nat.le_refl _)]
  exact dec_error _ h

end Go.Proofs.Ytceebimgfajbcaa
