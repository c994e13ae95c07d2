/-
  Plain facts on lines: where a line feed, where a remark stands; what parsing line by line gives.
-/
import Derived.Test.YtgiaicmhnkhbnaaDoorJoin1
import Derived.Test.YtgiaicmhnkhbnaaDoorEnc
namespace Go.Proofs.YtgiaicmhnkhbnaaDoor

theorem decN_cont (n b0 b1 b2 b3 : Nat) (d : Nat × Nat) (hd : Lib.decodeN n b0 b1 b2 b3 = d) : (1 < d.2 → 128 ≤ b1) ∧ (2 < d.2 → 128 ≤ b2) ∧ (3 < d.2 → 128 ≤ b3) ∧ d.2 ≤ 4 ∧ (d.1 < 128 → d.2 = 1 ∧ d.1 = b0) := by
  unfold Lib.decodeN at hd
  repeat' split at hd
  all_goals (subst hd; dsimp only; omega)
theorem dec_cont (l : List UInt8) (j : Nat) (h0 : 0 < j) (h : j < (dec l).2) : 128 ≤ (l.getD j 0).toNat := by
  obtain ⟨h1, h2, h3, h4, _⟩ := decN_cont _ _ _ _ _ _ (rfl : dec l = dec l)
  match j, h0, h with
  | 1, _, h => exact h1 h
  | 2, _, h => exact h2 h
  | 3, _, h => exact h3 h
  | j + 4, _, h => omega
theorem dec_small (l : List UInt8) (h : (dec l).1 < 128) : (dec l).2 = 1 ∧ (dec l).1 = (l.getD 0 0).toNat :=
  (decN_cont _ _ _ _ _ _ (rfl : dec l = dec l)).2.2.2.2 h

theorem find_at (c : UInt8) (hc : c.toNat < 128) (rest : List UInt8) : ∀ (n : Nat) (a : List UInt8) (pos : Nat), a.length ≤ n → c ∉ a → findF c.toNat (runes (a ++ c :: rest)) pos = some (pos + a.length) := by
  intro n
  induction n with
  | zero =>
    intro a pos h _
    have : a = [] := List.eq_nil_of_length_eq_zero (by omega)
    subst this
    rw [List.nil_append, runes_ascii c hc, findF, if_pos rfl]
    rfl
  | succ n ih =>
    intro a pos h hn
    cases a with
    | nil =>
      rw [List.nil_append, runes_ascii c hc, findF, if_pos rfl]
      rfl
    | cons x a =>
      have hne : x :: a ++ c :: rest ≠ [] := by simp
      have hw := dec_width _ hne
      rw [runes_cons _ hne]
      have h1 : ¬ (dec (x :: a ++ c :: rest)).1 = c.toNat := by
        intro e
        have h2 := (dec_small _ (by rw [e]; exact hc)).2
        rw [e] at h2
        have h3 : c = x := UInt8.toNat_inj.1 h2
        exact hn (by rw [h3]; simp)
      rw [findF, if_neg h1]
      have h4 : (dec (x :: a ++ c :: rest)).2 ≤ (x :: a).length := by
        apply Nat.le_of_not_lt
        intro h5
        have h6 := dec_cont (x :: a ++ c :: rest) (x :: a).length (by simp) h5
        rw [List.getD_eq_getElem?_getD, List.getElem?_append_right (Nat.le_refl _)] at h6
        simp at h6
        omega
      rw [List.drop_append_of_le_length h4, ih _ _ (by rw [List.length_drop]; have h7 := hw.1; rw [List.length_cons] at h ⊢; omega) (fun e => hn (List.mem_of_mem_drop e)), List.length_drop]
      congr 1
      omega
theorem find_no (c : UInt8) : ∀ (n : Nat) (a : List UInt8) (pos : Nat), a.length ≤ n → c.toNat < 128 → c ∉ a → findF c.toNat (runes a) pos = none := by
  intro n
  induction n with
  | zero =>
    intro a pos h _ _
    have : a = [] := List.eq_nil_of_length_eq_zero (by omega)
    subst this
    rfl
  | succ n ih =>
    intro a pos h hc hn
    cases a with
    | nil => rfl
    | cons x a =>
      have hne : x :: a ≠ [] := by simp
      have hw := dec_width _ hne
      rw [runes_cons _ hne]
      have h1 : ¬ (dec (x :: a)).1 = c.toNat := by
        intro e
        have h2 := (dec_small _ (by rw [e]; exact hc)).2
        rw [e] at h2
        have h3 : c = x := UInt8.toNat_inj.1 h2
        exact hn (by rw [h3]; simp)
      rw [findF, if_neg h1]
      exact ih _ _ (by rw [List.length_drop]; simp at h hw ⊢; omega) hc (fun e => hn (List.mem_of_mem_drop e))

theorem bytes_ext {s : ByteArray} {l : List UInt8} (h : s.data.toList = l) : s = ⟨l.toArray⟩ := ByteArray.ext (Array.ext' (by rw [h]))
theorem extract_all (s : ByteArray) (i j : Nat) : (s.extract i j).data.toList = (s.data.toList.drop i).take (j - i) := Lib.extract_data s i j

theorem cutLine_at {s : ByteArray} {a rest : List UInt8} (h : s.data.toList = a ++ 10 :: rest) (hn : (10 : UInt8) ∉ a) : cutLine s = (⟨a.toArray⟩, ⟨rest.toArray⟩) := by
  have hf : findF 10 (runesAt s 0) 0 = some a.length := by
    rw [runesAt, List.drop_zero, h]
    have := find_at 10 (by decide) rest a.length a 0 (Nat.le_refl _) hn
    rw [Nat.zero_add] at this
    exact this
  rw [cutLine, hf]
  have h1 : (s.extract 0 a.length).data.toList = a := by rw [extract_all, h]; simp
  have h2 : (s.extract (a.length + 1) s.size).data.toList = rest := by
    rw [extract_all, h, Lib.size_eq, h]
    rw [show a ++ 10 :: rest = (a ++ [10]) ++ rest by simp, List.drop_append_of_le_length (by simp), List.drop_of_length_le (by simp), List.nil_append, List.take_of_length_le (by simp; omega)]
  simp only
  rw [bytes_ext h1, bytes_ext h2]
theorem cutLine_no {s : ByteArray} (hn : (10 : UInt8) ∉ s.data.toList) : cutLine s = (s, ⟨#[]⟩) := by
  have hf : findF 10 (runesAt s 0) 0 = none := by
    rw [runesAt, List.drop_zero]
    exact find_no 10 _ _ 0 (Nat.le_refl _) (by decide) hn
  rw [cutLine, hf]
theorem noRemark_at {s : ByteArray} {a rest : List UInt8} (h : s.data.toList = a ++ 35 :: rest) (hn : (35 : UInt8) ∉ a) : noRemark s = ⟨a.toArray⟩ := by
  have hf : findF 35 (runesAt s 0) 0 = some a.length := by
    rw [runesAt, List.drop_zero, h]
    have := find_at 35 (by decide) rest a.length a 0 (Nat.le_refl _) hn
    rw [Nat.zero_add] at this
    exact this
  rw [noRemark, hf]
  have h1 : (s.extract 0 a.length).data.toList = a := by rw [extract_all, h]; simp
  simp only
  rw [bytes_ext h1]
theorem noRemark_no {s : ByteArray} (hn : (35 : UInt8) ∉ s.data.toList) : noRemark s = s := by
  have hf : findF 35 (runesAt s 0) 0 = none := by
    rw [runesAt, List.drop_zero]
    exact find_no 35 _ _ 0 (Nat.le_refl _) (by decide) hn
  rw [noRemark, hf]

/-- A line more. -/
theorem parse_line {f n : Nat} {l : Lay} {s : ByteArray} {a rest : List UInt8} (h : s.data.toList = a ++ 10 :: rest) (hn : (10 : UInt8) ∉ a) (h60 : n < 60) : parseF (f + 1) l n s =
    if (addLineP l ⟨a.toArray⟩).1 = 0 then parseF f (addLineP l ⟨a.toArray⟩).2 (n + 1) ⟨rest.toArray⟩ else (.zero, n + 1, (addLineP l ⟨a.toArray⟩).1) := by
  have hz : ¬ s.size = 0 := by rw [Lib.size_eq, h]; simp
  rw [parseF, if_neg hz, if_neg (by omega), cutLine_at h hn]
theorem parse_ok {f n : Nat} {l l' : Lay} {s : ByteArray} {a rest : List UInt8} (h : s.data.toList = a ++ 10 :: rest) (hn : (10 : UInt8) ∉ a) (h60 : n < 60) (ha : addLineP l ⟨a.toArray⟩ = (0, l')) : parseF (f + 1) l n s = parseF f l' (n + 1) ⟨rest.toArray⟩ := by
  rw [parse_line h hn h60, ha, if_pos rfl]
theorem parse_bad {f n e : Nat} {l l' : Lay} {s : ByteArray} {a rest : List UInt8} (h : s.data.toList = a ++ 10 :: rest) (hn : (10 : UInt8) ∉ a) (h60 : n < 60) (ha : addLineP l ⟨a.toArray⟩ = (e, l')) (he : e ≠ 0) : parseF (f + 1) l n s = (.zero, n + 1, e) := by
  rw [parse_line h hn h60, ha, if_neg he]
/-- The last line, without a line feed. -/
theorem parse_last {f n : Nat} {l l' : Lay} {s : ByteArray} (hz : s.size ≠ 0) (hn : (10 : UInt8) ∉ s.data.toList) (h60 : n < 60) (ha : addLineP l s = (0, l')) : parseF (f + 1) l n s = parseF f l' (n + 1) ⟨#[]⟩ := by
  rw [parseF, if_neg hz, if_neg (by omega), cutLine_no hn]
  simp only
  rw [ha, if_pos rfl]
theorem parse_end (f n : Nat) (l : Lay) : parseF f l n ⟨#[]⟩ = (l, n, 0) := by
  cases f with
  | zero => rfl
  | succ f => rw [parseF, if_pos (show (⟨#[]⟩ : ByteArray).size = 0 from rfl)]
theorem parse_full {f : Nat} {l : Lay} {s : ByteArray} (hz : s.size ≠ 0) : parseF (f + 1) l 60 s = (.zero, 61, 6) := by
  rw [parseF, if_neg hz, if_pos (by omega)]

end Go.Proofs.YtgiaicmhnkhbnaaDoor
