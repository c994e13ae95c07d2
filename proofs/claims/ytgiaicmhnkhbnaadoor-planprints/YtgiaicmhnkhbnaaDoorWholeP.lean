/-
  Texts without a wrong rune: plain facts.
-/
import Derived.Test.YtgiaicmhnkhbnaaDoorJoin1
namespace Go.Proofs.YtgiaicmhnkhbnaaDoor

def wholeL (rs : List (Nat × Nat)) : Bool := rs.all fun x => !badB x
def wholeB (l : List UInt8) : Bool := wholeL (runes l)

set_option maxHeartbeats 1000000 in
theorem decN_more (n n' b0 b1 b2 b3 c1 c2 c3 : Nat) (hn : n ≤ n') (h1 : 1 < n → c1 = b1) (h2 : 2 < n → c2 = b2) (h3 : 3 < n → c3 = b3) (h : ¬ Lib.decodeN n b0 b1 b2 b3 = (65533, 1)) :
    Lib.decodeN n' b0 c1 c2 c3 = Lib.decodeN n b0 b1 b2 b3 := by
  unfold Lib.decodeN at h ⊢
  by_cases q0 : b0 < 128
  · rw [if_pos q0, if_pos q0]
  · rw [if_neg q0] at h
    rw [if_neg q0, if_neg q0]
    by_cases q1 : b0 / 32 = 6 ∧ (1 < n ∧ b1 / 64 = 2)
    · have e1 := h1 q1.2.1
      subst e1
      rw [if_pos q1, if_pos ⟨q1.1, by omega, q1.2.2⟩]
    · rw [if_neg q1] at h
      by_cases q2 : b0 / 16 = 14 ∧ (1 < n ∧ b1 / 64 = 2) ∧ (2 < n ∧ b2 / 64 = 2)
      · have e1 := h1 q2.2.1.1
        have e2 := h2 q2.2.2.1
        subst e1
        subst e2
        rw [if_neg q1, if_pos q2, if_neg (by omega), if_pos ⟨q2.1, ⟨by omega, q2.2.1.2⟩, by omega, q2.2.2.2⟩]
      · rw [if_neg q2] at h
        by_cases q3 : b0 / 8 = 30 ∧ (1 < n ∧ b1 / 64 = 2) ∧ (2 < n ∧ b2 / 64 = 2) ∧ (3 < n ∧ b3 / 64 = 2)
        · have e1 := h1 q3.2.1.1
          have e2 := h2 q3.2.2.1.1
          have e3 := h3 q3.2.2.2.1
          subst e1
          subst e2
          subst e3
          rw [if_neg q1, if_neg q2, if_pos q3, if_neg (by omega), if_neg (by omega), if_pos ⟨q3.1, ⟨by omega, q3.2.1.2⟩, ⟨by omega, q3.2.2.1.2⟩, by omega, q3.2.2.2.2⟩]
        · rw [if_neg q3] at h
          exact absurd rfl h

theorem getD_append (l m : List UInt8) (k : Nat) (h : k < l.length) : (l ++ m).getD k 0 = l.getD k 0 := by
  rw [List.getD_eq_getElem?_getD, List.getD_eq_getElem?_getD, List.getElem?_append_left h]

theorem dec_append (l m : List UInt8) (hl : l ≠ []) (h : badB (dec l) = false) : dec (l ++ m) = dec l := by
  have hp : 0 < l.length := List.length_pos_iff.2 hl
  unfold dec at h ⊢
  rw [getD_append l m 0 hp]
  refine decN_more _ _ _ _ _ _ _ _ _ (by simp) (fun k => by rw [getD_append l m 1 k]) (fun k => by rw [getD_append l m 2 k]) (fun k => by rw [getD_append l m 3 k]) ?_
  intro e
  rw [e] at h
  exact absurd h (by decide)

/-- Behind a text without a wrong rune the runes of another one stand as they are. -/
theorem runes_append (m : List UInt8) (l : List UInt8) (h : wholeB l = true) : runes (l ++ m) = runes l ++ runes m := by
  suffices hh : ∀ (n : Nat) (l : List UInt8), l.length ≤ n → wholeB l = true → runes (l ++ m) = runes l ++ runes m from hh l.length l (Nat.le_refl _) h
  intro n
  induction n with
  | zero =>
    intro l h _
    have : l = [] := List.eq_nil_of_length_eq_zero (by omega)
    subst this
    rw [List.nil_append, runes_nil, List.nil_append]
  | succ n ih =>
    intro l hn hw
    by_cases hl : l = []
    · subst hl
      rw [List.nil_append, runes_nil, List.nil_append]
    · have hwd := dec_width l hl
      rw [wholeB, runes_cons l hl, wholeL, List.all_cons, Bool.and_eq_true] at hw
      have hb : badB (dec l) = false := by simpa using hw.1
      rw [runes_cons (l ++ m) (fun e => hl (List.append_eq_nil_iff.1 e).1), dec_append l m hl hb, runes_cons l hl, List.drop_append_of_le_length hwd.2, ih _ (by rw [List.length_drop]; omega) hw.2]
      rfl
theorem whole_append {l m : List UInt8} (h : wholeB l = true) (k : wholeB m = true) : wholeB (l ++ m) = true := by
  rw [wholeB, runes_append m l h, wholeL, List.all_append, Bool.and_eq_true]
  exact ⟨h, k⟩
theorem whole_wrong {l : List UInt8} (h : wholeB l = true) : wrongO l = none := by
  rw [wholeB] at h
  rw [wrongO]
  generalize runes l = rs at *
  suffices hh : ∀ (rs : List (Nat × Nat)) (n : Nat), wholeL rs = true → wrongF n rs = none from hh rs 0 h
  intro rs
  induction rs with
  | nil => intro n _; rfl
  | cons x rs ih =>
    intro n h
    rw [wholeL, List.all_cons, Bool.and_eq_true] at h
    rw [wrongF, if_neg (by simpa using h.1)]
    exact ih _ h.2

end Go.Proofs.YtgiaicmhnkhbnaaDoor
