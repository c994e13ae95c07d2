/-
  Texts without a wrong rune: plain facts, and the law's own 'whole' by a contract.
-/
import Derived.Test.YtnnhnjccicfdlabDoorRefName
namespace Go.Proofs.YtnnhnjccicfdlabDoor
open Go.RowKit

def wholeL (rs : List (Nat × Nat)) : Bool := rs.all fun x => !badB x
def wholeB (l : List UInt8) : Bool := wholeL (runes l)

set_option maxHeartbeats 1000000 in
theorem decN_more (n n' b0 b1 b2 b3 c1 c2 c3 : Nat) (hn : n ≤ n') (h1 : 1 < n → c1 = b1) (h2 : 2 < n → c2 = b2) (h3 : 3 < n → c3 = b3) (h : ¬ Lib.decodeN n b0 b1 b2 b3 = (65533, 1)) :
    Lib.decodeN n' b0 c1 c2 c3 = Lib.decodeN n b0 b1 b2 b3 := by
  unfold Lib.decodeN at h ⊢
  by_cases q0 : b0 < 128
  · rw [if_pos q0, if_pos q0]
  · rw [if_neg q0] at h
    rw [if_neg q0, if_neg q0]
    by_cases q1 : b0 / 32 = 6 ∧ (1 < n ∧ b1 / 64 = 2)
    · have e1 := h1 q1.2.1
      subst e1
      rw [if_pos q1, if_pos ⟨q1.1, by omega, q1.2.2⟩]
    · rw [if_neg q1] at h
      by_cases q2 : b0 / 16 = 14 ∧ (1 < n ∧ b1 / 64 = 2) ∧ (2 < n ∧ b2 / 64 = 2)
      · have e1 := h1 q2.2.1.1
        have e2 := h2 q2.2.2.1
        subst e1
        subst e2
        rw [if_neg q1, if_pos q2, if_neg (by omega), if_pos ⟨q2.1, ⟨by omega, q2.2.1.2⟩, by omega, q2.2.2.2⟩]
      · rw [if_neg q2] at h
        by_cases q3 : b0 / 8 = 30 ∧ (1 < n ∧ b1 / 64 = 2) ∧ (2 < n ∧ b2 / 64 = 2) ∧ (3 < n ∧ b3 / 64 = 2)
        · have e1 := h1 q3.2.1.1
          have e2 := h2 q3.2.2.1.1
          have e3 := h3 q3.2.2.2.1
          subst e1
          subst e2
          subst e3
          rw [if_neg q1, if_neg q2, if_pos q3, if_neg (by omega), if_neg (by omega), if_pos ⟨q3.1, ⟨by omega, q3.2.1.2⟩, ⟨by omega, q3.2.2.1.2⟩, by omega, q3.2.2.2.2⟩]
        · rw [if_neg q3] at h
          exact absurd rfl h

theorem getD_append (l m : List UInt8) (k : Nat) (h : k < l.length) : (l ++ m).getD k 0 = l.getD k 0 := by
  rw [List.getD_eq_getElem?_getD, List.getD_eq_getElem?_getD, List.getElem?_append_left h]

theorem dec_append (l m : List UInt8) (hl : l ≠ []) (h : badB (dec l) = false) : dec (l ++ m) = dec l := by
  have hp : 0 < l.length := List.length_pos_iff.2 hl
  unfold dec at h ⊢
  rw [getD_append l m 0 hp]
  refine decN_more _ _ _ _ _ _ _ _ _ (by simp) (fun k => by rw [getD_append l m 1 k]) (fun k => by rw [getD_append l m 2 k]) (fun k => by rw [getD_append l m 3 k]) ?_
  intro e
  rw [e] at h
  exact absurd h (by decide)

/-- Behind a text without a wrong rune the runes of another one stand as they are. -/
theorem runes_append (m : List UInt8) (l : List UInt8) (h : wholeB l = true) : runes (l ++ m) = runes l ++ runes m := by
  suffices hh : ∀ (n : Nat) (l : List UInt8), l.length ≤ n → wholeB l = true → runes (l ++ m) = runes l ++ runes m from hh l.length l (Nat.le_refl _) h
  intro n
  induction n with
  | zero =>
    intro l h _
    have : l = [] := List.eq_nil_of_length_eq_zero (by omega)
    subst this
    rw [List.nil_append, runes_nil, List.nil_append]
  | succ n ih =>
    intro l hn hw
    by_cases hl : l = []
    · subst hl
      rw [List.nil_append, runes_nil, List.nil_append]
    · have hwd := dec_width l hl
      rw [wholeB, runes_cons l hl, wholeL, List.all_cons, Bool.and_eq_true] at hw
      have hb : badB (dec l) = false := by simpa using hw.1
      rw [runes_cons (l ++ m) (fun e => hl (List.append_eq_nil_iff.1 e).1), dec_append l m hl hb, runes_cons l hl, List.drop_append_of_le_length hwd.2, ih _ (by rw [List.length_drop]; omega) hw.2]
      rfl
theorem whole_append {l m : List UInt8} (h : wholeB l = true) (k : wholeB m = true) : wholeB (l ++ m) = true := by
  rw [wholeB, runes_append m l h, wholeL, List.all_append, Bool.and_eq_true]
  exact ⟨h, k⟩
theorem whole_wrong {l : List UInt8} (h : wholeB l = true) : wrongO l = none := by
  rw [wholeB] at h
  rw [wrongO]
  generalize runes l = rs at *
  suffices hh : ∀ (rs : List (Nat × Nat)) (n : Nat), wholeL rs = true → wrongF n rs = none from hh rs 0 h
  intro rs
  induction rs with
  | nil => intro n _; rfl
  | cons x rs ih =>
    intro n h
    rw [wholeL, List.all_cons, Bool.and_eq_true] at h
    rw [wrongF, if_neg (by simpa using h.1)]
    exact ih _ h.2

set_option maxRecDepth 1000000 in
set_option maxHeartbeats 2000000 in
theorem whole_any (s : ByteArray) (w : World) (hs : s.size ≤ 4294967296) (hT : Lib.Utf8Tabs 0 1 w) :
    Calls Tryd.prog 7 #[.string s] w fun e w' => e = .returned (.bool (wholeB s.data.toList)) ∧ Below w.heap.size w w' := by
  have hlen : (runes s.data.toList).length ≤ 4294967296 := by have := runes_length_le s.data.toList; rw [← Lib.size_eq] at this; omega
  have HW : Hid (wholeL (runes s.data.toList) = wholeB s.data.toList) := rfl
  generalize wholeB s.data.toList = ans at *
  go_enter Tryd.func7, Tryd.ntmps7
  go_wp2_with fail
  refine (refRunes_any s _ hs hT).mono ?_
  rintro e w1 ⟨v, rfl, hown, hb1⟩
  obtain ⟨oa, cap, rfl, hcl⟩ := hasRunes_of_owns hown
  clear hown hT
  generalize runes s.data.toList = rs at *
  generalize hnx : rs.length = nx at *
  have HN : Hid (rs.length = nx) := hnx
  have HCL : Hid (∀ j x, rs[j]? = some x → ∃ g, oa = some ⟨g, 0, none⟩ ∧ w1.cell? ⟨g, j * 3, none⟩ = some (.int .i32 x.1) ∧ w1.cell? ⟨g, j * 3 + 1, none⟩ = some (.int .i64 x.2) ∧ w1.cell? ⟨g, j * 3 + 2, none⟩ = some (.bool (badB x))) := hcl
  clear hcl hnx
  go_wp2
  go_loop [4] (fun i => ∃ k : Nat, i = .int .i64 k ∧ k ≤ nx ∧ wholeL (rs.drop k) = ans) (fun i => nx - (intOf i).toNat)
  case atStart => exact ⟨0, rfl, by omega, HW.out⟩
  case round =>
    obtain ⟨k, rfl, hk, hc⟩ := hrel
    have HC : Hid (wholeL (rs.drop k) = ans) := hc
    clear hc HW
    by_cases hlt : k < nx
    · have hdx : ∃ x, rs[k]? = some x ∧ rs.drop k = x :: rs.drop (k + 1) := by
        have hl : k < rs.length := by rw [HN.out]; exact hlt
        exact ⟨rs[k], List.getElem?_eq_getElem _, List.drop_eq_getElem_cons hl⟩
      obtain ⟨x, hxk, hdx⟩ := hdx
      obtain ⟨g, rfl, _, _, c3⟩ := HCL.out k x hxk
      rw [hdx, wholeL, List.all_cons] at HC
      clear hdx hxk
      cases hb : badB x
      · rw [hb] at c3 HC
        have HC2 : Hid (wholeL (rs.drop (k + 1)) = ans) := by rw [← HC.out]; simp [Hid, wholeL]
        clear HC
        go_wp2
        go_round
        case rel => exact ⟨k + 1, by go_num, by omega, HC2.out⟩
        case measure => simp [intOf]; omega
      · rw [hb] at c3 HC
        have HC2 : Hid (false = ans) := by rw [← HC.out]; simp [Hid]
        clear HC
        go_wp2
        go_ret
        exact ⟨ret_bool HC2.out, hb1⟩
    · have HC2 : Hid (true = ans) := by rw [← HC.out, List.drop_of_length_le (by rw [HN.out]; omega)]; rfl
      go_wp2
      go_ret
      exact ⟨ret_bool HC2.out, hb1⟩
end Go.Proofs.YtnnhnjccicfdlabDoor
