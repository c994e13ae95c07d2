/-
  Plain: the first lines of a layout that may be, parsed; bytes and line feeds of a text.
-/
import Derived.Test.YtgiaicmhnkhbnaaDoorLyPrintP
import Derived.Test.YtgiaicmhnkhbnaaDoorPlNamesP
namespace Go.Proofs.YtgiaicmhnkhbnaaDoor

def total (l : Lay) : Nat := l.sections.length + l.points.length + l.signals.length + l.routes.length
theorem addName_len {l : List ByteArray} {most : Nat} {r : Rd} (h : (addNameP l most r).1 = 0) : (addNameP l most r).2.length = l.length + 1 := by
  rw [addNameP] at h ⊢
  split at h
  · rename_i hh
    exact absurd h hh
  · rename_i hh
    rw [if_neg hh]
    split at h
    · simp at h
    · rename_i h2
      rw [if_neg h2]
      split at h
      · simp at h
      · rename_i h3
        rw [if_neg h3]
        simp
theorem addPoint_len {l : Lay} {r : Rd} (h : (addPointP l r).1 = 0) : total (addPointP l r).2 = total l + 1 := by
  rw [addPointP] at h ⊢
  split at h
  · rename_i hh
    exact absurd h hh
  · rename_i hh
    rw [if_neg hh]
    split at h
    · simp at h
    · rename_i h2
      rw [if_neg h2]
      split at h
      · simp at h
      · rename_i h3
        rw [if_neg h3]
        split at h
        · simp at h
        · rename_i h4
          rw [if_neg h4]
          simp [total]
          omega
theorem addRoute_len {l : Lay} {r : Rd} (h : (addRouteP l r).1 = 0) : total (addRouteP l r).2 = total l + 1 := by
  rw [addRouteP] at h ⊢
  generalize rRoute r = a at h ⊢
  by_cases h1 : a.2.2 ≠ 0
  · rw [if_pos h1] at h
    exact absurd h h1
  rw [if_neg h1] at h ⊢
  generalize byPlaces l a.1 = t at h ⊢
  by_cases h2 : hasRoute l a.1.name = true
  · rw [if_pos h2] at h
    exact absurd h (by simp)
  rw [if_neg h2] at h ⊢
  by_cases h3 : lacks t = true
  · rw [if_pos h3] at h
    exact absurd h (by simp)
  rw [if_neg h3] at h ⊢
  by_cases h4 : 6 ≤ l.routes.length ∨ tooLong t = true
  · rw [if_pos h4] at h
    exact absurd h (by simp)
  rw [if_neg h4]
  simp only [total, List.length_append, List.length_cons, List.length_nil]
  omega
theorem addWords_total {l : Lay} {ws : List ByteArray} (hne : ws ≠ []) (h : (addWords l ws).1 = 0) : total (addWords l ws).2 = total l + 1 := by
  cases ws with
  | nil => exact absurd rfl hne
  | cons x ws =>
    rw [addWords] at h ⊢
    by_cases h1 : x = kSection
    · rw [if_pos h1] at h ⊢
      have := addName_len h
      simp only [total] at this ⊢
      omega
    · rw [if_neg h1] at h ⊢
      by_cases h2 : x = kSignal
      · rw [if_pos h2] at h ⊢
        have := addName_len h
        simp only [total] at this ⊢
        omega
      · rw [if_neg h2] at h ⊢
        by_cases h3 : x = kPoint
        · rw [if_pos h3] at h ⊢
          exact addPoint_len h
        · rw [if_neg h3] at h ⊢
          by_cases h4 : x = kRoute
          · rw [if_pos h4] at h ⊢
            exact addRoute_len h
          · rw [if_neg h4] at h
            simp at h
theorem run_take : ∀ (ls : List (List ByteArray)) (l m : Lay) (k : Nat), run l ls = some m → (∀ ws ∈ ls, ws ≠ []) → k ≤ ls.length → ∃ m', run l (ls.take k) = some m' ∧ total m' = total l + k
  | ls, l, m, 0, _, _, _ => ⟨l, by rw [List.take_zero]; rfl, rfl⟩
  | [], l, m, k + 1, _, _, hk => by simp at hk
  | ws :: ls, l, m, k + 1, h, hne, hk => by
    rw [run] at h
    by_cases ha : (addWords l ws).1 = 0
    · rw [if_pos ha] at h
      obtain ⟨m', h1, h2⟩ := run_take ls (addWords l ws).2 m k h (fun z hz => hne z (by simp [hz])) (by rw [List.length_cons] at hk; omega)
      refine ⟨m', ?_, ?_⟩
      · rw [List.take_succ_cons, run, if_pos ha]
        exact h1
      · rw [h2, addWords_total (hne ws (by simp)) ha]
        omega
    · rw [if_neg ha] at h
      simp at h
theorem cur_text (ls : List (List ByteArray)) : cur ls [] = mkB (textB [32] [] [] [] ls) := by rw [cur, lineB, List.append_nil]
/-- The first lines, parsed. -/
theorem parse_head (l : Lay) (h : IsL l) (k : Nat) (hk : k ≤ (lineWords l).length) : ∃ m, parseP (cur ((lineWords l).take k) []) = (m, k, 0) ∧ total m = k := by
  have hn := lines_len l
  have h1 := h.s.1
  have h2 := h.g.1
  have h3 := h.p.1
  have h4 := h.r.1
  obtain ⟨m, hm, ht⟩ := run_take (lineWords l) Lay.zero l k (run_all l h) (fun ws hws => (lines_wok l h ws hws).1) hk
  have hl : ((lineWords l).take k).length = k := by rw [List.length_take]; omega
  have := parse_run laid_plain ((lineWords l).take k) Lay.zero m (61 - k) 0 [] hm (fun ws hws => lines_wok l h ws (List.mem_of_mem_take hws)) (by omega)
  rw [List.append_nil, Nat.zero_add, hl, show 61 - k + k = 61 by omega, ← cur_text] at this
  refine ⟨m, ?_, ?_⟩
  · rw [parseP, this]
    exact parse_end _ _ _
  · rw [ht]
    show 0 + 0 + 0 + 0 + k = k
    omega

theorem line_feed {ws : List ByteArray} (h : ∀ w ∈ ws, WOk w) : (10 : UInt8) ∉ lineB [32] [] ws := mem_lineB (by decide) (by decide) fun w hw => (h w hw).feed
theorem text_cons (ws : List ByteArray) (ls : List (List ByteArray)) : textB [32] [] [] [] (ws :: ls) = lineB [32] [] ws ++ 10 :: textB [32] [] [] [] ls := by simp [textB]
theorem text_append (a b : List (List ByteArray)) : textB [32] [] [] [] (a ++ b) = textB [32] [] [] [] a ++ textB [32] [] [] [] b := by simp [textB]
theorem count_text : ∀ (ls : List (List ByteArray)), (∀ ws ∈ ls, ∀ w ∈ ws, WOk w) → (textB [32] [] [] [] ls).count 10 = ls.length
  | [], _ => rfl
  | ws :: ls, h => by
    rw [text_cons, List.count_append, List.count_cons, count_text ls fun z hz => h z (by simp [hz]), List.count_eq_zero.2 (line_feed (h ws (by simp)))]
    simp
theorem count_more {t : List UInt8} {k : Nat} {c : UInt8} (h : t[k]? = some c) : (t.take (k + 1)).count 10 = (t.take k).count 10 + (if c = 10 then 1 else 0) := by
  rw [List.take_add_one, h, List.count_append]
  simp [List.count_cons]
theorem byte_at {s : ByteArray} {k : Nat} {c : UInt8} (h : s.data.toList[k]? = some c) (hk : k < s.size) : s[k]'hk = c := by
  obtain ⟨h1, h2⟩ := List.getElem?_eq_some_iff.1 h
  rw [← h2]
  rfl
/-- A line's bytes, inside a text. -/
theorem line_bytes {ls : List (List ByteArray)} {i : Nat} {ws : List ByteArray} (hi : ls[i]? = some ws) (h : ∀ w ∈ ws, WOk w) {T : List UInt8} (hT : T = textB [32] [] [] [] ls) :
    (∀ t, t < (lineB [32] [] ws).length → ∃ c, T[(textB [32] [] [] [] (ls.take i)).length + t]? = some c ∧ c ≠ 10) ∧ T[(textB [32] [] [] [] (ls.take i)).length + (lineB [32] [] ws).length]? = some 10 ∧ (textB [32] [] [] [] (ls.take (i + 1))).length = (textB [32] [] [] [] (ls.take i)).length + (lineB [32] [] ws).length + 1 := by
  obtain ⟨hl, he⟩ := List.getElem?_eq_some_iff.1 hi
  have hs : T = textB [32] [] [] [] (ls.take i) ++ (lineB [32] [] ws ++ 10 :: textB [32] [] [] [] (ls.drop (i + 1))) := by
    rw [hT, ← text_cons, ← text_append, ← he, ← List.drop_eq_getElem_cons hl, List.take_append_drop]
  refine ⟨fun t ht => ⟨(lineB [32] [] ws)[t], ?_, fun e => line_feed h (by rw [← e]; exact List.getElem_mem ht)⟩, ?_, ?_⟩
  · rw [hs, List.getElem?_append_right (by omega), List.getElem?_append_left (by omega), List.getElem?_eq_getElem (by omega)]
    simp
  · rw [hs, List.getElem?_append_right (by omega), List.getElem?_append_right (by omega)]
    simp
  · rw [take_snocI hi, text_append, text_cons]
    simp [textB]
    omega
theorem text_prefix (ls : List (List ByteArray)) (k : Nat) : (textB [32] [] [] [] ls).take (textB [32] [] [] [] (ls.take k)).length = textB [32] [] [] [] (ls.take k) := by
  rw [show textB [32] [] [] [] ls = textB [32] [] [] [] (ls.take k) ++ textB [32] [] [] [] (ls.drop k) by rw [← text_append, List.take_append_drop]]
  simp
theorem i64_and1023 (n : Int) : bits .and .i64 n 1023 = n % 1024 := by
  have h3 : (BitVec.ofInt 64 1023).toNat = 2 ^ 10 - 1 := by decide
  have key : (BitVec.ofInt 64 n &&& BitVec.ofInt 64 1023).toNat = (n % ((2 ^ 64 : Nat) : Int)).toNat % 2 ^ 10 := by
    rw [BitVec.toNat_and, BitVec.toNat_ofInt, h3, Nat.and_two_pow_sub_one_eq_mod]
  show IntKind.i64.wrap ((BitVec.ofInt 64 n &&& BitVec.ofInt 64 1023).toNat : Nat) = n % 1024
  rw [key, IntKind.wrap_i64]
  omega
end Go.Proofs.YtgiaicmhnkhbnaaDoor
