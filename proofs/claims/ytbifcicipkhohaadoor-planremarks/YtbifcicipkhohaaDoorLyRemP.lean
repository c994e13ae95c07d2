/-
  Plain: a layout's text with more blanks, remarks and empty lines, parsed.
-/
import Derived.Test.YtbifcicipkhohaaDoorLyHeadsP
namespace Go.Proofs.YtbifcicipkhohaaDoor

def sepK (k1 : Bool) : List UInt8 := if k1 = true then [32, 9, 32] else [32]
def moreK (k2 : Bool) : List UInt8 := if k2 = true then [9, 10] else []
def remL : List UInt8 := [35, 32, 255, 32, 115, 101, 116]
def trK (k1 k2 : Bool) (b : UInt8) : List UInt8 := if b = 32 then sepK k1 else if b = 10 then 32 :: (remL ++ 10 :: moreK k2) else [b]
def trs (k1 k2 : Bool) (t : List UInt8) : List UInt8 := t.flatMap (trK k1 k2)
theorem trs_append (k1 k2 : Bool) (a b : List UInt8) : trs k1 k2 (a ++ b) = trs k1 k2 a ++ trs k1 k2 b := by simp [trs]
theorem trs_cons (k1 k2 : Bool) (a : UInt8) (b : List UInt8) : trs k1 k2 (a :: b) = trK k1 k2 a ++ trs k1 k2 b := by simp [trs]
theorem laid_k (k1 : Bool) : Laid (sepK k1) [32] remL := by
  cases k1
  · exact ⟨by decide, by decide, by decide, .inr ⟨_, rfl⟩⟩
  · exact ⟨by decide, by decide, by decide, .inr ⟨_, rfl⟩⟩
theorem wok_blank {x : ByteArray} (h : WOk x) : (32 : UInt8) ∉ bytesOf x := fun hm => by
  obtain ⟨d, hd, e⟩ := mem_rune (c := 32) (by decide) hm
  have := h.ok.2.1
  rw [noBlank, List.all_eq_true] at this
  have := this d hd
  rw [e] at this
  revert this
  decide
theorem trs_word (k1 k2 : Bool) : ∀ {t : List UInt8}, (32 : UInt8) ∉ t → (10 : UInt8) ∉ t → trs k1 k2 t = t
  | [], _, _ => rfl
  | b :: t, h1, h2 => by
    rw [trs_cons, trs_word k1 k2 (fun h => h1 (by simp [h])) (fun h => h2 (by simp [h])), trK, if_neg (fun e => h1 (by simp [e])), if_neg (fun e => h2 (by simp [e]))]
    rfl
theorem trs_behind (k1 k2 : Bool) : ∀ {ys : List ByteArray}, (∀ y ∈ ys, WOk y) → trs k1 k2 (behind [32] [] (ys.map bytesOf)) = behind (sepK k1) [] (ys.map bytesOf)
  | [], _ => rfl
  | y :: ys, h => by
    have ih := trs_behind k1 k2 (ys := ys) fun z hz => h z (by simp [hz])
    simp only [behind, List.map_cons, List.flatMap_cons, List.append_nil] at ih ⊢
    rw [trs_append, ih, List.singleton_append, trs_cons, trs_word k1 k2 (wok_blank (h y (by simp))) (h y (by simp)).feed, trK, if_pos rfl]
theorem trs_line (k1 k2 : Bool) {ws : List ByteArray} (hne : ws ≠ []) (h : ∀ w ∈ ws, WOk w) : trs k1 k2 (lineB [32] [] ws ++ [10]) = lineB (sepK k1) [32] ws ++ remL ++ 10 :: moreK k2 := by
  cases ws with
  | nil => exact absurd rfl hne
  | cons x ys =>
    rw [trs_append, lineB, lineB, trs_append, trs_behind k1 k2 fun z hz => h z (by simp [hz]), trs_word k1 k2 (wok_blank (h x (by simp))) (h x (by simp)).feed, trs_cons, trK, if_neg (by decide), if_pos rfl]
    simp [behind, trs]
theorem trs_text (k1 k2 : Bool) : ∀ {ls : List (List ByteArray)}, (∀ ws ∈ ls, ws ≠ [] ∧ ∀ w ∈ ws, WOk w) → trs k1 k2 (textB [32] [] [] [] ls) = textB (sepK k1) [32] remL (moreK k2) ls
  | [], _ => rfl
  | ws :: ls, h => by
    rw [text_cons, show lineB [32] [] ws ++ 10 :: textB [32] [] [] [] ls = (lineB [32] [] ws ++ [10]) ++ textB [32] [] [] [] ls by simp, trs_append, trs_line k1 k2 (h ws (by simp)).1 (h ws (by simp)).2, trs_text k1 k2 fun z hz => h z (by simp [hz])]
    simp [textB]
theorem tab_line (l : Lay) : addLineP l ⟨#[9]⟩ = (0, l) := by
  have h1 : noRemark ⟨#[9]⟩ = ⟨#[9]⟩ := by decide +kernel
  have h2 : wrongO (⟨#[9]⟩ : ByteArray).data.toList = none := by decide +kernel
  have h3 : (wordsL ⟨#[9]⟩).map (·.1) = [] := by decide +kernel
  rw [addLineP, h1, if_pos h2, h3]
  rfl
def perK (k2 : Bool) : Nat := if k2 = true then 2 else 1
theorem parse_runK (k1 k2 : Bool) : ∀ (ls : List (List ByteArray)) (l m : Lay) (f n : Nat), run l ls = some m → (∀ ws ∈ ls, ws ≠ [] ∧ ∀ w ∈ ws, WOk w) → n + perK k2 * ls.length ≤ 60 →
    parseF (f + perK k2 * ls.length) l n (mkB (textB (sepK k1) [32] remL (moreK k2) ls)) = parseF f m (n + perK k2 * ls.length) (mkB [])
  | [], l, m, f, n, h, _, _ => by
    rw [run] at h
    rw [Option.some.inj h]
    rfl
  | ws :: ls, l, m, f, n, h, hw, hn => by
    obtain ⟨h1, h2⟩ := hw ws (by simp)
    have hl := laid_k k1
    rw [run] at h
    have ha : (addWords l ws).1 = 0 := by
      cases e : (addWords l ws).1 with
      | zero => rfl
      | succ k => rw [e] at h; simp at h
    rw [if_pos ha] at h
    rw [List.length_cons] at hn ⊢
    have hno : (10 : UInt8) ∉ lineB (sepK k1) [32] ws ++ remL := fun hm => by
      rcases List.mem_append.1 hm with hm | hm
      · exact mem_lineB (blank_no hl.sep.1).1 (blank_no hl.tl).1 (fun w hw => (h2 w hw).feed) hm
      · exact hl.rm.1 hm
    have hadd : addLineP l ⟨(lineB (sepK k1) [32] ws ++ remL).toArray⟩ = (0, (addWords l ws).2) := by
      have := addLine_lineB l hl h1 h2
      rw [mkB] at this
      rw [this]
      exact Prod.ext ha rfl
    cases k2 with
    | false =>
      have e1 : perK false = 1 := rfl
      rw [e1] at hn ⊢
      have ih := parse_runK k1 false ls (addWords l ws).2 m f (n + 1) h (fun z hz => hw z (by simp [hz])) (by rw [e1]; omega)
      rw [e1] at ih
      rw [show f + 1 * (ls.length + 1) = (f + 1 * ls.length) + 1 by omega, parse_ok (s := mkB (textB (sepK k1) [32] remL (moreK false) (ws :: ls))) (a := lineB (sepK k1) [32] ws ++ remL) (rest := textB (sepK k1) [32] remL (moreK false) ls) (by simp [mkB, textB, moreK]) hno (by omega) hadd]
      rw [mkB] at ih
      rw [ih]
      congr 1
      omega
    | true =>
      have e1 : perK true = 2 := rfl
      rw [e1] at hn ⊢
      have ih := parse_runK k1 true ls (addWords l ws).2 m f (n + 2) h (fun z hz => hw z (by simp [hz])) (by rw [e1]; omega)
      rw [e1] at ih
      rw [show f + 2 * (ls.length + 1) = (f + 2 * ls.length + 1) + 1 by omega, parse_ok (s := mkB (textB (sepK k1) [32] remL (moreK true) (ws :: ls))) (a := lineB (sepK k1) [32] ws ++ remL) (rest := 9 :: 10 :: textB (sepK k1) [32] remL (moreK true) ls) (by simp [mkB, textB, moreK]) hno (by omega) hadd,
        parse_ok (a := [9]) (rest := textB (sepK k1) [32] remL (moreK true) ls) (by simp) (by decide) (by omega) (tab_line _)]
      rw [mkB] at ih
      rw [ih]
      congr 1
      omega
/-- Remarks, empty lines and more blanks. -/
theorem parse_rem (l : Lay) (h : IsL l) (k1 k2 : Bool) : parseP (mkB (trs k1 k2 (textB [32] [] [] [] (lineWords l)))) = (l, perK k2 * (lineWords l).length, 0) := by
  have hn := lines_len l
  have h1 := h.s.1
  have h2 := h.g.1
  have h3 := h.p.1
  have h4 := h.r.1
  have hp : perK k2 * (lineWords l).length ≤ 54 := by
    cases k2
    · show 1 * (lineWords l).length ≤ 54; omega
    · show 2 * (lineWords l).length ≤ 54; omega
  rw [trs_text k1 k2 (lines_wok l h)]
  have := parse_runK k1 k2 (lineWords l) Lay.zero l (61 - perK k2 * (lineWords l).length) 0 (run_all l h) (lines_wok l h) (by omega)
  rw [Nat.zero_add, show 61 - perK k2 * (lineWords l).length + perK k2 * (lineWords l).length = 61 by omega] at this
  rw [parseP, this]
  exact parse_end _ _ _
theorem trs_size (k1 k2 : Bool) : ∀ (t : List UInt8), (trs k1 k2 t).length ≤ 11 * t.length
  | [] => by simp [trs]
  | b :: t => by
    have ih := trs_size k1 k2 t
    have h1 : (trK k1 k2 b).length ≤ 11 := by
      rw [trK]
      split
      · cases k1 <;> decide
      · split
        · cases k2 <;> decide
        · simp
    rw [trs_cons, List.length_append, List.length_cons]
    omega
end Go.Proofs.YtbifcicipkhohaaDoor
