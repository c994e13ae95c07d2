/-
  Plain facts: a layout that may be, printed (with whatever blanks between, with remarks behind), is parsed as it was.
-/
import Derived.Test.YtgiaicmhnkhbnaaDoorPlRun
namespace Go.Proofs.YtgiaicmhnkhbnaaDoor

def bytesOf (w : ByteArray) : List UInt8 := w.data.toList
theorem mkB_bytes (w : ByteArray) : mkB (bytesOf w) = w := rfl
/-- A line of words: blanks between, blanks at the end. -/
def lineB (sep tl : List UInt8) : List ByteArray → List UInt8
  | [] => tl
  | x :: ys => bytesOf x ++ behind sep tl (ys.map bytesOf)
/-- A word that may stand in such a line. -/
structure WOk (w : ByteArray) : Prop where
  ok : okW (bytesOf w)
  feed : (10 : UInt8) ∉ bytesOf w
  rem : (35 : UInt8) ∉ bytesOf w

theorem mem_behind {c : UInt8} {sep tl : List UInt8} (hs : c ∉ sep) (ht : c ∉ tl) : ∀ {ys : List (List UInt8)}, (∀ y ∈ ys, c ∉ y) → c ∉ behind sep tl ys := by
  intro ys h hm
  rw [behind, List.mem_append, List.mem_flatMap] at hm
  rcases hm with ⟨y, hy, hc⟩ | hm
  · rcases List.mem_append.1 hc with hc | hc
    · exact hs hc
    · exact h y hy hc
  · exact ht hm
theorem mem_lineB {c : UInt8} {sep tl : List UInt8} (hs : c ∉ sep) (ht : c ∉ tl) {ws : List ByteArray} (h : ∀ w ∈ ws, c ∉ bytesOf w) : c ∉ lineB sep tl ws := by
  cases ws with
  | nil => exact ht
  | cons x ys =>
    intro hm
    rcases List.mem_append.1 hm with hm | hm
    · exact h x (by simp) hm
    · exact mem_behind hs ht (fun y hy => by
        obtain ⟨z, hz, rfl⟩ := List.mem_map.1 hy
        exact h z (by simp [hz])) hm

/-- How lines are laid out. -/
structure Laid (sep tl rm : List UInt8) : Prop where
  sep : blankBytes sep = true ∧ sep ≠ []
  tl : blankBytes tl = true
  rm : (10 : UInt8) ∉ rm ∧ (rm = [] ∨ ∃ r, rm = 35 :: r)
theorem blank_no {l : List UInt8} (h : blankBytes l = true) : (10 : UInt8) ∉ l ∧ (35 : UInt8) ∉ l := by
  rw [blankBytes, List.all_eq_true] at h
  exact ⟨fun e => absurd (h _ e) (by decide), fun e => absurd (h _ e) (by decide)⟩
theorem addLine_lineB (l : Lay) {sep tl rm : List UInt8} (hl : Laid sep tl rm) {ws : List ByteArray} (hne : ws ≠ []) (h : ∀ w ∈ ws, WOk w) : addLineP l (mkB (lineB sep tl ws ++ rm)) = addWords l ws := by
  cases ws with
  | nil => exact absurd rfl hne
  | cons x ys =>
    have hr : (35 : UInt8) ∉ bytesOf x ++ behind sep tl (ys.map bytesOf) := mem_lineB (blank_no hl.sep.1).2 (blank_no hl.tl).2 (ws := x :: ys) (fun w hw => (h w hw).rem)
    have hok : ∀ y ∈ ys.map bytesOf, okW y := fun y hy => by
      obtain ⟨z, hz, rfl⟩ := List.mem_map.1 hy
      exact (h z (by simp [hz])).ok
    have e : mkB (bytesOf x) :: (ys.map bytesOf).map mkB = x :: ys := by
      rw [List.map_map]
      show x :: ys.map id = x :: ys
      rw [List.map_id]
    rcases hl.rm.2 with hm | ⟨r, hm⟩
    · subst hm
      rw [List.append_nil]
      show addLineP l (mkB (bytesOf x ++ behind sep tl (ys.map bytesOf))) = _
      rw [addLine_words l sep tl hl.sep.1 hl.sep.2 hl.tl _ _ (h x (by simp)).ok hok hr, e]
    · subst hm
      show addLineP l (mkB (bytesOf x ++ behind sep tl (ys.map bytesOf) ++ 35 :: r)) = _
      rw [addLine_remark l sep tl r hl.sep.1 hl.sep.2 hl.tl _ _ (h x (by simp)).ok hok hr, e]

/-- The text of lines; behind each what 'more' says, itself a line that adds nothing, or nothing. -/
def textB (sep tl rm more : List UInt8) (ls : List (List ByteArray)) : List UInt8 := ls.flatMap fun ws => lineB sep tl ws ++ rm ++ 10 :: more
theorem parse_run {sep tl rm : List UInt8} (hl : Laid sep tl rm) : ∀ (ls : List (List ByteArray)) (l m : Lay) (f n : Nat) (rest : List UInt8), run l ls = some m → (∀ ws ∈ ls, ws ≠ [] ∧ ∀ w ∈ ws, WOk w) → n + ls.length ≤ 60 →
    parseF (f + ls.length) l n (mkB (textB sep tl rm [] ls ++ rest)) = parseF f m (n + ls.length) (mkB rest)
  | [], l, m, f, n, rest, h, _, _ => by
    rw [run] at h
    rw [Option.some.inj h]
    rfl
  | ws :: ls, l, m, f, n, rest, h, hw, hn => by
    obtain ⟨h1, h2⟩ := hw ws (by simp)
    rw [run] at h
    have ha : (addWords l ws).1 = 0 := by
      cases e : (addWords l ws).1 with
      | zero => rfl
      | succ k => rw [e] at h; simp at h
    rw [if_pos ha] at h
    rw [List.length_cons] at hn ⊢
    have hno : (10 : UInt8) ∉ lineB sep tl ws ++ rm := fun hm => by
      rcases List.mem_append.1 hm with hm | hm
      · exact mem_lineB (blank_no hl.sep.1).1 (blank_no hl.tl).1 (fun w hw => (h2 w hw).feed) hm
      · exact hl.rm.1 hm
    have hadd : addLineP l ⟨(lineB sep tl ws ++ rm).toArray⟩ = (0, (addWords l ws).2) := by
      have := addLine_lineB l hl h1 h2
      rw [mkB] at this
      rw [this]
      exact Prod.ext ha rfl
    rw [show f + (ls.length + 1) = (f + ls.length) + 1 by omega, parse_ok (s := mkB (textB sep tl rm [] (ws :: ls) ++ rest)) (a := lineB sep tl ws ++ rm) (rest := textB sep tl rm [] ls ++ rest) (by simp [mkB, textB]) hno (by omega) hadd]
    have ih := parse_run hl ls (addWords l ws).2 m f (n + 1) rest h (fun z hz => hw z (by simp [hz])) (by omega)
    rw [mkB] at ih
    rw [ih]
    congr 1
    omega

/-- A rune of so small a number is a byte. -/
theorem findF_mem (c : Nat) : ∀ (rs : List (Nat × Nat)) (pos k : Nat), findF c rs pos = some k → ∃ d ∈ rs, d.1 = c
  | [], _, _, h => by simp [findF] at h
  | d :: rs, pos, k, h => by
    rw [findF] at h
    by_cases e : d.1 = c
    · exact ⟨d, by simp, e⟩
    · rw [if_neg e] at h
      obtain ⟨d', h1, h2⟩ := findF_mem c rs _ k h
      exact ⟨d', by simp [h1], h2⟩
theorem mem_rune {c : UInt8} (hc : c.toNat < 128) {a : List UInt8} (h : c ∈ a) : ∃ d ∈ runes a, d.1 = c.toNat := by
  obtain ⟨pre, post, rfl, hn⟩ := List.eq_append_cons_of_mem h
  exact findF_mem _ _ _ _ (find_at c hc post pre.length pre 0 (Nat.le_refl _) hn)
theorem nameF_high : ∀ (rs : List (Nat × Nat)) (k : Nat), nameF k rs = true → ∀ d ∈ rs, 48 ≤ d.1
  | [], _, _, d, hd => by simp at hd
  | x :: rs, k, h, d, hd => by
    rw [nameF] at h
    have hc : ¬ (k = 8 ∨ standB x.1 k = false) := by
      intro e
      rw [if_pos e] at h
      exact absurd h (by simp)
    rw [if_neg hc] at h
    have hst : standB x.1 k = true := by
      cases hs : standB x.1 k
      · exact absurd (.inr hs) hc
      · rfl
    rcases List.mem_cons.1 hd with rfl | hd
    · rw [standB, Bool.or_eq_true, Bool.and_eq_true] at hst
      rcases hst with hst | ⟨_, hst⟩
      · simp [letterB] at hst; omega
      · simp [digitB] at hst; omega
    · exact nameF_high rs (k + 1) h d hd
theorem cap_wok {x : ByteArray} (h : capB x = true) : WOk x := by
  have hn := cap_name h
  obtain ⟨h1, h2, h3, _⟩ := name_parts hn
  have hne : bytesOf x ≠ [] := fun e => h3 (by rw [show x.data.toList = [] from e]; rfl)
  refine ⟨⟨h2, h1, hne⟩, fun e => ?_, fun e => ?_⟩
  · obtain ⟨d, hd, e2⟩ := mem_rune (by decide) e
    have := nameF_high _ 0 hn d hd
    rw [e2] at this
    exact absurd this (by decide)
  · obtain ⟨d, hd, e2⟩ := mem_rune (by decide) e
    have := nameF_high _ 0 hn d hd
    rw [e2] at this
    exact absurd this (by decide)
theorem sign_whole : ∀ b : Bool, wholeB [if b = true then (45 : UInt8) else 43] = true ∧ noBlank (runes [if b = true then (45 : UInt8) else 43]) = true := by decide +kernel
theorem want_wok {x : Wt} (h : capB x.1 = true) : WOk (wantW x) := by
  have hw := cap_wok h
  have hb : bytesOf (wantW x) = bytesOf x.1 ++ [if x.2 = true then 45 else 43] := rfl
  have hr : runes (bytesOf (wantW x)) = runes (bytesOf x.1) ++ runes [if x.2 = true then 45 else 43] := by rw [hb]; exact runes_append _ _ hw.ok.1
  obtain ⟨nm, b⟩ := x
  refine ⟨⟨?_, ?_, ?_⟩, ?_, ?_⟩
  · rw [hb]
    exact whole_append hw.ok.1 (sign_whole b).1
  · rw [hr, noBlank, List.all_append, Bool.and_eq_true]
    exact ⟨hw.ok.2.1, (sign_whole b).2⟩
  · rw [hb]
    simp
  · rw [hb]
    intro e
    rcases List.mem_append.1 e with e | e
    · exact hw.feed e
    · cases b <;> simp at e
  · rw [hb]
    intro e
    rcases List.mem_append.1 e with e | e
    · exact hw.rem e
    · cases b <;> simp at e
theorem key_wok {x : ByteArray} (h : (wholeB (bytesOf x) && noBlank (runes (bytesOf x)) && decide (bytesOf x ≠ []) && decide ((10 : UInt8) ∉ bytesOf x) && decide ((35 : UInt8) ∉ bytesOf x)) = true) : WOk x := by
  simp only [Bool.and_eq_true, decide_eq_true_eq] at h
  exact ⟨⟨h.1.1.1.1, h.1.1.1.2, h.1.1.2⟩, h.1.2, h.2⟩
theorem kSection_wok : WOk kSection := key_wok (by decide +kernel)
theorem kSignal_wok : WOk kSignal := key_wok (by decide +kernel)
theorem kPoint_wok : WOk kPoint := key_wok (by decide +kernel)
theorem kIn_wok : WOk kIn := key_wok (by decide +kernel)
theorem kRoute_wok : WOk kRoute := key_wok (by decide +kernel)
theorem kFrom_wok : WOk kFrom := key_wok (by decide +kernel)
theorem kTo_wok : WOk kTo := key_wok (by decide +kernel)
theorem kVia_wok : WOk kVia := key_wok (by decide +kernel)
theorem kSet_wok : WOk kSet := key_wok (by decide +kernel)
theorem kFlank_wok : WOk kFlank := key_wok (by decide +kernel)

theorem wantRow_wok {t : ByteArray} (ht : WOk t) {xs : List Wt} (h : ∀ x ∈ xs, capB x.1 = true) : ∀ w ∈ wantRow t xs, WOk w := by
  intro w hw
  cases xs with
  | nil => simp [wantRow] at hw
  | cons x xs =>
    rcases List.mem_cons.1 hw with rfl | hw
    · exact ht
    · obtain ⟨y, hy, rfl⟩ := List.mem_map.1 hw
      exact want_wok (h y hy)
theorem route_wok {r : RL} (h : RLOk r) : ∀ w ∈ routeWords r, WOk w := by
  intro w hw
  rw [routeWords, List.mem_append, List.mem_append, List.mem_append] at hw
  rcases hw with hw | hw | hw | hw
  · simp at hw
    rcases hw with rfl | rfl | rfl | rfl | rfl | rfl
    · exact cap_wok h.name
    · exact kFrom_wok
    · exact cap_wok h.frm
    · exact kTo_wok
    · exact cap_wok h.to
    · exact kVia_wok
  · exact cap_wok (h.via.2 w hw)
  · exact wantRow_wok kSet_wok h.set w hw
  · exact wantRow_wok kFlank_wok h.flank w hw
theorem lines_wok (l : Lay) (h : IsL l) : ∀ ws ∈ lineWords l, ws ≠ [] ∧ ∀ w ∈ ws, WOk w := by
  intro ws hws
  rw [lineWords, List.mem_append, List.mem_append, List.mem_append] at hws
  rcases hws with hws | hws | hws | hws
  · obtain ⟨x, hx, rfl⟩ := List.mem_map.1 hws
    refine ⟨by simp, fun w hw => ?_⟩
    simp at hw
    rcases hw with rfl | rfl
    · exact kSection_wok
    · exact cap_wok (h.s.2.2 _ hx)
  · obtain ⟨x, hx, rfl⟩ := List.mem_map.1 hws
    refine ⟨by simp, fun w hw => ?_⟩
    simp at hw
    rcases hw with rfl | rfl
    · exact kSignal_wok
    · exact cap_wok (h.g.2.2 _ hx)
  · obtain ⟨x, hx, rfl⟩ := List.mem_map.1 hws
    obtain ⟨c1, c2, c3⟩ := h.p.2.2 x hx
    refine ⟨by simp, fun w hw => ?_⟩
    simp at hw
    rcases hw with rfl | rfl | rfl | rfl
    · exact kPoint_wok
    · exact cap_wok c1
    · exact kIn_wok
    · exact cap_wok (h.s.2.2 _ (nth_mem c2 c3))
  · obtain ⟨x, hx, rfl⟩ := List.mem_map.1 hws
    obtain ⟨c1, c2⟩ := h.r.2.2 x hx
    refine ⟨by simp, fun w hw => ?_⟩
    rcases List.mem_cons.1 hw with rfl | hw
    · exact kRoute_wok
    · exact route_wok (rl_ok h c1 c2) w hw
theorem lines_len (l : Lay) : (lineWords l).length = l.sections.length + (l.signals.length + (l.points.length + l.routes.length)) := by
  simp [lineWords, wordsS, wordsG, wordsP, wordsR]
/-- Printed and parsed: it is it, by as many lines as it has things. -/
theorem parse_back (l : Lay) (h : IsL l) {sep tl rm : List UInt8} (hl : Laid sep tl rm) : parseP (mkB (textB sep tl rm [] (lineWords l))) = (l, (lineWords l).length, 0) := by
  have hn := lines_len l
  have h1 := h.s.1
  have h2 := h.g.1
  have h3 := h.p.1
  have h4 := h.r.1
  have := parse_run hl (lineWords l) Lay.zero l (61 - (lineWords l).length) 0 [] (run_all l h) (lines_wok l h) (by omega)
  rw [List.append_nil, Nat.zero_add, show 61 - (lineWords l).length + (lineWords l).length = 61 by omega] at this
  rw [parseP, this]
  exact parse_end _ _ _

end Go.Proofs.YtgiaicmhnkhbnaaDoor
