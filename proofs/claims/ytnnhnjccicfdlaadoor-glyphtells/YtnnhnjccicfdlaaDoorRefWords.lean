/-
  The reference's Words, by a contract: it says what glyph.Words says.
-/
import Derived.Test.YtnnhnjccicfdlaaDoorRefName
namespace Go.Proofs.YtnnhnjccicfdlaaDoor
open Go.RowKit

def fromI (b : Bool) (a : Nat) : Int := if b = true then a else -1

/-- What Words hands back of a text. -/
def wordsPost (s : ByteArray) (B : Nat) (e : Ending) (w' : World) : Prop :=
  (wrongO s.data.toList = none ∧ ∃ v, e = .returned (.tuple #[v, .int .i64 (-1)]) ∧ w'.ownsRow B 37 2 v (wordsL s).length (wordCells (wordsL s))) ∨
  (∃ n : Nat, wrongO s.data.toList = some n ∧ e = .returned (.tuple #[.slice none 0 0, .int .i64 n]))

set_option maxRecDepth 1000000 in
set_option maxHeartbeats 8000000 in
theorem refWords_any (s : ByteArray) (w : World) (hs : s.size ≤ 4294967296) (hT : Lib.Utf8Tabs 0 1 w) :
    Calls Tryd.prog 7 #[.string s] w fun e w' => wordsPost s w.heap.size e w' ∧ Below w.heap.size w w' := by
  obtain ⟨i0, hi, hz0, hz1, hz2⟩ := info_parts infoW
  have H0 : Hid (runesAt s 0 = runes s.data.toList) := by simp [Hid, runesAt]
  have hlen : (runes s.data.toList).length ≤ s.size := by have := runes_length_le s.data.toList; rw [← Lib.size_eq] at this; omega
  go_enter Tryd.func7, Tryd.ntmps7
  go_wp2_with fail
  refine (refRunes_any s _ hs hT).mono ?_
  rintro e w1 ⟨v, rfl, hown, hb1⟩
  obtain ⟨oa, cap, rfl, hcl⟩ := hasRunes_of_owns hown
  have HW : Hid (wrongF 0 (runesAt s 0) = wrongO s.data.toList) := by simp [Hid, runesAt, wrongO]
  clear hown hT
  generalize hrs : runes s.data.toList = rs at *
  generalize hnx : rs.length = nx at *
  have HN : Hid (rs.length = nx) := hnx
  have HCL : Hid (∀ j x, rs[j]? = some x → ∃ g, oa = some ⟨g, 0, none⟩ ∧ w1.cell? ⟨g, j * 3, none⟩ = some (.int .i32 x.1) ∧ w1.cell? ⟨g, j * 3 + 1, none⟩ = some (.int .i64 x.2) ∧ w1.cell? ⟨g, j * 3 + 2, none⟩ = some (.bool (badB x))) := hcl
  clear hcl hnx hrs
  go_wp2
  go_loopw [5, 6, 7, 8, 9, 10] (fun out at_ fr st i _ wr => ∃ (pos k st0 a0 : Nat) (b : Bool) (ws : List (ByteArray × Nat)),
      wr.ownsRow w1.heap.size 37 2 out ws.length (wordCells ws) ∧ at_ = .int .i64 pos ∧ fr = .int .i64 (fromI b a0) ∧ st = .int .i64 st0 ∧ i = .int .i64 k ∧
      runesAt s pos = rs.drop k ∧ ws ++ splitF s (runesAt s pos) pos k b st0 a0 = wordsL s ∧ wrongF k (runesAt s pos) = wrongF 0 (runesAt s 0) ∧
      st0 ≤ pos ∧ ws.length ≤ k ∧ k ≤ nx ∧ pos ≤ s.size ∧ Below w1.heap.size w1 wr)
    (fun _ _ _ _ i _ _ => nx - (intOf i).toNat)
  case atStart => exact ⟨0, 0, 0, 0, false, [], World.ownsRow_nil _ _ _ _, rfl, rfl, rfl, rfl, by rw [H0.out]; rfl, rfl, rfl, by omega, by simp, by omega, by omega, Below.refl _ _⟩
  case round =>
    obtain ⟨pos, k, st0, a0, b, ws, hown, rfl, rfl, rfl, rfl, hdk, hc, hwr, hst, hwl, hk, hps, hbl⟩ := hrel
    by_cases hlt : k < nx
    · obtain ⟨x, hxk⟩ : ∃ x, rs[k]? = some x := ⟨rs[k]'(by rw [HN.out]; exact hlt), List.getElem?_eq_getElem _⟩
      obtain ⟨g, rfl, c1, c2, c3⟩ := HCL.out k x hxk
      have hdr : rs.drop k = x :: rs.drop (k + 1) := by
        obtain ⟨hl, he⟩ := List.getElem?_eq_some_iff.1 hxk
        rw [List.drop_eq_getElem_cons hl, he]
      have hp : pos < s.size := by
        rcases Nat.lt_or_ge pos s.size with h | h
        · exact h
        · rw [runesAt_end s pos (by omega), hdr] at hdk; cases hdk
      have hnext := runesAt_next s pos hp
      have hxd : x = Utf8.decode s pos ∧ runesAt s (pos + (Utf8.decode s pos).2) = rs.drop (k + 1) := by
        rw [hdk, hdr] at hnext
        injection hnext with h1 h2
        exact ⟨h1, h2.symm⟩
      have hwd := width_at s pos hp
      rw [splitF_next s pos k b st0 a0 hp] at hc
      rw [hnext, wrongF] at hwr
      rw [← hxd.1] at hwd hc hwr hxd
      have HD : Hid (runesAt s (pos + x.2) = rs.drop (k + 1)) := hxd.2
      have hlw := World.block_lt_of_cell? w1 _ c1
      have d1 := (hbl.cell (p := ⟨g, k * 3, none⟩) hlw).trans c1
      have d2 := (hbl.cell (p := ⟨g, k * 3 + 1, none⟩) hlw).trans c2
      have d3 := (hbl.cell (p := ⟨g, k * 3 + 2, none⟩) hlw).trans c3
      have HC2 : Hid (w1.cell? ⟨g, k * 3 + 1, none⟩ = some (.int .i64 x.2)) := c2
      have HLW : Hid (g < w1.heap.size) := hlw
      clear hdr hxk hdk hnext hxd c1 c2 c3 hlw
      obtain ⟨r, wd⟩ := x
      simp only at d1 d2 d3 hwd hc hwr HD HC2
      cases hbad : badB (r, wd)
      · rw [hbad] at d3 hwr
        rw [if_neg (by simp)] at hwr
        have HWR : Hid (wrongF (k + 1) (runesAt s (pos + wd)) = wrongF 0 (runesAt s 0)) := hwr
        clear hwr hbad
        cases hbk : blankB (r : Int)
        · rw [hbk, if_neg (by simp)] at hc
          have hn32 : ((r : Int) == 32) = false := by simp [blankB] at hbk; simp; omega
          have hn9 : ((r : Int) == 9) = false := by simp [blankB] at hbk; simp; omega
          clear hbk
          cases b
          · rw [if_neg (by simp)] at hc
            have HC : Hid (ws ++ splitF s (runesAt s (pos + wd)) (pos + wd) (k + 1) true pos k = wordsL s) := hc
            clear hc
            simp only [fromI, Bool.false_eq_true, if_false]
            go_wp2
            go_roundw
            case rel => exact ⟨pos + wd, k + 1, pos, k, true, ws, hown, by go_num, rfl, rfl, by go_num, HD.out, HC.out, HWR.out, by omega, by omega, by omega, by omega, hbl⟩
            case measure => simp [intOf]; omega
          · rw [if_pos rfl] at hc
            have HC : Hid (ws ++ splitF s (runesAt s (pos + wd)) (pos + wd) (k + 1) true st0 a0 = wordsL s) := hc
            clear hc
            simp only [fromI, if_true]
            go_wp2
            go_roundw
            case rel => exact ⟨pos + wd, k + 1, st0, a0, true, ws, hown, by go_num, rfl, rfl, by go_num, HD.out, HC.out, HWR.out, by omega, by omega, by omega, by omega, hbl⟩
            case measure => simp [intOf]; omega
        · rw [hbk, if_pos rfl] at hc
          cases b
          · rw [if_neg (by simp), List.nil_append] at hc
            have HC : Hid (ws ++ splitF s (runesAt s (pos + wd)) (pos + wd) (k + 1) false st0 a0 = wordsL s) := hc
            clear hc
            simp only [fromI, Bool.false_eq_true, if_false]
            by_cases h32 : r = 32
            · subst h32
              go_wp2
              go_roundw
              case rel => exact ⟨pos + wd, k + 1, st0, a0, false, ws, hown, by go_num, rfl, rfl, by go_num, HD.out, HC.out, HWR.out, by omega, by omega, by omega, by omega, hbl⟩
              case measure => simp [intOf]; omega
            · have h9 : r = 9 := by simp [blankB] at hbk; omega
              subst h9
              go_wp2
              go_roundw
              case rel => exact ⟨pos + wd, k + 1, st0, a0, false, ws, hown, by go_num, rfl, rfl, by go_num, HD.out, HC.out, HWR.out, by omega, by omega, by omega, by omega, hbl⟩
              case measure => simp [intOf]; omega
          · rw [if_pos rfl] at hc
            have HC : Hid (ws ++ ([(s.extract st0 pos, a0)] ++ splitF s (runesAt s (pos + wd)) (pos + wd) (k + 1) false st0 a0) = wordsL s) := hc
            clear hc
            simp only [fromI, if_true]
            by_cases h32 : r = 32
            · subst h32
              go_wp2_with (at_builtin; refine wpList_append_own _ rfl _ _ 22 rfl w1.heap.size 37 i0 (.agg #[.string ⟨#[]⟩, .int .i64 0]) 2 24 Tryd.underlying22 hi hz0 hz1 hz2 rfl (by decide) _ _ _ rfl (hown.alloc _) ⟨wr.heap.size, 0, none⟩ 1 1 [.string (s.extract st0 pos), .int .i64 a0] rfl rfl (cell_two_new _ _ _ _) (two_one _ _) (by unfold maxLen; omega) (by omega) (by have := hbl.size; simp; omega) ?_)
              intro v' w3 hown3 hgrow _
              have hbl3 : Below w1.heap.size w1 w3 := (hbl.alloc hbl.size _).grown hgrow (by have := hbl.size; simp; omega) (fun k hk => (hown.lt k hk).1)
              have e2 := (hbl3.cell (p := ⟨g, k * 3 + 1, none⟩) HLW.out).trans HC2.out
              have hown4 : w3.ownsRow w1.heap.size 37 2 v' (ws ++ [(s.extract st0 pos, a0)]).length (wordCells (ws ++ [(s.extract st0 pos, a0)])) := by rw [wordCells_snoc, List.length_append]; exact hown3
              clear hown hown3 hgrow hbl d1 d2 d3
              go_wp2
              go_roundw
              case rel => exact ⟨pos + wd, k + 1, st0, a0, false, ws ++ [(s.extract st0 pos, a0)], hown4, by go_num, rfl, rfl, by go_num, HD.out, by rw [← HC.out]; simp, HWR.out, by omega, by rw [List.length_append]; simp; omega, by omega, by omega, hbl3⟩
              case measure => simp [intOf]; omega
            · have h9 : r = 9 := by simp [blankB] at hbk; omega
              subst h9
              go_wp2_with (at_builtin; refine wpList_append_own _ rfl _ _ 22 rfl w1.heap.size 37 i0 (.agg #[.string ⟨#[]⟩, .int .i64 0]) 2 24 Tryd.underlying22 hi hz0 hz1 hz2 rfl (by decide) _ _ _ rfl (hown.alloc _) ⟨wr.heap.size, 0, none⟩ 1 1 [.string (s.extract st0 pos), .int .i64 a0] rfl rfl (cell_two_new _ _ _ _) (two_one _ _) (by unfold maxLen; omega) (by omega) (by have := hbl.size; simp; omega) ?_)
              intro v' w3 hown3 hgrow _
              have hbl3 : Below w1.heap.size w1 w3 := (hbl.alloc hbl.size _).grown hgrow (by have := hbl.size; simp; omega) (fun k hk => (hown.lt k hk).1)
              have e2 := (hbl3.cell (p := ⟨g, k * 3 + 1, none⟩) HLW.out).trans HC2.out
              have hown4 : w3.ownsRow w1.heap.size 37 2 v' (ws ++ [(s.extract st0 pos, a0)]).length (wordCells (ws ++ [(s.extract st0 pos, a0)])) := by rw [wordCells_snoc, List.length_append]; exact hown3
              clear hown hown3 hgrow hbl d1 d2 d3
              go_wp2
              go_roundw
              case rel => exact ⟨pos + wd, k + 1, st0, a0, false, ws ++ [(s.extract st0 pos, a0)], hown4, by go_num, rfl, rfl, by go_num, HD.out, by rw [← HC.out]; simp, HWR.out, by omega, by rw [List.length_append]; simp; omega, by omega, by omega, hbl3⟩
              case measure => simp [intOf]; omega
      · rw [hbad] at d3 hwr
        rw [if_pos rfl] at hwr
        have HWR : Hid (some k = wrongF 0 (runesAt s 0)) := hwr
        clear hwr hc
        go_wp2
        go_ret2
        exact ⟨.inr ⟨k, by rw [← HW.out, ← HWR.out], rfl⟩, hb1.trans (hbl.mono hb1.size)⟩
    · have hpe : ¬ pos < s.size := by
        intro hp
        have := runesAt_next s pos hp
        rw [hdk, List.drop_of_length_le (by rw [HN.out]; omega)] at this
        cases this
      have hpe' : pos = s.size := by omega
      subst hpe'
      rw [runesAt_end s s.size (by omega)] at hc hwr
      have HNW : Hid (wrongO s.data.toList = none) := by rw [← HW.out, ← hwr]; rfl
      clear hdk hwr
      cases b
      · have HC : Hid (ws = wordsL s) := by rw [← hc]; simp [Hid, splitF]
        clear hc
        simp only [fromI, Bool.false_eq_true, if_false]
        go_wp2
        go_ret2
        refine ⟨.inl ⟨HNW.out, _, rfl, ?_⟩, hb1.trans (hbl.mono hb1.size)⟩
        rw [← HC.out]
        exact owns_mono hown hb1.size
      · have HC : Hid (ws ++ [(s.extract st0 s.size, a0)] = wordsL s) := by rw [← hc]; simp [Hid, splitF]
        clear hc
        simp only [fromI, if_true]
        go_wp2_with (at_builtin; refine wpList_append_own _ rfl _ _ 22 rfl w1.heap.size 37 i0 (.agg #[.string ⟨#[]⟩, .int .i64 0]) 2 24 Tryd.underlying22 hi hz0 hz1 hz2 rfl (by decide) _ _ _ rfl (hown.alloc _) ⟨wr.heap.size, 0, none⟩ 1 1 [.string (s.extract st0 s.size), .int .i64 a0] rfl rfl (cell_two_new _ _ _ _) (two_one _ _) (by unfold maxLen; omega) (by omega) (by have := hbl.size; simp; omega) ?_)
        intro v' w3 hown3 hgrow _
        have hbl3 : Below w1.heap.size w1 w3 := (hbl.alloc hbl.size _).grown hgrow (by have := hbl.size; simp; omega) (fun k hk => (hown.lt k hk).1)
        clear hown hgrow hbl
        go_wp2
        go_ret2
        refine ⟨.inl ⟨HNW.out, _, rfl, ?_⟩, hb1.trans (hbl3.mono hb1.size)⟩
        rw [← HC.out, wordCells_snoc, List.length_append]
        exact owns_mono hown3 hb1.size
/-- The words of a text and -1; or none and the place of the first wrong byte. -/
def wordsR (s : ByteArray) : List (ByteArray × Nat) × Int := match wrongO s.data.toList with | none => (wordsL s, -1) | some n => ([], n)

theorem words_r (s : ByteArray) (w : World) (hs : s.size ≤ 4294967296) :
    Calls Tryd.prog 6 #[.string s] w fun e w' => ∃ v, e = .returned (.tuple #[v, .int .i64 (wordsR s).2]) ∧ hasWords w' v (wordsR s).1 ∧ Below w.heap.size w w' := by
  cases h : wrongO s.data.toList with
  | none =>
    refine (words_ok s w hs h).mono ?_
    rintro e w' ⟨v, rfl, hown, hb⟩
    simp only [wordsR, h]
    exact ⟨v, rfl, hasWords_of_owns hown, hb⟩
  | some n =>
    refine (words_bad s w hs n h).mono ?_
    rintro e w' ⟨rfl, hb⟩
    simp only [wordsR, h]
    exact ⟨_, rfl, ⟨none, 0, rfl, Nat.le_refl _, fun j x hj => by simp at hj⟩, hb⟩
theorem refWords_r (s : ByteArray) (w : World) (hs : s.size ≤ 4294967296) (hT : Lib.Utf8Tabs 0 1 w) :
    Calls Tryd.prog 7 #[.string s] w fun e w' => ∃ v, e = .returned (.tuple #[v, .int .i64 (wordsR s).2]) ∧ hasWords w' v (wordsR s).1 ∧ Below w.heap.size w w' := by
  refine (refWords_any s w hs hT).mono ?_
  rintro e w' ⟨hp, hb⟩
  rcases hp with ⟨h, v, rfl, hown⟩ | ⟨n, h, rfl⟩
  · simp only [wordsR, h]
    exact ⟨v, rfl, hasWords_of_owns hown, hb⟩
  · simp only [wordsR, h]
    exact ⟨_, rfl, ⟨none, 0, rfl, Nat.le_refl _, fun j x hj => by simp at hj⟩, hb⟩
theorem wordsR_length (s : ByteArray) : (wordsR s).1.length ≤ s.size + 1 := by
  unfold wordsR
  split
  · have h1 := splitF_length s (runesAt s 0) 0 0 false 0 0
    have h2 := runesAt_le s 0
    simp only [Bool.false_eq_true, if_false] at h1
    simp only [wordsL]
    omega
  · simp
end Go.Proofs.YtnnhnjccicfdlaaDoor
