/-
  Texts of this proof, joined: PlTabs, PlRefName, PlRefCap, LyNames, LyIs.
-/
import Derived.Test.YtceebimgfajbcaaGreatDoorShelf
import Derived.Test.YtceebimgfajbcaaGreatDoorJoin1
import Derived.Deep.QuietTactic
import Derived.Deep.CutBlock
import Derived.Test.YtceebimgfajbcaaGreatDoorJoin2
namespace Go.Proofs.YtceebimgfajbcaaGreatDoor
open Go.RowKit

theorem tabs_below {w w' : World} (h : Lib.Utf8Tabs 0 1 w) (hb : Below w.heap.size w w') : Lib.Utf8Tabs 0 1 w' := by
  refine ⟨fun c hc => ?_, fun i hi => ?_⟩
  · have h1 := h.1 c hc
    exact (hb.cell (World.block_lt_of_cell? w _ h1)).trans h1
  · have h1 := h.2 i hi
    exact ⟨(hb.cell (World.block_lt_of_cell? w _ h1.1)).trans h1.1, (hb.cell (World.block_lt_of_cell? w _ h1.2)).trans h1.2⟩

/-- Of what there was at the call nothing has turned; the two tables lie. -/
def Ok (w0 w : World) : Prop := Below w0.heap.size w0 w ∧ Lib.Utf8Tabs 0 1 w
theorem Ok.start {w : World} (h : Lib.Utf8Tabs 0 1 w) : Ok w w := ⟨Below.refl _ _, h⟩
theorem Ok.step {w0 w w' : World} (h : Ok w0 w) (hb : Below w.heap.size w w') : Ok w0 w' := ⟨h.1.trans (hb.mono h.1.size), tabs_below h.2 hb⟩
theorem Ok.drewN {w0 w : World} (h : Ok w0 w) (n : Nat) : Ok w0 (w.drewN n) := ⟨_root_.Go.below_drewN h.1 n, h.2⟩

theorem decodeGo_at (s : ByteArray) (p : Nat) (h : p < s.size) : Lib.decodeGo (s.extract p s.size) = Utf8.decode s p := by
  have hl : (s.extract p s.size).data.toList = s.data.toList.drop p := by
    rw [Lib.extract_data, List.take_of_length_le (by rw [List.length_drop, ← Lib.size_eq]; exact Nat.le_refl _)]
  have hs : (s.extract p s.size).size = s.size - p := by rw [Lib.size_eq, hl, List.length_drop, ← Lib.size_eq]
  rw [Lib.decodeGo, if_neg (by omega), decode_drop, decode_drop, hl]
  rfl

theorem decode_any (s : ByteArray) (w : World) (hT : Lib.Utf8Tabs 0 1 w) (hs : s.size ≠ 0) :
    Calls Tryz.prog 103 #[.string s] w fun e w' => e = .returned (.tuple #[.int .i32 (Utf8.decode s 0).1, .int .i64 (Utf8.decode s 0).2]) ∧ Below w.heap.size w w' := by
  have h := Tryz.utf8_DecodeRuneInString s w hT
  rw [Lib.decodeGo, if_neg hs] at h
  exact h

def runeCells (l : List (Nat × Nat)) : List Value := l.flatMap fun x => [.int .i32 x.1, .int .i64 x.2, .bool (badB x)]
theorem runeCells_snoc (l : List (Nat × Nat)) (x : Nat × Nat) : runeCells (l ++ [x]) = runeCells l ++ [.int .i32 x.1, .int .i64 x.2, .bool (badB x)] := by
  simp [runeCells]
theorem infoR : (Tryz.prog.info? 128).map (fun i => (i.zero, i.size, i.bytes)) = some (some (.agg #[.int .i32 0, .int .i64 0, .bool false]), 3, 24) := by kernel_rfl

theorem cell_three_new (w : World) (a b c : Value) (t : TypeId) : ∀ j u, [a, b, c][j]? = some u → (w.alloc (.cells #[a, b, c] t)).cell? ((⟨w.heap.size, 0, none⟩ : Addr).add j) = some u := by
  intro j u hj
  match j, hj with
  | 0, hj => simp at hj; subst hj; simp [Addr.add]
  | 1, hj => simp at hj; subst hj; simp [Addr.add]
  | 2, hj => simp at hj; subst hj; simp [Addr.add]
  | j + 3, hj => simp at hj
theorem three_one (a b : Int) (c : Bool) : ∀ u ∈ [Value.int .i32 a, Value.int .i64 b, Value.bool c], u.oneCell' = true := by
  intro u hu
  simp at hu
  rcases hu with rfl | rfl | rfl <;> rfl

set_option maxRecDepth 1000000 in
set_option maxHeartbeats 4000000 in
theorem refRunes_any (s : ByteArray) (w : World) (hs : s.size ≤ 4294967296) (hT : Lib.Utf8Tabs 0 1 w) :
    Calls Tryz.prog 89 #[.string s] w fun e w' => ∃ v, e = .returned v ∧ w'.ownsRow w.heap.size 128 3 v (runes s.data.toList).length (runeCells (runes s.data.toList)) ∧ Below w.heap.size w w' := by
  obtain ⟨i0, hi, hz0, hz1, hz2⟩ := info_parts infoR
  have H0 : Hid (runesAt s 0 = runes s.data.toList) := by simp [Hid, runesAt]
  have HT : Hid (Lib.Utf8Tabs 0 1 w) := hT
  clear hT
  go_enter Tryz.func89, Tryz.ntmps89
  go_wp2
  go_loopw [3, 4, 5, 6] (fun v i _ _ wr => ∃ (pos : Nat) (rs : List (Nat × Nat)), wr.ownsRow w.heap.size 128 3 v rs.length (runeCells rs) ∧ i = .int .i64 pos ∧
      rs ++ runesAt s pos = runesAt s 0 ∧ rs.length ≤ pos ∧ pos ≤ s.size ∧ Below w.heap.size w wr)
    (fun _ i _ _ _ => s.size - (intOf i).toNat)
  case atStart => exact ⟨0, [], World.ownsRow_nil _ _ _ _, rfl, rfl, by simp, by omega, Below.refl _ _⟩
  case round =>
    obtain ⟨pos, rs, hown, rfl, hc, hl, hps, hbl⟩ := hrel
    have HC : Hid (rs ++ runesAt s pos = runesAt s 0) := hc
    clear hc
    by_cases hp : pos < s.size
    · have hwd := width_at s pos hp
      have HN : Hid (runesAt s pos = Utf8.decode s pos :: runesAt s (pos + (Utf8.decode s pos).2)) := runesAt_next s pos hp
      have hD := fun W h => decode_any (s.extract pos s.size) W h (by simp; omega)
      have e0 : Utf8.decode (s.extract pos s.size) 0 = Utf8.decode s pos := by
        have := decodeGo_at s pos hp
        rw [Lib.decodeGo, if_neg (by simp; omega)] at this
        exact this
      rw [e0] at hD
      clear e0
      generalize hr : Utf8.decode s pos = dd at *
      obtain ⟨r, wd⟩ := dd
      simp only at hwd hD
      clear hr
      go_wp2_with fail
      refine (hD _ (tabs_below HT.out hbl)).mono ?_
      rintro e w2 ⟨rfl, hb2⟩
      have hown2 := owns_below hown hb2
      have hbl2 : Below w.heap.size w w2 := hbl.trans (hb2.mono hbl.size)
      clear hb2 hbl hown hD
      by_cases hr : r = 65533
      · by_cases hw1 : wd = 1
        · subst hr
          subst hw1
          go_wp2_with (at_builtin; refine wpList_append_own _ rfl _ _ 125 rfl w.heap.size 128 i0 (.agg #[.int .i32 0, .int .i64 0, .bool false]) 3 24 Tryz.underlying125 hi hz0 hz1 hz2 rfl (by decide) _ _ _ rfl (hown2.alloc _) ⟨w2.heap.size, 0, none⟩ 1 1 [.int .i32 65533, .int .i64 1, .bool true] rfl rfl (cell_three_new _ _ _ _ _) (three_one _ _ _) (by unfold maxLen; omega) (by omega) (by have := hbl2.size; simp; omega) ?_)
          intro v' w3 hown3 hgrow _
          have hbl3 : Below w.heap.size w w3 := (hbl2.alloc hbl2.size _).grown hgrow (by have := hbl2.size; simp; omega) (fun k hk => (hown2.lt k hk).1)
          have hadd : rs ++ (65533, 1) :: runesAt s (pos + 1) = runesAt s 0 := by rw [← HC.out, HN.out]
          have HADD : Hid (rs ++ (65533, 1) :: runesAt s (pos + 1) = runesAt s 0) := hadd
          have hown4 : w3.ownsRow w.heap.size 128 3 v' (rs ++ [(65533, 1)]).length (runeCells (rs ++ [(65533, 1)])) := by
            rw [runeCells_snoc, List.length_append]
            rw [show badB (65533, 1) = true from rfl]
            exact hown3
          clear hown2 hown3 hgrow hbl2 hadd
          go_wp2
          go_roundw
          case rel => exact ⟨pos + 1, rs ++ [(65533, 1)], hown4, by go_num, by rw [← HADD.out]; simp, by rw [List.length_append]; simp; omega, by omega, hbl3⟩
          case measure => simp [intOf]; omega
        · subst hr
          have hw' : ((wd : Int) == 1) = false := by simp; omega
          go_wp2_with (at_builtin; refine wpList_append_own _ rfl _ _ 125 rfl w.heap.size 128 i0 (.agg #[.int .i32 0, .int .i64 0, .bool false]) 3 24 Tryz.underlying125 hi hz0 hz1 hz2 rfl (by decide) _ _ _ rfl (hown2.alloc _) ⟨w2.heap.size, 0, none⟩ 1 1 [.int .i32 65533, .int .i64 wd, .bool false] rfl rfl (cell_three_new _ _ _ _ _) (three_one _ _ _) (by unfold maxLen; omega) (by omega) (by have := hbl2.size; simp; omega) ?_)
          intro v' w3 hown3 hgrow _
          have hbl3 : Below w.heap.size w w3 := (hbl2.alloc hbl2.size _).grown hgrow (by have := hbl2.size; simp; omega) (fun k hk => (hown2.lt k hk).1)
          have hadd : rs ++ (65533, wd) :: runesAt s (pos + wd) = runesAt s 0 := by rw [← HC.out, HN.out]
          have HADD : Hid (rs ++ (65533, wd) :: runesAt s (pos + wd) = runesAt s 0) := hadd
          have hown4 : w3.ownsRow w.heap.size 128 3 v' (rs ++ [(65533, wd)]).length (runeCells (rs ++ [(65533, wd)])) := by
            rw [runeCells_snoc, List.length_append]
            rw [show badB (65533, wd) = false by rw [badB, decide_eq_false_iff_not]; exact fun h => hw1 h.2]
            exact hown3
          clear hown2 hown3 hgrow hbl2 hadd
          go_wp2
          go_roundw
          case rel => exact ⟨pos + wd, rs ++ [(65533, wd)], hown4, by go_num, by rw [← HADD.out]; simp, by rw [List.length_append]; simp; omega, by omega, hbl3⟩
          case measure => simp [intOf]; omega
      · have hr' : ((r : Int) == 65533) = false := by simp; omega
        go_wp2_with (at_builtin; refine wpList_append_own _ rfl _ _ 125 rfl w.heap.size 128 i0 (.agg #[.int .i32 0, .int .i64 0, .bool false]) 3 24 Tryz.underlying125 hi hz0 hz1 hz2 rfl (by decide) _ _ _ rfl (hown2.alloc _) ⟨w2.heap.size, 0, none⟩ 1 1 [.int .i32 r, .int .i64 wd, .bool false] rfl rfl (cell_three_new _ _ _ _ _) (three_one _ _ _) (by unfold maxLen; omega) (by omega) (by have := hbl2.size; simp; omega) ?_)
        intro v' w3 hown3 hgrow _
        have hbl3 : Below w.heap.size w w3 := (hbl2.alloc hbl2.size _).grown hgrow (by have := hbl2.size; simp; omega) (fun k hk => (hown2.lt k hk).1)
        have hadd : rs ++ (r, wd) :: runesAt s (pos + wd) = runesAt s 0 := by rw [← HC.out, HN.out]
        have HADD : Hid (rs ++ (r, wd) :: runesAt s (pos + wd) = runesAt s 0) := hadd
        have hown4 : w3.ownsRow w.heap.size 128 3 v' (rs ++ [(r, wd)]).length (runeCells (rs ++ [(r, wd)])) := by
          rw [runeCells_snoc, List.length_append]
          rw [show badB (r, wd) = false by rw [badB, decide_eq_false_iff_not]; exact fun h => hr h.1]
          exact hown3
        clear hown2 hown3 hgrow hbl2 hadd
        go_wp2
        go_roundw
        case rel => exact ⟨pos + wd, rs ++ [(r, wd)], hown4, by go_num, by rw [← HADD.out]; simp, by rw [List.length_append]; simp; omega, by omega, hbl3⟩
        case measure => simp [intOf]; omega
    · go_wp2
      go_ret
      refine ⟨_, rfl, ?_, hbl⟩
      have h1 := HC.out
      rw [runesAt_end s pos hp, List.append_nil, H0.out] at h1
      rw [← h1]
      exact hown
end Go.Proofs.YtceebimgfajbcaaGreatDoor

namespace Go.Proofs.YtceebimgfajbcaaGreatDoor
open Go.RowKit

/-- A slice value that holds these runes. -/
def hasRunes (w : World) (v : Value) (rs : List (Nat × Nat)) : Prop :=
  ∃ oa cap, v = .slice oa rs.length cap ∧ ∀ j x, rs[j]? = some x → ∃ g, oa = some ⟨g, 0, none⟩ ∧ w.cell? ⟨g, j * 3, none⟩ = some (.int .i32 x.1) ∧ w.cell? ⟨g, j * 3 + 1, none⟩ = some (.int .i64 x.2) ∧ w.cell? ⟨g, j * 3 + 2, none⟩ = some (.bool (badB x))

theorem runeCells_get : ∀ (rs : List (Nat × Nat)) (j : Nat) (x : Nat × Nat), rs[j]? = some x → (runeCells rs)[j * 3]? = some (.int .i32 x.1) ∧ (runeCells rs)[j * 3 + 1]? = some (.int .i64 x.2) ∧ (runeCells rs)[j * 3 + 2]? = some (.bool (badB x))
  | y :: rs, 0, x, h => by simp at h; subst h; simp [runeCells]
  | y :: rs, j + 1, x, h => by
    have ih := runeCells_get rs j x (by simpa using h)
    have e : runeCells (y :: rs) = .int .i32 y.1 :: .int .i64 y.2 :: .bool (badB y) :: runeCells rs := by simp [runeCells]
    rw [e, show (j + 1) * 3 = j * 3 + 1 + 1 + 1 by omega, show j * 3 + 1 + 1 + 1 + 1 = (j * 3 + 1) + 1 + 1 + 1 by omega, show j * 3 + 1 + 1 + 1 + 2 = (j * 3 + 2) + 1 + 1 + 1 by omega]
    simp only [List.getElem?_cons_succ]
    exact ih

theorem hasRunes_of_owns {w : World} {base : Nat} {e : TypeId} {v : Value} {rs : List (Nat × Nat)} (h : w.ownsRow base e 3 v rs.length (runeCells rs)) : hasRunes w v rs := by
  rcases h.2 with ⟨h1, h2⟩ | ⟨g, cap, cur, h1, _, _, h2, _⟩
  · have e := List.eq_nil_of_length_eq_zero h2
    subst e
    exact ⟨none, 0, h1, fun j x hj => by simp at hj⟩
  · refine ⟨some ⟨g, 0, none⟩, cap, h1, fun j x hj => ⟨g, rfl, ?_⟩⟩
    have hc := h.cells (g := g) (by rw [h1]; rfl)
    have hw := runeCells_get rs j x hj
    have a1 := hc _ _ hw.1
    have a2 := hc _ _ hw.2.1
    have a3 := hc _ _ hw.2.2
    rw [addr_add] at a1 a2 a3
    exact ⟨a1, a2, a3⟩

theorem hasRunes_below {w w' : World} {v : Value} {rs : List (Nat × Nat)} (h : hasRunes w v rs) (hb : Below w.heap.size w w') : hasRunes w' v rs := by
  obtain ⟨oa, cap, h1, h3⟩ := h
  refine ⟨oa, cap, h1, fun j x hj => ?_⟩
  obtain ⟨g, e, c1, c2, c3⟩ := h3 j x hj
  have hlt := World.block_lt_of_cell? w _ c1
  exact ⟨g, e, (hb.cell (p := ⟨g, j * 3, none⟩) hlt).trans c1, (hb.cell (p := ⟨g, j * 3 + 1, none⟩) hlt).trans c2, (hb.cell (p := ⟨g, j * 3 + 2, none⟩) hlt).trans c3⟩

/-- The reference's way: each rune in its place. -/
def refF : Nat → List (Nat × Nat) → Bool
  | _, [] => true
  | k, x :: rs => if badB x = true ∨ (letterB x.1 = false ∧ (k = 0 ∨ digitB x.1 = false)) then false else refF (k + 1) rs

theorem bad_none (x : Nat × Nat) (h : badB x = true) : letterB x.1 = false ∧ digitB x.1 = false := by
  simp only [badB, decide_eq_true_eq] at h
  rw [h.1]
  exact ⟨by decide +kernel, by decide +kernel⟩

theorem refF_name : ∀ (rs : List (Nat × Nat)) (k : Nat), k + rs.length ≤ 8 → nameF k rs = (refF k rs && decide (1 ≤ k + rs.length))
  | [], k, _ => by simp [nameF, refF]; omega
  | x :: rs, k, h => by
    rw [List.length_cons] at h
    have ih := refF_name rs (k + 1) (by omega)
    rw [nameF, refF]
    have hst : standB x.1 k = (letterB x.1 || (decide (0 < k) && digitB x.1)) := by simp [standB]
    by_cases hb : badB x = true
    · obtain ⟨h1, h2⟩ := bad_none x hb
      rw [if_pos (.inr (by rw [hst, h1, h2]; simp)), if_pos (.inl hb)]
      rfl
    · by_cases hc : letterB x.1 = false ∧ (k = 0 ∨ digitB x.1 = false)
      · rw [if_pos (.inr (by rw [hst, hc.1]; rcases hc.2 with h0 | h0 <;> simp [h0])), if_pos (.inr hc)]
        rfl
      · rw [if_neg, if_neg (fun h => h.elim hb hc), ih, List.length_cons, show k + 1 + rs.length = k + (rs.length + 1) by omega]
        rw [hst]
        intro hh
        rcases hh with hh | hh
        · omega
        · apply hc
          revert hh
          cases letterB x.1 <;> cases digitB x.1 <;> simp
theorem nameF_long : ∀ (rs : List (Nat × Nat)) (k : Nat), k ≤ 8 → 8 < k + rs.length → nameF k rs = false
  | [], k, h1, h2 => by simp at h2; omega
  | x :: rs, k, h1, h2 => by
    rw [nameF]
    by_cases h : k = 8 ∨ standB x.1 k = false
    · rw [if_pos h]
    · rw [if_neg h]
      exact nameF_long rs (k + 1) (by omega) (by rw [List.length_cons] at h2; omega)
theorem ref_name (rs : List (Nat × Nat)) : (refF 0 rs && (decide (1 ≤ rs.length) && decide (rs.length ≤ 8))) = nameF 0 rs := by
  by_cases h : rs.length ≤ 8
  · rw [refF_name rs 0 (by omega), Nat.zero_add]
    simp [h]
  · rw [nameF_long rs 0 (by omega) (by omega)]
    simp [h]

set_option maxRecDepth 1000000 in
set_option maxHeartbeats 4000000 in
theorem refName_any (s : ByteArray) (w : World) (hs : s.size ≤ 4294967296) (hT : Lib.Utf8Tabs 0 1 w) :
    Calls Tryz.prog 71 #[.string s] w fun e w' => e = .returned (.bool (nameB s.data.toList)) ∧ Below w.heap.size w w' := by
  have HF : Hid ((refF 0 (runes s.data.toList) && (decide (1 ≤ (runes s.data.toList).length) && decide ((runes s.data.toList).length ≤ 8))) = nameB s.data.toList) := ref_name _
  have hlen : (runes s.data.toList).length ≤ 4294967296 := by have := runes_length_le s.data.toList; rw [← Lib.size_eq] at this; omega
  generalize nameB s.data.toList = ans at *
  go_enter Tryz.func71, Tryz.ntmps71
  go_wp2_with fail
  refine (refRunes_any s _ hs hT).mono ?_
  rintro e w1 ⟨v, rfl, hown, hb1⟩
  obtain ⟨oa, cap, rfl, hcl⟩ := hasRunes_of_owns hown
  clear hown hT
  generalize hrs : runes s.data.toList = rs at *
  have HL : Hid (rs.length = rs.length) := rfl
  generalize hnx : rs.length = nx at *
  have HN : Hid (rs.length = nx) := hnx
  have HCL : Hid (∀ j x, rs[j]? = some x → ∃ g, oa = some ⟨g, 0, none⟩ ∧ w1.cell? ⟨g, j * 3, none⟩ = some (.int .i32 x.1) ∧ w1.cell? ⟨g, j * 3 + 1, none⟩ = some (.int .i64 x.2) ∧ w1.cell? ⟨g, j * 3 + 2, none⟩ = some (.bool (badB x))) := hcl
  clear hcl hnx hrs HL
  go_wp2
  go_loop [4] (fun i => ∃ k : Nat, i = .int .i64 k ∧ k ≤ nx ∧ refF k (rs.drop k) = refF 0 rs) (fun i => nx - (intOf i).toNat)
  case atStart => exact ⟨0, rfl, by omega, by simp⟩
  case round =>
    obtain ⟨k, rfl, hk, hc⟩ := hrel
    have HC : Hid (refF k (rs.drop k) = refF 0 rs) := hc
    clear hc
    by_cases hlt : k < nx
    · obtain ⟨x, hxk⟩ : ∃ x, rs[k]? = some x := ⟨rs[k]'(by rw [HN.out]; exact hlt), List.getElem?_eq_getElem _⟩
      obtain ⟨g, rfl, c1, c2, c3⟩ := HCL.out k x hxk
      have hdr : rs.drop k = x :: rs.drop (k + 1) := by
        obtain ⟨hl, he⟩ := List.getElem?_eq_some_iff.1 hxk
        rw [List.drop_eq_getElem_cons hl, he]
      rw [hdr, refF] at HC
      clear hdr hxk c2
      obtain ⟨r, wd⟩ := x
      simp only at c1 c3 HC
      cases hbad : badB (r, wd)
      · rw [hbad] at c3 HC
        simp only [Bool.false_eq_true, false_or] at HC
        have hL := fun W => refLetter_any (r : Int) W
        cases hle : letterB (r : Int)
        · rw [hle] at hL HC
          simp only [true_and] at HC
          by_cases hk0 : k = 0
          · subst hk0
            simp only [true_or, if_true] at HC
            go_wp2_with (go_at_call 90; refine (hL _).mono ?_; rintro e w' ⟨rfl, rfl⟩)
            go_ret
            refine ⟨ret_bool ?_, hb1⟩
            rw [← HF.out, ← HC.out]
            rfl
          · have hk' : ((k : Int) == 0) = false := by simp; omega
            simp only [hk0, false_or] at HC
            by_cases hd : 48 ≤ (r : Int) ∧ (r : Int) ≤ 57
            · rw [if_neg (by simp [digitB, hd])] at HC
              obtain ⟨hd1, hd2⟩ := hd
              go_wp2_with (go_at_call 90; refine (hL _).mono ?_; rintro e w' ⟨rfl, rfl⟩)
              go_round
              case rel => exact ⟨k + 1, by go_num, by omega, HC.out⟩
              case measure => simp [intOf]; omega
            · rw [if_pos (by simp only [digitB, decide_eq_false_iff_not]; exact hd)] at HC
              rcases (show (r : Int) < 48 ∨ 57 < (r : Int) by omega) with hd | hd
              all_goals
                go_wp2_with (go_at_call 90; refine (hL _).mono ?_; rintro e w' ⟨rfl, rfl⟩)
                go_ret
                refine ⟨ret_bool ?_, hb1⟩
                rw [← HF.out, ← HC.out]
                rfl
        · rw [hle] at hL HC
          simp only [Bool.true_eq_false, false_and, if_false] at HC
          go_wp2_with (go_at_call 90; refine (hL _).mono ?_; rintro e w' ⟨rfl, rfl⟩)
          go_round
          case rel => exact ⟨k + 1, by go_num, by omega, HC.out⟩
          case measure => simp [intOf]; omega
      · rw [hbad] at c3 HC
        go_wp2
        go_ret
        refine ⟨ret_bool ?_, hb1⟩
        rw [← HF.out, ← HC.out]
        simp
    · have h1 := HC.out
      rw [List.drop_of_length_le (by rw [HN.out]; omega), refF] at h1
      rw [← h1, Bool.true_and] at HF
      clear h1
      by_cases hn1 : 1 ≤ nx
      · go_wp2
        go_ret
        refine ⟨ret_bool ?_, hb1⟩
        rw [← HF.out, Bool.eq_iff_iff]
        simp
        omega
      · go_wp2
        go_ret
        refine ⟨ret_bool ?_, hb1⟩
        rw [← HF.out]
        simp [hn1]
end Go.Proofs.YtceebimgfajbcaaGreatDoor

namespace Go.Proofs.YtceebimgfajbcaaGreatDoor
open Go.RowKit

set_option maxRecDepth 1000000 in
set_option maxHeartbeats 4000000 in
theorem refCap_any (s : ByteArray) (w : World) (hs : s.size ≤ 4294967296) (hT : Lib.Utf8Tabs 0 1 w) :
    Calls Tryz.prog 48 #[.string s] w fun e w' => e = .returned (.bool (capB s)) ∧ Below w.heap.size w w' := by
  have N := refName_any s w hs hT
  clear hT
  cases hn : nameB s.data.toList
  · have HC : Hid (capB s = false) := by simp [Hid, capB, hn]
    rw [hn] at N
    rw [HC.out]
    go_enter Tryz.func48, Tryz.ntmps48
    go_wp2_with fail
    refine N.mono ?_
    rintro e w1 ⟨rfl, hb1⟩
    go_wp2
    go_ret
    exact ⟨rfl, hb1⟩
  · rw [hn] at N
    by_cases h1 : s = kSet
    · subst h1
      rw [show capB kSet = false by decide +kernel]
      rw [kSet] at N ⊢
      go_enter Tryz.func48, Tryz.ntmps48
      go_wp2_with fail
      refine N.mono ?_
      rintro e w1 ⟨rfl, hb1⟩
      go_wp2
      go_ret
      exact ⟨rfl, hb1⟩
    · by_cases h2 : s = kFlank
      · subst h2
        rw [show capB kFlank = false by decide +kernel]
        rw [kFlank] at N ⊢
        go_enter Tryz.func48, Tryz.ntmps48
        go_wp2_with fail
        refine N.mono ?_
        rintro e w1 ⟨rfl, hb1⟩
        go_wp2
        go_ret
        exact ⟨rfl, hb1⟩
      · have HC : Hid (capB s = true) := by simp [Hid, capB, hn, endsB, h1, h2]
        rw [HC.out]
        have d1 : ¬ s.toList = [115, 101, 116] := fun h => h1 (bytes_ext (by rw [← Lib.toList_data, h]))
        have d2 : ¬ s.toList = [102, 108, 97, 110, 107] := fun h => h2 (bytes_ext (by rw [← Lib.toList_data, h]))
        go_enter Tryz.func48, Tryz.ntmps48
        go_wp2_with fail
        refine N.mono ?_
        rintro e w1 ⟨rfl, hb1⟩
        go_wp2
        go_ret
        exact ⟨ret_bool (by simp [d1, d2]), hb1⟩
end Go.Proofs.YtceebimgfajbcaaGreatDoor

namespace Go.Proofs.YtceebimgfajbcaaGreatDoor
open Go.RowKit

def namesB (l : List ByteArray) : Bool := decide (l.Nodup ∧ ∀ x ∈ l, capB x = true)
theorem take_snoc {α : Type} {l : List α} {k : Nat} {x : α} (h : l[k]? = some x) : l.take (k + 1) = l.take k ++ [x] := by
  rw [List.take_add_one, h]
  rfl
theorem names_more {l : List ByteArray} {k : Nat} {x : ByteArray} (h : l[k]? = some x) (h1 : (l.take k).Nodup ∧ ∀ y ∈ l.take k, capB y = true) (h2 : capB x = true) (h3 : x ∉ l.take k) : (l.take (k + 1)).Nodup ∧ ∀ y ∈ l.take (k + 1), capB y = true := by
  rw [take_snoc h]
  refine ⟨List.nodup_append.2 ⟨h1.1, by simp, fun a ha b hb => ?_⟩, fun y hy => ?_⟩
  · simp at hb
    subst hb
    intro e
    subst e
    exact h3 ha
  · rcases List.mem_append.1 hy with hy | hy
    · exact h1.2 y hy
    · simp at hy
      rw [hy]
      exact h2
theorem not_nodup {l : List ByteArray} {j k : Nat} {x : ByteArray} (hj : l[j]? = some x) (hk : l[k]? = some x) (h : j < k) : ¬ l.Nodup := by
  intro hn
  obtain ⟨h1, e1⟩ := List.getElem?_eq_some_iff.1 hj
  obtain ⟨h2, e2⟩ := List.getElem?_eq_some_iff.1 hk
  have := (List.getElem_inj (h₀ := h1) (h₁ := h2) hn).1 (e1.trans e2.symm)
  omega

set_option maxRecDepth 1000000 in
set_option maxHeartbeats 4000000 in
theorem names_any (v : Value) (l : List ByteArray) (w : World) (h : rowAt w v 1 sC l) (hl : l.length ≤ 4294967296) (hs : ∀ x ∈ l, x.size ≤ 4294967296) (hT : Lib.Utf8Tabs 0 1 w) :
    Calls Tryz.prog 23 #[v] w fun e w' => e = .returned (.bool (namesB l)) ∧ Below w.heap.size w w' := by
  have o0 := Ok.start hT
  clear hT
  obtain ⟨oa, cap, rfl, h2⟩ := h
  have H2 : Hid (∀ j y, l[j]? = some y → ∃ g off, oa = some ⟨g, off, none⟩ ∧ ∀ i u, (sC y)[i]? = some u → w.cell? ⟨g, off + j * 1 + i, none⟩ = some u) := h2
  have HS : Hid (∀ x ∈ l, x.size ≤ 4294967296) := hs
  clear h2 hs
  generalize hn : l.length = n at *
  have HN : Hid (l.length = n) := hn
  clear hn
  go_enter Tryz.func23, Tryz.ntmps23
  go_wp2
  go_loopg [3] n (fun gk i wr => ∃ k : Nat, gk = n - k ∧ k ≤ n ∧ i = .int .i64 k ∧ ((l.take k).Nodup ∧ ∀ y ∈ l.take k, capB y = true) ∧ Ok w wr)
  case atStart => exact ⟨0, rfl, by omega, rfl, by simp, o0⟩
  case round =>
    clear o0
    obtain ⟨k, rfl, hk, rfl, hc, o1⟩ := hrel
    have HC : Hid ((l.take k).Nodup ∧ ∀ y ∈ l.take k, capB y = true) := hc
    clear hc
    by_cases hlt : k < n
    · obtain ⟨y, hy⟩ : ∃ y, l[k]? = some y := ⟨l[k]'(by rw [HN.out]; exact hlt), List.getElem?_eq_getElem _⟩
      obtain ⟨g, off, rfl, hcell⟩ := H2.out k y hy
      have c0 := hcell 0 _ rfl
      simp only [Nat.mul_one, Nat.add_zero] at c0
      have c1 := (o1.1.cell (World.block_lt_of_cell? _ _ c0)).trans c0
      have hki : (k : Int) < (n : Int) := by omega
      have N := refCap_any y wr (HS.out y (List.mem_of_getElem? hy)) o1.2
      have HY : Hid (l[k]? = some y) := hy
      clear hcell c0 hy
      cases hcap : capB y
      · rw [hcap] at N
        have HF : Hid (namesB l = false) := by
          refine decide_eq_false fun hh => ?_
          have := hh.2 y (List.mem_of_getElem? HY.out)
          rw [hcap] at this
          exact absurd this (by simp)
        go_wp2_with (go_at_call 48; refine N.mono ?_; rintro e w1 ⟨rfl, hb1⟩)
        go_ret
        exact ⟨ret_bool HF.out.symm, (o1.step hb1).1⟩
      · rw [hcap] at N
        go_wp2_with (go_at_call 48; refine N.mono ?_; rintro e w1 ⟨rfl, hb1⟩)
        have o2 := o1.step hb1
        have c2 := (hb1.cell (World.block_lt_of_cell? _ _ c1)).trans c1
        clear N
        go_loopg [4] k (fun gk i wr' => ∃ j m : Nat, gk = k - j ∧ j ≤ k ∧ i = .int .i64 j ∧ y ∉ l.take j ∧ wr' = w1.drewN m)
        case atStart => exact ⟨0, 0, rfl, by omega, rfl, by simp, rfl⟩
        case round =>
          obtain ⟨j, m, rfl, hj, rfl, hd, rfl⟩ := hrel
          have HD : Hid (y ∉ l.take j) := hd
          clear hd
          by_cases hlj : j < k
          · obtain ⟨x, hx⟩ : ∃ x, l[j]? = some x := ⟨l[j]'(by rw [HN.out]; omega), List.getElem?_eq_getElem _⟩
            obtain ⟨g', off', hg, hcell⟩ := H2.out j x hx
            injection hg with hg
            injection hg with hg ho _
            subst hg ho
            have d0 := hcell 0 _ rfl
            simp only [Nat.mul_one, Nat.add_zero] at d0
            have d2 := ((o2.1).cell (World.block_lt_of_cell? _ _ d0)).trans d0
            have hji : (j : Int) < (k : Int) := by omega
            have hjn : j < n := by omega
            have HX : Hid (l[j]? = some x) := hx
            clear hcell d0 hx
            by_cases hxy : x = y
            · have HF : Hid (namesB l = false) := decide_eq_false fun hh => not_nodup HX.out (by rw [HY.out, hxy]) hlj hh.1
              have hb : (x.toList == y.toList) = true := by rw [toList_eq, decide_eq_true hxy]
              clear hxy
              go_wp2_with fail
              go_quiet (fail)
              go_wp2
              go_ret
              exact ⟨ret_bool HF.out.symm, _root_.Go.below_drewN (_root_.Go.below_drewN o2.1 _) _⟩
            · have hb : (x.toList == y.toList) = false := by rw [toList_eq, decide_eq_false hxy]
              have HXY : Hid (¬ x = y) := hxy
              clear hxy
              go_wp2_with fail
              go_quiet (fail)
              go_wp2
              go_roundg (k - (j + 1))
              case rel => exact ⟨j + 1, _, rfl, by omega, by go_num, by rw [take_snoc HX.out]; intro hm; rcases List.mem_append.1 hm with hm | hm; exact HD.out hm; simp at hm; exact HXY.out hm.symm, rfl⟩
              case measure => omega
          · have hjk : j = k := by omega
            subst hjk
            have o3 := o2.drewN m
            clear o1 o2 hb1 c1 c2 hlj
            go_wp2
            go_roundg (n - (j + 1))
            case rel => exact ⟨j + 1, rfl, by omega, by go_num, names_more HY.out HC.out hcap HD.out, o3⟩
            case measure => omega
    · have HF : Hid (namesB l = true) := by
        have := HC.out
        rw [List.take_of_length_le (by rw [HN.out]; omega)] at this
        exact decide_eq_true this
      go_wp2
      go_ret
      exact ⟨ret_bool HF.out.symm, o1.1⟩
end Go.Proofs.YtceebimgfajbcaaGreatDoor

namespace Go.Proofs.YtceebimgfajbcaaGreatDoor
open Go.RowKit

def boundsB (l : Lay) : Bool := decide (1 ≤ l.sections.length ∧ l.sections.length ≤ 10 ∧ 1 ≤ l.signals.length ∧ l.signals.length ≤ 6 ∧ l.points.length ≤ 5 ∧ l.routes.length ≤ 6)
def secsB (l : Lay) : Bool := decide (∀ x ∈ l.points, 0 ≤ x.2 ∧ x.2 < l.sections.length)
def namesAll (l : Lay) : Bool := namesB l.sections && (namesB l.signals && (namesB (l.points.map (·.1)) && namesB (l.routes.map (·.name))))
/-- May a layout be? -/
def isB (l : Lay) : Bool := boundsB l && (secsB l && (namesAll l && l.routes.all (routeB l)))

/-- How great a layout that is asked about may be. -/
structure LayMid (l : Lay) : Prop where
  s : l.sections.length ≤ 4294967296 ∧ ∀ x ∈ l.sections, x.size ≤ 4294967296
  p : l.points.length ≤ 4294967296 ∧ ∀ x ∈ l.points, x.1.size ≤ 4294967296 ∧ okI x.2
  g : l.signals.length ≤ 4294967296 ∧ ∀ x ∈ l.signals, x.size ≤ 4294967296
  r : l.routes.length ≤ 4294967296 ∧ ∀ x ∈ l.routes, x.name.size ≤ 4294967296 ∧ okI x.frm ∧ okI x.to ∧ (x.path.length ≤ 4294967296 ∧ ∀ i ∈ x.path, okI i) ∧ (x.points.length ≤ 4294967296 ∧ ∀ n ∈ x.points, okI n.1) ∧ (x.flank.length ≤ 4294967296 ∧ ∀ n ∈ x.flank, okI n.1)
theorem LayMid.of {l : Lay} (a : LaySmall l) (b : LayBig l) : LayMid l := by
  refine ⟨⟨by have := a.s.1; omega, fun x hx => by have := a.s.2 x hx; omega⟩, ⟨by have := a.p.1; omega, fun x hx => ⟨by have := a.p.2 x hx; omega, (b.p.2 x hx).2⟩⟩, ⟨by have := a.g.1; omega, fun x hx => by have := a.g.2 x hx; omega⟩, ⟨by have := a.r.1; omega, fun x hx => ?_⟩⟩
  obtain ⟨h1, h2, h3, h4⟩ := a.r.2 x hx
  have hb := b.r.2 x hx
  exact ⟨by omega, hb.frm, hb.to, ⟨by omega, hb.path.2⟩, ⟨by omega, hb.points.2⟩, ⟨by omega, hb.flank.2⟩⟩
theorem LayMid.rt {l : Lay} (h : LayMid l) {r : Rt} (hr : r ∈ l.routes) : RtMid l r := by
  obtain ⟨_, h1, h2, h3, h4, h5⟩ := h.r.2 r hr
  exact ⟨h.s.1, ⟨h.p.1, fun x hx => (h.p.2 x hx).2⟩, h.g.1, h1, h2, h3, h4, h5⟩

theorem BoxAt.append {w0 : World} {v : Nat → Value} {wr w3 : World} {o : Obj} {u : Value} {e : TypeId} {size n : Nat} {xs : List Value} (h : BoxAt w0 v wr) (hown : wr.ownsRow (w0.heap.size + 1) e size u n xs) (hg : (wr.alloc o).grownBy w3 u.ownBlock) : BoxAt w0 v w3 := by
  refine ⟨(h.1.alloc h.1.size o).grown hg (by have := h.1.size; simp; omega) (fun k hk => by have := (hown.lt k hk).1; omega), ?_⟩
  rw [hg.block _ (by have := h.lt; simp; omega) (fun e => by have := (hown.lt _ e.symm).1; omega), Below.heap_alloc _ _ _ h.lt]
  exact h.2
theorem isB_bounds {l : Lay} (h : ¬ (1 ≤ l.sections.length ∧ l.sections.length ≤ 10 ∧ 1 ≤ l.signals.length ∧ l.signals.length ≤ 6 ∧ l.points.length ≤ 5 ∧ l.routes.length ≤ 6)) : isB l = false := by
  rw [isB, boundsB, decide_eq_false h, Bool.false_and]
theorem isB_secs {l : Lay} {k : Nat} {x : ByteArray × Int} (hx : l.points[k]? = some x) (h : ¬ (0 ≤ x.2 ∧ x.2 < l.sections.length)) : isB l = false := by
  rw [isB, show secsB l = false from decide_eq_false fun hh => h (hh x (List.mem_of_getElem? hx)), Bool.false_and, Bool.and_false]
theorem take_all {α : Type} {l : List α} {n : Nat} (h : l.length = n) {k : Nat} (hk : n ≤ k) : l.take k = l := List.take_of_length_le (by omega)

set_option maxRecDepth 1000000 in
set_option maxHeartbeats 16000000 in
theorem is_any (v : Nat → Value) (l : Lay) (rs : List RtV) (w : World) (h : LayRd w v l rs) (hcap : ∀ x ∈ rs, capOk x.2.1) (hm : LayMid l) (hT : Lib.Utf8Tabs 0 1 w) :
    Calls Tryz.prog 7 #[.agg #[v 0, v 1, v 2, v 3]] w fun e w' => e = .returned (.bool (isB l)) ∧ Below w.heap.size w w' := by
  obtain ⟨i0, hii, hz0, hz1, hz2⟩ := info_parts infoS
  have HLR : Hid (LayRd w v l rs) := h
  have HCAP : Hid (∀ x ∈ rs, capOk x.2.1) := hcap
  have HT : Hid (Lib.Utf8Tabs 0 1 w) := hT
  have HMI : Hid (LayMid l) := hm
  have HM : Hid (rs.map (·.1) = l.routes) := h.m
  have hlr : l.routes.length = rs.length := by rw [← h.m, List.length_map]
  obtain ⟨o0, c0, e0, _⟩ := h.s
  obtain ⟨o1, c1, e1, r1⟩ := h.p
  obtain ⟨o2, c2, e2, _⟩ := h.g
  obtain ⟨o3, c3, e3, r3⟩ := h.r
  have R1 : Hid (∀ j x, l.points[j]? = some x → ∃ g off, o1 = some ⟨g, off, none⟩ ∧ ∀ i u, (pC x)[i]? = some u → w.cell? ⟨g, off + j * 2 + i, none⟩ = some u) := r1
  have R3 : Hid (∀ j x, rs[j]? = some x → ∃ g off, o3 = some ⟨g, off, none⟩ ∧ ∀ i u, (rC x)[i]? = some u → w.cell? ⟨g, off + j * 6 + i, none⟩ = some u) := r3
  have b0 := hm.s.1
  have b1 := hm.p.1
  have b2 := hm.g.1
  have b3 := hm.r.1
  rw [hlr] at b3
  have HLEN : Hid (l.routes.length = rs.length) := hlr
  have S := BoxAt.start w v
  have HV : Hid (v 0 = .slice o0 l.sections.length c0 ∧ v 1 = .slice o1 l.points.length c1 ∧ v 2 = .slice o2 l.signals.length c2 ∧ v 3 = .slice o3 rs.length c3) := ⟨e0, e1, e2, e3⟩
  rw [e0, e1, e2, e3] at S ⊢
  clear h r1 r3 e0 e1 e2 e3 hm hT hcap hlr
  generalize hs0 : l.sections.length = n0 at *
  generalize hs1 : l.points.length = n1 at *
  generalize hs2 : l.signals.length = n2 at *
  generalize hs3 : rs.length = n3 at *
  have HS0 : Hid (l.sections.length = n0) := hs0
  have HS1 : Hid (l.points.length = n1) := hs1
  have HS2 : Hid (l.signals.length = n2) := hs2
  have HS3 : Hid (rs.length = n3) := hs3
  clear hs0 hs1 hs2 hs3
  have no : ¬ (1 ≤ n0 ∧ n0 ≤ 10 ∧ 1 ≤ n2 ∧ n2 ≤ 6 ∧ n1 ≤ 5 ∧ n3 ≤ 6) → isB l = false := fun hh => isB_bounds (by rw [HLEN.out, HS0.out, HS1.out, HS2.out]; exact hh)
  have NO : Hid (¬ (1 ≤ n0 ∧ n0 ≤ 10 ∧ 1 ≤ n2 ∧ n2 ≤ 6 ∧ n1 ≤ 5 ∧ n3 ≤ 6) → isB l = false) := no
  have SB : Hid (BoxAt w v (w.alloc (.cells #[.slice o0 n0 c0, .slice o1 n1 c1, .slice o2 n2 c2, .slice o3 n3 c3] 26))) := S
  clear no S
  by_cases a0 : (n0 : Int) < 1
  · have HF : Hid (isB l = false) := NO.out (by omega)
    go_enter Tryz.func7, Tryz.ntmps7
    go_wp2
    go_ret
    exact ⟨ret_bool HF.out.symm, SB.out.1⟩
  by_cases a1 : (10 : Int) < (n0 : Int)
  · have HF : Hid (isB l = false) := NO.out (by omega)
    go_enter Tryz.func7, Tryz.ntmps7
    go_wp2
    go_ret
    exact ⟨ret_bool HF.out.symm, SB.out.1⟩
  by_cases a2 : (n2 : Int) < 1
  · have HF : Hid (isB l = false) := NO.out (by omega)
    go_enter Tryz.func7, Tryz.ntmps7
    go_wp2
    go_ret
    exact ⟨ret_bool HF.out.symm, SB.out.1⟩
  by_cases a3 : (6 : Int) < (n2 : Int)
  · have HF : Hid (isB l = false) := NO.out (by omega)
    go_enter Tryz.func7, Tryz.ntmps7
    go_wp2
    go_ret
    exact ⟨ret_bool HF.out.symm, SB.out.1⟩
  by_cases a4 : (5 : Int) < (n1 : Int)
  · have HF : Hid (isB l = false) := NO.out (by omega)
    go_enter Tryz.func7, Tryz.ntmps7
    go_wp2
    go_ret
    exact ⟨ret_bool HF.out.symm, SB.out.1⟩
  by_cases a5 : (6 : Int) < (n3 : Int)
  · have HF : Hid (isB l = false) := NO.out (by omega)
    go_enter Tryz.func7, Tryz.ntmps7
    go_wp2
    go_ret
    exact ⟨ret_bool HF.out.symm, SB.out.1⟩
  have HH : Hid (isB l = (secsB l && (namesAll l && l.routes.all (routeB l)))) := by
    rw [isB, show boundsB l = true from decide_eq_true (by rw [HLEN.out, HS0.out, HS1.out, HS2.out]; omega), Bool.true_and]
    rfl
  clear NO
  go_enter Tryz.func7, Tryz.ntmps7
  go_wp2
  go_loopg [3, 5] n1 (fun gk vp i wr => ∃ k : Nat, gk = n1 - k ∧ k ≤ n1 ∧ i = .int .i64 k ∧ wr.ownsRow (w.heap.size + 1) 9 1 vp k (((l.points.take k).map (·.1)).flatMap sC) ∧ (∀ x ∈ l.points.take k, 0 ≤ x.2 ∧ x.2 < l.sections.length) ∧ BoxAt w v wr)
  case atStart => exact ⟨0, rfl, by omega, rfl, World.ownsRow_nil _ _ _ _, by simp, SB.out⟩
  case round =>
    clear SB
    obtain ⟨k, rfl, hk, rfl, hown, hc, hbx⟩ := hrel
    have HC : Hid (∀ x ∈ l.points.take k, 0 ≤ x.2 ∧ x.2 < l.sections.length) := hc
    have HBX : Hid (BoxAt w v wr) := hbx
    have hcc := hbx.cells
    have hbl := hbx.1
    rw [HV.out.1, HV.out.2.1, HV.out.2.2.1, HV.out.2.2.2] at hcc
    obtain ⟨q0, q1, q2, q3⟩ := hcc
    have hblt := hbx.lt
    clear hc hbx
    by_cases hlt : k < n1
    · have hki : (k : Int) < (n1 : Int) := by omega
      obtain ⟨⟨pn, ps⟩, hx⟩ : ∃ x, l.points[k]? = some x := ⟨l.points[k]'(by rw [HS1.out]; exact hlt), List.getElem?_eq_getElem _⟩
      have hxi := (HMI.out.p.2 _ (List.mem_of_getElem? hx)).2
      simp only [okI] at hxi
      obtain ⟨g, off, rfl, hcell⟩ := R1.out k _ hx
      have e0 := hcell 0 _ rfl
      have e1 := hcell 1 _ rfl
      rw [Nat.add_zero] at e0
      have d0 := (hbl.cell (World.block_lt_of_cell? _ _ e0)).trans e0
      have HX : Hid (l.points[k]? = some (pn, ps)) := hx
      have E1 : Hid (w.cell? ⟨g, off + k * 2 + 1, none⟩ = some (.int .i64 ps)) := e1
      clear hcell e0 e1 hx
      have HTK : Hid (((l.points.take (k + 1)).map (·.1)).flatMap sC = ((l.points.take k).map (·.1)).flatMap sC ++ [.string pn]) := by
        show _ = _
        rw [take_snocI HX.out]
        simp [sC]
      generalize hcs : ((l.points.take k).map (·.1)).flatMap sC = cells at *
      clear hcs
      go_wp2_with (at_builtin; refine wpList_append_own _ rfl _ _ 22 rfl (w.heap.size + 1) 9 i0 (.string ⟨#[]⟩) 1 16 Tryz.underlying22 hii hz0 hz1 hz2 rfl (by decide) _ _ _ rfl (hown.alloc _) ⟨wr.heap.size, 0, none⟩ 1 1 [.string pn] rfl rfl (cell_one_new _ _ _) (one_str _) (by unfold maxLen; omega) (by omega) (by simp; omega) ?_)
      intro v' w3 hown3 hgrow _
      have HB3 : Hid (BoxAt w v w3) := HBX.out.append hown hgrow
      have HO3 : Hid (w3.ownsRow (w.heap.size + 1) 9 1 v' (k + 1) (cells ++ [.string pn])) := hown3
      have hcc := HB3.out.cells
      rw [HV.out.1, HV.out.2.1, HV.out.2.2.1, HV.out.2.2.2] at hcc
      obtain ⟨q0', q1', q2', q3'⟩ := hcc
      have hbl3 := HB3.out.1
      have d1 := (hbl3.cell (World.block_lt_of_cell? _ _ E1.out)).trans E1.out
      clear hgrow hown3 hown q0 q1 q2 q3 d0 hbl hblt HBX
      by_cases h0 : ps < 0
      · have HF : Hid (isB l = false) := isB_secs HX.out (by simp only; omega)
        go_wp2_with fail
        go_quiet (fail)
        go_wp2
        go_ret
        exact ⟨ret_bool HF.out.symm, _root_.Go.below_drewN hbl3 _⟩
      · have hd0 : decide (ps < 0) = false := decide_eq_false h0
        by_cases h1 : (n0 : Int) ≤ ps
        · have HF : Hid (isB l = false) := isB_secs HX.out (by simp only; rw [HS0.out]; omega)
          go_wp2_with fail
          go_quiet (fail)
          go_wp2
          go_ret
          exact ⟨ret_bool HF.out.symm, _root_.Go.below_drewN hbl3 _⟩
        · have hd1 : decide ((n0 : Int) ≤ ps) = false := decide_eq_false h1
          go_wp2_with fail
          go_quiet (fail)
          go_wp2
          go_roundg (n1 - (k + 1))
          case rel => exact ⟨k + 1, rfl, by omega, by go_num, by rw [HTK.out]; exact owns_below HO3.out (_root_.Go.below_drewN (Below.refl _ _) _), take_more (P := fun x : ByteArray × Int => 0 ≤ x.2 ∧ x.2 < l.sections.length) HX.out HC.out (by simp only; rw [HS0.out]; omega), HB3.out.step (_root_.Go.below_drewN (Below.refl _ _) _)⟩
          case measure => omega
    · have hki : ¬ (k : Int) < (n1 : Int) := by omega
      have HSE : Hid (isB l = (namesAll l && l.routes.all (routeB l))) := by
        have := HC.out
        rw [take_all HS1.out (by omega)] at this
        rw [HH.out, show secsB l = true from decide_eq_true this, Bool.true_and]
        rfl
      have HOP : Hid (wr.ownsRow (w.heap.size + 1) 9 1 u3 (l.points.map (·.1)).length ((l.points.map (·.1)).flatMap sC)) := by
        have := hown
        rw [take_all HS1.out (by omega), show k = (l.points.map (·.1)).length by rw [List.length_map, HS1.out]; omega] at this
        exact this
      clear HC HH hown R1
      obtain ⟨w1, hw1⟩ : ∃ w1, w1 = wr := ⟨wr, rfl⟩
      subst hw1
      go_wp2_with fail
      clear q0 q1 q2 q3 hblt hki hlt hk
      go_loopg [4, 6] n3 (fun gk vr i wq => ∃ j : Nat, gk = n3 - j ∧ j ≤ n3 ∧ i = .int .i64 j ∧ wq.ownsRow w1.heap.size 9 1 vr j (((rs.take j).map (·.1.name)).flatMap sC) ∧ Below w1.heap.size w1 wq)
      case atStart => exact ⟨0, rfl, by omega, rfl, World.ownsRow_nil _ _ _ _, Below.refl _ _⟩
      case round =>
        obtain ⟨j, rfl, hj, rfl, hown, hb1⟩ := hrel
        have hbx := HBX.out.step hb1
        have hcc := hbx.cells
        have hbl2 := hbx.1
        rw [HV.out.1, HV.out.2.1, HV.out.2.2.1, HV.out.2.2.2] at hcc
        obtain ⟨q0, q1, q2, q3⟩ := hcc
        have HBX2 : Hid (BoxAt w v wr) := hbx
        clear hbx
        by_cases hlt : j < n3
        · have hji : (j : Int) < (n3 : Int) := by omega
          obtain ⟨x, hx⟩ : ∃ x, rs[j]? = some x := ⟨rs[j]'(by rw [HS3.out]; exact hlt), List.getElem?_eq_getElem _⟩
          obtain ⟨g, off, rfl, hcell⟩ := R3.out j _ hx
          have e0 := hcell 0 _ rfl
          rw [Nat.add_zero] at e0
          have d0 := (hbl2.cell (World.block_lt_of_cell? _ _ e0)).trans e0
          have HX : Hid (rs[j]? = some x) := hx
          have HTK : Hid (((rs.take (j + 1)).map (·.1.name)).flatMap sC = ((rs.take j).map (·.1.name)).flatMap sC ++ [.string x.1.name]) := by
            show _ = _
            rw [take_snocI HX.out]
            simp [sC]
          clear hcell e0 hx
          generalize hcs : ((rs.take j).map (·.1.name)).flatMap sC = cells at *
          generalize x.1.name = xn at *
          clear hcs
          have hsz1 := hb1.size
          go_wp2_with (at_builtin; refine wpList_append_own _ rfl _ _ 22 rfl w1.heap.size 9 i0 (.string ⟨#[]⟩) 1 16 Tryz.underlying22 hii hz0 hz1 hz2 rfl (by decide) _ _ _ rfl (hown.alloc _) ⟨wr.heap.size, 0, none⟩ 1 1 [.string xn] rfl rfl (cell_one_new _ _ _) (one_str _) (by unfold maxLen; omega) (by omega) (by simp; omega) ?_)
          intro v' w3 hown3 hgrow _
          have hb3 : Below w1.heap.size w1 w3 := (hb1.alloc hb1.size _).grown hgrow (by simp; omega) (fun k hk => (hown.lt k hk).1)
          clear hown hgrow q0 q1 q2 q3 hbl2 HBX2 d0
          go_wp2
          go_roundg (n3 - (j + 1))
          case rel => exact ⟨j + 1, rfl, by omega, by go_num, by rw [HTK.out]; exact hown3, hb3⟩
          case measure => omega
        · have hji : ¬ (j : Int) < (n3 : Int) := by omega
          have HOR : Hid (wr.ownsRow w1.heap.size 9 1 u4 (l.routes.map (·.name)).length ((l.routes.map (·.name)).flatMap sC)) := by
            have := hown
            rw [take_all HS3.out (by omega), show rs.map (·.1.name) = l.routes.map (·.name) by rw [← HM.out, List.map_map]; rfl, show j = (l.routes.map (·.name)).length by rw [List.length_map, HLEN.out]; omega] at this
            exact this
          have N0 : Hid (∀ W, Below wr.heap.size wr W → Calls Tryz.prog 23 #[.slice o0 n0 c0] W fun e w' => e = .returned (.bool (namesB l.sections)) ∧ Below W.heap.size W w') := fun W hW => by
            have hbW : Below w.heap.size w W := hbl2.trans (hW.mono hbl2.size)
            have := names_any _ l.sections W (HLR.out.s.below hbW) (by rw [HS0.out]; omega) HMI.out.s.2 (tabs_below HT.out hbW)
            rw [HV.out.1] at this
            exact this
          have N2 : Hid (∀ W, Below wr.heap.size wr W → Calls Tryz.prog 23 #[.slice o2 n2 c2] W fun e w' => e = .returned (.bool (namesB l.signals)) ∧ Below W.heap.size W w') := fun W hW => by
            have hbW : Below w.heap.size w W := hbl2.trans (hW.mono hbl2.size)
            have := names_any _ l.signals W (HLR.out.g.below hbW) (by rw [HS2.out]; omega) HMI.out.g.2 (tabs_below HT.out hbW)
            rw [HV.out.2.2.1] at this
            exact this
          have NP : Hid (∀ W, Below wr.heap.size wr W → Calls Tryz.prog 23 #[u3] W fun e w' => e = .returned (.bool (namesB (l.points.map (·.1)))) ∧ Below W.heap.size W w') := fun W hW => by
            have hbW : Below w.heap.size w W := hbl2.trans (hW.mono hbl2.size)
            refine names_any _ (l.points.map (·.1)) W (rowAt_of_owns (fun _ => rfl) (owns_below HOP.out (hb1.trans (hW.mono hb1.size)))) (by rw [List.length_map, HS1.out]; omega) (fun x hx => ?_) (tabs_below HT.out hbW)
            obtain ⟨y, hy, rfl⟩ := List.mem_map.1 hx
            exact (HMI.out.p.2 y hy).1
          have NR : Hid (∀ W, Below wr.heap.size wr W → Calls Tryz.prog 23 #[u4] W fun e w' => e = .returned (.bool (namesB (l.routes.map (·.name)))) ∧ Below W.heap.size W w') := fun W hW => by
            have hbW : Below w.heap.size w W := hbl2.trans (hW.mono hbl2.size)
            refine names_any _ (l.routes.map (·.name)) W (rowAt_of_owns (fun _ => rfl) (owns_below HOR.out hW)) (by rw [List.length_map, HLEN.out]; omega) (fun x hx => ?_) (tabs_below HT.out hbW)
            obtain ⟨y, hy, rfl⟩ := List.mem_map.1 hx
            exact (HMI.out.r.2 y hy).1
          clear hown HOP HOR
          have M := N0.out _ (Below.refl _ _)
          cases hn0 : namesB l.sections
          · rw [hn0] at M
            have HF : Hid (isB l = false) := by
              show _ = _
              rw [HSE.out, namesAll, hn0]
              rfl
            go_wp2_with fail
            refine M.mono ?_
            rintro e y0 ⟨rfl, k0⟩
            go_wp2_with fail
            go_ret
            exact ⟨ret_bool HF.out.symm, HBX2.out.1.trans ((k0).mono HBX2.out.1.size)⟩
          rw [hn0] at M
          go_wp2_with fail
          refine M.mono ?_
          rintro e y0 ⟨rfl, k0⟩
          have k0x : Below wr.heap.size wr y0 := k0
          have hcc := (HBX2.out.step k0x).cells
          rw [HV.out.1, HV.out.2.1, HV.out.2.2.1, HV.out.2.2.2] at hcc
          clear q0 q1 q2 q3 M
          obtain ⟨q0, q1, q2, q3⟩ := hcc
          have M := N2.out _ k0x
          cases hn1 : namesB l.signals
          · rw [hn1] at M
            have HF : Hid (isB l = false) := by
              show _ = _
              rw [HSE.out, namesAll, hn0, hn1]
              rfl
            go_wp2_with fail
            refine M.mono ?_
            rintro e y1 ⟨rfl, k1⟩
            go_wp2_with fail
            go_ret
            exact ⟨ret_bool HF.out.symm, HBX2.out.1.trans ((k0x.trans (k1.mono k0x.size)).mono HBX2.out.1.size)⟩
          rw [hn1] at M
          go_wp2_with fail
          refine M.mono ?_
          rintro e y1 ⟨rfl, k1⟩
          have k1x : Below wr.heap.size wr y1 := k0x.trans (k1.mono k0x.size)
          have hcc := (HBX2.out.step k1x).cells
          rw [HV.out.1, HV.out.2.1, HV.out.2.2.1, HV.out.2.2.2] at hcc
          clear q0 q1 q2 q3 M
          obtain ⟨q0, q1, q2, q3⟩ := hcc
          have M := NP.out _ k1x
          cases hn2 : namesB (l.points.map (·.1))
          · rw [hn2] at M
            have HF : Hid (isB l = false) := by
              show _ = _
              rw [HSE.out, namesAll, hn0, hn1, hn2]
              rfl
            go_wp2_with fail
            refine M.mono ?_
            rintro e y2 ⟨rfl, k2⟩
            go_wp2_with fail
            go_ret
            exact ⟨ret_bool HF.out.symm, HBX2.out.1.trans ((k1x.trans (k2.mono k1x.size)).mono HBX2.out.1.size)⟩
          rw [hn2] at M
          go_wp2_with fail
          refine M.mono ?_
          rintro e y2 ⟨rfl, k2⟩
          have k2x : Below wr.heap.size wr y2 := k1x.trans (k2.mono k1x.size)
          have hcc := (HBX2.out.step k2x).cells
          rw [HV.out.1, HV.out.2.1, HV.out.2.2.1, HV.out.2.2.2] at hcc
          clear q0 q1 q2 q3 M
          obtain ⟨q0, q1, q2, q3⟩ := hcc
          have M := NR.out _ k2x
          cases hn3 : namesB (l.routes.map (·.name))
          · rw [hn3] at M
            have HF : Hid (isB l = false) := by
              show _ = _
              rw [HSE.out, namesAll, hn0, hn1, hn2, hn3]
              rfl
            go_wp2_with fail
            refine M.mono ?_
            rintro e y3 ⟨rfl, k3⟩
            go_wp2_with fail
            go_ret
            exact ⟨ret_bool HF.out.symm, HBX2.out.1.trans ((k2x.trans (k3.mono k2x.size)).mono HBX2.out.1.size)⟩
          rw [hn3] at M
          go_wp2_with fail
          refine M.mono ?_
          rintro e y3 ⟨rfl, k3⟩
          have k3x : Below wr.heap.size wr y3 := k2x.trans (k3.mono k2x.size)
          have hcc := (HBX2.out.step k3x).cells
          rw [HV.out.1, HV.out.2.1, HV.out.2.2.1, HV.out.2.2.2] at hcc
          clear q0 q1 q2 q3 M
          obtain ⟨q0, q1, q2, q3⟩ := hcc
          have HFR : Hid (isB l = l.routes.all (routeB l)) := by
            show _ = _
            rw [HSE.out, namesAll, hn0, hn1, hn2, hn3]
            rfl
          have HB4 : Hid (BoxAt w v y3) := HBX2.out.step k3x
          clear N0 N2 NP NR hn0 hn1 hn2 hn3 HSE k0 k1 k2 k3 k0x k1x k2x k3x HBX2 HBX hbl2 hb1 hbl
          go_wp2_with fail
          go_loopg [7] n3 (fun gk i wq => ∃ j : Nat, gk = n3 - j ∧ j ≤ n3 ∧ i = .int .i64 j ∧ (∀ x ∈ rs.take j, routeB l x.1 = true) ∧ BoxAt w v wq)
          case atStart => exact ⟨0, rfl, by omega, rfl, by simp, HB4.out⟩
          case round =>
            clear HB4 q0 q1 q2 q3 hji hlt hj
            obtain ⟨j, rfl, hj, rfl, hc, hbx⟩ := hrel
            have HC : Hid (∀ x ∈ rs.take j, routeB l x.1 = true) := hc
            have HB5 : Hid (BoxAt w v wr) := hbx
            have hcc := hbx.cells
            have hbl := hbx.1
            rw [HV.out.1, HV.out.2.1, HV.out.2.2.1, HV.out.2.2.2] at hcc
            obtain ⟨q0, q1, q2, q3⟩ := hcc
            clear hbx hc
            by_cases hlt : j < n3
            · have hji : (j : Int) < (n3 : Int) := by omega
              obtain ⟨x, hx⟩ : ∃ x, rs[j]? = some x := ⟨rs[j]'(by rw [HS3.out]; exact hlt), List.getElem?_eq_getElem _⟩
              have RT : Hid (∀ z : Ext wr, Calls Tryz.prog 24 #[.agg #[.slice o0 n0 c0, .slice o1 n1 c1, .slice o2 n2 c2, .slice o3 n3 c3], .agg #[.string x.1.name, .int .i64 x.1.frm, .int .i64 x.1.to, x.2.1, x.2.2.1, x.2.2.2]] z.z fun e w' => e = .returned (.bool (routeB l x.1)) ∧ Below z.z.heap.size z.z w') := fun z => by
                have hbz : Below w.heap.size w z.z := hbl.trans (z.h.mono hbl.size)
                have hmem : x ∈ rs := List.mem_of_getElem? hx
                have := refRoute_any v l rs x z.z (HLR.out.below hbz) ((HLR.out.x x hmem).below hbz) (HCAP.out x hmem) (HMI.out.rt (by rw [← HM.out]; exact List.mem_map.2 ⟨x, hmem, rfl⟩))
                rw [HV.out.1, HV.out.2.1, HV.out.2.2.1, HV.out.2.2.2] at this
                exact this
              obtain ⟨⟨p3, k3, f3, _⟩, ⟨p4, k4, f4, _⟩, ⟨p5, k5, f5, _⟩⟩ := HLR.out.x x (List.mem_of_getElem? hx)
              obtain ⟨g, off, rfl, hcell⟩ := R3.out j _ hx
              have HX : Hid (rs[j]? = some x) := hx
              have up : ∀ {p : Addr} {u : Value}, w.cell? p = some u → wr.cell? p = some u := fun h => (hbl.cell (World.block_lt_of_cell? _ _ h)).trans h
              have d0 := ext_cell (up (hcell 0 _ rfl))
              have d1 := ext_cell (up (hcell 1 _ rfl))
              have d2 := ext_cell (up (hcell 2 _ rfl))
              have d3 := ext_cell (up (hcell 3 _ rfl))
              have d4 := ext_cell (up (hcell 4 _ rfl))
              have d5 := ext_cell (up (hcell 5 _ rfl))
              simp only [Nat.add_zero] at d0
              rw [f3] at d3 RT
              rw [f4] at d4 RT
              rw [f5] at d5 RT
              have z0 := ext_cell q0
              have z1 := ext_cell q1
              have z2 := ext_cell q2
              have z3 := ext_cell q3
              haveI := ext_some wr
              have GOB : Hid (routeB l x.1 = true → ∀ y ∈ rs.take (j + 1), routeB l y.1 = true) := fun hh => take_more (P := fun y : RtV => routeB l y.1 = true) HX.out HC.out hh
              have BAD : Hid (routeB l x.1 = false → isB l = false) := fun hh => by
                rw [HFR.out, ← HM.out, List.all_eq_false]
                exact ⟨x.1, List.mem_map.2 ⟨x, List.mem_of_getElem? HX.out, rfl⟩, by rw [hh]; simp⟩
              clear hcell up hx f3 f4 f5
              generalize hrb : routeB l x.1 = rb at *
              generalize x.1.name = xn at *
              generalize x.1.frm = xf at *
              generalize x.1.to = xt at *
              generalize x.1.path.length = xp at *
              generalize x.1.points.length = xq at *
              generalize x.1.flank.length = xr at *
              clear hrb
              cases rb
              · have HF : Hid (isB l = false) := BAD.out rfl
                go_wp2_with fail
                refine wp_region_ext (by kernel_rfl) (by kernel_rfl) ?_
                repeat (first | go_big_quiet_skip | (go_big_quiet_want; go_big_quiet_op; first | go_big_quiet_on | (apply Exists.intro; refine ⟨fun _ => ?_, ?_⟩; (go_at_call 24; exact ext_of (RT.out _)); go_big_quiet_on)))
                refine wpQuiet_nil ?_
                intro _ hw'
                obtain ⟨z, hw''⟩ := hw'
                subst hw''
                go_wp2
                go_ret
                exact ⟨ret_bool HF.out.symm, hbl.trans (z.h.mono hbl.size)⟩
              · go_wp2_with fail
                refine wp_region_ext (by kernel_rfl) (by kernel_rfl) ?_
                repeat (first | go_big_quiet_skip | (go_big_quiet_want; go_big_quiet_op; first | go_big_quiet_on | (apply Exists.intro; refine ⟨fun _ => ?_, ?_⟩; (go_at_call 24; exact ext_of (RT.out _)); go_big_quiet_on)))
                refine wpQuiet_nil ?_
                intro _ hw'
                obtain ⟨z, hw''⟩ := hw'
                subst hw''
                go_wp2
                go_roundg (n3 - (j + 1))
                case rel => exact ⟨j + 1, rfl, by omega, by go_num, GOB.out (by simp), HB5.out.step z.h⟩
                case measure => omega
            · have hji : ¬ (j : Int) < (n3 : Int) := by omega
              have HF : Hid (isB l = true) := by
                show _ = _
                rw [HFR.out, ← HM.out, List.all_eq_true]
                intro y hy
                obtain ⟨x, hx, rfl⟩ := List.mem_map.1 hy
                have := HC.out
                rw [take_all HS3.out (by omega)] at this
                exact this x hx
              go_wp2
              go_ret
              exact ⟨ret_bool HF.out.symm, hbl⟩
end Go.Proofs.YtceebimgfajbcaaGreatDoor
