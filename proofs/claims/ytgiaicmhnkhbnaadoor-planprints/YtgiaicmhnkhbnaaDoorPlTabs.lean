/-
  utf8.DecodeRuneInString, and the reference's Runes, each by a contract.
-/
import Derived.Test.YtgiaicmhnkhbnaaDoorShelf
import Derived.Test.YtgiaicmhnkhbnaaDoorJoin2
namespace Go.Proofs.YtgiaicmhnkhbnaaDoor
open Go.RowKit

theorem tabs_below {w w' : World} (h : Lib.Utf8Tabs 0 1 w) (hb : Below w.heap.size w w') : Lib.Utf8Tabs 0 1 w' := by
  refine ⟨fun c hc => ?_, fun i hi => ?_⟩
  · have h1 := h.1 c hc
    exact (hb.cell (World.block_lt_of_cell? w _ h1)).trans h1
  · have h1 := h.2 i hi
    exact ⟨(hb.cell (World.block_lt_of_cell? w _ h1.1)).trans h1.1, (hb.cell (World.block_lt_of_cell? w _ h1.2)).trans h1.2⟩

/-- Of what there was at the call nothing has turned; the two tables lie. -/
def Ok (w0 w : World) : Prop := Below w0.heap.size w0 w ∧ Lib.Utf8Tabs 0 1 w
theorem Ok.start {w : World} (h : Lib.Utf8Tabs 0 1 w) : Ok w w := ⟨Below.refl _ _, h⟩
theorem Ok.step {w0 w w' : World} (h : Ok w0 w) (hb : Below w.heap.size w w') : Ok w0 w' := ⟨h.1.trans (hb.mono h.1.size), tabs_below h.2 hb⟩
theorem Ok.drewN {w0 w : World} (h : Ok w0 w) (n : Nat) : Ok w0 (w.drewN n) := ⟨_root_.Go.below_drewN h.1 n, h.2⟩

theorem decodeGo_at (s : ByteArray) (p : Nat) (h : p < s.size) : Lib.decodeGo (s.extract p s.size) = Utf8.decode s p := by
  have hl : (s.extract p s.size).data.toList = s.data.toList.drop p := by
    rw [Lib.extract_data, List.take_of_length_le (by rw [List.length_drop, ← Lib.size_eq]; exact Nat.le_refl _)]
  have hs : (s.extract p s.size).size = s.size - p := by rw [Lib.size_eq, hl, List.length_drop, ← Lib.size_eq]
  rw [Lib.decodeGo, if_neg (by omega), decode_drop, decode_drop, hl]
  rfl

theorem decode_any (s : ByteArray) (w : World) (hT : Lib.Utf8Tabs 0 1 w) (hs : s.size ≠ 0) :
    Calls Tryd.prog 49 #[.string s] w fun e w' => e = .returned (.tuple #[.int .i32 (Utf8.decode s 0).1, .int .i64 (Utf8.decode s 0).2]) ∧ Below w.heap.size w w' := by
  have h := Tryd.utf8_DecodeRuneInString s w hT
  rw [Lib.decodeGo, if_neg hs] at h
  exact h

def runeCells (l : List (Nat × Nat)) : List Value := l.flatMap fun x => [.int .i32 x.1, .int .i64 x.2, .bool (badB x)]
theorem runeCells_snoc (l : List (Nat × Nat)) (x : Nat × Nat) : runeCells (l ++ [x]) = runeCells l ++ [.int .i32 x.1, .int .i64 x.2, .bool (badB x)] := by
  simp [runeCells]
theorem infoR : (Tryd.prog.info? 76).map (fun i => (i.zero, i.size, i.bytes)) = some (some (.agg #[.int .i32 0, .int .i64 0, .bool false]), 3, 24) := by kernel_rfl

theorem cell_three_new (w : World) (a b c : Value) (t : TypeId) : ∀ j u, [a, b, c][j]? = some u → (w.alloc (.cells #[a, b, c] t)).cell? ((⟨w.heap.size, 0, none⟩ : Addr).add j) = some u := by
  intro j u hj
  match j, hj with
  | 0, hj => simp at hj; subst hj; simp [Addr.add]
  | 1, hj => simp at hj; subst hj; simp [Addr.add]
  | 2, hj => simp at hj; subst hj; simp [Addr.add]
  | j + 3, hj => simp at hj
theorem three_one (a b : Int) (c : Bool) : ∀ u ∈ [Value.int .i32 a, Value.int .i64 b, Value.bool c], u.oneCell' = true := by
  intro u hu
  simp at hu
  rcases hu with rfl | rfl | rfl <;> rfl

set_option maxRecDepth 1000000 in
set_option maxHeartbeats 4000000 in
theorem refRunes_any (s : ByteArray) (w : World) (hs : s.size ≤ 4294967296) (hT : Lib.Utf8Tabs 0 1 w) :
    Calls Tryd.prog 36 #[.string s] w fun e w' => ∃ v, e = .returned v ∧ w'.ownsRow w.heap.size 76 3 v (runes s.data.toList).length (runeCells (runes s.data.toList)) ∧ Below w.heap.size w w' := by
  obtain ⟨i0, hi, hz0, hz1, hz2⟩ := info_parts infoR
  have H0 : Hid (runesAt s 0 = runes s.data.toList) := by simp [Hid, runesAt]
  have HT : Hid (Lib.Utf8Tabs 0 1 w) := hT
  clear hT
  go_enter Tryd.func36, Tryd.ntmps36
  go_wp2
  go_loopw [3, 4, 5, 6] (fun v i _ _ wr => ∃ (pos : Nat) (rs : List (Nat × Nat)), wr.ownsRow w.heap.size 76 3 v rs.length (runeCells rs) ∧ i = .int .i64 pos ∧
      rs ++ runesAt s pos = runesAt s 0 ∧ rs.length ≤ pos ∧ pos ≤ s.size ∧ Below w.heap.size w wr)
    (fun _ i _ _ _ => s.size - (intOf i).toNat)
  case atStart => exact ⟨0, [], World.ownsRow_nil _ _ _ _, rfl, rfl, by simp, by omega, Below.refl _ _⟩
  case round =>
    obtain ⟨pos, rs, hown, rfl, hc, hl, hps, hbl⟩ := hrel
    have HC : Hid (rs ++ runesAt s pos = runesAt s 0) := hc
    clear hc
    by_cases hp : pos < s.size
    · have hwd := width_at s pos hp
      have HN : Hid (runesAt s pos = Utf8.decode s pos :: runesAt s (pos + (Utf8.decode s pos).2)) := runesAt_next s pos hp
      have hD := fun W h => decode_any (s.extract pos s.size) W h (by simp; omega)
      have e0 : Utf8.decode (s.extract pos s.size) 0 = Utf8.decode s pos := by
        have := decodeGo_at s pos hp
        rw [Lib.decodeGo, if_neg (by simp; omega)] at this
        exact this
      rw [e0] at hD
      clear e0
      generalize hr : Utf8.decode s pos = dd at *
      obtain ⟨r, wd⟩ := dd
      simp only at hwd hD
      clear hr
      go_wp2_with fail
      refine (hD _ (tabs_below HT.out hbl)).mono ?_
      rintro e w2 ⟨rfl, hb2⟩
      have hown2 := owns_below hown hb2
      have hbl2 : Below w.heap.size w w2 := hbl.trans (hb2.mono hbl.size)
      clear hb2 hbl hown hD
      by_cases hr : r = 65533
      · by_cases hw1 : wd = 1
        · subst hr
          subst hw1
          go_wp2_with (at_builtin; refine wpList_append_own _ rfl _ _ 73 rfl w.heap.size 76 i0 (.agg #[.int .i32 0, .int .i64 0, .bool false]) 3 24 Tryd.underlying73 hi hz0 hz1 hz2 rfl (by decide) _ _ _ rfl (hown2.alloc _) ⟨w2.heap.size, 0, none⟩ 1 1 [.int .i32 65533, .int .i64 1, .bool true] rfl rfl (cell_three_new _ _ _ _ _) (three_one _ _ _) (by unfold maxLen; omega) (by omega) (by have := hbl2.size; simp; omega) ?_)
          intro v' w3 hown3 hgrow _
          have hbl3 : Below w.heap.size w w3 := (hbl2.alloc hbl2.size _).grown hgrow (by have := hbl2.size; simp; omega) (fun k hk => (hown2.lt k hk).1)
          have hadd : rs ++ (65533, 1) :: runesAt s (pos + 1) = runesAt s 0 := by rw [← HC.out, HN.out]
          have HADD : Hid (rs ++ (65533, 1) :: runesAt s (pos + 1) = runesAt s 0) := hadd
          have hown4 : w3.ownsRow w.heap.size 76 3 v' (rs ++ [(65533, 1)]).length (runeCells (rs ++ [(65533, 1)])) := by
            rw [runeCells_snoc, List.length_append]
            rw [show badB (65533, 1) = true from rfl]
            exact hown3
          clear hown2 hown3 hgrow hbl2 hadd
          go_wp2
          go_roundw
          case rel => exact ⟨pos + 1, rs ++ [(65533, 1)], hown4, by go_num, by rw [← HADD.out]; simp, by rw [List.length_append]; simp; omega, by omega, hbl3⟩
          case measure => simp [intOf]; omega
        · subst hr
          have hw' : ((wd : Int) == 1) = false := by simp; omega
          go_wp2_with (at_builtin; refine wpList_append_own _ rfl _ _ 73 rfl w.heap.size 76 i0 (.agg #[.int .i32 0, .int .i64 0, .bool false]) 3 24 Tryd.underlying73 hi hz0 hz1 hz2 rfl (by decide) _ _ _ rfl (hown2.alloc _) ⟨w2.heap.size, 0, none⟩ 1 1 [.int .i32 65533, .int .i64 wd, .bool false] rfl rfl (cell_three_new _ _ _ _ _) (three_one _ _ _) (by unfold maxLen; omega) (by omega) (by have := hbl2.size; simp; omega) ?_)
          intro v' w3 hown3 hgrow _
          have hbl3 : Below w.heap.size w w3 := (hbl2.alloc hbl2.size _).grown hgrow (by have := hbl2.size; simp; omega) (fun k hk => (hown2.lt k hk).1)
          have hadd : rs ++ (65533, wd) :: runesAt s (pos + wd) = runesAt s 0 := by rw [← HC.out, HN.out]
          have HADD : Hid (rs ++ (65533, wd) :: runesAt s (pos + wd) = runesAt s 0) := hadd
          have hown4 : w3.ownsRow w.heap.size 76 3 v' (rs ++ [(65533, wd)]).length (runeCells (rs ++ [(65533, wd)])) := by
            rw [runeCells_snoc, List.length_append]
            rw [show badB (65533, wd) = false by rw [badB, decide_eq_false_iff_not]; exact fun h => hw1 h.2]
            exact hown3
          clear hown2 hown3 hgrow hbl2 hadd
          go_wp2
          go_roundw
          case rel => exact ⟨pos + wd, rs ++ [(65533, wd)], hown4, by go_num, by rw [← HADD.out]; simp, by rw [List.length_append]; simp; omega, by omega, hbl3⟩
          case measure => simp [intOf]; omega
      · have hr' : ((r : Int) == 65533) = false := by simp; omega
        go_wp2_with (at_builtin; refine wpList_append_own _ rfl _ _ 73 rfl w.heap.size 76 i0 (.agg #[.int .i32 0, .int .i64 0, .bool false]) 3 24 Tryd.underlying73 hi hz0 hz1 hz2 rfl (by decide) _ _ _ rfl (hown2.alloc _) ⟨w2.heap.size, 0, none⟩ 1 1 [.int .i32 r, .int .i64 wd, .bool false] rfl rfl (cell_three_new _ _ _ _ _) (three_one _ _ _) (by unfold maxLen; omega) (by omega) (by have := hbl2.size; simp; omega) ?_)
        intro v' w3 hown3 hgrow _
        have hbl3 : Below w.heap.size w w3 := (hbl2.alloc hbl2.size _).grown hgrow (by have := hbl2.size; simp; omega) (fun k hk => (hown2.lt k hk).1)
        have hadd : rs ++ (r, wd) :: runesAt s (pos + wd) = runesAt s 0 := by rw [← HC.out, HN.out]
        have HADD : Hid (rs ++ (r, wd) :: runesAt s (pos + wd) = runesAt s 0) := hadd
        have hown4 : w3.ownsRow w.heap.size 76 3 v' (rs ++ [(r, wd)]).length (runeCells (rs ++ [(r, wd)])) := by
          rw [runeCells_snoc, List.length_append]
          rw [show badB (r, wd) = false by rw [badB, decide_eq_false_iff_not]; exact fun h => hr h.1]
          exact hown3
        clear hown2 hown3 hgrow hbl2 hadd
        go_wp2
        go_roundw
        case rel => exact ⟨pos + wd, rs ++ [(r, wd)], hown4, by go_num, by rw [← HADD.out]; simp, by rw [List.length_append]; simp; omega, by omega, hbl3⟩
        case measure => simp [intOf]; omega
    · go_wp2
      go_ret
      refine ⟨_, rfl, ?_, hbl⟩
      have h1 := HC.out
      rw [runesAt_end s pos hp, List.append_nil, H0.out] at h1
      rw [← h1]
      exact hown
end Go.Proofs.YtgiaicmhnkhbnaaDoor
