/-
  Of any row of texts and any row of numbers: GlyphWords returns true. The tables of unicode/utf8 are as the program's text lays them (the tied card); no other condition.
-/
import Derived.Test.YtnnhnjccicfdlaaDoorRows
import Derived.Test.YtnnhnjccicfdlaaDoorCards
import Derived.Test.YtnnhnjccicfdlaaDoorTie
import Derived.Test.YtnnhnjccicfdlaaDoorWordsP
import Derived.Test.YtnnhnjccicfdlaaDoorRefName
import Derived.Laws.Bits128
import Derived.SliceStrings
import Derived.Deep.LoopGhost
import Derived.WalkKit
import Derived.ProofKit
import Derived.OpenShut
import Derived.ShutString
import Derived.ChangeOld
import Derived.Below
import Derived.SizedLaws
import Derived.PinnedBridge
import Derived.Lib.LaidU8T
import Derived.Lay
import Derived.LaidOnce
import Derived.SevenTiedAt
import Derived.Deep.DeepHandedRow
namespace Go.Proofs.YtnnhnjccicfdlaaDoor.glyphWords
open Go.ChangeShapes Go.WideShapes Go.ChangeAt Go.RowKit
open Go.ChangeMaps (open_string shut_string)

theorem i64_and3 (n : Int) : bits .and .i64 n 3 = n % 4 := by
  have h3 : (BitVec.ofInt 64 3).toNat = 2 ^ 2 - 1 := by decide
  have key : (BitVec.ofInt 64 n &&& BitVec.ofInt 64 3).toNat = (n % ((2 ^ 64 : Nat) : Int)).toNat % 2 ^ 2 := by
    rw [BitVec.toNat_and, BitVec.toNat_ofInt, h3, Nat.and_two_pow_sub_one_eq_mod]
  show IntKind.i64.wrap ((BitVec.ofInt 64 n &&& BitVec.ofInt 64 3).toNat : Nat) = n % 4
  rw [key, IntKind.wrap_i64]
  omega
theorem i64_and1 (n : Int) : bits .and .i64 n 1 = n % 2 := by
  have h1 : (BitVec.ofInt 64 1).toNat = 2 ^ 1 - 1 := by decide
  have key : (BitVec.ofInt 64 n &&& BitVec.ofInt 64 1).toNat = (n % ((2 ^ 64 : Nat) : Int)).toNat % 2 ^ 1 := by
    rw [BitVec.toNat_and, BitVec.toNat_ofInt, h1, Nat.and_two_pow_sub_one_eq_mod]
  show IntKind.i64.wrap ((BitVec.ofInt 64 n &&& BitVec.ofInt 64 1).toNat : Nat) = n % 2
  rw [key, IntKind.wrap_i64]
  omega

theorem blank_append {x y : List UInt8} (h : blankBytes x = true) (k : blankBytes y = true) : blankBytes (x ++ y) = true := by
  rw [blankBytes, List.all_append, Bool.and_eq_true]
  exact ⟨h, k⟩

/-- Words of a text without a wrong rune. -/
theorem words_whole (S : ByteArray) (ws : List (ByteArray × Nat)) (w : World) (hs : S.size ≤ 4294967296) (h : wholeB S.data.toList = true) (hw : wordsL S = ws) :
    Calls Tryd.prog 6 #[.string S] w fun e w' => ∃ v, e = .returned (.tuple #[v, .int .i64 (-1)]) ∧ hasWords w' v ws ∧ Below w.heap.size w w' := by
  refine (words_ok S w hs (whole_wrong h)).mono ?_
  rintro e w' ⟨v, rfl, hown, hb⟩
  rw [hw] at hown
  exact ⟨v, rfl, hasWords_of_owns hown, hb⟩

/-- What a row of texts that came in holds. -/
def hasStrs (w : World) (oa : Option Addr) (ls : List ByteArray) : Prop := ∀ j x, ls[j]? = some x → ∃ b off, oa = some ⟨b, off, none⟩ ∧ w.cell? ⟨b, off + j, none⟩ = some (.string x)
def hasInts (w : World) (oa : Option Addr) (ls : List Int) : Prop := ∀ j x, ls[j]? = some x → ∃ b off, oa = some ⟨b, off, none⟩ ∧ w.cell? ⟨b, off + j, none⟩ = some (.int .i64 x)

set_option maxRecDepth 1000000 in
set_option maxHeartbeats 8000000 in
theorem walk_in (oa ob : Option Addr) (ls : List ByteArray) (gs : List Int) (nl ng ca cb : Nat) (w : World) (hl : nl ≤ 30) (hg : nl ≤ ng) (hgm : ng ≤ 9223372036854775807) (HL : Hid (ls.length = nl)) (HG : Hid (gs.length = ng))
    (hS : hasStrs w oa ls) (hI : hasInts w ob gs) (hT : Lib.Utf8Tabs 0 1 w) :
    Calls Tryd.prog 4 #[.slice oa nl ca, .slice ob ng cb] w fun e w' => e = .returned (.bool true) ∧ Below w.heap.size w w' := by
  obtain ⟨i0, hi, hz0, hz1, hz2⟩ := info_parts infoW
  have o0 := Ok.start hT
  clear hT
  have hng : ¬ ng < nl := by omega
  have h30 : ¬ (30 : Int) < (nl : Int) := by omega
  go_enter Tryd.func4, Tryd.ntmps4
  go_wp2
  go_loopg [5, 6, 7, 8, 9, 10] nl (fun gg s at_ want i _ _ wr => ∃ (k : Nat) (S : ByteArray), k ≤ nl ∧ gg = nl - k ∧ i = .int .i64 k ∧ s = .string S ∧ at_ = .int .i64 ((runes S.data.toList).length : Nat) ∧
      wr.ownsRow w.heap.size 37 2 want (wordsL S).length (wordCells (wordsL S)) ∧ wholeB S.data.toList = true ∧ S.size ≤ 64 * k ∧ (wordsL S).length ≤ k ∧ Ok w wr)
  case atStart => exact ⟨0, ⟨#[]⟩, by omega, rfl, rfl, rfl, rfl, World.ownsRow_nil _ _ _ _, rfl, by exact Nat.le_refl 0, by exact Nat.le_refl 0, o0⟩
  case round =>
    obtain ⟨k, S, hk, rfl, rfl, rfl, rfl, hown, hwh, hsz, hwl, o1⟩ := hrel
    have HW : Hid (wholeB S.data.toList = true) := hwh
    clear hwh
    by_cases hlt : k < nl
    · obtain ⟨x, hxk⟩ : ∃ x, ls[k]? = some x := ⟨ls[k]'(by rw [HL.out]; exact hlt), List.getElem?_eq_getElem _⟩
      obtain ⟨z, hzk⟩ : ∃ z, gs[k]? = some z := ⟨gs[k]'(by rw [HG.out]; omega), List.getElem?_eq_getElem _⟩
      obtain ⟨b, off, rfl, c1⟩ := hS k x hxk
      obtain ⟨b', off', rfl, c2⟩ := hI k z hzk
      have HX : Hid (w.cell? ⟨b, off + k, none⟩ = some (.string x)) := c1
      have HZ : Hid (w.cell? ⟨b', off' + k, none⟩ = some (.int .i64 z)) := c2
      have d1 := (o1.1.cell (p := ⟨b, off + k, none⟩) (World.block_lt_of_cell? w _ c1)).trans c1
      have d2 := (o1.1.cell (p := ⟨b', off' + k, none⟩) (World.block_lt_of_cell? w _ c2)).trans c2
      obtain ⟨c, hc⟩ : ∃ c : Nat, z % 4 = (c : Int) := ⟨(z % 4).toNat, by omega⟩
      have hc3 : c ≤ 3 := by omega
      have hand3 := i64_and3 z
      rw [hc] at hand3
      clear hc
      clear hS hI hxk hzk c1 c2
      by_cases hx60 : x.size ≤ 60
      · cases hnm : nameB x.data.toList
        · have C := fun W (h : Ok w W) => refName_any x W (by omega) h.2
          rw [hnm] at C
          go_wp2_with fail
          refine (C _ o1).mono ?_
          rintro e w2 ⟨rfl, hb2⟩
          go_wp2
          go_ret
          exact ⟨rfl, (o1.step hb2).1⟩
        · have C := fun W (h : Ok w W) => refName_any x W (by omega) h.2
          rw [hnm] at C
          have HNM : Hid (nameB x.data.toList = true) := hnm
          clear hnm
          go_wp2_with fail
          refine (C _ o1).mono ?_
          rintro e w2 ⟨rfl, hb2⟩
          have o2 := o1.step hb2
          have hown2 := owns_below hown hb2
          have d1 := (o2.1.cell (p := ⟨b, off + k, none⟩) (World.block_lt_of_cell? w _ HX.out)).trans HX.out
          have d2 := (o2.1.cell (p := ⟨b', off' + k, none⟩) (World.block_lt_of_cell? w _ HZ.out)).trans HZ.out
          clear C hb2 hown
          have hparts : ∃ cnt : Nat, cnt ≤ 4 ∧ ((k = 0 ∧ cnt = c) ∨ (0 < k ∧ cnt = c + 1)) := by
            by_cases hk0 : k = 0
            · exact ⟨c, by omega, .inl ⟨hk0, rfl⟩⟩
            · exact ⟨c + 1, by omega, .inr ⟨by omega, rfl⟩⟩
          obtain ⟨cnt, hcnt, hparts⟩ := hparts
          have HNE : Hid (1 ≤ cnt ∨ S.size = 0) := by
            rcases hparts with ⟨h1, h2⟩ | ⟨h1, h2⟩
            · right; omega
            · left; omega
          rcases hparts with ⟨h1, h2⟩ | ⟨h1, h2⟩
          · have hk0' : ¬ (0 : Int) < (k : Int) := by omega
            subst h2
            clear h1
            go_wp2
            go_loopg [5, 10] cnt (fun gg s kk wr' => ∃ (j : Nat) (T : ByteArray) (bl : List UInt8), j ≤ cnt ∧ gg = cnt - j ∧ kk = .int .i64 j ∧ s = .string T ∧ T.data.toList = S.data.toList ++ bl ∧ blankBytes bl = true ∧ bl.length = j ∧ T.size = S.size + j ∧ Ok w wr' ∧
                wr'.ownsRow w.heap.size 37 2 u7 (wordsL S).length (wordCells (wordsL S)))
            case atStart => exact ⟨0, S, [], by omega, rfl, rfl, rfl, by simp, rfl, rfl, rfl, o2, hown2⟩
            case round =>
              obtain ⟨j, T, bl, hj, rfl, rfl, rfl, hT, hbl, hlen, hTz, o3, hown3⟩ := hrel
              have HT : Hid (T.data.toList = S.data.toList ++ bl) := hT
              have HLE : Hid (bl.length = j) := hlen
              have HTZ : Hid (T.size = S.size + j) := hTz
              have hTz' : T.size ≤ 2000 := by omega
              clear hT hlen hTz d1 d2 hown2
              have d1 := (o3.1.cell (p := ⟨b, off + k, none⟩) (World.block_lt_of_cell? w _ HX.out)).trans HX.out
              have d2 := (o3.1.cell (p := ⟨b', off' + k, none⟩) (World.block_lt_of_cell? w _ HZ.out)).trans HZ.out
              by_cases hlt2 : j < cnt
              · have hal : Below wr.heap.size wr (wr.alloc (.cells #[.string ⟨#[32]⟩, .string ⟨#[9]⟩] 9)) := (Below.refl _ _).alloc (Nat.le_refl _) _
                have d3 := (hal.cell (p := ⟨b', off' + k, none⟩) (World.block_lt_of_cell? wr _ d2)).trans d2
                rcases (show z / 2 ^ (j + 2) % 2 = 0 ∨ z / 2 ^ (j + 2) % 2 = 1 by omega) with hpar | hpar
                · have hand1 := i64_and1 (z / 2 ^ (j + 2))
                  rw [hpar] at hand1
                  clear hpar
                  go_wp2
                  go_roundg (cnt - (j + 1))
                  case rel => exact ⟨j + 1, T ++ ⟨#[32]⟩, bl ++ [32], by omega, rfl, by go_num, rfl, by simp [HT.out], blank_append hbl (by decide), by rw [List.length_append, HLE.out]; rfl, by rw [ByteArray.size_append, HTZ.out]; rfl, o3.step hal, owns_below hown3 hal⟩
                  case measure => omega
                · have hand1 := i64_and1 (z / 2 ^ (j + 2))
                  rw [hpar] at hand1
                  clear hpar
                  go_wp2
                  go_roundg (cnt - (j + 1))
                  case rel => exact ⟨j + 1, T ++ ⟨#[9]⟩, bl ++ [9], by omega, rfl, by go_num, rfl, by simp [HT.out], blank_append hbl (by decide), by rw [List.length_append, HLE.out]; rfl, by rw [ByteArray.size_append, HTZ.out]; rfl, o3.step hal, owns_below hown3 hal⟩
                  case measure => omega
              · have hjc : j = cnt := by omega
                subst hjc
                have hlr := runes_length_le S.data.toList
                rw [← Lib.size_eq] at hlr
                have hlx := runes_length_le x.data.toList
                rw [← Lib.size_eq] at hlx
                have HWL : Hid (wordsL (T ++ x) = wordsL S ++ [(x, (runes S.data.toList).length + j)]) := by
                  have := words_more (T ++ x) S bl x (by simp [HT.out]) HW.out hbl HNM.out (by
                    rcases HNE.out with h | h
                    · left
                      intro e
                      rw [e] at HLE
                      have := HLE.out
                      simp at this
                      omega
                    · exact .inr h)
                  rw [HLE.out] at this
                  exact this
                have HWW : Hid (wholeB (T ++ x).data.toList = true) := by
                  rw [Hid, show (T ++ x).data.toList = S.data.toList ++ (bl ++ x.data.toList) by simp [HT.out]]
                  exact whole_append HW.out (whole_append (blankBytes_whole hbl) (name_parts HNM.out).2.1)
                have HRL : Hid ((runes (T ++ x).data.toList).length = (runes S.data.toList).length + j + (runes x.data.toList).length) := by
                  obtain ⟨xs, q1, _, _, q4, _⟩ := blankBytes_runes bl x.data.toList hbl
                  rw [Hid, show (T ++ x).data.toList = S.data.toList ++ (bl ++ x.data.toList) by simp [HT.out], runes_append _ _ HW.out, q1, List.length_append, List.length_append, q4, HLE.out]
                  omega
                have HSZ : Hid ((T ++ x).size ≤ 64 * (k + 1)) := by rw [Hid, ByteArray.size_append, HTZ.out]; omega
                have C5 := fun W (h : Ok w W) => refRunes_any x W (by omega) h.2
                generalize (runes S.data.toList).length = p at *
                generalize runes x.data.toList = rx at *
                have D5 : Hid (∀ W, Ok w W → _) := C5
                clear C5 HT HLE hbl
                go_wp2_with (at_builtin; refine wpList_append_own _ rfl _ _ 22 rfl w.heap.size 37 i0 (.agg #[.string ⟨#[]⟩, .int .i64 0]) 2 24 Tryd.underlying22 hi hz0 hz1 hz2 rfl (by decide) _ _ _ rfl (hown3.alloc _) ⟨wr.heap.size, 0, none⟩ 1 1 [.string x, .int .i64 ((p : Int) + j)] rfl rfl (cell_two_new _ _ _ _) (two_one _ _) (by unfold maxLen; omega) (by omega) (by have := o3.1.size; simp; omega) ?_)
                intro v' w4 hown4 hgrow _
                have o4 : Ok w w4 := by
                  have hbl4 : Below w.heap.size w w4 := (o3.1.alloc o3.1.size _).grown hgrow (by have := o3.1.size; simp; omega) (fun k hk => (hown3.lt k hk).1)
                  exact ⟨hbl4, tabs_below o0.2 hbl4⟩
                have d4 := (o4.1.cell (p := ⟨b, off + k, none⟩) (World.block_lt_of_cell? w _ HX.out)).trans HX.out
                clear hown3 hgrow o3 d1 d2
                go_wp2_with fail
                refine (D5.out _ o4).mono ?_
                rintro e w5 ⟨v5, rfl, hown5, hb5⟩
                obtain ⟨o6, c6, rfl, _⟩ := hasRunes_of_owns hown5
                have o5 := o4.step hb5
                have hown6 := owns_below hown4 hb5
                clear hown4 hown5 hb5
                go_wp2
                go_roundg (nl - (k + 1))
                case rel => exact ⟨k + 1, T ++ x, by omega, rfl, by go_num, rfl, by rw [HRL.out]; go_num, by rw [HWL.out, wordCells_snoc, List.length_append]; exact hown6, HWW.out, HSZ.out, by rw [HWL.out, List.length_append]; simp; omega, o5⟩
                case measure => omega
          · have hk0' : (0 : Int) < (k : Int) := by omega
            go_wp2
            rw [show ((c : Int) + 1) = (cnt : Int) by omega]
            clear h2
            go_loopg [5, 10] cnt (fun gg s kk wr' => ∃ (j : Nat) (T : ByteArray) (bl : List UInt8), j ≤ cnt ∧ gg = cnt - j ∧ kk = .int .i64 j ∧ s = .string T ∧ T.data.toList = S.data.toList ++ bl ∧ blankBytes bl = true ∧ bl.length = j ∧ T.size = S.size + j ∧ Ok w wr' ∧
                wr'.ownsRow w.heap.size 37 2 u7 (wordsL S).length (wordCells (wordsL S)))
            case atStart => exact ⟨0, S, [], by omega, rfl, rfl, rfl, by simp, rfl, rfl, rfl, o2, hown2⟩
            case round =>
              obtain ⟨j, T, bl, hj, rfl, rfl, rfl, hT, hbl, hlen, hTz, o3, hown3⟩ := hrel
              have HT : Hid (T.data.toList = S.data.toList ++ bl) := hT
              have HLE : Hid (bl.length = j) := hlen
              have HTZ : Hid (T.size = S.size + j) := hTz
              have hTz' : T.size ≤ 2000 := by omega
              clear hT hlen hTz d1 d2 hown2
              have d1 := (o3.1.cell (p := ⟨b, off + k, none⟩) (World.block_lt_of_cell? w _ HX.out)).trans HX.out
              have d2 := (o3.1.cell (p := ⟨b', off' + k, none⟩) (World.block_lt_of_cell? w _ HZ.out)).trans HZ.out
              by_cases hlt2 : j < cnt
              · have hal : Below wr.heap.size wr (wr.alloc (.cells #[.string ⟨#[32]⟩, .string ⟨#[9]⟩] 9)) := (Below.refl _ _).alloc (Nat.le_refl _) _
                have d3 := (hal.cell (p := ⟨b', off' + k, none⟩) (World.block_lt_of_cell? wr _ d2)).trans d2
                rcases (show z / 2 ^ (j + 2) % 2 = 0 ∨ z / 2 ^ (j + 2) % 2 = 1 by omega) with hpar | hpar
                · have hand1 := i64_and1 (z / 2 ^ (j + 2))
                  rw [hpar] at hand1
                  clear hpar
                  go_wp2
                  go_roundg (cnt - (j + 1))
                  case rel => exact ⟨j + 1, T ++ ⟨#[32]⟩, bl ++ [32], by omega, rfl, by go_num, rfl, by simp [HT.out], blank_append hbl (by decide), by rw [List.length_append, HLE.out]; rfl, by rw [ByteArray.size_append, HTZ.out]; rfl, o3.step hal, owns_below hown3 hal⟩
                  case measure => omega
                · have hand1 := i64_and1 (z / 2 ^ (j + 2))
                  rw [hpar] at hand1
                  clear hpar
                  go_wp2
                  go_roundg (cnt - (j + 1))
                  case rel => exact ⟨j + 1, T ++ ⟨#[9]⟩, bl ++ [9], by omega, rfl, by go_num, rfl, by simp [HT.out], blank_append hbl (by decide), by rw [List.length_append, HLE.out]; rfl, by rw [ByteArray.size_append, HTZ.out]; rfl, o3.step hal, owns_below hown3 hal⟩
                  case measure => omega
              · have hjc : j = cnt := by omega
                subst hjc
                have hlr := runes_length_le S.data.toList
                rw [← Lib.size_eq] at hlr
                have hlx := runes_length_le x.data.toList
                rw [← Lib.size_eq] at hlx
                have HWL : Hid (wordsL (T ++ x) = wordsL S ++ [(x, (runes S.data.toList).length + j)]) := by
                  have := words_more (T ++ x) S bl x (by simp [HT.out]) HW.out hbl HNM.out (by
                    rcases HNE.out with h | h
                    · left
                      intro e
                      rw [e] at HLE
                      have := HLE.out
                      simp at this
                      omega
                    · exact .inr h)
                  rw [HLE.out] at this
                  exact this
                have HWW : Hid (wholeB (T ++ x).data.toList = true) := by
                  rw [Hid, show (T ++ x).data.toList = S.data.toList ++ (bl ++ x.data.toList) by simp [HT.out]]
                  exact whole_append HW.out (whole_append (blankBytes_whole hbl) (name_parts HNM.out).2.1)
                have HRL : Hid ((runes (T ++ x).data.toList).length = (runes S.data.toList).length + j + (runes x.data.toList).length) := by
                  obtain ⟨xs, q1, _, _, q4, _⟩ := blankBytes_runes bl x.data.toList hbl
                  rw [Hid, show (T ++ x).data.toList = S.data.toList ++ (bl ++ x.data.toList) by simp [HT.out], runes_append _ _ HW.out, q1, List.length_append, List.length_append, q4, HLE.out]
                  omega
                have HSZ : Hid ((T ++ x).size ≤ 64 * (k + 1)) := by rw [Hid, ByteArray.size_append, HTZ.out]; omega
                have C5 := fun W (h : Ok w W) => refRunes_any x W (by omega) h.2
                generalize (runes S.data.toList).length = p at *
                generalize runes x.data.toList = rx at *
                have D5 : Hid (∀ W, Ok w W → _) := C5
                clear C5 HT HLE hbl
                go_wp2_with (at_builtin; refine wpList_append_own _ rfl _ _ 22 rfl w.heap.size 37 i0 (.agg #[.string ⟨#[]⟩, .int .i64 0]) 2 24 Tryd.underlying22 hi hz0 hz1 hz2 rfl (by decide) _ _ _ rfl (hown3.alloc _) ⟨wr.heap.size, 0, none⟩ 1 1 [.string x, .int .i64 ((p : Int) + j)] rfl rfl (cell_two_new _ _ _ _) (two_one _ _) (by unfold maxLen; omega) (by omega) (by have := o3.1.size; simp; omega) ?_)
                intro v' w4 hown4 hgrow _
                have o4 : Ok w w4 := by
                  have hbl4 : Below w.heap.size w w4 := (o3.1.alloc o3.1.size _).grown hgrow (by have := o3.1.size; simp; omega) (fun k hk => (hown3.lt k hk).1)
                  exact ⟨hbl4, tabs_below o0.2 hbl4⟩
                have d4 := (o4.1.cell (p := ⟨b, off + k, none⟩) (World.block_lt_of_cell? w _ HX.out)).trans HX.out
                clear hown3 hgrow o3 d1 d2
                go_wp2_with fail
                refine (D5.out _ o4).mono ?_
                rintro e w5 ⟨v5, rfl, hown5, hb5⟩
                obtain ⟨o6, c6, rfl, _⟩ := hasRunes_of_owns hown5
                have o5 := o4.step hb5
                have hown6 := owns_below hown4 hb5
                clear hown4 hown5 hb5
                go_wp2
                go_roundg (nl - (k + 1))
                case rel => exact ⟨k + 1, T ++ x, by omega, rfl, by go_num, rfl, by rw [HRL.out]; go_num, by rw [HWL.out, wordCells_snoc, List.length_append]; exact hown6, HWW.out, HSZ.out, by rw [HWL.out, List.length_append]; simp; omega, o5⟩
                case measure => omega
      · have hx' : 60 < x.size := by omega
        go_wp2
        go_ret
        exact ⟨rfl, o1.1⟩
    · have hkn : k = nl := by omega
      have hws : hasWords wr u7 (wordsL S) := hasWords_of_owns hown
      have C1 := fun W => words_whole (S ++ ⟨#[32]⟩) (wordsL S) W (by rw [ByteArray.size_append]; show S.size + 1 ≤ _; omega) (by
        rw [show (S ++ ⟨#[32]⟩ : ByteArray).data.toList = S.data.toList ++ [32] by simp]
        exact whole_append HW.out (by decide +kernel)) (words_tail (S ++ ⟨#[32]⟩) S [32] (by simp) HW.out (by decide))
      have C2 := fun W => width_any S W (by unfold maxLen; omega)
      have D1 : Hid (∀ W, _) := C1
      have D2 : Hid (∀ W, _) := C2
      have hS2 : S.size ≤ 2000 := by omega
      clear C1 C2 hS hI hown hkn
      generalize wordsL S = ws at *
      generalize (runes S.data.toList).length = p at *
      go_wp2_with fail
      refine (D1.out _).mono ?_
      rintro e w2 ⟨v, rfl, hw2, hb2⟩
      have o2 := o1.step hb2
      have hws2 := hasWords_below hws hb2
      clear hb2 hws
      go_wp2_with fail
      refine (same_any v u7 _ _ _ (by omega) hw2 hws2).mono ?_
      rintro e w3 ⟨rfl, q, rfl⟩
      rw [decide_eq_true (rfl : ws = ws)]
      have o3 := o2.drewN q
      generalize w2.drewN q = w3 at *
      clear hw2 hws2
      go_wp2_with fail
      refine (D2.out _).mono ?_
      rintro e w4 ⟨rfl, hb4⟩
      have o4 := o3.step hb4
      clear hb4
      go_wp2_with fail
      refine (known_any _).mono ?_
      rintro e w5 ⟨rfl, hb5⟩
      go_wp2
      go_ret
      exact ⟨rfl, (o4.step hb5).1⟩

set_option maxHeartbeats 1000000 in
theorem walk (w : World) (oa : Option Addr) (nl ca : Nat) (ls : List ByteArray) (e0 : ls.length = nl) (m0 : nl ≤ maxLen) (hS : hasStrs w oa ls)
    (ob : Option Addr) (ng cb : Nat) (gs : List Int) (e1 : gs.length = ng) (m1 : ng ≤ maxLen) (hI : hasInts w ob gs) (hT : Lib.Utf8Tabs 0 1 w) :
    Calls Tryd.prog 4 #[.slice oa nl ca, .slice ob ng cb] w fun e w' => e = .returned (.bool true) ∧ Below w.heap.size w w' := by
  unfold maxLen at m0 m1
  by_cases h : nl ≤ 30 ∧ nl ≤ ng
  · exact walk_in oa ob ls gs nl ng ca cb w h.1 h.2 (by omega) e0 e1 hS hI hT
  · clear hS hI hT e0 e1
    by_cases h1 : 30 < nl
    · go_enter Tryd.func4, Tryd.ntmps4
      go_wp2
      go_ret
      exact ⟨rfl, Below.refl _ _⟩
    · have h2 : ng < nl := by omega
      go_enter Tryd.func4, Tryd.ntmps4
      go_wp2
      go_ret
      exact ⟨rfl, Below.refl _ _⟩

/-- The address of a row one cell of which is there. -/
theorem addr_plain {W : World} {x : Addr} {v : Value} (h : W.cell? (x.add 0) = some v) : ∃ b off, x = ⟨b, off, none⟩ := by
  obtain ⟨b, off, spot⟩ := x
  have hs : spot = none := by simpa [Addr.add] using World.cell?_spot h
  subst hs
  exact ⟨b, off, rfl⟩
theorem addr_at (b off j : Nat) : (⟨b, off, none⟩ : Addr).add j = ⟨b, off + j, none⟩ := by unfold Addr.add; split <;> simp_all
theorem strs_of {W : World} {x : Addr} {len : Nat} {ss : List ByteArray} (hl : len ≤ ss.length) (hcell : ∀ i, i < ss.length → W.cell? (x.add i) = some (.string (ss.getD i ByteArray.empty))) : (ss.take len).length = len ∧ hasStrs W (some x) (ss.take len) := by
  refine ⟨by rw [List.length_take]; omega, fun j y hj => ?_⟩
  obtain ⟨h1, h2⟩ := List.getElem?_eq_some_iff.1 hj
  rw [List.length_take] at h1
  obtain ⟨b, off, rfl⟩ := addr_plain (hcell 0 (by omega))
  refine ⟨b, off, rfl, ?_⟩
  have := hcell j (by omega)
  rw [addr_at] at this
  rw [this, ← h2, List.getElem_take, List.getD_eq_getElem?_getD, List.getElem?_eq_getElem (by omega)]
  rfl
theorem ints_of {W : World} {x : Addr} {len : Nat} {ss : List Int} (hl : len ≤ ss.length) (hcell : ∀ i, i < ss.length → W.cell? (x.add i) = some (.int .i64 (ss.getD i 0))) : (ss.take len).length = len ∧ hasInts W (some x) (ss.take len) := by
  refine ⟨by rw [List.length_take]; omega, fun j y hj => ?_⟩
  obtain ⟨h1, h2⟩ := List.getElem?_eq_some_iff.1 hj
  rw [List.length_take] at h1
  obtain ⟨b, off, rfl⟩ := addr_plain (hcell 0 (by omega))
  refine ⟨b, off, rfl, ?_⟩
  have := hcell j (by omega)
  rw [addr_at] at this
  rw [this, ← h2, List.getElem_take, List.getD_eq_getElem?_getD, List.getElem?_eq_getElem (by omega)]
  rfl

theorem laidOut : laidOutB Tryd.prog = true := by kernel_rfl

theorem own : ownKnob Tryd.prog.godebug = none := by kernel_rfl
theorem u8x : U8Extra Tryd.prog Tryd.lays260_ren := ⟨by kernel_rfl, by kernel_rfl, by kernel_rfl, by kernel_rfl, by kernel_rfl, by kernel_rfl, by kernel_rfl⟩
theorem accept_eq : (Rows.laid_unicode_utf8_acceptRanges : DataW Unit) = Lib.acceptData := by kernel_rfl
theorem first_eq : Rows.laid_unicode_utf8_first = Lib.firstData := Pinned.utf8First_eq
theorem tabs_of {W : World} (hL : laidMet Tryd.prog Rows.glyphWordsRow.laid W) : Lib.Utf8Tabs 0 1 W :=
  utf8Tabs_of_readsT (U8Types.of260 Tryd.lays260) u8x (first_eq ▸ Lib.laidMet.reads hL (.tail _ (.head _))) (accept_eq ▸ Lib.laidMet.reads hL (.head _))

set_option maxRecDepth 100000 in
theorem lifted (os : Os) (started : os.Started) (H : Type) (enc : TypeId × Value → H) :
    ReturnsInHanded {} Tryd.checked os 4 .any (fun w args => (Rows.glyphWordsSpec.pre enc Tryd.prog Tryd.f4 [] false w args ∧ laidMetH Tryd.prog Rows.glyphWordsRow.laid w) ∧ sizedMet enc Tryd.prog Tryd.f4 (OpenSpec.ofChange Rows.glyphWordsSpec) false w args)
      (Rows.glyphWordsSpec.post enc Tryd.prog Tryd.f4 false true false false) := by
  refine returnsInHanded_of_change_and (C := Tryd.checked) (X := fun w _ => laidMetH Tryd.prog Rows.glyphWordsRow.laid w) (fun _ _ _ hh h => h.of_heap hh) own started (by kernel_rfl) Tryd.func4
    (ChangeSpec.witness_shaped (enc := enc) (C := Tryd.checked) (os := os) (X := fun w _ => laidMetH Tryd.prog Rows.glyphWordsRow.laid w) false (World.laidAll Tryd.prog os Rows.glyphWordsRow.laid) #[.slice none 0 0, .slice none 0 0] 8 (World.laidAll_os _ _ _)
      (World.shaped_of_ZipB (by kernel_rfl) (by kernel_rfl)) (by kernel_rfl) (by kernel_rfl) (by kernel_rfl)
      (by rw [MakeChecks.laidMetH_plain _ _ _ (by kernel_rfl)]; exact laidMet_laidAll _ (by kernel_rfl) (by kernel_rfl))) ?_
  intro W base args ds gs before hval0 hW _ hsz0 hL _
  have hval : ∀ (j : Nat) t v, Tryd.f4.params[j]? = some t → args[j]? = some v → Value.okWide Tryd.prog W .any base t v := hval0
  have hsz : (DataW.weightsEach Tryd.prog (Tryd.f4.params.toList ++ Rows.glyphWordsSpec.plain.varTypes Tryd.prog) (ds ++ gs)).all (· ≤ reachBytes) = true := hsz0
  have hW' := hW
  obtain ⟨p, q, hA0, hV, rfl, _, _⟩ := hW
  have hA : DataW.TrodAll enc Tryd.prog W 0 (fun _ => true) true Tryd.f4.params.toList args.toList ds p := hA0
  rw [Tryd.params4] at hA hval hsz
  obtain ⟨v0, vs0, d0, ds0, p0, q0, hargs, rfl, rfl, h0, r0⟩ := trodAll_cons hA
  obtain ⟨v1, vs1, d1, ds1, p1, q1, rfl, rfl, rfl, h1, r1⟩ := trodAll_cons r0
  obtain ⟨rfl, rfl, rfl⟩ := trodAll_nil r1
  obtain rfl : args = #[v0, v1] := by cases args; simp_all
  obtain ⟨rfl, rfl⟩ := trodVars_none hV
  obtain ⟨a0, len0, cap0, rfl⟩ := okWide_slice Tryd.underlying33 (hval 0 33 v0 rfl rfl)
  have k0 := h0
  have lt0 : ∀ x ∈ p0, x.block < W.heap.size := by obtain ⟨m, hm⟩ := k0; exact DataW.trod_lt m _ _ _ hm
  obtain ⟨z0, e0, m0, s0⟩ : ∃ l : List ByteArray, l.length = len0 ∧ len0 ≤ maxLen ∧ hasStrs W a0 l := by
    obtain ⟨fuel, hf⟩ := h0
    rcases open_strings Tryd.underlying33 Tryd.underlying9 (by kernel_rfl) hf with ⟨hcs, _⟩ | ⟨x, l, c, ss, hcs, _, hl, hm, hz, _, hcell, _⟩
    · simp [Value.cells] at hcs
      obtain ⟨rfl, rfl, rfl⟩ := hcs
      exact ⟨[], rfl, by unfold maxLen; omega, fun j x hj => by simp at hj⟩
    · simp [Value.cells] at hcs
      obtain ⟨rfl, rfl, rfl⟩ := hcs
      have hz' : ss.length = cap0 := by simpa using hz
      have q := strs_of (len := len0) (by omega) hcell
      exact ⟨ss.take len0, q.1, by omega, q.2⟩
  obtain ⟨a1, len1, cap1, rfl⟩ := okWide_slice Tryd.underlying34 (hval 1 34 v1 rfl rfl)
  have k1 := h1
  have lt1 : ∀ x ∈ p1, x.block < W.heap.size := by obtain ⟨m, hm⟩ := k1; exact DataW.trod_lt m _ _ _ hm
  obtain ⟨z1, e1, m1, s1⟩ : ∃ l : List Int, l.length = len1 ∧ len1 ≤ maxLen ∧ hasInts W a1 l := by
    obtain ⟨fuel, hf⟩ := h1
    rcases open_ints Tryd.underlying34 Tryd.underlying3 (by kernel_rfl) hf with ⟨hcs, _⟩ | ⟨x, l, c, ss, hcs, _, hl, hm, hz, _, hcell, _⟩
    · simp [Value.cells] at hcs
      obtain ⟨rfl, rfl, rfl⟩ := hcs
      exact ⟨[], rfl, by unfold maxLen; omega, fun j x hj => by simp at hj⟩
    · simp [Value.cells] at hcs
      obtain ⟨rfl, rfl, rfl⟩ := hcs
      have hz' : ss.length = cap1 := by simpa using hz
      have q := ints_of (len := len1) (by omega) hcell
      exact ⟨ss.take len1, q.1, by omega, q.2⟩
  clear hA0 hval0
  rw [MakeChecks.laidMetH_plain _ _ _ (by kernel_rfl)] at hL
  refine (walk W a0 len0 cap0 z0 e0 m0 s0 a1 len1 cap1 z1 e1 m1 s1 (tabs_of hL)).mono fun e W' ⟨he, bel⟩ => ?_
  subst he
  exact ⟨_, rfl, _, _, _, [], _, [], hW', trodAll_mk1 (shut_bool Tryd.underlying4 _), (trodAll_cons_mk (Below.trod laidOut (by kernel_rfl) (of_decide_eq_true (by kernel_rfl)) k0 bel lt0) (trodAll_cons_mk (Below.trod laidOut (by kernel_rfl) (of_decide_eq_true (by kernel_rfl)) k1 bel lt1) trodAll_mk0)), rfl, bel.frame _, fun h => by cases h⟩

theorem over : Rows.glyphWordsRow.holds Tryd.pinned (OpenSpec.ofChange Rows.glyphWordsSpec) :=
  OpenClaim.holds_of_wide 4 Tryd.f4 rfl rfl rfl rfl rfl rfl rfl ⟨rfl, rfl, rfl, rfl, rfl⟩ rfl rfl rfl rfl rfl (by kernel_rfl) Tryd.func4 (by kernel_rfl)
    (of_decide_eq_true (by kernel_rfl)) (by unfold Func.isWrapper; first | (rw [if_pos (by decide +kernel)]; kernel_rfl) | (rw [if_neg (by decide +kernel)]; exact ⟨rfl, rfl⟩))
    (fun os started H enc _ => lifted os started H enc)

theorem card : Rows.GlyphWordsCardSaid :=
  Claim7.holds_tied_plain_at .later [] _ _ _ _ over (fun _ h => by cases h) (by kernel_rfl) (fun _ h => by cases h) glyphWords_row_tie rfl ⟨rfl, rfl⟩ (by kernel_rfl) rfl
    (fun f fn hf hfn => by
      obtain rfl : f = 4 := Option.some.inj ((show Tryd.prog.funcNamed Rows.glyphWordsRow.func = some 4 by kernel_rfl).symm.trans hf) |>.symm
      obtain rfl : fn = Tryd.f4 := (Option.some.inj (Tryd.func4.symm.trans hfn)).symm
      exact ⟨by kernel_rfl, fun j t ht => by
        rw [Tryd.params4] at ht
        have hm : t ∈ [33, 34] := by simpa using Array.mem_of_getElem? ht
        have hall : ([33, 34].all fun u => !Tryd.prog.wantsStandIn u) = true := by kernel_rfl
        exact (show Tryd.prog.wantsStandIn t = false by simpa using List.all_eq_true.1 hall t hm)⟩)
    (by kernel_rfl)


end Go.Proofs.YtnnhnjccicfdlaaDoor.glyphWords
namespace Go.Proofs.YtnnhnjccicfdlaaDoor
theorem glyphWords_holds : Rows.GlyphWordsCardSaid := glyphWords.card
#print axioms glyphWords_holds
end Go.Proofs.YtnnhnjccicfdlaaDoor
