/-
  Of any two texts: GlyphTells returns true. The tables of unicode/utf8 are as the program's text lays them (the tied card); no other condition.
-/
import Derived.Test.YtnnhnjccicfdlaaDoorRows
import Derived.Test.YtnnhnjccicfdlaaDoorCards
import Derived.Test.YtnnhnjccicfdlaaDoorTie
import Derived.Test.YtnnhnjccicfdlaaDoorRefWords
import Derived.Test.YtnnhnjccicfdlaaDoorRefCmp
import Derived.WalkKit
import Derived.ProofKit
import Derived.OpenShut
import Derived.ShutString
import Derived.ChangeOld
import Derived.Below
import Derived.SizedLaws
import Derived.PinnedBridge
import Derived.Lib.LaidU8T
import Derived.Lay
import Derived.LaidOnce
import Derived.SevenTiedAt
namespace Go.Proofs.YtnnhnjccicfdlaaDoor.glyphTells
open Go.ChangeShapes Go.WideShapes Go.ChangeAt Go.RowKit
open Go.ChangeMaps (open_string shut_string)

set_option maxRecDepth 1000000 in
set_option maxHeartbeats 4000000 in
theorem walk_in (s t : ByteArray) (w : World) (hs : s.size ≤ 500) (ht : t.size ≤ 500) (hT : Lib.Utf8Tabs 0 1 w) :
    Calls Tryd.prog 3 #[.string s, .string t] w fun e w' => e = .returned (.bool true) ∧ Below w.heap.size w w' := by
  have HT : Hid (Lib.Utf8Tabs 0 1 w) := hT
  clear hT
  have hlw := wordsR_length s
  go_enter Tryd.func3, Tryd.ntmps3
  go_wp2_with fail
  refine (words_r s _ (by omega)).mono ?_
  rintro e w1 ⟨v, rfl, hw1, hb1⟩
  have T1 : Hid (Lib.Utf8Tabs 0 1 w1) := tabs_below HT.out hb1
  go_wp2_with fail
  refine (refWords_r s _ (by omega) T1.out).mono ?_
  rintro e w2 ⟨v', rfl, hw2, hb2⟩
  have T2 : Hid (Lib.Utf8Tabs 0 1 w2) := tabs_below T1.out hb2
  have bl2 : Below w.heap.size w w2 := hb1.trans (hb2.mono hb1.size)
  go_wp2_with fail
  refine (same_any v v' _ _ _ (by omega) (hasWords_below hw1 hb2) hw2).mono ?_
  rintro e w3 ⟨rfl, n, rfl⟩
  rw [decide_eq_true (rfl : (wordsR s).1 = (wordsR s).1)]
  have T3 : Hid (Lib.Utf8Tabs 0 1 (w2.drewN n)) := T2.out
  have bl3 : Below w.heap.size w (w2.drewN n) := _root_.Go.below_drewN bl2 n
  generalize w2.drewN n = w3 at *
  clear hw1 hw2 hb1 hb2 T1 T2 bl2
  go_wp2_with fail
  refine (width_any s _ (by unfold maxLen; omega)).mono ?_
  rintro e w4 ⟨rfl, hb4⟩
  have T4 : Hid (Lib.Utf8Tabs 0 1 w4) := tabs_below T3.out hb4
  have bl4 : Below w.heap.size w w4 := bl3.trans (hb4.mono bl3.size)
  clear T3 bl3 hb4
  go_wp2_with fail
  refine (refRunes_any s _ (by omega) T4.out).mono ?_
  rintro e w5 ⟨v5, rfl, hown5, hb5⟩
  obtain ⟨oa, cap, rfl, _⟩ := hasRunes_of_owns hown5
  have T5 : Hid (Lib.Utf8Tabs 0 1 w5) := tabs_below T4.out hb5
  have bl5 : Below w.heap.size w w5 := bl4.trans (hb5.mono bl4.size)
  clear T4 bl4 hb5 hown5
  go_wp2_with fail
  refine (isName_any s _).mono ?_
  rintro e w6 ⟨rfl, hb6⟩
  have T6 : Hid (Lib.Utf8Tabs 0 1 w6) := tabs_below T5.out hb6
  have bl6 : Below w.heap.size w w6 := bl5.trans (hb6.mono bl5.size)
  clear T5 bl5 hb6
  go_wp2_with fail
  refine (refName_any s _ (by omega) T6.out).mono ?_
  rintro e w7 ⟨rfl, hb7⟩
  have T7 : Hid (Lib.Utf8Tabs 0 1 w7) := tabs_below T6.out hb7
  have bl7 : Below w.heap.size w w7 := bl6.trans (hb7.mono bl6.size)
  clear T6 bl6 hb7
  go_wp2_with fail
  refine (cmp_any s t _ T7.out).mono ?_
  rintro e w8 ⟨rfl, hb8⟩
  have T8 : Hid (Lib.Utf8Tabs 0 1 w8) := tabs_below T7.out hb8
  have bl8 : Below w.heap.size w w8 := bl7.trans (hb8.mono bl7.size)
  clear T7 bl7 hb8
  go_wp2_with fail
  refine (refCmp_any s t _ (by omega) (by omega) T8.out).mono ?_
  rintro e w9 ⟨rfl, hb9⟩
  have bl9 : Below w.heap.size w w9 := bl8.trans (hb9.mono bl8.size)
  clear T8 bl8 hb9
  go_wp2_with fail
  refine (known_any _).mono ?_
  rintro e w10 ⟨rfl, hb10⟩
  go_wp2
  go_ret
  exact ⟨rfl, bl9.trans (hb10.mono bl9.size)⟩

theorem walk (s t : ByteArray) (_ : s.size ≤ 140737488351232) (_ : t.size ≤ 140737488351232) (w : World) (hT : Lib.Utf8Tabs 0 1 w) :
    Calls Tryd.prog 3 #[.string s, .string t] w fun e w' => e = .returned (.bool true) ∧ Below w.heap.size w w' := by
  by_cases h : s.size ≤ 500 ∧ t.size ≤ 500
  · exact walk_in s t w h.1 h.2 hT
  · clear hT
    by_cases h1 : 500 < s.size
    · go_enter Tryd.func3, Tryd.ntmps3
      go_wp2
      go_ret
      exact ⟨rfl, Below.refl _ _⟩
    · have h2 : 500 < t.size := by omega
      go_enter Tryd.func3, Tryd.ntmps3
      go_wp2
      go_ret
      exact ⟨rfl, Below.refl _ _⟩

theorem own : ownKnob Tryd.prog.godebug = none := by kernel_rfl
theorem u8x : U8Extra Tryd.prog Tryd.lays260_ren := ⟨by kernel_rfl, by kernel_rfl, by kernel_rfl, by kernel_rfl, by kernel_rfl, by kernel_rfl, by kernel_rfl⟩
theorem accept_eq : (Rows.laid_unicode_utf8_acceptRanges : DataW Unit) = Lib.acceptData := by kernel_rfl
theorem first_eq : Rows.laid_unicode_utf8_first = Lib.firstData := Pinned.utf8First_eq
theorem tabs_of {W : World} (hL : laidMet Tryd.prog Rows.glyphTellsRow.laid W) : Lib.Utf8Tabs 0 1 W :=
  utf8Tabs_of_readsT (U8Types.of260 Tryd.lays260) u8x (first_eq ▸ Lib.laidMet.reads hL (.tail _ (.head _))) (accept_eq ▸ Lib.laidMet.reads hL (.head _))

set_option maxRecDepth 100000 in
theorem lifted (os : Os) (started : os.Started) (H : Type) (enc : TypeId × Value → H) :
    ReturnsInHanded {} Tryd.checked os 3 .any (fun w args => (Rows.glyphTellsSpec.pre enc Tryd.prog Tryd.f3 [] false w args ∧ laidMetH Tryd.prog Rows.glyphTellsRow.laid w) ∧ sizedMet enc Tryd.prog Tryd.f3 (OpenSpec.ofChange Rows.glyphTellsSpec) false w args)
      (Rows.glyphTellsSpec.post enc Tryd.prog Tryd.f3 false true false false) := by
  refine returnsInHanded_of_change_and (C := Tryd.checked) (X := fun w _ => laidMetH Tryd.prog Rows.glyphTellsRow.laid w) (fun _ _ _ hh h => h.of_heap hh) own started (by kernel_rfl) Tryd.func3
    (ChangeSpec.witness_shaped (enc := enc) (C := Tryd.checked) (os := os) (X := fun w _ => laidMetH Tryd.prog Rows.glyphTellsRow.laid w) false (World.laidAll Tryd.prog os Rows.glyphTellsRow.laid) #[.string ByteArray.empty, .string ByteArray.empty] 8 (World.laidAll_os _ _ _)
      (World.shaped_of_ZipB (by kernel_rfl) (by kernel_rfl)) (by kernel_rfl) (by kernel_rfl) (by kernel_rfl)
      (by rw [MakeChecks.laidMetH_plain _ _ _ (by kernel_rfl)]; exact laidMet_laidAll _ (by kernel_rfl) (by kernel_rfl))) ?_
  intro W base args ds gs before hval0 hW _ hsz0 hL _
  have hval : ∀ (j : Nat) t v, Tryd.f3.params[j]? = some t → args[j]? = some v → Value.okWide Tryd.prog W .any base t v := hval0
  have hsz : (DataW.weightsEach Tryd.prog (Tryd.f3.params.toList ++ Rows.glyphTellsSpec.plain.varTypes Tryd.prog) (ds ++ gs)).all (· ≤ reachBytes) = true := hsz0
  have hW' := hW
  obtain ⟨p, q, hA0, hV, rfl, _, _⟩ := hW
  have hA : DataW.TrodAll enc Tryd.prog W 0 (fun _ => true) true Tryd.f3.params.toList args.toList ds p := hA0
  rw [Tryd.params3] at hA hval hsz
  obtain ⟨v0, vs0, d0, ds0, p0, q0, hargs, rfl, rfl, h0, r0⟩ := trodAll_cons hA
  obtain ⟨v1, vs1, d1, ds1, p1, q1, rfl, rfl, rfl, h1, r1⟩ := trodAll_cons r0
  obtain ⟨rfl, rfl, rfl⟩ := trodAll_nil r1
  obtain rfl : args = #[v0, v1] := by cases args; simp_all
  obtain ⟨rfl, rfl⟩ := trodVars_none hV
  obtain ⟨a0, rfl, rfl, rfl, w0⟩ := open_string Tryd.underlying9 (hval 0 9 v0 rfl rfl) h0
  obtain ⟨a1, rfl, rfl, rfl, w1⟩ := open_string Tryd.underlying9 (hval 1 9 v1 rfl rfl) h1
  have z0 : a0.size ≤ 140737488351232 := by
    have := sized_string hsz (j := 0) (t := 9) rfl rfl
    rw [← Lib.size_eq] at this
    simpa [reachBytes] using this
  have z1 : a1.size ≤ 140737488351232 := by
    have := sized_string hsz (j := 1) (t := 9) rfl rfl
    rw [← Lib.size_eq] at this
    simpa [reachBytes] using this
  clear hA0 hval0
  rw [MakeChecks.laidMetH_plain _ _ _ (by kernel_rfl)] at hL
  refine (walk a0 a1 z0 z1 W (tabs_of hL)).mono fun e W' ⟨he, bel⟩ => ?_
  subst he
  exact ⟨_, rfl, _, _, _, [], _, [], hW', trodAll_mk1 (shut_bool Tryd.underlying4 _), (trodAll_cons_mk (shut_string Tryd.underlying9 w0) (trodAll_cons_mk (shut_string Tryd.underlying9 w1) trodAll_mk0)), rfl, bel.frame _, fun h => by cases h⟩

theorem over : Rows.glyphTellsRow.holds Tryd.pinned (OpenSpec.ofChange Rows.glyphTellsSpec) :=
  OpenClaim.holds_of_wide 3 Tryd.f3 rfl rfl rfl rfl rfl rfl rfl ⟨rfl, rfl, rfl, rfl, rfl⟩ rfl rfl rfl rfl rfl (by kernel_rfl) Tryd.func3 (by kernel_rfl)
    (of_decide_eq_true (by kernel_rfl)) (by unfold Func.isWrapper; first | (rw [if_pos (by decide +kernel)]; kernel_rfl) | (rw [if_neg (by decide +kernel)]; exact ⟨rfl, rfl⟩))
    (fun os started H enc _ => lifted os started H enc)

theorem card : Rows.GlyphTellsCardSaid :=
  Claim7.holds_tied_plain_at .later [] _ _ _ _ over (fun _ h => by cases h) (by kernel_rfl) (fun _ h => by cases h) glyphTells_row_tie rfl ⟨rfl, rfl⟩ (by kernel_rfl) rfl
    (fun f fn hf hfn => by
      obtain rfl : f = 3 := Option.some.inj ((show Tryd.prog.funcNamed Rows.glyphTellsRow.func = some 3 by kernel_rfl).symm.trans hf) |>.symm
      obtain rfl : fn = Tryd.f3 := (Option.some.inj (Tryd.func3.symm.trans hfn)).symm
      exact ⟨by kernel_rfl, fun j t ht => by
        rw [Tryd.params3] at ht
        have hm : t ∈ [9, 9] := by simpa using Array.mem_of_getElem? ht
        have hall : ([9, 9].all fun u => !Tryd.prog.wantsStandIn u) = true := by kernel_rfl
        exact (show Tryd.prog.wantsStandIn t = false by simpa using List.all_eq_true.1 hall t hm)⟩)
    (by kernel_rfl)


end Go.Proofs.YtnnhnjccicfdlaaDoor.glyphTells
namespace Go.Proofs.YtnnhnjccicfdlaaDoor
theorem glyphTells_holds : Rows.GlyphTellsCardSaid := glyphTells.card
#print axioms glyphTells_holds
end Go.Proofs.YtnnhnjccicfdlaaDoor
