/-
  Of any two texts: GlyphBytes returns true. The tables of unicode/utf8 are as the program's text lays them (the tied card); no other condition.
-/
import Derived.Test.YtnnhnjccicfdlabDoorRows
import Derived.Test.YtnnhnjccicfdlabDoorCards
import Derived.Test.YtnnhnjccicfdlabDoorTie
import Derived.Test.YtnnhnjccicfdlabDoorBytes
import Derived.WalkKit
import Derived.ProofKit
import Derived.OpenShut
import Derived.ShutString
import Derived.ChangeOld
import Derived.Below
import Derived.SizedLaws
import Derived.PinnedBridge
import Derived.Lib.LaidU8T
import Derived.Lay
import Derived.LaidOnce
import Derived.SevenTiedAt
import Derived.Deep.DeepHandedRow
namespace Go.Proofs.YtnnhnjccicfdlabDoor.glyphBytes
open Go.ChangeShapes Go.WideShapes Go.ChangeAt Go.RowKit
open Go.ChangeMaps (open_string shut_string)

set_option maxRecDepth 1000000 in
set_option maxHeartbeats 8000000 in
theorem walk_in (a b : ByteArray) (w : World) (ha : a.size ≤ 300) (hb : b.size ≤ 300) (hT : Lib.Utf8Tabs 0 1 w) :
    Calls Tryd.prog 4 #[.string a, .string b] w fun e w' => e = .returned (.bool true) ∧ Below w.heap.size w w' := by
  have o0 := Ok.start hT
  clear hT
  have C1 := fun W (h : Ok w W) => whole_any a W (by omega) h.2
  have C2 := fun W (h : Ok w W) => whole_any b W (by omega) h.2
  have C3 := fun W (h : Ok w W) => cmp_any a b W h.2
  cases h1 : wholeB a.data.toList
  · rw [h1] at C1
    go_enter Tryd.func4, Tryd.ntmps4
    go_wp2_with fail
    refine (C1 _ o0).mono ?_
    rintro e w1 ⟨rfl, hb1⟩
    go_wp2
    go_ret
    exact ⟨rfl, hb1⟩
  · rw [h1] at C1
    cases h2 : wholeB b.data.toList
    · rw [h2] at C2
      go_enter Tryd.func4, Tryd.ntmps4
      go_wp2_with fail
      refine (C1 _ o0).mono ?_
      rintro e w1 ⟨rfl, hb1⟩
      have o1 := o0.step hb1
      clear hb1
      go_wp2_with fail
      refine (C2 _ o1).mono ?_
      rintro e w2 ⟨rfl, hb2⟩
      go_wp2
      go_ret
      exact ⟨rfl, (o1.step hb2).1⟩
    · rw [h2] at C2
      obtain ⟨q1, q2⟩ := bytes_order _ a.data.toList b.data.toList (Nat.le_refl _) h1 h2
      have r1 : -1 ≤ cmpS a.data.toList b.data.toList ∧ cmpS a.data.toList b.data.toList ≤ 1 := cmpF_range _ _
      have e1 : Op.bytesLess a.toList b.toList = decide (cmpS a.data.toList b.data.toList < 0) := by rw [Lib.toList_data, Lib.toList_data]; exact q1
      have e2 : (a.toList == b.toList) = decide (cmpS a.data.toList b.data.toList = 0) := by
        rw [Lib.toList_data, Lib.toList_data, Bool.eq_iff_iff]
        simp only [beq_iff_eq, decide_eq_true_eq]
        exact q2
      clear q1 q2
      generalize cmpS a.data.toList b.data.toList = X at *
      have D1 : Hid (∀ W, Ok w W → _) := C1
      have D2 : Hid (∀ W, Ok w W → _) := C2
      have D3 : Hid (∀ W, Ok w W → _) := C3
      clear C1 C2 C3 h1 h2
      rcases (show X = -1 ∨ X = 0 ∨ X = 1 by omega) with rfl | rfl | rfl
      all_goals
        simp only [Int.reduceNeg, Int.reduceLT, Int.reduceEq, decide_true, decide_false] at e1 e2
        go_enter Tryd.func4, Tryd.ntmps4
        go_wp2_with fail
        refine (D1.out _ o0).mono ?_
        rintro e w1 ⟨rfl, hb1⟩
        have o1 := o0.step hb1
        clear hb1
        go_wp2_with fail
        refine (D2.out _ o1).mono ?_
        rintro e w2 ⟨rfl, hb2⟩
        have o2 := o1.step hb2
        clear hb2
        go_wp2_with fail
        refine (D3.out _ o2).mono ?_
        rintro e w3 ⟨rfl, hb3⟩
        have o3 := o2.step hb3
        clear hb3
        go_wp2_with fail
        refine (D3.out _ o3).mono ?_
        rintro e w4 ⟨rfl, hb4⟩
        have o4 := o3.step hb4
        clear hb4
        go_wp2_with fail
        refine (known_any _).mono ?_
        rintro e w6 ⟨rfl, hb6⟩
        go_wp2
        go_ret
        exact ⟨rfl, (o4.step hb6).1⟩

set_option maxHeartbeats 1000000 in
theorem walk (a b : ByteArray) (_ : a.size ≤ 140737488351232) (_ : b.size ≤ 140737488351232) (w : World) (hT : Lib.Utf8Tabs 0 1 w) :
    Calls Tryd.prog 4 #[.string a, .string b] w fun e w' => e = .returned (.bool true) ∧ Below w.heap.size w w' := by
  by_cases h : a.size ≤ 300 ∧ b.size ≤ 300
  · exact walk_in a b w h.1 h.2 hT
  · clear hT
    by_cases h1 : 300 < a.size
    · go_enter Tryd.func4, Tryd.ntmps4
      go_wp2
      go_ret
      exact ⟨rfl, Below.refl _ _⟩
    · have h2 : 300 < b.size := by omega
      go_enter Tryd.func4, Tryd.ntmps4
      go_wp2
      go_ret
      exact ⟨rfl, Below.refl _ _⟩

theorem own : ownKnob Tryd.prog.godebug = none := by kernel_rfl
theorem u8x : U8Extra Tryd.prog Tryd.lays260_ren := ⟨by kernel_rfl, by kernel_rfl, by kernel_rfl, by kernel_rfl, by kernel_rfl, by kernel_rfl, by kernel_rfl⟩
theorem accept_eq : (Rows.laid_unicode_utf8_acceptRanges : DataW Unit) = Lib.acceptData := by kernel_rfl
theorem first_eq : Rows.laid_unicode_utf8_first = Lib.firstData := Pinned.utf8First_eq
theorem tabs_of {W : World} (hL : laidMet Tryd.prog Rows.glyphBytesRow.laid W) : Lib.Utf8Tabs 0 1 W :=
  utf8Tabs_of_readsT (U8Types.of260 Tryd.lays260) u8x (first_eq ▸ Lib.laidMet.reads hL (.tail _ (.head _))) (accept_eq ▸ Lib.laidMet.reads hL (.head _))

set_option maxRecDepth 100000 in
theorem lifted (os : Os) (started : os.Started) (H : Type) (enc : TypeId × Value → H) :
    ReturnsInHanded {} Tryd.checked os 4 .any (fun w args => (Rows.glyphBytesSpec.pre enc Tryd.prog Tryd.f4 [] false w args ∧ laidMetH Tryd.prog Rows.glyphBytesRow.laid w) ∧ sizedMet enc Tryd.prog Tryd.f4 (OpenSpec.ofChange Rows.glyphBytesSpec) false w args)
      (Rows.glyphBytesSpec.post enc Tryd.prog Tryd.f4 false true false false) := by
  refine returnsInHanded_of_change_and (C := Tryd.checked) (X := fun w _ => laidMetH Tryd.prog Rows.glyphBytesRow.laid w) (fun _ _ _ hh h => h.of_heap hh) own started (by kernel_rfl) Tryd.func4
    (ChangeSpec.witness_shaped (enc := enc) (C := Tryd.checked) (os := os) (X := fun w _ => laidMetH Tryd.prog Rows.glyphBytesRow.laid w) false (World.laidAll Tryd.prog os Rows.glyphBytesRow.laid) #[.string ByteArray.empty, .string ByteArray.empty] 8 (World.laidAll_os _ _ _)
      (World.shaped_of_ZipB (by kernel_rfl) (by kernel_rfl)) (by kernel_rfl) (by kernel_rfl) (by kernel_rfl)
      (by rw [MakeChecks.laidMetH_plain _ _ _ (by kernel_rfl)]; exact laidMet_laidAll _ (by kernel_rfl) (by kernel_rfl))) ?_
  intro W base args ds gs before hval0 hW _ hsz0 hL _
  have hval : ∀ (j : Nat) t v, Tryd.f4.params[j]? = some t → args[j]? = some v → Value.okWide Tryd.prog W .any base t v := hval0
  have hsz : (DataW.weightsEach Tryd.prog (Tryd.f4.params.toList ++ Rows.glyphBytesSpec.plain.varTypes Tryd.prog) (ds ++ gs)).all (· ≤ reachBytes) = true := hsz0
  have hW' := hW
  obtain ⟨p, q, hA0, hV, rfl, _, _⟩ := hW
  have hA : DataW.TrodAll enc Tryd.prog W 0 (fun _ => true) true Tryd.f4.params.toList args.toList ds p := hA0
  rw [Tryd.params4] at hA hval hsz
  obtain ⟨v0, vs0, d0, ds0, p0, q0, hargs, rfl, rfl, h0, r0⟩ := trodAll_cons hA
  obtain ⟨v1, vs1, d1, ds1, p1, q1, rfl, rfl, rfl, h1, r1⟩ := trodAll_cons r0
  obtain ⟨rfl, rfl, rfl⟩ := trodAll_nil r1
  obtain rfl : args = #[v0, v1] := by cases args; simp_all
  obtain ⟨rfl, rfl⟩ := trodVars_none hV
  obtain ⟨a0, rfl, rfl, rfl, w0⟩ := open_string Tryd.underlying9 (hval 0 9 v0 rfl rfl) h0
  obtain ⟨a1, rfl, rfl, rfl, w1⟩ := open_string Tryd.underlying9 (hval 1 9 v1 rfl rfl) h1
  have z0 : a0.size ≤ 140737488351232 := by
    have := sized_string hsz (j := 0) (t := 9) rfl rfl
    rw [← Lib.size_eq] at this
    simpa [reachBytes] using this
  have z1 : a1.size ≤ 140737488351232 := by
    have := sized_string hsz (j := 1) (t := 9) rfl rfl
    rw [← Lib.size_eq] at this
    simpa [reachBytes] using this
  clear hA0 hval0
  rw [MakeChecks.laidMetH_plain _ _ _ (by kernel_rfl)] at hL
  refine (walk a0 a1 z0 z1 W (tabs_of hL)).mono fun e W' ⟨he, bel⟩ => ?_
  subst he
  exact ⟨_, rfl, _, _, _, [], _, [], hW', trodAll_mk1 (shut_bool Tryd.underlying4 _), (trodAll_cons_mk (shut_string Tryd.underlying9 w0) (trodAll_cons_mk (shut_string Tryd.underlying9 w1) trodAll_mk0)), rfl, bel.frame _, fun h => by cases h⟩

theorem over : Rows.glyphBytesRow.holds Tryd.pinned (OpenSpec.ofChange Rows.glyphBytesSpec) :=
  OpenClaim.holds_of_wide 4 Tryd.f4 rfl rfl rfl rfl rfl rfl rfl ⟨rfl, rfl, rfl, rfl, rfl⟩ rfl rfl rfl rfl rfl (by kernel_rfl) Tryd.func4 (by kernel_rfl)
    (of_decide_eq_true (by kernel_rfl)) (by unfold Func.isWrapper; first | (rw [if_pos (by decide +kernel)]; kernel_rfl) | (rw [if_neg (by decide +kernel)]; exact ⟨rfl, rfl⟩))
    (fun os started H enc _ => lifted os started H enc)

theorem card : Rows.GlyphBytesCardSaid :=
  Claim7.holds_tied_plain_at .later [] _ _ _ _ over (fun _ h => by cases h) (by kernel_rfl) (fun _ h => by cases h) glyphBytes_row_tie rfl ⟨rfl, rfl⟩ (by kernel_rfl) rfl
    (fun f fn hf hfn => by
      obtain rfl : f = 4 := Option.some.inj ((show Tryd.prog.funcNamed Rows.glyphBytesRow.func = some 4 by kernel_rfl).symm.trans hf) |>.symm
      obtain rfl : fn = Tryd.f4 := (Option.some.inj (Tryd.func4.symm.trans hfn)).symm
      exact ⟨by kernel_rfl, fun j t ht => by
        rw [Tryd.params4] at ht
        have hm : t ∈ [9, 9] := by simpa using Array.mem_of_getElem? ht
        have hall : ([9, 9].all fun u => !Tryd.prog.wantsStandIn u) = true := by kernel_rfl
        exact (show Tryd.prog.wantsStandIn t = false by simpa using List.all_eq_true.1 hall t hm)⟩)
    (by kernel_rfl)


end Go.Proofs.YtnnhnjccicfdlabDoor.glyphBytes
namespace Go.Proofs.YtnnhnjccicfdlabDoor
theorem glyphBytes_holds : Rows.GlyphBytesCardSaid := glyphBytes.card
#print axioms glyphBytes_holds
end Go.Proofs.YtnnhnjccicfdlabDoor
