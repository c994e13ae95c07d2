/-
  Of any three texts: GlyphOrders returns true. The tables of unicode/utf8 are as the program's text lays them (the tied card); no other condition.
-/
import Derived.Test.YtnnhnjccicfdlaaDoorRows
import Derived.Test.YtnnhnjccicfdlaaDoorCards
import Derived.Test.YtnnhnjccicfdlaaDoorTie
import Derived.Test.YtnnhnjccicfdlaaDoorOrder
import Derived.WalkKit
import Derived.ProofKit
import Derived.OpenShut
import Derived.ShutString
import Derived.ChangeOld
import Derived.Below
import Derived.SizedLaws
import Derived.PinnedBridge
import Derived.Lib.LaidU8T
import Derived.Lay
import Derived.LaidOnce
import Derived.SevenTiedAt
namespace Go.Proofs.YtnnhnjccicfdlaaDoor.glyphOrders
open Go.ChangeShapes Go.WideShapes Go.ChangeAt Go.RowKit
open Go.ChangeMaps (open_string shut_string)

theorem more1 (a : ByteArray) : cmpS a.data.toList (a ++ ⟨#[120]⟩).data.toList = -1 := by
  rw [cmpS, show (a ++ ⟨#[120]⟩ : ByteArray).data.toList = a.data.toList ++ [120] by simp, runes_snoc 120 (by decide), cmpF_more]
theorem more2 (a : ByteArray) : cmpS (a ++ ⟨#[120]⟩).data.toList a.data.toList = 1 := by
  have h := more1 a
  rw [cmpS] at *
  rw [cmpF_anti, h]
  rfl

set_option maxRecDepth 1000000 in
set_option maxHeartbeats 8000000 in
theorem walk_in (a b c : ByteArray) (w : World) (hs : a.size + b.size + c.size ≤ 300) (hT : Lib.Utf8Tabs 0 1 w) :
    Calls Tryd.prog 5 #[.string a, .string b, .string c] w fun e w' => e = .returned (.bool true) ∧ Below w.heap.size w w' := by
  have o0 := Ok.start hT
  clear hT
  have ha : a.size ≤ 300 := by omega
  have hb : b.size ≤ 300 := by omega
  have hc : c.size ≤ 300 := by omega
  have C1 := fun W (h : Ok w W) => cmp_any a b W h.2
  have C2 := fun W (h : Ok w W) => cmp_any b c W h.2
  have C3 := fun W (h : Ok w W) => cmp_any a c W h.2
  have C4 := fun W (h : Ok w W) => cmp_any b a W h.2
  have C5 := fun W (h : Ok w W) => cmp_any a a W h.2
  have C6 := fun W (h : Ok w W) => cmp_any a (a ++ ⟨#[120]⟩) W h.2
  have C7 := fun W (h : Ok w W) => cmp_any (a ++ ⟨#[120]⟩) a W h.2
  rw [show cmpS b.data.toList a.data.toList = -cmpS a.data.toList b.data.toList from cmpF_anti _ _] at C4
  rw [show cmpS a.data.toList a.data.toList = 0 from cmpF_self _] at C5
  rw [more1] at C6
  rw [more2] at C7
  have r1 : -1 ≤ cmpS a.data.toList b.data.toList ∧ cmpS a.data.toList b.data.toList ≤ 1 := cmpF_range _ _
  have r2 : -1 ≤ cmpS b.data.toList c.data.toList ∧ cmpS b.data.toList c.data.toList ≤ 1 := cmpF_range _ _
  have r3 : -1 ≤ cmpS a.data.toList c.data.toList ∧ cmpS a.data.toList c.data.toList ≤ 1 := cmpF_range _ _
  have tr : cmpS a.data.toList b.data.toList ≤ 0 → cmpS b.data.toList c.data.toList ≤ 0 → cmpS a.data.toList c.data.toList ≤ 0 := cmpF_trans _ _ _
  generalize cmpS a.data.toList b.data.toList = X at *
  generalize cmpS b.data.toList c.data.toList = Y at *
  generalize cmpS a.data.toList c.data.toList = Z at *
  have D1 : Hid (∀ W, Ok w W → _) := C1
  have D2 : Hid (∀ W, Ok w W → _) := C2
  have D3 : Hid (∀ W, Ok w W → _) := C3
  have D4 : Hid (∀ W, Ok w W → _) := C4
  have D5 : Hid (∀ W, Ok w W → _) := C5
  have D6 : Hid (∀ W, Ok w W → _) := C6
  have D7 : Hid (∀ W, Ok w W → _) := C7
  clear C1 C2 C3 C4 C5 C6 C7
  obtain ⟨r1a, r1b⟩ := r1
  clear r2 r3
  have hcase : 0 < X ∨ (X ≤ 0 ∧ 0 < Y) ∨ (X ≤ 0 ∧ Y ≤ 0 ∧ Z ≤ 0) := by
    rcases Int.lt_or_le 0 X with h | h
    · exact .inl h
    · rcases Int.lt_or_le 0 Y with k | k
      · exact .inr (.inl ⟨h, k⟩)
      · exact .inr (.inr ⟨h, k, tr h k⟩)
  clear tr
  rcases hcase with h | ⟨h, k⟩ | ⟨h, k, l⟩
  all_goals
    go_enter Tryd.func5, Tryd.ntmps5
    go_wp2_with fail
    refine (D1.out _ o0).mono ?_
    rintro e w1 ⟨rfl, hb1⟩
    have o1 := o0.step hb1
    clear hb1
    go_wp2_with fail
    refine (D2.out _ o1).mono ?_
    rintro e w2 ⟨rfl, hb2⟩
    have o2 := o1.step hb2
    clear hb2
    go_wp2_with fail
    refine (D3.out _ o2).mono ?_
    rintro e w3 ⟨rfl, hb3⟩
    have o3 := o2.step hb3
    clear hb3
    go_wp2_with fail
    refine (D4.out _ o3).mono ?_
    rintro e w4 ⟨rfl, hb4⟩
    have o4 := o3.step hb4
    clear hb4
    go_wp2_with fail
    refine (D5.out _ o4).mono ?_
    rintro e w5 ⟨rfl, hb5⟩
    have o5 := o4.step hb5
    clear hb5
    go_wp2_with fail
    refine (D6.out _ o5).mono ?_
    rintro e w6 ⟨rfl, hb6⟩
    have o6 := o5.step hb6
    clear hb6
    go_wp2_with fail
    refine (D7.out _ o6).mono ?_
    rintro e w7 ⟨rfl, hb7⟩
    have o7 := o6.step hb7
    clear hb7
    go_wp2_with fail
    refine (known_any _).mono ?_
    rintro e w8 ⟨rfl, hb8⟩
    go_wp2
    go_ret
    exact ⟨rfl, (o7.step hb8).1⟩

set_option maxHeartbeats 1000000 in
theorem walk (a b c : ByteArray) (_ : a.size ≤ 140737488351232) (_ : b.size ≤ 140737488351232) (_ : c.size ≤ 140737488351232) (w : World) (hT : Lib.Utf8Tabs 0 1 w) :
    Calls Tryd.prog 5 #[.string a, .string b, .string c] w fun e w' => e = .returned (.bool true) ∧ Below w.heap.size w w' := by
  by_cases h : a.size + b.size + c.size ≤ 300
  · exact walk_in a b c w h hT
  · clear hT
    have h1 : 300 < (a.size : Int) + b.size + c.size := by omega
    go_enter Tryd.func5, Tryd.ntmps5
    go_wp2
    go_ret
    exact ⟨rfl, Below.refl _ _⟩

theorem own : ownKnob Tryd.prog.godebug = none := by kernel_rfl
theorem u8x : U8Extra Tryd.prog Tryd.lays260_ren := ⟨by kernel_rfl, by kernel_rfl, by kernel_rfl, by kernel_rfl, by kernel_rfl, by kernel_rfl, by kernel_rfl⟩
theorem accept_eq : (Rows.laid_unicode_utf8_acceptRanges : DataW Unit) = Lib.acceptData := by kernel_rfl
theorem first_eq : Rows.laid_unicode_utf8_first = Lib.firstData := Pinned.utf8First_eq
theorem tabs_of {W : World} (hL : laidMet Tryd.prog Rows.glyphOrdersRow.laid W) : Lib.Utf8Tabs 0 1 W :=
  utf8Tabs_of_readsT (U8Types.of260 Tryd.lays260) u8x (first_eq ▸ Lib.laidMet.reads hL (.tail _ (.head _))) (accept_eq ▸ Lib.laidMet.reads hL (.head _))

set_option maxRecDepth 100000 in
theorem lifted (os : Os) (started : os.Started) (H : Type) (enc : TypeId × Value → H) :
    ReturnsInHanded {} Tryd.checked os 5 .any (fun w args => (Rows.glyphOrdersSpec.pre enc Tryd.prog Tryd.f5 [] false w args ∧ laidMetH Tryd.prog Rows.glyphOrdersRow.laid w) ∧ sizedMet enc Tryd.prog Tryd.f5 (OpenSpec.ofChange Rows.glyphOrdersSpec) false w args)
      (Rows.glyphOrdersSpec.post enc Tryd.prog Tryd.f5 false true false false) := by
  refine returnsInHanded_of_change_and (C := Tryd.checked) (X := fun w _ => laidMetH Tryd.prog Rows.glyphOrdersRow.laid w) (fun _ _ _ hh h => h.of_heap hh) own started (by kernel_rfl) Tryd.func5
    (ChangeSpec.witness_shaped (enc := enc) (C := Tryd.checked) (os := os) (X := fun w _ => laidMetH Tryd.prog Rows.glyphOrdersRow.laid w) false (World.laidAll Tryd.prog os Rows.glyphOrdersRow.laid) #[.string ByteArray.empty, .string ByteArray.empty, .string ByteArray.empty] 8 (World.laidAll_os _ _ _)
      (World.shaped_of_ZipB (by kernel_rfl) (by kernel_rfl)) (by kernel_rfl) (by kernel_rfl) (by kernel_rfl)
      (by rw [MakeChecks.laidMetH_plain _ _ _ (by kernel_rfl)]; exact laidMet_laidAll _ (by kernel_rfl) (by kernel_rfl))) ?_
  intro W base args ds gs before hval0 hW _ hsz0 hL _
  have hval : ∀ (j : Nat) t v, Tryd.f5.params[j]? = some t → args[j]? = some v → Value.okWide Tryd.prog W .any base t v := hval0
  have hsz : (DataW.weightsEach Tryd.prog (Tryd.f5.params.toList ++ Rows.glyphOrdersSpec.plain.varTypes Tryd.prog) (ds ++ gs)).all (· ≤ reachBytes) = true := hsz0
  have hW' := hW
  obtain ⟨p, q, hA0, hV, rfl, _, _⟩ := hW
  have hA : DataW.TrodAll enc Tryd.prog W 0 (fun _ => true) true Tryd.f5.params.toList args.toList ds p := hA0
  rw [Tryd.params5] at hA hval hsz
  obtain ⟨v0, vs0, d0, ds0, p0, q0, hargs, rfl, rfl, h0, r0⟩ := trodAll_cons hA
  obtain ⟨v1, vs1, d1, ds1, p1, q1, rfl, rfl, rfl, h1, r1⟩ := trodAll_cons r0
  obtain ⟨v2, vs2, d2, ds2, p2, q2, rfl, rfl, rfl, h2, r2⟩ := trodAll_cons r1
  obtain ⟨rfl, rfl, rfl⟩ := trodAll_nil r2
  obtain rfl : args = #[v0, v1, v2] := by cases args; simp_all
  obtain ⟨rfl, rfl⟩ := trodVars_none hV
  obtain ⟨a0, rfl, rfl, rfl, w0⟩ := open_string Tryd.underlying9 (hval 0 9 v0 rfl rfl) h0
  obtain ⟨a1, rfl, rfl, rfl, w1⟩ := open_string Tryd.underlying9 (hval 1 9 v1 rfl rfl) h1
  obtain ⟨a2, rfl, rfl, rfl, w2⟩ := open_string Tryd.underlying9 (hval 2 9 v2 rfl rfl) h2
  have z0 : a0.size ≤ 140737488351232 := by
    have := sized_string hsz (j := 0) (t := 9) rfl rfl
    rw [← Lib.size_eq] at this
    simpa [reachBytes] using this
  have z1 : a1.size ≤ 140737488351232 := by
    have := sized_string hsz (j := 1) (t := 9) rfl rfl
    rw [← Lib.size_eq] at this
    simpa [reachBytes] using this
  have z2 : a2.size ≤ 140737488351232 := by
    have := sized_string hsz (j := 2) (t := 9) rfl rfl
    rw [← Lib.size_eq] at this
    simpa [reachBytes] using this
  clear hA0 hval0
  rw [MakeChecks.laidMetH_plain _ _ _ (by kernel_rfl)] at hL
  refine (walk a0 a1 a2 z0 z1 z2 W (tabs_of hL)).mono fun e W' ⟨he, bel⟩ => ?_
  subst he
  exact ⟨_, rfl, _, _, _, [], _, [], hW', trodAll_mk1 (shut_bool Tryd.underlying4 _), (trodAll_cons_mk (shut_string Tryd.underlying9 w0) (trodAll_cons_mk (shut_string Tryd.underlying9 w1) (trodAll_cons_mk (shut_string Tryd.underlying9 w2) trodAll_mk0))), rfl, bel.frame _, fun h => by cases h⟩

theorem over : Rows.glyphOrdersRow.holds Tryd.pinned (OpenSpec.ofChange Rows.glyphOrdersSpec) :=
  OpenClaim.holds_of_wide 5 Tryd.f5 rfl rfl rfl rfl rfl rfl rfl ⟨rfl, rfl, rfl, rfl, rfl⟩ rfl rfl rfl rfl rfl (by kernel_rfl) Tryd.func5 (by kernel_rfl)
    (of_decide_eq_true (by kernel_rfl)) (by unfold Func.isWrapper; first | (rw [if_pos (by decide +kernel)]; kernel_rfl) | (rw [if_neg (by decide +kernel)]; exact ⟨rfl, rfl⟩))
    (fun os started H enc _ => lifted os started H enc)

theorem card : Rows.GlyphOrdersCardSaid :=
  Claim7.holds_tied_plain_at .later [] _ _ _ _ over (fun _ h => by cases h) (by kernel_rfl) (fun _ h => by cases h) glyphOrders_row_tie rfl ⟨rfl, rfl⟩ (by kernel_rfl) rfl
    (fun f fn hf hfn => by
      obtain rfl : f = 5 := Option.some.inj ((show Tryd.prog.funcNamed Rows.glyphOrdersRow.func = some 5 by kernel_rfl).symm.trans hf) |>.symm
      obtain rfl : fn = Tryd.f5 := (Option.some.inj (Tryd.func5.symm.trans hfn)).symm
      exact ⟨by kernel_rfl, fun j t ht => by
        rw [Tryd.params5] at ht
        have hm : t ∈ [9, 9, 9] := by simpa using Array.mem_of_getElem? ht
        have hall : ([9, 9, 9].all fun u => !Tryd.prog.wantsStandIn u) = true := by kernel_rfl
        exact (show Tryd.prog.wantsStandIn t = false by simpa using List.all_eq_true.1 hall t hm)⟩)
    (by kernel_rfl)


end Go.Proofs.YtnnhnjccicfdlaaDoor.glyphOrders
namespace Go.Proofs.YtnnhnjccicfdlaaDoor
theorem glyphOrders_holds : Rows.GlyphOrdersCardSaid := glyphOrders.card
#print axioms glyphOrders_holds
end Go.Proofs.YtnnhnjccicfdlaaDoor
