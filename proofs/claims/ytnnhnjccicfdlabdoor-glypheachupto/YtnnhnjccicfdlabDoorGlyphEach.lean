/-
  Of any two texts of bulk at most 1048576: GlyphEach returns true. The tables of unicode/utf8 are as the program's text lays them (the tied card).
-/
import Derived.Test.YtnnhnjccicfdlabDoorRows
import Derived.Test.YtnnhnjccicfdlabDoorCards
import Derived.Test.YtnnhnjccicfdlabDoorTie
import Derived.Test.YtnnhnjccicfdlabDoorWordsP
import Derived.Test.YtnnhnjccicfdlabDoorRefName
import Derived.Test.YtnnhnjccicfdlabDoorWhole
import Derived.Deep.RegionWith
import Derived.WalkKit
import Derived.ProofKit
import Derived.OpenShut
import Derived.ShutString
import Derived.ChangeOld
import Derived.Below
import Derived.SizedLaws
import Derived.PinnedBridge
import Derived.Lib.LaidU8T
import Derived.Lay
import Derived.LaidOnce
import Derived.SevenTiedAt
import Derived.Deep.DeepHandedRow
namespace Go.Proofs.YtnnhnjccicfdlabDoor.glyphEach
open Go.ChangeShapes Go.WideShapes Go.ChangeAt Go.RowKit
open Go.ChangeMaps (open_string shut_string)

theorem Ok.drew {w0 w : World} (h : Ok w0 w) : Ok w0 w.drew := ⟨h.1.drew, h.2⟩

theorem run_eqlW (a b : ByteArray) (m n : Int) (W : World) :
    (binOp .eql 32 (.agg #[.string a, .int .i64 m]) (.agg #[.string b, .int .i64 n])).run Tryd.prog W = .ok (.bool (wordEq a m b n)) W := by
  have h := run_neqW a b m n W
  rw [run_neq_struct] at h
  rw [run_eql_struct]
  generalize (Op.equalIn 10000 32 (.agg #[.string a, .int .i64 m]) (.agg #[.string b, .int .i64 n])).run Tryd.prog W = r at *
  cases r with
  | ok x w' =>
    simp only [Result.andThen_ok, Result.ok.injEq, Value.bool.injEq] at h ⊢
    obtain ⟨h1, h2⟩ := h
    refine ⟨?_, h2⟩
    cases x <;> cases hw : wordEq a m b n <;> simp_all
  | halt x w' => simp [Result.andThen] at h

theorem words_whole (S : ByteArray) (ws : List (ByteArray × Nat)) (w : World) (hs : S.size ≤ 4294967296) (h : wholeB S.data.toList = true) (hw : wordsL S = ws) :
    Calls Tryd.prog 12 #[.string S] w fun e w' => ∃ v, e = .returned (.tuple #[v, .int .i64 (-1)]) ∧ hasWords w' v ws ∧ Below w.heap.size w w' := by
  refine (words_ok S w hs (whole_wrong h)).mono ?_
  rintro e w' ⟨v, rfl, hown, hb⟩
  rw [hw] at hown
  exact ⟨v, rfl, hasWords_of_owns hown, hb⟩

set_option maxRecDepth 1000000 in
set_option maxHeartbeats 8000000 in
theorem walk_in (s t : ByteArray) (hs : s.size ≤ 300) (ht : t.size ≤ 1048576) (w : World) (hT : Lib.Utf8Tabs 0 1 w) :
    Calls Tryd.prog 6 #[.string s, .string t] w fun e w' => e = .returned (.bool true) ∧ Below w.heap.size w w' := by
  have o0 := Ok.start hT
  clear hT
  have C1 := fun W (h : Ok w W) => whole_any s W (by omega) h.2
  have C2 := fun W (h : Ok w W) => refName_any t W (by omega) h.2
  cases hwh : wholeB s.data.toList
  · rw [hwh] at C1
    go_enter Tryd.func6, Tryd.ntmps6
    go_wp2_with fail
    refine (C1 _ o0).mono ?_
    rintro e w1 ⟨rfl, hb1⟩
    go_wp2
    go_ret
    exact ⟨rfl, hb1⟩
  · rw [hwh] at C1
    cases hnm : nameB t.data.toList
    · rw [hnm] at C2
      go_enter Tryd.func6, Tryd.ntmps6
      go_wp2_with fail
      refine (C1 _ o0).mono ?_
      rintro e w1 ⟨rfl, hb1⟩
      have o1 := o0.step hb1
      go_wp2_with fail
      refine (C2 _ o1).mono ?_
      rintro e w2 ⟨rfl, hb2⟩
      go_wp2
      go_ret
      exact ⟨rfl, (o1.step hb2).1⟩
    · rw [hnm] at C2
      have hsz : t.size ≤ 32 := by have := name_size hnm; rw [← Lib.size_eq] at this; exact this
      have C3 := fun W => words_whole s (wordsL s) W (by omega) hwh rfl
      have C4 := fun W => words_whole (s ++ ⟨#[32]⟩ ++ t) (wordsL s ++ [(t, (runes s.data.toList).length + 1)]) W (by rw [ByteArray.size_append, ByteArray.size_append]; show s.size + 1 + t.size ≤ _; omega) (by
        rw [show (s ++ ⟨#[32]⟩ ++ t).data.toList = s.data.toList ++ ([32] ++ t.data.toList) by simp]
        exact whole_append hwh (whole_append (by decide +kernel) (name_parts hnm).2.1)) (by
        rw [words_more (s ++ ⟨#[32]⟩ ++ t) s [32] t (by simp) hwh (by decide) hnm (.inl (by simp))]
        rfl)
      have hlr : (runes s.data.toList).length ≤ 300 := by have := runes_length_le s.data.toList; rw [← Lib.size_eq] at this; omega
      have hlw : (wordsL s).length ≤ 300 := by
        have h1 := splitF_length s (runesAt s 0) 0 0 false 0 0
        have h2 := runesAt_le s 0
        simp only [Bool.false_eq_true, if_false] at h1
        simp only [wordsL]
        omega
      have C5 := fun W (h : Ok w W) => refRunes_any s W (by omega) h.2
      have hz1 : (s ++ ⟨#[32]⟩ : ByteArray).size ≤ 301 := by rw [ByteArray.size_append]; show s.size + 1 ≤ _; omega
      generalize wordsL s = ws at *
      generalize runes s.data.toList = rs at *
      have HL : Hid (rs.length = rs.length) := rfl
      have D1 : Hid (∀ W, Ok w W → _) := C1
      have D2 : Hid (∀ W, Ok w W → _) := C2
      have D3 : Hid (∀ W, _) := C3
      have D4 : Hid (∀ W, _) := C4
      have D5 : Hid (∀ W, Ok w W → _) := C5
      clear C1 C2 C3 C4 C5 hwh hnm
      go_enter Tryd.func6, Tryd.ntmps6
      go_wp2_with fail
      refine (D1.out _ o0).mono ?_
      rintro e w1 ⟨rfl, hb1⟩
      have o1 := o0.step hb1
      clear hb1
      go_wp2_with fail
      refine (D2.out _ o1).mono ?_
      rintro e w2 ⟨rfl, hb2⟩
      have o2 := o1.step hb2
      clear hb2
      go_wp2_with fail
      refine (D3.out _).mono ?_
      rintro e w3 ⟨va, rfl, hwa, hb3⟩
      have o3 := o2.step hb3
      clear hb3
      go_wp2_with fail
      refine (D4.out _).mono ?_
      rintro e w4 ⟨vb, rfl, hwb, hb4⟩
      have o4 := o3.step hb4
      have hwa4 := hasWords_below hwa hb4
      clear hb4 hwa
      obtain ⟨oa, ca, rfl, ha1, ha2⟩ := hwa4
      obtain ⟨ob, cb, rfl, hb1, hb2⟩ := hwb
      rw [List.length_append, List.length_singleton] at hb1
      simp only [List.length_append, List.length_singleton]
      have HA2 : Hid (∀ j x, ws[j]? = some x → _) := ha2
      have HB2 : Hid (∀ j x, (ws ++ [(t, rs.length + 1)])[j]? = some x → _) := hb2
      clear ha2 hb2
      go_wp2_with fail
      refine (same_any _ _ ws ws _ (by omega) ⟨ob, cb, rfl, by omega, fun j x hj => HB2.out j x (by rw [List.getElem?_append_left (List.getElem?_eq_some_iff.1 hj).1]; exact hj)⟩ ⟨oa, ca, rfl, ha1, HA2.out⟩).mono ?_
      rintro e w5 ⟨rfl, q, rfl⟩
      rw [decide_eq_true (rfl : ws = ws)]
      have o5 := o4.drewN q
      obtain ⟨g, hob, c1, c2⟩ := HB2.out ws.length (t, rs.length + 1) (by simp)
      subst hob
      have c1' : (w4.drewN q).cell? ⟨g, ws.length * 2, none⟩ = some (.string t) := c1
      obtain ⟨N, hN⟩ : ∃ N : Int, ((rs.length + 1 : Nat) : Int) = N := ⟨_, rfl⟩
      have c2' : (w4.drewN q).cell? ⟨g, ws.length * 2 + 1, none⟩ = some (.int .i64 N) := by rw [← hN]; exact c2
      have hw0 : (rs.length : Int) + 1 = N := by omega
      have hw1 : IntKind.i64.wrap ((rs.length : Int) + 1) = N := by rw [IntKind.wrap_i64]; omega
      have hw2 : IntKind.i64.wrap N = N := by rw [IntKind.wrap_i64]; omega
      have hw3 : wrap64 N = N := by unfold wrap64; omega
      have hw4 : wrap64 ((rs.length : Int) + 1) = N := by unfold wrap64; omega
      clear c1 c2 HA2 HB2 hN
      generalize w4.drewN q = w5 at *
      have HLT : Hid (g < w5.heap.size) := World.block_lt_of_cell? w5 _ c1'
      have hix : (ws.length : Int) < (ws.length : Int) + 1 := by omega
      have E1 := run_eqlW t t N N
      rw [show wordEq t N t N = true from decide_eq_true ⟨rfl, rfl⟩] at E1
      have E2 := eqGuardW
      go_wp2_with fail
      go_region_with (first
        | (go_at_call 14; refine (D5.out _ (Ok.drew o5)).mono ?_; rintro e w6 ⟨v6, rfl, hown6, hb6⟩; obtain ⟨o6, c6, rfl, _⟩ := hasRunes_of_owns hown6; have k1 := (hb6.cell (p := ⟨g, ws.length * 2, none⟩) HLT.out).trans c1'; have k2 := (hb6.cell (p := ⟨g, ws.length * 2 + 1, none⟩) HLT.out).trans c2')
        | (go_at_call 9; refine (known_any _).mono ?_; rintro e w7 ⟨rfl, hb7⟩))
      all_goals
        go_wp2
        go_ret
        exact ⟨rfl, (((Ok.drew o5).step hb6).step hb7).1⟩

theorem walk (s t : ByteArray) (_ : s.size ≤ 1048576) (ht : t.size ≤ 1048576) (w : World) (hT : Lib.Utf8Tabs 0 1 w) :
    Calls Tryd.prog 6 #[.string s, .string t] w fun e w' => e = .returned (.bool true) ∧ Below w.heap.size w w' := by
  by_cases h : s.size ≤ 300
  · exact walk_in s t h ht w hT
  · have h' : 300 < s.size := by omega
    go_enter Tryd.func6, Tryd.ntmps6
    go_wp2
    go_ret
    exact ⟨rfl, Below.refl _ _⟩

theorem own : ownKnob Tryd.prog.godebug = none := by kernel_rfl
theorem u8x : U8Extra Tryd.prog Tryd.lays260_ren := ⟨by kernel_rfl, by kernel_rfl, by kernel_rfl, by kernel_rfl, by kernel_rfl, by kernel_rfl, by kernel_rfl⟩
theorem accept_eq : (Rows.laid_unicode_utf8_acceptRanges : DataW Unit) = Lib.acceptData := by kernel_rfl
theorem first_eq : Rows.laid_unicode_utf8_first = Lib.firstData := Pinned.utf8First_eq
theorem tabs_of {W : World} (hL : laidMet Tryd.prog Rows.glyphEachUptoRow.laid W) : Lib.Utf8Tabs 0 1 W :=
  utf8Tabs_of_readsT (U8Types.of260 Tryd.lays260) u8x (first_eq ▸ Lib.laidMet.reads hL (.tail _ (.head _))) (accept_eq ▸ Lib.laidMet.reads hL (.head _))
theorem reads (os : Os) {H : Type} (enc : TypeId × Value → H) : ∃ places, DataW.whole enc Tryd.prog ((World.laidAll Tryd.prog os Rows.glyphEachUptoRow.laid).forCall (fun _ _ => 0) ⟨#[], #[.string ByteArray.empty, .string ByteArray.empty], []⟩).memory Tryd.f6.params.toList Rows.glyphEachSpec.vars false #[.string ByteArray.empty, .string ByteArray.empty].toList 8 = some ([.lit (.string []), .lit (.string [])], [], places) :=
  ⟨[], by kernel_rfl⟩

set_option maxRecDepth 100000 in
theorem lifted (os : Os) (started : os.Started) (H : Type) (enc : TypeId × Value → H) (F : Stop.Interp) :
    ReturnsInHanded {} Tryd.checked os 6 .any ((Rows.OpenSpec.upto Rows.glyphEachSpec).preRow enc Tryd.prog Tryd.f6 Rows.glyphEachUptoRow.domain false Rows.glyphEachUptoRow.laid) (((Rows.OpenSpec.upto Rows.glyphEachSpec).at F).post enc Tryd.prog Tryd.f6 false true false false) := by
  obtain ⟨places, hx⟩ := reads os enc
  have hok : Input.okWideB Tryd.prog ((World.laidAll Tryd.prog os Rows.glyphEachUptoRow.laid).forCall (fun _ _ => 0) ⟨#[], #[.string ByteArray.empty, .string ByteArray.empty], []⟩) 6 ⟨#[], #[.string ByteArray.empty, .string ByteArray.empty], []⟩ = true := by kernel_rfl
  refine returnsInHanded_of_row (C := Tryd.checked) (s := Rows.OpenSpec.upto Rows.glyphEachSpec) own started (by kernel_rfl) Tryd.func6
    ⟨World.laidAll Tryd.prog os Rows.glyphEachUptoRow.laid, fun _ _ => 0, ⟨#[], #[.string ByteArray.empty, .string ByteArray.empty], []⟩, World.laidAll_os _ _ _, World.shaped_of_ZipB (by kernel_rfl) (by kernel_rfl), (Input.okWide_of_okWideB (base := 0) hok).1, (Input.okWide_of_okWideB hok).2,
      OpenSpec.preRow_of_cond 8 hx (by kernel_rfl) (fun k hk => by cases hk; kernel_rfl) (by kernel_rfl) (by rw [MakeChecks.laidMetH_plain _ _ _ (by kernel_rfl)]; exact laidMet_laidAll _ (by kernel_rfl) (by kernel_rfl)), by
      simp only [Assume.holds]
      exact ⟨by simp, by simp, fun _ => Modest.zero, by simp, by simp⟩⟩ ?_
  intro W base args ds gs before hval0 hW _ hcond _ hL _ _
  have hk0 := of_decide_eq_true (hcond _ rfl)
  have hval : ∀ (j : Nat) t v, Tryd.f6.params[j]? = some t → args[j]? = some v → Value.okWide Tryd.prog W .any base t v := hval0
  have hW' := hW
  obtain ⟨p, q, hA0, hV, rfl, _, _⟩ := hW
  have hA : DataW.TrodAll enc Tryd.prog W 0 (fun _ => true) true Tryd.f6.params.toList args.toList ds p := hA0
  rw [Tryd.params6] at hA hval
  obtain ⟨v0, vs0, d0, ds0, p0, q0, hargs, rfl, rfl, h0, r0⟩ := trodAll_cons hA
  obtain ⟨v1, vs1, d1, ds1, p1, q1, rfl, rfl, rfl, h1, r1⟩ := trodAll_cons r0
  obtain ⟨rfl, rfl, rfl⟩ := trodAll_nil r1
  obtain rfl : args = #[v0, v1] := by cases args; simp_all
  obtain ⟨rfl, rfl⟩ := trodVars_none hV
  obtain ⟨a0, rfl, rfl, rfl, w0⟩ := open_string Tryd.underlying9 (hval 0 9 v0 rfl rfl) h0
  obtain ⟨a1, rfl, rfl, rfl, w1⟩ := open_string Tryd.underlying9 (hval 1 9 v1 rfl rfl) h1
  simp only [List.append_nil, Rows.uptoBulkAll, Rows.uptoBulk] at hk0
  have z0 : a0.size ≤ 1048576 := by rw [Lib.size_eq]; omega
  have z1 : a1.size ≤ 1048576 := by rw [Lib.size_eq]; omega
  clear hA0 hval0
  rw [MakeChecks.laidMetH_plain _ _ _ (by kernel_rfl)] at hL
  refine (walk a0 a1 z0 z1 W (tabs_of hL)).mono fun e W' ⟨he, bel⟩ => ?_
  subst he
  exact ⟨_, rfl, _, _, _, [], _, [], hW', trodAll_mk1 (shut_bool Tryd.underlying4 _), (trodAll_cons_mk (shut_string Tryd.underlying9 w0) (trodAll_cons_mk (shut_string Tryd.underlying9 w1) trodAll_mk0)), rfl, bel.frame _, fun h => by cases h⟩

theorem over : Rows.GlyphEachUptoSaid :=
  OpenClaim.holds_of_cond 6 Tryd.f6 rfl rfl rfl rfl rfl rfl rfl ⟨rfl, rfl, rfl, rfl, rfl⟩ rfl rfl rfl rfl rfl (by kernel_rfl) Tryd.func6 (by kernel_rfl)
    (of_decide_eq_true (by kernel_rfl)) (by unfold Func.isWrapper; first | (rw [if_pos (by decide +kernel)]; kernel_rfl) | (rw [if_neg (by decide +kernel)]; exact ⟨rfl, rfl⟩))
    (fun os started H enc _ F => by rw [OpenClaim.pre_eq_preRow]; exact lifted os started H enc F)

theorem card : Rows.GlyphEachUptoCardSaid :=
  Claim7.holds_tied_plain_at .later [] _ _ _ _ over (fun _ h => by cases h) (by kernel_rfl) (fun _ h => by cases h) glyphEachUpto_row_tie rfl ⟨rfl, rfl⟩ (by kernel_rfl) rfl
    (fun f fn hf hfn => by
      obtain rfl : f = 6 := Option.some.inj ((show Tryd.prog.funcNamed Rows.glyphEachUptoRow.func = some 6 by kernel_rfl).symm.trans hf) |>.symm
      obtain rfl : fn = Tryd.f6 := (Option.some.inj (Tryd.func6.symm.trans hfn)).symm
      exact ⟨by kernel_rfl, fun j t ht => by
        rw [Tryd.params6] at ht
        have hm : t ∈ [9, 9] := by simpa using Array.mem_of_getElem? ht
        have hall : ([9, 9].all fun u => !Tryd.prog.wantsStandIn u) = true := by kernel_rfl
        exact (show Tryd.prog.wantsStandIn t = false by simpa using List.all_eq_true.1 hall t hm)⟩)
    (by kernel_rfl)


end Go.Proofs.YtnnhnjccicfdlabDoor.glyphEach
namespace Go.Proofs.YtnnhnjccicfdlabDoor
theorem glyphEach_holds : Rows.GlyphEachUptoCardSaid := glyphEach.card
#print axioms glyphEach_holds
end Go.Proofs.YtnnhnjccicfdlabDoor
