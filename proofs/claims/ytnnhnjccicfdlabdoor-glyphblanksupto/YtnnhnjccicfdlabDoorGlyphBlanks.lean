/-
  Of any two numbers and any text, all of bulk at most 1048576: GlyphBlanks returns true. The tables of unicode/utf8 are as the program's text lays them (the tied card).
-/
import Derived.Test.YtnnhnjccicfdlabDoorRows
import Derived.Test.YtnnhnjccicfdlabDoorCards
import Derived.Test.YtnnhnjccicfdlabDoorTie
import Derived.Test.YtnnhnjccicfdlabDoorWordsP
import Derived.Test.YtnnhnjccicfdlabDoorRefName
import Derived.Test.YtnnhnjccicfdlabDoorReps
import Derived.WalkKit
import Derived.ProofKit
import Derived.OpenShut
import Derived.ShutString
import Derived.ChangeOld
import Derived.Below
import Derived.SizedLaws
import Derived.PinnedBridge
import Derived.Lib.LaidU8T
import Derived.Lay
import Derived.LaidOnce
import Derived.SevenTiedAt
import Derived.Deep.DeepHandedRow
namespace Go.Proofs.YtnnhnjccicfdlabDoor.glyphBlanks
open Go.ChangeShapes Go.WideShapes Go.ChangeAt Go.RowKit
open Go.ChangeMaps (open_string shut_string)

theorem rep_blank (b : UInt8) (hb : b = 32 ∨ b = 9) (k : Nat) : blankBytes (repL [b] k) = true := by
  induction k with
  | zero => rfl
  | succ k ih =>
    rw [repL_cons, blankBytes, List.all_append, Bool.and_eq_true]
    refine ⟨?_, ih⟩
    rcases hb with rfl | rfl <;> decide
theorem blank_append {x y : List UInt8} (h : blankBytes x = true) (k : blankBytes y = true) : blankBytes (x ++ y) = true := by
  rw [blankBytes, List.all_append, Bool.and_eq_true]
  exact ⟨h, k⟩

theorem one_word (w : World) (t : ByteArray) (n : Nat) : hasWords (w.alloc (.cells #[.string t, .int .i64 n] 32)) (.slice (some ⟨w.heap.size, 0, none⟩) 1 1) [(t, n)] := by
  refine ⟨_, 1, rfl, Nat.le_refl _, fun j x hj => ⟨w.heap.size, rfl, ?_⟩⟩
  match j, hj with
  | 0, hj => simp at hj; subst hj; simp

/-- Words of a text without a wrong rune. -/
theorem words_whole (S : ByteArray) (ws : List (ByteArray × Nat)) (w : World) (hs : S.size ≤ 4294967296) (h : wholeB S.data.toList = true) (hw : wordsL S = ws) :
    Calls Tryd.prog 12 #[.string S] w fun e w' => ∃ v, e = .returned (.tuple #[v, .int .i64 (-1)]) ∧ hasWords w' v ws ∧ Below w.heap.size w w' := by
  refine (words_ok S w hs (whole_wrong h)).mono ?_
  rintro e w' ⟨v, rfl, hown, hb⟩
  rw [hw] at hown
  exact ⟨v, rfl, hasWords_of_owns hown, hb⟩

set_option maxRecDepth 1000000 in
set_option maxHeartbeats 8000000 in
theorem walk_in (n m : Nat) (t : ByteArray) (hn : n ≤ 60) (hm : m ≤ 60) (ht : t.size ≤ 1048576) (w : World) (hT : Lib.Utf8Tabs 0 1 w) :
    Calls Tryd.prog 5 #[.int .i64 n, .int .i64 m, .string t] w fun e w' => e = .returned (.bool true) ∧ Below w.heap.size w w' := by
  have o0 := Ok.start hT
  clear hT
  have hm0 : ¬ (m : Int) < 0 := by omega
  have hm1 : ¬ 60 < (m : Int) := by omega
  cases hnm : nameB t.data.toList
  · go_enter Tryd.func5, Tryd.ntmps5
    go_wp2_with fail
    refine (refName_any t _ (by omega) o0.2).mono ?_
    rintro e w1 ⟨rfl, hb1⟩
    rw [hnm]
    go_wp2
    go_ret
    exact ⟨rfl, hb1⟩
  · have HNM : Hid (nameB t.data.toList = true) := hnm
    go_enter Tryd.func5, Tryd.ntmps5
    go_wp2_with fail
    refine (refName_any t _ (by omega) o0.2).mono ?_
    rintro e w1 ⟨rfl, hb1⟩
    rw [hnm]
    have o1 := o0.step hb1
    clear hb1 o0 hnm
    go_wp2
    go_loop [7, 9] (fun s i => ∃ (k : Nat) (S : ByteArray), k ≤ n ∧ i = .int .i64 k ∧ s = .string S ∧ S.data.toList = repL [32] k ∧ S.size = k) (fun _ i => n - (intOf i).toNat)
    case atStart => exact ⟨0, ⟨#[]⟩, by omega, rfl, rfl, rfl, rfl⟩
    case round =>
      obtain ⟨k, A, hk, rfl, rfl, hA, hz⟩ := hrel
      have HA : Hid (A.data.toList = repL [32] k) := hA
      have HZ : Hid (A.size = k) := hz
      have hz' : A.size ≤ 60 := by omega
      clear hA hz
      by_cases hlt : k < n
      · go_wp2
        go_round
        case rel => exact ⟨k + 1, A ++ ⟨#[32]⟩, by omega, by go_num, rfl, by rw [repL_succ]; simp [HA.out], by have := HZ.out; rw [ByteArray.size_append, this]; rfl⟩
        case measure => simp [intOf]; omega
      · have e : k = n := by omega
        subst e
        go_wp2
        go_loop [8, 10] (fun s i => ∃ (j : Nat) (S : ByteArray), j ≤ m ∧ i = .int .i64 j ∧ s = .string S ∧ S.data.toList = repL [9] j ∧ S.size = j) (fun _ i => m - (intOf i).toNat)
        case atStart => exact ⟨0, ⟨#[]⟩, by omega, rfl, rfl, rfl, rfl⟩
        case round =>
          obtain ⟨j, B, hj, rfl, rfl, hB, hy⟩ := hrel
          have HB : Hid (B.data.toList = repL [9] j) := hB
          have HY : Hid (B.size = j) := hy
          have hy' : B.size ≤ 60 := by omega
          clear hB hy
          by_cases hlt2 : j < m
          · go_wp2
            go_round
            case rel => exact ⟨j + 1, B ++ ⟨#[9]⟩, by omega, by go_num, rfl, by rw [repL_succ]; simp [HB.out], by have := HY.out; rw [ByteArray.size_append, this]; rfl⟩
            case measure => simp [intOf]; omega
          · have e2 : j = m := by omega
            subst e2
            have bA : blankBytes A.data.toList = true := by rw [HA.out]; exact rep_blank 32 (.inl rfl) _
            have bB : blankBytes B.data.toList = true := by rw [HB.out]; exact rep_blank 9 (.inr rfl) _
            have lA : A.data.toList.length = k := by rw [← Lib.size_eq]; exact HZ.out
            have hsz : t.size ≤ 32 := by have := name_size HNM.out; rw [← Lib.size_eq] at this; exact this
            have C1 := fun W => words_whole (A ++ B) [] W (by rw [ByteArray.size_append]; omega) (by simpa using blankBytes_whole (blank_append bA bB)) (by
              rw [words_tail (A ++ B) ⟨#[]⟩ (A.data.toList ++ B.data.toList) (by simp) rfl (blank_append bA bB)]
              rfl)
            have wAt : wholeB (A ++ t).data.toList = true := by
              rw [show (A ++ t).data.toList = A.data.toList ++ t.data.toList by simp]
              exact whole_append (blankBytes_whole bA) (name_parts HNM.out).2.1
            have C2 := fun W => words_whole (A ++ t ++ B) [(t, k)] W (by rw [ByteArray.size_append, ByteArray.size_append]; omega) (by
              rw [show (A ++ t ++ B).data.toList = (A ++ t).data.toList ++ B.data.toList by simp]
              exact whole_append wAt (blankBytes_whole bB)) (by
              rw [words_tail (A ++ t ++ B) (A ++ t) B.data.toList (by simp) wAt bB, words_more (A ++ t) ⟨#[]⟩ A.data.toList t (by simp) rfl bA HNM.out (.inr rfl), words_nil, lA]
              simp [runes_nil])
            have D1 : Hid (∀ W, _) := C1
            have D2 : Hid (∀ W, _) := C2
            clear C1 C2 bA bB lA wAt
            have hzz : (A ++ t).size ≤ 200 := by rw [ByteArray.size_append]; omega
            go_wp2_with fail
            refine (D1.out _).mono ?_
            rintro e w2 ⟨v, rfl, hw2, hb2⟩
            have o2 := o1.step hb2
            obtain ⟨oa, cap, rfl, _⟩ := hw2
            clear hb2
            go_wp2_with fail
            refine (D2.out _).mono ?_
            rintro e w3 ⟨v3, rfl, hw3, hb3⟩
            have o3 := o2.step hb3
            clear hb3
            go_wp2_with fail
            have hbn : Below w3.heap.size w3 (w3.alloc (.cells #[.string t, .int .i64 k] 32)) := (Below.refl _ _).alloc (Nat.le_refl _) _
            refine (same_any v3 _ _ _ _ (by simp) (hasWords_below hw3 hbn) (one_word w3 t k)).mono ?_
            rintro e w4 ⟨rfl, q, rfl⟩
            rw [decide_eq_true (rfl : [(t, k)] = [(t, k)])]
            have o4 := (o3.step hbn).drewN q
            clear hw3 hbn
            go_wp2_with fail
            refine (known_any _).mono ?_
            rintro e w5 ⟨rfl, hb5⟩
            go_wp2
            go_ret
            exact ⟨rfl, (o4.step hb5).1⟩

set_option maxHeartbeats 4000000 in
theorem walk (n m : Int) (t : ByteArray) (_ : (Lit.int .i64 n).wf = true) (_ : (Lit.int .i64 m).wf = true) (ht : t.size ≤ 1048576) (w : World) (hT : Lib.Utf8Tabs 0 1 w) :
    Calls Tryd.prog 5 #[.int .i64 n, .int .i64 m, .string t] w fun e w' => e = .returned (.bool true) ∧ Below w.heap.size w w' := by
  by_cases h : (0 ≤ n ∧ n ≤ 60) ∧ 0 ≤ m ∧ m ≤ 60
  · obtain ⟨a, rfl⟩ := Int.eq_ofNat_of_zero_le h.1.1
    obtain ⟨b, rfl⟩ := Int.eq_ofNat_of_zero_le h.2.1
    exact walk_in a b t (by omega) (by omega) ht w hT
  · clear hT
    rcases (show n < 0 ∨ 60 < n ∨ (0 ≤ n ∧ n ≤ 60 ∧ m < 0) ∨ (0 ≤ n ∧ n ≤ 60 ∧ 60 < m) by omega) with h | h | ⟨h1, h2, h3⟩ | ⟨h1, h2, h3⟩
    · go_enter Tryd.func5, Tryd.ntmps5
      go_wp2
      go_ret
      exact ⟨rfl, Below.refl _ _⟩
    · have h' : ¬ n < 0 := by omega
      go_enter Tryd.func5, Tryd.ntmps5
      go_wp2
      go_ret
      exact ⟨rfl, Below.refl _ _⟩
    · go_enter Tryd.func5, Tryd.ntmps5
      go_wp2
      go_ret
      exact ⟨rfl, Below.refl _ _⟩
    · have h4 : ¬ m < 0 := by omega
      go_enter Tryd.func5, Tryd.ntmps5
      go_wp2
      go_ret
      exact ⟨rfl, Below.refl _ _⟩

theorem own : ownKnob Tryd.prog.godebug = none := by kernel_rfl
theorem u8x : U8Extra Tryd.prog Tryd.lays260_ren := ⟨by kernel_rfl, by kernel_rfl, by kernel_rfl, by kernel_rfl, by kernel_rfl, by kernel_rfl, by kernel_rfl⟩
theorem accept_eq : (Rows.laid_unicode_utf8_acceptRanges : DataW Unit) = Lib.acceptData := by kernel_rfl
theorem first_eq : Rows.laid_unicode_utf8_first = Lib.firstData := Pinned.utf8First_eq
theorem tabs_of {W : World} (hL : laidMet Tryd.prog Rows.glyphBlanksUptoRow.laid W) : Lib.Utf8Tabs 0 1 W :=
  utf8Tabs_of_readsT (U8Types.of260 Tryd.lays260) u8x (first_eq ▸ Lib.laidMet.reads hL (.tail _ (.head _))) (accept_eq ▸ Lib.laidMet.reads hL (.head _))
theorem reads (os : Os) {H : Type} (enc : TypeId × Value → H) : ∃ places, DataW.whole enc Tryd.prog ((World.laidAll Tryd.prog os Rows.glyphBlanksUptoRow.laid).forCall (fun _ _ => 0) ⟨#[], #[.int .i64 0, .int .i64 0, .string ByteArray.empty], []⟩).memory Tryd.f5.params.toList Rows.glyphBlanksSpec.vars false #[.int .i64 0, .int .i64 0, .string ByteArray.empty].toList 8 = some ([.lit (.int .i64 0), .lit (.int .i64 0), .lit (.string [])], [], places) :=
  ⟨[], by kernel_rfl⟩

set_option maxRecDepth 100000 in
theorem lifted (os : Os) (started : os.Started) (H : Type) (enc : TypeId × Value → H) (F : Stop.Interp) :
    ReturnsInHanded {} Tryd.checked os 5 .any ((Rows.OpenSpec.upto Rows.glyphBlanksSpec).preRow enc Tryd.prog Tryd.f5 Rows.glyphBlanksUptoRow.domain false Rows.glyphBlanksUptoRow.laid) (((Rows.OpenSpec.upto Rows.glyphBlanksSpec).at F).post enc Tryd.prog Tryd.f5 false true false false) := by
  obtain ⟨places, hx⟩ := reads os enc
  have hok : Input.okWideB Tryd.prog ((World.laidAll Tryd.prog os Rows.glyphBlanksUptoRow.laid).forCall (fun _ _ => 0) ⟨#[], #[.int .i64 0, .int .i64 0, .string ByteArray.empty], []⟩) 5 ⟨#[], #[.int .i64 0, .int .i64 0, .string ByteArray.empty], []⟩ = true := by kernel_rfl
  refine returnsInHanded_of_row (C := Tryd.checked) (s := Rows.OpenSpec.upto Rows.glyphBlanksSpec) own started (by kernel_rfl) Tryd.func5
    ⟨World.laidAll Tryd.prog os Rows.glyphBlanksUptoRow.laid, fun _ _ => 0, ⟨#[], #[.int .i64 0, .int .i64 0, .string ByteArray.empty], []⟩, World.laidAll_os _ _ _, World.shaped_of_ZipB (by kernel_rfl) (by kernel_rfl), (Input.okWide_of_okWideB (base := 0) hok).1, (Input.okWide_of_okWideB hok).2,
      OpenSpec.preRow_of_cond 8 hx (by kernel_rfl) (fun k hk => by cases hk; kernel_rfl) (by kernel_rfl) (by rw [MakeChecks.laidMetH_plain _ _ _ (by kernel_rfl)]; exact laidMet_laidAll _ (by kernel_rfl) (by kernel_rfl)), by
      simp only [Assume.holds]
      exact ⟨by simp, by simp, fun _ => Modest.zero, by simp, by simp⟩⟩ ?_
  intro W base args ds gs before hval0 hW _ hcond _ hL _ _
  have hk0 := of_decide_eq_true (hcond _ rfl)
  have hval : ∀ (j : Nat) t v, Tryd.f5.params[j]? = some t → args[j]? = some v → Value.okWide Tryd.prog W .any base t v := hval0
  have hW' := hW
  obtain ⟨p, q, hA0, hV, rfl, _, _⟩ := hW
  have hA : DataW.TrodAll enc Tryd.prog W 0 (fun _ => true) true Tryd.f5.params.toList args.toList ds p := hA0
  rw [Tryd.params5] at hA hval
  obtain ⟨v0, vs0, d0, ds0, p0, q0, hargs, rfl, rfl, h0, r0⟩ := trodAll_cons hA
  obtain ⟨v1, vs1, d1, ds1, p1, q1, rfl, rfl, rfl, h1, r1⟩ := trodAll_cons r0
  obtain ⟨v2, vs2, d2, ds2, p2, q2, rfl, rfl, rfl, h2, r2⟩ := trodAll_cons r1
  obtain ⟨rfl, rfl, rfl⟩ := trodAll_nil r2
  obtain rfl : args = #[v0, v1, v2] := by cases args; simp_all
  obtain ⟨rfl, rfl⟩ := trodVars_none hV
  obtain ⟨a0, rfl, rfl, rfl, w0⟩ := open_int Tryd.underlying3 (hval 0 3 v0 rfl rfl) h0
  obtain ⟨a1, rfl, rfl, rfl, w1⟩ := open_int Tryd.underlying3 (hval 1 3 v1 rfl rfl) h1
  obtain ⟨a2, rfl, rfl, rfl, w2⟩ := open_string Tryd.underlying9 (hval 2 9 v2 rfl rfl) h2
  simp only [List.append_nil, Rows.uptoBulkAll, Rows.uptoBulk] at hk0
  have z2 : a2.size ≤ 1048576 := by rw [Lib.size_eq]; omega
  clear hA0 hval0
  rw [MakeChecks.laidMetH_plain _ _ _ (by kernel_rfl)] at hL
  refine (walk a0 a1 a2 w0 w1 z2 W (tabs_of hL)).mono fun e W' ⟨he, bel⟩ => ?_
  subst he
  exact ⟨_, rfl, _, _, _, [], _, [], hW', trodAll_mk1 (shut_bool Tryd.underlying4 _), (trodAll_cons_mk (shut_int Tryd.underlying3 w0) (trodAll_cons_mk (shut_int Tryd.underlying3 w1) (trodAll_cons_mk (shut_string Tryd.underlying9 w2) trodAll_mk0))), rfl, bel.frame _, fun h => by cases h⟩

theorem over : Rows.GlyphBlanksUptoSaid :=
  OpenClaim.holds_of_cond 5 Tryd.f5 rfl rfl rfl rfl rfl rfl rfl ⟨rfl, rfl, rfl, rfl, rfl⟩ rfl rfl rfl rfl rfl (by kernel_rfl) Tryd.func5 (by kernel_rfl)
    (of_decide_eq_true (by kernel_rfl)) (by unfold Func.isWrapper; first | (rw [if_pos (by decide +kernel)]; kernel_rfl) | (rw [if_neg (by decide +kernel)]; exact ⟨rfl, rfl⟩))
    (fun os started H enc _ F => by rw [OpenClaim.pre_eq_preRow]; exact lifted os started H enc F)

theorem card : Rows.GlyphBlanksUptoCardSaid :=
  Claim7.holds_tied_plain_at .later [] _ _ _ _ over (fun _ h => by cases h) (by kernel_rfl) (fun _ h => by cases h) glyphBlanksUpto_row_tie rfl ⟨rfl, rfl⟩ (by kernel_rfl) rfl
    (fun f fn hf hfn => by
      obtain rfl : f = 5 := Option.some.inj ((show Tryd.prog.funcNamed Rows.glyphBlanksUptoRow.func = some 5 by kernel_rfl).symm.trans hf) |>.symm
      obtain rfl : fn = Tryd.f5 := (Option.some.inj (Tryd.func5.symm.trans hfn)).symm
      exact ⟨by kernel_rfl, fun j t ht => by
        rw [Tryd.params5] at ht
        have hm : t ∈ [3, 3, 9] := by simpa using Array.mem_of_getElem? ht
        have hall : ([3, 3, 9].all fun u => !Tryd.prog.wantsStandIn u) = true := by kernel_rfl
        exact (show Tryd.prog.wantsStandIn t = false by simpa using List.all_eq_true.1 hall t hm)⟩)
    (by kernel_rfl)


end Go.Proofs.YtnnhnjccicfdlabDoor.glyphBlanks
namespace Go.Proofs.YtnnhnjccicfdlabDoor
theorem glyphBlanks_holds : Rows.GlyphBlanksUptoCardSaid := glyphBlanks.card
#print axioms glyphBlanks_holds
end Go.Proofs.YtnnhnjccicfdlabDoor
