/-
  Of every rune: GlyphLetters returns true. No condition.
-/
import Derived.Test.YtnnhnjccicfdlaaRows
import Derived.Test.YtnnhnjccicfdlaaKnown
import Derived.Test.YtnnhnjccicfdlaaEnc
import Derived.WalkKit
import Derived.ProofKit
import Derived.OpenShut
import Derived.ShutString
import Derived.ChangeOld
import Derived.Below
import Derived.Laws.Cover4
namespace Go.Proofs.Ytnnhnjccicfdlaa.glyphLetters
open Go.ChangeShapes Go.WideShapes Go.ChangeAt Go.RowKit
open Go.ChangeMaps (open_string shut_string)

theorem letter_range {r : Int} (h : letterB r = true) : 65 ≤ r ∧ r ≤ 591 := by
  simp [letterB] at h; omega

set_option maxRecDepth 1000000 in
set_option maxHeartbeats 2000000 in
theorem walk_out (r : Int) (w : World) (h : r < 0 ∨ 1114111 < r ∨ (55296 ≤ r ∧ r ≤ 57343)) :
    Calls Try.prog 3 #[.int .i32 r] w fun e w' => e = .returned (.bool true) ∧ Below w.heap.size w w' := by
  have hl : letterB r = false := by
    cases hl : letterB r
    · rfl
    · have := letter_range hl; omega
  rcases h with h | h | h
  all_goals
    go_enter Try.func3, Try.ntmps3
    go_wp2_with fail
    refine (letter_any _ _).mono ?_
    rintro e w1 ⟨rfl, rfl⟩
    rw [hl]
    go_wp2_with fail
    refine (refLetter_any _ _).mono ?_
    rintro e w1 ⟨rfl, rfl⟩
    rw [hl]
    go_wp2_with fail
    refine (known_any _).mono ?_
    rintro e w1 ⟨rfl, hb⟩
    go_wp2
    go_ret
    exact ⟨rfl, hb⟩

theorem size_alloc (w : World) (o : Obj) : (w.alloc o).heap.size = w.heap.size + 1 := by simp
theorem rb (r : Int) : (runesBytes [r]).data.toList = (Utf8.encode r).data.toList ++ [] := by
  simp [runesBytes]

theorem name_one (r : Int) (w : World) (h0 : 0 ≤ r) (h1 : r ≤ 1114111) (h2 : ¬ (55296 ≤ r ∧ r ≤ 57343)) : Calls Try.prog 9 #[.string (runesBytes [r])] w fun e w' => e = .returned (.bool (letterB r)) ∧ Below w.heap.size w w' := by
  have h := isName_any (runesBytes [r]) w
  rw [show nameB (runesBytes [r]).data.toList = letterB r by
    rw [rb, nameB, runes_encode r h0 h1 h2, runes_nil]
    simp [nameF, standB, Int.toNat_of_nonneg h0]] at h
  exact h
theorem width_one (r : Int) (w : World) (h0 : 0 ≤ r) (h1 : r ≤ 1114111) (h2 : ¬ (55296 ≤ r ∧ r ≤ 57343)) : Calls Try.prog 10 #[.string (runesBytes [r])] w fun e w' => e = .returned (.int .i64 1) ∧ Below w.heap.size w w' := by
  have h := width_any (runesBytes [r]) w (by have := runesBytes_size_le [r]; simp at this; unfold maxLen; omega)
  rw [show (runes (runesBytes [r]).data.toList).length = 1 by rw [rb, runes_encode r h0 h1 h2, runes_nil]; rfl] at h
  exact h
theorem name_two (r : Int) (w : World) (h0 : 0 ≤ r) (h1 : r ≤ 1114111) (h2 : ¬ (55296 ≤ r ∧ r ≤ 57343)) : Calls Try.prog 9 #[.string (⟨#[97]⟩ ++ runesBytes [r])] w fun e w' => e = .returned (.bool (letterB r || digitB r)) ∧ Below w.heap.size w w' := by
  have h := isName_any (⟨#[97]⟩ ++ runesBytes [r]) w
  rw [show nameB (⟨#[97]⟩ ++ runesBytes [r] : ByteArray).data.toList = (letterB r || digitB r) by
    rw [show (⟨#[97]⟩ ++ runesBytes [r] : ByteArray).data.toList = 97 :: (runesBytes [r]).data.toList by simp, rb, nameB, runes_ascii 97 (by decide), runes_encode r h0 h1 h2, runes_nil]
    have h97 : letterB 97 = true := by decide +kernel
    simp only [nameF, Int.toNat_of_nonneg h0, standB, Nat.zero_add]
    cases letterB r <;> cases digitB r <;> simp [h97]] at h
  exact h

set_option maxRecDepth 1000000 in
set_option maxHeartbeats 2000000 in
theorem walk_in (r : Int) (w : World) (h0 : 0 ≤ r) (h1 : r ≤ 1114111) (h2 : ¬ (55296 ≤ r ∧ r ≤ 57343)) :
    Calls Try.prog 3 #[.int .i32 r] w fun e w' => e = .returned (.bool true) ∧ Below w.heap.size w w' := by
  have hcv : ∀ W : World, (convert 24 9 (.slice (some ⟨W.heap.size, 0, none⟩) 1 1)).run Try.prog (W.alloc (.cells #[.int .i32 r] 21)) = .ok (.string (runesBytes ([r].take 1))) (W.alloc (.cells #[.int .i32 r] 21)) := fun W =>
    run_convert_runes _ 24 9 21 ⟨W.heap.size, 0, none⟩ 1 1 [r] (by simp) Try.underlying24 Try.underlying21 Try.underlying9 (fun j hj => by
      have : j = 0 := by simp at hj; omega
      subst this
      simp [Addr.add])
  have hsz : (runesBytes [r]).size ≤ 4 := by have := runesBytes_size_le [r]; simpa using this
  cases hl : letterB r
  · cases hd : digitB r
    all_goals simp only [digitB, decide_eq_true_eq, decide_eq_false_iff_not] at hd
    · have hr : r < 48 ∨ (57 < r ∧ r < 55296) ∨ 57343 < r := by omega
      have hd' : digitB r = false := by simp only [digitB, decide_eq_false_iff_not]; exact hd
      rcases hr with hr | hr | hr
      all_goals
        have HD : Hid (digitB r = false) := hd'
        clear hd hd'
        go_enter Try.func3, Try.ntmps3
        go_wp2_with fail
        refine (letter_any _ _).mono ?_
        rintro e w1 ⟨rfl, rfl⟩
        rw [hl]
        go_wp2_with fail
        refine (refLetter_any _ _).mono ?_
        rintro e w1 ⟨rfl, rfl⟩
        rw [hl]
        go_wp2_with fail
        refine (name_one r _ h0 h1 h2).mono ?_
        rintro e w2 ⟨rfl, hb2⟩
        rw [hl]
        go_wp2_with fail
        refine (width_one r _ h0 h1 h2).mono ?_
        rintro e w3 ⟨rfl, hb3⟩
        go_wp2_with fail
        refine (name_two r _ h0 h1 h2).mono ?_
        rintro e w4 ⟨rfl, hb4⟩
        rw [hl, HD.out, Bool.or_false]
        go_wp2_with fail
        refine (known_any _).mono ?_
        rintro e w5 ⟨rfl, hb5⟩
        go_wp2
        go_ret
        have s2 := hb2.size
        have s3 := hb3.size
        have s4 := hb4.size
        simp only [size_alloc] at s2
        exact ⟨ret_bool (by first | rfl | (simp; omega)), ((((Below.refl _ _).alloc (Nat.le_refl _) _).trans (hb2.mono (by simp))).trans (hb3.mono (by omega))).trans ((hb4.mono (by omega)).trans (hb5.mono (by omega)))⟩
    · have hd' : digitB r = true := by simp only [digitB, decide_eq_true_eq]; exact hd
      have HD : Hid (digitB r = true) := hd'
      obtain ⟨hd1, hd2⟩ := hd
      clear hd'
      go_enter Try.func3, Try.ntmps3
      go_wp2_with fail
      refine (letter_any _ _).mono ?_
      rintro e w1 ⟨rfl, rfl⟩
      rw [hl]
      go_wp2_with fail
      refine (refLetter_any _ _).mono ?_
      rintro e w1 ⟨rfl, rfl⟩
      rw [hl]
      go_wp2_with fail
      refine (name_one r _ h0 h1 h2).mono ?_
      rintro e w2 ⟨rfl, hb2⟩
      rw [hl]
      go_wp2_with fail
      refine (width_one r _ h0 h1 h2).mono ?_
      rintro e w3 ⟨rfl, hb3⟩
      go_wp2_with fail
      refine (name_two r _ h0 h1 h2).mono ?_
      rintro e w4 ⟨rfl, hb4⟩
      rw [hl, HD.out, Bool.or_true]
      go_wp2_with fail
      refine (known_any _).mono ?_
      rintro e w5 ⟨rfl, hb5⟩
      go_wp2
      go_ret
      have s2 := hb2.size
      have s3 := hb3.size
      have s4 := hb4.size
      simp only [size_alloc] at s2
      exact ⟨ret_bool (by first | rfl | (simp; omega)), ((((Below.refl _ _).alloc (Nat.le_refl _) _).trans (hb2.mono (by simp))).trans (hb3.mono (by omega))).trans ((hb4.mono (by omega)).trans (hb5.mono (by omega)))⟩
  · have hr := letter_range hl
    go_enter Try.func3, Try.ntmps3
    go_wp2_with fail
    refine (letter_any _ _).mono ?_
    rintro e w1 ⟨rfl, rfl⟩
    rw [hl]
    go_wp2_with fail
    refine (refLetter_any _ _).mono ?_
    rintro e w1 ⟨rfl, rfl⟩
    rw [hl]
    go_wp2_with fail
    refine (name_one r _ h0 h1 h2).mono ?_
    rintro e w2 ⟨rfl, hb2⟩
    rw [hl]
    go_wp2_with fail
    refine (width_one r _ h0 h1 h2).mono ?_
    rintro e w3 ⟨rfl, hb3⟩
    go_wp2_with fail
    refine (name_two r _ h0 h1 h2).mono ?_
    rintro e w4 ⟨rfl, hb4⟩
    rw [hl, Bool.true_or]
    go_wp2_with fail
    refine (known_any _).mono ?_
    rintro e w5 ⟨rfl, hb5⟩
    go_wp2
    go_ret
    have s2 := hb2.size
    have s3 := hb3.size
    have s4 := hb4.size
    simp only [size_alloc] at s2
    exact ⟨ret_bool (by first | rfl | (simp; omega)), ((((Below.refl _ _).alloc (Nat.le_refl _) _).trans (hb2.mono (by simp))).trans (hb3.mono (by omega))).trans ((hb4.mono (by omega)).trans (hb5.mono (by omega)))⟩

theorem walk (r : Int) (_ : (Lit.int .i32 r).wf = true) (w : World) :
    Calls Try.prog 3 #[.int .i32 r] w fun e w' => e = .returned (.bool true) ∧ Below w.heap.size w w' := by
  by_cases h : r < 0 ∨ 1114111 < r ∨ (55296 ≤ r ∧ r ≤ 57343)
  · exact walk_out r w h
  · exact walk_in r w (by omega) (by omega) (by omega)

theorem own : ownKnob Try.prog.godebug = none := by kernel_rfl

set_option maxRecDepth 100000 in
theorem lifted (os : Os) (started : os.Started) (H : Type) (enc : TypeId × Value → H) :
    ReturnsInHanded {} Try.checked os 3 .any (Rows.glyphLettersSpec.pre6 enc Try.prog Try.f3 Rows.glyphLettersRow.domain false) (Rows.glyphLettersSpec.post enc Try.prog Try.f3 false true false false) := by
  refine returnsInHanded_of_change (C := Try.checked) own started (by kernel_rfl) Try.func3
    (ChangeSpec.witness6 (enc := enc) (C := Try.checked) false ⟨#[], #[.int .i32 0], []⟩ 8 (by kernel_rfl) (by kernel_rfl) (by kernel_rfl) (by kernel_rfl)) ?_
  intro W base args ds gs before hval0 hW _ _
  have hval : ∀ (j : Nat) t v, Try.f3.params[j]? = some t → args[j]? = some v → Value.okWide Try.prog W .any base t v := hval0
  have hW' := hW
  obtain ⟨p, q, hA0, hV, rfl, _, _⟩ := hW
  have hA : DataW.TrodAll enc Try.prog W 0 (fun _ => true) true Try.f3.params.toList args.toList ds p := hA0
  rw [Try.params3] at hA hval
  obtain ⟨v0, vs0, d0, ds0, p0, q0, hargs, rfl, rfl, h0, r0⟩ := trodAll_cons hA
  obtain ⟨rfl, rfl, rfl⟩ := trodAll_nil r0
  obtain rfl : args = #[v0] := by cases args; simp_all
  obtain ⟨rfl, rfl⟩ := trodVars_none hV
  obtain ⟨a0, rfl, rfl, rfl, w0⟩ := open_int Try.underlying21 (hval 0 21 v0 rfl rfl) h0
  clear hA0 hval0
  refine (walk a0 w0 W).mono fun e W' ⟨he, bel⟩ => ?_
  subst he
  exact ⟨_, rfl, _, _, _, [], _, [], hW', trodAll_mk1 (shut_bool Try.underlying4 _), (trodAll_cons_mk (shut_int Try.underlying21 w0) trodAll_mk0), rfl, bel.frame _, fun h => by cases h⟩

theorem over : Rows.glyphLettersRow.holds Try.pinned (OpenSpec.ofChange Rows.glyphLettersSpec) :=
  OpenClaim.holds_of_wide 3 Try.f3 rfl rfl rfl rfl rfl rfl rfl ⟨rfl, rfl, rfl, rfl, rfl⟩ rfl rfl rfl rfl rfl (by kernel_rfl) Try.func3 (by kernel_rfl)
    (of_decide_eq_true (by kernel_rfl)) (by unfold Func.isWrapper; first | (rw [if_pos (by decide +kernel)]; kernel_rfl) | (rw [if_neg (by decide +kernel)]; exact ⟨rfl, rfl⟩))
    (fun os started H enc _ => lifted os started H enc)


end Go.Proofs.Ytnnhnjccicfdlaa.glyphLetters
namespace Go.Proofs.Ytnnhnjccicfdlaa
theorem glyphLetters_holds : Rows.GlyphLettersSaid := glyphLetters.over
#print axioms glyphLetters_holds
end Go.Proofs.Ytnnhnjccicfdlaa
