/-
  Of every number and either width: GlyphNames returns true. No condition.
-/
import Derived.Test.YtnnhnjccicfdlaaRows
import Derived.Test.YtnnhnjccicfdlaaKnown
import Derived.Test.YtnnhnjccicfdlaaReps
import Derived.WalkKit
import Derived.ProofKit
import Derived.OpenShut
import Derived.ShutString
import Derived.ChangeOld
import Derived.Below
namespace Go.Proofs.Ytnnhnjccicfdlaa.glyphNames
open Go.ChangeShapes Go.WideShapes Go.ChangeAt Go.RowKit
open Go.ChangeMaps (open_string shut_string)

def unit (wide : Bool) : List UInt8 := if wide = true then [201, 143] else [122]
def unitR (wide : Bool) : Nat × Nat := if wide = true then (591, 2) else (122, 1)
theorem ue (wide : Bool) : oneRune (unit wide) (unitR wide).1 (unitR wide).2 := by
  cases wide
  · exact oneRune_ascii 122 (by decide)
  · exact oneRune_encode 591 (by omega) (by omega) (by omega)
theorem ul (wide : Bool) : letterB (unitR wide).1 = true := by cases wide <;> decide +kernel

theorem nameOf (b : Bool) (l : List UInt8) (S : ByteArray) (hS : S.data.toList = l) (h : nameB l = b) (w : World) :
    Calls Try.prog 9 #[.string S] w fun e w' => e = .returned (.bool b) ∧ Below w.heap.size w w' := by
  have h' := isName_any S w
  rw [hS, h] at h'
  exact h'

def ok1 (n : Int) : Bool := decide (1 ≤ n ∧ n ≤ 8)
def ok2 (n : Int) : Bool := decide (1 ≤ n ∧ n < 8)

theorem name1 (wide : Bool) (n : Nat) : nameB (repL (unit wide) n) = ok1 n := by
  have h := runes_rep (ue wide) [] n
  rw [List.append_nil] at h
  rw [nameB, h, runes_nil, nameF_rep0 _ _ (ul wide)]
  by_cases h8 : n ≤ 8
  · rw [if_pos h8, Bool.eq_iff_iff]; simp only [nameF, ok1, decide_eq_true_eq]; omega
  · rw [if_neg h8]; symm; rw [ok1, decide_eq_false_iff_not]; omega
theorem name2 (wide : Bool) (n : Nat) : nameB (repL (unit wide) n ++ [49]) = ok2 n := by
  rw [nameB, runes_rep (ue wide), runes_ascii 49 (by decide), runes_nil, nameF_rep0 _ _ (ul wide)]
  have hl : letterB 49 = false := by decide +kernel
  have hd : digitB 49 = true := by decide +kernel
  by_cases h8 : n ≤ 8
  · rw [if_pos h8, nameF]
    simp only [standB, show ((UInt8.toNat 49 : Nat) : Int) = 49 from rfl, hl, hd, Bool.false_or, Bool.and_true]
    rw [ok2]
    by_cases h : n = 8 ∨ decide ((0 : Int) < (n : Int)) = false
    · rw [if_pos h]; symm; rw [decide_eq_false_iff_not]; simp at h; omega
    · rw [if_neg h, nameF]; simp at h ⊢; omega
  · rw [if_neg h8]; symm; rw [ok2, decide_eq_false_iff_not]; omega
theorem name3 (l : List UInt8) : nameB (49 :: l) = false := by
  rw [nameB, runes_ascii 49 (by decide), nameF, if_pos]
  exact .inr (by decide +kernel)
theorem name4 (wide : Bool) (n : Nat) : nameB (repL (unit wide) n ++ [32]) = false := by
  rw [nameB, runes_rep (ue wide), runes_ascii 32 (by decide), runes_nil, nameF_rep0 _ _ (ul wide)]
  have hl : letterB 32 = false := by decide +kernel
  have hd : digitB 32 = false := by decide +kernel
  by_cases h8 : n ≤ 8
  · rw [if_pos h8, nameF, if_pos]
    simp only [standB, show ((UInt8.toNat 32 : Nat) : Int) = 32 from rfl, hl, hd, Bool.false_or, Bool.and_false, or_true]
  · rw [if_neg h8]

set_option maxRecDepth 1000000 in
set_option maxHeartbeats 2000000 in
theorem walk_in (n : Nat) (wide : Bool) (w : World) (hn : n ≤ 20) :
    Calls Try.prog 5 #[.int .i64 n, .bool wide] w fun e w' => e = .returned (.bool true) ∧ Below w.heap.size w w' := by
  go_enter Try.func5, Try.ntmps5
  go_wp2
  go_loop [5, 6] (fun s i => ∃ (k : Nat) (S : ByteArray), k ≤ n ∧ i = .int .i64 k ∧ s = .string S ∧ S.data.toList = repL (unit wide) k ∧ S.size ≤ 2 * k) (fun _ i => n - (intOf i).toNat)
  case atStart => exact ⟨0, ⟨#[]⟩, by omega, rfl, rfl, rfl, by exact Nat.le_refl 0⟩
  case round =>
    obtain ⟨k, S, hk, rfl, rfl, hS, hz⟩ := hrel
    have HS : Hid (S.data.toList = repL (unit wide) k) := hS
    have hz' : S.size ≤ 40 := by omega
    clear hS
    by_cases hlt : k < n
    · cases wide
      · go_wp2
        go_round
        case rel => exact ⟨k + 1, S ++ ⟨#[122]⟩, by omega, by go_num, rfl, by rw [repL_succ]; simp [HS.out, unit], by rw [ByteArray.size_append]; show S.size + 1 ≤ _; omega⟩
        case measure => simp [intOf]; omega
      · go_wp2
        go_round
        case rel => exact ⟨k + 1, S ++ ⟨#[201, 143]⟩, by omega, by go_num, rfl, by rw [repL_succ]; simp [HS.out, unit], by rw [ByteArray.size_append]; show S.size + 2 ≤ _; omega⟩
        case measure => simp [intOf]; omega
    · have e : k = n := by omega
      subst e
      have c1 := fun W => nameOf _ _ S HS.out (name1 wide k) W
      have c2 := fun W => nameOf _ (repL (unit wide) k ++ [49]) (S ++ ⟨#[49]⟩) (by simp [HS.out]) (name2 wide k) W
      have c3 := fun W => nameOf _ (49 :: repL (unit wide) k) (⟨#[49]⟩ ++ S) (by simp [HS.out]) (name3 _) W
      have c4 := fun W => nameOf _ (repL (unit wide) k ++ [32]) (S ++ ⟨#[32]⟩) (by simp [HS.out]) (name4 wide k) W
      have hcase : (k : Int) < 1 ∨ (1 ≤ (k : Int) ∧ (k : Int) < 8) ∨ (k : Int) = 8 ∨ 8 < (k : Int) := by omega
      rcases hcase with h | h | h | h
      all_goals
        first
        | rw [show ok1 k = true by simp only [ok1, decide_eq_true_eq]; omega] at c1
        | rw [show ok1 k = false by simp only [ok1, decide_eq_false_iff_not]; omega] at c1
        first
        | rw [show ok2 k = true by simp only [ok2, decide_eq_true_eq]; omega] at c2
        | rw [show ok2 k = false by simp only [ok2, decide_eq_false_iff_not]; omega] at c2
        have C1 : Hid (∀ W, _) := c1
        have C2 : Hid (∀ W, _) := c2
        have C3 : Hid (∀ W, _) := c3
        have C4 : Hid (∀ W, _) := c4
        clear c1 c2 c3 c4
        go_wp2_with fail
        refine (C1.out _).mono ?_
        rintro e w1 ⟨rfl, hb1⟩
        go_wp2_with fail
        refine (C2.out _).mono ?_
        rintro e w2 ⟨rfl, hb2⟩
        go_wp2_with fail
        refine (C3.out _).mono ?_
        rintro e w3 ⟨rfl, hb3⟩
        go_wp2_with fail
        refine (C4.out _).mono ?_
        rintro e w4 ⟨rfl, hb4⟩
        go_wp2_with fail
        refine (known_any _).mono ?_
        rintro e w5 ⟨rfl, hb5⟩
        go_wp2
        go_ret
        have s1 := hb1.size
        have s2 := hb2.size
        have s3 := hb3.size
        have s4 := hb4.size
        exact ⟨ret_bool (by first | rfl | (simp; omega)), (hb1.trans (hb2.mono (by omega))).trans ((hb3.mono (by omega)).trans ((hb4.mono (by omega)).trans (hb5.mono (by omega))))⟩

set_option maxHeartbeats 1000000 in
theorem walk (n : Int) (wide : Bool) (_ : (Lit.int .i64 n).wf = true) (w : World) :
    Calls Try.prog 5 #[.int .i64 n, .bool wide] w fun e w' => e = .returned (.bool true) ∧ Below w.heap.size w w' := by
  by_cases h : n < 0 ∨ 20 < n
  · rcases h with h | h
    · go_enter Try.func5, Try.ntmps5
      go_wp2
      go_ret
      exact ⟨rfl, Below.refl _ _⟩
    · have h' : ¬ n < 0 := by omega
      go_enter Try.func5, Try.ntmps5
      go_wp2
      go_ret
      exact ⟨rfl, Below.refl _ _⟩
  · obtain ⟨m, rfl⟩ := Int.eq_ofNat_of_zero_le (show 0 ≤ n by omega)
    exact walk_in m wide w (by omega)

theorem own : ownKnob Try.prog.godebug = none := by kernel_rfl

set_option maxRecDepth 100000 in
theorem lifted (os : Os) (started : os.Started) (H : Type) (enc : TypeId × Value → H) :
    ReturnsInHanded {} Try.checked os 5 .any (Rows.glyphNamesSpec.pre6 enc Try.prog Try.f5 Rows.glyphNamesRow.domain false) (Rows.glyphNamesSpec.post enc Try.prog Try.f5 false true false false) := by
  refine returnsInHanded_of_change (C := Try.checked) own started (by kernel_rfl) Try.func5
    (ChangeSpec.witness6 (enc := enc) (C := Try.checked) false ⟨#[], #[.int .i64 0, .bool false], []⟩ 8 (by kernel_rfl) (by kernel_rfl) (by kernel_rfl) (by kernel_rfl)) ?_
  intro W base args ds gs before hval0 hW _ _
  have hval : ∀ (j : Nat) t v, Try.f5.params[j]? = some t → args[j]? = some v → Value.okWide Try.prog W .any base t v := hval0
  have hW' := hW
  obtain ⟨p, q, hA0, hV, rfl, _, _⟩ := hW
  have hA : DataW.TrodAll enc Try.prog W 0 (fun _ => true) true Try.f5.params.toList args.toList ds p := hA0
  rw [Try.params5] at hA hval
  obtain ⟨v0, vs0, d0, ds0, p0, q0, hargs, rfl, rfl, h0, r0⟩ := trodAll_cons hA
  obtain ⟨v1, vs1, d1, ds1, p1, q1, rfl, rfl, rfl, h1, r1⟩ := trodAll_cons r0
  obtain ⟨rfl, rfl, rfl⟩ := trodAll_nil r1
  obtain rfl : args = #[v0, v1] := by cases args; simp_all
  obtain ⟨rfl, rfl⟩ := trodVars_none hV
  obtain ⟨a0, rfl, rfl, rfl, w0⟩ := open_int Try.underlying3 (hval 0 3 v0 rfl rfl) h0
  obtain ⟨a1, rfl, rfl, rfl⟩ := open_bool Try.underlying4 (hval 1 4 v1 rfl rfl) h1
  clear hA0 hval0
  refine (walk a0 a1 w0 W).mono fun e W' ⟨he, bel⟩ => ?_
  subst he
  exact ⟨_, rfl, _, _, _, [], _, [], hW', trodAll_mk1 (shut_bool Try.underlying4 _), (trodAll_cons_mk (shut_int Try.underlying3 w0) (trodAll_cons_mk (shut_bool Try.underlying4 _) trodAll_mk0)), rfl, bel.frame _, fun h => by cases h⟩

theorem over : Rows.glyphNamesRow.holds Try.pinned (OpenSpec.ofChange Rows.glyphNamesSpec) :=
  OpenClaim.holds_of_wide 5 Try.f5 rfl rfl rfl rfl rfl rfl rfl ⟨rfl, rfl, rfl, rfl, rfl⟩ rfl rfl rfl rfl rfl (by kernel_rfl) Try.func5 (by kernel_rfl)
    (of_decide_eq_true (by kernel_rfl)) (by unfold Func.isWrapper; first | (rw [if_pos (by decide +kernel)]; kernel_rfl) | (rw [if_neg (by decide +kernel)]; exact ⟨rfl, rfl⟩))
    (fun os started H enc _ => lifted os started H enc)


end Go.Proofs.Ytnnhnjccicfdlaa.glyphNames
namespace Go.Proofs.Ytnnhnjccicfdlaa
theorem glyphNames_holds : Rows.GlyphNamesSaid := glyphNames.over
#print axioms glyphNames_holds
end Go.Proofs.Ytnnhnjccicfdlaa
