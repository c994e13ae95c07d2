/-
  Of every number and every text: GlyphWrong returns true. No condition.
-/
import Derived.Test.YtnnhnjccicfdlaaRows
import Derived.Test.YtnnhnjccicfdlaaKnown
import Derived.Test.YtnnhnjccicfdlaaReps
import Derived.WalkKit
import Derived.ProofKit
import Derived.OpenShut
import Derived.ShutString
import Derived.ChangeOld
import Derived.Below
namespace Go.Proofs.Ytnnhnjccicfdlaa.glyphWrong
open Go.ChangeShapes Go.WideShapes Go.ChangeAt Go.RowKit
open Go.ChangeMaps (open_string shut_string)

theorem ue : oneRune [195, 188] 252 2 := oneRune_encode 252 (by omega) (by omega) (by omega)

theorem words_ff (S more : ByteArray) (n : Nat) (hS : S.data.toList = repL [195, 188] n) (hs : (S ++ ⟨#[255]⟩ ++ more).size ≤ 4294967296) (w : World) :
    Calls Try.prog 11 #[.string (S ++ ⟨#[255]⟩ ++ more)] w fun e w' => e = .returned (.tuple #[.slice none 0 0, .int .i64 n]) ∧ Below w.heap.size w w' := by
  refine words_bad _ w hs n ?_
  rw [show (S ++ ⟨#[255]⟩ ++ more).data.toList = repL [195, 188] n ++ 255 :: more.data.toList by simp [hS], wrongO, runes_rep ue, runes_ff, wrongF_rep _ _ (by decide) (by decide)]
  simp
theorem width_ff (S : ByteArray) (n : Nat) (hS : S.data.toList = repL [195, 188] n) (hs : (S ++ ⟨#[255]⟩).size ≤ 4294967296) (w : World) :
    Calls Try.prog 10 #[.string (S ++ ⟨#[255]⟩)] w fun e w' => e = .returned (.int .i64 (n + 1)) ∧ Below w.heap.size w w' := by
  have h := width_any (S ++ ⟨#[255]⟩) w (by unfold maxLen; omega)
  rw [show (runes (S ++ ⟨#[255]⟩ : ByteArray).data.toList).length = n + 1 by
    rw [show (S ++ ⟨#[255]⟩ : ByteArray).data.toList = repL [195, 188] n ++ [255] by simp [hS], runes_rep ue, runes_ff, runes_nil]
    simp] at h
  exact h
theorem name_ff (w : World) : Calls Try.prog 9 #[.string ⟨#[97, 255]⟩] w fun e w' => e = .returned (.bool false) ∧ Below w.heap.size w w' := by
  have h := isName_any ⟨#[97, 255]⟩ w
  rw [show nameB (ByteArray.mk #[97, 255]).data.toList = false by decide +kernel] at h
  exact h

set_option maxRecDepth 1000000 in
set_option maxHeartbeats 2000000 in
theorem walk_in (n : Nat) (more : ByteArray) (w : World) (hn : n ≤ 100) (hm : more.size ≤ 100) :
    Calls Try.prog 4 #[.int .i64 n, .string more] w fun e w' => e = .returned (.bool true) ∧ Below w.heap.size w w' := by
  go_enter Try.func4, Try.ntmps4
  go_wp2
  go_loop [5, 6] (fun s i => ∃ (k : Nat) (S : ByteArray), k ≤ n ∧ i = .int .i64 k ∧ s = .string S ∧ S.data.toList = repL [195, 188] k ∧ S.size = 2 * k) (fun _ i => n - (intOf i).toNat)
  case atStart => exact ⟨0, ⟨#[]⟩, by omega, rfl, rfl, rfl, rfl⟩
  case round =>
    obtain ⟨k, S, hk, rfl, rfl, hS, hz⟩ := hrel
    have HS : Hid (S.data.toList = repL [195, 188] k) := hS
    have HZ : Hid (S.size = 2 * k) := hz
    have hz' : S.size ≤ 200 := by omega
    clear hS hz
    by_cases hlt : k < n
    · go_wp2
      go_round
      case rel => exact ⟨k + 1, S ++ ⟨#[195, 188]⟩, by omega, by go_num, rfl, by rw [repL_succ]; simp [HS.out], by have := HZ.out; rw [ByteArray.size_append, this]; rfl⟩
      case measure => simp [intOf]; omega
    · have e : k = n := by omega
      subst e
      have hz2 : (S ++ ⟨#[255]⟩ ++ more).size ≤ 4294967296 := by rw [ByteArray.size_append, ByteArray.size_append]; show S.size + 1 + more.size ≤ _; omega
      have hz3 : (S ++ ⟨#[255]⟩ : ByteArray).size ≤ 4294967296 := by rw [ByteArray.size_append]; show S.size + 1 ≤ _; omega
      go_wp2_with fail
      refine (words_ff S more k HS.out hz2 _).mono ?_
      rintro e w1 ⟨rfl, hb1⟩
      go_wp2_with fail
      refine (name_ff _).mono ?_
      rintro e w2 ⟨rfl, hb2⟩
      go_wp2_with fail
      refine (width_ff S k HS.out hz3 _).mono ?_
      rintro e w3 ⟨rfl, hb3⟩
      go_wp2_with fail
      refine (known_any _).mono ?_
      rintro e w4 ⟨rfl, hb4⟩
      go_wp2
      go_ret
      have s1 := hb1.size
      have s2 := hb2.size
      have s3 := hb3.size
      exact ⟨rfl, (hb1.trans (hb2.mono (by omega))).trans ((hb3.mono (by omega)).trans (hb4.mono (by omega)))⟩

set_option maxHeartbeats 1000000 in
theorem walk (n : Int) (more : ByteArray) (_ : (Lit.int .i64 n).wf = true) (_ : more.size ≤ maxLen) (w : World) :
    Calls Try.prog 4 #[.int .i64 n, .string more] w fun e w' => e = .returned (.bool true) ∧ Below w.heap.size w w' := by
  by_cases h : n < 0 ∨ 100 < n ∨ 100 < more.size
  · rcases h with h | h | h
    · go_enter Try.func4, Try.ntmps4
      go_wp2
      go_ret
      exact ⟨rfl, Below.refl _ _⟩
    · have h' : ¬ n < 0 := by omega
      go_enter Try.func4, Try.ntmps4
      go_wp2
      go_ret
      exact ⟨rfl, Below.refl _ _⟩
    · by_cases h1 : 0 ≤ n ∧ n ≤ 100
      · obtain ⟨h1, h2⟩ := h1
        go_enter Try.func4, Try.ntmps4
        go_wp2
        go_ret
        exact ⟨rfl, Below.refl _ _⟩
      · rcases (show n < 0 ∨ 100 < n by omega) with h | h
        · go_enter Try.func4, Try.ntmps4
          go_wp2
          go_ret
          exact ⟨rfl, Below.refl _ _⟩
        · have h' : ¬ n < 0 := by omega
          go_enter Try.func4, Try.ntmps4
          go_wp2
          go_ret
          exact ⟨rfl, Below.refl _ _⟩
  · obtain ⟨m, rfl⟩ := Int.eq_ofNat_of_zero_le (show 0 ≤ n by omega)
    exact walk_in m more w (by omega) (by omega)

theorem own : ownKnob Try.prog.godebug = none := by kernel_rfl

set_option maxRecDepth 100000 in
theorem lifted (os : Os) (started : os.Started) (H : Type) (enc : TypeId × Value → H) :
    ReturnsInHanded {} Try.checked os 4 .any (Rows.glyphWrongSpec.pre6 enc Try.prog Try.f4 Rows.glyphWrongRow.domain false) (Rows.glyphWrongSpec.post enc Try.prog Try.f4 false true false false) := by
  refine returnsInHanded_of_change (C := Try.checked) own started (by kernel_rfl) Try.func4
    (ChangeSpec.witness6 (enc := enc) (C := Try.checked) false ⟨#[], #[.int .i64 0, .string ByteArray.empty], []⟩ 8 (by kernel_rfl) (by kernel_rfl) (by kernel_rfl) (by kernel_rfl)) ?_
  intro W base args ds gs before hval0 hW _ _
  have hval : ∀ (j : Nat) t v, Try.f4.params[j]? = some t → args[j]? = some v → Value.okWide Try.prog W .any base t v := hval0
  have hW' := hW
  obtain ⟨p, q, hA0, hV, rfl, _, _⟩ := hW
  have hA : DataW.TrodAll enc Try.prog W 0 (fun _ => true) true Try.f4.params.toList args.toList ds p := hA0
  rw [Try.params4] at hA hval
  obtain ⟨v0, vs0, d0, ds0, p0, q0, hargs, rfl, rfl, h0, r0⟩ := trodAll_cons hA
  obtain ⟨v1, vs1, d1, ds1, p1, q1, rfl, rfl, rfl, h1, r1⟩ := trodAll_cons r0
  obtain ⟨rfl, rfl, rfl⟩ := trodAll_nil r1
  obtain rfl : args = #[v0, v1] := by cases args; simp_all
  obtain ⟨rfl, rfl⟩ := trodVars_none hV
  obtain ⟨a0, rfl, rfl, rfl, w0⟩ := open_int Try.underlying3 (hval 0 3 v0 rfl rfl) h0
  obtain ⟨a1, rfl, rfl, rfl, w1⟩ := open_string Try.underlying9 (hval 1 9 v1 rfl rfl) h1
  clear hA0 hval0
  refine (walk a0 a1 w0 w1 W).mono fun e W' ⟨he, bel⟩ => ?_
  subst he
  exact ⟨_, rfl, _, _, _, [], _, [], hW', trodAll_mk1 (shut_bool Try.underlying4 _), (trodAll_cons_mk (shut_int Try.underlying3 w0) (trodAll_cons_mk (shut_string Try.underlying9 w1) trodAll_mk0)), rfl, bel.frame _, fun h => by cases h⟩

theorem over : Rows.glyphWrongRow.holds Try.pinned (OpenSpec.ofChange Rows.glyphWrongSpec) :=
  OpenClaim.holds_of_wide 4 Try.f4 rfl rfl rfl rfl rfl rfl rfl ⟨rfl, rfl, rfl, rfl, rfl⟩ rfl rfl rfl rfl rfl (by kernel_rfl) Try.func4 (by kernel_rfl)
    (of_decide_eq_true (by kernel_rfl)) (by unfold Func.isWrapper; first | (rw [if_pos (by decide +kernel)]; kernel_rfl) | (rw [if_neg (by decide +kernel)]; exact ⟨rfl, rfl⟩))
    (fun os started H enc _ => lifted os started H enc)


end Go.Proofs.Ytnnhnjccicfdlaa.glyphWrong
namespace Go.Proofs.Ytnnhnjccicfdlaa
theorem glyphWrong_holds : Rows.GlyphWrongSaid := glyphWrong.over
#print axioms glyphWrong_holds
end Go.Proofs.Ytnnhnjccicfdlaa
