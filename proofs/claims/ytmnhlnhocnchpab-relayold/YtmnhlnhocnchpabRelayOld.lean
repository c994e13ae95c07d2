/-
  Of any two numbers: RelayOld returns true. No condition.
-/
import Derived.Test.YtmnhlnhocnchpabRows
import Derived.Test.YtmnhlnhocnchpabRlKnown
import Derived.Test.YtmnhlnhocnchpabRlArgs
import Derived.ShutString
namespace Go.Proofs.Ytmnhlnhocnchpab.relayOld
open Go.ChangeShapes Go.WideShapes Go.ChangeAt Go.RowKit

set_option maxRecDepth 1000000 in
set_option maxHeartbeats 8000000 in
theorem walk (now old : Int) (_ : (Lit.int IntKind.i64 now).wf = true) (_ : (Lit.int IntKind.i64 old).wf = true) (w : World) : Calls Try.prog 5 #[.int .i64 now, .int .i64 old] w fun e w' => e = .returned (.bool true) ∧ Below w.heap.size w w' := by
  by_cases g1 : now < 1
  · go_enter Try.func5, Try.ntmps5
    go_wp2
    go_ret
    exact ⟨rfl, Below.refl _ _⟩
  by_cases g2 : 1000000 < now
  · go_enter Try.func5, Try.ntmps5
    go_wp2
    go_ret
    exact ⟨rfl, Below.refl _ _⟩
  by_cases g3 : now < old
  · go_enter Try.func5, Try.ntmps5
    go_wp2
    go_ret
    exact ⟨rfl, Below.refl _ _⟩
  go_enter Try.func5, Try.ntmps5
  go_wp2_with fail
  refine (new_l w _ (Below.refl _ _)).mono ?_
  rintro e w1 ⟨b, rfl, h, -, -⟩
  have H1 : Hid (RlL w w1 b newR 0) := h
  clear h
  have D := begin_l w w1 b _ _ now H1.out ⟨now, -1, -1, 0, 0, 0, 0⟩ (begin_keeps (by show (0 : Int) < now; omega) (by omega) (.inl (by decide)))
  go_wp2_with fail
  refine D.mono ?_
  rintro e w2 ⟨rfl, h, -⟩
  have H2 : Hid (RlL w w2 b ⟨now, -1, -1, 0, 0, 0, 0⟩ (0)) := h
  clear D h H1
  have D := ask_l w w2 b _ _ 1 4 H2.out (by decide) 1 0 0 ⟨now, 1, -1, 1, 0, now, 0⟩ (ask_free (by decide) (by decide) (by show (-1 : Int) < 0; decide) (by show (0 : Int) ≤ now; omega))
  go_wp2_with fail
  refine D.mono ?_
  rintro e w3 ⟨rfl, h, -⟩
  have H3 : Hid (RlL w w3 b ⟨now, 1, -1, 1, 0, now, 0⟩ (0+1)) := h
  clear D h H2
  have D := ask_l w w3 b _ _ 1 5 H3.out (by decide) 1 0 0 ⟨now, 1, 1, 1, 5, now, 0⟩ (ask_own (by decide) (by decide) rfl)
  go_wp2_with fail
  refine D.mono ?_
  rintro e w4 ⟨rfl, h, -⟩
  have H4 : Hid (RlL w w4 b ⟨now, 1, 1, 1, 5, now, 0⟩ (0+1+1)) := h
  clear D h H3
  have D := begin_l w w4 b _ _ old H4.out ⟨now, 1, 1, 1, 5, now, 0⟩ (begin_old (.inl (by show old ≤ now; omega)))
  go_wp2_with fail
  refine D.mono ?_
  rintro e w5 ⟨rfl, h, -⟩
  have H5 : Hid (RlL w w5 b ⟨now, 1, 1, 1, 5, now, 0⟩ (0+1+1)) := h
  clear D h H4
  have D := begin_l w w5 b _ _ 1099511627777 H5.out ⟨now, 1, 1, 1, 5, now, 0⟩ (begin_old (.inr (by decide)))
  go_wp2_with fail
  refine D.mono ?_
  rintro e w6 ⟨rfl, h, -⟩
  have H6 : Hid (RlL w w6 b ⟨now, 1, 1, 1, 5, now, 0⟩ (0+1+1)) := h
  clear D h H5
  have D := con_l H6.out 1 rfl
  go_wp2_with fail
  refine D.mono ?_
  rintro e w9 ⟨rfl, hw⟩
  rw [hw]
  clear hw w9 D
  have D := own_l H6.out 1 rfl
  go_wp2_with fail
  refine D.mono ?_
  rintro e w9 ⟨rfl, hw⟩
  rw [hw]
  clear hw w9 D
  have D := epoch_l H6.out 1 rfl
  go_wp2_with fail
  refine D.mono ?_
  rintro e w9 ⟨rfl, hw⟩
  rw [hw]
  clear hw w9 D
  have HB : Hid (Below w.heap.size w w6) := H6.out.bl
  clear H6
  go_wp2_with fail
  refine (known_any _).mono ?_
  rintro e wk ⟨rfl, hb⟩
  have HBK : Hid (Below w.heap.size w wk) := HB.out.trans (hb.mono HB.out.size)
  clear hb HB
  go_wp2
  go_ret
  exact ⟨rfl, HBK.out⟩

theorem own : ownKnob Try.prog.godebug = none := by kernel_rfl

set_option maxRecDepth 100000 in
theorem lifted (os : Os) (started : os.Started) (H : Type) (enc : TypeId × Value → H) :
    ReturnsInHanded {} Try.checked os 5 .any (Rows.relayOldSpec.pre6 enc Try.prog Try.f5 Rows.relayOldRow.domain false) (Rows.relayOldSpec.post enc Try.prog Try.f5 false true false false) := by
  refine returnsInHanded_of_change (C := Try.checked) own started (by kernel_rfl) Try.func5
    (ChangeSpec.witness6 (enc := enc) (C := Try.checked) false ⟨#[], #[.int .i64 0, .int .i64 0], []⟩ 8 (by kernel_rfl) (by kernel_rfl) (by kernel_rfl) (by kernel_rfl)) ?_
  intro W base args ds gs before hval0 hW _ _
  have hval : ∀ (j : Nat) t v, Try.f5.params[j]? = some t → args[j]? = some v → Value.okWide Try.prog W .any base t v := hval0
  have hW' := hW
  obtain ⟨p, q, hA0, hV, rfl, _, _⟩ := hW
  have hA : DataW.TrodAll enc Try.prog W 0 (fun _ => true) true Try.f5.params.toList args.toList ds p := hA0
  rw [Try.params5] at hA hval
  obtain ⟨v0, vs0, d0, ds0, p0, q0, hargs, rfl, rfl, h0, r0⟩ := trodAll_cons hA
  obtain ⟨v1, vs1, d1, ds1, p1, q1, rfl, rfl, rfl, h1, r1⟩ := trodAll_cons r0
  obtain ⟨rfl, rfl, rfl⟩ := trodAll_nil r1
  obtain rfl : args = #[v0, v1] := by cases args; simp_all
  obtain ⟨rfl, rfl⟩ := trodVars_none hV
  obtain ⟨a0, rfl, rfl, rfl, w0⟩ := open_int Try.underlying3 (hval 0 3 v0 rfl rfl) h0
  obtain ⟨a1, rfl, rfl, rfl, w1⟩ := open_int Try.underlying3 (hval 1 3 v1 rfl rfl) h1
  clear hA0 hval0
  refine (walk a0 a1 w0 w1 W).mono fun e W' ⟨he, bel⟩ => ?_
  subst he
  exact ⟨_, rfl, _, _, _, [], _, [], hW', trodAll_mk1 (shut_bool Try.underlying4 _), (trodAll_cons_mk (shut_int Try.underlying3 w0) (trodAll_cons_mk (shut_int Try.underlying3 w1) trodAll_mk0)), rfl, bel.frame _, fun h => by cases h⟩

theorem over : Rows.relayOldRow.holds Try.pinned (OpenSpec.ofChange Rows.relayOldSpec) :=
  OpenClaim.holds_of_wide 5 Try.f5 rfl rfl rfl rfl rfl rfl rfl ⟨rfl, rfl, rfl, rfl, rfl⟩ rfl rfl rfl rfl rfl (by kernel_rfl) Try.func5 (by kernel_rfl)
    (of_decide_eq_true (by kernel_rfl)) (by unfold Func.isWrapper; first | (rw [if_pos (by decide +kernel)]; kernel_rfl) | (rw [if_neg (by decide +kernel)]; exact ⟨rfl, rfl⟩))
    (fun os started H enc _ => lifted os started H enc)

end Go.Proofs.Ytmnhlnhocnchpab.relayOld
namespace Go.Proofs.Ytmnhlnhocnchpab
theorem relayOld_holds : Rows.RelayOldSaid := relayOld.over
#print axioms relayOld_holds
end Go.Proofs.Ytmnhlnhocnchpab
