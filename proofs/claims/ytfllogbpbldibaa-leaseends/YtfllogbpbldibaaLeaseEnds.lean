/-
  Of any two numbers: LeaseEnds returns true. No condition.
-/
import Derived.Test.YtfllogbpbldibaaRows
import Derived.Test.YtfllogbpbldibaaLsAt
import Derived.Test.YtfllogbpbldibaaLsArgs
import Derived.ShutString
namespace Go.Proofs.Ytfllogbpbldibaa.leaseEnds
open Go.ChangeShapes Go.WideShapes Go.ChangeAt Go.RowKit

set_option maxRecDepth 1000000 in
set_option maxHeartbeats 8000000 in
theorem walk (tick more : Int) (_ : (Lit.int IntKind.i64 tick).wf = true) (_ : (Lit.int IntKind.i64 more).wf = true) (w : World) : Calls Try.prog 4 #[.int .i64 tick, .int .i64 more] w fun e w' => e = .returned (.bool true) ∧ Below w.heap.size w w' := by
  by_cases h1 : tick < 0
  · go_enter Try.func4, Try.ntmps4
    go_wp2
    go_ret
    exact ⟨rfl, Below.refl _ _⟩
  by_cases h2 : 1000000 < tick
  · go_enter Try.func4, Try.ntmps4
    go_wp2
    go_ret
    exact ⟨rfl, Below.refl _ _⟩
  by_cases h3 : more < 0
  · go_enter Try.func4, Try.ntmps4
    go_wp2
    go_ret
    exact ⟨rfl, Below.refl _ _⟩
  by_cases h4 : 20 < more
  · go_enter Try.func4, Try.ntmps4
    go_wp2
    go_ret
    exact ⟨rfl, Below.refl _ _⟩
  by_cases h5 : more < 5
  case pos =>
    go_enter Try.func4, Try.ntmps4
    go_wp2_with fail
    refine (new_l w _ (Below.refl _ _)).mono ?_
    rintro e w1 ⟨b, rfl, h, -, -⟩
    have H1 : Hid (LsL w w1 b newX) := h
    clear h
    have D := grant_l w w1 b _ 7 tick H1.out (by omega)
    go_wp2_with fail
    refine D.mono ?_
    rintro e w2 ⟨rfl, h, -⟩
    have H2 : Hid (LsL w w2 b (grantX 7 tick)) := h
    clear D h H1
    have D := live_l H2.out (tick + more) true (live_yes (by omega))
    go_wp2_with fail
    refine D.mono ?_
    rintro e w9 ⟨rfl, hw⟩
    rw [hw]
    clear hw w9 D
    have D := grant_l w w2 b _ 7 (tick + more) H2.out (by omega)
    go_wp2_with fail
    refine D.mono ?_
    rintro e w3 ⟨rfl, h, -⟩
    have H3 : Hid (LsL w w3 b (grantX 7 (tick + more))) := h
    clear D h H2
    have D := live_l H3.out (tick + more) true (live_yes (by omega))
    go_wp2_with fail
    refine D.mono ?_
    rintro e w9 ⟨rfl, hw⟩
    rw [hw]
    clear hw w9 D
    have D := live_l H3.out (tick + more + 8 - 3) false (live_no (by omega))
    go_wp2_with fail
    refine D.mono ?_
    rintro e w9 ⟨rfl, hw⟩
    rw [hw]
    clear hw w9 D
    have D := drop_l w w3 b _ H3.out
    go_wp2_with fail
    refine D.mono ?_
    rintro e w4 ⟨rfl, h, -⟩
    have H4 : Hid (LsL w w4 b (dropX (grantX 7 (tick + more)))) := h
    clear D h H3
    have D := live_l H4.out tick false rfl
    go_wp2_with fail
    refine D.mono ?_
    rintro e w9 ⟨rfl, hw⟩
    rw [hw]
    clear hw w9 D
    have D := live_l H4.out (tick + more) false rfl
    go_wp2_with fail
    refine D.mono ?_
    rintro e w9 ⟨rfl, hw⟩
    rw [hw]
    clear hw w9 D
    have D := epoch_l H4.out 7 rfl
    go_wp2_with fail
    refine D.mono ?_
    rintro e w9 ⟨rfl, hw⟩
    rw [hw]
    clear hw w9 D
    have HB : Hid (Below w.heap.size w w4) := H4.out.bl
    clear H4
    go_wp2_with fail
    refine (known_any _).mono ?_
    rintro e wk ⟨rfl, hb⟩
    have HBK : Hid (Below w.heap.size w wk) := HB.out.trans (hb.mono HB.out.size)
    clear hb HB
    go_wp2
    go_ret
    exact ⟨rfl, HBK.out⟩
  case neg =>
    go_enter Try.func4, Try.ntmps4
    go_wp2_with fail
    refine (new_l w _ (Below.refl _ _)).mono ?_
    rintro e w1 ⟨b, rfl, h, -, -⟩
    have H1 : Hid (LsL w w1 b newX) := h
    clear h
    have D := grant_l w w1 b _ 7 tick H1.out (by omega)
    go_wp2_with fail
    refine D.mono ?_
    rintro e w2 ⟨rfl, h, -⟩
    have H2 : Hid (LsL w w2 b (grantX 7 tick)) := h
    clear D h H1
    have D := live_l H2.out (tick + more) false (live_no (by omega))
    go_wp2_with fail
    refine D.mono ?_
    rintro e w9 ⟨rfl, hw⟩
    rw [hw]
    clear hw w9 D
    have D := grant_l w w2 b _ 7 (tick + more) H2.out (by omega)
    go_wp2_with fail
    refine D.mono ?_
    rintro e w3 ⟨rfl, h, -⟩
    have H3 : Hid (LsL w w3 b (grantX 7 (tick + more))) := h
    clear D h H2
    have D := live_l H3.out (tick + more) true (live_yes (by omega))
    go_wp2_with fail
    refine D.mono ?_
    rintro e w9 ⟨rfl, hw⟩
    rw [hw]
    clear hw w9 D
    have D := live_l H3.out (tick + more + 8 - 3) false (live_no (by omega))
    go_wp2_with fail
    refine D.mono ?_
    rintro e w9 ⟨rfl, hw⟩
    rw [hw]
    clear hw w9 D
    have D := drop_l w w3 b _ H3.out
    go_wp2_with fail
    refine D.mono ?_
    rintro e w4 ⟨rfl, h, -⟩
    have H4 : Hid (LsL w w4 b (dropX (grantX 7 (tick + more)))) := h
    clear D h H3
    have D := live_l H4.out tick false rfl
    go_wp2_with fail
    refine D.mono ?_
    rintro e w9 ⟨rfl, hw⟩
    rw [hw]
    clear hw w9 D
    have D := live_l H4.out (tick + more) false rfl
    go_wp2_with fail
    refine D.mono ?_
    rintro e w9 ⟨rfl, hw⟩
    rw [hw]
    clear hw w9 D
    have D := epoch_l H4.out 7 rfl
    go_wp2_with fail
    refine D.mono ?_
    rintro e w9 ⟨rfl, hw⟩
    rw [hw]
    clear hw w9 D
    have HB : Hid (Below w.heap.size w w4) := H4.out.bl
    clear H4
    go_wp2_with fail
    refine (known_any _).mono ?_
    rintro e wk ⟨rfl, hb⟩
    have HBK : Hid (Below w.heap.size w wk) := HB.out.trans (hb.mono HB.out.size)
    clear hb HB
    go_wp2
    go_ret
    exact ⟨rfl, HBK.out⟩

theorem own : ownKnob Try.prog.godebug = none := by kernel_rfl

set_option maxRecDepth 100000 in
theorem lifted (os : Os) (started : os.Started) (H : Type) (enc : TypeId × Value → H) :
    ReturnsInHanded {} Try.checked os 4 .any (Rows.leaseEndsSpec.pre6 enc Try.prog Try.f4 Rows.leaseEndsRow.domain false) (Rows.leaseEndsSpec.post enc Try.prog Try.f4 false true false false) := by
  refine returnsInHanded_of_change (C := Try.checked) own started (by kernel_rfl) Try.func4
    (ChangeSpec.witness6 (enc := enc) (C := Try.checked) false ⟨#[], #[.int .i64 0, .int .i64 0], []⟩ 8 (by kernel_rfl) (by kernel_rfl) (by kernel_rfl) (by kernel_rfl)) ?_
  intro W base args ds gs before hval0 hW _ _
  have hval : ∀ (j : Nat) t v, Try.f4.params[j]? = some t → args[j]? = some v → Value.okWide Try.prog W .any base t v := hval0
  have hW' := hW
  obtain ⟨p, q, hA0, hV, rfl, _, _⟩ := hW
  have hA : DataW.TrodAll enc Try.prog W 0 (fun _ => true) true Try.f4.params.toList args.toList ds p := hA0
  rw [Try.params4] at hA hval
  obtain ⟨v0, vs0, d0, ds0, p0, q0, hargs, rfl, rfl, h0, r0⟩ := trodAll_cons hA
  obtain ⟨v1, vs1, d1, ds1, p1, q1, rfl, rfl, rfl, h1, r1⟩ := trodAll_cons r0
  obtain ⟨rfl, rfl, rfl⟩ := trodAll_nil r1
  obtain rfl : args = #[v0, v1] := by cases args; simp_all
  obtain ⟨rfl, rfl⟩ := trodVars_none hV
  obtain ⟨a0, rfl, rfl, rfl, w0⟩ := open_int Try.underlying3 (hval 0 3 v0 rfl rfl) h0
  obtain ⟨a1, rfl, rfl, rfl, w1⟩ := open_int Try.underlying3 (hval 1 3 v1 rfl rfl) h1
  clear hA0 hval0
  refine (walk a0 a1 w0 w1 W).mono fun e W' ⟨he, bel⟩ => ?_
  subst he
  exact ⟨_, rfl, _, _, _, [], _, [], hW', trodAll_mk1 (shut_bool Try.underlying4 _), (trodAll_cons_mk (shut_int Try.underlying3 w0) (trodAll_cons_mk (shut_int Try.underlying3 w1) trodAll_mk0)), rfl, bel.frame _, fun h => by cases h⟩

theorem over : Rows.leaseEndsRow.holds Try.pinned (OpenSpec.ofChange Rows.leaseEndsSpec) :=
  OpenClaim.holds_of_wide 4 Try.f4 rfl rfl rfl rfl rfl rfl rfl ⟨rfl, rfl, rfl, rfl, rfl⟩ rfl rfl rfl rfl rfl (by kernel_rfl) Try.func4 (by kernel_rfl)
    (of_decide_eq_true (by kernel_rfl)) (by unfold Func.isWrapper; first | (rw [if_pos (by decide +kernel)]; kernel_rfl) | (rw [if_neg (by decide +kernel)]; exact ⟨rfl, rfl⟩))
    (fun os started H enc _ => lifted os started H enc)

end Go.Proofs.Ytfllogbpbldibaa.leaseEnds
namespace Go.Proofs.Ytfllogbpbldibaa
theorem leaseEnds_holds : Rows.LeaseEndsSaid := leaseEnds.over
#print axioms leaseEnds_holds
end Go.Proofs.Ytfllogbpbldibaa
