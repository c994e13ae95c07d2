/-
  Of any bytes: WireTakes returns true. No condition.
-/
import Derived.Test.YtfcoanlegjddpaaRows
import Derived.Test.YtfcoanlegjddpaaWrOwn
import Derived.Test.YtfcoanlegjddpaaSmOpen
import Derived.Test.YtfcoanlegjddpaaWrRefUnp
import Derived.WalkKit
import Derived.ProofKit
import Derived.OpenShut
import Derived.ShutString
import Derived.ChangeOld
import Derived.Below
import Derived.SizedLaws
namespace Go.Proofs.Ytfcoanlegjddpaa.wireTakes
open Go.ChangeShapes Go.WideShapes Go.ChangeAt Go.RowKit

set_option maxRecDepth 1000000 in
set_option maxHeartbeats 2000000 in
theorem walk (w : World) (oa : Option Addr) (len cap : Nat) (p : List (BitVec 8)) (hlen : p.length = len) (_ : len ≤ maxLen) (hp : hasBytesN w oa cap p) :
    Calls Try.prog 4 #[.slice oa len cap] w fun e w' => e = .returned (.bool true) ∧ Below w.heap.size w w' := by
  have HP : Hid (hasBytesN w oa cap p ∧ p.length = len) := ⟨hp, hlen⟩
  clear hp hlen
  by_cases h5 : 5000 < len
  · have h5i : (5000 : Int) < (len : Int) := by omega
    go_enter Try.func4, Try.ntmps4
    go_wp2
    go_ret
    exact ⟨rfl, Below.refl _ _⟩
  · have h5i : ¬ (5000 : Int) < (len : Int) := by omega
    obtain ⟨v1, w1, hrun, hr1, hr2⟩ := copy_any w oa len cap p HP.out.1 HP.out.2 (by omega)
    have HX : Hid (BRow w1 w.heap.size v1 p ∧ Below w.heap.size w w1) := ⟨hr1, hr2⟩
    obtain ⟨o1, c1, rfl, hb1, hc1, ho1⟩ := hr1.slice
    have HB1 : Hid (hasBytes w1 o1 p ∧ p.length ≤ c1 ∧ (∀ g, o1 = some g → g.block < w1.heap.size)) := ⟨hb1, hc1, ho1⟩
    rw [HP.out.2] at hrun
    have HRUN : Hid ((Builtin.append_ #[28, 28] 28 #[.slice (some ⟨w.heap.size, 0, none⟩) 0 0, .slice oa len cap]).run Try.prog (w.alloc (.cells #[] 5)) = .ok (.slice o1 len c1) w1) := hrun
    clear hb1 hc1 ho1 hr1 hr2 hrun
    have HU : Hid (∀ l, unpackR p = some l → SmallL l ∧ l.length ≤ 100) := fun l h => small_unp h
    cases hu : unpackR p with
    | none =>
      have HR : Hid (unpackR p = none) := hu
      clear hu
      go_enter Try.func4, Try.ntmps4
      go_wp2_with (at_builtin; refine wpList_append_run rfl _ _ 28 rfl _ _ rfl rfl _ _ HRUN.out ?_)
      go_wp2_with fail
      have D := unpack_any o1 c1 p w1 HB1.out.1 HB1.out.2.1 HB1.out.2.2
      rw [HP.out.2, HR.out] at D
      refine D.mono ?_
      rintro e w2 ⟨u, x, rfl, ⟨rfl, rfl⟩, hb⟩
      have HA : Hid (Below w.heap.size w w2) := HX.out.2.trans (hb.mono HX.out.2.size)
      clear hb D
      go_wp2_with fail
      have D := refUnpack_any oa cap p w2 (HP.out.1.1.below HA.out) HP.out.1.2.1 (by rw [HP.out.2]; omega)
      rw [HP.out.2, HR.out] at D
      refine D.mono ?_
      rintro e w3 ⟨u, x, rfl, ⟨rfl, rfl⟩, hb⟩
      have HB : Hid (Below w.heap.size w w3) := HA.out.trans (hb.mono HA.out.size)
      clear hb D
      go_wp2_with fail
      refine (known_any w3).mono ?_
      rintro e w5 ⟨rfl, hk⟩
      have HB5 : Hid (Below w.heap.size w w5) := HB.out.trans (hk.mono HB.out.size)
      clear hk
      go_wp2
      go_ret
      exact ⟨rfl, HB5.out⟩
    | some l =>
      have HR : Hid (unpackR p = some l) := hu
      clear hu
      go_enter Try.func4, Try.ntmps4
      go_wp2_with (at_builtin; refine wpList_append_run rfl _ _ 28 rfl _ _ rfl rfl _ _ HRUN.out ?_)
      go_wp2_with fail
      have D := unpack_any o1 c1 p w1 HB1.out.1 HB1.out.2.1 HB1.out.2.2
      rw [HP.out.2, HR.out] at D
      refine D.mono ?_
      rintro e w2 ⟨u, x, rfl, ⟨rfl, c, v, rfl, hcr⟩, hb⟩
      have HA : Hid (Crate w2 w1.heap.size c v l ∧ Below w.heap.size w w2) := ⟨hcr, HX.out.2.trans (hb.mono HX.out.2.size)⟩
      clear hb hcr D
      go_wp2_with fail
      have D := refUnpack_any oa cap p w2 (HP.out.1.1.below HA.out.2) HP.out.1.2.1 (by rw [HP.out.2]; omega)
      rw [HP.out.2, HR.out] at D
      refine D.mono ?_
      rintro e w3 ⟨u, x, rfl, ⟨rfl, y, z, rfl, hrf⟩, hb⟩
      have HB : Hid (RefC w3 w2.heap.size y z (l.map It.th) ∧ Below w2.heap.size w2 w3 ∧ Below w.heap.size w w3) := ⟨hrf, hb, HA.out.2.trans (hb.mono HA.out.2.size)⟩
      clear hb hrf D
      go_wp2_with fail
      refine (alike_any c _ l w3 (HA.out.1.reads.below HB.out.2.1) HB.out.1.reads (HU.out l HR.out).1).mono ?_
      rintro e w4 ⟨rfl, hk⟩
      have HB4 : Hid (Below w.heap.size w w4) := HB.out.2.2.trans (hk.mono HB.out.2.2.size)
      clear hk
      go_wp2_with fail
      refine (known_any w4).mono ?_
      rintro e w5 ⟨rfl, hk⟩
      have HB5 : Hid (Below w.heap.size w w5) := HB4.out.trans (hk.mono HB4.out.size)
      clear hk
      go_wp2
      go_ret
      exact ⟨rfl, HB5.out⟩

theorem own : ownKnob Try.prog.godebug = none := by kernel_rfl

set_option maxRecDepth 100000 in
theorem lifted (os : Os) (started : os.Started) (H : Type) (enc : TypeId × Value → H) :
    ReturnsInHanded {} Try.checked os 4 .any (Rows.wireTakesSpec.pre6 enc Try.prog Try.f4 Rows.wireTakesRow.domain false) (Rows.wireTakesSpec.post enc Try.prog Try.f4 false true false false) := by
  refine returnsInHanded_of_change (C := Try.checked) own started (by kernel_rfl) Try.func4
    (ChangeSpec.witness6 (enc := enc) (C := Try.checked) false ⟨#[], #[.slice none 0 0], []⟩ 8 (by kernel_rfl) (by kernel_rfl) (by kernel_rfl) (by kernel_rfl)) ?_
  intro W base args ds gs before hval0 hW _ _
  have hval : ∀ (j : Nat) t v, Try.f4.params[j]? = some t → args[j]? = some v → Value.okWide Try.prog W .any base t v := hval0
  have hW' := hW
  obtain ⟨p, q, hA0, hV, rfl, _, _⟩ := hW
  have hA : DataW.TrodAll enc Try.prog W 0 (fun _ => true) true Try.f4.params.toList args.toList ds p := hA0
  rw [Try.params4] at hA hval
  obtain ⟨v0, vs0, d0, ds0, p0, q0, hargs, rfl, rfl, h0, r0⟩ := trodAll_cons hA
  obtain ⟨rfl, rfl, rfl⟩ := trodAll_nil r0
  obtain rfl : args = #[v0] := by cases args; simp_all
  obtain ⟨rfl, rfl⟩ := trodVars_none hV
  obtain ⟨a0, len0, cap0, rfl⟩ := okWide_slice Try.underlying28 (hval 0 28 v0 rfl rfl)
  have k0 := h0
  have lt0 : ∀ x ∈ p0, x.block < W.heap.size := by obtain ⟨m, hm⟩ := k0; exact DataW.trod_lt m _ _ _ hm
  obtain ⟨z0, e0, m0, s0⟩ : ∃ l : List (BitVec 8), l.length = len0 ∧ len0 ≤ maxLen ∧ hasBytesN W a0 cap0 l := by
    obtain ⟨fuel, hf⟩ := h0
    exact open_bytesn hf
  clear hA0 hval0
  refine (walk W a0 len0 cap0 z0 e0 m0 s0 ).mono fun e W' ⟨he, bel⟩ => ?_
  subst he
  exact ⟨_, rfl, _, _, _, [], _, [], hW', trodAll_mk1 (shut_bool Try.underlying4 _), (trodAll_cons_mk (Below.trod laidOut (by kernel_rfl) (of_decide_eq_true (by kernel_rfl)) k0 bel lt0) trodAll_mk0), rfl, bel.frame _, fun h => by cases h⟩

theorem over : Rows.wireTakesRow.holds Try.pinned (OpenSpec.ofChange Rows.wireTakesSpec) :=
  OpenClaim.holds_of_wide 4 Try.f4 rfl rfl rfl rfl rfl rfl rfl ⟨rfl, rfl, rfl, rfl, rfl⟩ rfl rfl rfl rfl rfl (by kernel_rfl) Try.func4 (by kernel_rfl)
    (of_decide_eq_true (by kernel_rfl)) (by unfold Func.isWrapper; first | (rw [if_pos (by decide +kernel)]; kernel_rfl) | (rw [if_neg (by decide +kernel)]; exact ⟨rfl, rfl⟩))
    (fun os started H enc _ => lifted os started H enc)

end Go.Proofs.Ytfcoanlegjddpaa.wireTakes
namespace Go.Proofs.Ytfcoanlegjddpaa
theorem wireTakes_holds : Rows.WireTakesSaid := wireTakes.over
#print axioms wireTakes_holds
end Go.Proofs.Ytfcoanlegjddpaa
