/-
  Of any row of raw things: WirePacks returns true. No condition.
-/
import Derived.Test.YtfcoanlegjddpaaRows
import Derived.Test.YtfcoanlegjddpaaWrLaw
import Derived.Test.YtfcoanlegjddpaaWrConv
import Derived.Test.YtfcoanlegjddpaaCrOpen
import Derived.WalkKit
import Derived.ProofKit
import Derived.OpenShut
import Derived.ShutString
import Derived.ChangeOld
import Derived.Below
import Derived.SizedLaws
namespace Go.Proofs.Ytfcoanlegjddpaa.wirePacks
open Go.ChangeShapes Go.WideShapes Go.ChangeAt Go.RowKit

set_option maxRecDepth 1000000 in
set_option maxHeartbeats 2000000 in
theorem walk (w : World) (oa : Option Addr) (n cap : Nat) (l : List Th) (hn : l.length = n) (hm : n ≤ 140737488355328) (hS : hasThs w oa l) (hz : ∀ y ∈ l, y.s.size ≤ 140737488355328) :
    Calls Try.prog 3 #[.slice oa n cap] w fun e w' => e = .returned (.bool true) ∧ Below w.heap.size w w' := by
  have HN : Hid (l.length = n) := hn
  have HS : Hid (hasThs w oa l) := hS
  have HZ : Hid (∀ y ∈ l, y.s.size ≤ 140737488355328) := hz
  clear hn hS hz
  by_cases hlong : longF l = true
  · have HL : Hid (longF l = true) := hlong
    clear hlong
    go_enter Try.func3, Try.ntmps3
    go_wp2_with fail
    refine (long_any _ _ _ l _ HN.out HS.out hm HZ.out).mono ?_
    rw [HL.out]
    rintro e w1 ⟨rfl, hw⟩
    obtain rfl := hw.symm
    go_wp2
    go_ret
    exact ⟨rfl, Below.refl _ _⟩
  · have HL : Hid (longF l = false) := by show longF l = false; simpa using hlong
    have h100 : n ≤ 100 := by
      have := HL.out
      unfold longF at this
      rw [Bool.or_eq_false_iff, decide_eq_false_iff_not, decide_eq_false_iff_not, HN.out] at this
      omega
    clear hlong
    go_enter Try.func3, Try.ntmps3
    go_wp2_with fail
    refine (long_any _ _ _ l _ HN.out HS.out hm HZ.out).mono ?_
    rw [HL.out]
    rintro e w1 ⟨rfl, hw⟩
    obtain rfl := hw.symm
    go_wp2_with fail
    refine (made_any _ _ _ l _ HN.out HS.out h100 HZ.out).mono ?_
    rintro e w2 ⟨c, x, v, u, rfl, hT⟩
    have HI : Hid (SmallL (l.map plainI) ∧ (l.map plainI).length ≤ 100) := ⟨its_small HZ.out, by rw [List.length_map, HN.out]; exact h100⟩
    have HT : Hid (Two2 w w2 c x v u (l.map plainI)) := hT
    clear hT HS HZ HN HL
    generalize l.map plainI = its at *
    go_wp2_with fail
    refine (pack_any c its w2 HT.out.1.reads HI.out.2 HI.out.1).mono ?_
    obtain ⟨E, hE⟩ : ∃ E, E = packE its := ⟨_, rfl⟩
    obtain ⟨q, hq⟩ : ∃ q, q = (packV its).getD [] := ⟨_, rfl⟩
    have HE : Hid (packE its = E ∧ (packV its).getD [] = q) := ⟨hE.symm, hq.symm⟩
    rw [HE.out.1, HE.out.2]
    clear hE hq
    rintro e w3 ⟨v3, rfl, h3, h4⟩
    have HX : Hid (BRow w3 w2.heap.size v3 q ∧ Below w2.heap.size w2 w3) := ⟨h3, h4⟩
    obtain ⟨o3, n3, c3, rfl⟩ := h3.any
    clear h3 h4
    go_wp2_with fail
    refine (refPack_any x its w3 (HT.out.2.1.reads.below HX.out.2) HI.out.2).mono ?_
    rw [HE.out.1, HE.out.2]
    rintro e w4 ⟨v4, rfl, h5, h6⟩
    have HB : Hid (Below w.heap.size w w4) := HT.out.2.2.2.trans ((HX.out.2.trans (h6.mono HX.out.2.size)).mono HT.out.2.2.2.size)
    obtain ⟨oa3, ca3, e3, hb3⟩ := (HX.out.1.below h6).bytes
    obtain ⟨oa4, ca4, e4, hb4⟩ := h5.bytes
    rw [e3]
    rw [e4]
    have r3 := conv_any oa3 q ca3 w4 hb3
    have r4 := conv_any oa4 q ca4 w4 hb4
    have hs : ((strV q).toList == (strV q).toList) = true := by simp
    have hEE : (E == E) = true := by simp
    clear h5 h6 e3 e4 hb3 hb4
    go_wp2_with fail
    refine (known_any w4).mono ?_
    rintro e w5 ⟨rfl, hk⟩
    have HB5 : Hid (Below w.heap.size w w5) := HB.out.trans (hk.mono HB.out.size)
    clear hk
    go_wp2
    go_ret
    exact ⟨rfl, HB5.out⟩

theorem own : ownKnob Try.prog.godebug = none := by kernel_rfl

set_option maxRecDepth 100000 in
theorem lifted (os : Os) (started : os.Started) (H : Type) (enc : TypeId × Value → H) :
    ReturnsInHanded {} Try.checked os 3 .any (Rows.wirePacksSpec.pre6 enc Try.prog Try.f3 Rows.wirePacksRow.domain false) (Rows.wirePacksSpec.post enc Try.prog Try.f3 false true false false) := by
  refine returnsInHanded_of_change_sized (C := Try.checked) own started (by kernel_rfl) Try.func3
    (ChangeSpec.witness6 (enc := enc) (C := Try.checked) false ⟨#[], #[.slice none 0 0], []⟩ 8 (by kernel_rfl) (by kernel_rfl) (by kernel_rfl) (by kernel_rfl)) ?_
  intro W base args ds gs before hval0 hW _ hsz0 _
  have hval : ∀ (j : Nat) t v, Try.f3.params[j]? = some t → args[j]? = some v → Value.okWide Try.prog W .any base t v := hval0
  have hsz : (DataW.weightsEach Try.prog (Try.f3.params.toList ++ Rows.wirePacksSpec.plain.varTypes Try.prog) (ds ++ gs)).all (· ≤ reachBytes) = true := hsz0
  have hW' := hW
  obtain ⟨p, q, hA0, hV, rfl, _, _⟩ := hW
  have hA : DataW.TrodAll enc Try.prog W 0 (fun _ => true) true Try.f3.params.toList args.toList ds p := hA0
  rw [Try.params3] at hA hval hsz
  obtain ⟨v0, vs0, d0, ds0, p0, q0, hargs, rfl, rfl, h0, r0⟩ := trodAll_cons hA
  obtain ⟨rfl, rfl, rfl⟩ := trodAll_nil r0
  obtain rfl : args = #[v0] := by cases args; simp_all
  obtain ⟨rfl, rfl⟩ := trodVars_none hV
  have k0 := h0
  have lt0 : ∀ x ∈ p0, x.block < W.heap.size := by obtain ⟨m, hm⟩ := k0; exact DataW.trod_lt m _ _ _ hm
  have g0 := weights_at hsz (j := 0) (t := 22) rfl rfl
  obtain ⟨o0, len0, cap0, rfl⟩ := okWide_slice Try.underlying22 (hval 0 22 v0 rfl rfl)
  obtain ⟨z0, e0, m0, s0, y0⟩ : ∃ l : List Th, l.length = len0 ∧ len0 ≤ 140737488355328 ∧ hasThs W o0 l ∧ ∀ y ∈ l, y.s.size ≤ 140737488355328 := by
    obtain ⟨fuel, hf⟩ := h0
    exact open_things hf g0
  clear hA0 hval0
  refine (walk W o0 len0 cap0 z0 e0 m0 s0 y0).mono fun e W' ⟨he, bel⟩ => ?_
  subst he
  exact ⟨_, rfl, _, _, _, [], _, [], hW', trodAll_mk1 (shut_bool Try.underlying4 _), (trodAll_cons_mk (Below.trod laidOut (by kernel_rfl) (of_decide_eq_true (by kernel_rfl)) k0 bel lt0) trodAll_mk0), rfl, bel.frame _, fun h => by cases h⟩

theorem over : Rows.wirePacksRow.holds Try.pinned (OpenSpec.ofChange Rows.wirePacksSpec) :=
  OpenClaim.holds_of_wide 3 Try.f3 rfl rfl rfl rfl rfl rfl rfl ⟨rfl, rfl, rfl, rfl, rfl⟩ rfl rfl rfl rfl rfl (by kernel_rfl) Try.func3 (by kernel_rfl)
    (of_decide_eq_true (by kernel_rfl)) (by unfold Func.isWrapper; first | (rw [if_pos (by decide +kernel)]; kernel_rfl) | (rw [if_neg (by decide +kernel)]; exact ⟨rfl, rfl⟩))
    (fun os started H enc _ => lifted os started H enc)

end Go.Proofs.Ytfcoanlegjddpaa.wirePacks
namespace Go.Proofs.Ytfcoanlegjddpaa
theorem wirePacks_holds : Rows.WirePacksSaid := wirePacks.over
#print axioms wirePacks_holds
end Go.Proofs.Ytfcoanlegjddpaa
