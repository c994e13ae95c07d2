/-
  Of every number and every bool: LockHolds returns true.
-/
import Derived.Test.YtgacnebihkofcaaRows
import Derived.Test.YtgacnebihkofcaaLkKnown
import Derived.WalkKit
import Derived.ProofKit
import Derived.OpenShut
import Derived.ShutString
import Derived.ChangeOld
import Derived.Below
import Derived.SizedLaws
import Derived.PinnedBridge
import Derived.Lib.LaidU8T
import Derived.Lay
import Derived.LaidOnce
import Derived.SevenTiedAt
import Derived.Deep.DeepHandedRow
namespace Go.Proofs.Ytgacnebihkofcaa.lockHolds
open Go.ChangeShapes Go.WideShapes Go.ChangeAt Go.RowKit

/-- How the route stands behind so many cycles. -/
def hF (k : Nat) : St := if k ≤ 5 then (4, (k : Int), 0, false) else idleS
theorem cyc_all : ∀ k : Fin 13, cycL [hF k.1, idleS] (bitsF 0) [1] = ([hF (k.1 + 1), idleS], ([0], [false, false, false])) := by decide +kernel
theorem ok_all : ∀ k : Fin 15, mayBeF (hF k.1) 2 = true := by decide +kernel
theorem train_all : ∀ k : Fin 13, cycL [hF k.1, idleS] (bitsF 1) [1] = ([if k.1 ≤ 5 then (3, 0, 0, true) else idleS, idleS], ([0], [false, false, false])) := by decide +kernel

set_option maxRecDepth 1000000 in
set_option maxHeartbeats 16000000 in
theorem walk (n : Int) (t : Bool) (_ : (Lit.int IntKind.i64 n).wf = true) (w : World) : Calls Try.prog 5 #[.int .i64 n, .bool t] w fun e w' => e = .returned (.bool true) ∧ Below w.heap.size w w' := by
  by_cases hr : n < 0 ∨ 12 < n
  · by_cases h0 : n < 0
    · go_enter Try.func5, Try.ntmps5
      go_wp2
      go_ret
      exact ⟨rfl, Below.refl _ _⟩
    · have h1 : 12 < n := by omega
      clear hr
      go_enter Try.func5, Try.ntmps5
      go_wp2
      go_ret
      exact ⟨rfl, Below.refl _ _⟩
  obtain ⟨N, rfl, hN⟩ := nat_of (n := 13) (i := n) ⟨by omega, by omega⟩
  have hq0 : ¬ (N : Int) < 0 := by omega
  have hq1 : ¬ (12 : Int) < (N : Int) := by omega
  clear hr
  go_enter Try.func5, Try.ntmps5
  go_wp2_with fail
  refine (line_any w).mono ?_
  rintro e w1 ⟨v, a, b, c, d, e', f, rfl, hL, hF, hb1⟩
  have D := new_l w w1 v a b c d e' f hL hF hb1
  clear hL hF
  go_wp2_with fail
  refine D.mono ?_
  rintro e w2 ⟨kb, rfl, hK, hb2⟩
  clear D
  have HK2 : Hid (LkL w w2 kb [idleS, idleS]) := hK
  clear hK hb1 hb2
  go_wp2_with fail
  refine (at_any 0 1 w2 (by omega)).mono ?_
  rintro e w3 ⟨v3, rfl, hi, hb⟩
  have HIw3 : Hid (InNew w3 v3 (bitsF 0) [1] ∧ Below w2.heap.size w2 w3) := ⟨hi, hb⟩
  clear hi hb
  have D := cmd_l w w3 kb _ v3 (bitsF 0) [1] 1 0 (HK2.out.step HIw3.out.2) HIw3.out.1 (by simp) 0 [(1, 0, 0, false), idleS] (by decide +kernel) ⟨_, _, rfl, by decide, by decide⟩
  go_wp2_with fail
  refine D.mono ?_
  rintro e w4 ⟨rfl, hk, hc⟩
  have HKw4 : Hid (LkL w w4 kb [(1, 0, 0, false), idleS]) := hk
  clear D hk
  clear hc
  go_wp2_with fail
  refine (at_any 0 1 w4 (by omega)).mono ?_
  rintro e w5 ⟨v5, rfl, hi, hb⟩
  have HIw5 : Hid (InNew w5 v5 (bitsF 0) [1] ∧ Below w4.heap.size w4 w5) := ⟨hi, hb⟩
  clear hi hb
  have D := cyc_l w w5 kb _ v5 (bitsF 0) [1] (HKw4.out.step HIw5.out.2) HIw5.out.1 (by simp) [(2, 0, 0, false), idleS] [0] [true, false, false] (by decide +kernel) ⟨_, _, rfl, by decide, by decide⟩
  go_wp2_with fail
  refine D.mono ?_
  rintro e w6 ⟨b1, b2, rfl, ho, hk, hc⟩
  have HKw6 : Hid (LkL w w6 kb [(2, 0, 0, false), idleS]) := hk
  have HOw6 : Hid (OutAt w6 w5.heap.size b1 b2 [0] [true, false, false]) := ho
  clear D hk ho hc
  go_wp2_with fail
  refine (at_any 0 1 w6 (by omega)).mono ?_
  rintro e w7 ⟨v7, rfl, hi, hb⟩
  have HIw7 : Hid (InNew w7 v7 (bitsF 0) [1] ∧ Below w6.heap.size w6 w7) := ⟨hi, hb⟩
  clear hi hb
  have D := cmd_l w w7 kb _ v7 (bitsF 0) [1] 2 0 (HKw6.out.step HIw7.out.2) HIw7.out.1 (by simp) 0 [(4, 0, 0, false), idleS] (by decide +kernel) ⟨_, _, rfl, by decide, by decide⟩
  go_wp2_with fail
  refine D.mono ?_
  rintro e w8 ⟨rfl, hk, hc⟩
  have HKw8 : Hid (LkL w w8 kb [(4, 0, 0, false), idleS]) := hk
  clear D hk
  clear hc
  go_wp2_with fail
  refine (at_any 0 1 w8 (by omega)).mono ?_
  rintro e w9 ⟨v9, rfl, hi, hb⟩
  have HIw9 : Hid (InNew w9 v9 (bitsF 0) [1] ∧ Below w8.heap.size w8 w9) := ⟨hi, hb⟩
  clear hi hb
  have D := cmd_l w w9 kb _ v9 (bitsF 0) [1] 2 0 (HKw8.out.step HIw9.out.2) HIw9.out.1 (by simp) 7 [(4, 0, 0, false), idleS] (by decide +kernel) ⟨_, _, rfl, by decide, by decide⟩
  go_wp2_with fail
  refine D.mono ?_
  rintro e wa ⟨rfl, hk, hc⟩
  have HKwa : Hid (LkL w wa kb [(4, 0, 0, false), idleS]) := hk
  clear D hk
  clear hc
  clear hq0 hq1
  go_wp2
  go_loopg [9, 10] N (fun gk i a1 wr => ∃ k : Nat, gk = N - k ∧ i = .int .i64 k ∧ k ≤ N ∧ LkL w wr kb [hF k, idleS])
  case atStart => exact ⟨0, rfl, rfl, by omega, HKwa.out⟩
  case round =>
    obtain ⟨k, rfl, rfl, hk, hK⟩ := hrel
    have HKR : Hid (LkL w wr kb [hF k, idleS]) := hK
    clear hK
    by_cases hlt : k < N
    · have hki : (k : Int) < (N : Int) := by omega
      go_wp2_with fail
      refine (at_any 0 1 wr (by omega)).mono ?_
      rintro e wb ⟨vb, rfl, hi, hb⟩
      have HIwb : Hid (InNew wb vb (bitsF 0) [1] ∧ Below wr.heap.size wr wb) := ⟨hi, hb⟩
      clear hi hb
      have hcy := cyc_all ⟨k, by omega⟩
      simp only at hcy
      have D := cyc_l w wb kb _ vb (bitsF 0) [1] (HKR.out.step HIwb.out.2) HIwb.out.1 (by simp) [hF (k + 1), idleS] [0] [false, false, false] (hcy) ⟨_, _, rfl, ok_all ⟨k + 1, by omega⟩, by decide⟩
      go_wp2_with fail
      refine D.mono ?_
      rintro e wc ⟨b1, b2, rfl, ho, hk, hc⟩
      have HKwc : Hid (LkL w wc kb [hF (k + 1), idleS]) := hk
      have HOwc : Hid (OutAt wc wb.heap.size b1 b2 [0] [false, false, false]) := ho
      clear D hk ho hc
      clear hcy
      generalize hch : wc.alloc (.cells #[.slice (some ⟨b1, 0, none⟩) 1 1, .slice (some ⟨b2, 0, none⟩) 3 3] 41) = wd
      have HBwd : Hid (Below wc.heap.size wc wd) := by show Below _ _ _; rw [← hch]; exact (Below.refl _ _).alloc (Nat.le_refl _) _
      have HXwd : Hid (wd.heap[wc.heap.size]? = some (.cells #[.slice (some ⟨b1, 0, none⟩) 1 1, .slice (some ⟨b2, 0, none⟩) 3 3] 41 (0, 0))) := by show _ = _; rw [← hch]; exact blk_new _ _
      obtain ⟨y0, y1⟩ := cells2 HXwd.out
      have z1 := ((HOwc.out.below HBwd.out).cell2 (p := 0) rfl).1
      go_wp2
      clear hch
      go_roundg (N - (k + 1))
      case rel => exact ⟨k + 1, rfl, by go_num, by omega, HKwc.out.step HBwd.out⟩
      case measure => omega
    · have hkn : k = N := by omega
      subst hkn
      cases t
      · have D := routes_l w wr kb _ HKR.out
        go_wp2_with fail
        refine D.mono ?_
        rintro e w8 ⟨g, c, rfl, hr, hb8⟩
        clear D
        have HK8 : Hid (LkL w w8 kb [hF k, idleS]) := HKR.out.step hb8
        obtain ⟨g', f', e6, r0, -, -, -⟩ := row_st hr 0 (hF k) rfl
        injection e6 with e6
        injection e6 with e61 e62
        subst e61 e62
        simp only [Nat.zero_mul, Nat.add_zero] at r0
        clear hr hb8
        by_cases h5 : k ≤ 5
        · have hon : ¬ (6 : Int) ≤ (k : Int) := by omega
          have hs : ((hF k)).1 = 4 := by rw [hF, if_pos h5]
          rw [hs] at r0
          clear hs h5
          go_wp2_with fail
          refine (known_any _).mono ?_
          rintro e w9 ⟨rfl, hb9⟩
          go_wp2
          go_ret
          exact ⟨rfl, HK8.out.bl.trans (hb9.mono HK8.out.bl.size)⟩
        · have hon : (6 : Int) ≤ (k : Int) := by omega
          have hs : ((hF k)).1 = 0 := by rw [hF, if_neg h5]; rfl
          rw [hs] at r0
          clear hs h5
          go_wp2_with fail
          refine (known_any _).mono ?_
          rintro e w9 ⟨rfl, hb9⟩
          go_wp2
          go_ret
          exact ⟨rfl, HK8.out.bl.trans (hb9.mono HK8.out.bl.size)⟩
      · go_wp2_with fail
        refine (at_any 1 1 wr (by omega)).mono ?_
        rintro e wb ⟨vb, rfl, hi, hb⟩
        have HIwb : Hid (InNew wb vb (bitsF 1) [1] ∧ Below wr.heap.size wr wb) := ⟨hi, hb⟩
        clear hi hb
        have hcy := train_all ⟨k, by omega⟩
        simp only at hcy
        have D := cyc_l w wb kb _ vb (bitsF 1) [1] (HKR.out.step HIwb.out.2) HIwb.out.1 (by simp) [if k ≤ 5 then (3, 0, 0, true) else idleS, idleS] [0] [false, false, false] (hcy) ⟨_, _, rfl, by split <;> decide, by decide⟩
        go_wp2_with fail
        refine D.mono ?_
        rintro e wc ⟨b1, b2, rfl, ho, hk, hc⟩
        have HKwc : Hid (LkL w wc kb [if k ≤ 5 then (3, 0, 0, true) else idleS, idleS]) := hk
        have HOwc : Hid (OutAt wc wb.heap.size b1 b2 [0] [false, false, false]) := ho
        clear D hk ho hc
        clear hcy
        have D := routes_l w wc kb _ HKwc.out
        go_wp2_with fail
        refine D.mono ?_
        rintro e w8 ⟨g, c, rfl, hr, hb8⟩
        clear D
        have HK8 : Hid (LkL w w8 kb [if k ≤ 5 then (3, 0, 0, true) else idleS, idleS]) := HKwc.out.step hb8
        obtain ⟨g', f', e6, r0, -, -, -⟩ := row_st hr 0 (if k ≤ 5 then ((3, 0, 0, true) : St) else idleS) rfl
        injection e6 with e6
        injection e6 with e61 e62
        subst e61 e62
        simp only [Nat.zero_mul, Nat.add_zero] at r0
        clear hr hb8
        by_cases h5 : k ≤ 5
        · have hon : ¬ (6 : Int) ≤ (k : Int) := by omega
          have hs : ((if k ≤ 5 then ((3, 0, 0, true) : St) else idleS)).1 = 3 := by rw [if_pos h5]
          rw [hs] at r0
          clear hs h5
          go_wp2_with fail
          refine (known_any _).mono ?_
          rintro e w9 ⟨rfl, hb9⟩
          go_wp2
          go_ret
          exact ⟨rfl, HK8.out.bl.trans (hb9.mono HK8.out.bl.size)⟩
        · have hon : (6 : Int) ≤ (k : Int) := by omega
          have hs : ((if k ≤ 5 then ((3, 0, 0, true) : St) else idleS)).1 = 0 := by rw [if_neg h5]; rfl
          rw [hs] at r0
          clear hs h5
          go_wp2_with fail
          refine (known_any _).mono ?_
          rintro e w9 ⟨rfl, hb9⟩
          go_wp2
          go_ret
          exact ⟨rfl, HK8.out.bl.trans (hb9.mono HK8.out.bl.size)⟩

theorem own : ownKnob Try.prog.godebug = none := by kernel_rfl

set_option maxRecDepth 100000 in
theorem lifted (os : Os) (started : os.Started) (H : Type) (enc : TypeId × Value → H) :
    ReturnsInHanded {} Try.checked os 5 .any (Rows.lockHoldsSpec.pre6 enc Try.prog Try.f5 Rows.lockHoldsRow.domain false) (Rows.lockHoldsSpec.post enc Try.prog Try.f5 false true false false) := by
  refine returnsInHanded_of_change (C := Try.checked) own started (by kernel_rfl) Try.func5
    (ChangeSpec.witness6 (enc := enc) (C := Try.checked) false ⟨#[], #[.int .i64 0, .bool false], []⟩ 8 (by kernel_rfl) (by kernel_rfl) (by kernel_rfl) (by kernel_rfl)) ?_
  intro W base args ds gs before hval0 hW _ _
  have hval : ∀ (j : Nat) t v, Try.f5.params[j]? = some t → args[j]? = some v → Value.okWide Try.prog W .any base t v := hval0
  have hW' := hW
  obtain ⟨p, q, hA0, hV, rfl, _, _⟩ := hW
  have hA : DataW.TrodAll enc Try.prog W 0 (fun _ => true) true Try.f5.params.toList args.toList ds p := hA0
  rw [Try.params5] at hA hval
  obtain ⟨v0, vs0, d0, ds0, p0, q0, hargs, rfl, rfl, h0, r0⟩ := trodAll_cons hA
  obtain ⟨v1, vs1, d1, ds1, p1, q1, rfl, rfl, rfl, h1, r1⟩ := trodAll_cons r0
  obtain ⟨rfl, rfl, rfl⟩ := trodAll_nil r1
  obtain rfl : args = #[v0, v1] := by cases args; simp_all
  obtain ⟨rfl, rfl⟩ := trodVars_none hV
  obtain ⟨a0, rfl, rfl, rfl, w0⟩ := open_int Try.underlying3 (hval 0 3 v0 rfl rfl) h0
  obtain ⟨a1, rfl, rfl, rfl⟩ := open_bool Try.underlying4 (hval 1 4 v1 rfl rfl) h1
  clear hA0 hval0
  refine (walk a0 a1 w0 W).mono fun e W' ⟨he, bel⟩ => ?_
  subst he
  exact ⟨_, rfl, _, _, _, [], _, [], hW', trodAll_mk1 (shut_bool Try.underlying4 _), (trodAll_cons_mk (shut_int Try.underlying3 w0) (trodAll_cons_mk (shut_bool Try.underlying4 _) trodAll_mk0)), rfl, bel.frame _, fun h => by cases h⟩

theorem over : Rows.lockHoldsRow.holds Try.pinned (OpenSpec.ofChange Rows.lockHoldsSpec) :=
  OpenClaim.holds_of_wide 5 Try.f5 rfl rfl rfl rfl rfl rfl rfl ⟨rfl, rfl, rfl, rfl, rfl⟩ rfl rfl rfl rfl rfl (by kernel_rfl) Try.func5 (by kernel_rfl)
    (of_decide_eq_true (by kernel_rfl)) (by unfold Func.isWrapper; first | (rw [if_pos (by decide +kernel)]; kernel_rfl) | (rw [if_neg (by decide +kernel)]; exact ⟨rfl, rfl⟩))
    (fun os started H enc _ => lifted os started H enc)

end Go.Proofs.Ytgacnebihkofcaa.lockHolds
namespace Go.Proofs.Ytgacnebihkofcaa
theorem lockHolds_holds : Rows.LockHoldsSaid := lockHolds.over
#print axioms lockHolds_holds
end Go.Proofs.Ytgacnebihkofcaa
