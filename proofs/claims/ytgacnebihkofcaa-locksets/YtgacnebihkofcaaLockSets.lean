/-
  Of every number: LockSets returns true.
-/
import Derived.Test.YtgacnebihkofcaaRows
import Derived.Test.YtgacnebihkofcaaLkKnown
import Derived.WalkKit
import Derived.ProofKit
import Derived.OpenShut
import Derived.ShutString
import Derived.ChangeOld
import Derived.Below
import Derived.SizedLaws
import Derived.PinnedBridge
import Derived.Lib.LaidU8T
import Derived.Lay
import Derived.LaidOnce
import Derived.SevenTiedAt
import Derived.Deep.DeepHandedRow
namespace Go.Proofs.Ytgacnebihkofcaa.lockSets
open Go.ChangeShapes Go.WideShapes Go.ChangeAt Go.RowKit

/-- How the route stands behind so many cycles. -/
def sF (k : Nat) : St := if k ≤ 8 then (1, (k : Int), 0, false) else idleS
theorem cyc_all : ∀ k : Fin 16, cycL [sF k.1, idleS] (bitsF 0) [2] = ([sF (k.1 + 1), idleS], ([if k.1 < 8 then 1 else 0], [false, false, false])) := by decide +kernel
theorem ok_all : ∀ k : Fin 18, mayBeF (sF k.1) 2 = true := by decide +kernel
theorem fin_all : ∀ k : Fin 16, cycL [sF k.1, idleS] (bitsF 0) [1] = ([if k.1 ≤ 8 then (2, 0, 0, false) else idleS, idleS], ([0], [decide (k.1 ≤ 8), false, false])) := by decide +kernel

set_option maxRecDepth 1000000 in
set_option maxHeartbeats 16000000 in
theorem walk (n : Int) (_ : (Lit.int IntKind.i64 n).wf = true) (w : World) : Calls Try.prog 4 #[.int .i64 n] w fun e w' => e = .returned (.bool true) ∧ Below w.heap.size w w' := by
  by_cases hr : n < 0 ∨ 15 < n
  · by_cases h0 : n < 0
    · go_enter Try.func4, Try.ntmps4
      go_wp2
      go_ret
      exact ⟨rfl, Below.refl _ _⟩
    · have h1 : 15 < n := by omega
      clear hr
      go_enter Try.func4, Try.ntmps4
      go_wp2
      go_ret
      exact ⟨rfl, Below.refl _ _⟩
  obtain ⟨N, rfl, hN⟩ := nat_of (n := 16) (i := n) ⟨by omega, by omega⟩
  have hq0 : ¬ (N : Int) < 0 := by omega
  have hq1 : ¬ (15 : Int) < (N : Int) := by omega
  clear hr
  go_enter Try.func4, Try.ntmps4
  go_wp2_with fail
  refine (line_any w).mono ?_
  rintro e w1 ⟨v, a, b, c, d, e', f, rfl, hL, hF, hb1⟩
  have D := new_l w w1 v a b c d e' f hL hF hb1
  clear hL hF
  go_wp2_with fail
  refine D.mono ?_
  rintro e w2 ⟨kb, rfl, hK, hb2⟩
  clear D
  have HK2 : Hid (LkL w w2 kb [idleS, idleS]) := hK
  clear hK hb1 hb2
  go_wp2_with fail
  refine (at_any 0 2 w2 (by omega)).mono ?_
  rintro e w3 ⟨v3, rfl, hi, hb⟩
  have HIw3 : Hid (InNew w3 v3 (bitsF 0) [2] ∧ Below w2.heap.size w2 w3) := ⟨hi, hb⟩
  clear hi hb
  have D := cmd_l w w3 kb _ v3 (bitsF 0) [2] 1 0 (HK2.out.step HIw3.out.2) HIw3.out.1 (by simp) 0 [(1, 0, 0, false), idleS] (by decide +kernel) ⟨_, _, rfl, by decide, by decide⟩
  go_wp2_with fail
  refine D.mono ?_
  rintro e w4 ⟨rfl, hk, hc⟩
  have HKw4 : Hid (LkL w w4 kb [(1, 0, 0, false), idleS]) := hk
  clear D hk
  clear hc
  clear hq0 hq1
  go_wp2
  go_loopg [5, 6, 7, 8] N (fun gk i a1 a2 a3 wr => ∃ k : Nat, gk = N - k ∧ i = .int .i64 k ∧ k ≤ N ∧ LkL w wr kb [sF k, idleS])
  case atStart => exact ⟨0, rfl, rfl, by omega, HKw4.out⟩
  case round =>
    obtain ⟨k, rfl, rfl, hk, hK⟩ := hrel
    have HKR : Hid (LkL w wr kb [sF k, idleS]) := hK
    clear hK
    by_cases hlt : k < N
    · have hki : (k : Int) < (N : Int) := by omega
      go_wp2_with fail
      refine (at_any 0 2 wr (by omega)).mono ?_
      rintro e w5 ⟨v5, rfl, hi, hb⟩
      have HIw5 : Hid (InNew w5 v5 (bitsF 0) [2] ∧ Below wr.heap.size wr w5) := ⟨hi, hb⟩
      clear hi hb
      have hcy := cyc_all ⟨k, by omega⟩
      simp only at hcy
      have D := cyc_l w w5 kb _ v5 (bitsF 0) [2] (HKR.out.step HIw5.out.2) HIw5.out.1 (by simp) [sF (k + 1), idleS] [if k < 8 then 1 else 0] [false, false, false] (hcy) ⟨_, _, rfl, ok_all ⟨k + 1, by omega⟩, by decide⟩
      go_wp2_with fail
      refine D.mono ?_
      rintro e w6 ⟨b1, b2, rfl, ho, hk, hc⟩
      have HKw6 : Hid (LkL w w6 kb [sF (k + 1), idleS]) := hk
      have HOw6 : Hid (OutAt w6 w5.heap.size b1 b2 [if k < 8 then 1 else 0] [false, false, false]) := ho
      clear D hk ho hc
      clear hcy
      generalize hch : w6.alloc (.cells #[.slice (some ⟨b1, 0, none⟩) 1 1, .slice (some ⟨b2, 0, none⟩) 3 3] 41) = w7
      have HBw7 : Hid (Below w6.heap.size w6 w7) := by show Below _ _ _; rw [← hch]; exact (Below.refl _ _).alloc (Nat.le_refl _) _
      have HXw7 : Hid (w7.heap[w6.heap.size]? = some (.cells #[.slice (some ⟨b1, 0, none⟩) 1 1, .slice (some ⟨b2, 0, none⟩) 3 3] 41 (0, 0))) := by show _ = _; rw [← hch]; exact blk_new _ _
      have D := routes_l w w7 kb _ (HKw6.out.step HBw7.out)
      go_wp2_with fail
      clear hch
      refine D.mono ?_
      rintro e w8 ⟨g, c, rfl, hr, hb8⟩
      clear D
      have HK8 : Hid (LkL w w8 kb [sF (k + 1), idleS]) := (HKw6.out.step HBw7.out).step hb8
      obtain ⟨g', f', e6, r0, -, -, -⟩ := row_st hr 0 (sF (k + 1)) rfl
      injection e6 with e6
      injection e6 with e61 e62
      subst e61 e62
      simp only [Nat.zero_mul, Nat.add_zero] at r0
      have HO8 := (HOw6.out.below HBw7.out).below hb8
      obtain ⟨y0, y1⟩ := cells2 (blk_below hb8 HXw7.out)
      have z0 := (HO8.cell1 (p := 0) rfl).1
      clear hr hb8 HO8
      by_cases h8 : k < 8
      · have hon : (k : Int) < 8 := by omega
        have hs : (sF (k + 1)).1 = 1 := by rw [sF, if_pos (by omega)]
        rw [hs] at r0
        rw [if_pos h8] at z0
        clear hs h8
        go_wp2
        go_roundg (N - (k + 1))
        case rel => exact ⟨k + 1, rfl, by go_num, by omega, HK8.out⟩
        case measure => omega
      · have hon : ¬ (k : Int) < 8 := by omega
        have hs : (sF (k + 1)).1 = 0 := by rw [sF, if_neg (by omega)]; rfl
        rw [hs] at r0
        rw [if_neg h8] at z0
        clear hs h8
        go_wp2
        go_roundg (N - (k + 1))
        case rel => exact ⟨k + 1, rfl, by go_num, by omega, HK8.out⟩
        case measure => omega
    · have hkn : k = N := by omega
      subst hkn
      go_wp2_with fail
      refine (at_any 0 1 wr (by omega)).mono ?_
      rintro e w5 ⟨v5, rfl, hi, hb⟩
      have HIw5 : Hid (InNew w5 v5 (bitsF 0) [1] ∧ Below wr.heap.size wr w5) := ⟨hi, hb⟩
      clear hi hb
      have hcy := fin_all ⟨k, by omega⟩
      simp only at hcy
      have D := cyc_l w w5 kb _ v5 (bitsF 0) [1] (HKR.out.step HIw5.out.2) HIw5.out.1 (by simp) [if k ≤ 8 then (2, 0, 0, false) else idleS, idleS] [0] [decide (k ≤ 8), false, false] (hcy) ⟨_, _, rfl, by split <;> decide, by decide⟩
      go_wp2_with fail
      refine D.mono ?_
      rintro e w6 ⟨b1, b2, rfl, ho, hk, hc⟩
      have HKw6 : Hid (LkL w w6 kb [if k ≤ 8 then (2, 0, 0, false) else idleS, idleS]) := hk
      have HOw6 : Hid (OutAt w6 w5.heap.size b1 b2 [0] [decide (k ≤ 8), false, false]) := ho
      clear D hk ho hc
      clear hcy
      generalize hch : w6.alloc (.cells #[.slice (some ⟨b1, 0, none⟩) 1 1, .slice (some ⟨b2, 0, none⟩) 3 3] 41) = w7
      have HBw7 : Hid (Below w6.heap.size w6 w7) := by show Below _ _ _; rw [← hch]; exact (Below.refl _ _).alloc (Nat.le_refl _) _
      have HXw7 : Hid (w7.heap[w6.heap.size]? = some (.cells #[.slice (some ⟨b1, 0, none⟩) 1 1, .slice (some ⟨b2, 0, none⟩) 3 3] 41 (0, 0))) := by show _ = _; rw [← hch]; exact blk_new _ _
      obtain ⟨y0, y1⟩ := cells2 HXw7.out
      have z1 := ((HOw6.out.below HBw7.out).cell2 (p := 0) rfl).1
      by_cases h8 : k ≤ 8
      · have hon : (k : Int) ≤ 8 := by omega
        have hon2 : decide ((k : Int) ≤ 8) = true := decide_eq_true hon
        rw [decide_eq_true h8] at z1
        clear h8
        go_wp2_with fail
        clear hch
        refine (known_any _).mono ?_
        rintro e w8 ⟨rfl, hb8⟩
        go_wp2
        go_ret
        exact ⟨rfl, (HKw6.out.step HBw7.out).bl.trans (hb8.mono (HKw6.out.step HBw7.out).bl.size)⟩
      · have hon : ¬ (k : Int) ≤ 8 := by omega
        have hon2 : decide ((k : Int) ≤ 8) = false := decide_eq_false hon
        have hon3 : decide (k ≤ 8) = false := decide_eq_false (by omega)
        rw [decide_eq_false h8] at z1
        clear h8
        go_wp2_with fail
        clear hch
        refine (known_any _).mono ?_
        rintro e w8 ⟨rfl, hb8⟩
        go_wp2
        go_ret
        exact ⟨rfl, (HKw6.out.step HBw7.out).bl.trans (hb8.mono (HKw6.out.step HBw7.out).bl.size)⟩

theorem own : ownKnob Try.prog.godebug = none := by kernel_rfl

set_option maxRecDepth 100000 in
theorem lifted (os : Os) (started : os.Started) (H : Type) (enc : TypeId × Value → H) :
    ReturnsInHanded {} Try.checked os 4 .any (Rows.lockSetsSpec.pre6 enc Try.prog Try.f4 Rows.lockSetsRow.domain false) (Rows.lockSetsSpec.post enc Try.prog Try.f4 false true false false) := by
  refine returnsInHanded_of_change (C := Try.checked) own started (by kernel_rfl) Try.func4
    (ChangeSpec.witness6 (enc := enc) (C := Try.checked) false ⟨#[], #[.int .i64 0], []⟩ 8 (by kernel_rfl) (by kernel_rfl) (by kernel_rfl) (by kernel_rfl)) ?_
  intro W base args ds gs before hval0 hW _ _
  have hval : ∀ (j : Nat) t v, Try.f4.params[j]? = some t → args[j]? = some v → Value.okWide Try.prog W .any base t v := hval0
  have hW' := hW
  obtain ⟨p, q, hA0, hV, rfl, _, _⟩ := hW
  have hA : DataW.TrodAll enc Try.prog W 0 (fun _ => true) true Try.f4.params.toList args.toList ds p := hA0
  rw [Try.params4] at hA hval
  obtain ⟨v0, vs0, d0, ds0, p0, q0, hargs, rfl, rfl, h0, r0⟩ := trodAll_cons hA
  obtain ⟨rfl, rfl, rfl⟩ := trodAll_nil r0
  obtain rfl : args = #[v0] := by cases args; simp_all
  obtain ⟨rfl, rfl⟩ := trodVars_none hV
  obtain ⟨a0, rfl, rfl, rfl, w0⟩ := open_int Try.underlying3 (hval 0 3 v0 rfl rfl) h0
  clear hA0 hval0
  refine (walk a0 w0 W).mono fun e W' ⟨he, bel⟩ => ?_
  subst he
  exact ⟨_, rfl, _, _, _, [], _, [], hW', trodAll_mk1 (shut_bool Try.underlying4 _), (trodAll_cons_mk (shut_int Try.underlying3 w0) trodAll_mk0), rfl, bel.frame _, fun h => by cases h⟩

theorem over : Rows.lockSetsRow.holds Try.pinned (OpenSpec.ofChange Rows.lockSetsSpec) :=
  OpenClaim.holds_of_wide 4 Try.f4 rfl rfl rfl rfl rfl rfl rfl ⟨rfl, rfl, rfl, rfl, rfl⟩ rfl rfl rfl rfl rfl (by kernel_rfl) Try.func4 (by kernel_rfl)
    (of_decide_eq_true (by kernel_rfl)) (by unfold Func.isWrapper; first | (rw [if_pos (by decide +kernel)]; kernel_rfl) | (rw [if_neg (by decide +kernel)]; exact ⟨rfl, rfl⟩))
    (fun os started H enc _ => lifted os started H enc)

end Go.Proofs.Ytgacnebihkofcaa.lockSets
namespace Go.Proofs.Ytgacnebihkofcaa
theorem lockSets_holds : Rows.LockSetsSaid := lockSets.over
#print axioms lockSets_holds
end Go.Proofs.Ytgacnebihkofcaa
