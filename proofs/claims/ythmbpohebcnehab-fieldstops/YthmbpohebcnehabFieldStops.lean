/-
  Of any two numbers: FieldStops returns true.
-/
import Derived.Test.YthmbpohebcnehabRows
import Derived.Test.YthmbpohebcnehabFdKnown
import Derived.WalkKit
import Derived.ProofKit
import Derived.OpenShut
import Derived.ShutString
import Derived.ChangeOld
import Derived.Below
import Derived.SizedLaws
import Derived.PinnedBridge
import Derived.Lib.LaidU8T
import Derived.Lay
import Derived.LaidOnce
import Derived.SevenTiedAt
import Derived.Deep.DeepHandedRow
namespace Go.Proofs.Ythmbpohebcnehab.fieldStops
open Go.ChangeShapes Go.WideShapes Go.ChangeAt Go.RowKit

theorem no2 : ∀ k : Fin 3, (itF 2 k.1 (restF 0)).1 = 0 := by decide +kernel
theorem rest_p (p : Pt) : drivenF p 0 = restF p.1 := by simp [drivenF]
theorem rest_all : ∀ (k : Nat) (p : Pt), itF 0 (k + 1) p = restF p.1
  | 0, p => rest_p p
  | k + 1, p => by rw [itF, rest_all k p, rest_p]; rfl
theorem on_way : ∀ n : Fin 2, (itF 2 (n.1 + 1) (restF 1)).1 = 0 := by decide +kernel

set_option maxRecDepth 1000000 in
set_option maxHeartbeats 32000000 in
theorem walk (n t : Int) (_ : (Lit.int IntKind.i64 n).wf = true) (_ : (Lit.int IntKind.i64 t).wf = true) (w : World) : Calls Try.prog 3 #[.int .i64 n, .int .i64 t] w fun e w' => e = .returned (.bool true) ∧ Below w.heap.size w w' := by
  by_cases h0 : n < 1
  · go_enter Try.func3, Try.ntmps3
    go_wp2
    go_ret
    exact ⟨rfl, Below.refl _ _⟩
  by_cases h1 : 3 ≤ n
  · go_enter Try.func3, Try.ntmps3
    go_wp2
    go_ret
    exact ⟨rfl, Below.refl _ _⟩
  by_cases h2 : t < 1
  · go_enter Try.func3, Try.ntmps3
    go_wp2
    go_ret
    exact ⟨rfl, Below.refl _ _⟩
  by_cases h3 : 10 < t
  · go_enter Try.func3, Try.ntmps3
    go_wp2
    go_ret
    exact ⟨rfl, Below.refl _ _⟩
  obtain ⟨N, rfl, hN⟩ := nat_of (n := 3) (i := n) ⟨by omega, by omega⟩
  obtain ⟨T, rfl, hT⟩ := nat_of (n := 11) (i := t) ⟨by omega, by omega⟩
  have HB : Hid (1 ≤ N ∧ N < 3 ∧ 1 ≤ T) := ⟨by omega, by omega, by omega⟩
  go_enter Try.func3, Try.ntmps3
  go_wp2_with fail
  refine (one_any 1 w (by omega)).mono ?_
  rintro e w1 ⟨v, rfl, hL, hF, hb1⟩
  have D := new_f 1 w w1 v hL hF one1 (by omega) hb1
  clear hL hF
  go_wp2_with fail
  refine D.mono ?_
  rintro e w2 ⟨fb, rfl, hK, -⟩
  clear D hb1
  have HK2 : Hid (FdL w w2 fb [false] [itF 2 0 (restF 1)]) := hK
  clear hK
  go_wp2
  clear h0 h1 h2 h3
  go_loopg [7] N (fun gk i wr => ∃ k : Nat, gk = N - k ∧ i = .int .i64 k ∧ k ≤ N ∧ FdL w wr fb [false] [itF 2 k (restF 1)])
  case atStart => exact ⟨0, rfl, rfl, by omega, HK2.out⟩
  case round =>
    obtain ⟨k, rfl, rfl, hk, hK⟩ := hrel
    have HKR : Hid (FdL w wr fb [false] [itF 2 k (restF 1)]) := hK
    clear hK
    by_cases hlt : k < N
    · have hki : (k : Int) < (N : Int) := by omega
      have HBAwr : Hid (Below wr.heap.size wr (wr.alloc (.cells #[.int .i64 2] 3))) := (Below.refl _ _).alloc (Nat.le_refl _) _
      have D := step_f w (wr.alloc (.cells #[.int .i64 2] 3)) fb [false] _ [2] wr.heap.size 1 1 (HKR.out.step HBAwr.out) (blk_new _ _) rfl (by omega)
      go_wp2_with fail
      refine D.mono ?_
      rintro e w3 ⟨rfl, hs, -⟩
      rw [step1 _ 2 (by decide)] at hs
      have HKw3 : Hid (FdL w w3 fb [false] [itF 2 (k + 1) (restF 1)]) := hs
      clear D hs
      go_wp2
      go_roundg (N - (k + 1))
      case rel => exact ⟨k + 1, rfl, by go_num, by omega, HKw3.out⟩
      case measure => omega
    · have hkn : k = N := by omega
      subst hkn
      have HK4 : Hid (FdL w wr fb [false] [itF 0 0 (itF 2 k (restF 1))]) := HKR.out
      clear HKR HK2
      go_wp2
      go_loopg [8] T (fun gk i wr => ∃ j : Nat, gk = T - j ∧ i = .int .i64 j ∧ j ≤ T ∧ FdL w wr fb [false] [itF 0 j (itF 2 k (restF 1))])
      case atStart => exact ⟨0, rfl, rfl, by omega, HK4.out⟩
      case round =>
        clear HK4
        obtain ⟨j, rfl, rfl, hj, hK⟩ := hrel
        have HKR : Hid (FdL w wr fb [false] [itF 0 j (itF 2 k (restF 1))]) := hK
        clear hK
        by_cases hlt : j < T
        · have hji : (j : Int) < (T : Int) := by omega
          have HBAwr : Hid (Below wr.heap.size wr (wr.alloc (.cells #[.int .i64 0] 3))) := (Below.refl _ _).alloc (Nat.le_refl _) _
          have D := step_f w (wr.alloc (.cells #[.int .i64 0] 3)) fb [false] _ [0] wr.heap.size 1 1 (HKR.out.step HBAwr.out) (blk_new _ _) rfl (by omega)
          go_wp2_with fail
          refine D.mono ?_
          rintro e w5 ⟨rfl, hs, -⟩
          rw [step1 _ 0 (by decide)] at hs
          have HKw5 : Hid (FdL w w5 fb [false] [itF 0 (j + 1) (itF 2 k (restF 1))]) := hs
          clear D hs
          go_wp2
          go_roundg (T - (j + 1))
          case rel => exact ⟨j + 1, rfl, by go_num, by omega, HKw5.out⟩
          case measure => omega
        · have hjn : j = T := by omega
          subst hjn
          have HK6 : Hid (FdL w wr fb [false] [itF 2 0 (restF 0)]) := by
            have h1 := HKR.out
            obtain ⟨a, rfl⟩ : ∃ a, j = a + 1 := ⟨j - 1, by have := HB.out; omega⟩
            obtain ⟨b, rfl⟩ : ∃ b, k = b + 1 := ⟨k - 1, by have := HB.out; omega⟩
            rw [rest_all, on_way ⟨b, by have := HB.out; omega⟩] at h1
            exact h1
          clear HKR
          go_wp2
          go_loopg [9] 3 (fun gk i wr => ∃ m : Nat, gk = 3 - m ∧ i = .int .i64 m ∧ m ≤ 3 ∧ FdL w wr fb [false] [itF 2 m (restF 0)])
          case atStart => exact ⟨0, rfl, rfl, by omega, HK6.out⟩
          case round =>
            clear HK6
            obtain ⟨m, rfl, rfl, hm, hK⟩ := hrel
            have HKR : Hid (FdL w wr fb [false] [itF 2 m (restF 0)]) := hK
            clear hK
            by_cases hlt : m < 3
            · have hmi : (m : Int) < 3 := by omega
              have D := in_f w wr fb [false] [itF 2 m (restF 0)] 1 1 HKR.out rfl rfl (by omega)
              go_wp2_with fail
              refine D.mono ?_
              rintro e w6 ⟨g, c, b, rfl, ho, hl, -, hb⟩
              generalize hch : w6.alloc (.cells #[.slice (some ⟨g, 0, none⟩) 1 c, .slice (some ⟨b, 0, none⟩) 1 1] 36) = w7
              have HBw7 : Hid (Below w6.heap.size w6 w7) := by show Below _ _ _; rw [← hch]; exact (Below.refl _ _).alloc (Nat.le_refl _) _
              have HXw7 : Hid (w7.heap[w6.heap.size]? = some (.cells #[.slice (some ⟨g, 0, none⟩) 1 c, .slice (some ⟨b, 0, none⟩) 1 1] 36 (0, 0))) := by show _ = _; rw [← hch]; exact blk_new _ _
              have HKw7 : Hid (FdL w w7 fb [false] [itF 2 m (restF 0)]) := (HKR.out.step hb).step HBw7.out
              obtain ⟨y0, y1⟩ := cells2 HXw7.out
              have z0 := up_cell HBw7.out (lies_cell hl (k := 0) (x := 0) (by rw [liesF]; exact congrArg some (no2 ⟨m, hlt⟩)))
              clear D ho hl hb
              have HBAw7 : Hid (Below w7.heap.size w7 (w7.alloc (.cells #[.int .i64 2] 3))) := (Below.refl _ _).alloc (Nat.le_refl _) _
              have D := step_f w (w7.alloc (.cells #[.int .i64 2] 3)) fb [false] _ [2] w7.heap.size 1 1 (HKw7.out.step HBAw7.out) (blk_new _ _) rfl (by omega)
              go_wp2_with fail
              clear hch y0 y1 z0
              refine D.mono ?_
              rintro e w8 ⟨rfl, hs, -⟩
              rw [step1 _ 2 (by decide)] at hs
              have HKw8 : Hid (FdL w w8 fb [false] [itF 2 (m + 1) (restF 0)]) := hs
              clear D hs
              go_wp2
              go_roundg (3 - (m + 1))
              case rel => exact ⟨m + 1, rfl, by go_num, by omega, HKw8.out⟩
              case measure => omega
            · have hmn : m = 3 := by omega
              subst hmn
              have D := in_f w wr fb [false] [itF 2 3 (restF 0)] 1 1 HKR.out rfl rfl (by omega)
              go_wp2_with fail
              refine D.mono ?_
              rintro e w6 ⟨g, c, b, rfl, ho, hl, -, hb⟩
              generalize hch : w6.alloc (.cells #[.slice (some ⟨g, 0, none⟩) 1 c, .slice (some ⟨b, 0, none⟩) 1 1] 36) = w7
              have HBw7 : Hid (Below w6.heap.size w6 w7) := by show Below _ _ _; rw [← hch]; exact (Below.refl _ _).alloc (Nat.le_refl _) _
              have HXw7 : Hid (w7.heap[w6.heap.size]? = some (.cells #[.slice (some ⟨g, 0, none⟩) 1 c, .slice (some ⟨b, 0, none⟩) 1 1] 36 (0, 0))) := by show _ = _; rw [← hch]; exact blk_new _ _
              have HKw7 : Hid (FdL w w7 fb [false] [itF 2 3 (restF 0)]) := (HKR.out.step hb).step HBw7.out
              obtain ⟨y0, y1⟩ := cells2 HXw7.out
              have z0 := up_cell HBw7.out (lies_cell hl (k := 0) (x := 2) (by decide +kernel))
              clear D ho hl hb
              go_wp2_with fail
              try clear hch
              refine (fdKnown_any _).mono ?_
              rintro e wk ⟨rfl, hbk⟩
              go_wp2
              go_ret
              exact ⟨rfl, HKw7.out.bl.trans (hbk.mono HKw7.out.bl.size)⟩

theorem own : ownKnob Try.prog.godebug = none := by kernel_rfl

set_option maxRecDepth 100000 in
theorem lifted (os : Os) (started : os.Started) (H : Type) (enc : TypeId × Value → H) :
    ReturnsInHanded {} Try.checked os 3 .any (Rows.fieldStopsSpec.pre6 enc Try.prog Try.f3 Rows.fieldStopsRow.domain false) (Rows.fieldStopsSpec.post enc Try.prog Try.f3 false true false false) := by
  refine returnsInHanded_of_change (C := Try.checked) own started (by kernel_rfl) Try.func3
    (ChangeSpec.witness6 (enc := enc) (C := Try.checked) false ⟨#[], #[.int .i64 0, .int .i64 0], []⟩ 8 (by kernel_rfl) (by kernel_rfl) (by kernel_rfl) (by kernel_rfl)) ?_
  intro W base args ds gs before hval0 hW _ _
  have hval : ∀ (j : Nat) t v, Try.f3.params[j]? = some t → args[j]? = some v → Value.okWide Try.prog W .any base t v := hval0
  have hW' := hW
  obtain ⟨p, q, hA0, hV, rfl, _, _⟩ := hW
  have hA : DataW.TrodAll enc Try.prog W 0 (fun _ => true) true Try.f3.params.toList args.toList ds p := hA0
  rw [Try.params3] at hA hval
  obtain ⟨v0, vs0, d0, ds0, p0, q0, hargs, rfl, rfl, h0, r0⟩ := trodAll_cons hA
  obtain ⟨v1, vs1, d1, ds1, p1, q1, rfl, rfl, rfl, h1, r1⟩ := trodAll_cons r0
  obtain ⟨rfl, rfl, rfl⟩ := trodAll_nil r1
  obtain rfl : args = #[v0, v1] := by cases args; simp_all
  obtain ⟨rfl, rfl⟩ := trodVars_none hV
  obtain ⟨a0, rfl, rfl, rfl, w0⟩ := open_int Try.underlying3 (hval 0 3 v0 rfl rfl) h0
  obtain ⟨a1, rfl, rfl, rfl, w1⟩ := open_int Try.underlying3 (hval 1 3 v1 rfl rfl) h1
  clear hA0 hval0
  refine (walk a0 a1 w0 w1 W).mono fun e W' ⟨he, bel⟩ => ?_
  subst he
  exact ⟨_, rfl, _, _, _, [], _, [], hW', trodAll_mk1 (shut_bool Try.underlying4 _), (trodAll_cons_mk (shut_int Try.underlying3 w0) (trodAll_cons_mk (shut_int Try.underlying3 w1) trodAll_mk0)), rfl, bel.frame _, fun h => by cases h⟩

theorem over : Rows.fieldStopsRow.holds Try.pinned (OpenSpec.ofChange Rows.fieldStopsSpec) :=
  OpenClaim.holds_of_wide 3 Try.f3 rfl rfl rfl rfl rfl rfl rfl ⟨rfl, rfl, rfl, rfl, rfl⟩ rfl rfl rfl rfl rfl (by kernel_rfl) Try.func3 (by kernel_rfl)
    (of_decide_eq_true (by kernel_rfl)) (by unfold Func.isWrapper; first | (rw [if_pos (by decide +kernel)]; kernel_rfl) | (rw [if_neg (by decide +kernel)]; exact ⟨rfl, rfl⟩))
    (fun os started H enc _ => lifted os started H enc)

end Go.Proofs.Ythmbpohebcnehab.fieldStops
namespace Go.Proofs.Ythmbpohebcnehab
theorem fieldStops_holds : Rows.FieldStopsSaid := fieldStops.over
#print axioms fieldStops_holds
end Go.Proofs.Ythmbpohebcnehab
