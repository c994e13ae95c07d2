/-
  Of any row of bools: FieldKeeps returns true.
-/
import Derived.Test.YthmbpohebcnehabRows
import Derived.Test.YthmbpohebcnehabFdKnown
import Derived.Test.YthmbpohebcnehabLawInts
import Derived.WalkKit
import Derived.ProofKit
import Derived.OpenShut
import Derived.ShutString
import Derived.ChangeOld
import Derived.Below
import Derived.SizedLaws
import Derived.PinnedBridge
import Derived.Lib.LaidU8T
import Derived.Lay
import Derived.LaidOnce
import Derived.SevenTiedAt
import Derived.Deep.DeepHandedRow
namespace Go.Proofs.Ythmbpohebcnehab.fieldKeeps
open Go.ChangeShapes Go.WideShapes Go.ChangeAt Go.RowKit

theorem keep0 : drivenF (restF 1) 0 = restF 1 := by decide
theorem keep1 : drivenF (restF 1) 1 = restF 1 := by decide

set_option maxRecDepth 1000000 in
set_option maxHeartbeats 32000000 in
theorem walk (w : World) (oa : Option Addr) (len cap : Nat) (ls : List Bool) (e1 : ls.length = len) (m1 : len ≤ maxLen) (hI : hasBools w oa ls) : Calls Try.prog 4 #[.slice oa len cap] w fun e w' => e = .returned (.bool true) ∧ Below w.heap.size w w' := by
  unfold maxLen at m1
  by_cases h6 : 60 < len
  · have hq : (60 : Int) < (len : Int) := by omega
    clear e1 hI
    go_enter Try.func4, Try.ntmps4
    go_wp2
    go_ret
    exact ⟨rfl, Below.refl _ _⟩
  have hq : ¬ (60 : Int) < (len : Int) := by omega
  have HE : Hid (ls.length = len) := e1
  have HI : Hid (hasBools w oa ls) := hI
  have HL60 : Hid (len ≤ 60) := (by show len ≤ 60; omega)
  clear e1 hI m1 h6
  go_enter Try.func4, Try.ntmps4
  go_wp2_with fail
  refine (one_any 1 w (by omega)).mono ?_
  rintro e w1 ⟨v, rfl, hL, hF, hb1⟩
  have D := new_f 1 w w1 v hL hF one1 (by omega) hb1
  clear hL hF
  go_wp2_with fail
  refine D.mono ?_
  rintro e w2 ⟨fb, rfl, hK, -⟩
  clear D hb1
  have HK2 : Hid (FdL w w2 fb [false] [restF 1]) := hK
  clear hK
  clear hq
  go_wp2
  go_loopg [5, 6, 7] len (fun gk i a1 a2 wr => ∃ k : Nat, gk = len - k ∧ i = .int .i64 k ∧ k ≤ len ∧ FdL w wr fb [false] [restF 1])
  case atStart => exact ⟨0, rfl, rfl, by omega, HK2.out⟩
  case round =>
    obtain ⟨k, rfl, rfl, hk, hK⟩ := hrel
    have HKR : Hid (FdL w wr fb [false] [restF 1]) := hK
    clear hK
    have hL60 := HL60.out
    by_cases hlt : k < len
    · have hki : (k : Int) < (len : Int) := by omega
      obtain ⟨x, hxk⟩ : ∃ x, ls[k]? = some x := ⟨ls[k]'(by rw [HE.out]; exact hlt), List.getElem?_eq_getElem _⟩
      obtain ⟨b0, off, rfl, c1⟩ := HI.out k x hxk
      have d1 := (HKR.out.bl.cell (p := ⟨b0, off + k, none⟩) (World.block_lt_of_cell? w _ c1)).trans c1
      clear hxk c1
      cases x
      · have HBAwr : Hid (Below wr.heap.size wr (wr.alloc (.cells #[.int .i64 0] 3))) := (Below.refl _ _).alloc (Nat.le_refl _) _
        have D := step_f w (wr.alloc (.cells #[.int .i64 0] 3)) fb [false] _ [0] wr.heap.size 1 1 (HKR.out.step HBAwr.out) (blk_new _ _) rfl (by omega)
        go_wp2_with fail
        refine D.mono ?_
        rintro e w3 ⟨rfl, hs, -⟩
        rw [step1 _ 0 (by decide), keep0] at hs
        have HKw3 : Hid (FdL w w3 fb [false] [restF 1]) := hs
        clear D hs
        have D := in_f w w3 fb [false] [restF 1] 1 1 HKw3.out rfl rfl (by omega)
        go_wp2_with fail
        refine D.mono ?_
        rintro e w4 ⟨g, c, b, rfl, ho, hl, -, hb⟩
        generalize hch : w4.alloc (.cells #[.slice (some ⟨g, 0, none⟩) 1 c, .slice (some ⟨b, 0, none⟩) 1 1] 36) = w5
        have HBw5 : Hid (Below w4.heap.size w4 w5) := by show Below _ _ _; rw [← hch]; exact (Below.refl _ _).alloc (Nat.le_refl _) _
        have HXw5 : Hid (w5.heap[w4.heap.size]? = some (.cells #[.slice (some ⟨g, 0, none⟩) 1 c, .slice (some ⟨b, 0, none⟩) 1 1] 36 (0, 0))) := by show _ = _; rw [← hch]; exact blk_new _ _
        have HKw5 : Hid (FdL w w5 fb [false] [restF 1]) := (HKw3.out.step hb).step HBw5.out
        obtain ⟨y0, y1⟩ := cells2 HXw5.out
        have z0 := up_cell HBw5.out (lies_cell hl (k := 0) (x := 1) (rfl))
        clear D ho hl hb
        go_wp2
        clear hch
        go_roundg (len - (k + 1))
        case rel => exact ⟨k + 1, rfl, by go_num, by omega, HKw5.out⟩
        case measure => omega
      · have HBAwr : Hid (Below wr.heap.size wr (wr.alloc (.cells #[.int .i64 1] 3))) := (Below.refl _ _).alloc (Nat.le_refl _) _
        have D := step_f w (wr.alloc (.cells #[.int .i64 1] 3)) fb [false] _ [1] wr.heap.size 1 1 (HKR.out.step HBAwr.out) (blk_new _ _) rfl (by omega)
        go_wp2_with fail
        refine D.mono ?_
        rintro e w3 ⟨rfl, hs, -⟩
        rw [step1 _ 1 (by decide), keep1] at hs
        have HKw3 : Hid (FdL w w3 fb [false] [restF 1]) := hs
        clear D hs
        have D := in_f w w3 fb [false] [restF 1] 1 1 HKw3.out rfl rfl (by omega)
        go_wp2_with fail
        refine D.mono ?_
        rintro e w4 ⟨g, c, b, rfl, ho, hl, -, hb⟩
        generalize hch : w4.alloc (.cells #[.slice (some ⟨g, 0, none⟩) 1 c, .slice (some ⟨b, 0, none⟩) 1 1] 36) = w5
        have HBw5 : Hid (Below w4.heap.size w4 w5) := by show Below _ _ _; rw [← hch]; exact (Below.refl _ _).alloc (Nat.le_refl _) _
        have HXw5 : Hid (w5.heap[w4.heap.size]? = some (.cells #[.slice (some ⟨g, 0, none⟩) 1 c, .slice (some ⟨b, 0, none⟩) 1 1] 36 (0, 0))) := by show _ = _; rw [← hch]; exact blk_new _ _
        have HKw5 : Hid (FdL w w5 fb [false] [restF 1]) := (HKw3.out.step hb).step HBw5.out
        obtain ⟨y0, y1⟩ := cells2 HXw5.out
        have z0 := up_cell HBw5.out (lies_cell hl (k := 0) (x := 1) (rfl))
        clear D ho hl hb
        go_wp2
        clear hch
        go_roundg (len - (k + 1))
        case rel => exact ⟨k + 1, rfl, by go_num, by omega, HKw5.out⟩
        case measure => omega
    · have hkn : ¬ (k : Int) < (len : Int) := by omega
      go_wp2_with fail
      refine (fdKnown_any _).mono ?_
      rintro e wk ⟨rfl, hbk⟩
      go_wp2
      go_ret
      exact ⟨rfl, HKR.out.bl.trans (hbk.mono HKR.out.bl.size)⟩

theorem own : ownKnob Try.prog.godebug = none := by kernel_rfl

set_option maxRecDepth 100000 in
theorem lifted (os : Os) (started : os.Started) (H : Type) (enc : TypeId × Value → H) :
    ReturnsInHanded {} Try.checked os 4 .any (Rows.fieldKeepsSpec.pre6 enc Try.prog Try.f4 Rows.fieldKeepsRow.domain false) (Rows.fieldKeepsSpec.post enc Try.prog Try.f4 false true false false) := by
  refine returnsInHanded_of_change (C := Try.checked) own started (by kernel_rfl) Try.func4
    (ChangeSpec.witness6 (enc := enc) (C := Try.checked) false ⟨#[], #[.slice none 0 0], []⟩ 8 (by kernel_rfl) (by kernel_rfl) (by kernel_rfl) (by kernel_rfl)) ?_
  intro W base args ds gs before hval0 hW _ _
  have hval : ∀ (j : Nat) t v, Try.f4.params[j]? = some t → args[j]? = some v → Value.okWide Try.prog W .any base t v := hval0
  have hW' := hW
  obtain ⟨p, q, hA0, hV, rfl, _, _⟩ := hW
  have hA : DataW.TrodAll enc Try.prog W 0 (fun _ => true) true Try.f4.params.toList args.toList ds p := hA0
  rw [Try.params4] at hA hval
  obtain ⟨v0, vs0, d0, ds0, p0, q0, hargs, rfl, rfl, h0, r0⟩ := trodAll_cons hA
  obtain ⟨rfl, rfl, rfl⟩ := trodAll_nil r0
  obtain rfl : args = #[v0] := by cases args; simp_all
  obtain ⟨rfl, rfl⟩ := trodVars_none hV
  obtain ⟨a0, len0, cap0, rfl⟩ := okWide_slice Try.underlying34 (hval 0 34 v0 rfl rfl)
  have k0 := h0
  have lt0 : ∀ x ∈ p0, x.block < W.heap.size := by obtain ⟨m, hm⟩ := k0; exact DataW.trod_lt m _ _ _ hm
  obtain ⟨z0, e0, m0, s0⟩ : ∃ l : List Bool, l.length = len0 ∧ len0 ≤ maxLen ∧ hasBools W a0 l := by
    obtain ⟨fuel, hf⟩ := h0
    rcases Go.Deep.open_bools Try.underlying34 Try.underlying4 (by kernel_rfl) hf with ⟨hcs, _⟩ | ⟨x, l, c, B, hcs, _, hl, hm, _, hcell⟩
    · simp [Value.cells] at hcs
      obtain ⟨rfl, rfl, rfl⟩ := hcs
      exact ⟨[], rfl, by unfold maxLen; omega, fun j x hj => by simp at hj⟩
    · simp [Value.cells] at hcs
      obtain ⟨rfl, rfl, rfl⟩ := hcs
      exact ⟨_, (bools_of hl hcell).1, by omega, (bools_of hl hcell).2⟩
  clear hA0 hval0
  refine (walk W a0 len0 cap0 z0 e0 m0 s0 ).mono fun e W' ⟨he, bel⟩ => ?_
  subst he
  exact ⟨_, rfl, _, _, _, [], _, [], hW', trodAll_mk1 (shut_bool Try.underlying4 _), (trodAll_cons_mk (Below.trod laidOut (by kernel_rfl) (of_decide_eq_true (by kernel_rfl)) k0 bel lt0) trodAll_mk0), rfl, bel.frame _, fun h => by cases h⟩

theorem over : Rows.fieldKeepsRow.holds Try.pinned (OpenSpec.ofChange Rows.fieldKeepsSpec) :=
  OpenClaim.holds_of_wide 4 Try.f4 rfl rfl rfl rfl rfl rfl rfl ⟨rfl, rfl, rfl, rfl, rfl⟩ rfl rfl rfl rfl rfl (by kernel_rfl) Try.func4 (by kernel_rfl)
    (of_decide_eq_true (by kernel_rfl)) (by unfold Func.isWrapper; first | (rw [if_pos (by decide +kernel)]; kernel_rfl) | (rw [if_neg (by decide +kernel)]; exact ⟨rfl, rfl⟩))
    (fun os started H enc _ => lifted os started H enc)

end Go.Proofs.Ythmbpohebcnehab.fieldKeeps
namespace Go.Proofs.Ythmbpohebcnehab
theorem fieldKeeps_holds : Rows.FieldKeepsSaid := fieldKeeps.over
#print axioms fieldKeeps_holds
end Go.Proofs.Ythmbpohebcnehab
