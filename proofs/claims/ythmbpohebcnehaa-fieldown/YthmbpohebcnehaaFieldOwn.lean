/-
  Of any number: FieldOwn returns true.
-/
import Derived.Test.YthmbpohebcnehaaRows
import Derived.Test.YthmbpohebcnehaaFdKnown
import Derived.Test.YthmbpohebcnehaaFdNil
import Derived.WalkKit
import Derived.ProofKit
import Derived.OpenShut
import Derived.ShutString
import Derived.ChangeOld
import Derived.Below
import Derived.SizedLaws
import Derived.PinnedBridge
import Derived.Lib.LaidU8T
import Derived.Lay
import Derived.LaidOnce
import Derived.SevenTiedAt
import Derived.Deep.DeepHandedRow
namespace Go.Proofs.Ythmbpohebcnehaa.fieldOwn
open Go.ChangeShapes Go.WideShapes Go.ChangeAt Go.RowKit

theorem one2 : isB (oneLay 2) = true := by decide +kernel
theorem stp : stepF6 [restF 1, restF 1] [2, 1] = [(0, 2, 1), restF 1] := by decide +kernel

set_option maxRecDepth 1000000 in
set_option maxHeartbeats 32000000 in
theorem walk (n : Int) (_ : (Lit.int IntKind.i64 n).wf = true) (w : World) : Calls Try.prog 6 #[.int .i64 n] w fun e w' => e = .returned (.bool true) ∧ Below w.heap.size w w' := by
  go_enter Try.func6, Try.ntmps6
  go_wp2_with fail
  refine (one_any 2 w (by omega)).mono ?_
  rintro e w1 ⟨v, rfl, hL, hF, hb1⟩
  have D := new_f 2 w w1 v hL hF one2 (by omega) hb1
  clear hL hF
  go_wp2_with fail
  refine D.mono ?_
  rintro e w2 ⟨fb, rfl, hK, -⟩
  clear D hb1
  have HK2 : Hid (FdL w w2 fb [false] [restF 1, restF 1]) := hK
  clear hK
  have D := in_f w w2 fb [false] [restF 1, restF 1] 1 2 HK2.out rfl rfl (by omega)
  go_wp2_with fail
  refine D.mono ?_
  rintro e w3 ⟨g, c, b, rfl, ho, hl, hgb, hb⟩
  have hg2 : w2.heap.size ≤ g := (ho.lt g rfl).1
  have HGB : Hid (w2.heap.size ≤ g ∧ w2.heap.size ≤ b) := ⟨hg2, hgb⟩
  generalize hch : w3.alloc (.cells #[.slice (some ⟨g, 0, none⟩) 1 c, .slice (some ⟨b, 0, none⟩) 2 2] 36) = w4
  have HB4 : Hid (Below w3.heap.size w3 w4) := by show Below _ _ _; rw [← hch]; exact (Below.refl _ _).alloc (Nat.le_refl _) _
  have HX4 : Hid (w4.heap[w3.heap.size]? = some (.cells #[.slice (some ⟨g, 0, none⟩) 1 c, .slice (some ⟨b, 0, none⟩) 2 2] 36 (0, 0))) := by show _ = _; rw [← hch]; exact blk_new _ _
  have HB24 : Hid (Below w2.heap.size w2 w4) := hb.trans (HB4.out.mono hb.size)
  have HL4 : Hid (w4.heap[b]? = some (.cells (([1, 1] : List Int).map (Value.int .i64)).toArray 3 (0, 0))) := blk_below HB4.out hl
  have HO4 : Hid (w4.ownsRow w2.heap.size 4 1 (.slice (some ⟨g, 0, none⟩) 1 c) 1 ([false].flatMap bC)) := owns_below ho HB4.out
  obtain ⟨y0, y1⟩ := cells2 HX4.out
  clear D ho hl hb hgb hg2
  go_wp2_with fail
  clear hch
  have hbx : b ≠ w3.heap.size := fun e => by
    have h1 := HL4.out
    rw [e, HX4.out] at h1
    injection h1 with h1
    injection h1 with e1 e2 e3
    revert e2
    decide
  have f0 : ∀ y : Cls [(⟨w3.heap.size, 1, none⟩, .slice (some ⟨b, 0, none⟩) 2 2), (⟨w3.heap.size, 0, none⟩, .slice (some ⟨g, 0, none⟩) 1 c)], y.z.cell? ⟨w3.heap.size, 1, none⟩ = some (.slice (some ⟨b, 0, none⟩) 2 2) := fun y => y.h (⟨w3.heap.size, 1, none⟩, .slice (some ⟨b, 0, none⟩) 2 2) (by simp)
  have f1 : ∀ y : Cls [(⟨w3.heap.size, 1, none⟩, .slice (some ⟨b, 0, none⟩) 2 2), (⟨w3.heap.size, 0, none⟩, .slice (some ⟨g, 0, none⟩) 1 c)], y.z.cell? ⟨w3.heap.size, 0, none⟩ = some (.slice (some ⟨g, 0, none⟩) 1 c) := fun y => y.h (⟨w3.heap.size, 0, none⟩, .slice (some ⟨g, 0, none⟩) 1 c) (by simp)
  have mkc : ∀ W : World, W.cell? ⟨w3.heap.size, 1, none⟩ = some (.slice (some ⟨b, 0, none⟩) 2 2) → W.cell? ⟨w3.heap.size, 0, none⟩ = some (.slice (some ⟨g, 0, none⟩) 1 c) → ∃ y : Cls [(⟨w3.heap.size, 1, none⟩, .slice (some ⟨b, 0, none⟩) 2 2), (⟨w3.heap.size, 0, none⟩, .slice (some ⟨g, 0, none⟩) 1 c)], W = y.z := fun W h1 h2 => ⟨⟨W, fun p hp => by
    rcases List.mem_cons.1 hp with rfl | hp
    · exact h1
    · rw [List.mem_singleton.1 hp]; exact h2⟩, rfl⟩
  have MKC := (show Hid _ from mkc)
  haveI : Nonempty (Cls [(⟨w3.heap.size, 1, none⟩, .slice (some ⟨b, 0, none⟩) 2 2), (⟨w3.heap.size, 0, none⟩, .slice (some ⟨g, 0, none⟩) 1 c)]) := by obtain ⟨y, _⟩ := mkc w4 y1 y0; exact ⟨y⟩
  have HC0 := MKC.out w4.drew y1 y0
  have HBD : Hid (Below w4.heap.size w4 w4.drew) := (Below.refl _ _).drew
  have HLD := (show Hid _ from blk_below HBD.out HL4.out)
  have HOD := (show Hid _ from owns_below HO4.out HBD.out)
  have HB2D : Hid (Below w2.heap.size w2 w4.drew) := HB24.out.trans (HBD.out.mono HB24.out.size)
  have hgb : g ≠ b := owns_ne HOD.out HLD.out (by decide) g rfl
  have HBX := (show Hid _ from hbx)
  have HGE := (show Hid _ from hgb)
  have HXD := (show Hid _ from blk_below HBD.out HX4.out)
  clear y0 y1 mkc hbx hgb HBD
  refine wp_region_last (C := fun W => ∃ y : Cls [(⟨w3.heap.size, 1, none⟩, .slice (some ⟨b, 0, none⟩) 2 2), (⟨w3.heap.size, 0, none⟩, .slice (some ⟨g, 0, none⟩) 1 c)], W = y.z) [0, 1, 2, 3, 4, 5] [6, 7] (by kernel_rfl) (by kernel_rfl) (by kernel_rfl) (by kernel_rfl) (by simp only [List.filterMap_cons, List.getElem?_toArray, List.getElem?_cons_zero, List.getElem?_cons_succ, List.filterMap_nil]; rfl) (by simp only [List.filterMap_cons, List.getElem?_toArray, List.getElem?_cons_zero, List.getElem?_cons_succ, List.filterMap_nil]; rfl) HC0 ?_
  clear HC0
  generalize w4.drew = w5 at *
  (repeat (first | (with_reducible refine mix_read (by kernel_rfl) ?_; go_big_quiet_want; go_big_quiet_op; go_big_quiet_on; with_reducible refine wpQuiet_nil ?_) | (with_reducible refine mix_pass (by kernel_rfl) ?_; go_big_quiet_skip; with_reducible refine wpQuiet_nil ?_)))
  have x0 := lies_cell HLD.out (k := 0) (x := 1) rfl
  have x1 := froz2 HLD.out 0
  have HL6 : Hid ((w5.setCell ⟨b, 0, none⟩ (.int .i64 2)).heap[b]? = some (.cells #[.int .i64 2, .int .i64 1] 3 (0, 0))) := by show _ = _; rw [heap_put HLD.out]; rfl
  have HX6 : Hid ((w5.setCell ⟨b, 0, none⟩ (.int .i64 2)).heap[w3.heap.size]? = some (.cells #[.slice (some ⟨g, 0, none⟩) 1 c, .slice (some ⟨b, 0, none⟩) 2 2] 36 (0, 0))) := (Below.heap_setCell _ _ _ _ (Ne.symm HBX.out)).trans HXD.out
  refine mix_skips (w' := w5.setCell ⟨b, 0, none⟩ (.int .i64 2)) (by kernel_rfl) (by kernel_rfl) (by simp [execOp, go_sem, x0, x1]) (MKC.out _ (cells2 HX6.out).2 (cells2 HX6.out).1) ?_
  simp only [Act.put]
  with_reducible refine mix_end ?_
  have HO6 : Hid ((w5.setCell ⟨b, 0, none⟩ (.int .i64 2)).ownsRow w2.heap.size 4 1 (.slice (some ⟨g, 0, none⟩) 1 c) 1 ([false].flatMap bC)) := owns_keep HOD.out fun i hi => Below.heap_setCell _ _ _ _ (by rcases hi; exact HGE.out)
  have z0 := occ_cell (l := [false]) HO6.out (k := 0) rfl
  have z1 : (w5.setCell ⟨b, 0, none⟩ (.int .i64 2)).frozen? ⟨g, 0, none⟩ = false := by
    rcases HO6.out.2 with ⟨e0, _⟩ | ⟨g', cap', cur, e0, _, hg, _⟩
    · cases e0
    · injection e0 with e1
      injection e1 with e1
      injection e1 with e1
      subst e1
      exact froz2 hg 0
  have HB7 : Hid (Below w2.heap.size w2 ((w5.setCell ⟨b, 0, none⟩ (.int .i64 2)).setCell ⟨g, 0, none⟩ (.bool true))) := (HB2D.out.setCell HGB.out.2 _).setCell HGB.out.1 _
  clear f0 f1 x0 x1 MKC
  generalize hch1 : w5.setCell ⟨b, 0, none⟩ (.int .i64 2) = w6 at *
  generalize hch2 : w6.setCell ⟨g, 0, none⟩ (.bool true) = w7 at *
  have HK7 : Hid (FdL w w7 fb [false] [restF 1, restF 1]) := HK2.out.step HB7.out
  have HBA : Hid (Below w7.heap.size w7 (w7.alloc (.cells #[.int .i64 2, .int .i64 1] 3))) := (Below.refl _ _).alloc (Nat.le_refl _) _
  have HDB : Hid ((w7.alloc (.cells #[.int .i64 2, .int .i64 1] 3)).heap[w7.heap.size]? = some (.cells #[.int .i64 2, .int .i64 1] 3 (0, 0))) := blk_new _ _
  have D := step_f w (w7.alloc (.cells #[.int .i64 2, .int .i64 1] 3)) fb [false] [restF 1, restF 1] [2, 1] w7.heap.size 2 2 (HK7.out.step HBA.out) HDB.out rfl (by omega)
  go_wp2_with fail
  clear hch1 hch2 z0 z1
  refine D.mono ?_
  rintro e w8 ⟨rfl, hs, ht⟩
  rw [stp] at hs
  have HK8 : Hid (FdL w w8 fb [false] [(0, 2, 1), restF 1]) := hs
  have HD8 : Hid (w8.heap[w7.heap.size]? = some (.cells #[.int .i64 2, .int .i64 1] 3 (0, 0))) := ht.blk HDB.out (by decide)
  clear D hs ht HDB
  generalize w7.heap.size = db at *
  have D := in_f w w8 fb [false] [(0, 2, 1), restF 1] 1 2 HK8.out rfl rfl (by omega)
  go_wp2_with fail
  refine D.mono ?_
  rintro e w9 ⟨g9, c9, b9, rfl, ho, hl, -, hb⟩
  generalize hch : w9.alloc (.cells #[.slice (some ⟨g9, 0, none⟩) 1 c9, .slice (some ⟨b9, 0, none⟩) 2 2] 36) = wa
  have HBa : Hid (Below w9.heap.size w9 wa) := by show Below _ _ _; rw [← hch]; exact (Below.refl _ _).alloc (Nat.le_refl _) _
  have HXa : Hid (wa.heap[w9.heap.size]? = some (.cells #[.slice (some ⟨g9, 0, none⟩) 1 c9, .slice (some ⟨b9, 0, none⟩) 2 2] 36 (0, 0))) := by show _ = _; rw [← hch]; exact blk_new _ _
  have HLa : Hid (wa.heap[b9]? = some (.cells (([0, 1] : List Int).map (Value.int .i64)).toArray 3 (0, 0))) := blk_below HBa.out hl
  have HOa : Hid (wa.ownsRow w8.heap.size 4 1 (.slice (some ⟨g9, 0, none⟩) 1 c9) 1 ([false].flatMap bC)) := owns_below ho HBa.out
  have HDa : Hid (wa.heap[db]? = some (.cells #[.int .i64 2, .int .i64 1] 3 (0, 0))) := blk_below HBa.out (blk_below hb HD8.out)
  have HKa : Hid (FdL w wa fb [false] [(0, 2, 1), restF 1]) := (HK8.out.step hb).step HBa.out
  clear D ho hl hb
  go_wp2_with fail
  clear hch
  refine (nilStep_any _ _).mono ?_
  rintro e wx ⟨rfl, hx⟩
  rw [hx]
  clear hx
  go_wp2_with fail
  refine (nilIn_any _).mono ?_
  rintro e we ⟨rfl, hbe⟩
  have HBf : Hid (Below we.heap.size we (we.alloc (.cells #[.slice none 0 0, .slice none 0 0] 36))) := (Below.refl _ _).alloc (Nat.le_refl _) _
  have HXf : Hid ((we.alloc (.cells #[.slice none 0 0, .slice none 0 0] 36)).heap[we.heap.size]? = some (.cells #[.slice none 0 0, .slice none 0 0] 36 (0, 0))) := blk_new _ _
  have HBaf : Hid (Below wa.heap.size wa (we.alloc (.cells #[.slice none 0 0, .slice none 0 0] 36))) := hbe.trans (HBf.out.mono hbe.size)
  obtain ⟨p0, p1⟩ := cells2 HXf.out
  obtain ⟨q0, q1⟩ := cells2 (blk_below HBaf.out HXa.out)
  have r0 := lies_cell (blk_below HBaf.out HLa.out) (k := 0) (x := 0) rfl
  have r1 := lies_cell (blk_below HBaf.out HLa.out) (k := 1) (x := 1) rfl
  have s0 := occ_cell (l := [false]) (owns_below HOa.out HBaf.out) (k := 0) rfl
  obtain ⟨t0, t1⟩ := cells2 (blk_below HBaf.out HDa.out)
  have HKf : Hid (FdL w (we.alloc (.cells #[.slice none 0 0, .slice none 0 0] 36)) fb [false] [(0, 2, 1), restF 1]) := HKa.out.step HBaf.out
  clear hbe
  go_wp2_with fail
  refine (nilTrain_any _ _).mono ?_
  rintro e wx ⟨rfl, hx⟩
  rw [hx]
  clear hx
  go_wp2_with fail
  refine (nilStick_any _ _).mono ?_
  rintro e wx ⟨rfl, hx⟩
  rw [hx]
  clear hx
  go_wp2_with fail
  try clear hch
  refine (fdKnown_any _).mono ?_
  rintro e wk ⟨rfl, hbk⟩
  go_wp2
  go_ret
  exact ⟨rfl, HKf.out.bl.trans (hbk.mono HKf.out.bl.size)⟩

theorem own : ownKnob Try.prog.godebug = none := by kernel_rfl

set_option maxRecDepth 100000 in
theorem lifted (os : Os) (started : os.Started) (H : Type) (enc : TypeId × Value → H) :
    ReturnsInHanded {} Try.checked os 6 .any (Rows.fieldOwnSpec.pre6 enc Try.prog Try.f6 Rows.fieldOwnRow.domain false) (Rows.fieldOwnSpec.post enc Try.prog Try.f6 false true false false) := by
  refine returnsInHanded_of_change (C := Try.checked) own started (by kernel_rfl) Try.func6
    (ChangeSpec.witness6 (enc := enc) (C := Try.checked) false ⟨#[], #[.int .i64 0], []⟩ 8 (by kernel_rfl) (by kernel_rfl) (by kernel_rfl) (by kernel_rfl)) ?_
  intro W base args ds gs before hval0 hW _ _
  have hval : ∀ (j : Nat) t v, Try.f6.params[j]? = some t → args[j]? = some v → Value.okWide Try.prog W .any base t v := hval0
  have hW' := hW
  obtain ⟨p, q, hA0, hV, rfl, _, _⟩ := hW
  have hA : DataW.TrodAll enc Try.prog W 0 (fun _ => true) true Try.f6.params.toList args.toList ds p := hA0
  rw [Try.params6] at hA hval
  obtain ⟨v0, vs0, d0, ds0, p0, q0, hargs, rfl, rfl, h0, r0⟩ := trodAll_cons hA
  obtain ⟨rfl, rfl, rfl⟩ := trodAll_nil r0
  obtain rfl : args = #[v0] := by cases args; simp_all
  obtain ⟨rfl, rfl⟩ := trodVars_none hV
  obtain ⟨a0, rfl, rfl, rfl, w0⟩ := open_int Try.underlying3 (hval 0 3 v0 rfl rfl) h0
  clear hA0 hval0
  refine (walk a0 w0 W).mono fun e W' ⟨he, bel⟩ => ?_
  subst he
  exact ⟨_, rfl, _, _, _, [], _, [], hW', trodAll_mk1 (shut_bool Try.underlying4 _), (trodAll_cons_mk (shut_int Try.underlying3 w0) trodAll_mk0), rfl, bel.frame _, fun h => by cases h⟩

theorem over : Rows.fieldOwnRow.holds Try.pinned (OpenSpec.ofChange Rows.fieldOwnSpec) :=
  OpenClaim.holds_of_wide 6 Try.f6 rfl rfl rfl rfl rfl rfl rfl ⟨rfl, rfl, rfl, rfl, rfl⟩ rfl rfl rfl rfl rfl (by kernel_rfl) Try.func6 (by kernel_rfl)
    (of_decide_eq_true (by kernel_rfl)) (by unfold Func.isWrapper; first | (rw [if_pos (by decide +kernel)]; kernel_rfl) | (rw [if_neg (by decide +kernel)]; exact ⟨rfl, rfl⟩))
    (fun os started H enc _ => lifted os started H enc)

end Go.Proofs.Ythmbpohebcnehaa.fieldOwn
namespace Go.Proofs.Ythmbpohebcnehaa
theorem fieldOwn_holds : Rows.FieldOwnSaid := fieldOwn.over
#print axioms fieldOwn_holds
end Go.Proofs.Ythmbpohebcnehaa
