/-
  Of every number, text and truth: CrateKinds returns true. No condition.
-/
import Derived.Test.YtfkolpijnflpcaaRows
import Derived.Test.YtfkolpijnflpcaaCrLaw
import Derived.WalkKit
import Derived.ProofKit
import Derived.OpenShut
import Derived.ShutString
import Derived.ChangeOld
import Derived.Below
namespace Go.Proofs.Ytfkolpijnflpcaa.crateKinds
open Go.ChangeShapes Go.WideShapes Go.ChangeAt Go.RowKit
open Go.ChangeMaps (open_string shut_string)

set_option maxRecDepth 1000000 in
set_option maxHeartbeats 2000000 in
theorem walk (n : Int) (s : ByteArray) (b : Bool) (_ : (Lit.int .i64 n).wf = true) (_ : s.size ≤ maxLen) (w : World) :
    Calls Try.prog 6 #[.int .i64 n, .string s, .bool b] w fun e w' => e = .returned (.bool true) ∧ Below w.heap.size w w' := by
  by_cases hs : 200 < s.size
  · go_enter Try.func6, Try.ntmps6
    go_wp2
    go_ret
    exact ⟨rfl, Below.refl _ _⟩
  · go_enter Try.func6, Try.ntmps6
    go_wp2_with fail
    refine (new_any _).mono ?_
    rintro e w1 ⟨rfl, hw1⟩
    have c1 := crate_new w
    rw [← hw1] at c1
    have l1 : Hid (w1.heap.size = w.heap.size + 1) := by rw [Hid, hw1]; simp
    have k1 : Below w.heap.size w w1 := by rw [hw1]; exact (Below.refl _ _).alloc (Nat.le_refl _) _
    clear hw1
    go_wp2_with fail
    refine (new_any _).mono ?_
    rintro e w2 ⟨rfl, hw2⟩
    have c2 := crate_new w1
    rw [← hw2] at c2
    have l2 : Hid (w2.heap.size = w1.heap.size + 1) := by rw [Hid, hw2]; simp
    have k2 : Below w1.heap.size w1 w2 := by rw [hw2]; exact (Below.refl _ _).alloc (Nat.le_refl _) _
    clear hw2
    go_wp2_with fail
    refine (new_any _).mono ?_
    rintro e w3 ⟨rfl, hw3⟩
    have c3 := crate_new w2
    rw [← hw3] at c3
    have l3 : Hid (w3.heap.size = w2.heap.size + 1) := by rw [Hid, hw3]; simp
    have k3 : Below w2.heap.size w2 w3 := by rw [hw3]; exact (Below.refl _ _).alloc (Nat.le_refl _) _
    clear hw3
    replace l1 := l1.out
    replace l2 := l2.out
    replace l3 := l3.out
    have X3 : Hid (Crate w3 w.heap.size w.heap.size (.slice none 0 0) []) := ⟨(c1.1.below k2).below k3, c1.2⟩
    have Y3 : Hid (Crate w3 w.heap.size w1.heap.size (.slice none 0 0) []) := ⟨(c2.1.below k3).mono (by omega), c2.2⟩
    have Z3 : Hid (Crate w3 w.heap.size w2.heap.size (.slice none 0 0) []) := ⟨c3.1.mono (by omega), c3.2⟩
    have axy : Hid (Apart w.heap.size (.slice none 0 0) w1.heap.size (.slice none 0 0)) := fun k h h' => by
      simp [foot, Value.ownBlock] at h h'; omega
    have axz : Hid (Apart w.heap.size (.slice none 0 0) w2.heap.size (.slice none 0 0)) := fun k h h' => by
      simp [foot, Value.ownBlock] at h h'; omega
    have ayz : Hid (Apart w1.heap.size (.slice none 0 0) w2.heap.size (.slice none 0 0)) := fun k h h' => by
      simp [foot, Value.ownBlock] at h h'; omega
    have K3 : Hid (Below w.heap.size w w3) := (k1.trans (k2.mono (by omega))).trans (k3.mono (by omega))
    clear c1 c2 c3 k1 k2 k3 l1 l2 l3
    generalize w1.heap.size = c at *
    generalize w2.heap.size = d at *
    go_wp2_with fail
    refine (addInt_any n [] _ _ _ _ X3.out).mono ?_
    rintro e w4 ⟨x4, rfl, X4, t4⟩
    obtain ⟨Y4, ayx⟩ := Y3.out.1.other t4 axy.out
    obtain ⟨Z4, azx⟩ := Z3.out.1.other t4 axz.out
    go_wp2_with fail
    refine (addText_any s [] _ _ _ _ ⟨Y4, Y3.out.2⟩ (by omega)).mono ?_
    rintro e w5 ⟨y5, rfl, Y5, t5⟩
    obtain ⟨X5, ayx5⟩ := X4.1.other t5 ayx.symm
    obtain ⟨Z5, azy5⟩ := Z4.other t5 ayz.out
    go_wp2_with fail
    refine (addBool_any b [] _ _ _ _ ⟨Z5, Z3.out.2⟩).mono ?_
    rintro e w6 ⟨z6, rfl, Z6, t6⟩
    obtain ⟨X6, _⟩ := X5.other t6 azx.symm
    obtain ⟨Y6, _⟩ := Y5.1.other t6 azy5.symm
    have RX : Hid (Reads w6 (.pointer (some ⟨w.heap.size, 0, none⟩)) [(.inl n)]) := Crate.reads (l := [(.inl n)]) ⟨X6, X4.2⟩
    have RY : Hid (Reads w6 (.pointer (some ⟨c, 0, none⟩)) [(.inr (.inl s))]) := Crate.reads (l := [(.inr (.inl s))]) ⟨Y6, Y5.2⟩
    have RZ : Hid (Reads w6 (.pointer (some ⟨d, 0, none⟩)) [(.inr (.inr b))]) := Crate.reads (l := [(.inr (.inr b))]) Z6
    have K6 : Hid (Below w.heap.size w w6) := ((K3.out.trans (X3.out.1.turnBelow t4)).trans (Y4.turnBelow t5)).trans (Z5.turnBelow t6)
    clear X4 t4 Y4 Z4 ayx azx Y5 t5 X5 ayx5 Z5 azy5 Z6 t6 X6 Y6
    go_wp2_with fail
    refine (int_any _ _ _ _ RX.out).mono ?_
    rintro e w7 ⟨rfl, hw⟩
    obtain rfl := hw.symm
    go_wp2_with fail
    refine (text_any _ _ _ _ RY.out (by show s.size ≤ _; omega)).mono ?_
    rintro e w7 ⟨rfl, hb⟩
    have RX7 : Hid (Reads w7 (.pointer (some ⟨w.heap.size, 0, none⟩)) [(.inl n)]) := RX.out.below hb
    have RY7 : Hid (Reads w7 (.pointer (some ⟨c, 0, none⟩)) [(.inr (.inl s))]) := RY.out.below hb
    have RZ7 : Hid (Reads w7 (.pointer (some ⟨d, 0, none⟩)) [(.inr (.inr b))]) := RZ.out.below hb
    go_wp2_with fail
    refine (bool_any _ _ _ _ RZ7.out).mono ?_
    rintro e w8 ⟨rfl, hw⟩
    obtain rfl := hw.symm
    go_wp2_with fail
    refine (same_any _ _ [(.inl n)] [(.inr (.inl s))] _ RX7.out RY7.out).mono ?_
    rw [show decide ([(Sum.inl n : It)] = [(Sum.inr (Sum.inl s) : It)]) = false by simp]
    rintro e w8 ⟨rfl, hw⟩
    obtain rfl := hw.symm
    go_wp2_with fail
    refine (same_any _ _ [(.inr (.inl s))] [(.inr (.inr b))] _ RY7.out RZ7.out).mono ?_
    rw [show decide ([(Sum.inr (Sum.inl s) : It)] = [(Sum.inr (Sum.inr b) : It)]) = false by simp]
    rintro e w8 ⟨rfl, hw⟩
    obtain rfl := hw.symm
    go_wp2_with fail
    refine (same_any _ _ [(.inl n)] [(.inr (.inr b))] _ RX7.out RZ7.out).mono ?_
    rw [show decide ([(Sum.inl n : It)] = [(Sum.inr (Sum.inr b) : It)]) = false by simp]
    rintro e w8 ⟨rfl, hw⟩
    obtain rfl := hw.symm
    go_wp2_with fail
    refine (known_any _).mono ?_
    rintro e w8 ⟨rfl, hb8⟩
    go_wp2
    go_ret
    exact ⟨rfl, (K6.out.trans (hb.mono K6.out.size)).trans (hb8.mono (Nat.le_trans K6.out.size hb.size))⟩

theorem own : ownKnob Try.prog.godebug = none := by kernel_rfl

set_option maxRecDepth 100000 in
theorem lifted (os : Os) (started : os.Started) (H : Type) (enc : TypeId × Value → H) :
    ReturnsInHanded {} Try.checked os 6 .any (Rows.crateKindsSpec.pre6 enc Try.prog Try.f6 Rows.crateKindsRow.domain false) (Rows.crateKindsSpec.post enc Try.prog Try.f6 false true false false) := by
  refine returnsInHanded_of_change (C := Try.checked) own started (by kernel_rfl) Try.func6
    (ChangeSpec.witness6 (enc := enc) (C := Try.checked) false ⟨#[], #[.int .i64 0, .string ByteArray.empty, .bool false], []⟩ 8 (by kernel_rfl) (by kernel_rfl) (by kernel_rfl) (by kernel_rfl)) ?_
  intro W base args ds gs before hval0 hW _ _
  have hval : ∀ (j : Nat) t v, Try.f6.params[j]? = some t → args[j]? = some v → Value.okWide Try.prog W .any base t v := hval0
  have hW' := hW
  obtain ⟨p, q, hA0, hV, rfl, _, _⟩ := hW
  have hA : DataW.TrodAll enc Try.prog W 0 (fun _ => true) true Try.f6.params.toList args.toList ds p := hA0
  rw [Try.params6] at hA hval
  obtain ⟨v0, vs0, d0, ds0, p0, q0, hargs, rfl, rfl, h0, r0⟩ := trodAll_cons hA
  obtain ⟨v1, vs1, d1, ds1, p1, q1, rfl, rfl, rfl, h1, r1⟩ := trodAll_cons r0
  obtain ⟨v2, vs2, d2, ds2, p2, q2, rfl, rfl, rfl, h2, r2⟩ := trodAll_cons r1
  obtain ⟨rfl, rfl, rfl⟩ := trodAll_nil r2
  obtain rfl : args = #[v0, v1, v2] := by cases args; simp_all
  obtain ⟨rfl, rfl⟩ := trodVars_none hV
  obtain ⟨a0, rfl, rfl, rfl, w0⟩ := open_int Try.underlying3 (hval 0 3 v0 rfl rfl) h0
  obtain ⟨a1, rfl, rfl, rfl, w1⟩ := open_string Try.underlying9 (hval 1 9 v1 rfl rfl) h1
  obtain ⟨a2, rfl, rfl, rfl⟩ := open_bool Try.underlying4 (hval 2 4 v2 rfl rfl) h2
  clear hA0 hval0
  refine (walk a0 a1 a2 w0 w1 W).mono fun e W' ⟨he, bel⟩ => ?_
  subst he
  exact ⟨_, rfl, _, _, _, [], _, [], hW', trodAll_mk1 (shut_bool Try.underlying4 _), (trodAll_cons_mk (shut_int Try.underlying3 w0) (trodAll_cons_mk (shut_string Try.underlying9 w1) (trodAll_cons_mk (shut_bool Try.underlying4 _) trodAll_mk0))), rfl, bel.frame _, fun h => by cases h⟩

theorem over : Rows.crateKindsRow.holds Try.pinned (OpenSpec.ofChange Rows.crateKindsSpec) :=
  OpenClaim.holds_of_wide 6 Try.f6 rfl rfl rfl rfl rfl rfl rfl ⟨rfl, rfl, rfl, rfl, rfl⟩ rfl rfl rfl rfl rfl (by kernel_rfl) Try.func6 (by kernel_rfl)
    (of_decide_eq_true (by kernel_rfl)) (by unfold Func.isWrapper; first | (rw [if_pos (by decide +kernel)]; kernel_rfl) | (rw [if_neg (by decide +kernel)]; exact ⟨rfl, rfl⟩))
    (fun os started H enc _ => lifted os started H enc)


end Go.Proofs.Ytfkolpijnflpcaa.crateKinds
namespace Go.Proofs.Ytfkolpijnflpcaa
theorem crateKinds_holds : Rows.CrateKindsSaid := crateKinds.over
#print axioms crateKinds_holds
end Go.Proofs.Ytfkolpijnflpcaa
