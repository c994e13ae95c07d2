/-
  Of any number: WireOfNothing returns true. No condition.
-/
import Derived.Test.YtfcoanlegjddpabRows
import Derived.Test.YtfcoanlegjddpabWrBackP
import Derived.Test.YtfcoanlegjddpabWrRefUnp
import Derived.Test.YtfcoanlegjddpabSmOpen
import Derived.WalkKit
import Derived.ProofKit
import Derived.OpenShut
import Derived.ShutString
import Derived.ChangeOld
import Derived.Below
import Derived.SizedLaws
import Derived.ShutString
namespace Go.Proofs.Ytfcoanlegjddpab.wireOfNothing
open Go.ChangeShapes Go.WideShapes Go.ChangeAt Go.RowKit

def zeros (S : Nat) : List (BitVec 8) := List.replicate S (0#8)
theorem zeros_len (S : Nat) : (zeros S).length = S := by simp [zeros]
theorem zero_row (W : World) (S : Nat) : hasBytes (W.alloc (.cells ((List.replicate S (0#8)).map u8C).toArray 5)) (some ⟨W.heap.size, 0, none⟩) (zeros S) := bytes_cells (sblk_new _ _) fun j x hj => by
  rw [List.getElem?_toArray, List.getElem?_map]
  show Option.map _ (zeros S)[j]? = _
  rw [hj]
  rfl

set_option maxRecDepth 1000000 in
set_option maxHeartbeats 1000000 in
theorem pack_nil (w : World) : Calls Try.prog 7 #[.pointer none] w fun e w' => e = .returned (.tuple #[.slice none 0 0, .int .i64 1]) ∧ w' = w := by
  go_enter Try.func7, Try.ntmps7
  go_wp2
  go_ret2
  exact ⟨rfl, rfl⟩

set_option maxRecDepth 1000000 in
set_option maxHeartbeats 2000000 in
theorem core (w : World) (S : Nat) (hS : S ≤ 20) :
    Calls Try.prog 3 #[.int .i64 (S : Int)] w fun e w' => e = .returned (.bool true) ∧ Below w.heap.size w w' := by
  have hmk := fun W => mk_u8 S (by omega) W
  have HZ : Hid (∀ W : World, hasBytes (W.alloc (.cells (Array.replicate S (u8C 0#8)) 5)) (some ⟨W.heap.size, 0, none⟩) (zeros S) ∧ Below W.heap.size W (W.alloc (.cells (Array.replicate S (u8C 0#8)) 5))) := fun W => by
    have := zero_row W S
    rw [List.map_replicate, List.toArray_replicate] at this
    exact ⟨this, (Below.refl _ _).alloc (Nat.le_refl _) _⟩
  have HB0 : Hid (∀ W : World, ∀ g, (some ⟨W.heap.size, 0, none⟩ : Option Addr) = some g → g.block < (W.alloc (.cells (Array.replicate S (u8C 0#8)) 5)).heap.size) := fun W g hg => by
    injection hg with hg
    subst hg
    simp
  cases hu : unpackR (zeros S) with
  | none =>
    have HU : Hid (unpackR (zeros S) = none) := hu
    clear hu
    go_enter Try.func3, Try.ntmps3
    go_wp2_with fail
    refine (pack_nil w).mono ?_
    rintro e w1 ⟨rfl, hw⟩
    obtain rfl := hw.symm
    go_wp2_with fail
    have D := unpack_any (some ⟨w.heap.size, 0, none⟩) S (zeros S) _ (HZ.out w).1 (by rw [zeros_len]; exact Nat.le_refl _) (HB0.out w)
    rw [zeros_len, HU.out] at D
    refine D.mono ?_
    rintro e w2 ⟨ux, xx, rfl, ⟨rfl, rfl⟩, hb2⟩
    have HX : Hid (Below w.heap.size w w2) := (HZ.out w).2.trans (hb2.mono (HZ.out w).2.size)
    clear D hb2
    go_wp2_with fail
    have D := refUnpack_any (some ⟨w2.heap.size, 0, none⟩) S (zeros S) _ (HZ.out w2).1 (by rw [zeros_len]; exact Nat.le_refl _) (by rw [zeros_len]; omega)
    rw [zeros_len, HU.out] at D
    refine D.mono ?_
    rintro e w3 ⟨ux, xx, rfl, ⟨rfl, rfl⟩, hb3⟩
    have HY : Hid (Below w.heap.size w w3) := HX.out.trans (((HZ.out w2).2.trans (hb3.mono (HZ.out w2).2.size)).mono HX.out.size)
    clear D hb3
    go_wp2_with fail
    refine (known_any w3).mono ?_
    rintro e w5 ⟨rfl, hk⟩
    have HB5 : Hid (Below w.heap.size w w5) := HY.out.trans (hk.mono HY.out.size)
    clear hk
    go_wp2
    go_ret
    exact ⟨rfl, HB5.out⟩
  | some l =>
    have HU : Hid (unpackR (zeros S) = some l) := hu
    clear hu
    go_enter Try.func3, Try.ntmps3
    go_wp2_with fail
    refine (pack_nil w).mono ?_
    rintro e w1 ⟨rfl, hw⟩
    obtain rfl := hw.symm
    go_wp2_with fail
    have D := unpack_any (some ⟨w.heap.size, 0, none⟩) S (zeros S) _ (HZ.out w).1 (by rw [zeros_len]; exact Nat.le_refl _) (HB0.out w)
    rw [zeros_len, HU.out] at D
    refine D.mono ?_
    rintro e w2 ⟨ux, xx, rfl, ⟨rfl, c, v, rfl, _⟩, hb2⟩
    have HX : Hid (Below w.heap.size w w2) := (HZ.out w).2.trans (hb2.mono (HZ.out w).2.size)
    clear D hb2
    go_wp2_with fail
    have D := refUnpack_any (some ⟨w2.heap.size, 0, none⟩) S (zeros S) _ (HZ.out w2).1 (by rw [zeros_len]; exact Nat.le_refl _) (by rw [zeros_len]; omega)
    rw [zeros_len, HU.out] at D
    refine D.mono ?_
    rintro e w3 ⟨ux, xx, rfl, ⟨rfl, d, u, rfl, _⟩, hb3⟩
    have HY : Hid (Below w.heap.size w w3) := HX.out.trans (((HZ.out w2).2.trans (hb3.mono (HZ.out w2).2.size)).mono HX.out.size)
    clear D hb3
    go_wp2_with fail
    refine (known_any w3).mono ?_
    rintro e w5 ⟨rfl, hk⟩
    have HB5 : Hid (Below w.heap.size w w5) := HY.out.trans (hk.mono HY.out.size)
    clear hk
    go_wp2
    go_ret
    exact ⟨rfl, HB5.out⟩

set_option maxRecDepth 1000000 in
set_option maxHeartbeats 1000000 in
theorem walk (n : Int) (_ : (Lit.int .i64 n).wf = true) (w : World) :
    Calls Try.prog 3 #[.int .i64 n] w fun e w' => e = .returned (.bool true) ∧ Below w.heap.size w w' := by
  by_cases h1 : n < 0
  · go_enter Try.func3, Try.ntmps3
    go_wp2
    go_ret
    exact ⟨rfl, Below.refl _ _⟩
  by_cases h2 : 20 < n
  · go_enter Try.func3, Try.ntmps3
    go_wp2
    go_ret
    exact ⟨rfl, Below.refl _ _⟩
  obtain ⟨N, rfl⟩ := Int.eq_ofNat_of_zero_le (Int.not_lt.1 h1)
  exact core w N (by omega)

theorem own : ownKnob Try.prog.godebug = none := by kernel_rfl

set_option maxRecDepth 100000 in
theorem lifted (os : Os) (started : os.Started) (H : Type) (enc : TypeId × Value → H) :
    ReturnsInHanded {} Try.checked os 3 .any (Rows.wireOfNothingSpec.pre6 enc Try.prog Try.f3 Rows.wireOfNothingRow.domain false) (Rows.wireOfNothingSpec.post enc Try.prog Try.f3 false true false false) := by
  refine returnsInHanded_of_change (C := Try.checked) own started (by kernel_rfl) Try.func3
    (ChangeSpec.witness6 (enc := enc) (C := Try.checked) false ⟨#[], #[.int .i64 0], []⟩ 8 (by kernel_rfl) (by kernel_rfl) (by kernel_rfl) (by kernel_rfl)) ?_
  intro W base args ds gs before hval0 hW _ _
  have hval : ∀ (j : Nat) t v, Try.f3.params[j]? = some t → args[j]? = some v → Value.okWide Try.prog W .any base t v := hval0
  have hW' := hW
  obtain ⟨p, q, hA0, hV, rfl, _, _⟩ := hW
  have hA : DataW.TrodAll enc Try.prog W 0 (fun _ => true) true Try.f3.params.toList args.toList ds p := hA0
  rw [Try.params3] at hA hval
  obtain ⟨v0, vs0, d0, ds0, p0, q0, hargs, rfl, rfl, h0, r0⟩ := trodAll_cons hA
  obtain ⟨rfl, rfl, rfl⟩ := trodAll_nil r0
  obtain rfl : args = #[v0] := by cases args; simp_all
  obtain ⟨rfl, rfl⟩ := trodVars_none hV
  obtain ⟨a0, rfl, rfl, rfl, w0⟩ := open_int Try.underlying3 (hval 0 3 v0 rfl rfl) h0
  clear hA0 hval0
  refine (walk a0 w0 W).mono fun e W' ⟨he, bel⟩ => ?_
  subst he
  exact ⟨_, rfl, _, _, _, [], _, [], hW', trodAll_mk1 (shut_bool Try.underlying4 _), (trodAll_cons_mk (shut_int Try.underlying3 w0) trodAll_mk0), rfl, bel.frame _, fun h => by cases h⟩

theorem over : Rows.wireOfNothingRow.holds Try.pinned (OpenSpec.ofChange Rows.wireOfNothingSpec) :=
  OpenClaim.holds_of_wide 3 Try.f3 rfl rfl rfl rfl rfl rfl rfl ⟨rfl, rfl, rfl, rfl, rfl⟩ rfl rfl rfl rfl rfl (by kernel_rfl) Try.func3 (by kernel_rfl)
    (of_decide_eq_true (by kernel_rfl)) (by unfold Func.isWrapper; first | (rw [if_pos (by decide +kernel)]; kernel_rfl) | (rw [if_neg (by decide +kernel)]; exact ⟨rfl, rfl⟩))
    (fun os started H enc _ => lifted os started H enc)

end Go.Proofs.Ytfcoanlegjddpab.wireOfNothing
namespace Go.Proofs.Ytfcoanlegjddpab
theorem wireOfNothing_holds : Rows.WireOfNothingSaid := wireOfNothing.over
#print axioms wireOfNothing_holds
end Go.Proofs.Ytfcoanlegjddpab
