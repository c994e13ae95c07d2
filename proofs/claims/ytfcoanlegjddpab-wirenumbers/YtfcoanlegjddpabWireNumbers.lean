/-
  Of any row of numbers: WireNumbers returns true. No condition.
-/
import Derived.Test.YtfcoanlegjddpabRows
import Derived.Test.YtfcoanlegjddpabWrBackP
import Derived.Test.YtfcoanlegjddpabWrArgs
import Derived.Test.YtfcoanlegjddpabSmOpen
import Derived.WalkKit
import Derived.ProofKit
import Derived.OpenShut
import Derived.ShutString
import Derived.ChangeOld
import Derived.Below
import Derived.SizedLaws
import Derived.ShutString
namespace Go.Proofs.Ytfcoanlegjddpab.wireNumbers
open Go.ChangeShapes Go.WideShapes Go.ChangeAt Go.RowKit

def numI (n : Int) : It := .inl n
theorem nums_len : ∀ l : List Int, ((l.map numI).flatMap thingV).length = 9 * l.length
  | [] => rfl
  | n :: l => by
    rw [List.map_cons, List.flatMap_cons, List.length_append, nums_len l, List.length_cons]
    show (1#8 :: bigV _ 8).length + _ = _
    rw [List.length_cons, big_len]
    omega
theorem nums_good {l : List Int} (h : ∀ x ∈ l, (Lit.int .i64 x).wf = true) : ∀ x ∈ l.map numI, okT x ∧ longT x = false := fun x hx => by
  obtain ⟨n, hn, rfl⟩ := List.mem_map.1 hx
  exact ⟨wf_i64 (h n hn), rfl⟩
theorem nums_small (l : List Int) : SmallL (l.map numI) := small_of fun x hx => by
  obtain ⟨n, hn, rfl⟩ := List.mem_map.1 hx
  show (0 : Nat) ≤ _; omega
theorem put_num {l : List Int} {k : Nat} {x : Int} (h : l[k]? = some x) (hk : k < 100) : put ((l.take k).map numI) (.inl x) = (l.take (k + 1)).map numI := by
  have hl := (List.getElem?_eq_some_iff.1 h).1
  have el : ((l.take k).map numI).length = k := by rw [List.length_map, List.length_take]; omega
  rw [put, el, if_pos hk, List.take_add_one, h, List.map_append]
  rfl

set_option maxRecDepth 1000000 in
set_option maxHeartbeats 2000000 in
theorem walk (w : World) (oa : Option Addr) (len cap : Nat) (l : List Int) (hlen : l.length = len) (_ : len ≤ maxLen) (hp : hasIntsN w oa l) :
    Calls Try.prog 4 #[.slice oa len cap] w fun e w' => e = .returned (.bool true) ∧ Below w.heap.size w w' := by
  have HP : Hid (hasIntsN w oa l ∧ l.length = len) := ⟨hp, hlen⟩
  clear hp hlen
  by_cases h5 : 100 < len
  · have h5i : (100 : Int) < (len : Int) := by omega
    go_enter Try.func4, Try.ntmps4
    go_wp2
    go_ret
    exact ⟨rfl, Below.refl _ _⟩
  have h5i : ¬ (100 : Int) < (len : Int) := by omega
  have C0 : Hid (Crate (w.alloc (.cells #[.slice none 0 0] 67)) w.heap.size w.heap.size (.slice none 0 0) [] ∧ Below w.heap.size w (w.alloc (.cells #[.slice none 0 0] 67))) :=
    ⟨crate_new w, (Below.refl _ _).alloc (Nat.le_refl _) _⟩
  go_enter Try.func4, Try.ntmps4
  go_wp2_with fail
  refine (new_any _).mono ?_
  rintro e w2 ⟨rfl, rfl⟩
  generalize hw1 : w.alloc (.cells #[.slice none 0 0] 67) = w1 at *
  clear hw1
  go_wp2
  go_loopg [4] len (fun gk i wr => ∃ k : Nat, ∃ v, gk = len - k ∧ i = .int .i64 k ∧ k ≤ len ∧ Crate wr w.heap.size w.heap.size v ((l.take k).map numI) ∧ Below w.heap.size w wr)
  case atStart => exact ⟨0, _, rfl, rfl, by omega, C0.out.1, C0.out.2⟩
  case round =>
    obtain ⟨k, v, rfl, rfl, hk, h1, h2⟩ := hrel
    have HR : Hid (Crate wr w.heap.size w.heap.size v ((l.take k).map numI) ∧ Below w.heap.size w wr) := ⟨h1, h2⟩
    clear h1 h2 C0
    by_cases hlt : k < len
    · have hki : (k : Int) < (len : Int) := by omega
      obtain ⟨x, hx⟩ : ∃ x, l[k]? = some x := ⟨l[k]'(by rw [HP.out.2]; exact hlt), List.getElem?_eq_getElem _⟩
      obtain ⟨b, off, rfl, hc⟩ := (ints_below HR.out.2 HP.out.1).1 k x hx
      have HDD : Hid (decide (((l.take k).map numI).length < 100) = true ∧ put ((l.take k).map numI) (.inl x) = (l.take (k + 1)).map numI) := by
        refine ⟨decide_eq_true ?_, put_num hx (by omega)⟩
        rw [List.length_map, List.length_take]
        omega
      clear hx
      go_wp2_with fail
      refine (addInt_any x _ wr _ _ _ HR.out.1).mono ?_
      rw [HDD.out.1, HDD.out.2]
      rintro e w2 ⟨v', rfl, h1, t1⟩
      have HE : Hid (Crate w2 w.heap.size w.heap.size v' ((l.take (k + 1)).map numI) ∧ Below w.heap.size w w2) := ⟨h1, HR.out.2.trans (HR.out.1.1.turnBelow t1)⟩
      clear h1 t1 hc
      go_wp2
      go_roundg (len - (k + 1))
      case rel => exact ⟨k + 1, v', rfl, by go_num, by omega, HE.out⟩
      case measure => omega
    · have hkN : k = len := by omega
      subst hkN
      have HF : Hid (l.take k = l) := List.take_of_length_le (by rw [HP.out.2]; omega)
      rw [HF.out] at HR
      have hb : (bodyV (l.map numI)).length = 1 + 9 * k := by
        unfold bodyV
        rw [List.length_cons, nums_len, HP.out.2]
        omega
      obtain ⟨b, g1, g2, g3, g4⟩ := good_pack (nums_good HP.out.1.2) (by rw [List.length_map, HP.out.2]; omega) (by omega)
      have HG : Hid (packE (l.map numI) = 0 ∧ (packV (l.map numI)).getD [] = b ∧ unpackR b = some (l.map numI) ∧ b.length = 7 + 9 * k) := ⟨g1, g2, g3, by rw [g4, hb]; omega⟩
      have HLN : Hid ((l.map numI).length = k) := by show _ = _; rw [List.length_map, HP.out.2]
      clear hb g1 g2 g3 g4
      go_wp2_with fail
      refine (pack_any w.heap.size _ wr HR.out.1.reads (by rw [HLN.out]; omega) (nums_small l)).mono ?_
      rw [HG.out.1, HG.out.2.1]
      rintro e w3 ⟨v3, rfl, h3, h4⟩
      have HX : Hid (BRow w3 wr.heap.size v3 b ∧ Below w.heap.size w w3) := ⟨h3, HR.out.2.trans (h4.mono HR.out.2.size)⟩
      obtain ⟨o3, c3, ev, hb3, hc3, ho3⟩ := h3.slice
      rw [HG.out.2.2.2] at ev
      subst ev
      have HB3 : Hid (hasBytes w3 o3 b ∧ b.length ≤ c3 ∧ ∀ g, o3 = some g → g.block < w3.heap.size) := ⟨hb3, hc3, ho3⟩
      clear h3 h4 hb3 hc3 ho3
      go_wp2_with fail
      have D := unpack_any o3 c3 b w3 HB3.out.1 HB3.out.2.1 HB3.out.2.2
      rw [HG.out.2.2.2, HG.out.2.2.1] at D
      refine D.mono ?_
      rintro e w4 ⟨ux, xx, rfl, ⟨rfl, d, vd, rfl, hcd⟩, hb4⟩
      have HD : Hid (Crate w4 w3.heap.size d vd (l.map numI) ∧ Below w.heap.size w w4) := ⟨hcd, HX.out.2.trans (hb4.mono HX.out.2.size)⟩
      clear D hcd hb4
      go_wp2
      go_loopg [9] k (fun gk i wr => ∃ j : Nat, gk = k - j ∧ i = .int .i64 j ∧ j ≤ k ∧ wr = w4)
      case atStart => exact ⟨0, rfl, rfl, by omega, rfl⟩
      case round =>
        obtain ⟨j, rfl, rfl, hj, rfl⟩ := hrel
        by_cases hjl : j < k
        · have hji : (j : Int) < (k : Int) := by omega
          obtain ⟨x, hx⟩ : ∃ x, l[j]? = some x := ⟨l[j]'(by rw [HP.out.2]; exact hjl), List.getElem?_eq_getElem _⟩
          obtain ⟨bb, off, rfl, hc⟩ := (ints_below HD.out.2 HP.out.1).1 j x hx
          have HQ : Hid (numOf (itAt (l.map numI) j) = (x, true)) := by show _ = _; rw [itAt_nat, List.getElem?_map, hx]; rfl
          clear hx
          go_wp2_with fail
          refine (int_any _ _ _ _ HD.out.1.reads).mono ?_
          rw [HQ.out]
          rintro e w5 ⟨rfl, hw⟩
          obtain rfl := hw.symm
          go_wp2
          go_roundg (k - (j + 1))
          case rel => exact ⟨j + 1, rfl, by go_num, by omega, rfl⟩
          case measure => omega
        · have hjk : j = k := by omega
          subst hjk
          go_wp2_with fail
          refine (len_any _ _ _ HD.out.1.reads).mono ?_
          rw [HLN.out]
          rintro e w5 ⟨rfl, hw⟩
          obtain rfl := hw.symm
          go_wp2_with fail
          refine (known_any _).mono ?_
          rintro e w6 ⟨rfl, hk6⟩
          have HB6 : Hid (Below w.heap.size w w6) := HD.out.2.trans (hk6.mono HD.out.2.size)
          clear hk6
          go_wp2
          go_ret
          exact ⟨rfl, HB6.out⟩

theorem own : ownKnob Try.prog.godebug = none := by kernel_rfl

set_option maxRecDepth 100000 in
theorem lifted (os : Os) (started : os.Started) (H : Type) (enc : TypeId × Value → H) :
    ReturnsInHanded {} Try.checked os 4 .any (Rows.wireNumbersSpec.pre6 enc Try.prog Try.f4 Rows.wireNumbersRow.domain false) (Rows.wireNumbersSpec.post enc Try.prog Try.f4 false true false false) := by
  refine returnsInHanded_of_change (C := Try.checked) own started (by kernel_rfl) Try.func4
    (ChangeSpec.witness6 (enc := enc) (C := Try.checked) false ⟨#[], #[.slice none 0 0], []⟩ 8 (by kernel_rfl) (by kernel_rfl) (by kernel_rfl) (by kernel_rfl)) ?_
  intro W base args ds gs before hval0 hW _ _
  have hval : ∀ (j : Nat) t v, Try.f4.params[j]? = some t → args[j]? = some v → Value.okWide Try.prog W .any base t v := hval0
  have hW' := hW
  obtain ⟨p, q, hA0, hV, rfl, _, _⟩ := hW
  have hA : DataW.TrodAll enc Try.prog W 0 (fun _ => true) true Try.f4.params.toList args.toList ds p := hA0
  rw [Try.params4] at hA hval
  obtain ⟨v0, vs0, d0, ds0, p0, q0, hargs, rfl, rfl, h0, r0⟩ := trodAll_cons hA
  obtain ⟨rfl, rfl, rfl⟩ := trodAll_nil r0
  obtain rfl : args = #[v0] := by cases args; simp_all
  obtain ⟨rfl, rfl⟩ := trodVars_none hV
  obtain ⟨a0, len0, cap0, rfl⟩ := okWide_slice Try.underlying34 (hval 0 34 v0 rfl rfl)
  have k0 := h0
  have lt0 : ∀ x ∈ p0, x.block < W.heap.size := by obtain ⟨m, hm⟩ := k0; exact DataW.trod_lt m _ _ _ hm
  obtain ⟨z0, e0, m0, s0⟩ : ∃ l : List Int, l.length = len0 ∧ len0 ≤ maxLen ∧ hasIntsN W a0 l := by
    obtain ⟨fuel, hf⟩ := h0
    exact open_intsn hf
  clear hA0 hval0
  refine (walk W a0 len0 cap0 z0 e0 m0 s0 ).mono fun e W' ⟨he, bel⟩ => ?_
  subst he
  exact ⟨_, rfl, _, _, _, [], _, [], hW', trodAll_mk1 (shut_bool Try.underlying4 _), (trodAll_cons_mk (Below.trod laidOut (by kernel_rfl) (of_decide_eq_true (by kernel_rfl)) k0 bel lt0) trodAll_mk0), rfl, bel.frame _, fun h => by cases h⟩

theorem over : Rows.wireNumbersRow.holds Try.pinned (OpenSpec.ofChange Rows.wireNumbersSpec) :=
  OpenClaim.holds_of_wide 4 Try.f4 rfl rfl rfl rfl rfl rfl rfl ⟨rfl, rfl, rfl, rfl, rfl⟩ rfl rfl rfl rfl rfl (by kernel_rfl) Try.func4 (by kernel_rfl)
    (of_decide_eq_true (by kernel_rfl)) (by unfold Func.isWrapper; first | (rw [if_pos (by decide +kernel)]; kernel_rfl) | (rw [if_neg (by decide +kernel)]; exact ⟨rfl, rfl⟩))
    (fun os started H enc _ => lifted os started H enc)

end Go.Proofs.Ytfcoanlegjddpab.wireNumbers
namespace Go.Proofs.Ytfcoanlegjddpab
theorem wireNumbers_holds : Rows.WireNumbersSaid := wireNumbers.over
#print axioms wireNumbers_holds
end Go.Proofs.Ytfcoanlegjddpab
