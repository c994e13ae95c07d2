/-
  Of any row of texts: WireTexts returns true. No condition.
-/
import Derived.Test.YtfcoanlegjddpabRows
import Derived.Test.YtfcoanlegjddpabWrBackP
import Derived.Test.YtfcoanlegjddpabWrArgs
import Derived.Test.YtfcoanlegjddpabSmOpen
import Derived.WalkKit
import Derived.ProofKit
import Derived.OpenShut
import Derived.ShutString
import Derived.ChangeOld
import Derived.Below
import Derived.SizedLaws
import Derived.ShutString
namespace Go.Proofs.Ytfcoanlegjddpab.wireTexts
open Go.ChangeShapes Go.WideShapes Go.ChangeAt Go.RowKit

def txtI (s : ByteArray) : It := .inr (.inl s)
theorem txt_len (s : ByteArray) : (thingV (txtI s)).length = 2 + s.size := by
  show (2#8 :: BitVec.ofNat 8 _ :: bytesS s).length = _
  rw [List.length_cons, List.length_cons, bytes_len]
  omega
theorem txts_good {l : List ByteArray} (h : ∀ x ∈ l, x.size ≤ 200) : ∀ x ∈ l.map txtI, okT x ∧ longT x = false := fun x hx => by
  obtain ⟨s, hs, rfl⟩ := List.mem_map.1 hx
  exact ⟨trivial, decide_eq_false (by have := h s hs; omega)⟩
theorem txts_small {l : List ByteArray} (h : ∀ x ∈ l, x.size ≤ 200) : SmallL (l.map txtI) := small_of fun x hx => by
  obtain ⟨s, hs, rfl⟩ := List.mem_map.1 hx
  show s.size ≤ _
  have := h s hs
  omega
theorem put_txt {l : List ByteArray} {k : Nat} {x : ByteArray} (h : l[k]? = some x) (hk : k < 100) : put ((l.take k).map txtI) (.inr (.inl x)) = (l.take (k + 1)).map txtI := by
  have hl := (List.getElem?_eq_some_iff.1 h).1
  have el : ((l.take k).map txtI).length = k := by rw [List.length_map, List.length_take]; omega
  rw [put, el, if_pos hk, List.take_add_one, h, List.map_append]
  rfl
theorem flat_more {l : List ByteArray} {k : Nat} {x : ByteArray} (h : l[k]? = some x) : (((l.take (k + 1)).map txtI).flatMap thingV).length = (((l.take k).map txtI).flatMap thingV).length + (2 + x.size) := by
  rw [List.take_add_one, h, List.map_append, List.flatMap_append, List.length_append]
  congr 1
  show ([txtI x].flatMap thingV).length = _
  rw [List.flatMap_singleton, txt_len]

set_option maxRecDepth 1000000 in
set_option maxHeartbeats 2000000 in
theorem walk (w : World) (oa : Option Addr) (len cap : Nat) (l : List ByteArray) (hlen : l.length = len) (_ : len ≤ maxLen) (hp : hasStrs w oa l) :
    Calls Try.prog 5 #[.slice oa len cap] w fun e w' => e = .returned (.bool true) ∧ Below w.heap.size w w' := by
  have HP : Hid (hasStrs w oa l ∧ l.length = len) := ⟨hp, hlen⟩
  clear hp hlen
  by_cases h5 : 20 < len
  · have h5i : (20 : Int) < (len : Int) := by omega
    go_enter Try.func5, Try.ntmps5
    go_wp2
    go_ret
    exact ⟨rfl, Below.refl _ _⟩
  have h5i : ¬ (20 : Int) < (len : Int) := by omega
  have C0 : Hid (Crate (w.alloc (.cells #[.slice none 0 0] 67)) w.heap.size w.heap.size (.slice none 0 0) [] ∧ Below w.heap.size w (w.alloc (.cells #[.slice none 0 0] 67))) :=
    ⟨crate_new w, (Below.refl _ _).alloc (Nat.le_refl _) _⟩
  go_enter Try.func5, Try.ntmps5
  go_wp2_with fail
  refine (new_any _).mono ?_
  rintro e w2 ⟨rfl, rfl⟩
  generalize hw1 : w.alloc (.cells #[.slice none 0 0] 67) = w1 at *
  clear hw1
  go_wp2
  go_loopg [4, 5] len (fun gk s i wr => ∃ k m : Nat, ∃ v, gk = len - k ∧ i = .int .i64 k ∧ k ≤ len ∧ s = .int .i64 m ∧ m ≤ 3000 ∧ m = 7 + (((l.take k).map txtI).flatMap thingV).length ∧ (∀ x ∈ l.take k, x.size ≤ 200) ∧ Crate wr w.heap.size w.heap.size v ((l.take k).map txtI) ∧ Below w.heap.size w wr)
  case atStart => exact ⟨0, 7, _, rfl, rfl, by omega, rfl, by omega, rfl, fun x hx => by simp at hx, C0.out.1, C0.out.2⟩
  case round =>
    obtain ⟨k, m, v, rfl, rfl, hk, rfl, hm3, hm, hs, h1, h2⟩ := hrel
    have HR : Hid (Crate wr w.heap.size w.heap.size v ((l.take k).map txtI) ∧ Below w.heap.size w wr ∧ m = 7 + (((l.take k).map txtI).flatMap thingV).length ∧ (∀ x ∈ l.take k, x.size ≤ 200)) := ⟨h1, h2, hm, hs⟩
    clear h1 h2 hm hs C0
    by_cases hlt : k < len
    · have hki : (k : Int) < (len : Int) := by omega
      obtain ⟨x, hx⟩ : ∃ x, l[k]? = some x := ⟨l[k]'(by rw [HP.out.2]; exact hlt), List.getElem?_eq_getElem _⟩
      obtain ⟨b, off, rfl, hc⟩ := (strs_below HR.out.2.1 HP.out.1) k x hx
      have HXX : Hid (l[k]? = some x) := hx
      clear hx
      by_cases h200 : 200 < x.size
      · have h2i : (200 : Int) < (x.size : Int) := by omega
        go_wp2
        go_ret
        exact ⟨rfl, HR.out.2.1⟩
      have h2i : ¬ (200 : Int) < (x.size : Int) := by omega
      by_cases h3000 : 3000 < m + 2 + x.size
      · have h3i : (3000 : Int) < (m : Int) + 2 + (x.size : Int) := by omega
        go_wp2
        go_ret
        exact ⟨rfl, HR.out.2.1⟩
      have h3i : ¬ (3000 : Int) < (m : Int) + 2 + (x.size : Int) := by omega
      have HPT : Hid (put ((l.take k).map txtI) (.inr (.inl x)) = (l.take (k + 1)).map txtI) := put_txt HXX.out (by omega)
      have HSZ : Hid (x.size ≤ 281474976710656) := by show _ ≤ _; omega
      go_wp2_with fail
      refine (addText_any x _ wr _ _ _ HR.out.1 HSZ.out).mono ?_
      rw [HPT.out]
      rintro e w2 ⟨v', rfl, h1, t1⟩
      have HE : Hid (m + 2 + x.size = 7 + (((l.take (k + 1)).map txtI).flatMap thingV).length ∧ (∀ y ∈ l.take (k + 1), y.size ≤ 200) ∧ Crate w2 w.heap.size w.heap.size v' ((l.take (k + 1)).map txtI) ∧ Below w.heap.size w w2) := by
        refine ⟨by rw [flat_more HXX.out]; have := HR.out.2.2.1; omega, fun y hy => ?_, h1, HR.out.2.1.trans (HR.out.1.1.turnBelow t1)⟩
        rw [List.take_add_one, HXX.out] at hy
        rcases List.mem_append.1 hy with hy | hy
        · exact HR.out.2.2.2 y hy
        · have hy : y ∈ [x] := hy
          rw [List.mem_singleton.1 hy]; omega
      clear h1 t1 hc
      generalize x.size = z at *
      go_wp2
      go_roundg (len - (k + 1))
      case rel => exact ⟨k + 1, m + 2 + z, v', rfl, by go_num, by omega, by go_num, by omega, HE.out.1, HE.out.2.1, HE.out.2.2⟩
      case measure => omega
    · have hkN : k = len := by omega
      subst hkN
      have HF : Hid (l.take k = l) := List.take_of_length_le (by rw [HP.out.2]; omega)
      rw [HF.out] at HR
      have hb : (bodyV (l.map txtI)).length = m - 6 := by
        have := HR.out.2.2.1
        unfold bodyV
        rw [List.length_cons]
        omega
      have hm7 : 7 ≤ m := by have := HR.out.2.2.1; omega
      obtain ⟨b, g1, g2, g3, g4⟩ := good_pack (txts_good HR.out.2.2.2) (by rw [List.length_map, HP.out.2]; omega) (by omega)
      have HG : Hid (packE (l.map txtI) = 0 ∧ (packV (l.map txtI)).getD [] = b ∧ unpackR b = some (l.map txtI) ∧ b.length = m) := ⟨g1, g2, g3, by rw [g4, hb]; omega⟩
      have HLN : Hid ((l.map txtI).length = k) := by show _ = _; rw [List.length_map, HP.out.2]
      clear hb g1 g2 g3 g4
      go_wp2_with fail
      refine (pack_any w.heap.size _ wr HR.out.1.reads (by rw [HLN.out]; omega) (txts_small HR.out.2.2.2)).mono ?_
      rw [HG.out.1, HG.out.2.1]
      rintro e w3 ⟨v3, rfl, h3, h4⟩
      have HX : Hid (BRow w3 wr.heap.size v3 b ∧ Below wr.heap.size wr w3) := ⟨h3, h4⟩
      obtain ⟨o3, c3, ev, hb3, hc3, ho3⟩ := h3.slice
      rw [HG.out.2.2.2] at ev
      subst ev
      have HB3 : Hid (hasBytes w3 o3 b ∧ b.length ≤ c3 ∧ ∀ g, o3 = some g → g.block < w3.heap.size) := ⟨hb3, hc3, ho3⟩
      clear h3 h4 hb3 hc3 ho3
      go_wp2_with fail
      have D := unpack_any o3 c3 b w3 HB3.out.1 HB3.out.2.1 HB3.out.2.2
      rw [HG.out.2.2.2, HG.out.2.2.1] at D
      refine D.mono ?_
      rintro e w4 ⟨ux, xx, rfl, ⟨rfl, d, vd, rfl, hcd⟩, hb4⟩
      have HD : Hid (Crate w4 w3.heap.size d vd (l.map txtI) ∧ Below wr.heap.size wr w4) := ⟨hcd, HX.out.2.trans (hb4.mono HX.out.2.size)⟩
      have HW4 : Hid (Below w.heap.size w w4) := HR.out.2.1.trans (HD.out.2.mono HR.out.2.1.size)
      clear D hcd hb4
      have HSA : Hid (Calls Try.prog 16 #[.pointer (some ⟨w.heap.size, 0, none⟩), .pointer (some ⟨d, 0, none⟩)] w4 fun e w' => e = .returned (.bool true) ∧ w' = w4) := by
        have := same_any _ _ (l.map txtI) (l.map txtI) w4 (HR.out.1.reads.below HD.out.2) HD.out.1.reads
        rw [decide_eq_true rfl] at this
        exact this
      go_wp2_with fail
      refine HSA.out.mono ?_
      rintro e w5 ⟨rfl, hw⟩
      obtain rfl := hw.symm
      go_wp2_with fail
      refine (known_any _).mono ?_
      rintro e w6 ⟨rfl, hk6⟩
      have HB6 : Hid (Below w.heap.size w w6) := HW4.out.trans (hk6.mono HW4.out.size)
      clear hk6
      go_wp2
      go_ret
      exact ⟨rfl, HB6.out⟩

theorem own : ownKnob Try.prog.godebug = none := by kernel_rfl

set_option maxRecDepth 100000 in
theorem lifted (os : Os) (started : os.Started) (H : Type) (enc : TypeId × Value → H) :
    ReturnsInHanded {} Try.checked os 5 .any (Rows.wireTextsSpec.pre6 enc Try.prog Try.f5 Rows.wireTextsRow.domain false) (Rows.wireTextsSpec.post enc Try.prog Try.f5 false true false false) := by
  refine returnsInHanded_of_change (C := Try.checked) own started (by kernel_rfl) Try.func5
    (ChangeSpec.witness6 (enc := enc) (C := Try.checked) false ⟨#[], #[.slice none 0 0], []⟩ 8 (by kernel_rfl) (by kernel_rfl) (by kernel_rfl) (by kernel_rfl)) ?_
  intro W base args ds gs before hval0 hW _ _
  have hval : ∀ (j : Nat) t v, Try.f5.params[j]? = some t → args[j]? = some v → Value.okWide Try.prog W .any base t v := hval0
  have hW' := hW
  obtain ⟨p, q, hA0, hV, rfl, _, _⟩ := hW
  have hA : DataW.TrodAll enc Try.prog W 0 (fun _ => true) true Try.f5.params.toList args.toList ds p := hA0
  rw [Try.params5] at hA hval
  obtain ⟨v0, vs0, d0, ds0, p0, q0, hargs, rfl, rfl, h0, r0⟩ := trodAll_cons hA
  obtain ⟨rfl, rfl, rfl⟩ := trodAll_nil r0
  obtain rfl : args = #[v0] := by cases args; simp_all
  obtain ⟨rfl, rfl⟩ := trodVars_none hV
  obtain ⟨a0, len0, cap0, rfl⟩ := okWide_slice Try.underlying40 (hval 0 40 v0 rfl rfl)
  have k0 := h0
  have lt0 : ∀ x ∈ p0, x.block < W.heap.size := by obtain ⟨m, hm⟩ := k0; exact DataW.trod_lt m _ _ _ hm
  obtain ⟨z0, e0, m0, s0⟩ : ∃ l : List ByteArray, l.length = len0 ∧ len0 ≤ maxLen ∧ hasStrs W a0 l := by
    obtain ⟨fuel, hf⟩ := h0
    exact open_strsn hf
  clear hA0 hval0
  refine (walk W a0 len0 cap0 z0 e0 m0 s0 ).mono fun e W' ⟨he, bel⟩ => ?_
  subst he
  exact ⟨_, rfl, _, _, _, [], _, [], hW', trodAll_mk1 (shut_bool Try.underlying4 _), (trodAll_cons_mk (Below.trod laidOut (by kernel_rfl) (of_decide_eq_true (by kernel_rfl)) k0 bel lt0) trodAll_mk0), rfl, bel.frame _, fun h => by cases h⟩

theorem over : Rows.wireTextsRow.holds Try.pinned (OpenSpec.ofChange Rows.wireTextsSpec) :=
  OpenClaim.holds_of_wide 5 Try.f5 rfl rfl rfl rfl rfl rfl rfl ⟨rfl, rfl, rfl, rfl, rfl⟩ rfl rfl rfl rfl rfl (by kernel_rfl) Try.func5 (by kernel_rfl)
    (of_decide_eq_true (by kernel_rfl)) (by unfold Func.isWrapper; first | (rw [if_pos (by decide +kernel)]; kernel_rfl) | (rw [if_neg (by decide +kernel)]; exact ⟨rfl, rfl⟩))
    (fun os started H enc _ => lifted os started H enc)

end Go.Proofs.Ytfcoanlegjddpab.wireTexts
namespace Go.Proofs.Ytfcoanlegjddpab
theorem wireTexts_holds : Rows.WireTextsSaid := wireTexts.over
#print axioms wireTexts_holds
end Go.Proofs.Ytfcoanlegjddpab
