/-
  Of any bytes: WireSummed returns true. No condition.
-/
import Derived.Test.YtfcoanlegjddpaaRows
import Derived.Test.YtfcoanlegjddpaaWrBackP
import Derived.Test.YtfcoanlegjddpaaSmOpen
import Derived.Test.YtfcoanlegjddpaaWrRefUnp
import Derived.WalkKit
import Derived.ProofKit
import Derived.OpenShut
import Derived.ShutString
import Derived.ChangeOld
import Derived.Below
import Derived.SizedLaws
namespace Go.Proofs.Ytfcoanlegjddpaa.wireSummed
open Go.ChangeShapes Go.WideShapes Go.ChangeAt Go.RowKit

theorem u8_at (n : Nat) (x : Int) (h : x = ((n % 256 : Nat) : Int)) : u8C (BitVec.ofNat 8 n) = .int .u8 x := by
  rw [← u8_num, h]
  congr 1
theorem head_cells (N len : Nat) (hN : N < 4294967296) (hl : len ≤ 3000) : (bigV N 4 ++ bigV len 2).map u8C = [.int .u8 ((N : Int) / 16777216), .int .u8 ((N : Int) / 65536 % 256), .int .u8 ((N : Int) / 256 % 256), .int .u8 ((N : Int) % 256), .int .u8 ((len : Int) / 256), .int .u8 ((len : Int) % 256)] := by
  have e1 := u8_at (N / 2 ^ (8 * 3)) ((N : Int) / 16777216) (by omega)
  have e2 := u8_at (N / 2 ^ (8 * 2)) ((N : Int) / 65536 % 256) (by omega)
  have e3 := u8_at (N / 2 ^ (8 * 1)) ((N : Int) / 256 % 256) (by omega)
  have e4 := u8_at (N / 2 ^ (8 * 0)) ((N : Int) % 256) (by omega)
  have e5 := u8_at (len / 2 ^ (8 * 1)) ((len : Int) / 256) (by omega)
  have e6 := u8_at (len / 2 ^ (8 * 0)) ((len : Int) % 256) (by omega)
  rw [bigV, bigV, bigV, bigV, bigV, bigV, bigV, bigV]
  simp only [List.cons_append, List.nil_append, List.map_cons, List.map_nil]
  rw [e1, e2, e3, e4, e5, e6]
theorem head_row (w : World) (N len : Nat) (hN : N < 4294967296) (hl : len ≤ 3000) : BRow (w.alloc (.cells #[.int .u8 ((N : Int) / 16777216), .int .u8 ((N : Int) / 65536 % 256), .int .u8 ((N : Int) / 256 % 256), .int .u8 ((N : Int) % 256), .int .u8 ((len : Int) / 256), .int .u8 ((len : Int) % 256)] 5)) w.heap.size (.slice (some ⟨w.heap.size, 0, none⟩) 6 6) (bigV N 4 ++ bigV len 2) := by
  have h := World.ownsRow_lit (base := w.heap.size) (e := 5) (size := 1) w #[.int .u8 ((N : Int) / 16777216), .int .u8 ((N : Int) / 65536 % 256), .int .u8 ((N : Int) / 256 % 256), .int .u8 ((N : Int) % 256), .int .u8 ((len : Int) / 256), .int .u8 ((len : Int) % 256)] 6 (Nat.le_refl _) (by unfold maxLen; omega) rfl
  unfold BRow
  rw [head_cells N len hN hl, List.length_append, big_len, big_len]
  exact h

set_option maxRecDepth 1000000 in
set_option maxHeartbeats 2000000 in
theorem walk (w : World) (oa : Option Addr) (len cap : Nat) (p : List (BitVec 8)) (hlen : p.length = len) (_ : len ≤ maxLen) (hp : hasBytesN w oa cap p) :
    Calls Try.prog 6 #[.slice oa len cap] w fun e w' => e = .returned (.bool true) ∧ Below w.heap.size w w' := by
  have HP : Hid (hasBytesN w oa cap p ∧ p.length = len) := ⟨hp, hlen⟩
  clear hp hlen
  by_cases h5 : 3000 < len
  · have h5i : (3000 : Int) < (len : Int) := by omega
    go_enter Try.func6, Try.ntmps6
    go_wp2
    go_ret
    exact ⟨rfl, Below.refl _ _⟩
  · have h5i : ¬ (3000 : Int) < (len : Int) := by omega
    obtain ⟨N, hN1, hN2, hN32⟩ := sum_num p
    have HS : Hid (_root_.Go.Proofs.Ytfcoanlegjddpaa.u32 (sumV p) = (N : Int) ∧ N = (sumV p).toNat) := ⟨hN1, hN2⟩
    clear hN1 hN2
    have BA : Below w.heap.size w (w.alloc (.cells #[.int .u8 ((N : Int) / 16777216), .int .u8 ((N : Int) / 65536 % 256), .int .u8 ((N : Int) / 256 % 256), .int .u8 ((N : Int) % 256), .int .u8 ((len : Int) / 256), .int .u8 ((len : Int) % 256)] 5)) := (Below.refl _ _).alloc (Nat.le_refl _) _
    obtain ⟨v1, w1, r1, p1, q1⟩ := append_any _ w.heap.size _ _ oa len cap p (head_row w N len hN32 (by omega)) BA.size (HP.out.1.below BA) HP.out.2 (by rw [List.length_append, big_len, big_len]; omega)
    have HR1 : Hid ((Builtin.append_ #[28, 28] 28 #[.slice (some ⟨w.heap.size, 0, none⟩) 6 6, .slice oa len cap]).run Try.prog (w.alloc (.cells #[.int .u8 ((N : Int) / 16777216), .int .u8 ((N : Int) / 65536 % 256), .int .u8 ((N : Int) / 256 % 256), .int .u8 ((N : Int) % 256), .int .u8 ((len : Int) / 256), .int .u8 ((len : Int) % 256)] 5)) = .ok v1 w1) := r1
    obtain ⟨b, hb⟩ : ∃ b, b = telV p := ⟨_, rfl⟩
    have hbe : (bigV N 4 ++ bigV len 2) ++ p = b := by rw [hb, telV, ← HS.out.2, HP.out.2, List.append_assoc]
    rw [hbe] at p1
    have HT : Hid (b = telV p ∧ b.length = len + 6) := ⟨hb, by rw [hb, (tel_parts p).2.2.2, HP.out.2]; omega⟩
    obtain ⟨o1, c1, ev, hb1, hc1, ho1⟩ := p1.slice
    rw [HT.out.2] at ev
    subst ev
    have HB1 : Hid (hasBytes w1 o1 b ∧ b.length ≤ c1 ∧ (∀ g, o1 = some g → g.block < w1.heap.size) ∧ Below w.heap.size w w1) := ⟨hb1, hc1, ho1, BA.trans q1⟩
    clear r1 p1 q1 hb1 hc1 ho1 hb hbe BA
    cases hu : unpackR b with
    | none =>
      have HU : Hid (unpackR b = none) := hu
      clear hu
      go_enter Try.func6, Try.ntmps6
      go_wp2_with fail
      have D := refOf_any oa cap p w HP.out.1.1 (by rw [HP.out.2]; omega)
      rw [HP.out.2, HS.out.1] at D
      refine D.mono ?_
      rintro e w2 ⟨rfl, hw⟩
      obtain rfl := hw.symm
      clear D
      go_wp2_with (at_builtin; refine wpList_append_run rfl _ _ 28 rfl _ _ rfl rfl _ _ HR1.out ?_)
      have D := unpack_any o1 c1 b w1 HB1.out.1 HB1.out.2.1 HB1.out.2.2.1
      rw [HT.out.2, HU.out] at D
      refine D.mono ?_
      rintro e w3 ⟨ux, xx, rfl, ⟨rfl, rfl⟩, hb3⟩
      have HB3 : Hid (Below w1.heap.size w1 w3) := hb3
      clear D hb3
      go_wp2_with fail
      have D := refUnpack_any o1 c1 b w3 (HB1.out.1.below HB3.out) HB1.out.2.1 (by rw [HT.out.2]; omega)
      rw [HT.out.2, HU.out] at D
      refine D.mono ?_
      rintro e w4 ⟨ux, xx, rfl, ⟨rfl, rfl⟩, hb4⟩
      have HB4 : Hid (Below w.heap.size w w4) := HB1.out.2.2.2.trans ((HB3.out.trans (hb4.mono HB3.out.size)).mono HB1.out.2.2.2.size)
      clear D hb4
      go_wp2_with fail
      refine (known_any w4).mono ?_
      rintro e w5 ⟨rfl, hk⟩
      have HB5 : Hid (Below w.heap.size w w5) := HB4.out.trans (hk.mono HB4.out.size)
      clear hk
      go_wp2
      go_ret
      exact ⟨rfl, HB5.out⟩
    | some l =>
      have HU : Hid (unpackR b = some l) := hu
      obtain ⟨_, hpk, hl100, _⟩ := unpack_read b l hu
      have HPK : Hid (packE l = 0 ∧ (packV l).getD [] = b ∧ l.length ≤ 100 ∧ SmallL l) := ⟨by rw [packE, hpk]; rfl, by rw [hpk]; rfl, hl100, (small_unp hu).1⟩
      clear hu hpk hl100
      go_enter Try.func6, Try.ntmps6
      go_wp2_with fail
      have D := refOf_any oa cap p w HP.out.1.1 (by rw [HP.out.2]; omega)
      rw [HP.out.2, HS.out.1] at D
      refine D.mono ?_
      rintro e w2 ⟨rfl, hw⟩
      obtain rfl := hw.symm
      clear D
      go_wp2_with (at_builtin; refine wpList_append_run rfl _ _ 28 rfl _ _ rfl rfl _ _ HR1.out ?_)
      have D := unpack_any o1 c1 b w1 HB1.out.1 HB1.out.2.1 HB1.out.2.2.1
      rw [HT.out.2, HU.out] at D
      refine D.mono ?_
      rintro e w3 ⟨ux, xx, rfl, ⟨rfl, c, v, rfl, hcr⟩, hb3⟩
      have HB3 : Hid (Crate w3 w1.heap.size c v l ∧ Below w1.heap.size w1 w3) := ⟨hcr, hb3⟩
      clear D hb3 hcr
      go_wp2_with fail
      have D := refUnpack_any o1 c1 b w3 (HB1.out.1.below HB3.out.2) HB1.out.2.1 (by rw [HT.out.2]; omega)
      rw [HT.out.2, HU.out] at D
      refine D.mono ?_
      rintro e w4 ⟨ux, xx, rfl, ⟨rfl, y, z, rfl, hrf⟩, hb4⟩
      have HB4 : Hid (Below w3.heap.size w3 w4) := hb4
      clear D hb4 hrf
      go_wp2_with fail
      refine (pack_any c l w4 (HB3.out.1.reads.below HB4.out) HPK.out.2.2.1 HPK.out.2.2.2).mono ?_
      rw [HPK.out.1, HPK.out.2.1]
      rintro e w5 ⟨v5, rfl, h5, h6⟩
      obtain ⟨o5, c5, ev, hb5⟩ := h5.bytes
      rw [ev]
      have H15 : Below w1.heap.size w1 w5 := (HB3.out.2.trans (HB4.out.mono HB3.out.2.size)).trans (h6.mono (Nat.le_trans HB3.out.2.size HB4.out.size))
      have HW : Hid (Below w.heap.size w w5) := HB1.out.2.2.2.trans (H15.mono HB1.out.2.2.2.size)
      have r3 := conv_any o5 b c5 w5 hb5
      have r4 := conv_any o1 b c1 w5 (HB1.out.1.below H15)
      rw [HT.out.2] at r3 r4 ⊢
      have hs : ((strV b).toList == (strV b).toList) = true := by simp
      clear h5 h6 ev hb5 H15
      go_wp2_with fail
      refine (known_any w5).mono ?_
      rintro e w6 ⟨rfl, hk⟩
      have HB5 : Hid (Below w.heap.size w w6) := HW.out.trans (hk.mono HW.out.size)
      clear hk
      go_wp2
      go_ret
      exact ⟨rfl, HB5.out⟩

theorem own : ownKnob Try.prog.godebug = none := by kernel_rfl

set_option maxRecDepth 100000 in
theorem lifted (os : Os) (started : os.Started) (H : Type) (enc : TypeId × Value → H) :
    ReturnsInHanded {} Try.checked os 6 .any (Rows.wireSummedSpec.pre6 enc Try.prog Try.f6 Rows.wireSummedRow.domain false) (Rows.wireSummedSpec.post enc Try.prog Try.f6 false true false false) := by
  refine returnsInHanded_of_change (C := Try.checked) own started (by kernel_rfl) Try.func6
    (ChangeSpec.witness6 (enc := enc) (C := Try.checked) false ⟨#[], #[.slice none 0 0], []⟩ 8 (by kernel_rfl) (by kernel_rfl) (by kernel_rfl) (by kernel_rfl)) ?_
  intro W base args ds gs before hval0 hW _ _
  have hval : ∀ (j : Nat) t v, Try.f6.params[j]? = some t → args[j]? = some v → Value.okWide Try.prog W .any base t v := hval0
  have hW' := hW
  obtain ⟨p, q, hA0, hV, rfl, _, _⟩ := hW
  have hA : DataW.TrodAll enc Try.prog W 0 (fun _ => true) true Try.f6.params.toList args.toList ds p := hA0
  rw [Try.params6] at hA hval
  obtain ⟨v0, vs0, d0, ds0, p0, q0, hargs, rfl, rfl, h0, r0⟩ := trodAll_cons hA
  obtain ⟨rfl, rfl, rfl⟩ := trodAll_nil r0
  obtain rfl : args = #[v0] := by cases args; simp_all
  obtain ⟨rfl, rfl⟩ := trodVars_none hV
  obtain ⟨a0, len0, cap0, rfl⟩ := okWide_slice Try.underlying28 (hval 0 28 v0 rfl rfl)
  have k0 := h0
  have lt0 : ∀ x ∈ p0, x.block < W.heap.size := by obtain ⟨m, hm⟩ := k0; exact DataW.trod_lt m _ _ _ hm
  obtain ⟨z0, e0, m0, s0⟩ : ∃ l : List (BitVec 8), l.length = len0 ∧ len0 ≤ maxLen ∧ hasBytesN W a0 cap0 l := by
    obtain ⟨fuel, hf⟩ := h0
    exact open_bytesn hf
  clear hA0 hval0
  refine (walk W a0 len0 cap0 z0 e0 m0 s0 ).mono fun e W' ⟨he, bel⟩ => ?_
  subst he
  exact ⟨_, rfl, _, _, _, [], _, [], hW', trodAll_mk1 (shut_bool Try.underlying4 _), (trodAll_cons_mk (Below.trod laidOut (by kernel_rfl) (of_decide_eq_true (by kernel_rfl)) k0 bel lt0) trodAll_mk0), rfl, bel.frame _, fun h => by cases h⟩

theorem over : Rows.wireSummedRow.holds Try.pinned (OpenSpec.ofChange Rows.wireSummedSpec) :=
  OpenClaim.holds_of_wide 6 Try.f6 rfl rfl rfl rfl rfl rfl rfl ⟨rfl, rfl, rfl, rfl, rfl⟩ rfl rfl rfl rfl rfl (by kernel_rfl) Try.func6 (by kernel_rfl)
    (of_decide_eq_true (by kernel_rfl)) (by unfold Func.isWrapper; first | (rw [if_pos (by decide +kernel)]; kernel_rfl) | (rw [if_neg (by decide +kernel)]; exact ⟨rfl, rfl⟩))
    (fun os started H enc _ => lifted os started H enc)

end Go.Proofs.Ytfcoanlegjddpaa.wireSummed
namespace Go.Proofs.Ytfcoanlegjddpaa
theorem wireSummed_holds : Rows.WireSummedSaid := wireSummed.over
#print axioms wireSummed_holds
end Go.Proofs.Ytfcoanlegjddpaa
