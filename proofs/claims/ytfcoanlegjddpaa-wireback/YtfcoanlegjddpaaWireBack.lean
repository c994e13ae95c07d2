/-
  Of any row of raw things, a number and some more bytes: WireBack returns true. No condition.
-/
import Derived.Test.YtfcoanlegjddpaaRows
import Derived.Test.YtfcoanlegjddpaaWrBackP
import Derived.Test.YtfcoanlegjddpaaWrRefPack
import Derived.Test.YtfcoanlegjddpaaWrSlice
import Derived.Test.YtfcoanlegjddpaaCrOpenN
import Derived.WalkKit
import Derived.ProofKit
import Derived.OpenShut
import Derived.ShutString
import Derived.ChangeOld
import Derived.Below
import Derived.SizedLaws
namespace Go.Proofs.Ytfcoanlegjddpaa.wireBack
open Go.ChangeShapes Go.WideShapes Go.ChangeAt Go.RowKit

theorem i64_low16 (n : Int) : bits .and .i64 n 65535 = n % 65536 := by
  have h1 : (BitVec.ofInt 64 65535).toNat = 2 ^ 16 - 1 := by decide
  have key : (BitVec.ofInt 64 n &&& BitVec.ofInt 64 65535).toNat = (n % ((2 ^ 64 : Nat) : Int)).toNat % 2 ^ 16 := by
    rw [BitVec.toNat_and, BitVec.toNat_ofInt, h1, Nat.and_two_pow_sub_one_eq_mod]
  show IntKind.i64.wrap ((BitVec.ofInt 64 n &&& BitVec.ofInt 64 65535).toNat : Nat) = n % 65536
  rw [key, IntKind.wrap_i64]
  omega

set_option maxRecDepth 1000000 in
set_option maxHeartbeats 2000000 in
theorem walk (w : World) (oa : Option Addr) (n cap : Nat) (l : List Th) (hn : l.length = n) (hm : n ≤ 140737488355328) (hS : hasThs w oa l) (hz : ∀ y ∈ l, y.s.size ≤ 140737488355328 ∧ (Lit.int .i64 y.n).wf = true)
    (cut : Int) (_ : (Lit.int .i64 cut).wf = true) (om : Option Addr) (nm capm : Nat) (mo : List (BitVec 8)) (hnm : mo.length = nm) (_ : nm ≤ maxLen) (hmo : hasBytesN w om capm mo) :
    Calls Try.prog 5 #[.slice oa n cap, .int .i64 cut, .slice om nm capm] w fun e w' => e = .returned (.bool true) ∧ Below w.heap.size w w' := by
  have HN : Hid (l.length = n) := hn
  have HS : Hid (hasThs w oa l) := hS
  have HZ : Hid (∀ y ∈ l, y.s.size ≤ 140737488355328) := fun y hy => (hz y hy).1
  have HOK : Hid (∀ x ∈ l.map plainI, okT x) := plain_ok hz
  have HMO : Hid (hasBytesN w om capm mo ∧ mo.length = nm) := ⟨hmo, hnm⟩
  clear hn hS hz hmo hnm
  by_cases hlong : longF l = true
  · have HL : Hid (longF l = true) := hlong
    clear hlong
    go_enter Try.func5, Try.ntmps5
    go_wp2_with fail
    refine (long_any _ _ _ l _ HN.out HS.out hm HZ.out).mono ?_
    rw [HL.out]
    rintro e w1 ⟨rfl, hw⟩
    obtain rfl := hw.symm
    go_wp2
    go_ret
    exact ⟨rfl, Below.refl _ _⟩
  have HL : Hid (longF l = false) := by show longF l = false; simpa using hlong
  have h100 : n ≤ 100 := by
    have := HL.out
    unfold longF at this
    rw [Bool.or_eq_false_iff, decide_eq_false_iff_not, decide_eq_false_iff_not, HN.out] at this
    omega
  clear hlong
  by_cases hm1 : nm < 1
  · have hm1i : (nm : Int) < 1 := by omega
    go_enter Try.func5, Try.ntmps5
    go_wp2_with fail
    refine (long_any _ _ _ l _ HN.out HS.out hm HZ.out).mono ?_
    rw [HL.out]
    rintro e w1 ⟨rfl, hw⟩
    obtain rfl := hw.symm
    go_wp2
    go_ret
    exact ⟨rfl, Below.refl _ _⟩
  have hm1i : ¬ (nm : Int) < 1 := by omega
  by_cases hm50 : 50 < nm
  · have hm50i : (50 : Int) < (nm : Int) := by omega
    go_enter Try.func5, Try.ntmps5
    go_wp2_with fail
    refine (long_any _ _ _ l _ HN.out HS.out hm HZ.out).mono ?_
    rw [HL.out]
    rintro e w1 ⟨rfl, hw⟩
    obtain rfl := hw.symm
    go_wp2
    go_ret
    exact ⟨rfl, Below.refl _ _⟩
  have hm50i : ¬ (50 : Int) < (nm : Int) := by omega
  have HI : Hid (SmallL (l.map plainI) ∧ (l.map plainI).length ≤ 100) := ⟨its_small HZ.out, by rw [List.length_map, HN.out]; exact h100⟩
  obtain ⟨its, hits⟩ : ∃ its, its = l.map plainI := ⟨_, rfl⟩
  have HIT : Hid (l.map plainI = its) := hits.symm
  rw [← hits] at HI HOK
  clear hits
  cases hp : packV its with
  | none =>
    have HP : Hid (packE its = 1 ∧ (packV its).getD [] = []) := ⟨by rw [packE, hp]; rfl, by rw [hp]; rfl⟩
    clear hp
    go_enter Try.func5, Try.ntmps5
    go_wp2_with fail
    refine (long_any _ _ _ l _ HN.out HS.out hm HZ.out).mono ?_
    rw [HL.out]
    rintro e w1 ⟨rfl, hw⟩
    obtain rfl := hw.symm
    go_wp2_with fail
    refine (made_any _ _ _ l _ HN.out HS.out h100 HZ.out).mono ?_
    rw [HIT.out]
    rintro e w2 ⟨c, x, v, u, rfl, hT⟩
    have HT : Hid (Two2 w w2 c x v u its) := hT
    clear hT
    go_wp2_with fail
    refine (pack_any c its w2 HT.out.1.reads HI.out.2 HI.out.1).mono ?_
    rw [HP.out.1, HP.out.2]
    rintro e w3 ⟨v3, rfl, h3, h4⟩
    obtain ⟨o3, c3, rfl⟩ := h3.form
    have HX : Hid (Below w2.heap.size w2 w3) := h4
    have hl0 : ([] : List (BitVec 8)).length = 0 := rfl
    rw [hl0]
    clear h3 h4 hl0
    go_wp2_with fail
    refine (refPack_any x its w3 (HT.out.2.1.reads.below HX.out) HI.out.2).mono ?_
    rw [HP.out.1, HP.out.2]
    rintro e w4 ⟨v4, rfl, h5, h6⟩
    have HB : Hid (Below w.heap.size w w4) := HT.out.2.2.2.trans ((HX.out.trans (h6.mono HX.out.size)).mono HT.out.2.2.2.size)
    obtain ⟨o4, c4, rfl⟩ := h5.form
    clear h5 h6
    go_wp2_with fail
    refine (known_any w4).mono ?_
    rintro e w5 ⟨rfl, hk⟩
    have HB5 : Hid (Below w.heap.size w w5) := HB.out.trans (hk.mono HB.out.size)
    clear hk
    go_wp2
    go_ret
    exact ⟨rfl, HB5.out⟩
  | some b =>
    have HP : Hid (packE its = 0 ∧ (packV its).getD [] = b) := ⟨by rw [packE, hp]; rfl, by rw [hp]; rfl⟩
    obtain ⟨hb, hb4, hb1⟩ := pack_tel hp
    have HU : Hid (unpackR b = some its) := back_pack its b hp HI.out.2 HOK.out
    obtain ⟨m, hmb⟩ : ∃ m, m = b.length := ⟨_, rfl⟩
    have hm7 : m = 6 + (bodyV its).length := by rw [hmb, hb]; exact (tel_num hb4).2
    have HMB : Hid (b.length = m) := hmb.symm
    have hmle : m ≤ 4006 ∧ 7 ≤ m := by omega
    obtain ⟨hm4006, hm7'⟩ := hmle
    obtain ⟨k, hk⟩ : ∃ k : Nat, k = ((cut % 65536) % (m : Int)).toNat := ⟨_, rfl⟩
    have hkm : (k : Int) < (m : Int) ∧ (cut % 65536) % (m : Int) = (k : Int) := by
      have h1 := Int.emod_lt_of_pos (cut % 65536) (show (0 : Int) < (m : Int) by omega)
      have h2 := Int.emod_nonneg (cut % 65536) (show (m : Int) ≠ 0 by omega)
      omega
    obtain ⟨hkl, hkk⟩ := hkm
    have hklN : k < m := by omega
    have HCUT : Hid (unpackR (b.take k) = none ∧ (b.take k).length = k) := by
      refine ⟨?_, by rw [List.length_take]; omega⟩
      rw [hb] at hmb ⊢
      exact cut_none hb4 (by omega)
    have HMORE : Hid (unpackR (b ++ mo) = none ∧ (b ++ mo).length = m + nm) := by
      refine ⟨?_, by rw [List.length_append, HMO.out.2, hmb]⟩
      rw [hb]
      exact more_none hb4 (by have := HMO.out.2; intro e; rw [e] at this; simp at this; omega)
    have hlow := i64_low16 cut
    clear hp hb hb4 hb1 hm7 hmb hk
    go_enter Try.func5, Try.ntmps5
    go_wp2_with fail
    refine (long_any _ _ _ l _ HN.out HS.out hm HZ.out).mono ?_
    rw [HL.out]
    rintro e w1 ⟨rfl, hw⟩
    obtain rfl := hw.symm
    go_wp2_with fail
    refine (made_any _ _ _ l _ HN.out HS.out h100 HZ.out).mono ?_
    rw [HIT.out]
    rintro e w2 ⟨c, x, v, u, rfl, hT⟩
    have HT : Hid (Two2 w w2 c x v u its) := hT
    clear hT
    go_wp2_with fail
    refine (pack_any c its w2 HT.out.1.reads HI.out.2 HI.out.1).mono ?_
    rw [HP.out.1, HP.out.2]
    rintro e w3 ⟨v3, rfl, h3, h4⟩
    have HX : Hid (BRow w3 w2.heap.size v3 b ∧ Below w2.heap.size w2 w3) := ⟨h3, h4⟩
    obtain ⟨o3, c3, ev, hb3, ho3⟩ := h3.hasN
    rw [HMB.out] at ev
    subst ev
    have HB3 : Hid (hasBytesN w3 o3 c3 b ∧ (∀ g, o3 = some g → g.block < w3.heap.size)) := ⟨hb3, ho3⟩
    have hmc : m ≤ c3 := by have := hb3.2.1; rw [HMB.out] at this; exact this
    clear h3 h4 hb3 ho3
    go_wp2_with fail
    have D := unpack_any o3 c3 b w3 HB3.out.1.1 HB3.out.1.2.1 HB3.out.2
    rw [HMB.out, HU.out] at D
    refine D.mono ?_
    rintro e w4 ⟨ux, xx, rfl, ⟨rfl, d, vd, rfl, hcd⟩, hb4⟩
    have HD : Hid (Crate w4 w3.heap.size d vd its ∧ Below w3.heap.size w3 w4) := ⟨hcd, hb4⟩
    clear D hcd hb4
    obtain ⟨ok, rk, kk, kb⟩ := slice_h o3 m c3 k (by omega)
    have HK : Hid (hasBytes w4 ok (b.take k) ∧ (b.take k).length ≤ c3 ∧ ∀ g, ok = some g → g.block < w4.heap.size) :=
      ⟨kk w4 b (HB3.out.1.1.below HD.out.2), by rw [HCUT.out.2]; omega, kb (· < w4.heap.size) fun g hg => Nat.lt_of_lt_of_le (HB3.out.2 g hg) HD.out.2.size⟩
    clear kk kb
    go_wp2_with fail
    have D := unpack_any ok c3 (b.take k) w4 HK.out.1 HK.out.2.1 HK.out.2.2
    rw [HCUT.out.2, HCUT.out.1] at D
    refine D.mono ?_
    rintro e w5 ⟨ux, xx, rfl, ⟨rfl, rfl⟩, hb5⟩
    have HB5 : Hid (Below w3.heap.size w3 w5) := HD.out.2.trans (hb5.mono HD.out.2.size)
    have H45 : Hid (Below w4.heap.size w4 w5) := hb5
    clear D hb5
    obtain ⟨v6, w6, r6, p6, q6⟩ := copy_any w5 o3 m c3 b (HB3.out.1.below HB5.out) HMB.out (by omega)
    have HWW : Hid (Below w.heap.size w w5) := HT.out.2.2.2.trans ((HX.out.2.trans (HB5.out.mono HX.out.2.size)).mono HT.out.2.2.2.size)
    obtain ⟨v7, w7, r7, p7, q7⟩ := append_any w6 w5.heap.size v6 b om nm capm mo p6 q6.size (HMO.out.1.below (HWW.out.trans (q6.mono HWW.out.size))) HMO.out.2 (by rw [HMB.out]; omega)
    have HR6 : Hid ((Builtin.append_ #[28, 28] 28 #[.slice (some ⟨w5.heap.size, 0, none⟩) 0 0, .slice o3 m c3]).run Try.prog (w5.alloc (.cells #[] 5)) = .ok v6 w6) := r6
    have HR7 : Hid ((Builtin.append_ #[28, 28] 28 #[v6, .slice om nm capm]).run Try.prog w6 = .ok v7 w7) := r7
    have HB7 : Hid (Below w5.heap.size w5 w7) := q6.trans q7
    obtain ⟨o7, c7, ev, hb7, hc7, ho7⟩ := p7.slice
    rw [HMORE.out.2] at ev
    subst ev
    have HH7 : Hid (hasBytes w7 o7 (b ++ mo) ∧ (b ++ mo).length ≤ c7 ∧ ∀ g, o7 = some g → g.block < w7.heap.size) := ⟨hb7, hc7, ho7⟩
    clear r6 r7 q6 q7 p6 p7 hb7 hc7 ho7
    go_wp2_with (first | (at_builtin; refine wpList_append_run rfl _ _ 28 rfl _ _ rfl rfl _ _ HR6.out ?_) | (at_builtin; refine wpList_append_run rfl _ _ 28 rfl _ _ rfl rfl _ _ HR7.out ?_))
    have D := unpack_any o7 c7 (b ++ mo) w7 HH7.out.1 HH7.out.2.1 HH7.out.2.2
    rw [HMORE.out.2, HMORE.out.1] at D
    refine D.mono ?_
    rintro e w8 ⟨ux, xx, rfl, ⟨rfl, rfl⟩, hb8⟩
    have H48 : Hid (Below w4.heap.size w4 w8) := H45.out.trans ((HB7.out.trans (hb8.mono HB7.out.size)).mono H45.out.size)
    have HB8 : Hid (Below w3.heap.size w3 w8 ∧ Below w.heap.size w w8) := by
      have h1 := HB7.out.trans (hb8.mono HB7.out.size)
      exact ⟨HB5.out.trans (h1.mono HB5.out.size), HWW.out.trans (h1.mono HWW.out.size)⟩
    clear D hb8
    have HSA : Hid (Calls Try.prog 17 #[.pointer (some ⟨c, 0, none⟩), .pointer (some ⟨d, 0, none⟩)] w8 fun e w' => e = .returned (.bool true) ∧ w' = w8) := by
      have := same_any _ _ its its w8 (HT.out.1.reads.below (HX.out.2.trans (HB8.out.1.mono HX.out.2.size))) (HD.out.1.reads.below H48.out)
      rw [decide_eq_true rfl] at this
      exact this
    go_wp2_with fail
    refine HSA.out.mono ?_
    rintro e w9 ⟨rfl, hw⟩
    obtain rfl := hw.symm
    go_wp2_with fail
    refine (known_any w8).mono ?_
    rintro e w9 ⟨rfl, hk⟩
    have HB9 : Hid (Below w.heap.size w w9) := HB8.out.2.trans (hk.mono HB8.out.2.size)
    clear hk
    go_wp2
    go_ret
    exact ⟨rfl, HB9.out⟩

theorem own : ownKnob Try.prog.godebug = none := by kernel_rfl

set_option maxRecDepth 100000 in
theorem lifted (os : Os) (started : os.Started) (H : Type) (enc : TypeId × Value → H) :
    ReturnsInHanded {} Try.checked os 5 .any (Rows.wireBackSpec.pre6 enc Try.prog Try.f5 Rows.wireBackRow.domain false) (Rows.wireBackSpec.post enc Try.prog Try.f5 false true false false) := by
  refine returnsInHanded_of_change_sized (C := Try.checked) own started (by kernel_rfl) Try.func5
    (ChangeSpec.witness6 (enc := enc) (C := Try.checked) false ⟨#[], #[.slice none 0 0, .int .i64 0, .slice none 0 0], []⟩ 8 (by kernel_rfl) (by kernel_rfl) (by kernel_rfl) (by kernel_rfl)) ?_
  intro W base args ds gs before hval0 hW _ hsz0 _
  have hval : ∀ (j : Nat) t v, Try.f5.params[j]? = some t → args[j]? = some v → Value.okWide Try.prog W .any base t v := hval0
  have hsz : (DataW.weightsEach Try.prog (Try.f5.params.toList ++ Rows.wireBackSpec.plain.varTypes Try.prog) (ds ++ gs)).all (· ≤ reachBytes) = true := hsz0
  have hW' := hW
  obtain ⟨p, q, hA0, hV, rfl, _, _⟩ := hW
  have hA : DataW.TrodAll enc Try.prog W 0 (fun _ => true) true Try.f5.params.toList args.toList ds p := hA0
  rw [Try.params5] at hA hval hsz
  obtain ⟨v0, vs0, d0, ds0, p0, q0, hargs, rfl, rfl, h0, r0⟩ := trodAll_cons hA
  obtain ⟨v1, vs1, d1, ds1, p1, q1, rfl, rfl, rfl, h1, r1⟩ := trodAll_cons r0
  obtain ⟨v2, vs2, d2, ds2, p2, q2, rfl, rfl, rfl, h2, r2⟩ := trodAll_cons r1
  obtain ⟨rfl, rfl, rfl⟩ := trodAll_nil r2
  obtain rfl : args = #[v0, v1, v2] := by cases args; simp_all
  obtain ⟨rfl, rfl⟩ := trodVars_none hV
  have k0 := h0
  have lt0 : ∀ x ∈ p0, x.block < W.heap.size := by obtain ⟨m, hm⟩ := k0; exact DataW.trod_lt m _ _ _ hm
  have g0 := weights_at hsz (j := 0) (t := 22) rfl rfl
  obtain ⟨o0, len0, cap0, rfl⟩ := okWide_slice Try.underlying22 (hval 0 22 v0 rfl rfl)
  obtain ⟨z0, e0, m0, s0, y0⟩ : ∃ l : List Th, l.length = len0 ∧ len0 ≤ 140737488355328 ∧ hasThs W o0 l ∧ ∀ y ∈ l, y.s.size ≤ 140737488355328 ∧ (Lit.int .i64 y.n).wf = true := by
    obtain ⟨fuel, hf⟩ := h0
    exact open_thingsn hf g0
  obtain ⟨a1, rfl, rfl, rfl, w1⟩ := open_int Try.underlying3 (hval 1 3 v1 rfl rfl) h1
  obtain ⟨a2, len2, cap2, rfl⟩ := okWide_slice Try.underlying28 (hval 2 28 v2 rfl rfl)
  have k2 := h2
  have lt2 : ∀ x ∈ p2, x.block < W.heap.size := by obtain ⟨m, hm⟩ := k2; exact DataW.trod_lt m _ _ _ hm
  obtain ⟨z2, e2, m2, s2⟩ : ∃ l : List (BitVec 8), l.length = len2 ∧ len2 ≤ maxLen ∧ hasBytesN W a2 cap2 l := by
    obtain ⟨fuel, hf⟩ := h2
    exact open_bytesn hf
  clear hA0 hval0
  refine (walk W o0 len0 cap0 z0 e0 m0 s0 y0 a1 w1 a2 len2 cap2 z2 e2 m2 s2).mono fun e W' ⟨he, bel⟩ => ?_
  subst he
  exact ⟨_, rfl, _, _, _, [], _, [], hW', trodAll_mk1 (shut_bool Try.underlying4 _), (trodAll_cons_mk (Below.trod laidOut (by kernel_rfl) (of_decide_eq_true (by kernel_rfl)) k0 bel lt0) (trodAll_cons_mk (shut_int Try.underlying3 w1) (trodAll_cons_mk (Below.trod laidOut (by kernel_rfl) (of_decide_eq_true (by kernel_rfl)) k2 bel lt2) trodAll_mk0))), rfl, bel.frame _, fun h => by cases h⟩

theorem over : Rows.wireBackRow.holds Try.pinned (OpenSpec.ofChange Rows.wireBackSpec) :=
  OpenClaim.holds_of_wide 5 Try.f5 rfl rfl rfl rfl rfl rfl rfl ⟨rfl, rfl, rfl, rfl, rfl⟩ rfl rfl rfl rfl rfl (by kernel_rfl) Try.func5 (by kernel_rfl)
    (of_decide_eq_true (by kernel_rfl)) (by unfold Func.isWrapper; first | (rw [if_pos (by decide +kernel)]; kernel_rfl) | (rw [if_neg (by decide +kernel)]; exact ⟨rfl, rfl⟩))
    (fun os started H enc _ => lifted os started H enc)

end Go.Proofs.Ytfcoanlegjddpaa.wireBack
namespace Go.Proofs.Ytfcoanlegjddpaa
theorem wireBack_holds : Rows.WireBackSaid := wireBack.over
#print axioms wireBack_holds
end Go.Proofs.Ytfcoanlegjddpaa
