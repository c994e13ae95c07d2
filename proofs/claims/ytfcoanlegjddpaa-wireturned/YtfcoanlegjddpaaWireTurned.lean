/-
  Of any row of raw things, a place and a byte: WireTurned returns true. No condition.
-/
import Derived.Test.YtfcoanlegjddpaaRows
import Derived.Test.YtfcoanlegjddpaaWrBackP
import Derived.Test.YtfcoanlegjddpaaCrOpenN
import Derived.WalkKit
import Derived.ProofKit
import Derived.OpenShut
import Derived.ShutString
import Derived.ChangeOld
import Derived.Below
import Derived.SizedLaws
namespace Go.Proofs.Ytfcoanlegjddpaa.wireTurned
open Go.ChangeShapes Go.WideShapes Go.ChangeAt Go.RowKit

theorem i64_low16 (n : Int) : bits .and .i64 n 65535 = n % 65536 := by
  have h1 : (BitVec.ofInt 64 65535).toNat = 2 ^ 16 - 1 := by decide
  have key : (BitVec.ofInt 64 n &&& BitVec.ofInt 64 65535).toNat = (n % ((2 ^ 64 : Nat) : Int)).toNat % 2 ^ 16 := by
    rw [BitVec.toNat_and, BitVec.toNat_ofInt, h1, Nat.and_two_pow_sub_one_eq_mod]
  show IntKind.i64.wrap ((BitVec.ofInt 64 n &&& BitVec.ofInt 64 65535).toNat : Nat) = n % 65536
  rw [key, IntKind.wrap_i64]
  omega
theorem u8_zero (y : BitVec 8) : u8 y = 0 ↔ y = 0#8 := ⟨fun h => u8_inj h, fun h => by rw [h]; rfl⟩
theorem brow_store {w : World} {B g m c : Nat} {b : List (BitVec 8)} (h : BRow w B (.slice (some ⟨g, 0, none⟩) m c) b) (k : Nat) (z : BitVec 8) :
    BRow (w.setCell ⟨g, k, none⟩ (.int .u8 (u8 z))) B (.slice (some ⟨g, 0, none⟩) m c) (b.set k z) ∧ B ≤ g ∧ g < w.heap.size := by
  obtain ⟨o, c', e⟩ := h.form
  injection e with e1 e2 e3
  subst e2
  have h1 := (World.ownsRow.stored (w := w) h k (.int .u8 (u8 z))).1
  have hb := h.base g rfl
  refine ⟨?_, hb.1, hb.2⟩
  unfold BRow
  rw [List.length_set, List.map_set]
  exact h1

set_option maxRecDepth 1000000 in
set_option maxHeartbeats 2000000 in
theorem core (w : World) (oa : Option Addr) (n cap : Nat) (l : List Th) (hn : l.length = n) (hm : n ≤ 140737488355328) (hS : hasThs w oa l) (hz : ∀ y ∈ l, y.s.size ≤ 140737488355328 ∧ (Lit.int .i64 y.n).wf = true)
    (t : Int) (y : BitVec 8) :
    Calls Try.prog 7 #[.slice oa n cap, .int .i64 t, .int .u8 (u8 y)] w fun e w' => e = .returned (.bool true) ∧ Below w.heap.size w w' := by
  have HN : Hid (l.length = n) := hn
  have HS : Hid (hasThs w oa l) := hS
  have HZ : Hid (∀ y ∈ l, y.s.size ≤ 140737488355328) := fun y hy => (hz y hy).1
  have HOK : Hid (∀ x ∈ l.map plainI, okT x) := plain_ok hz
  clear hn hS hz
  by_cases hlong : longF l = true
  · have HL : Hid (longF l = true) := hlong
    clear hlong
    go_enter Try.func7, Try.ntmps7
    go_wp2_with fail
    refine (long_any _ _ _ l _ HN.out HS.out hm HZ.out).mono ?_
    rw [HL.out]
    rintro e w1 ⟨rfl, hw⟩
    obtain rfl := hw.symm
    go_wp2
    go_ret
    exact ⟨rfl, Below.refl _ _⟩
  have HL : Hid (longF l = false) := by show longF l = false; simpa using hlong
  have h100 : n ≤ 100 := by
    have := HL.out
    unfold longF at this
    rw [Bool.or_eq_false_iff, decide_eq_false_iff_not, decide_eq_false_iff_not, HN.out] at this
    omega
  clear hlong
  by_cases hy0 : y = 0#8
  · have hz0 : (u8 y == 0) = true := by rw [hy0]; rfl
    clear hy0
    go_enter Try.func7, Try.ntmps7
    go_wp2_with fail
    refine (long_any _ _ _ l _ HN.out HS.out hm HZ.out).mono ?_
    rw [HL.out]
    rintro e w1 ⟨rfl, hw⟩
    obtain rfl := hw.symm
    go_wp2
    go_ret
    exact ⟨rfl, Below.refl _ _⟩
  have hz0 : (u8 y == 0) = false := by simpa [u8_zero] using hy0
  have HY : Hid (y ≠ 0#8) := hy0
  have HI : Hid (SmallL (l.map plainI) ∧ (l.map plainI).length ≤ 100) := ⟨its_small HZ.out, by rw [List.length_map, HN.out]; exact h100⟩
  obtain ⟨its, hits⟩ : ∃ its, its = l.map plainI := ⟨_, rfl⟩
  have HIT : Hid (l.map plainI = its) := hits.symm
  rw [← hits] at HI HOK
  clear hits hy0
  cases hp : packV its with
  | none =>
    have HP : Hid (packE its = 1 ∧ (packV its).getD [] = []) := ⟨by rw [packE, hp]; rfl, by rw [hp]; rfl⟩
    clear hp
    go_enter Try.func7, Try.ntmps7
    go_wp2_with fail
    refine (long_any _ _ _ l _ HN.out HS.out hm HZ.out).mono ?_
    rw [HL.out]
    rintro e w1 ⟨rfl, hw⟩
    obtain rfl := hw.symm
    go_wp2_with fail
    refine (made_any _ _ _ l _ HN.out HS.out h100 HZ.out).mono ?_
    rw [HIT.out]
    rintro e w2 ⟨c, x, v, u, rfl, hT⟩
    have HT : Hid (Two2 w w2 c x v u its) := hT
    clear hT
    go_wp2_with fail
    refine (pack_any c its w2 HT.out.1.reads HI.out.2 HI.out.1).mono ?_
    rw [HP.out.1, HP.out.2]
    rintro e w3 ⟨v3, rfl, h3, h4⟩
    obtain ⟨o3, c3, rfl⟩ := h3.form
    have HX : Hid (Below w.heap.size w w3) := HT.out.2.2.2.trans (h4.mono HT.out.2.2.2.size)
    have hl0 : ([] : List (BitVec 8)).length = 0 := rfl
    rw [hl0]
    clear h3 h4 hl0
    go_wp2_with fail
    refine (known_any w3).mono ?_
    rintro e w5 ⟨rfl, hk⟩
    have HB5 : Hid (Below w.heap.size w w5) := HX.out.trans (hk.mono HX.out.size)
    clear hk
    go_wp2
    go_ret
    exact ⟨rfl, HB5.out⟩
  | some b =>
    have HP : Hid (packE its = 0 ∧ (packV its).getD [] = b) := ⟨by rw [packE, hp]; rfl, by rw [hp]; rfl⟩
    obtain ⟨hb, hb4, hb1⟩ := pack_tel hp
    obtain ⟨m, hmb⟩ : ∃ m, m = b.length := ⟨_, rfl⟩
    have hm7 : m = 6 + (bodyV its).length := by rw [hmb, hb]; exact (tel_num hb4).2
    have HMB : Hid (b.length = m) := hmb.symm
    have hmle : m ≤ 4006 ∧ 7 ≤ m := by omega
    obtain ⟨hm4006, hm7'⟩ := hmle
    obtain ⟨k, hk⟩ : ∃ k : Nat, k = ((t % 65536) % (m : Int)).toNat := ⟨_, rfl⟩
    have hkm : (k : Int) < (m : Int) ∧ (t % 65536) % (m : Int) = (k : Int) := by
      have h1 := Int.emod_lt_of_pos (t % 65536) (show (0 : Int) < (m : Int) by omega)
      have h2 := Int.emod_nonneg (t % 65536) (show (m : Int) ≠ 0 by omega)
      omega
    obtain ⟨hkl, hkk⟩ := hkm
    have hklN : k < m := by omega
    obtain ⟨x0, hx0⟩ : ∃ x, b[k]? = some x := ⟨b[k]'(by omega), List.getElem?_eq_getElem _⟩
    have HSET : Hid (unpackR (b.set k (x0 ^^^ y)) = none ∧ (b.set k (x0 ^^^ y)).length = m ∧ b[k]? = some x0) := by
      refine ⟨?_, by rw [List.length_set, hmb], hx0⟩
      rw [hb] at hx0 ⊢
      exact set_none hb4 hb1 hx0 HY.out
    have hlow := i64_low16 t
    have hux := u8_xor x0 y
    clear hp hb hb4 hb1 hm7 hmb hk hx0
    go_enter Try.func7, Try.ntmps7
    go_wp2_with fail
    refine (long_any _ _ _ l _ HN.out HS.out hm HZ.out).mono ?_
    rw [HL.out]
    rintro e w1 ⟨rfl, hw⟩
    obtain rfl := hw.symm
    go_wp2_with fail
    refine (made_any _ _ _ l _ HN.out HS.out h100 HZ.out).mono ?_
    rw [HIT.out]
    rintro e w2 ⟨c, x, v, u, rfl, hT⟩
    have HT : Hid (Two2 w w2 c x v u its) := hT
    clear hT
    go_wp2_with fail
    refine (pack_any c its w2 HT.out.1.reads HI.out.2 HI.out.1).mono ?_
    rw [HP.out.1, HP.out.2]
    rintro e w3 ⟨v3, rfl, h3, h4⟩
    have HX : Hid (Below w.heap.size w w3) := HT.out.2.2.2.trans (h4.mono HT.out.2.2.2.size)
    obtain ⟨o3, c3, ev, hb3, ho3⟩ := h3.hasN
    rw [HMB.out] at ev
    subst ev
    obtain ⟨v6, w6, r6, p6, q6⟩ := copy_any w3 o3 m c3 b hb3 HMB.out (by omega)
    obtain ⟨o6, c6, ev, hb6, hc6, ho6⟩ := p6.slice
    rw [HMB.out] at ev
    subst ev
    obtain ⟨g6, off6, e6, -⟩ := hb6 k x0 HSET.out.2.2
    have hoff : off6 = 0 := by
      rcases p6.2 with ⟨e', h0⟩ | ⟨g, cap', cur, e', _⟩
      · injection e' with e1
        rw [e1] at e6
        cases e6
      · injection e' with e1
        rw [e1] at e6
        injection e6 with e6
        injection e6 with _ e6
        exact e6.symm
    subst hoff
    subst e6
    have hck : w6.cell? ⟨g6, k, none⟩ = some (.int .u8 (u8 x0)) := by
      obtain ⟨b', o', e, hc⟩ := hb6 k x0 HSET.out.2.2
      injection e with e
      injection e with e1 e2
      subst e1 e2
      simpa using hc
    have hfk : w6.frozen? ⟨g6, k, none⟩ = false := World.ownsRow.frozenAt (w := w6) (g := g6) (by unfold BRow at p6; rw [HMB.out] at p6; exact p6) k
    obtain ⟨s1, s2, s3⟩ := brow_store p6 k (x0 ^^^ y)
    have HR6 : Hid ((Builtin.append_ #[28, 28] 28 #[.slice (some ⟨w3.heap.size, 0, none⟩) 0 0, .slice o3 m c3]).run Try.prog (w3.alloc (.cells #[] 5)) = .ok (.slice (some ⟨g6, 0, none⟩) m c6) w6) := r6
    obtain ⟨w7, hw7⟩ : ∃ w7, w7 = w6.setCell ⟨g6, k, none⟩ (.int .u8 (u8 (x0 ^^^ y))) := ⟨_, rfl⟩
    have HW7 : Hid (w6.setCell ⟨g6, k, none⟩ (.int .u8 (u8 (x0 ^^^ y))) = w7) := hw7.symm
    rw [← hw7] at s1
    have H7 : Hid (BRow w7 w3.heap.size (.slice (some ⟨g6, 0, none⟩) m c6) (b.set k (x0 ^^^ y)) ∧ Below w3.heap.size w3 w7) := ⟨s1, by rw [hw7]; exact q6.setCell s2 _⟩
    clear h3 h4 hb3 ho3 r6 p6 q6 hb6 hc6 ho6 s1 s2 s3 hw7
    go_wp2_with (at_builtin; refine wpList_append_run rfl _ _ 28 rfl _ _ rfl rfl _ _ HR6.out ?_)
    rw [HW7.out]
    obtain ⟨o7, c7, ev, hb7, hc7, ho7⟩ := H7.out.1.slice
    rw [HSET.out.2.1] at ev
    injection ev with ev1 ev2 ev3
    subst ev1 ev3
    have D := unpack_any _ c6 (b.set k (x0 ^^^ y)) w7 hb7 hc7 ho7
    rw [HSET.out.2.1, HSET.out.1] at D
    refine D.mono ?_
    rintro e w8 ⟨ux, xx, rfl, ⟨rfl, rfl⟩, hb8⟩
    have HB8 : Hid (Below w.heap.size w w8) := HX.out.trans ((H7.out.2.trans (hb8.mono H7.out.2.size)).mono HX.out.size)
    clear D hb8 hb7 hc7 ho7 ev2
    go_wp2_with fail
    refine (known_any w8).mono ?_
    rintro e w9 ⟨rfl, hk⟩
    have HB9 : Hid (Below w.heap.size w w9) := HB8.out.trans (hk.mono HB8.out.size)
    clear hk
    go_wp2
    go_ret
    exact ⟨rfl, HB9.out⟩
theorem walk (w : World) (oa : Option Addr) (n cap : Nat) (l : List Th) (hn : l.length = n) (hm : n ≤ 140737488355328) (hS : hasThs w oa l) (hz : ∀ y ∈ l, y.s.size ≤ 140737488355328 ∧ (Lit.int .i64 y.n).wf = true)
    (t : Int) (_ : (Lit.int .i64 t).wf = true) (y : Int) (hy : (Lit.int IntKind.u8 y).wf = true) :
    Calls Try.prog 7 #[.slice oa n cap, .int .i64 t, .int .u8 y] w fun e w' => e = .returned (.bool true) ∧ Below w.heap.size w w' := by
  rw [← u8_of y hy]
  exact core w oa n cap l hn hm hS hz t _

theorem own : ownKnob Try.prog.godebug = none := by kernel_rfl

set_option maxRecDepth 100000 in
theorem lifted (os : Os) (started : os.Started) (H : Type) (enc : TypeId × Value → H) :
    ReturnsInHanded {} Try.checked os 7 .any (Rows.wireTurnedSpec.pre6 enc Try.prog Try.f7 Rows.wireTurnedRow.domain false) (Rows.wireTurnedSpec.post enc Try.prog Try.f7 false true false false) := by
  refine returnsInHanded_of_change_sized (C := Try.checked) own started (by kernel_rfl) Try.func7
    (ChangeSpec.witness6 (enc := enc) (C := Try.checked) false ⟨#[], #[.slice none 0 0, .int .i64 0, .int .u8 0], []⟩ 8 (by kernel_rfl) (by kernel_rfl) (by kernel_rfl) (by kernel_rfl)) ?_
  intro W base args ds gs before hval0 hW _ hsz0 _
  have hval : ∀ (j : Nat) t v, Try.f7.params[j]? = some t → args[j]? = some v → Value.okWide Try.prog W .any base t v := hval0
  have hsz : (DataW.weightsEach Try.prog (Try.f7.params.toList ++ Rows.wireTurnedSpec.plain.varTypes Try.prog) (ds ++ gs)).all (· ≤ reachBytes) = true := hsz0
  have hW' := hW
  obtain ⟨p, q, hA0, hV, rfl, _, _⟩ := hW
  have hA : DataW.TrodAll enc Try.prog W 0 (fun _ => true) true Try.f7.params.toList args.toList ds p := hA0
  rw [Try.params7] at hA hval hsz
  obtain ⟨v0, vs0, d0, ds0, p0, q0, hargs, rfl, rfl, h0, r0⟩ := trodAll_cons hA
  obtain ⟨v1, vs1, d1, ds1, p1, q1, rfl, rfl, rfl, h1, r1⟩ := trodAll_cons r0
  obtain ⟨v2, vs2, d2, ds2, p2, q2, rfl, rfl, rfl, h2, r2⟩ := trodAll_cons r1
  obtain ⟨rfl, rfl, rfl⟩ := trodAll_nil r2
  obtain rfl : args = #[v0, v1, v2] := by cases args; simp_all
  obtain ⟨rfl, rfl⟩ := trodVars_none hV
  have k0 := h0
  have lt0 : ∀ x ∈ p0, x.block < W.heap.size := by obtain ⟨m, hm⟩ := k0; exact DataW.trod_lt m _ _ _ hm
  have g0 := weights_at hsz (j := 0) (t := 22) rfl rfl
  obtain ⟨o0, len0, cap0, rfl⟩ := okWide_slice Try.underlying22 (hval 0 22 v0 rfl rfl)
  obtain ⟨z0, e0, m0, s0, y0⟩ : ∃ l : List Th, l.length = len0 ∧ len0 ≤ 140737488355328 ∧ hasThs W o0 l ∧ ∀ y ∈ l, y.s.size ≤ 140737488355328 ∧ (Lit.int .i64 y.n).wf = true := by
    obtain ⟨fuel, hf⟩ := h0
    exact open_thingsn hf g0
  obtain ⟨a1, rfl, rfl, rfl, w1⟩ := open_int Try.underlying3 (hval 1 3 v1 rfl rfl) h1
  obtain ⟨a2, rfl, rfl, rfl, w2⟩ := open_int Try.underlying5 (hval 2 5 v2 rfl rfl) h2
  clear hA0 hval0
  refine (walk W o0 len0 cap0 z0 e0 m0 s0 y0 a1 w1 a2 w2).mono fun e W' ⟨he, bel⟩ => ?_
  subst he
  exact ⟨_, rfl, _, _, _, [], _, [], hW', trodAll_mk1 (shut_bool Try.underlying4 _), (trodAll_cons_mk (Below.trod laidOut (by kernel_rfl) (of_decide_eq_true (by kernel_rfl)) k0 bel lt0) (trodAll_cons_mk (shut_int Try.underlying3 w1) (trodAll_cons_mk (shut_int Try.underlying5 w2) trodAll_mk0))), rfl, bel.frame _, fun h => by cases h⟩

theorem over : Rows.wireTurnedRow.holds Try.pinned (OpenSpec.ofChange Rows.wireTurnedSpec) :=
  OpenClaim.holds_of_wide 7 Try.f7 rfl rfl rfl rfl rfl rfl rfl ⟨rfl, rfl, rfl, rfl, rfl⟩ rfl rfl rfl rfl rfl (by kernel_rfl) Try.func7 (by kernel_rfl)
    (of_decide_eq_true (by kernel_rfl)) (by unfold Func.isWrapper; first | (rw [if_pos (by decide +kernel)]; kernel_rfl) | (rw [if_neg (by decide +kernel)]; exact ⟨rfl, rfl⟩))
    (fun os started H enc _ => lifted os started H enc)

end Go.Proofs.Ytfcoanlegjddpaa.wireTurned
namespace Go.Proofs.Ytfcoanlegjddpaa
theorem wireTurned_holds : Rows.WireTurnedSaid := wireTurned.over
#print axioms wireTurned_holds
end Go.Proofs.Ytfcoanlegjddpaa
