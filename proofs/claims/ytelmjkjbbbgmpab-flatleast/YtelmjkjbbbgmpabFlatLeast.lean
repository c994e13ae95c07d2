/-
  Of any row of numbers, any place, any number: FlatLeast returns true. No condition.
-/
import Derived.Test.YtelmjkjbbbgmpabRows
import Derived.Test.YtelmjkjbbbgmpabFlApp
import Derived.Test.YtelmjkjbbbgmpabFlArgs
import Derived.Test.YtelmjkjbbbgmpabLyMix
import Derived.Test.YtelmjkjbbbgmpabFlExt
import Derived.ShutString
namespace Go.Proofs.Ytelmjkjbbbgmpab.flatLeast
open Go.ChangeShapes Go.WideShapes Go.ChangeAt Go.RowKit

theorem and1023 (n : Int) : bits .and .i64 n 1023 = n % 1024 := by
  have h3 : (BitVec.ofInt 64 1023).toNat = 2 ^ 10 - 1 := by decide
  have key : (BitVec.ofInt 64 n &&& BitVec.ofInt 64 1023).toNat = (n % ((2 ^ 64 : Nat) : Int)).toNat % 2 ^ 10 := by
    rw [BitVec.toNat_and, BitVec.toNat_ofInt, h3, Nat.and_two_pow_sub_one_eq_mod]
  show IntKind.i64.wrap ((BitVec.ofInt 64 n &&& BitVec.ofInt 64 1023).toNat : Nat) = n % 1024
  rw [key, IntKind.wrap_i64]
  omega
theorem xor_ne (x b : Int) (h1 : 1 ≤ b) (h2 : b ≤ 1000) : x ≠ bits .xor .i64 x b := fun e => by
  have e' : x = IntKind.i64.wrap ((BitVec.ofInt 64 x ^^^ BitVec.ofInt 64 b).toNat : Nat) := e
  rw [IntKind.wrap_i64] at e'
  have hlt := (BitVec.ofInt 64 x ^^^ BitVec.ofInt 64 b).isLt
  have hX : (BitVec.ofInt 64 x).toNat = (x % ((2 ^ 64 : Nat) : Int)).toNat := BitVec.toNat_ofInt ..
  have heq : (BitVec.ofInt 64 x ^^^ BitVec.ofInt 64 b).toNat = (BitVec.ofInt 64 x).toNat := by
    generalize (BitVec.ofInt 64 x ^^^ BitVec.ofInt 64 b).toNat = z at *
    rw [hX]
    omega
  have h0 : BitVec.ofInt 64 x ^^^ BitVec.ofInt 64 b = BitVec.ofInt 64 x := BitVec.eq_of_toNat_eq heq
  have h3 : BitVec.ofInt 64 b = 0#64 := by
    have := congrArg (fun z => BitVec.ofInt 64 x ^^^ z) h0
    simp only [BitVec.xor_self] at this
    rw [← BitVec.xor_assoc, BitVec.xor_self, BitVec.zero_xor] at this
    exact this
  have h4 : (BitVec.ofInt 64 b).toNat = 0 := by rw [h3]; rfl
  rw [BitVec.toNat_ofInt] at h4
  omega

set_option maxRecDepth 1000000 in
set_option maxHeartbeats 4000000 in
theorem walk (w : World) (oa : Option Addr) (n ca : Nat) (a : List Int) (ea : a.length = n) (_ : OkSl oa n ca) (sa : rowAt w (.slice oa n ca) 1 iC a ∧ ∀ y ∈ a, wfI y) (at_ by_ : Int) (_ : (Lit.int .i64 at_).wf = true) (_ : (Lit.int .i64 by_).wf = true) :
    Calls Try.prog 4 #[.slice oa n ca, .int .i64 at_, .int .i64 by_] w fun e w' => e = .returned (.bool true) ∧ Below w.heap.size w w' := by
  have HA : Hid (rowAt w (.slice oa n ca) 1 iC a ∧ a.length = n) := ⟨sa.1, ea⟩
  clear sa ea
  by_cases h1 : n < 1
  · have h1i : (n : Int) < 1 := by omega
    go_enter Try.func4, Try.ntmps4
    go_wp2
    go_ret
    exact ⟨rfl, Below.refl _ _⟩
  have h1i : ¬ (n : Int) < 1 := by omega
  by_cases h2 : 100 < n
  · have h2i : (100 : Int) < (n : Int) := by omega
    go_enter Try.func4, Try.ntmps4
    go_wp2
    go_ret
    exact ⟨rfl, Below.refl _ _⟩
  have h2i : ¬ (100 : Int) < (n : Int) := by omega
  by_cases h3 : by_ < 1
  · go_enter Try.func4, Try.ntmps4
    go_wp2
    go_ret
    exact ⟨rfl, Below.refl _ _⟩
  by_cases h4 : 1000 < by_
  · go_enter Try.func4, Try.ntmps4
    go_wp2
    go_ret
    exact ⟨rfl, Below.refl _ _⟩
  obtain ⟨v1, w1, r1, i1, b1⟩ := copy_int w (.slice oa n ca) a HA.out.1 (by rw [HA.out.2]; omega)
  have hx4 := and1023 at_
  obtain ⟨k, hk4, hkn⟩ : ∃ k : Nat, at_ % 1024 % (n : Int) = (k : Int) ∧ k < n := nat_of ⟨Int.emod_nonneg _ (by omega), Int.emod_lt_of_pos _ (by omega)⟩
  have hki : (k : Int) < (n : Int) := by omega
  obtain ⟨x, hx⟩ := at_of (l := a) (k := k) (by rw [HA.out.2]; exact hkn)
  obtain ⟨g, c1, rfl, hg1, hg2⟩ := i1.slice (by rw [HA.out.2]; omega)
  rw [HA.out.2] at i1 r1
  have H1 : Hid (IRow w1 w.heap.size (.slice (some ⟨g, 0, none⟩) n c1) a ∧ Below w.heap.size w w1) := ⟨i1, b1⟩
  have hcx := i1.cell hx
  have hfx := World.ownsRow.frozenAt (w := w1) (g := g) (show w1.ownsRow w.heap.size 3 1 (.slice (some ⟨g, 0, none⟩) a.length c1) a.length (a.flatMap iC) by rw [HA.out.2]; have := i1; unfold IRow at this; rw [HA.out.2] at this; exact this) k
  obtain ⟨y, hy⟩ : ∃ y, y = bits .xor .i64 x by_ := ⟨_, rfl⟩
  have HNE : Hid (a.getD k 0 ≠ y) := by
    show a.getD k 0 ≠ y
    rw [getD_at hx, hy]
    exact xor_ne x by_ (by omega) (by omega)
  have H2 : Hid (IRow (w1.setCell ⟨g, k, none⟩ (.int .i64 y)) w.heap.size (.slice (some ⟨g, 0, none⟩) n c1) (a.set k y) ∧ Below w.heap.size w (w1.setCell ⟨g, k, none⟩ (.int .i64 y))) := by
    have h := i1
    rw [← HA.out.2] at h
    have := h.store k y
    rw [HA.out.2] at this
    exact ⟨this, b1.setCell hg1 _⟩
  have HX : Hid (a[k]? = some x) := hx
  have hxy := hy.symm
  clear i1 b1 hx hy
  go_enter Try.func4, Try.ntmps4
  go_wp2_with (at_builtin; refine wpList_app_run rfl _ _ 22 rfl _ _ rfl rfl _ w1 r1 ?_)
  have HAL : Hid (a.length ≤ 1000 ∧ (a.set k y).length = a.length) := ⟨by rw [HA.out.2]; omega, List.length_set ..⟩
  generalize w1.setCell ⟨g, k, none⟩ (.int .i64 y) = w2 at *
  refine (diff_any _ _ a a _ (HA.out.1.below H2.out.2) (HA.out.1.below H2.out.2) rfl HAL.out.1).mono ?_
  rw [show diffV a a = [] from diff_same a a.length]
  rintro e w3 ⟨xv, rfl, hx3, hb3⟩
  obtain ⟨ox, cx, rfl⟩ := owns_slice hx3
  have H3 : Hid (IRow w3 w.heap.size (.slice (some ⟨g, 0, none⟩) n c1) (a.set k y) ∧ Below w.heap.size w w3) := ⟨H2.out.1.below hb3, H2.out.2.trans (hb3.mono H2.out.2.size)⟩
  clear hx3 hb3 r1
  simp only [List.length_nil]
  go_wp2_with fail
  refine (diff_any _ _ a (a.set k y) _ (HA.out.1.below H3.out.2) H3.out.1.row HAL.out.2.symm HAL.out.1).mono ?_
  rw [show diffV a (a.set k y) = [((k : Int), y)] by rw [diffV, diff_set a k y (by rw [HA.out.2]; exact hkn) HNE.out, if_pos (by rw [HA.out.2]; exact hkn)]]
  rintro e w4 ⟨yv, rfl, hy4, hb4⟩
  obtain ⟨gy, cy, rfl, d0, d1, -, -⟩ := owns_ch1 hy4
  have H4 : Hid (IRow w4 w.heap.size (.slice (some ⟨g, 0, none⟩) n c1) (a.set k y) ∧ Below w.heap.size w w4) := ⟨H3.out.1.below hb4, H3.out.2.trans (hb4.mono H3.out.2.size)⟩
  have hc4 := H4.out.1.cell (k := k) (x := y) (by rw [List.getElem?_set_self (by rw [HA.out.2]; exact hkn)])
  have heq := run_eqlCh (k : Int) y (k : Int) y
  have hgd := eqGuardCh
  rw [decide_eq_true ⟨rfl, rfl⟩] at heq
  clear hy4 hb4 hcx hfx
  have f0 := ext_cell d0
  have f1 := ext_cell d1
  have f2 := ext_cell hc4
  haveI := ext_some w4
  clear d0 d1 hc4
  go_wp2_with fail
  refine wp_region_mix_lex (C := fun W => ∃ y : Ext w4, W = y.z) (by kernel_rfl) (by kernel_rfl) (by kernel_rfl) (by kernel_rfl) ⟨⟨_, (Below.refl _ _).drew⟩, rfl⟩ ?_
  (repeat (first | (with_reducible refine mix_read (by kernel_rfl) ?_; go_big_quiet_want; go_big_quiet_op; go_big_quiet_on; with_reducible refine wpQuiet_nil ?_) | (with_reducible refine mix_pass (by kernel_rfl) ?_; go_big_quiet_skip; with_reducible refine wpQuiet_nil ?_)))
  with_reducible refine mix_call (by kernel_rfl) (by kernel_rfl) ((fknown_any _).mono ?_) (by kernel_rfl)
  rintro e w5 ⟨rfl, hk5⟩
  have hb5 : Below w4.heap.size w4 w5 := ((Below.refl _ w4).drew).trans (hk5.mono (by simp))
  refine ⟨_, rfl, ⟨⟨_, hb5⟩, rfl⟩, ?_⟩
  simp only [Act.put, List.setIfInBounds_toArray, List.set_cons_zero, List.set_cons_succ]
  (repeat (first | (with_reducible refine mix_read (by kernel_rfl) ?_; go_big_quiet_want; go_big_quiet_op; go_big_quiet_on; with_reducible refine wpQuiet_nil ?_) | (with_reducible refine mix_pass (by kernel_rfl) ?_; go_big_quiet_skip; with_reducible refine wpQuiet_nil ?_)))
  with_reducible refine mix_end ?_
  intro _
  have HB5 : Hid (Below w.heap.size w w5) := H4.out.2.trans (hb5.mono H4.out.2.size)
  clear hk5 hb5 f0 f1 f2
  go_wp2
  go_ret
  exact ⟨rfl, HB5.out⟩

theorem own : ownKnob Try.prog.godebug = none := by kernel_rfl

set_option maxRecDepth 100000 in
theorem lifted (os : Os) (started : os.Started) (H : Type) (enc : TypeId × Value → H) :
    ReturnsInHanded {} Try.checked os 4 .any (Rows.flatLeastSpec.pre6 enc Try.prog Try.f4 Rows.flatLeastRow.domain false) (Rows.flatLeastSpec.post enc Try.prog Try.f4 false true false false) := by
  refine returnsInHanded_of_change (C := Try.checked) own started (by kernel_rfl) Try.func4
    (ChangeSpec.witness6 (enc := enc) (C := Try.checked) false ⟨#[], #[.slice none 0 0, .int .i64 0, .int .i64 0], []⟩ 8 (by kernel_rfl) (by kernel_rfl) (by kernel_rfl) (by kernel_rfl)) ?_
  intro W base args ds gs before hval0 hW _ _
  have hval : ∀ (j : Nat) t v, Try.f4.params[j]? = some t → args[j]? = some v → Value.okWide Try.prog W .any base t v := hval0
  have hW' := hW
  obtain ⟨p, q, hA0, hV, rfl, _, _⟩ := hW
  have hA : DataW.TrodAll enc Try.prog W 0 (fun _ => true) true Try.f4.params.toList args.toList ds p := hA0
  rw [Try.params4] at hA hval
  obtain ⟨v0, vs0, d0, ds0, p0, q0, hargs, rfl, rfl, h0, r0⟩ := trodAll_cons hA
  obtain ⟨v1, vs1, d1, ds1, p1, q1, rfl, rfl, rfl, h1, r1⟩ := trodAll_cons r0
  obtain ⟨v2, vs2, d2, ds2, p2, q2, rfl, rfl, rfl, h2, r2⟩ := trodAll_cons r1
  obtain ⟨rfl, rfl, rfl⟩ := trodAll_nil r2
  obtain rfl : args = #[v0, v1, v2] := by cases args; simp_all
  obtain ⟨rfl, rfl⟩ := trodVars_none hV
  obtain ⟨a0, len0, cap0, rfl⟩ := okWide_slice Try.underlying22 (hval 0 22 v0 rfl rfl)
  have k0 := h0
  have lt0 : ∀ x ∈ p0, x.block < W.heap.size := by obtain ⟨m, hm⟩ := k0; exact DataW.trod_lt m _ _ _ hm
  obtain ⟨z0, e0, m0, s0⟩ : ∃ l : List Int, l.length = len0 ∧ OkSl a0 len0 cap0 ∧ (rowAt W (.slice a0 len0 cap0) 1 iC l ∧ ∀ y ∈ l, wfI y) := by
    obtain ⟨fuel, hf⟩ := h0
    exact open_intr hf
  obtain ⟨a1, rfl, rfl, rfl, w1⟩ := open_int Try.underlying3 (hval 1 3 v1 rfl rfl) h1
  obtain ⟨a2, rfl, rfl, rfl, w2⟩ := open_int Try.underlying3 (hval 2 3 v2 rfl rfl) h2
  clear hA0 hval0
  refine (walk W a0 len0 cap0 z0 e0 m0 s0 a1 a2 w1 w2).mono fun e W' ⟨he, bel⟩ => ?_
  subst he
  exact ⟨_, rfl, _, _, _, [], _, [], hW', trodAll_mk1 (shut_bool Try.underlying4 _), (trodAll_cons_mk (Below.trod flaidOut (by kernel_rfl) (of_decide_eq_true (by kernel_rfl)) k0 bel lt0) (trodAll_cons_mk (shut_int Try.underlying3 w1) (trodAll_cons_mk (shut_int Try.underlying3 w2) trodAll_mk0))), rfl, bel.frame _, fun h => by cases h⟩

theorem over : Rows.flatLeastRow.holds Try.pinned (OpenSpec.ofChange Rows.flatLeastSpec) :=
  OpenClaim.holds_of_wide 4 Try.f4 rfl rfl rfl rfl rfl rfl rfl ⟨rfl, rfl, rfl, rfl, rfl⟩ rfl rfl rfl rfl rfl (by kernel_rfl) Try.func4 (by kernel_rfl)
    (of_decide_eq_true (by kernel_rfl)) (by unfold Func.isWrapper; first | (rw [if_pos (by decide +kernel)]; kernel_rfl) | (rw [if_neg (by decide +kernel)]; exact ⟨rfl, rfl⟩))
    (fun os started H enc _ => lifted os started H enc)

end Go.Proofs.Ytelmjkjbbbgmpab.flatLeast
namespace Go.Proofs.Ytelmjkjbbbgmpab
theorem flatLeast_holds : Rows.FlatLeastSaid := flatLeast.over
#print axioms flatLeast_holds
end Go.Proofs.Ytelmjkjbbbgmpab
