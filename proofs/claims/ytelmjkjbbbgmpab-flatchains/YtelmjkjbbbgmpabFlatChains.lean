/-
  Of any three rows of numbers: FlatChains returns true. No condition.
-/
import Derived.Test.YtelmjkjbbbgmpabRows
import Derived.Test.YtelmjkjbbbgmpabFlApp
import Derived.Test.YtelmjkjbbbgmpabFlArgs
import Derived.ShutString
import Derived.Laws.Cover1
namespace Go.Proofs.Ytelmjkjbbbgmpab.flatChains
open Go.ChangeShapes Go.WideShapes Go.ChangeAt Go.RowKit

theorem row_take {α : Type} {cs : α → List Value} {size : Nat} {w : World} {o : Option Addr} {n c c' k : Nat} {l : List α} (h : rowAt w (.slice o n c) size cs l) (hk : k ≤ n) : rowAt w (.slice o k c') size cs (l.take k) := by
  have hn := row_len h
  obtain ⟨oa, cap, e, h2⟩ := h
  injection e with e1 e2 e3
  refine ⟨o, c', by rw [List.length_take, Nat.min_eq_left (by omega)], fun j x hj => ?_⟩
  rw [List.getElem?_take] at hj
  split at hj
  · rw [e1]; exact h2 j x hj
  · cases hj

set_option maxRecDepth 1000000 in
set_option maxHeartbeats 4000000 in
theorem walk (w : World) (oa : Option Addr) (na ca : Nat) (a : List Int) (ea : a.length = na) (ka : OkSl oa na ca) (sa : rowAt w (.slice oa na ca) 1 iC a ∧ ∀ y ∈ a, wfI y)
    (ob : Option Addr) (nb cb : Nat) (b : List Int) (eb : b.length = nb) (kb : OkSl ob nb cb) (sb : rowAt w (.slice ob nb cb) 1 iC b ∧ ∀ y ∈ b, wfI y)
    (oc : Option Addr) (nc cc : Nat) (c : List Int) (ec : c.length = nc) (kc : OkSl oc nc cc) (sc : rowAt w (.slice oc nc cc) 1 iC c ∧ ∀ y ∈ c, wfI y) :
    Calls Try.prog 3 #[.slice oa na ca, .slice ob nb cb, .slice oc nc cc] w fun e w' => e = .returned (.bool true) ∧ Below w.heap.size w w' := by
  have HA : Hid (rowAt w (.slice oa na ca) 1 iC a ∧ a.length = na) := ⟨sa.1, ea⟩
  have HB : Hid (rowAt w (.slice ob nb cb) 1 iC b ∧ b.length = nb) := ⟨sb.1, eb⟩
  have HC : Hid (rowAt w (.slice oc nc cc) 1 iC c ∧ c.length = nc) := ⟨sc.1, ec⟩
  have ka1 := ka.2.1
  have kb1 := kb.2.1
  have kc1 := kc.2.1
  clear sa sb sc ea eb ec ka kb kc
  obtain ⟨n, hn, l1, l2, l3⟩ : ∃ n : Nat, min (min (na : Int) (nb : Int)) (nc : Int) = (n : Int) ∧ n ≤ na ∧ n ≤ nb ∧ n ≤ nc := ⟨min (min na nb) nc, by omega, by omega, by omega, by omega⟩
  have hmin : ∀ (W : World) (ts : Array TypeId) (t : TypeId), (Builtin.min_ ts t #[.int .i64 (na : Int), .int .i64 (nb : Int), .int .i64 (nc : Int)]).run Try.prog W = .ok (.int .i64 (n : Int)) W := fun W ts t => by
    rw [run_min_int3, ← hn]
    congr 2
    omega
  clear hn
  by_cases h1 : 100 < n
  · have h1i : (100 : Int) < (n : Int) := by omega
    go_enter Try.func3, Try.ntmps3
    go_wp2
    go_ret
    exact ⟨rfl, Below.refl _ _⟩
  have h1i : ¬ (100 : Int) < (n : Int) := by omega
  go_enter Try.func3, Try.ntmps3
  go_wp2_with fail
  go_quiet (fail)
  have hb0 : Below w.heap.size w (w.drewN nq) := _root_.Go.below_drewN (Below.refl _ w) nq
  have HP : Hid ((a.take n).length = n ∧ (b.take n).length = n ∧ (c.take n).length = n) := ⟨by rw [List.length_take, HA.out.2]; omega, by rw [List.length_take, HB.out.2]; omega, by rw [List.length_take, HC.out.2]; omega⟩
  have HR : Hid (∀ W, Below w.heap.size w W → rowAt W (.slice oa n ca) 1 iC (a.take n) ∧ rowAt W (.slice ob n cb) 1 iC (b.take n) ∧ rowAt W (.slice oc n cc) 1 iC (c.take n)) := fun W hW =>
    ⟨(row_take HA.out.1 l1).below hW, (row_take HB.out.1 l2).below hW, (row_take HC.out.1 l3).below hW⟩
  clear HA HB HC
  generalize a.take n = a at *
  generalize b.take n = b at *
  generalize c.take n = c at *
  have H0 : Hid (Below w.heap.size w (w.drewN nq)) := hb0
  clear hb0
  generalize w.drewN nq = w0 at *
  go_wp2_with fail
  refine (diff_any _ _ a b _ (HR.out _ H0.out).1 (HR.out _ H0.out).2.1 (by rw [HP.out.1, HP.out.2.1]) (by rw [HP.out.1]; omega)).mono ?_
  rintro e w1 ⟨x, rfl, hx, hb1⟩
  have H1 : Hid (CRow w1 w0.heap.size x (diffV a b) ∧ Below w.heap.size w w1) := ⟨hx, H0.out.trans (hb1.mono H0.out.size)⟩
  clear hx hb1
  go_wp2_with fail
  refine (diff_any _ _ b c _ (HR.out _ H1.out.2).2.1 (HR.out _ H1.out.2).2.2 (by rw [HP.out.2.1, HP.out.2.2]) (by rw [HP.out.2.1]; omega)).mono ?_
  rintro e w2 ⟨y, rfl, hy, hb2⟩
  have H2 : Hid (CRow w2 w0.heap.size x (diffV a b) ∧ CRow w2 w1.heap.size y (diffV b c) ∧ Below w.heap.size w w2) := ⟨H1.out.1.below hb2, hy, H1.out.2.trans (hb2.mono H1.out.2.size)⟩
  clear hy hb2
  have HDL : Hid ((diffV a b).length ≤ n ∧ (diffV b c).length ≤ n) := ⟨by have := diffT_len a b a.length; rw [HP.out.1] at this; rw [diffV, HP.out.1]; exact this, by have := diffT_len b c b.length; rw [HP.out.2.1] at this; rw [diffV, HP.out.2.1]; exact this⟩
  have hba : Below w2.heap.size w2 (w2.alloc (.cells #[] 32)) := (Below.refl _ _).alloc (Nat.le_refl _) _
  obtain ⟨v3, w3, r3, i3, b3⟩ := app_ch (w2.alloc (.cells #[] 32)) w2.heap.size _ x [] (diffV a b) (crow_nil w2) hba.size (H2.out.1.row.below hba) (by have := HDL.out; simp; omega)
  have hb3 : Below w2.heap.size w2 w3 := hba.trans b3
  obtain ⟨v4, w4, r4, i4, b4⟩ := app_ch w3 w2.heap.size v3 y ([] ++ diffV a b) (diffV b c) i3 hb3.size (H2.out.2.1.row.below hb3) (by have := HDL.out; simp; omega)
  have hb4 : Below w2.heap.size w2 w4 := hb3.trans b4
  have H4 : Hid (CRow w4 w2.heap.size v4 (diffV a b ++ diffV b c) ∧ Below w.heap.size w w4) := ⟨i4, H2.out.2.2.trans (hb4.mono H2.out.2.2.size)⟩
  clear hba i3 b3 hb3 i4 b4 hb4
  go_wp2_with (at_builtin; first | refine wpList_app_run rfl _ _ 23 rfl _ _ rfl rfl v3 w3 r3 ?_ | refine wpList_app_run rfl _ _ 23 rfl _ _ rfl rfl v4 w4 r4 ?_)
  have HAP : Hid (applyV a (diffV a b ++ diffV b c) = some c) := by
    show applyV a (diffV a b ++ diffV b c) = some c
    rw [applyV_append, apply_diff (by rw [HP.out.1, HP.out.2.1])]
    exact apply_diff (by rw [HP.out.2.1, HP.out.2.2])
  refine (apply_any _ _ a (diffV a b ++ diffV b c) w4 (HR.out _ H4.out.2).1 H4.out.1.row (by rw [HP.out.1]; omega) (by have := HDL.out; rw [List.length_append]; omega)).mono ?_
  rw [HAP.out]
  rintro e w5 ⟨he, hb5⟩
  rcases he with ⟨d, v5, hd, rfl, hi⟩ | ⟨hd, -⟩
  rotate_left
  · cases hd
  injection hd with hd
  subst hd
  have H5 : Hid (IRow w5 w4.heap.size v5 c ∧ Below w.heap.size w w5) := ⟨hi, H4.out.2.trans (hb5.mono H4.out.2.size)⟩
  clear hi hb5 r3 r4
  have HF := refInts_any v5 (.slice oc n cc) c c w5 H5.out.1.row (HR.out _ H5.out.2).2.2 (by rw [HP.out.2.2]; omega)
  rw [decide_eq_true rfl] at HF
  go_wp2_with fail
  refine HF.mono ?_
  rintro e w6 ⟨rfl, nd, rfl⟩
  go_wp2_with fail
  refine (fknown_any _).mono ?_
  rintro e w7 ⟨rfl, hk5⟩
  have HB7 : Hid (Below w.heap.size w w7) := by
    have h4 := H5.out.2.trans ((_root_.Go.below_drewN (Below.refl _ w5) nd).mono H5.out.2.size)
    exact h4.trans (hk5.mono h4.size)
  clear hk5
  go_wp2
  go_ret
  exact ⟨rfl, HB7.out⟩

theorem own : ownKnob Try.prog.godebug = none := by kernel_rfl

set_option maxRecDepth 100000 in
theorem lifted (os : Os) (started : os.Started) (H : Type) (enc : TypeId × Value → H) :
    ReturnsInHanded {} Try.checked os 3 .any (Rows.flatChainsSpec.pre6 enc Try.prog Try.f3 Rows.flatChainsRow.domain false) (Rows.flatChainsSpec.post enc Try.prog Try.f3 false true false false) := by
  refine returnsInHanded_of_change (C := Try.checked) own started (by kernel_rfl) Try.func3
    (ChangeSpec.witness6 (enc := enc) (C := Try.checked) false ⟨#[], #[.slice none 0 0, .slice none 0 0, .slice none 0 0], []⟩ 8 (by kernel_rfl) (by kernel_rfl) (by kernel_rfl) (by kernel_rfl)) ?_
  intro W base args ds gs before hval0 hW _ _
  have hval : ∀ (j : Nat) t v, Try.f3.params[j]? = some t → args[j]? = some v → Value.okWide Try.prog W .any base t v := hval0
  have hW' := hW
  obtain ⟨p, q, hA0, hV, rfl, _, _⟩ := hW
  have hA : DataW.TrodAll enc Try.prog W 0 (fun _ => true) true Try.f3.params.toList args.toList ds p := hA0
  rw [Try.params3] at hA hval
  obtain ⟨v0, vs0, d0, ds0, p0, q0, hargs, rfl, rfl, h0, r0⟩ := trodAll_cons hA
  obtain ⟨v1, vs1, d1, ds1, p1, q1, rfl, rfl, rfl, h1, r1⟩ := trodAll_cons r0
  obtain ⟨v2, vs2, d2, ds2, p2, q2, rfl, rfl, rfl, h2, r2⟩ := trodAll_cons r1
  obtain ⟨rfl, rfl, rfl⟩ := trodAll_nil r2
  obtain rfl : args = #[v0, v1, v2] := by cases args; simp_all
  obtain ⟨rfl, rfl⟩ := trodVars_none hV
  obtain ⟨a0, len0, cap0, rfl⟩ := okWide_slice Try.underlying22 (hval 0 22 v0 rfl rfl)
  have k0 := h0
  have lt0 : ∀ x ∈ p0, x.block < W.heap.size := by obtain ⟨m, hm⟩ := k0; exact DataW.trod_lt m _ _ _ hm
  obtain ⟨z0, e0, m0, s0⟩ : ∃ l : List Int, l.length = len0 ∧ OkSl a0 len0 cap0 ∧ (rowAt W (.slice a0 len0 cap0) 1 iC l ∧ ∀ y ∈ l, wfI y) := by
    obtain ⟨fuel, hf⟩ := h0
    exact open_intr hf
  obtain ⟨a1, len1, cap1, rfl⟩ := okWide_slice Try.underlying22 (hval 1 22 v1 rfl rfl)
  have k1 := h1
  have lt1 : ∀ x ∈ p1, x.block < W.heap.size := by obtain ⟨m, hm⟩ := k1; exact DataW.trod_lt m _ _ _ hm
  obtain ⟨z1, e1, m1, s1⟩ : ∃ l : List Int, l.length = len1 ∧ OkSl a1 len1 cap1 ∧ (rowAt W (.slice a1 len1 cap1) 1 iC l ∧ ∀ y ∈ l, wfI y) := by
    obtain ⟨fuel, hf⟩ := h1
    exact open_intr hf
  obtain ⟨a2, len2, cap2, rfl⟩ := okWide_slice Try.underlying22 (hval 2 22 v2 rfl rfl)
  have k2 := h2
  have lt2 : ∀ x ∈ p2, x.block < W.heap.size := by obtain ⟨m, hm⟩ := k2; exact DataW.trod_lt m _ _ _ hm
  obtain ⟨z2, e2, m2, s2⟩ : ∃ l : List Int, l.length = len2 ∧ OkSl a2 len2 cap2 ∧ (rowAt W (.slice a2 len2 cap2) 1 iC l ∧ ∀ y ∈ l, wfI y) := by
    obtain ⟨fuel, hf⟩ := h2
    exact open_intr hf
  clear hA0 hval0
  refine (walk W a0 len0 cap0 z0 e0 m0 s0 a1 len1 cap1 z1 e1 m1 s1 a2 len2 cap2 z2 e2 m2 s2 ).mono fun e W' ⟨he, bel⟩ => ?_
  subst he
  exact ⟨_, rfl, _, _, _, [], _, [], hW', trodAll_mk1 (shut_bool Try.underlying4 _), (trodAll_cons_mk (Below.trod flaidOut (by kernel_rfl) (of_decide_eq_true (by kernel_rfl)) k0 bel lt0) (trodAll_cons_mk (Below.trod flaidOut (by kernel_rfl) (of_decide_eq_true (by kernel_rfl)) k1 bel lt1) (trodAll_cons_mk (Below.trod flaidOut (by kernel_rfl) (of_decide_eq_true (by kernel_rfl)) k2 bel lt2) trodAll_mk0))), rfl, bel.frame _, fun h => by cases h⟩

theorem over : Rows.flatChainsRow.holds Try.pinned (OpenSpec.ofChange Rows.flatChainsSpec) :=
  OpenClaim.holds_of_wide 3 Try.f3 rfl rfl rfl rfl rfl rfl rfl ⟨rfl, rfl, rfl, rfl, rfl⟩ rfl rfl rfl rfl rfl (by kernel_rfl) Try.func3 (by kernel_rfl)
    (of_decide_eq_true (by kernel_rfl)) (by unfold Func.isWrapper; first | (rw [if_pos (by decide +kernel)]; kernel_rfl) | (rw [if_neg (by decide +kernel)]; exact ⟨rfl, rfl⟩))
    (fun os started H enc _ => lifted os started H enc)

end Go.Proofs.Ytelmjkjbbbgmpab.flatChains
namespace Go.Proofs.Ytelmjkjbbbgmpab
theorem flatChains_holds : Rows.FlatChainsSaid := flatChains.over
#print axioms flatChains_holds
end Go.Proofs.Ytelmjkjbbbgmpab
