/-
  Of any row of numbers and any bool: LeaseEpochs returns true. No condition.
-/
import Derived.Test.YtfllogbpbldibaaRows
import Derived.Test.YtfllogbpbldibaaLsAt
import Derived.Test.YtfllogbpbldibaaLsArgs
import Derived.Test.YtfllogbpbldibaaLyMix
import Derived.Test.YtfllogbpbldibaaFlExt
import Derived.ShutString
namespace Go.Proofs.Ytfllogbpbldibaa.leaseEpochs
open Go.ChangeShapes Go.WideShapes Go.ChangeAt Go.RowKit

set_option maxRecDepth 1000000 in
set_option maxHeartbeats 8000000 in
theorem walk (w : World) (oa : Option Addr) (n ca : Nat) (a : List Int) (ea : a.length = n) (_ : OkSl oa n ca) (sa : rowAt w (.slice oa n ca) 1 iC a ∧ ∀ y ∈ a, wfI y) (drop : Bool) :
    Calls Try.prog 7 #[.slice oa n ca, .bool drop] w fun e w' => e = .returned (.bool true) ∧ Below w.heap.size w w' := by
  have HA : Hid (rowAt w (.slice oa n ca) 1 iC a ∧ a.length = n) := ⟨sa.1, ea⟩
  clear sa ea
  by_cases h1 : (n : Int) < 1
  · go_enter Try.func7, Try.ntmps7
    go_wp2
    go_ret
    exact ⟨rfl, Below.refl _ _⟩
  by_cases h2 : 50 < (n : Int)
  · go_enter Try.func7, Try.ntmps7
    go_wp2
    go_ret
    exact ⟨rfl, Below.refl _ _⟩
  go_enter Try.func7, Try.ntmps7
  go_wp2_with fail
  refine (new_l w _ (Below.refl _ _)).mono ?_
  rintro e w1 ⟨b, rfl, h, -, -⟩
  have H1 : Hid (LsL w w1 b newX) := h
  clear h
  go_wp2
  go_loopg [6] n (fun gk i wr => ∃ (k : Nat) (s : Le), gk = n - k ∧ i = .int .i64 k ∧ k ≤ n ∧ (0 < k → ∃ y, a[k - 1]? = some y ∧ s = grantX y ((k : Int) - 1)) ∧ LsL w wr b s)
  case atStart => exact ⟨0, _, rfl, rfl, by omega, fun h => by omega, H1.out⟩
  case round =>
    obtain ⟨k, s, rfl, rfl, hk, hy, hs⟩ := hrel
    have HY : Hid (0 < k → ∃ y, a[k - 1]? = some y ∧ s = grantX y ((k : Int) - 1)) := hy
    have H10 : Hid (LsL w wr b s) := hs
    clear hs hy H1
    by_cases hlt : k < n
    · have hki : (k : Int) < (n : Int) := by omega
      obtain ⟨x, hx⟩ : ∃ x, a[k]? = some x := at_of (by rw [HA.out.2]; omega)
      have HX : Hid (a[k]? = some x) := hx
      obtain ⟨g, off, e0, a0⟩ := row_int HA.out.1 k x hx
      have HAC : Hid (oa = some ⟨g, off, none⟩ ∧ w.cell? ⟨g, off + k, none⟩ = some (.int .i64 x)) := ⟨e0, a0⟩
      subst e0
      have G := fun W (hb : Below wr.heap.size wr W) => grant_l w W b _ x k (H10.out.below hb) (by omega)
      have HG : Hid (∀ W, Below wr.heap.size wr W → Calls Try.prog 9 #[.pointer (some ⟨b, 0, none⟩), .int .i64 x, .int .i64 k] W fun e w' => e = .returned (.tuple #[]) ∧ LsL w w' b (grantX x k) ∧ Chg (is_ b) W w') := G
      clear G hx
      have a1 := (H10.out.bl.cell (World.block_lt_of_cell? w _ a0)).trans a0
      clear a0 HAC
      go_wp2_with fail
      refine (HG.out _ (Below.refl _ _)).mono ?_
      rintro e w11 ⟨rfl, h, -⟩
      have H11 : Hid (LsL w w11 b (grantX x k)) := h
      clear h HG H10 a1
      obtain ⟨g', off', e0, a0⟩ := row_int (HA.out.1.below H11.out.bl) k x HX.out
      injection e0 with e0
      injection e0 with e1 e2
      subst e1 e2
      have hq : (x != x) = false := by simp
      have E := epoch_l H11.out x rfl
      have L := live_l H11.out k true (live_yes (by omega))
      go_wp2_with fail
      go_quiet (first | (go_at_call 13; refine Calls.quiet_of_same (epoch_l (H11.out.below (below_drewN (Below.refl _ _) _)) x rfl)) | (go_at_call 14; refine Calls.quiet_of_same (live_l (H11.out.below (below_drewN (Below.refl _ _) _)) _ true (live_yes (by omega)))))
      clear E L a0
      go_wp2
      go_roundg (n - (k + 1))
      case rel => exact ⟨k + 1, _, rfl, by go_num, by omega, fun _ => ⟨x, HX.out, by rw [show (((k + 1 : Nat) : Int)) - 1 = (k : Int) by omega]⟩, H11.out.below (below_drewN (Below.refl _ _) _)⟩
      case measure => omega
    · obtain rfl : k = n := by omega
      have hki : ¬ (k : Int) < (k : Int) := by omega
      obtain ⟨m, rfl⟩ : ∃ m, k = m + 1 := ⟨k - 1, by omega⟩
      obtain ⟨y, hy1, rfl⟩ := HY.out (by omega)
      rw [show (((m + 1 : Nat) : Int)) - 1 = (m : Int) by omega] at H10
      rw [show m + 1 - 1 = m from rfl] at hy1
      clear HY
      cases drop
      · obtain ⟨g, off, rfl, hcell⟩ := row_int (HA.out.1.below H10.out.bl) m y hy1
        have HL : Hid (LsL w wr.drew b (grantX y m)) := H10.out.below (Below.refl _ _).drew
        have a0 : ∀ z : Ext wr, z.z.cell? ⟨g, off + m, none⟩ = some (.int .i64 y) := ext_cell hcell
        have HD : Hid (Below wr.heap.size wr wr.drew) := (Below.refl _ _).drew
        have hme : (m : Int) + 1 - 1 = (m : Int) := by omega
        clear H10 hcell
        haveI := ext_some wr
        go_wp2_with fail
        refine wp_region_mix_seq (C := fun W => ∃ y : Ext wr, W = y.z) [0, 2, 3, 4, 5, 6, 7, 1, 8, 9, 10, 11, 12, 13, 15, 16, 14, 17, 18, 19, 20, 21, 22, 23, 24, 25, 26, 27] (by kernel_rfl) (by kernel_rfl) (by kernel_rfl) (by kernel_rfl) (by simp only [List.filterMap_cons, List.getElem?_toArray, List.getElem?_cons_zero, List.getElem?_cons_succ, List.filterMap_nil]; rfl) ⟨⟨_, HD.out⟩, rfl⟩ ?_
        generalize wr.drew = wd at *
        (repeat (first | (with_reducible refine mix_read (by kernel_rfl) ?_; go_big_quiet_want; go_big_quiet_op; go_big_quiet_on; with_reducible refine wpQuiet_nil ?_) | (with_reducible refine mix_pass (by kernel_rfl) ?_; go_big_quiet_skip; with_reducible refine wpQuiet_nil ?_)))
        with_reducible refine mix_call (by kernel_rfl) (by kernel_rfl) ((epoch_l HL.out y rfl).mono ?_) (by kernel_rfl)
        rintro e w21 ⟨rfl, hw⟩
        rw [hw]
        clear hw w21
        refine ⟨_, rfl, ⟨⟨_, HD.out⟩, rfl⟩, ?_⟩
        simp only [Act.put, List.setIfInBounds_toArray, List.set_cons_zero, List.set_cons_succ]
        (repeat (first | (with_reducible refine mix_read (by kernel_rfl) ?_; go_big_quiet_want; go_big_quiet_op; go_big_quiet_on; with_reducible refine wpQuiet_nil ?_) | (with_reducible refine mix_pass (by kernel_rfl) ?_; go_big_quiet_skip; with_reducible refine wpQuiet_nil ?_)))
        with_reducible refine mix_call (by kernel_rfl) (by kernel_rfl) ((live_l HL.out (m : Int) true (live_yes (by omega))).mono ?_) (by kernel_rfl)
        rintro e w21 ⟨rfl, hw⟩
        rw [hw]
        clear hw w21
        refine ⟨_, rfl, ⟨⟨_, HD.out⟩, rfl⟩, ?_⟩
        simp only [Act.put, List.setIfInBounds_toArray, List.set_cons_zero, List.set_cons_succ]
        (repeat (first | (with_reducible refine mix_read (by kernel_rfl) ?_; go_big_quiet_want; go_big_quiet_op; go_big_quiet_on; with_reducible refine wpQuiet_nil ?_) | (with_reducible refine mix_pass (by kernel_rfl) ?_; go_big_quiet_skip; with_reducible refine wpQuiet_nil ?_)))
        with_reducible refine mix_call (by kernel_rfl) (by kernel_rfl) ((live_l HL.out 1099511627776 false (live_no (by omega))).mono ?_) (by kernel_rfl)
        rintro e w21 ⟨rfl, hw⟩
        rw [hw]
        clear hw w21
        refine ⟨_, rfl, ⟨⟨_, HD.out⟩, rfl⟩, ?_⟩
        simp only [Act.put, List.setIfInBounds_toArray, List.set_cons_zero, List.set_cons_succ]
        (repeat (first | (with_reducible refine mix_read (by kernel_rfl) ?_; go_big_quiet_want; go_big_quiet_op; go_big_quiet_on; with_reducible refine wpQuiet_nil ?_) | (with_reducible refine mix_pass (by kernel_rfl) ?_; go_big_quiet_skip; with_reducible refine wpQuiet_nil ?_)))
        have HB : Hid (Below w.heap.size w wd) := HL.out.bl
        with_reducible refine mix_call (by kernel_rfl) (by kernel_rfl) ((known_any _).mono ?_) (by kernel_rfl)
        rintro e wk ⟨rfl, hb⟩
        have HBK : Hid (Below w.heap.size w wk) := HB.out.trans (hb.mono HB.out.size)
        have HDK : Hid (Below wr.heap.size wr wk) := HD.out.trans (hb.mono HD.out.size)
        clear hb
        refine ⟨_, rfl, ⟨⟨_, HDK.out⟩, rfl⟩, ?_⟩
        simp only [Act.put, List.setIfInBounds_toArray, List.set_cons_zero, List.set_cons_succ]
        (repeat (first | (with_reducible refine mix_read (by kernel_rfl) ?_; go_big_quiet_want; go_big_quiet_op; go_big_quiet_on; with_reducible refine wpQuiet_nil ?_) | (with_reducible refine mix_pass (by kernel_rfl) ?_; go_big_quiet_skip; with_reducible refine wpQuiet_nil ?_)))
        with_reducible refine mix_end ?_
        intro _
        go_wp2
        go_ret
        exact ⟨rfl, HBK.out⟩
      · skip
        have D := drop_l w wr b _ H10.out
        go_wp2_with fail
        refine D.mono ?_
        rintro e w11 ⟨rfl, h, -⟩
        have H11 : Hid (LsL w w11 b (dropX (grantX y m))) := h
        clear D h H10
        obtain ⟨g, off, rfl, hcell⟩ := row_int (HA.out.1.below H11.out.bl) m y hy1
        have HL : Hid (LsL w w11.drew b (dropX (grantX y m))) := H11.out.below (Below.refl _ _).drew
        have a0 : ∀ z : Ext w11, z.z.cell? ⟨g, off + m, none⟩ = some (.int .i64 y) := ext_cell hcell
        have HD : Hid (Below w11.heap.size w11 w11.drew) := (Below.refl _ _).drew
        have hme : (m : Int) + 1 - 1 = (m : Int) := by omega
        clear H11 hcell
        haveI := ext_some w11
        go_wp2_with fail
        refine wp_region_mix_seq (C := fun W => ∃ y : Ext w11, W = y.z) [0, 2, 3, 4, 5, 6, 7, 1, 8, 9, 10, 11, 12, 13, 15, 16, 14, 17, 18, 19, 20, 21, 22, 23, 24, 25, 26, 27] (by kernel_rfl) (by kernel_rfl) (by kernel_rfl) (by kernel_rfl) (by simp only [List.filterMap_cons, List.getElem?_toArray, List.getElem?_cons_zero, List.getElem?_cons_succ, List.filterMap_nil]; rfl) ⟨⟨_, HD.out⟩, rfl⟩ ?_
        generalize w11.drew = wd at *
        (repeat (first | (with_reducible refine mix_read (by kernel_rfl) ?_; go_big_quiet_want; go_big_quiet_op; go_big_quiet_on; with_reducible refine wpQuiet_nil ?_) | (with_reducible refine mix_pass (by kernel_rfl) ?_; go_big_quiet_skip; with_reducible refine wpQuiet_nil ?_)))
        with_reducible refine mix_call (by kernel_rfl) (by kernel_rfl) ((epoch_l HL.out y rfl).mono ?_) (by kernel_rfl)
        rintro e w21 ⟨rfl, hw⟩
        rw [hw]
        clear hw w21
        refine ⟨_, rfl, ⟨⟨_, HD.out⟩, rfl⟩, ?_⟩
        simp only [Act.put, List.setIfInBounds_toArray, List.set_cons_zero, List.set_cons_succ]
        (repeat (first | (with_reducible refine mix_read (by kernel_rfl) ?_; go_big_quiet_want; go_big_quiet_op; go_big_quiet_on; with_reducible refine wpQuiet_nil ?_) | (with_reducible refine mix_pass (by kernel_rfl) ?_; go_big_quiet_skip; with_reducible refine wpQuiet_nil ?_)))
        with_reducible refine mix_call (by kernel_rfl) (by kernel_rfl) ((live_l HL.out (m : Int) false rfl).mono ?_) (by kernel_rfl)
        rintro e w21 ⟨rfl, hw⟩
        rw [hw]
        clear hw w21
        refine ⟨_, rfl, ⟨⟨_, HD.out⟩, rfl⟩, ?_⟩
        simp only [Act.put, List.setIfInBounds_toArray, List.set_cons_zero, List.set_cons_succ]
        (repeat (first | (with_reducible refine mix_read (by kernel_rfl) ?_; go_big_quiet_want; go_big_quiet_op; go_big_quiet_on; with_reducible refine wpQuiet_nil ?_) | (with_reducible refine mix_pass (by kernel_rfl) ?_; go_big_quiet_skip; with_reducible refine wpQuiet_nil ?_)))
        with_reducible refine mix_call (by kernel_rfl) (by kernel_rfl) ((live_l HL.out 1099511627776 false rfl).mono ?_) (by kernel_rfl)
        rintro e w21 ⟨rfl, hw⟩
        rw [hw]
        clear hw w21
        refine ⟨_, rfl, ⟨⟨_, HD.out⟩, rfl⟩, ?_⟩
        simp only [Act.put, List.setIfInBounds_toArray, List.set_cons_zero, List.set_cons_succ]
        (repeat (first | (with_reducible refine mix_read (by kernel_rfl) ?_; go_big_quiet_want; go_big_quiet_op; go_big_quiet_on; with_reducible refine wpQuiet_nil ?_) | (with_reducible refine mix_pass (by kernel_rfl) ?_; go_big_quiet_skip; with_reducible refine wpQuiet_nil ?_)))
        have HB : Hid (Below w.heap.size w wd) := HL.out.bl
        with_reducible refine mix_call (by kernel_rfl) (by kernel_rfl) ((known_any _).mono ?_) (by kernel_rfl)
        rintro e wk ⟨rfl, hb⟩
        have HBK : Hid (Below w.heap.size w wk) := HB.out.trans (hb.mono HB.out.size)
        have HDK : Hid (Below w11.heap.size w11 wk) := HD.out.trans (hb.mono HD.out.size)
        clear hb
        refine ⟨_, rfl, ⟨⟨_, HDK.out⟩, rfl⟩, ?_⟩
        simp only [Act.put, List.setIfInBounds_toArray, List.set_cons_zero, List.set_cons_succ]
        (repeat (first | (with_reducible refine mix_read (by kernel_rfl) ?_; go_big_quiet_want; go_big_quiet_op; go_big_quiet_on; with_reducible refine wpQuiet_nil ?_) | (with_reducible refine mix_pass (by kernel_rfl) ?_; go_big_quiet_skip; with_reducible refine wpQuiet_nil ?_)))
        with_reducible refine mix_end ?_
        intro _
        go_wp2
        go_ret
        exact ⟨rfl, HBK.out⟩

theorem own : ownKnob Try.prog.godebug = none := by kernel_rfl

set_option maxRecDepth 100000 in
theorem lifted (os : Os) (started : os.Started) (H : Type) (enc : TypeId × Value → H) :
    ReturnsInHanded {} Try.checked os 7 .any (Rows.leaseEpochsSpec.pre6 enc Try.prog Try.f7 Rows.leaseEpochsRow.domain false) (Rows.leaseEpochsSpec.post enc Try.prog Try.f7 false true false false) := by
  refine returnsInHanded_of_change (C := Try.checked) own started (by kernel_rfl) Try.func7
    (ChangeSpec.witness6 (enc := enc) (C := Try.checked) false ⟨#[], #[.slice none 0 0, .bool false], []⟩ 8 (by kernel_rfl) (by kernel_rfl) (by kernel_rfl) (by kernel_rfl)) ?_
  intro W base args ds gs before hval0 hW _ _
  have hval : ∀ (j : Nat) t v, Try.f7.params[j]? = some t → args[j]? = some v → Value.okWide Try.prog W .any base t v := hval0
  have hW' := hW
  obtain ⟨p, q, hA0, hV, rfl, _, _⟩ := hW
  have hA : DataW.TrodAll enc Try.prog W 0 (fun _ => true) true Try.f7.params.toList args.toList ds p := hA0
  rw [Try.params7] at hA hval
  obtain ⟨v0, vs0, d0, ds0, p0, q0, hargs, rfl, rfl, h0, r0⟩ := trodAll_cons hA
  obtain ⟨v1, vs1, d1, ds1, p1, q1, rfl, rfl, rfl, h1, r1⟩ := trodAll_cons r0
  obtain ⟨rfl, rfl, rfl⟩ := trodAll_nil r1
  obtain rfl : args = #[v0, v1] := by cases args; simp_all
  obtain ⟨rfl, rfl⟩ := trodVars_none hV
  obtain ⟨a0, len0, cap0, rfl⟩ := okWide_slice Try.underlying23 (hval 0 23 v0 rfl rfl)
  have k0 := h0
  have lt0 : ∀ x ∈ p0, x.block < W.heap.size := by obtain ⟨m, hm⟩ := k0; exact DataW.trod_lt m _ _ _ hm
  obtain ⟨z0, e0, m0, s0⟩ : ∃ l : List Int, l.length = len0 ∧ OkSl a0 len0 cap0 ∧ (rowAt W (.slice a0 len0 cap0) 1 iC l ∧ ∀ y ∈ l, wfI y) := by
    obtain ⟨fuel, hf⟩ := h0
    exact open_intr hf
  obtain ⟨a1, rfl, rfl, rfl⟩ := open_bool Try.underlying4 (hval 1 4 v1 rfl rfl) h1
  clear hA0 hval0
  refine (walk W a0 len0 cap0 z0 e0 m0 s0 a1 ).mono fun e W' ⟨he, bel⟩ => ?_
  subst he
  exact ⟨_, rfl, _, _, _, [], _, [], hW', trodAll_mk1 (shut_bool Try.underlying4 _), (trodAll_cons_mk (Below.trod flaidOut (by kernel_rfl) (of_decide_eq_true (by kernel_rfl)) k0 bel lt0) (trodAll_cons_mk (shut_bool Try.underlying4 _) trodAll_mk0)), rfl, bel.frame _, fun h => by cases h⟩

theorem over : Rows.leaseEpochsRow.holds Try.pinned (OpenSpec.ofChange Rows.leaseEpochsSpec) :=
  OpenClaim.holds_of_wide 7 Try.f7 rfl rfl rfl rfl rfl rfl rfl ⟨rfl, rfl, rfl, rfl, rfl⟩ rfl rfl rfl rfl rfl (by kernel_rfl) Try.func7 (by kernel_rfl)
    (of_decide_eq_true (by kernel_rfl)) (by unfold Func.isWrapper; first | (rw [if_pos (by decide +kernel)]; kernel_rfl) | (rw [if_neg (by decide +kernel)]; exact ⟨rfl, rfl⟩))
    (fun os started H enc _ => lifted os started H enc)

end Go.Proofs.Ytfllogbpbldibaa.leaseEpochs
namespace Go.Proofs.Ytfllogbpbldibaa
theorem leaseEpochs_holds : Rows.LeaseEpochsSaid := leaseEpochs.over
#print axioms leaseEpochs_holds
end Go.Proofs.Ytfllogbpbldibaa
