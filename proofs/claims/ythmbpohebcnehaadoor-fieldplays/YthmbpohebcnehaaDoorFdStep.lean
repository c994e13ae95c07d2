/-
  Package field: Step, by a contract.
-/
import Derived.Test.YthmbpohebcnehaaDoorFdActs
namespace Go.Proofs.YthmbpohebcnehaaDoor
open Go.RowKit

def stepF6 (pts : List Pt) (d : List Int) : List Pt := if mayDrB pts.length d = true then stepAll pts d else pts

set_option maxRecDepth 1000000 in
set_option maxHeartbeats 16000000 in
theorem fdStep_any (B fb bo bp : Nat) (occ : List Bool) (pts : List Pt) (v : Value) (d : List Int) (w : World) (h : FdAt w B fb bo bp occ pts) (hd : ∀ W, Chg (fdFoot bo bp) w W → rowAt W v 1 iC d) (hl : d.length ≤ 4294967296) :
    Calls Tryd.prog 13 #[.pointer (some ⟨fb, 0, none⟩), v] w fun e w' => e = .returned (.tuple #[]) ∧ FdAt w' B fb bo bp occ (stepF6 pts d) ∧ Chg (fdFoot bo bp) w w' := by
  have C := mayDrive_any B fb bo bp occ pts v d w h (hd w (Chg.refl _ _)) hl
  have HF : Hid (FdAt w B fb bo bp occ pts) := h
  obtain ⟨o, c, e0, _⟩ := hd w (Chg.refl _ _)
  subst e0
  have HD : Hid (∀ W, Chg (fdFoot bo bp) w W → ∀ j x, d[j]? = some x → ∃ g off, o = some ⟨g, off, none⟩ ∧ W.cell? ⟨g, off + j, none⟩ = some (.int .i64 x)) := fun W hW => row_int (hd W hW)
  clear h hd
  by_cases hm : mayDrB pts.length d = true
  · have hS : stepF6 pts d = stepAll pts d := if_pos hm
    rw [hS]
    rw [hm] at C
    have hmd : d.length = pts.length := by
      unfold mayDrB at hm
      rw [Bool.and_eq_true] at hm
      exact of_decide_eq_true hm.1
    have HL : Hid (d.length = pts.length) := hmd
    have hfew : pts.length ≤ 1000 := HF.out.few.2
    have HFW : Hid (pts.length ≤ 1000) := hfew
    clear hS hm
    generalize hn : d.length = n at *
    have HN : Hid (d.length = n) := hn
    clear hn hl hfew hmd
    go_enter Tryd.func13, Tryd.ntmps13
    go_wp2_with fail
    refine C.mono ?_
    rintro e w1 ⟨rfl, hb1⟩
    have HB1 : Hid (Below w.heap.size w w1) := hb1
    clear C hb1
    go_wp2
    go_loopg [4, 5, 16] n (fun gk a1 a2 a3 wr => ∃ (k : Nat) (cur : List Pt), gk = n - k ∧ a3 = .int .i64 k ∧ k ≤ n ∧ cur.length = pts.length ∧ (∀ j, j < k → cur[j]? = (stepAll pts d)[j]?) ∧ (∀ j, k ≤ j → cur[j]? = pts[j]?) ∧ FdAt wr B fb bo bp occ cur ∧ Chg (fdFoot bo bp) w wr)
    case atStart => exact ⟨0, pts, rfl, rfl, by omega, rfl, by omega, fun _ _ => rfl, HF.out.below HB1.out, Chg.of_below HB1.out⟩
    case round =>
      obtain ⟨k, cur, rfl, rfl, hk, hcl, hc1, hc2, hf, hcg⟩ := hrel
      have HCL : Hid (cur.length = pts.length) := hcl
      have HC1 : Hid (∀ j, j < k → cur[j]? = (stepAll pts d)[j]?) := hc1
      have HC2 : Hid (∀ j, k ≤ j → cur[j]? = pts[j]?) := hc2
      have HFR : Hid (FdAt wr B fb bo bp occ cur) := hf
      have HCG : Hid (Chg (fdFoot bo bp) w wr) := hcg
      clear hcl hc1 hc2 hf hcg
      by_cases hlt : k < n
      · obtain ⟨x, hx⟩ : ∃ x, d[k]? = some x := at_of (by rw [HN.out]; exact hlt)
        obtain ⟨g, off, rfl, a0⟩ := HD.out wr HCG.out k x hx
        obtain ⟨⟨p1, p2, p3⟩, hp⟩ : ∃ p, cur[k]? = some p := at_of (by rw [HCL.out, ← HL.out]; exact hlt)
        have HP : Hid (cur[k]? = some (p1, p2, p3)) := hp
        have HST : Hid ((stepAll pts d)[k]? = some (drivenF (p1, p2, p3) x)) := by
          show _ = _
          have h1 := HC2.out k (Nat.le_refl _)
          rw [hp] at h1
          rw [stepAll, List.getElem?_zipWith, ← h1, hx]
        have D := fun W => driven_any p1 p2 p3 x W (HFR.out.ok _ (List.mem_of_getElem? hp))
        have HD2 : Hid (∀ W, Calls Tryd.prog 23 #[.agg #[.int .i64 p1, .int .i64 p2, .int .i64 p3], .int .i64 x] W fun e w' => e = .returned (ptV (drivenF (p1, p2, p3) x)) ∧ Below W.heap.size W w') := D
        have HOK : Hid (ptOk (drivenF (p1, p2, p3) x)) := ptOk_driven (HFR.out.ok _ (List.mem_of_getElem? hp)) x
        have hki : (k : Int) < (n : Int) := by omega
        have hkl : (k : Int) < (cur.length : Int) := by rw [HCL.out, ← HL.out]; omega
        have hfew2 : cur.length ≤ 1000 := by rw [HCL.out]; exact HFW.out
        obtain ⟨x0, x1⟩ := HFR.out.cells
        obtain ⟨⟨c0, c1, c2⟩, -⟩ := HFR.out.ptAt hp
        simp only at c0 c1 c2
        clear D hx hp
        generalize drivenF (p1, p2, p3) x = q at *
        generalize hnl : cur.length = nl at x1 hkl hfew2 ⊢
        clear hnl
        go_wp2_with fail
        have y1 := ext_cell x1
        have y2 := ext_cell c0
        have y3 := ext_cell c1
        have y4 := ext_cell c2
        haveI := ext_some wr
        have HB2 : Hid (Below wr.heap.size wr wr.drew) := (Below.refl _ _).drew
        clear x0 x1 c0 c1 c2 a0
        refine wp_region_last (C := fun W => ∃ y : Ext wr, W = y.z) [0, 1, 2, 3, 4, 5, 6, 7, 8, 9, 10, 11, 12, 13] [14, 15] (by kernel_rfl) (by kernel_rfl) (by kernel_rfl) (by kernel_rfl) (by simp only [List.filterMap_cons, List.getElem?_toArray, List.getElem?_cons_zero, List.getElem?_cons_succ, List.filterMap_nil]; rfl) (by simp only [List.filterMap_cons, List.getElem?_toArray, List.getElem?_cons_zero, List.getElem?_cons_succ, List.filterMap_nil]; rfl) ⟨⟨_, (Below.refl _ _).drew⟩, rfl⟩ ?_
        (repeat (first | (with_reducible refine mix_read (by kernel_rfl) ?_; go_big_quiet_want; go_big_quiet_op; go_big_quiet_on; with_reducible refine wpQuiet_nil ?_) | (with_reducible refine mix_pass (by kernel_rfl) ?_; go_big_quiet_skip; with_reducible refine wpQuiet_nil ?_)))
        with_reducible refine mix_call (by kernel_rfl) (by kernel_rfl) ((HD2.out _).mono ?_) (by kernel_rfl)
        rintro e w2 ⟨rfl, hb2⟩
        have HB3 : Hid (Below wr.heap.size wr w2) := HB2.out.trans (hb2.mono HB2.out.size)
        clear hb2
        refine ⟨_, rfl, ⟨⟨_, HB3.out⟩, rfl⟩, ?_⟩
        simp only [Act.put, List.setIfInBounds_toArray, List.set_cons_zero, List.set_cons_succ]
        with_reducible refine mix_end ?_
        have HFD : Hid (FdAt w2 B fb bo bp occ cur) := HFR.out.below HB3.out
        obtain ⟨q1, q2, q3⟩ := q
        have HPP : Hid (FdAt (((w2.setCell ⟨bp, k * 3, none⟩ (.int .i64 q1)).setCell ⟨bp, k * 3 + 1, none⟩ (.int .i64 q2)).setCell ⟨bp, k * 3 + 2, none⟩ (.int .i64 q3)) B fb bo bp occ (cur.set k (q1, q2, q3)) ∧ Chg (fdFoot bo bp) w (((w2.setCell ⟨bp, k * 3, none⟩ (.int .i64 q1)).setCell ⟨bp, k * 3 + 1, none⟩ (.int .i64 q2)).setCell ⟨bp, k * 3 + 2, none⟩ (.int .i64 q3))) := ⟨(HFD.out.put2 k (q1, q2, q3) HOK.out).1, (HCG.out.trans (Chg.of_below HB3.out)).trans (HFD.out.put2 k (q1, q2, q3) HOK.out).2⟩
        obtain ⟨⟨c0, c1, c2⟩, fz⟩ := HFD.out.ptAt HP.out
        have f0 := fz (k * 3)
        have f1 := fz (k * 3 + 1)
        have f2 := fz (k * 3 + 2)
        have hkc : k < cur.length := (List.getElem?_eq_some_iff.1 HP.out).1
        have HKC : Hid (k < cur.length) := hkc
        clear y1 y2 y3 y4 HFD HB2 HB3 fz hkc
        simp only [ptV]
        go_wp2
        go_roundg (n - (k + 1))
        case rel => exact ⟨k + 1, cur.set k (q1, q2, q3), rfl, by go_num, by omega, by rw [List.length_set]; exact HCL.out, fun j hj => (by
          by_cases hjk : j = k
          · subst hjk
            rw [HST.out, List.getElem?_set_self HKC.out]
          · rw [List.getElem?_set_ne (Ne.symm hjk)]
            exact HC1.out j (by omega)), fun j hj => (by
          rw [List.getElem?_set_ne (by omega)]
          exact HC2.out j (by omega)), HPP.out.1, HPP.out.2⟩
        case measure => omega
      · have hcs : cur = stepAll pts d := by
          apply List.ext_getElem?
          intro j
          by_cases hj : j < k
          · exact HC1.out j hj
          · rw [List.getElem?_eq_none (by rw [HCL.out, ← HL.out]; omega), List.getElem?_eq_none (by rw [stepAll_len (by rw [HN.out]; exact HL.out), ← HL.out]; omega)]
        subst hcs
        go_wp2
        go_end0
        exact ⟨rfl, HFR.out, HCG.out⟩
  · have hS : stepF6 pts d = pts := if_neg hm
    rw [hS]
    have hmf : mayDrB pts.length d = false := by simpa using hm
    rw [hmf] at C
    clear hS hm hmf
    go_enter Tryd.func13, Tryd.ntmps13
    go_wp2_with fail
    refine C.mono ?_
    rintro e w1 ⟨rfl, hb1⟩
    go_wp2
    refine bodyPost_ret (results_none rfl _ _ _) rfl ?_
    exact ⟨rfl, HF.out.below hb1, Chg.of_below hb1⟩
end Go.Proofs.YthmbpohebcnehaaDoor
