/-
  The reference's field: Step, by a contract.
-/
import Derived.Test.YthmbpohebcnehaaDoorRfActs
namespace Go.Proofs.YthmbpohebcnehaaDoor
open Go.RowKit

section
variable {W : World} {B xb br bt bd gl cl n k : Nat} {occ : List Bool} {cur : List Pt} {a b c : Int}
theorem rf_at (h : RfAt W B xb br bt bd (.slice (some ⟨gl, 0, none⟩) n cl) occ (liesF (cur.set k (a, b, c))) (towF (cur.set k (a, b, c))) (drvF (cur.set k (a, b, c)))) (hk : k < cur.length ∧ cur.length = n) :
    (W.cell? ⟨xb, 1, none⟩ = some (.slice (some ⟨gl, 0, none⟩) n cl) ∧ W.cell? ⟨xb, 2, none⟩ = some (.slice (some ⟨bt, 0, none⟩) n n) ∧ W.cell? ⟨xb, 3, none⟩ = some (.slice (some ⟨bd, 0, none⟩) n n)) ∧
    (W.cell? ⟨gl, k, none⟩ = some (.int .i64 a) ∧ W.frozen? ⟨gl, k, none⟩ = false) ∧ (W.cell? ⟨bt, k, none⟩ = some (.int .i64 b) ∧ W.frozen? ⟨bt, k, none⟩ = false) ∧ W.cell? ⟨bd, k, none⟩ = some (.int .i64 c) ∧ W.frozen? ⟨bd, k, none⟩ = false := by
  obtain ⟨hk, hn⟩ := hk
  have hl : (liesF (cur.set k (a, b, c))).length = n := by rw [liesF_len, List.length_set, hn]
  have hp : (cur.set k (a, b, c))[k]? = some (a, b, c) := List.getElem?_set_self hk
  obtain ⟨gl', c', e, -, -, -, -, gc, gz⟩ := h.slot (by omega)
  have eg : gl = gl' := by injection e with e1; injection e1 with e1; injection e1 with e1
  subst eg
  have hc := h.cells
  rw [hl] at hc
  exact ⟨⟨hc.2.1, hc.2.2.1, hc.2.2.2⟩, ⟨gc k a (liesF_at hp), gz k⟩, ⟨row_cell h.ht (towF_at hp), froz2 h.ht k⟩, row_cell h.hd (drvF_at hp), froz2 h.hd k⟩
theorem rf_L (h : RfAt W B xb br bt bd (.slice (some ⟨gl, 0, none⟩) n cl) occ (liesF (cur.set k (a, b, c))) (towF (cur.set k (a, b, c))) (drvF (cur.set k (a, b, c)))) (hk : k < cur.length ∧ cur.length = n) (x : Int) : RfAt (W.setCell ⟨gl, k, none⟩ (.int .i64 x)) B xb br bt bd (.slice (some ⟨gl, 0, none⟩) n cl) occ (liesF (cur.set k (x, b, c))) (towF (cur.set k (x, b, c))) (drvF (cur.set k (x, b, c))) ∧ Chg (rfFoot br bt bd (.slice (some ⟨gl, 0, none⟩) n cl)) W (W.setCell ⟨gl, k, none⟩ (.int .i64 x)) := by
  have h1 := h.putL (gl := gl) rfl (k := k) (by rw [liesF_len, List.length_set]; exact hk.1) x
  simp only [liesF_set, towF_set, drvF_set, List.set_set] at h1 ⊢
  exact h1
theorem rf_T (h : RfAt W B xb br bt bd (.slice (some ⟨gl, 0, none⟩) n cl) occ (liesF (cur.set k (a, b, c))) (towF (cur.set k (a, b, c))) (drvF (cur.set k (a, b, c)))) (_ : k < cur.length ∧ cur.length = n) (x : Int) : RfAt (W.setCell ⟨bt, k, none⟩ (.int .i64 x)) B xb br bt bd (.slice (some ⟨gl, 0, none⟩) n cl) occ (liesF (cur.set k (a, x, c))) (towF (cur.set k (a, x, c))) (drvF (cur.set k (a, x, c))) ∧ Chg (rfFoot br bt bd (.slice (some ⟨gl, 0, none⟩) n cl)) W (W.setCell ⟨bt, k, none⟩ (.int .i64 x)) := by
  have h1 := h.putT k x
  simp only [liesF_set, towF_set, drvF_set, List.set_set] at h1 ⊢
  exact h1
theorem rf_D (h : RfAt W B xb br bt bd (.slice (some ⟨gl, 0, none⟩) n cl) occ (liesF (cur.set k (a, b, c))) (towF (cur.set k (a, b, c))) (drvF (cur.set k (a, b, c)))) (_ : k < cur.length ∧ cur.length = n) (x : Int) : RfAt (W.setCell ⟨bd, k, none⟩ (.int .i64 x)) B xb br bt bd (.slice (some ⟨gl, 0, none⟩) n cl) occ (liesF (cur.set k (a, b, x))) (towF (cur.set k (a, b, x))) (drvF (cur.set k (a, b, x))) ∧ Chg (rfFoot br bt bd (.slice (some ⟨gl, 0, none⟩) n cl)) W (W.setCell ⟨bd, k, none⟩ (.int .i64 x)) := by
  have h1 := h.putD k x
  simp only [liesF_set, towF_set, drvF_set, List.set_set] at h1 ⊢
  exact h1
theorem nextS {l : List Pt} {q q' : Pt} (h : ∀ j, j < k → cur[j]? = l[j]?) (hq : l[k]? = some q) (hk : k < cur.length ∧ cur.length = n) (e : q' = q) : ∀ j, j < k + 1 → (cur.set k q')[j]? = l[j]? := fun j hj => by
  by_cases hjk : j = k
  · subst hjk
    rw [List.getElem?_set_self hk.1, hq, e]
  · rw [List.getElem?_set_ne (Ne.symm hjk)]
    exact h j (by omega)
theorem nextR {l : List Pt} {q : Pt} (h : ∀ j, k ≤ j → cur[j]? = l[j]?) : ∀ j, k + 1 ≤ j → (cur.set k q)[j]? = l[j]? := fun j hj => by
  rw [List.getElem?_set_ne (by omega)]
  exact h j (by omega)
end

set_option maxRecDepth 1000000 in
set_option maxHeartbeats 32000000 in
theorem rfStep_any (B xb br bt bd : Nat) (vl : Value) (occ : List Bool) (pts : List Pt) (v : Value) (d : List Int) (w : World) (h : RfAt w B xb br bt bd vl occ (liesF pts) (towF pts) (drvF pts)) (hd : ∀ W, Chg (rfFoot br bt bd vl) w W → rowAt W v 1 iC d) (hl : d.length = pts.length) (hok : ∀ p ∈ pts, ptOk p) :
    Calls Tryd.prog 14 #[.pointer (some ⟨xb, 0, none⟩), v] w fun e w' => e = .returned (.tuple #[]) ∧ RfAt w' B xb br bt bd vl occ (liesF (stepAll pts d)) (towF (stepAll pts d)) (drvF (stepAll pts d)) ∧ Chg (rfFoot br bt bd vl) w w' := by
  obtain ⟨ol, cl, hvl⟩ := owns_slice h.hl
  subst hvl
  obtain ⟨o, c, e0, _⟩ := hd w (Chg.refl _ _)
  subst e0
  have hlen : (liesF pts).length = pts.length := liesF_len pts
  have hfew : pts.length ≤ 1000 := by have := h.few.2; omega
  rw [hlen] at h hd ⊢
  have HD : Hid (∀ W, Chg (rfFoot br bt bd (.slice ol pts.length cl)) w W → ∀ j x, d[j]? = some x → ∃ g off, o = some ⟨g, off, none⟩ ∧ W.cell? ⟨g, off + j, none⟩ = some (.int .i64 x)) := fun W hW => row_int (hd W hW)
  have HF : Hid (RfAt w B xb br bt bd (.slice ol pts.length cl) occ (liesF pts) (towF pts) (drvF pts)) := h
  have HOK := (show Hid _ from hok)
  have HPL : Hid (pts.length = pts.length) := rfl
  have HDL : Hid (d.length = pts.length) := hl
  clear h hd hok
  generalize hn : pts.length = n at *
  have HN : Hid (pts.length = n) := hn
  rw [hl]
  clear hn hl hlen HPL
  go_enter Tryd.func14, Tryd.ntmps14
  go_wp2
  go_loopg [4, 5] n (fun gk i a1 wr => ∃ (k : Nat) (cur : List Pt), gk = n - k ∧ i = .int .i64 k ∧ k ≤ n ∧ cur.length = n ∧ (∀ j, j < k → cur[j]? = (stepAll pts d)[j]?) ∧ (∀ j, k ≤ j → cur[j]? = pts[j]?) ∧ RfAt wr B xb br bt bd (.slice ol n cl) occ (liesF cur) (towF cur) (drvF cur) ∧ Chg (rfFoot br bt bd (.slice ol n cl)) w wr)
  case atStart => exact ⟨0, pts, rfl, rfl, by omega, HN.out, by omega, fun _ _ => rfl, HF.out, Chg.refl _ _⟩
  case round =>
    obtain ⟨k, cur, rfl, rfl, hk, hcl, hc1, hc2, hf, hcg⟩ := hrel
    have HCL : Hid (cur.length = n) := hcl
    have HC1 : Hid (∀ j, j < k → cur[j]? = (stepAll pts d)[j]?) := hc1
    have HC2 : Hid (∀ j, k ≤ j → cur[j]? = pts[j]?) := hc2
    have HCG := (show Hid _ from hcg)
    have hcells := hf.cells
    rw [liesF_len, hcl] at hcells
    have HFR := (show Hid _ from hf)
    clear hcl hc1 hc2 hf hcg
    by_cases hlt : k < n
    · have hki : (k : Int) < (n : Int) := by omega
      have HKC : Hid (k < cur.length ∧ cur.length = n) := ⟨by rw [HCL.out]; exact hlt, HCL.out⟩
      obtain ⟨x, hx⟩ : ∃ x, d[k]? = some x := at_of (by rw [HDL.out]; exact hlt)
      obtain ⟨g, off, rfl, a0⟩ := HD.out wr HCG.out k x hx
      obtain ⟨⟨p1, p2, p3⟩, hp⟩ : ∃ p, cur[k]? = some p := at_of HKC.out.1
      have hpp : pts[k]? = some (p1, p2, p3) := by rw [← HC2.out k (Nat.le_refl _)]; exact hp
      have hpo : 0 ≤ p3 ∧ p3 ≤ 2 := HOK.out _ (List.mem_of_getElem? hpp)
      have HST : Hid ((stepAll pts d)[k]? = some (drivenF (p1, p2, p3) x)) := by
        show _ = _
        rw [stepAll, List.getElem?_zipWith, hpp, hx]
      obtain ⟨gl, cl', hol, -⟩ := HFR.out.slot (by rw [liesF_len, HCL.out]; omega)
      injection hol with e1 e2 e3
      subst e1
      clear e2 e3
      have HR : Hid (RfAt wr B xb br bt bd (.slice (some ⟨gl, 0, none⟩) n cl) occ (liesF (cur.set k (p1, p2, p3))) (towF (cur.set k (p1, p2, p3))) (drvF (cur.set k (p1, p2, p3)))) := by
        show RfAt _ _ _ _ _ _ _ _ _ _ _
        rw [set_same hp]
        exact HFR.out
      clear HFR hcells hx hp hpp
      by_cases h0 : x = 0
      · have HQ : Hid (drivenF (p1, p2, p3) x = (p1, 0, 0)) := by show _ = _; rw [drivenF, if_pos (.inl h0)]; rfl
        subst h0
        obtain ⟨⟨z1, z2, z3⟩, ⟨cl0, fl0⟩, ⟨ct0, ft0⟩, cd0, fd0⟩ := rf_at HR.out HKC.out
        have HBIG := HKC
        go_upto_region 5 with fail
        clear a0 z1 z2 z3 cl0 fl0 ct0 ft0 cd0 fd0
        obtain ⟨⟨z1, z2, z3⟩, ⟨cl0, fl0⟩, ⟨ct0, ft0⟩, cd0, fd0⟩ := rf_at HR.out HKC.out
        have f1 : ∀ y : Cls [(⟨xb, 1, none⟩, .slice (some ⟨gl, 0, none⟩) n cl), (⟨xb, 2, none⟩, .slice (some ⟨bt, 0, none⟩) n n), (⟨xb, 3, none⟩, .slice (some ⟨bd, 0, none⟩) n n)], y.z.cell? ⟨xb, 1, none⟩ = some (.slice (some ⟨gl, 0, none⟩) n cl) := fun y => y.h (⟨xb, 1, none⟩, .slice (some ⟨gl, 0, none⟩) n cl) (by simp)
        have f2 : ∀ y : Cls [(⟨xb, 1, none⟩, .slice (some ⟨gl, 0, none⟩) n cl), (⟨xb, 2, none⟩, .slice (some ⟨bt, 0, none⟩) n n), (⟨xb, 3, none⟩, .slice (some ⟨bd, 0, none⟩) n n)], y.z.cell? ⟨xb, 2, none⟩ = some (.slice (some ⟨bt, 0, none⟩) n n) := fun y => y.h (⟨xb, 2, none⟩, .slice (some ⟨bt, 0, none⟩) n n) (by simp)
        have f3 : ∀ y : Cls [(⟨xb, 1, none⟩, .slice (some ⟨gl, 0, none⟩) n cl), (⟨xb, 2, none⟩, .slice (some ⟨bt, 0, none⟩) n n), (⟨xb, 3, none⟩, .slice (some ⟨bd, 0, none⟩) n n)], y.z.cell? ⟨xb, 3, none⟩ = some (.slice (some ⟨bd, 0, none⟩) n n) := fun y => y.h (⟨xb, 3, none⟩, .slice (some ⟨bd, 0, none⟩) n n) (by simp)
        have mkc : ∀ W : World, W.cell? ⟨xb, 1, none⟩ = some (.slice (some ⟨gl, 0, none⟩) n cl) → W.cell? ⟨xb, 2, none⟩ = some (.slice (some ⟨bt, 0, none⟩) n n) → W.cell? ⟨xb, 3, none⟩ = some (.slice (some ⟨bd, 0, none⟩) n n) → ∃ y : Cls [(⟨xb, 1, none⟩, .slice (some ⟨gl, 0, none⟩) n cl), (⟨xb, 2, none⟩, .slice (some ⟨bt, 0, none⟩) n n), (⟨xb, 3, none⟩, .slice (some ⟨bd, 0, none⟩) n n)], W = y.z := fun W h1 h2 h3 => ⟨⟨W, fun p hp => by
          rcases List.mem_cons.1 hp with rfl | hp
          · exact h1
          rcases List.mem_cons.1 hp with rfl | hp
          · exact h2
          · rw [List.mem_singleton.1 hp]; exact h3⟩, rfl⟩
        have MKC := (show Hid _ from mkc)
        haveI : Nonempty (Cls [(⟨xb, 1, none⟩, .slice (some ⟨gl, 0, none⟩) n cl), (⟨xb, 2, none⟩, .slice (some ⟨bt, 0, none⟩) n n), (⟨xb, 3, none⟩, .slice (some ⟨bd, 0, none⟩) n n)]) := by obtain ⟨y, _⟩ := mkc wr z1 z2 z3; exact ⟨y⟩
        have HC0 := MKC.out wr.drew z1 z2 z3
        clear mkc
        have HBW : Hid (Below wr.heap.size wr wr.drew) := (Below.refl _ _).drew
        have HD0 := (show Hid (RfAt wr.drew B xb br bt bd (.slice (some ⟨gl, 0, none⟩) n cl) occ (liesF (cur.set k (p1, p2, p3))) (towF (cur.set k (p1, p2, p3))) (drvF (cur.set k (p1, p2, p3)))) from HR.out.below HBW.out)
        have HG0 := (show Hid (Chg (rfFoot br bt bd (.slice (some ⟨gl, 0, none⟩) n cl)) w wr.drew) from HCG.out.trans (Chg.of_below HBW.out))
        clear HBW
        clear z1 z2 z3 cl0 fl0 ct0 ft0 cd0 fd0
        refine wp_region_last (C := fun W => ∃ y : Cls [(⟨xb, 1, none⟩, .slice (some ⟨gl, 0, none⟩) n cl), (⟨xb, 2, none⟩, .slice (some ⟨bt, 0, none⟩) n n), (⟨xb, 3, none⟩, .slice (some ⟨bd, 0, none⟩) n n)], W = y.z) [0, 1, 2, 3, 4, 5, 6, 7, 8, 9, 10, 11] [12, 13] (by kernel_rfl) (by kernel_rfl) (by kernel_rfl) (by kernel_rfl) (by simp only [List.filterMap_cons, List.getElem?_toArray, List.getElem?_cons_zero, List.getElem?_cons_succ, List.filterMap_nil]; rfl) (by simp only [List.filterMap_cons, List.getElem?_toArray, List.getElem?_cons_zero, List.getElem?_cons_succ, List.filterMap_nil]; rfl) HC0 ?_
        clear HC0
        generalize wr.drew = wd0 at *
        (repeat (first | (with_reducible refine mix_read (by kernel_rfl) ?_; go_big_quiet_want; go_big_quiet_op; go_big_quiet_on; with_reducible refine wpQuiet_nil ?_) | (with_reducible refine mix_pass (by kernel_rfl) ?_; go_big_quiet_skip; with_reducible refine wpQuiet_nil ?_)))
        obtain ⟨⟨z1, z2, z3⟩, ⟨cl0, fl0⟩, ⟨ct0, ft0⟩, cd0, fd0⟩ := rf_at HD0.out HKC.out
        have HD1 := (show Hid (RfAt (wd0.setCell ⟨bt, k, none⟩ (.int .i64 0)) B xb br bt bd (.slice (some ⟨gl, 0, none⟩) n cl) occ (liesF (cur.set k (p1, 0, p3))) (towF (cur.set k (p1, 0, p3))) (drvF (cur.set k (p1, 0, p3)))) from (rf_T HD0.out HKC.out 0).1)
        have HG1 := (show Hid (Chg (rfFoot br bt bd (.slice (some ⟨gl, 0, none⟩) n cl)) w (wd0.setCell ⟨bt, k, none⟩ (.int .i64 0))) from HG0.out.trans (rf_T HD0.out HKC.out 0).2)
        have hcc := (rf_at HD1.out HKC.out).1
        refine mix_skips (w' := wd0.setCell ⟨bt, k, none⟩ (.int .i64 0)) (by kernel_rfl) (by kernel_rfl) (by simp [execOp, go_sem, ct0, ft0]) (MKC.out _ hcc.1 hcc.2.1 hcc.2.2) ?_
        simp only [Act.put]
        clear hcc
        clear z1 z2 z3 cl0 fl0 ct0 ft0 cd0 fd0
        generalize wd0.setCell ⟨bt, k, none⟩ (.int .i64 0) = wd1 at *
        (repeat (first | (with_reducible refine mix_read (by kernel_rfl) ?_; go_big_quiet_want; go_big_quiet_op; go_big_quiet_on; with_reducible refine wpQuiet_nil ?_) | (with_reducible refine mix_pass (by kernel_rfl) ?_; go_big_quiet_skip; with_reducible refine wpQuiet_nil ?_)))
        obtain ⟨⟨z1, z2, z3⟩, ⟨cl0, fl0⟩, ⟨ct0, ft0⟩, cd0, fd0⟩ := rf_at HD1.out HKC.out
        have HD2 := (show Hid (RfAt (wd1.setCell ⟨bd, k, none⟩ (.int .i64 0)) B xb br bt bd (.slice (some ⟨gl, 0, none⟩) n cl) occ (liesF (cur.set k (p1, 0, 0))) (towF (cur.set k (p1, 0, 0))) (drvF (cur.set k (p1, 0, 0)))) from (rf_D HD1.out HKC.out 0).1)
        have HG2 := (show Hid (Chg (rfFoot br bt bd (.slice (some ⟨gl, 0, none⟩) n cl)) w (wd1.setCell ⟨bd, k, none⟩ (.int .i64 0))) from HG1.out.trans (rf_D HD1.out HKC.out 0).2)
        clear f1 f2 f3 MKC
        with_reducible refine mix_end ?_
        go_wp2
        go_roundg (n - (k + 1))
        case rel => exact ⟨k + 1, cur.set k (p1, 0, 0), rfl, by go_num, by omega, by rw [List.length_set]; exact HCL.out, nextS HC1.out HST.out HKC.out (HQ.out.symm), nextR HC2.out, HD2.out, HG2.out⟩
        case measure => omega
      have q0 : (x == 0) = false := by simp [h0]
      by_cases h1 : x = p1
      · have HQ : Hid (drivenF (p1, p2, p3) x = (p1, 0, 0)) := by show _ = _; rw [drivenF, if_pos (.inr h1)]; rfl
        have q1 : (x == p1) = true := by simp [h1]
        obtain ⟨⟨z1, z2, z3⟩, ⟨cl0, fl0⟩, ⟨ct0, ft0⟩, cd0, fd0⟩ := rf_at HR.out HKC.out
        have HBIG := HKC
        go_upto_region 5 with fail
        clear a0 z1 z2 z3 cl0 fl0 ct0 ft0 cd0 fd0
        obtain ⟨⟨z1, z2, z3⟩, ⟨cl0, fl0⟩, ⟨ct0, ft0⟩, cd0, fd0⟩ := rf_at HR.out HKC.out
        have f1 : ∀ y : Cls [(⟨xb, 1, none⟩, .slice (some ⟨gl, 0, none⟩) n cl), (⟨xb, 2, none⟩, .slice (some ⟨bt, 0, none⟩) n n), (⟨xb, 3, none⟩, .slice (some ⟨bd, 0, none⟩) n n)], y.z.cell? ⟨xb, 1, none⟩ = some (.slice (some ⟨gl, 0, none⟩) n cl) := fun y => y.h (⟨xb, 1, none⟩, .slice (some ⟨gl, 0, none⟩) n cl) (by simp)
        have f2 : ∀ y : Cls [(⟨xb, 1, none⟩, .slice (some ⟨gl, 0, none⟩) n cl), (⟨xb, 2, none⟩, .slice (some ⟨bt, 0, none⟩) n n), (⟨xb, 3, none⟩, .slice (some ⟨bd, 0, none⟩) n n)], y.z.cell? ⟨xb, 2, none⟩ = some (.slice (some ⟨bt, 0, none⟩) n n) := fun y => y.h (⟨xb, 2, none⟩, .slice (some ⟨bt, 0, none⟩) n n) (by simp)
        have f3 : ∀ y : Cls [(⟨xb, 1, none⟩, .slice (some ⟨gl, 0, none⟩) n cl), (⟨xb, 2, none⟩, .slice (some ⟨bt, 0, none⟩) n n), (⟨xb, 3, none⟩, .slice (some ⟨bd, 0, none⟩) n n)], y.z.cell? ⟨xb, 3, none⟩ = some (.slice (some ⟨bd, 0, none⟩) n n) := fun y => y.h (⟨xb, 3, none⟩, .slice (some ⟨bd, 0, none⟩) n n) (by simp)
        have mkc : ∀ W : World, W.cell? ⟨xb, 1, none⟩ = some (.slice (some ⟨gl, 0, none⟩) n cl) → W.cell? ⟨xb, 2, none⟩ = some (.slice (some ⟨bt, 0, none⟩) n n) → W.cell? ⟨xb, 3, none⟩ = some (.slice (some ⟨bd, 0, none⟩) n n) → ∃ y : Cls [(⟨xb, 1, none⟩, .slice (some ⟨gl, 0, none⟩) n cl), (⟨xb, 2, none⟩, .slice (some ⟨bt, 0, none⟩) n n), (⟨xb, 3, none⟩, .slice (some ⟨bd, 0, none⟩) n n)], W = y.z := fun W h1 h2 h3 => ⟨⟨W, fun p hp => by
          rcases List.mem_cons.1 hp with rfl | hp
          · exact h1
          rcases List.mem_cons.1 hp with rfl | hp
          · exact h2
          · rw [List.mem_singleton.1 hp]; exact h3⟩, rfl⟩
        have MKC := (show Hid _ from mkc)
        haveI : Nonempty (Cls [(⟨xb, 1, none⟩, .slice (some ⟨gl, 0, none⟩) n cl), (⟨xb, 2, none⟩, .slice (some ⟨bt, 0, none⟩) n n), (⟨xb, 3, none⟩, .slice (some ⟨bd, 0, none⟩) n n)]) := by obtain ⟨y, _⟩ := mkc wr z1 z2 z3; exact ⟨y⟩
        have HC0 := MKC.out wr.drew z1 z2 z3
        clear mkc
        have HBW : Hid (Below wr.heap.size wr wr.drew) := (Below.refl _ _).drew
        have HD0 := (show Hid (RfAt wr.drew B xb br bt bd (.slice (some ⟨gl, 0, none⟩) n cl) occ (liesF (cur.set k (p1, p2, p3))) (towF (cur.set k (p1, p2, p3))) (drvF (cur.set k (p1, p2, p3)))) from HR.out.below HBW.out)
        have HG0 := (show Hid (Chg (rfFoot br bt bd (.slice (some ⟨gl, 0, none⟩) n cl)) w wr.drew) from HCG.out.trans (Chg.of_below HBW.out))
        clear HBW
        clear z1 z2 z3 cl0 fl0 ct0 ft0 cd0 fd0
        refine wp_region_last (C := fun W => ∃ y : Cls [(⟨xb, 1, none⟩, .slice (some ⟨gl, 0, none⟩) n cl), (⟨xb, 2, none⟩, .slice (some ⟨bt, 0, none⟩) n n), (⟨xb, 3, none⟩, .slice (some ⟨bd, 0, none⟩) n n)], W = y.z) [0, 1, 2, 3, 4, 5, 6, 7, 8, 9, 10, 11] [12, 13] (by kernel_rfl) (by kernel_rfl) (by kernel_rfl) (by kernel_rfl) (by simp only [List.filterMap_cons, List.getElem?_toArray, List.getElem?_cons_zero, List.getElem?_cons_succ, List.filterMap_nil]; rfl) (by simp only [List.filterMap_cons, List.getElem?_toArray, List.getElem?_cons_zero, List.getElem?_cons_succ, List.filterMap_nil]; rfl) HC0 ?_
        clear HC0
        generalize wr.drew = wd0 at *
        (repeat (first | (with_reducible refine mix_read (by kernel_rfl) ?_; go_big_quiet_want; go_big_quiet_op; go_big_quiet_on; with_reducible refine wpQuiet_nil ?_) | (with_reducible refine mix_pass (by kernel_rfl) ?_; go_big_quiet_skip; with_reducible refine wpQuiet_nil ?_)))
        obtain ⟨⟨z1, z2, z3⟩, ⟨cl0, fl0⟩, ⟨ct0, ft0⟩, cd0, fd0⟩ := rf_at HD0.out HKC.out
        have HD1 := (show Hid (RfAt (wd0.setCell ⟨bt, k, none⟩ (.int .i64 0)) B xb br bt bd (.slice (some ⟨gl, 0, none⟩) n cl) occ (liesF (cur.set k (p1, 0, p3))) (towF (cur.set k (p1, 0, p3))) (drvF (cur.set k (p1, 0, p3)))) from (rf_T HD0.out HKC.out 0).1)
        have HG1 := (show Hid (Chg (rfFoot br bt bd (.slice (some ⟨gl, 0, none⟩) n cl)) w (wd0.setCell ⟨bt, k, none⟩ (.int .i64 0))) from HG0.out.trans (rf_T HD0.out HKC.out 0).2)
        have hcc := (rf_at HD1.out HKC.out).1
        refine mix_skips (w' := wd0.setCell ⟨bt, k, none⟩ (.int .i64 0)) (by kernel_rfl) (by kernel_rfl) (by simp [execOp, go_sem, ct0, ft0]) (MKC.out _ hcc.1 hcc.2.1 hcc.2.2) ?_
        simp only [Act.put]
        clear hcc
        clear z1 z2 z3 cl0 fl0 ct0 ft0 cd0 fd0
        generalize wd0.setCell ⟨bt, k, none⟩ (.int .i64 0) = wd1 at *
        (repeat (first | (with_reducible refine mix_read (by kernel_rfl) ?_; go_big_quiet_want; go_big_quiet_op; go_big_quiet_on; with_reducible refine wpQuiet_nil ?_) | (with_reducible refine mix_pass (by kernel_rfl) ?_; go_big_quiet_skip; with_reducible refine wpQuiet_nil ?_)))
        obtain ⟨⟨z1, z2, z3⟩, ⟨cl0, fl0⟩, ⟨ct0, ft0⟩, cd0, fd0⟩ := rf_at HD1.out HKC.out
        have HD2 := (show Hid (RfAt (wd1.setCell ⟨bd, k, none⟩ (.int .i64 0)) B xb br bt bd (.slice (some ⟨gl, 0, none⟩) n cl) occ (liesF (cur.set k (p1, 0, 0))) (towF (cur.set k (p1, 0, 0))) (drvF (cur.set k (p1, 0, 0)))) from (rf_D HD1.out HKC.out 0).1)
        have HG2 := (show Hid (Chg (rfFoot br bt bd (.slice (some ⟨gl, 0, none⟩) n cl)) w (wd1.setCell ⟨bd, k, none⟩ (.int .i64 0))) from HG1.out.trans (rf_D HD1.out HKC.out 0).2)
        clear f1 f2 f3 MKC
        with_reducible refine mix_end ?_
        go_wp2
        go_roundg (n - (k + 1))
        case rel => exact ⟨k + 1, cur.set k (p1, 0, 0), rfl, by go_num, by omega, by rw [List.length_set]; exact HCL.out, nextS HC1.out HST.out HKC.out (HQ.out.symm), nextR HC2.out, HD2.out, HG2.out⟩
        case measure => omega
      have q1 : (x == p1) = false := by simp [h1]
      by_cases h2 : x = p2
      · by_cases h3 : p3 + 1 = 3
        · subst h2
          obtain rfl : p3 = 2 := by omega
          have HQ : Hid (drivenF (p1, x, 2) x = (x, 0, 0)) := by
            have hs : stepsF (p1, x, 2) x = 3 := by rw [stepsF, if_pos rfl]; rfl
            show _ = _
            rw [drivenF, if_neg (by rintro (h | h); exact h0 h; exact h1 h), hs, if_pos rfl]
            rfl
          obtain ⟨⟨z1, z2, z3⟩, ⟨cl0, fl0⟩, ⟨ct0, ft0⟩, cd0, fd0⟩ := rf_at HR.out HKC.out
          go_upto_region 8 with fail
          clear a0
          clear z1 z2 z3 cl0 fl0 ct0 ft0 cd0 fd0
          obtain ⟨⟨z1, z2, z3⟩, ⟨cl0, fl0⟩, ⟨ct0, ft0⟩, cd0, fd0⟩ := rf_at HR.out HKC.out
          go_upto_region 9 with fail
          clear z1 z2 z3 cl0 fl0 ct0 ft0 cd0 fd0
          have HE1 := (show Hid (RfAt (wr.setCell ⟨bd, k, none⟩ (.int .i64 3)) B xb br bt bd (.slice (some ⟨gl, 0, none⟩) n cl) occ (liesF (cur.set k (p1, x, 3))) (towF (cur.set k (p1, x, 3))) (drvF (cur.set k (p1, x, 3)))) from (rf_D HR.out HKC.out 3).1)
          have HGE1 := (show Hid (Chg (rfFoot br bt bd (.slice (some ⟨gl, 0, none⟩) n cl)) w (wr.setCell ⟨bd, k, none⟩ (.int .i64 3))) from HCG.out.trans (rf_D HR.out HKC.out 3).2)
          generalize wr.setCell ⟨bd, k, none⟩ (.int .i64 3) = we1 at *
          obtain ⟨⟨z1, z2, z3⟩, ⟨cl0, fl0⟩, ⟨ct0, ft0⟩, cd0, fd0⟩ := rf_at HE1.out HKC.out
          go_upto_region 10 with fail
          clear z1 z2 z3 cl0 fl0 ct0 ft0 cd0 fd0
          have HE2 := (show Hid (RfAt (we1.setCell ⟨gl, k, none⟩ (.int .i64 0)) B xb br bt bd (.slice (some ⟨gl, 0, none⟩) n cl) occ (liesF (cur.set k (0, x, 3))) (towF (cur.set k (0, x, 3))) (drvF (cur.set k (0, x, 3)))) from (rf_L HE1.out HKC.out 0).1)
          have HGE2 := (show Hid (Chg (rfFoot br bt bd (.slice (some ⟨gl, 0, none⟩) n cl)) w (we1.setCell ⟨gl, k, none⟩ (.int .i64 0))) from HGE1.out.trans (rf_L HE1.out HKC.out 0).2)
          generalize we1.setCell ⟨gl, k, none⟩ (.int .i64 0) = we2 at *
          obtain ⟨⟨z1, z2, z3⟩, ⟨cl0, fl0⟩, ⟨ct0, ft0⟩, cd0, fd0⟩ := rf_at HE2.out HKC.out
          go_upto_region 11 with fail
          clear z1 z2 z3 cl0 fl0 ct0 ft0 cd0 fd0
          obtain ⟨⟨z1, z2, z3⟩, ⟨cl0, fl0⟩, ⟨ct0, ft0⟩, cd0, fd0⟩ := rf_at HE2.out HKC.out
          have f1 : ∀ y : Cls [(⟨xb, 1, none⟩, .slice (some ⟨gl, 0, none⟩) n cl), (⟨xb, 2, none⟩, .slice (some ⟨bt, 0, none⟩) n n), (⟨xb, 3, none⟩, .slice (some ⟨bd, 0, none⟩) n n)], y.z.cell? ⟨xb, 1, none⟩ = some (.slice (some ⟨gl, 0, none⟩) n cl) := fun y => y.h (⟨xb, 1, none⟩, .slice (some ⟨gl, 0, none⟩) n cl) (by simp)
          have f2 : ∀ y : Cls [(⟨xb, 1, none⟩, .slice (some ⟨gl, 0, none⟩) n cl), (⟨xb, 2, none⟩, .slice (some ⟨bt, 0, none⟩) n n), (⟨xb, 3, none⟩, .slice (some ⟨bd, 0, none⟩) n n)], y.z.cell? ⟨xb, 2, none⟩ = some (.slice (some ⟨bt, 0, none⟩) n n) := fun y => y.h (⟨xb, 2, none⟩, .slice (some ⟨bt, 0, none⟩) n n) (by simp)
          have f3 : ∀ y : Cls [(⟨xb, 1, none⟩, .slice (some ⟨gl, 0, none⟩) n cl), (⟨xb, 2, none⟩, .slice (some ⟨bt, 0, none⟩) n n), (⟨xb, 3, none⟩, .slice (some ⟨bd, 0, none⟩) n n)], y.z.cell? ⟨xb, 3, none⟩ = some (.slice (some ⟨bd, 0, none⟩) n n) := fun y => y.h (⟨xb, 3, none⟩, .slice (some ⟨bd, 0, none⟩) n n) (by simp)
          have mkc : ∀ W : World, W.cell? ⟨xb, 1, none⟩ = some (.slice (some ⟨gl, 0, none⟩) n cl) → W.cell? ⟨xb, 2, none⟩ = some (.slice (some ⟨bt, 0, none⟩) n n) → W.cell? ⟨xb, 3, none⟩ = some (.slice (some ⟨bd, 0, none⟩) n n) → ∃ y : Cls [(⟨xb, 1, none⟩, .slice (some ⟨gl, 0, none⟩) n cl), (⟨xb, 2, none⟩, .slice (some ⟨bt, 0, none⟩) n n), (⟨xb, 3, none⟩, .slice (some ⟨bd, 0, none⟩) n n)], W = y.z := fun W h1 h2 h3 => ⟨⟨W, fun p hp => by
            rcases List.mem_cons.1 hp with rfl | hp
            · exact h1
            rcases List.mem_cons.1 hp with rfl | hp
            · exact h2
            · rw [List.mem_singleton.1 hp]; exact h3⟩, rfl⟩
          have MKC := (show Hid _ from mkc)
          haveI : Nonempty (Cls [(⟨xb, 1, none⟩, .slice (some ⟨gl, 0, none⟩) n cl), (⟨xb, 2, none⟩, .slice (some ⟨bt, 0, none⟩) n n), (⟨xb, 3, none⟩, .slice (some ⟨bd, 0, none⟩) n n)]) := by obtain ⟨y, _⟩ := mkc we2 z1 z2 z3; exact ⟨y⟩
          have HC0 := MKC.out we2.drew z1 z2 z3
          clear mkc
          have HBW : Hid (Below we2.heap.size we2 we2.drew) := (Below.refl _ _).drew
          have HD0 := (show Hid (RfAt we2.drew B xb br bt bd (.slice (some ⟨gl, 0, none⟩) n cl) occ (liesF (cur.set k (0, x, 3))) (towF (cur.set k (0, x, 3))) (drvF (cur.set k (0, x, 3)))) from HE2.out.below HBW.out)
          have HG0 := (show Hid (Chg (rfFoot br bt bd (.slice (some ⟨gl, 0, none⟩) n cl)) w we2.drew) from HGE2.out.trans (Chg.of_below HBW.out))
          clear HBW
          clear z1 z2 z3 cl0 fl0 ct0 ft0 cd0 fd0
          refine wp_region_last (C := fun W => ∃ y : Cls [(⟨xb, 1, none⟩, .slice (some ⟨gl, 0, none⟩) n cl), (⟨xb, 2, none⟩, .slice (some ⟨bt, 0, none⟩) n n), (⟨xb, 3, none⟩, .slice (some ⟨bd, 0, none⟩) n n)], W = y.z) [0, 1, 2, 3, 4, 5, 6, 7, 8, 9, 10, 11, 12, 13, 14, 15, 16, 17, 18, 19, 20] [21, 22] (by kernel_rfl) (by kernel_rfl) (by kernel_rfl) (by kernel_rfl) (by simp only [List.filterMap_cons, List.getElem?_toArray, List.getElem?_cons_zero, List.getElem?_cons_succ, List.filterMap_nil]; rfl) (by simp only [List.filterMap_cons, List.getElem?_toArray, List.getElem?_cons_zero, List.getElem?_cons_succ, List.filterMap_nil]; rfl) HC0 ?_
          clear HC0
          generalize we2.drew = wd0 at *
          (repeat (first | (with_reducible refine mix_read (by kernel_rfl) ?_; go_big_quiet_want; go_big_quiet_op; go_big_quiet_on; with_reducible refine wpQuiet_nil ?_) | (with_reducible refine mix_pass (by kernel_rfl) ?_; go_big_quiet_skip; with_reducible refine wpQuiet_nil ?_)))
          obtain ⟨⟨z1, z2, z3⟩, ⟨cl0, fl0⟩, ⟨ct0, ft0⟩, cd0, fd0⟩ := rf_at HD0.out HKC.out
          have HD1 := (show Hid (RfAt (wd0.setCell ⟨gl, k, none⟩ (.int .i64 x)) B xb br bt bd (.slice (some ⟨gl, 0, none⟩) n cl) occ (liesF (cur.set k (x, x, 3))) (towF (cur.set k (x, x, 3))) (drvF (cur.set k (x, x, 3)))) from (rf_L HD0.out HKC.out x).1)
          have HG1 := (show Hid (Chg (rfFoot br bt bd (.slice (some ⟨gl, 0, none⟩) n cl)) w (wd0.setCell ⟨gl, k, none⟩ (.int .i64 x))) from HG0.out.trans (rf_L HD0.out HKC.out x).2)
          have hcc := (rf_at HD1.out HKC.out).1
          refine mix_skips (w' := wd0.setCell ⟨gl, k, none⟩ (.int .i64 x)) (by kernel_rfl) (by kernel_rfl) (by simp [execOp, go_sem, cl0, fl0]) (MKC.out _ hcc.1 hcc.2.1 hcc.2.2) ?_
          simp only [Act.put]
          clear hcc
          clear z1 z2 z3 cl0 fl0 ct0 ft0 cd0 fd0
          generalize wd0.setCell ⟨gl, k, none⟩ (.int .i64 x) = wd1 at *
          (repeat (first | (with_reducible refine mix_read (by kernel_rfl) ?_; go_big_quiet_want; go_big_quiet_op; go_big_quiet_on; with_reducible refine wpQuiet_nil ?_) | (with_reducible refine mix_pass (by kernel_rfl) ?_; go_big_quiet_skip; with_reducible refine wpQuiet_nil ?_)))
          obtain ⟨⟨z1, z2, z3⟩, ⟨cl0, fl0⟩, ⟨ct0, ft0⟩, cd0, fd0⟩ := rf_at HD1.out HKC.out
          have HD2 := (show Hid (RfAt (wd1.setCell ⟨bt, k, none⟩ (.int .i64 0)) B xb br bt bd (.slice (some ⟨gl, 0, none⟩) n cl) occ (liesF (cur.set k (x, 0, 3))) (towF (cur.set k (x, 0, 3))) (drvF (cur.set k (x, 0, 3)))) from (rf_T HD1.out HKC.out 0).1)
          have HG2 := (show Hid (Chg (rfFoot br bt bd (.slice (some ⟨gl, 0, none⟩) n cl)) w (wd1.setCell ⟨bt, k, none⟩ (.int .i64 0))) from HG1.out.trans (rf_T HD1.out HKC.out 0).2)
          have hcc := (rf_at HD2.out HKC.out).1
          refine mix_skips (w' := wd1.setCell ⟨bt, k, none⟩ (.int .i64 0)) (by kernel_rfl) (by kernel_rfl) (by simp [execOp, go_sem, ct0, ft0]) (MKC.out _ hcc.1 hcc.2.1 hcc.2.2) ?_
          simp only [Act.put]
          clear hcc
          clear z1 z2 z3 cl0 fl0 ct0 ft0 cd0 fd0
          generalize wd1.setCell ⟨bt, k, none⟩ (.int .i64 0) = wd2 at *
          (repeat (first | (with_reducible refine mix_read (by kernel_rfl) ?_; go_big_quiet_want; go_big_quiet_op; go_big_quiet_on; with_reducible refine wpQuiet_nil ?_) | (with_reducible refine mix_pass (by kernel_rfl) ?_; go_big_quiet_skip; with_reducible refine wpQuiet_nil ?_)))
          obtain ⟨⟨z1, z2, z3⟩, ⟨cl0, fl0⟩, ⟨ct0, ft0⟩, cd0, fd0⟩ := rf_at HD2.out HKC.out
          have HD3 := (show Hid (RfAt (wd2.setCell ⟨bd, k, none⟩ (.int .i64 0)) B xb br bt bd (.slice (some ⟨gl, 0, none⟩) n cl) occ (liesF (cur.set k (x, 0, 0))) (towF (cur.set k (x, 0, 0))) (drvF (cur.set k (x, 0, 0)))) from (rf_D HD2.out HKC.out 0).1)
          have HG3 := (show Hid (Chg (rfFoot br bt bd (.slice (some ⟨gl, 0, none⟩) n cl)) w (wd2.setCell ⟨bd, k, none⟩ (.int .i64 0))) from HG2.out.trans (rf_D HD2.out HKC.out 0).2)
          clear f1 f2 f3 MKC
          with_reducible refine mix_end ?_
          obtain ⟨⟨z1, z2, z3⟩, ⟨cl0, fl0⟩, ⟨ct0, ft0⟩, cd0, fd0⟩ := rf_at HD2.out HKC.out
          go_wp2
          go_roundg (n - (k + 1))
          case rel => exact ⟨k + 1, cur.set k (x, 0, 0), rfl, by go_num, by omega, by rw [List.length_set]; exact HCL.out, nextS HC1.out HST.out HKC.out (HQ.out.symm), nextR HC2.out, HD3.out, HG3.out⟩
          case measure => omega
        · subst h2
          have HQ : Hid (drivenF (p1, x, p3) x = (0, x, p3 + 1)) := by
            have hs : stepsF (p1, x, p3) x = p3 + 1 := by rw [stepsF, if_pos rfl, Int.add_comm]
            show _ = _
            rw [drivenF, if_neg (by rintro (h | h); exact h0 h; exact h1 h), hs, if_neg h3]
          have q3 : (p3 + 1 == 3) = false := by simp [h3]
          obtain ⟨⟨z1, z2, z3⟩, ⟨cl0, fl0⟩, ⟨ct0, ft0⟩, cd0, fd0⟩ := rf_at HR.out HKC.out
          go_upto_region 8 with fail
          clear a0
          clear z1 z2 z3 cl0 fl0 ct0 ft0 cd0 fd0
          obtain ⟨⟨z1, z2, z3⟩, ⟨cl0, fl0⟩, ⟨ct0, ft0⟩, cd0, fd0⟩ := rf_at HR.out HKC.out
          go_upto_region 9 with fail
          clear z1 z2 z3 cl0 fl0 ct0 ft0 cd0 fd0
          have HE1 := (show Hid (RfAt (wr.setCell ⟨bd, k, none⟩ (.int .i64 (p3 + 1))) B xb br bt bd (.slice (some ⟨gl, 0, none⟩) n cl) occ (liesF (cur.set k (p1, x, (p3 + 1)))) (towF (cur.set k (p1, x, (p3 + 1)))) (drvF (cur.set k (p1, x, (p3 + 1))))) from (rf_D HR.out HKC.out (p3 + 1)).1)
          have HGE1 := (show Hid (Chg (rfFoot br bt bd (.slice (some ⟨gl, 0, none⟩) n cl)) w (wr.setCell ⟨bd, k, none⟩ (.int .i64 (p3 + 1)))) from HCG.out.trans (rf_D HR.out HKC.out (p3 + 1)).2)
          generalize wr.setCell ⟨bd, k, none⟩ (.int .i64 (p3 + 1)) = we1 at *
          obtain ⟨⟨z1, z2, z3⟩, ⟨cl0, fl0⟩, ⟨ct0, ft0⟩, cd0, fd0⟩ := rf_at HE1.out HKC.out
          go_upto_region 10 with fail
          clear z1 z2 z3 cl0 fl0 ct0 ft0 cd0 fd0
          have HE2 := (show Hid (RfAt (we1.setCell ⟨gl, k, none⟩ (.int .i64 0)) B xb br bt bd (.slice (some ⟨gl, 0, none⟩) n cl) occ (liesF (cur.set k (0, x, (p3 + 1)))) (towF (cur.set k (0, x, (p3 + 1)))) (drvF (cur.set k (0, x, (p3 + 1))))) from (rf_L HE1.out HKC.out 0).1)
          have HGE2 := (show Hid (Chg (rfFoot br bt bd (.slice (some ⟨gl, 0, none⟩) n cl)) w (we1.setCell ⟨gl, k, none⟩ (.int .i64 0))) from HGE1.out.trans (rf_L HE1.out HKC.out 0).2)
          generalize we1.setCell ⟨gl, k, none⟩ (.int .i64 0) = we2 at *
          obtain ⟨⟨z1, z2, z3⟩, ⟨cl0, fl0⟩, ⟨ct0, ft0⟩, cd0, fd0⟩ := rf_at HE2.out HKC.out
          go_wp2
          go_roundg (n - (k + 1))
          case rel => exact ⟨k + 1, cur.set k (0, x, (p3 + 1)), rfl, by go_num, by omega, by rw [List.length_set]; exact HCL.out, nextS HC1.out HST.out HKC.out (HQ.out.symm), nextR HC2.out, HE2.out, HGE2.out⟩
          case measure => omega
      · have HQ : Hid (drivenF (p1, p2, p3) x = (0, x, 1)) := by
          have hs : stepsF (p1, p2, p3) x = 1 := by rw [stepsF, if_neg h2]
          show _ = _
          rw [drivenF, if_neg (by rintro (h | h); exact h0 h; exact h1 h), hs, if_neg (by decide)]
        have q2 : (p2 == x) = false := by simp; exact fun e => h2 e.symm
        obtain ⟨⟨z1, z2, z3⟩, ⟨cl0, fl0⟩, ⟨ct0, ft0⟩, cd0, fd0⟩ := rf_at HR.out HKC.out
        go_upto_region 7 with fail
        clear a0 z1 z2 z3 cl0 fl0 ct0 ft0 cd0 fd0
        obtain ⟨⟨z1, z2, z3⟩, ⟨cl0, fl0⟩, ⟨ct0, ft0⟩, cd0, fd0⟩ := rf_at HR.out HKC.out
        have f1 : ∀ y : Cls [(⟨xb, 1, none⟩, .slice (some ⟨gl, 0, none⟩) n cl), (⟨xb, 2, none⟩, .slice (some ⟨bt, 0, none⟩) n n), (⟨xb, 3, none⟩, .slice (some ⟨bd, 0, none⟩) n n)], y.z.cell? ⟨xb, 1, none⟩ = some (.slice (some ⟨gl, 0, none⟩) n cl) := fun y => y.h (⟨xb, 1, none⟩, .slice (some ⟨gl, 0, none⟩) n cl) (by simp)
        have f2 : ∀ y : Cls [(⟨xb, 1, none⟩, .slice (some ⟨gl, 0, none⟩) n cl), (⟨xb, 2, none⟩, .slice (some ⟨bt, 0, none⟩) n n), (⟨xb, 3, none⟩, .slice (some ⟨bd, 0, none⟩) n n)], y.z.cell? ⟨xb, 2, none⟩ = some (.slice (some ⟨bt, 0, none⟩) n n) := fun y => y.h (⟨xb, 2, none⟩, .slice (some ⟨bt, 0, none⟩) n n) (by simp)
        have f3 : ∀ y : Cls [(⟨xb, 1, none⟩, .slice (some ⟨gl, 0, none⟩) n cl), (⟨xb, 2, none⟩, .slice (some ⟨bt, 0, none⟩) n n), (⟨xb, 3, none⟩, .slice (some ⟨bd, 0, none⟩) n n)], y.z.cell? ⟨xb, 3, none⟩ = some (.slice (some ⟨bd, 0, none⟩) n n) := fun y => y.h (⟨xb, 3, none⟩, .slice (some ⟨bd, 0, none⟩) n n) (by simp)
        have mkc : ∀ W : World, W.cell? ⟨xb, 1, none⟩ = some (.slice (some ⟨gl, 0, none⟩) n cl) → W.cell? ⟨xb, 2, none⟩ = some (.slice (some ⟨bt, 0, none⟩) n n) → W.cell? ⟨xb, 3, none⟩ = some (.slice (some ⟨bd, 0, none⟩) n n) → ∃ y : Cls [(⟨xb, 1, none⟩, .slice (some ⟨gl, 0, none⟩) n cl), (⟨xb, 2, none⟩, .slice (some ⟨bt, 0, none⟩) n n), (⟨xb, 3, none⟩, .slice (some ⟨bd, 0, none⟩) n n)], W = y.z := fun W h1 h2 h3 => ⟨⟨W, fun p hp => by
          rcases List.mem_cons.1 hp with rfl | hp
          · exact h1
          rcases List.mem_cons.1 hp with rfl | hp
          · exact h2
          · rw [List.mem_singleton.1 hp]; exact h3⟩, rfl⟩
        have MKC := (show Hid _ from mkc)
        haveI : Nonempty (Cls [(⟨xb, 1, none⟩, .slice (some ⟨gl, 0, none⟩) n cl), (⟨xb, 2, none⟩, .slice (some ⟨bt, 0, none⟩) n n), (⟨xb, 3, none⟩, .slice (some ⟨bd, 0, none⟩) n n)]) := by obtain ⟨y, _⟩ := mkc wr z1 z2 z3; exact ⟨y⟩
        have HC0 := MKC.out wr.drew z1 z2 z3
        clear mkc
        have HBW : Hid (Below wr.heap.size wr wr.drew) := (Below.refl _ _).drew
        have HD0 := (show Hid (RfAt wr.drew B xb br bt bd (.slice (some ⟨gl, 0, none⟩) n cl) occ (liesF (cur.set k (p1, p2, p3))) (towF (cur.set k (p1, p2, p3))) (drvF (cur.set k (p1, p2, p3)))) from HR.out.below HBW.out)
        have HG0 := (show Hid (Chg (rfFoot br bt bd (.slice (some ⟨gl, 0, none⟩) n cl)) w wr.drew) from HCG.out.trans (Chg.of_below HBW.out))
        clear HBW
        clear z1 z2 z3 cl0 fl0 ct0 ft0 cd0 fd0
        refine wp_region_last (C := fun W => ∃ y : Cls [(⟨xb, 1, none⟩, .slice (some ⟨gl, 0, none⟩) n cl), (⟨xb, 2, none⟩, .slice (some ⟨bt, 0, none⟩) n n), (⟨xb, 3, none⟩, .slice (some ⟨bd, 0, none⟩) n n)], W = y.z) [0, 1, 2, 3, 4, 5, 6, 7, 8, 9, 10, 11, 12] [13, 14] (by kernel_rfl) (by kernel_rfl) (by kernel_rfl) (by kernel_rfl) (by simp only [List.filterMap_cons, List.getElem?_toArray, List.getElem?_cons_zero, List.getElem?_cons_succ, List.filterMap_nil]; rfl) (by simp only [List.filterMap_cons, List.getElem?_toArray, List.getElem?_cons_zero, List.getElem?_cons_succ, List.filterMap_nil]; rfl) HC0 ?_
        clear HC0
        generalize wr.drew = wd0 at *
        (repeat (first | (with_reducible refine mix_read (by kernel_rfl) ?_; go_big_quiet_want; go_big_quiet_op; go_big_quiet_on; with_reducible refine wpQuiet_nil ?_) | (with_reducible refine mix_pass (by kernel_rfl) ?_; go_big_quiet_skip; with_reducible refine wpQuiet_nil ?_)))
        obtain ⟨⟨z1, z2, z3⟩, ⟨cl0, fl0⟩, ⟨ct0, ft0⟩, cd0, fd0⟩ := rf_at HD0.out HKC.out
        have HD1 := (show Hid (RfAt (wd0.setCell ⟨bt, k, none⟩ (.int .i64 x)) B xb br bt bd (.slice (some ⟨gl, 0, none⟩) n cl) occ (liesF (cur.set k (p1, x, p3))) (towF (cur.set k (p1, x, p3))) (drvF (cur.set k (p1, x, p3)))) from (rf_T HD0.out HKC.out x).1)
        have HG1 := (show Hid (Chg (rfFoot br bt bd (.slice (some ⟨gl, 0, none⟩) n cl)) w (wd0.setCell ⟨bt, k, none⟩ (.int .i64 x))) from HG0.out.trans (rf_T HD0.out HKC.out x).2)
        have hcc := (rf_at HD1.out HKC.out).1
        refine mix_skips (w' := wd0.setCell ⟨bt, k, none⟩ (.int .i64 x)) (by kernel_rfl) (by kernel_rfl) (by simp [execOp, go_sem, ct0, ft0]) (MKC.out _ hcc.1 hcc.2.1 hcc.2.2) ?_
        simp only [Act.put]
        clear hcc
        clear z1 z2 z3 cl0 fl0 ct0 ft0 cd0 fd0
        generalize wd0.setCell ⟨bt, k, none⟩ (.int .i64 x) = wd1 at *
        (repeat (first | (with_reducible refine mix_read (by kernel_rfl) ?_; go_big_quiet_want; go_big_quiet_op; go_big_quiet_on; with_reducible refine wpQuiet_nil ?_) | (with_reducible refine mix_pass (by kernel_rfl) ?_; go_big_quiet_skip; with_reducible refine wpQuiet_nil ?_)))
        obtain ⟨⟨z1, z2, z3⟩, ⟨cl0, fl0⟩, ⟨ct0, ft0⟩, cd0, fd0⟩ := rf_at HD1.out HKC.out
        have HD2 := (show Hid (RfAt (wd1.setCell ⟨bd, k, none⟩ (.int .i64 0)) B xb br bt bd (.slice (some ⟨gl, 0, none⟩) n cl) occ (liesF (cur.set k (p1, x, 0))) (towF (cur.set k (p1, x, 0))) (drvF (cur.set k (p1, x, 0)))) from (rf_D HD1.out HKC.out 0).1)
        have HG2 := (show Hid (Chg (rfFoot br bt bd (.slice (some ⟨gl, 0, none⟩) n cl)) w (wd1.setCell ⟨bd, k, none⟩ (.int .i64 0))) from HG1.out.trans (rf_D HD1.out HKC.out 0).2)
        clear f1 f2 f3 MKC
        with_reducible refine mix_end ?_
        obtain ⟨⟨z1, z2, z3⟩, ⟨cl0, fl0⟩, ⟨ct0, ft0⟩, cd0, fd0⟩ := rf_at HD1.out HKC.out
        go_upto_region 8 with fail
        clear z1 z2 z3 cl0 fl0 ct0 ft0 cd0 fd0
        generalize wd1.setCell ⟨bd, k, none⟩ (.int .i64 0) = wd2 at *
        obtain ⟨⟨z1, z2, z3⟩, ⟨cl0, fl0⟩, ⟨ct0, ft0⟩, cd0, fd0⟩ := rf_at HD2.out HKC.out
        go_upto_region 9 with fail
        clear z1 z2 z3 cl0 fl0 ct0 ft0 cd0 fd0
        have HE1 := (show Hid (RfAt (wd2.setCell ⟨bd, k, none⟩ (.int .i64 1)) B xb br bt bd (.slice (some ⟨gl, 0, none⟩) n cl) occ (liesF (cur.set k (p1, x, 1))) (towF (cur.set k (p1, x, 1))) (drvF (cur.set k (p1, x, 1)))) from (rf_D HD2.out HKC.out 1).1)
        have HGE1 := (show Hid (Chg (rfFoot br bt bd (.slice (some ⟨gl, 0, none⟩) n cl)) w (wd2.setCell ⟨bd, k, none⟩ (.int .i64 1))) from HG2.out.trans (rf_D HD2.out HKC.out 1).2)
        generalize wd2.setCell ⟨bd, k, none⟩ (.int .i64 1) = we1 at *
        obtain ⟨⟨z1, z2, z3⟩, ⟨cl0, fl0⟩, ⟨ct0, ft0⟩, cd0, fd0⟩ := rf_at HE1.out HKC.out
        go_upto_region 10 with fail
        clear z1 z2 z3 cl0 fl0 ct0 ft0 cd0 fd0
        have HE2 := (show Hid (RfAt (we1.setCell ⟨gl, k, none⟩ (.int .i64 0)) B xb br bt bd (.slice (some ⟨gl, 0, none⟩) n cl) occ (liesF (cur.set k (0, x, 1))) (towF (cur.set k (0, x, 1))) (drvF (cur.set k (0, x, 1)))) from (rf_L HE1.out HKC.out 0).1)
        have HGE2 := (show Hid (Chg (rfFoot br bt bd (.slice (some ⟨gl, 0, none⟩) n cl)) w (we1.setCell ⟨gl, k, none⟩ (.int .i64 0))) from HGE1.out.trans (rf_L HE1.out HKC.out 0).2)
        generalize we1.setCell ⟨gl, k, none⟩ (.int .i64 0) = we2 at *
        obtain ⟨⟨z1, z2, z3⟩, ⟨cl0, fl0⟩, ⟨ct0, ft0⟩, cd0, fd0⟩ := rf_at HE2.out HKC.out
        go_wp2
        go_roundg (n - (k + 1))
        case rel => exact ⟨k + 1, cur.set k (0, x, 1), rfl, by go_num, by omega, by rw [List.length_set]; exact HCL.out, nextS HC1.out HST.out HKC.out (HQ.out.symm), nextR HC2.out, HE2.out, HGE2.out⟩
        case measure => omega
    · have hcs : cur = stepAll pts d := by
        apply List.ext_getElem?
        intro j
        by_cases hj : j < k
        · exact HC1.out j hj
        · rw [List.getElem?_eq_none (by rw [HCL.out]; omega), List.getElem?_eq_none (by rw [stepAll_len (by rw [HN.out]; exact HDL.out), HN.out]; omega)]
      subst hcs
      obtain ⟨-, z1, z2, z3⟩ := hcells
      go_wp2
      go_end0
      exact ⟨rfl, HFR.out, HCG.out⟩
end Go.Proofs.YthmbpohebcnehaaDoor
