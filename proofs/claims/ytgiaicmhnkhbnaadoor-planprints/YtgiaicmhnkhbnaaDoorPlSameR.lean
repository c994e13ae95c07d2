/-
  The program's sameRoute: are two routes one? by a contract.
-/
import Derived.Test.YtgiaicmhnkhbnaaDoorPlEqs
import Derived.Test.YtgiaicmhnkhbnaaDoorLySameV
namespace Go.Proofs.YtgiaicmhnkhbnaaDoor
open Go.RowKit

def rtB (a b : Rt) : Bool := @decide (a = b) (decRt a b)
theorem rtB_yes {a b : Rt} (h : a = b) : rtB a b = true := @decide_eq_true _ (decRt a b) h
theorem rtB_no {a b : Rt} (h : ¬ a = b) : rtB a b = false := @decide_eq_false _ (decRt a b) h
def rtV (x : RtV) : Value := .agg #[.string x.1.name, .int .i64 x.1.frm, .int .i64 x.1.to, x.2.1, x.2.2.1, x.2.2.2]

set_option maxRecDepth 1000000 in
set_option maxHeartbeats 4000000 in
theorem sameRoute_any (x y : RtV) (w : World) (hx : RtAt w x) (hy : RtAt w y) (h3 : x.1.path.length ≤ 4294967296) (h4 : x.1.points.length ≤ 4294967296) (h5 : x.1.flank.length ≤ 4294967296) :
    Calls Tryd.prog 14 #[rtV x, rtV y] w fun e w' => e = .returned (.bool (rtB x.1 y.1)) ∧ Below w.heap.size w w' := by
  obtain ⟨⟨xa, xf, xt, xp, xq, xr⟩, v3, v4, v5⟩ := x
  obtain ⟨⟨ya, yf, yt, yp, yq, yr⟩, u3, u4, u5⟩ := y
  obtain ⟨hx3, hx4, hx5⟩ := hx
  obtain ⟨hy3, hy4, hy5⟩ := hy
  simp only [rtV] at *
  have NO : Hid (¬ ((xa = ya ∧ xf = yf ∧ xt = yt) ∧ xp = yp ∧ xq = yq ∧ xr = yr) → rtB ⟨xa, xf, xt, xp, xq, xr⟩ ⟨ya, yf, yt, yp, yq, yr⟩ = false) := fun hne => rtB_no (fun e => hne (by
    simp only [Rt.mk.injEq] at e
    exact ⟨⟨e.1, e.2.1, e.2.2.1⟩, e.2.2.2.1, e.2.2.2.2.1, e.2.2.2.2.2⟩))
  have C3 : Hid (∀ W, Below w.heap.size w W → Calls Tryd.prog 27 #[v3, u3] W fun e w' => e = .returned (.bool (decide (xp = yp))) ∧ ∃ n, w' = W.drewN n) := fun W hW => equalI_any _ _ _ _ W (hx3.below hW) (hy3.below hW) h3
  have C4 : Hid (∀ W, Below w.heap.size w W → Calls Tryd.prog 28 #[v4, u4] W fun e w' => e = .returned (.bool (decide (xq = yq))) ∧ ∃ n, w' = W.drewN n) := fun W hW => equalN_any _ _ _ _ W (hx4.below hW) (hy4.below hW) h4
  have C5 : Hid (∀ W, Below w.heap.size w W → Calls Tryd.prog 28 #[v5, u5] W fun e w' => e = .returned (.bool (decide (xr = yr))) ∧ ∃ n, w' = W.drewN n) := fun W hW => equalN_any _ _ _ _ W (hx5.below hW) (hy5.below hW) h5
  obtain ⟨p3, k3, e3, _⟩ := hx3
  obtain ⟨p4, k4, e4, _⟩ := hx4
  obtain ⟨p5, k5, e5, _⟩ := hx5
  obtain ⟨q3, z3, f3, _⟩ := hy3
  obtain ⟨q4, z4, f4, _⟩ := hy4
  obtain ⟨q5, z5, f5, _⟩ := hy5
  rw [e3, f3] at C3
  rw [e4, f4] at C4
  rw [e5, f5] at C5
  rw [e3, e4, e5, f3, f4, f5]
  clear e3 e4 e5 f3 f4 f5 h3 h4 h5
  have GOX : Hid ((xa = ya ∧ xf = yf ∧ xt = yt) ∧ xp = yp ∧ xq = yq ∧ xr = yr → rtB ⟨xa, xf, xt, xp, xq, xr⟩ ⟨ya, yf, yt, yp, yq, yr⟩ = true) := fun hh => rtB_yes (rt_ext hh)
  generalize rtB ⟨xa, xf, xt, xp, xq, xr⟩ ⟨ya, yf, yt, yp, yq, yr⟩ = ans at *
  generalize xp.length = l3 at *
  generalize xq.length = l4 at *
  generalize xr.length = l5 at *
  generalize yp.length = r3 at *
  generalize yq.length = r4 at *
  generalize yr.length = r5 at *
  by_cases h0 : ¬ (xa = ya)
  · have hb : (xa.toList == ya.toList) = false := by rw [toList_eq, decide_eq_false h0]
    have HF : Hid (ans = false) := NO.out (fun e => h0 e.1.1)
    clear h0
    go_enter Tryd.func14, Tryd.ntmps14
    go_wp2
    go_ret
    exact ⟨ret_bool HF.out.symm, (by repeat' (with_reducible first | exact Below.refl _ _ | refine _root_.Go.below_drewN ?_ _ | refine Below.drew ?_ | refine Below.alloc ?_ ?_ _ | refine Below.setCell ?_ ?_ _ | exact Nat.le_refl _ | (simp; done) | (simp; omega)))⟩
  replace h0 := Classical.not_not.1 h0
  subst h0
  have hb0 : (xa.toList == xa.toList) = true := by simp
  by_cases h1 : ¬ (xf = yf)
  · have hb : ((xf : Int) == yf) = false := by simp [h1]
    have HF : Hid (ans = false) := NO.out (fun e => h1 e.1.2.1)
    clear h1
    go_enter Tryd.func14, Tryd.ntmps14
    go_wp2
    go_ret
    exact ⟨ret_bool HF.out.symm, (by repeat' (with_reducible first | exact Below.refl _ _ | refine _root_.Go.below_drewN ?_ _ | refine Below.drew ?_ | refine Below.alloc ?_ ?_ _ | refine Below.setCell ?_ ?_ _ | exact Nat.le_refl _ | (simp; done) | (simp; omega)))⟩
  replace h1 := Classical.not_not.1 h1
  subst h1
  have hb1 : ((xf : Int) == xf) = true := by simp
  by_cases h2 : ¬ (xt = yt)
  · have hb : ((xt : Int) == yt) = false := by simp [h2]
    have HF : Hid (ans = false) := NO.out (fun e => h2 e.1.2.2)
    clear h2
    go_enter Tryd.func14, Tryd.ntmps14
    go_wp2
    go_ret
    exact ⟨ret_bool HF.out.symm, (by repeat' (with_reducible first | exact Below.refl _ _ | refine _root_.Go.below_drewN ?_ _ | refine Below.drew ?_ | refine Below.alloc ?_ ?_ _ | refine Below.setCell ?_ ?_ _ | exact Nat.le_refl _ | (simp; done) | (simp; omega)))⟩
  replace h2 := Classical.not_not.1 h2
  subst h2
  have hb2 : ((xt : Int) == xt) = true := by simp
  by_cases h3 : ¬ (xp = yp)
  · rw [decide_eq_false h3] at C3
    have HF : Hid (ans = false) := NO.out (fun e => h3 e.2.1)
    clear h3
    go_enter Tryd.func14, Tryd.ntmps14
    go_wp2_with fail
    refine (C3.out _ (by repeat' (with_reducible first | exact Below.refl _ _ | refine _root_.Go.below_drewN ?_ _ | refine Below.drew ?_ | refine Below.alloc ?_ ?_ _ | refine Below.setCell ?_ ?_ _ | exact Nat.le_refl _ | (simp; done) | (simp; omega)))).mono ?_
    rintro e w1 ⟨rfl, n3, rfl⟩
    go_wp2_with fail
    go_ret
    exact ⟨ret_bool HF.out.symm, (by repeat' (with_reducible first | exact Below.refl _ _ | refine _root_.Go.below_drewN ?_ _ | refine Below.drew ?_ | refine Below.alloc ?_ ?_ _ | refine Below.setCell ?_ ?_ _ | exact Nat.le_refl _ | (simp; done) | (simp; omega)))⟩
  replace h3 := Classical.not_not.1 h3
  rw [decide_eq_true h3] at C3
  have H3 : Hid (xp = yp) := h3
  clear h3
  by_cases h4 : ¬ (xq = yq)
  · rw [decide_eq_false h4] at C4
    have HF : Hid (ans = false) := NO.out (fun e => h4 e.2.2.1)
    clear h4
    go_enter Tryd.func14, Tryd.ntmps14
    go_wp2_with fail
    refine (C3.out _ (by repeat' (with_reducible first | exact Below.refl _ _ | refine _root_.Go.below_drewN ?_ _ | refine Below.drew ?_ | refine Below.alloc ?_ ?_ _ | refine Below.setCell ?_ ?_ _ | exact Nat.le_refl _ | (simp; done) | (simp; omega)))).mono ?_
    rintro e w1 ⟨rfl, n3, rfl⟩
    go_wp2_with fail
    refine (C4.out _ (by repeat' (with_reducible first | exact Below.refl _ _ | refine _root_.Go.below_drewN ?_ _ | refine Below.drew ?_ | refine Below.alloc ?_ ?_ _ | refine Below.setCell ?_ ?_ _ | exact Nat.le_refl _ | (simp; done) | (simp; omega)))).mono ?_
    rintro e w2 ⟨rfl, n4, rfl⟩
    go_wp2_with fail
    go_ret
    exact ⟨ret_bool HF.out.symm, (by repeat' (with_reducible first | exact Below.refl _ _ | refine _root_.Go.below_drewN ?_ _ | refine Below.drew ?_ | refine Below.alloc ?_ ?_ _ | refine Below.setCell ?_ ?_ _ | exact Nat.le_refl _ | (simp; done) | (simp; omega)))⟩
  replace h4 := Classical.not_not.1 h4
  rw [decide_eq_true h4] at C4
  have H4 : Hid (xq = yq) := h4
  clear h4
  by_cases h5 : ¬ (xr = yr)
  · rw [decide_eq_false h5] at C5
    have HF : Hid (ans = false) := NO.out (fun e => h5 e.2.2.2)
    clear h5
    go_enter Tryd.func14, Tryd.ntmps14
    go_wp2_with fail
    refine (C3.out _ (by repeat' (with_reducible first | exact Below.refl _ _ | refine _root_.Go.below_drewN ?_ _ | refine Below.drew ?_ | refine Below.alloc ?_ ?_ _ | refine Below.setCell ?_ ?_ _ | exact Nat.le_refl _ | (simp; done) | (simp; omega)))).mono ?_
    rintro e w1 ⟨rfl, n3, rfl⟩
    go_wp2_with fail
    refine (C4.out _ (by repeat' (with_reducible first | exact Below.refl _ _ | refine _root_.Go.below_drewN ?_ _ | refine Below.drew ?_ | refine Below.alloc ?_ ?_ _ | refine Below.setCell ?_ ?_ _ | exact Nat.le_refl _ | (simp; done) | (simp; omega)))).mono ?_
    rintro e w2 ⟨rfl, n4, rfl⟩
    go_wp2_with fail
    refine (C5.out _ (by repeat' (with_reducible first | exact Below.refl _ _ | refine _root_.Go.below_drewN ?_ _ | refine Below.drew ?_ | refine Below.alloc ?_ ?_ _ | refine Below.setCell ?_ ?_ _ | exact Nat.le_refl _ | (simp; done) | (simp; omega)))).mono ?_
    rintro e w3 ⟨rfl, n5, rfl⟩
    go_wp2_with fail
    go_ret
    exact ⟨ret_bool HF.out.symm, (by repeat' (with_reducible first | exact Below.refl _ _ | refine _root_.Go.below_drewN ?_ _ | refine Below.drew ?_ | refine Below.alloc ?_ ?_ _ | refine Below.setCell ?_ ?_ _ | exact Nat.le_refl _ | (simp; done) | (simp; omega)))⟩
  replace h5 := Classical.not_not.1 h5
  rw [decide_eq_true h5] at C5
  have HF : Hid (ans = true) := GOX.out ⟨⟨rfl, rfl, rfl⟩, H3.out, H4.out, h5⟩
  clear h5 H3 H4
  go_enter Tryd.func14, Tryd.ntmps14
  go_wp2_with fail
  refine (C3.out _ (by repeat' (with_reducible first | exact Below.refl _ _ | refine _root_.Go.below_drewN ?_ _ | refine Below.drew ?_ | refine Below.alloc ?_ ?_ _ | refine Below.setCell ?_ ?_ _ | exact Nat.le_refl _ | (simp; done) | (simp; omega)))).mono ?_
  rintro e w1 ⟨rfl, n3, rfl⟩
  go_wp2_with fail
  refine (C4.out _ (by repeat' (with_reducible first | exact Below.refl _ _ | refine _root_.Go.below_drewN ?_ _ | refine Below.drew ?_ | refine Below.alloc ?_ ?_ _ | refine Below.setCell ?_ ?_ _ | exact Nat.le_refl _ | (simp; done) | (simp; omega)))).mono ?_
  rintro e w2 ⟨rfl, n4, rfl⟩
  go_wp2_with fail
  refine (C5.out _ (by repeat' (with_reducible first | exact Below.refl _ _ | refine _root_.Go.below_drewN ?_ _ | refine Below.drew ?_ | refine Below.alloc ?_ ?_ _ | refine Below.setCell ?_ ?_ _ | exact Nat.le_refl _ | (simp; done) | (simp; omega)))).mono ?_
  rintro e w3 ⟨rfl, n5, rfl⟩
  go_wp2_with fail
  go_ret
  exact ⟨ret_bool HF.out.symm, (by repeat' (with_reducible first | exact Below.refl _ _ | refine _root_.Go.below_drewN ?_ _ | refine Below.drew ?_ | refine Below.alloc ?_ ?_ _ | refine Below.setCell ?_ ?_ _ | exact Nat.le_refl _ | (simp; done) | (simp; omega)))⟩
end Go.Proofs.YtgiaicmhnkhbnaaDoor
