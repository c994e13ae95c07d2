/-
  Package table: how many of each; sections of points that are there: by contracts.
-/
import Derived.Test.YtceebimgfajbcaaTbLeaf
import Derived.Test.YtceebimgfajbcaaLyIs
namespace Go.Proofs.Ytceebimgfajbcaa
open Go.RowKit

set_option maxRecDepth 1000000 in
set_option maxHeartbeats 4000000 in
theorem isSized_any (v : Nat → Value) (l : Lay) (rs : List RtV) (w : World) (h : LayRd w v l rs) :
    Calls Try.prog 6 #[.agg #[v 0, v 1, v 2, v 3]] w fun e w' => e = .returned (.bool (boundsB l)) ∧ Below w.heap.size w w' := by
  have hlr : l.routes.length = rs.length := by rw [← h.m, List.length_map]
  obtain ⟨o0, c0, e0, _⟩ := h.s
  obtain ⟨o1, c1, e1, _⟩ := h.p
  obtain ⟨o2, c2, e2, _⟩ := h.g
  obtain ⟨o3, c3, e3, _⟩ := h.r
  have S := BoxAt.start w v
  have hcc := S.cells
  have hbl := S.1
  rw [e0, e1, e2, e3] at hcc hbl ⊢
  have HB : Hid (boundsB l = (decide ((1 : Int) ≤ (l.sections.length : Int) ∧ (l.sections.length : Int) ≤ 10) && (decide ((1 : Int) ≤ (l.signals.length : Int) ∧ (l.signals.length : Int) ≤ 6) && (decide ((0 : Int) ≤ (l.points.length : Int) ∧ (l.points.length : Int) ≤ 5) && decide ((0 : Int) ≤ (rs.length : Int) ∧ (rs.length : Int) ≤ 6))))) := by
    show _ = _
    rw [boundsB, hlr, Bool.eq_iff_iff]
    simp
    omega
  clear h e0 e1 e2 e3 S hlr
  generalize l.sections.length = n0 at *
  generalize l.points.length = n1 at *
  generalize l.signals.length = n2 at *
  generalize rs.length = n3 at *
  have C0 := fun W => isCount_any n0 1 10 W
  have C1 := fun W => isCount_any n2 1 6 W
  have C2 := fun W => isCount_any n1 0 5 W
  have C3 := fun W => isCount_any n3 0 6 W
  generalize decide ((1 : Int) ≤ (n0 : Int) ∧ (n0 : Int) ≤ 10) = b0 at *
  generalize decide ((1 : Int) ≤ (n2 : Int) ∧ (n2 : Int) ≤ 6) = b1 at *
  generalize decide ((0 : Int) ≤ (n1 : Int) ∧ (n1 : Int) ≤ 5) = b2 at *
  generalize decide ((0 : Int) ≤ (n3 : Int) ∧ (n3 : Int) ≤ 6) = b3 at *
  generalize boundsB l = B at *
  have HBB : Hid (B = (b0 && (b1 && (b2 && b3)))) := HB
  clear HB
  have D0 : Hid (∀ W, Calls Try.prog 12 #[.int .i64 n0, .int .i64 1, .int .i64 10] W fun e w' => e = .returned (.bool b0) ∧ w' = W) := C0
  have D1 : Hid (∀ W, Calls Try.prog 12 #[.int .i64 n2, .int .i64 1, .int .i64 6] W fun e w' => e = .returned (.bool b1) ∧ w' = W) := C1
  have D2 : Hid (∀ W, Calls Try.prog 12 #[.int .i64 n1, .int .i64 0, .int .i64 5] W fun e w' => e = .returned (.bool b2) ∧ w' = W) := C2
  have D3 : Hid (∀ W, Calls Try.prog 12 #[.int .i64 n3, .int .i64 0, .int .i64 6] W fun e w' => e = .returned (.bool b3) ∧ w' = W) := C3
  clear C0 C1 C2 C3
  obtain ⟨q0, q1, q2, q3⟩ := hcc
  go_enter Try.func6, Try.ntmps6
  go_wp2_with fail
  refine (D0.out _).mono ?_
  rintro e w' ⟨rfl, rfl⟩
  cases b0
  · go_wp2
    go_ret
    exact ⟨ret_bool (by rw [HBB.out]; rfl), hbl⟩
  go_wp2_with fail
  refine (D1.out _).mono ?_
  rintro e w' ⟨rfl, rfl⟩
  cases b1
  · go_wp2
    go_ret
    exact ⟨ret_bool (by rw [HBB.out]; rfl), hbl⟩
  go_wp2_with fail
  refine (D2.out _).mono ?_
  rintro e w' ⟨rfl, rfl⟩
  cases b2
  · go_wp2
    go_ret
    exact ⟨ret_bool (by rw [HBB.out]; rfl), hbl⟩
  go_wp2_with fail
  refine (D3.out _).mono ?_
  rintro e w' ⟨rfl, rfl⟩
  go_wp2
  go_ret
  exact ⟨ret_bool (by rw [HBB.out]; rfl), hbl⟩

set_option maxRecDepth 1000000 in
set_option maxHeartbeats 4000000 in
theorem pointsLie_any (v : Nat → Value) (l : Lay) (rs : List RtV) (w : World) (h : LayRd w v l rs) (hl : l.points.length ≤ 4294967296) :
    Calls Try.prog 8 #[.agg #[v 0, v 1, v 2, v 3]] w fun e w' => e = .returned (.bool (secsB l)) ∧ Below w.heap.size w w' := by
  obtain ⟨o0, c0, e0, _⟩ := h.s
  obtain ⟨o1, c1, e1, r1⟩ := h.p
  obtain ⟨o2, c2, e2, _⟩ := h.g
  obtain ⟨o3, c3, e3, _⟩ := h.r
  have S := BoxAt.start w v
  have R1 : Hid (∀ j x, l.points[j]? = some x → ∃ g off, o1 = some ⟨g, off, none⟩ ∧ ∀ i u, (pC x)[i]? = some u → w.cell? ⟨g, off + j * 2 + i, none⟩ = some u) := r1
  have HV : Hid (v 0 = .slice o0 l.sections.length c0 ∧ v 1 = .slice o1 l.points.length c1 ∧ v 2 = .slice o2 l.signals.length c2 ∧ v 3 = .slice o3 rs.length c3) := ⟨e0, e1, e2, e3⟩
  have hcc := S.cells
  rw [e0, e1, e2, e3] at S hcc ⊢
  clear h r1 e0 e1 e2 e3
  generalize hs1 : l.points.length = n1 at *
  generalize hs0 : l.sections.length = n0 at *
  generalize l.signals.length = n2 at *
  generalize rs.length = n3 at *
  have HS1 : Hid (l.points.length = n1) := hs1
  have HS0 : Hid (l.sections.length = n0) := hs0
  clear hs0 hs1
  obtain ⟨q0, q1, q2, q3⟩ := hcc
  go_enter Try.func8, Try.ntmps8
  go_wp2
  clear q0 q1 q2 q3
  go_loopg [4, 8] n1 (fun gk a i wr => ∃ k : Nat, gk = n1 - k ∧ k ≤ n1 ∧ i = .int .i64 k ∧ (∀ x ∈ l.points.take k, 0 ≤ x.2 ∧ x.2 < l.sections.length) ∧ BoxAt w v wr)
  case atStart => exact ⟨0, rfl, by omega, rfl, by simp, S⟩
  case round =>
    clear S
    obtain ⟨k, rfl, hk, rfl, hc, hbx⟩ := hrel
    have HC : Hid (∀ x ∈ l.points.take k, 0 ≤ x.2 ∧ x.2 < l.sections.length) := hc
    have HBX : Hid (BoxAt w v wr) := hbx
    have hcc := hbx.cells
    have hbl := hbx.1
    have hsz := hbx.lt
    rw [HV.out.1, HV.out.2.1, HV.out.2.2.1, HV.out.2.2.2] at hcc
    obtain ⟨q0, q1, q2, q3⟩ := hcc
    clear hc hbx
    by_cases hlt : k < n1
    · obtain ⟨⟨nm, sc⟩, hx⟩ : ∃ x, l.points[k]? = some x := ⟨l.points[k]'(by rw [HS1.out]; exact hlt), List.getElem?_eq_getElem _⟩
      obtain ⟨g, off, rfl, hcell⟩ := R1.out k _ hx
      have a0 := hcell 0 _ rfl
      have a1 := hcell 1 _ rfl
      rw [Nat.add_zero] at a0
      have d0 := (hbl.cell (World.block_lt_of_cell? _ _ a0)).trans a0
      have d1 := (hbl.cell (World.block_lt_of_cell? _ _ a1)).trans a1
      have hki : (k : Int) < (n1 : Int) := by omega
      have HX : Hid (l.points[k]? = some (nm, sc)) := hx
      have C := fun W => isPlace_any sc n0 W
      have z0 := fun o => (Below.cell (Below.alloc (Below.refl wr.heap.size wr) (Nat.le_refl _) o) (World.block_lt_of_cell? _ _ q0)).trans q0
      clear hcell a0 a1 hx
      by_cases hp : 0 ≤ sc ∧ sc < (n0 : Int)
      · rw [decide_eq_true hp] at C
        have HP : Hid (0 ≤ sc ∧ sc < (n0 : Int)) := hp
        clear hp
        go_wp2_with (go_at_call 18; refine (C _).mono ?_; rintro e w' ⟨rfl, rfl⟩)
        go_roundg (n1 - (k + 1))
        case rel => exact ⟨k + 1, rfl, by omega, by go_num, take_more (P := fun x : ByteArray × Int => 0 ≤ x.2 ∧ x.2 < l.sections.length) HX.out HC.out (by rw [HS0.out]; exact HP.out), HBX.out.step (by repeat' (with_reducible first | exact Below.refl _ _ | apply Below.setCell | apply Below.alloc | exact Nat.le_refl _))⟩
        case measure => omega
      · rw [decide_eq_false hp] at C
        have HF : Hid (secsB l = false) := decide_eq_false fun hh => hp (by have := hh _ (List.mem_of_getElem? HX.out); rw [HS0.out] at this; exact this)
        clear hp
        go_wp2_with (go_at_call 18; refine (C _).mono ?_; rintro e w' ⟨rfl, rfl⟩)
        go_ret
        exact ⟨ret_bool HF.out.symm, (HBX.out.step (by repeat' (with_reducible first | exact Below.refl _ _ | apply Below.setCell | apply Below.alloc | exact Nat.le_refl _))).1⟩
    · have HF : Hid (secsB l = true) := by
        have := HC.out
        rw [List.take_of_length_le (by rw [HS1.out]; omega)] at this
        exact decide_eq_true this
      go_wp2
      go_ret
      exact ⟨ret_bool HF.out.symm, hbl⟩
end Go.Proofs.Ytceebimgfajbcaa
