/-
  Package table: may a layout be? by a contract.
-/
import Derived.Test.YtceebimgfajbcaaGreatDoorJoin6
namespace Go.Proofs.YtceebimgfajbcaaGreatDoor
open Go.RowKit

/-- How great what is asked may be, and that paths have their room. -/
structure IsMid (l : Lay) (rs : List RtV) (v : Nat → Value) : Prop where
  s : l.sections.length ≤ 4294967296
  p : l.points.length ≤ 4294967296
  g : l.signals.length ≤ 4294967296
  r : l.routes.length ≤ 4294967296
  x : ∀ x ∈ rs, capOk x.2.1 ∧ x.1.path.length ≤ 4294967296 ∧ x.1.points.length ≤ 4294967296 ∧ x.1.flank.length ≤ 4294967296
  c0 : capOk (v 0)
  c2 : capOk (v 2)

set_option maxRecDepth 1000000 in
set_option maxHeartbeats 4000000 in
theorem routesLie_any (v : Nat → Value) (l : Lay) (rs : List RtV) (w : World) (h : LayRd w v l rs) (hm : IsMid l rs v) :
    Calls Tryz.prog 54 #[.agg #[v 0, v 1, v 2, v 3]] w fun e w' => e = .returned (.bool (l.routes.all (routeB l))) ∧ Below w.heap.size w w' := by
  have hlr : rs.length ≤ 4294967296 := by
    have := hm.r
    rw [← h.m, List.length_map] at this
    exact this
  have HALL : Hid (l.routes.all (routeB l) = rs.all (fun x => routeB l x.1)) := by
    show _ = _
    rw [← h.m, List.all_map]
    rfl
  have WY : Hid (∀ x ∈ rs, ∀ W, Below w.heap.size w W → Calls Tryz.prog 79 #[.agg #[v 0, v 1, v 2, v 3], .agg #[.string x.1.name, .int .i64 x.1.frm, .int .i64 x.1.to, x.2.1, x.2.2.1, x.2.2.2]] W fun e w' => e = .returned (.bool (routeB l x.1)) ∧ Below W.heap.size W w') := fun x hx W hW => isWay_any v l rs x W (h.below hW) ((h.x x hx).below hW) (hm.x x hx).1 ⟨hm.p, (hm.x x hx).2⟩
  have SL : Hid (∀ x ∈ rs, (∃ o n c, x.2.1 = .slice o n c) ∧ (∃ o n c, x.2.2.1 = .slice o n c) ∧ ∃ o n c, x.2.2.2 = .slice o n c) := fun x hx => (h.x x hx).slices
  obtain ⟨o0, c0, e0, _⟩ := h.s
  obtain ⟨o1, c1, e1, _⟩ := h.p
  obtain ⟨o2, c2, e2, _⟩ := h.g
  obtain ⟨o3, c3, e3, r3⟩ := h.r
  have S := BoxAt.start w v
  have R3 : Hid (∀ j x, rs[j]? = some x → ∃ g off, o3 = some ⟨g, off, none⟩ ∧ ∀ i u, (rC x)[i]? = some u → w.cell? ⟨g, off + j * 6 + i, none⟩ = some u) := r3
  have HV : Hid (v 0 = .slice o0 l.sections.length c0 ∧ v 1 = .slice o1 l.points.length c1 ∧ v 2 = .slice o2 l.signals.length c2 ∧ v 3 = .slice o3 rs.length c3) := ⟨e0, e1, e2, e3⟩
  have hcc := S.cells
  rw [e0, e1, e2, e3] at S hcc ⊢
  rw [e0, e1, e2, e3] at WY
  clear h hm r3 e0 e1 e2 e3
  generalize l.sections.length = n0 at *
  generalize l.points.length = n1 at *
  generalize l.signals.length = n2 at *
  generalize hs3 : rs.length = n3 at *
  have HS3 : Hid (rs.length = n3) := hs3
  clear hs3
  obtain ⟨q0, q1, q2, q3⟩ := hcc
  rw [HALL.out]
  go_enter Tryz.func54, Tryz.ntmps54
  go_wp2
  clear q0 q1 q2 q3
  go_loopg [4, 8] n3 (fun gk a i wr => ∃ k : Nat, gk = n3 - k ∧ k ≤ n3 ∧ i = .int .i64 k ∧ (∀ x ∈ rs.take k, routeB l x.1 = true) ∧ BoxAt w v wr)
  case atStart => exact ⟨0, rfl, by omega, rfl, by simp, S⟩
  case round =>
    clear S
    obtain ⟨k, rfl, hk, rfl, hc, hbx⟩ := hrel
    have HC : Hid (∀ x ∈ rs.take k, routeB l x.1 = true) := hc
    have HBX : Hid (BoxAt w v wr) := hbx
    have hcc := hbx.cells
    have hbl := hbx.1
    have hsz := hbx.lt
    rw [HV.out.1, HV.out.2.1, HV.out.2.2.1, HV.out.2.2.2] at hcc
    obtain ⟨q0, q1, q2, q3⟩ := hcc
    clear hc hbx
    by_cases hlt : k < n3
    · obtain ⟨⟨⟨nm, fr, tt, pa, po, fl⟩, v3, v4, v5⟩, hx⟩ : ∃ x, rs[k]? = some x := ⟨rs[k]'(by rw [HS3.out]; exact hlt), List.getElem?_eq_getElem _⟩
      have hxm := List.mem_of_getElem? hx
      have CL := WY.out _ hxm
      obtain ⟨⟨p3, m3, k3, f3⟩, ⟨p4, m4, k4, f4⟩, p5, m5, k5, f5⟩ := SL.out _ hxm
      simp only at CL f3 f4 f5
      subst f3 f4 f5
      obtain ⟨g, off, rfl, hcell⟩ := R3.out k _ hx
      have a0 := hcell 0 _ rfl
      have a1 := hcell 1 _ rfl
      have a2 := hcell 2 _ rfl
      have a3 := hcell 3 _ rfl
      have a4 := hcell 4 _ rfl
      have a5 := hcell 5 _ rfl
      rw [Nat.add_zero] at a0
      have d0 := (hbl.cell (World.block_lt_of_cell? _ _ a0)).trans a0
      have d1 := (hbl.cell (World.block_lt_of_cell? _ _ a1)).trans a1
      have d2 := (hbl.cell (World.block_lt_of_cell? _ _ a2)).trans a2
      have d3 := (hbl.cell (World.block_lt_of_cell? _ _ a3)).trans a3
      have d4 := (hbl.cell (World.block_lt_of_cell? _ _ a4)).trans a4
      have d5 := (hbl.cell (World.block_lt_of_cell? _ _ a5)).trans a5
      have hki : (k : Int) < (n3 : Int) := by omega
      have HX : Hid (rs[k]? = some (⟨nm, fr, tt, pa, po, fl⟩, .slice p3 m3 k3, .slice p4 m4 k4, .slice p5 m5 k5)) := hx
      have z0 := fun o => (Below.cell (Below.alloc (Below.refl wr.heap.size wr) (Nat.le_refl _) o) (World.block_lt_of_cell? _ _ q0)).trans q0
      have z1 := fun o => (Below.cell (Below.alloc (Below.refl wr.heap.size wr) (Nat.le_refl _) o) (World.block_lt_of_cell? _ _ q1)).trans q1
      have z2 := fun o => (Below.cell (Below.alloc (Below.refl wr.heap.size wr) (Nat.le_refl _) o) (World.block_lt_of_cell? _ _ q2)).trans q2
      have z3 := fun o => (Below.cell (Below.alloc (Below.refl wr.heap.size wr) (Nat.le_refl _) o) (World.block_lt_of_cell? _ _ q3)).trans q3
      clear hcell a0 a1 a2 a3 a4 a5 hx hxm
      have GOB : Hid (routeB l ⟨nm, fr, tt, pa, po, fl⟩ = true → ∀ y ∈ rs.take (k + 1), routeB l y.1 = true) := fun hh => take_more (P := fun y : RtV => routeB l y.1 = true) HX.out HC.out hh
      have BAD : Hid (routeB l ⟨nm, fr, tt, pa, po, fl⟩ = false → rs.all (fun x => routeB l x.1) = false) := fun hh => by
        rw [List.all_eq_false]
        exact ⟨_, List.mem_of_getElem? HX.out, by rw [hh]; simp⟩
      have CLH : Hid (∀ W, Below w.heap.size w W → Calls Tryz.prog 79 #[.agg #[.slice o0 n0 c0, .slice o1 n1 c1, .slice o2 n2 c2, .slice (some ⟨g, off, none⟩) n3 c3], .agg #[.string nm, .int .i64 fr, .int .i64 tt, .slice p3 m3 k3, .slice p4 m4 k4, .slice p5 m5 k5]] W fun e w' => e = .returned (.bool (routeB l ⟨nm, fr, tt, pa, po, fl⟩)) ∧ Below W.heap.size W w') := CL
      clear CL HX
      generalize routeB l ⟨nm, fr, tt, pa, po, fl⟩ = rb at *
      go_wp2_with fail
      have hba : Below wr.heap.size wr (wr.alloc (.cells #[.string nm, .int .i64 fr, .int .i64 tt, .slice p3 m3 k3, .slice p4 m4 k4, .slice p5 m5 k5] 66)) := (Below.refl _ _).alloc (Nat.le_refl _) _
      refine (CLH.out _ (hbl.trans (hba.mono hbl.size))).mono ?_
      rintro e w1 ⟨rfl, hb1⟩
      have hb0 : Below wr.heap.size wr w1 := hba.trans (hb1.mono hba.size)
      have HB1 : Hid (BoxAt w v w1) := HBX.out.step hb0
      clear hb1 hba hb0 z0 z1 z2 z3 d0 d1 d2 d3 d4 d5 q0 q1 q2 q3
      cases rb
      · go_wp2
        go_ret
        exact ⟨ret_bool (BAD.out trivial).symm, HB1.out.1⟩
      · go_wp2
        go_roundg (n3 - (k + 1))
        case rel => exact ⟨k + 1, rfl, by omega, by go_num, GOB.out trivial, HB1.out⟩
        case measure => omega
    · have HF : Hid (rs.all (fun x => routeB l x.1) = true) := by
        have := HC.out
        rw [List.take_of_length_le (by rw [HS3.out]; omega)] at this
        exact List.all_eq_true.2 this
      go_wp2
      go_ret
      exact ⟨ret_bool HF.out.symm, hbl⟩

theorem isB_and (l : Lay) : isB l = (boundsB l && (namesAll l && (secsB l && l.routes.all (routeB l)))) := by
  rw [isB]
  cases boundsB l <;> cases secsB l <;> cases namesAll l <;> simp

set_option maxRecDepth 1000000 in
set_option maxHeartbeats 4000000 in
theorem tableIs_any (v : Nat → Value) (l : Lay) (rs : List RtV) (w : World) (h : LayRd w v l rs) (hm : IsMid l rs v) :
    Calls Tryz.prog 25 #[.agg #[v 0, v 1, v 2, v 3]] w fun e w' => e = .returned (.bool (isB l)) ∧ Below w.heap.size w w' := by
  have C0 : Hid (∀ W, Below w.heap.size w W → Calls Tryz.prog 51 #[.agg #[v 0, v 1, v 2, v 3]] W fun e w' => e = .returned (.bool (boundsB l)) ∧ Below W.heap.size W w') := fun W hW => isSized_any v l rs W (h.below hW)
  have C1 : Hid (∀ W, Below w.heap.size w W → Calls Tryz.prog 52 #[.agg #[v 0, v 1, v 2, v 3]] W fun e w' => e = .returned (.bool (namesAll l)) ∧ Below W.heap.size W w') := fun W hW => isNamed_any v l rs W (h.below hW) hm.c0 hm.c2 ⟨hm.s, hm.p, hm.g, hm.r⟩
  have C2 : Hid (∀ W, Below w.heap.size w W → Calls Tryz.prog 53 #[.agg #[v 0, v 1, v 2, v 3]] W fun e w' => e = .returned (.bool (secsB l)) ∧ Below W.heap.size W w') := fun W hW => pointsLie_any v l rs W (h.below hW) hm.p
  have C3 : Hid (∀ W, Below w.heap.size w W → Calls Tryz.prog 54 #[.agg #[v 0, v 1, v 2, v 3]] W fun e w' => e = .returned (.bool (l.routes.all (routeB l))) ∧ Below W.heap.size W w') := fun W hW => routesLie_any v l rs W (h.below hW) hm
  have HB := isB_and l
  obtain ⟨o0, c0, e0, _⟩ := h.s
  obtain ⟨o1, c1, e1, _⟩ := h.p
  obtain ⟨o2, c2, e2, _⟩ := h.g
  obtain ⟨o3, c3, e3, _⟩ := h.r
  have S := BoxAt.start w v
  have HV : Hid (v 0 = .slice o0 l.sections.length c0 ∧ v 1 = .slice o1 l.points.length c1 ∧ v 2 = .slice o2 l.signals.length c2 ∧ v 3 = .slice o3 rs.length c3) := ⟨e0, e1, e2, e3⟩
  have hcc := S.cells
  rw [e0, e1, e2, e3] at S hcc ⊢
  rw [e0, e1, e2, e3] at C0 C1 C2 C3
  clear h hm e0 e1 e2 e3
  generalize isB l = B at *
  generalize boundsB l = b0 at *
  generalize namesAll l = b1 at *
  generalize secsB l = b2 at *
  generalize l.routes.all (routeB l) = b3 at *
  generalize l.sections.length = n0 at *
  generalize l.points.length = n1 at *
  generalize l.signals.length = n2 at *
  generalize rs.length = n3 at *
  have HBB : Hid (B = (b0 && (b1 && (b2 && b3)))) := HB
  clear HB
  obtain ⟨q0, q1, q2, q3⟩ := hcc
  have SB : Hid (BoxAt w v (w.alloc (.cells #[.slice o0 n0 c0, .slice o1 n1 c1, .slice o2 n2 c2, .slice o3 n3 c3] 26))) := S
  clear S
  go_enter Tryz.func25, Tryz.ntmps25
  go_wp2_with fail
  refine (C0.out _ SB.out.1).mono ?_
  rintro e y0 ⟨rfl, k0⟩
  have B0 : Hid (BoxAt w v y0) := SB.out.step k0
  clear SB k0 q0 q1 q2 q3 C0
  cases b0
  · go_wp2
    go_ret
    exact ⟨ret_bool (by rw [HBB.out]; rfl), B0.out.1⟩
  have hcc := B0.out.cells
  rw [HV.out.1, HV.out.2.1, HV.out.2.2.1, HV.out.2.2.2] at hcc
  obtain ⟨q0, q1, q2, q3⟩ := hcc
  go_wp2_with fail
  refine (C1.out _ B0.out.1).mono ?_
  rintro e y1 ⟨rfl, k1⟩
  have B1 : Hid (BoxAt w v y1) := B0.out.step k1
  clear B0 k1 q0 q1 q2 q3 C1
  cases b1
  · go_wp2
    go_ret
    exact ⟨ret_bool (by rw [HBB.out]; rfl), B1.out.1⟩
  have hcc := B1.out.cells
  rw [HV.out.1, HV.out.2.1, HV.out.2.2.1, HV.out.2.2.2] at hcc
  obtain ⟨q0, q1, q2, q3⟩ := hcc
  go_wp2_with fail
  refine (C2.out _ B1.out.1).mono ?_
  rintro e y2 ⟨rfl, k2⟩
  have B2 : Hid (BoxAt w v y2) := B1.out.step k2
  clear B1 k2 q0 q1 q2 q3 C2
  cases b2
  · go_wp2
    go_ret
    exact ⟨ret_bool (by rw [HBB.out]; rfl), B2.out.1⟩
  have hcc := B2.out.cells
  rw [HV.out.1, HV.out.2.1, HV.out.2.2.1, HV.out.2.2.2] at hcc
  obtain ⟨q0, q1, q2, q3⟩ := hcc
  go_wp2_with fail
  refine (C3.out _ B2.out.1).mono ?_
  rintro e y3 ⟨rfl, k3⟩
  have B3 : Hid (BoxAt w v y3) := B2.out.step k3
  clear B2 k3 q0 q1 q2 q3 C3
  go_wp2
  go_ret
  exact ⟨ret_bool (by rw [HBB.out]; cases b3 <;> rfl), B3.out.1⟩
end Go.Proofs.YtceebimgfajbcaaGreatDoor
