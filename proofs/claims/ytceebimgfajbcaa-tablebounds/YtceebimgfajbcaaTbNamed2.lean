/-
  Package table: are all names of a layout such? by a contract.
-/
import Derived.Test.YtceebimgfajbcaaTbNamed
namespace Go.Proofs.Ytceebimgfajbcaa
open Go.RowKit

set_option maxRecDepth 1000000 in
set_option maxHeartbeats 4000000 in
theorem isNamed_any (v : Nat → Value) (l : Lay) (rs : List RtV) (w : World) (h : LayRd w v l rs) (hc0 : capOk (v 0)) (hc2 : capOk (v 2)) (hm : l.sections.length ≤ 4294967296 ∧ l.points.length ≤ 4294967296 ∧ l.signals.length ≤ 4294967296 ∧ l.routes.length ≤ 4294967296) :
    Calls Try.prog 7 #[.agg #[v 0, v 1, v 2, v 3]] w fun e w' => e = .returned (.bool (namesAll l)) ∧ Below w.heap.size w w' := by
  have hlr : rs.length = l.routes.length := by rw [← h.m, List.length_map]
  have hmr : rs.map (·.1.name) = l.routes.map (·.name) := by rw [← h.m, List.map_map]; rfl
  have N0 : Hid (∀ W, Below w.heap.size w W → Calls Try.prog 13 #[v 0] W fun e w' => e = .returned (.bool (namesB l.sections)) ∧ Below W.heap.size W w') := fun W hW => areNames_any _ _ W (h.s.below hW) hc0 hm.1
  have N2 : Hid (∀ W, Below w.heap.size w W → Calls Try.prog 13 #[v 2] W fun e w' => e = .returned (.bool (namesB l.signals)) ∧ Below W.heap.size W w') := fun W hW => areNames_any _ _ W (h.g.below hW) hc2 hm.2.2.1
  have NP : Hid (∀ W, Below w.heap.size w W → Calls Try.prog 14 #[v 1, .func (.func 15) #[] #[]] W fun e w' => ∃ u, e = .returned u ∧ rowAt w' u 1 sC (l.points.map (·.1)) ∧ capOk u ∧ Below W.heap.size W w') := fun W hW => namesOfP_any _ _ W (h.p.below hW) hm.2.1
  have NR : Hid (∀ W, Below w.heap.size w W → Calls Try.prog 16 #[v 3, .func (.func 17) #[] #[]] W fun e w' => ∃ u, e = .returned u ∧ rowAt w' u 1 sC (l.routes.map (·.name)) ∧ capOk u ∧ Below W.heap.size W w') := fun W hW => by
    have := namesOfR_any _ _ W (h.r.below hW) (fun x hx => (h.x x hx).below hW) (by rw [hlr]; exact hm.2.2.2)
    rw [hmr] at this
    exact this
  have AP : Hid (∀ u W, rowAt W u 1 sC (l.points.map (·.1)) → capOk u → Calls Try.prog 13 #[u] W fun e w' => e = .returned (.bool (namesB (l.points.map (·.1)))) ∧ Below W.heap.size W w') := fun u W hr hc => areNames_any _ _ W hr hc (by rw [List.length_map]; exact hm.2.1)
  have AR : Hid (∀ u W, rowAt W u 1 sC (l.routes.map (·.name)) → capOk u → Calls Try.prog 13 #[u] W fun e w' => e = .returned (.bool (namesB (l.routes.map (·.name)))) ∧ Below W.heap.size W w') := fun u W hr hc => areNames_any _ _ W hr hc (by rw [List.length_map]; exact hm.2.2.2)
  obtain ⟨o0, c0, e0, _⟩ := h.s
  obtain ⟨o1, c1, e1, _⟩ := h.p
  obtain ⟨o2, c2, e2, _⟩ := h.g
  obtain ⟨o3, c3, e3, _⟩ := h.r
  have S := BoxAt.start w v
  have hcc := S.cells
  have HV : Hid (v 0 = .slice o0 l.sections.length c0 ∧ v 1 = .slice o1 l.points.length c1 ∧ v 2 = .slice o2 l.signals.length c2 ∧ v 3 = .slice o3 rs.length c3) := ⟨e0, e1, e2, e3⟩
  rw [e0, e1, e2, e3] at S hcc ⊢
  rw [e0] at N0
  rw [e2] at N2
  rw [e1] at NP
  rw [e3] at NR
  clear h hc0 hc2 hm e0 e1 e2 e3 hlr hmr
  have HNA : Hid (namesAll l = (namesB l.sections && (namesB l.signals && (namesB (l.points.map (·.1)) && namesB (l.routes.map (·.name)))))) := rfl
  generalize namesAll l = NA at *
  generalize namesB l.sections = b0 at *
  generalize namesB l.signals = b1 at *
  generalize hpn : l.points.map (·.1) = pns at *
  generalize hrn : l.routes.map (·.name) = rns at *
  generalize namesB pns = b2 at *
  generalize namesB rns = b3 at *
  clear hpn hrn
  generalize l.sections.length = n0 at *
  generalize l.points.length = n1 at *
  generalize l.signals.length = n2 at *
  generalize rs.length = n3 at *
  obtain ⟨q0, q1, q2, q3⟩ := hcc
  have SB : Hid (BoxAt w v (w.alloc (.cells #[.slice o0 n0 c0, .slice o1 n1 c1, .slice o2 n2 c2, .slice o3 n3 c3] 26))) := S
  clear S
  go_enter Try.func7, Try.ntmps7
  go_wp2_with fail
  refine (N0.out _ SB.out.1).mono ?_
  rintro e y0 ⟨rfl, k0⟩
  have B0 : Hid (BoxAt w v y0) := SB.out.step k0
  clear SB k0 q0 q1 q2 q3 N0
  cases b0
  · go_wp2
    go_ret
    exact ⟨ret_bool (by rw [HNA.out]; rfl), B0.out.1⟩
  have hcc := B0.out.cells
  rw [HV.out.1, HV.out.2.1, HV.out.2.2.1, HV.out.2.2.2] at hcc
  obtain ⟨q0, q1, q2, q3⟩ := hcc
  go_wp2_with fail
  refine (N2.out _ B0.out.1).mono ?_
  rintro e y1 ⟨rfl, k1⟩
  have B1 : Hid (BoxAt w v y1) := B0.out.step k1
  clear B0 k1 q0 q1 q2 q3 N2
  cases b1
  · go_wp2
    go_ret
    exact ⟨ret_bool (by rw [HNA.out]; rfl), B1.out.1⟩
  have hcc := B1.out.cells
  rw [HV.out.1, HV.out.2.1, HV.out.2.2.1, HV.out.2.2.2] at hcc
  obtain ⟨q0, q1, q2, q3⟩ := hcc
  go_wp2_with fail
  refine (NP.out _ B1.out.1).mono ?_
  rintro e y2 ⟨u2, rfl, r2, k2c, k2⟩
  go_wp2_with fail
  refine (AP.out _ _ r2 k2c).mono ?_
  rintro e y3 ⟨rfl, k3⟩
  have B3 : Hid (BoxAt w v y3) := (B1.out.step k2).step k3
  clear B1 k2 k3 q0 q1 q2 q3 NP AP r2 k2c
  cases b2
  · go_wp2
    go_ret
    exact ⟨ret_bool (by rw [HNA.out]; rfl), B3.out.1⟩
  have hcc := B3.out.cells
  rw [HV.out.1, HV.out.2.1, HV.out.2.2.1, HV.out.2.2.2] at hcc
  obtain ⟨q0, q1, q2, q3⟩ := hcc
  go_wp2_with fail
  refine (NR.out _ B3.out.1).mono ?_
  rintro e y4 ⟨u4, rfl, r4, k4c, k4⟩
  go_wp2_with fail
  refine (AR.out _ _ r4 k4c).mono ?_
  rintro e y5 ⟨rfl, k5⟩
  have B5 : Hid (BoxAt w v y5) := (B3.out.step k4).step k5
  clear B3 k4 k5 q0 q1 q2 q3 NR AR r4 k4c
  go_wp2
  go_ret
  exact ⟨ret_bool (by rw [HNA.out]; cases b3 <;> rfl), B5.out.1⟩
end Go.Proofs.Ytceebimgfajbcaa
