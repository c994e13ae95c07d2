/-
  The reference's May (a layout whose names are names, whose places are there), by a contract.
-/
import Derived.Test.YtgiaicmhnkhbnaaDoorLyMayR
import Derived.Test.YtgiaicmhnkhbnaaDoorLyPrintV
namespace Go.Proofs.YtgiaicmhnkhbnaaDoor
open Go.RowKit

set_option maxRecDepth 1000000 in
set_option maxHeartbeats 16000000 in
theorem refMay_any (v : Nat → Value) (l : Lay) (rs : List RtV) (w : World) (h : LayRd w v l rs) (hm : LayMid l) (hT : Lib.Utf8Tabs 0 1 w) :
    Calls Tryd.prog 7 #[.agg #[v 0, v 1, v 2, v 3]] w fun e w' => e = .returned (.bool (mayB l)) ∧ Below w.heap.size w w' := by
  have HLR : Hid (LayRd w v l rs) := h
  have HT : Hid (Lib.Utf8Tabs 0 1 w) := hT
  have HMI : Hid (LayMid l) := hm
  have HM : Hid (rs.map (·.1) = l.routes) := h.m
  have hlr : l.routes.length = rs.length := by rw [← h.m, List.length_map]
  obtain ⟨o0, c0, e0, r0⟩ := h.s
  obtain ⟨o1, c1, e1, r1⟩ := h.p
  obtain ⟨o2, c2, e2, r2⟩ := h.g
  obtain ⟨o3, c3, e3, r3⟩ := h.r
  have R0 : Hid (∀ j x, l.sections[j]? = some x → ∃ g off, o0 = some ⟨g, off, none⟩ ∧ ∀ i u, (sC x)[i]? = some u → w.cell? ⟨g, off + j * 1 + i, none⟩ = some u) := r0
  have R1 : Hid (∀ j x, l.points[j]? = some x → ∃ g off, o1 = some ⟨g, off, none⟩ ∧ ∀ i u, (pC x)[i]? = some u → w.cell? ⟨g, off + j * 2 + i, none⟩ = some u) := r1
  have R2 : Hid (∀ j x, l.signals[j]? = some x → ∃ g off, o2 = some ⟨g, off, none⟩ ∧ ∀ i u, (sC x)[i]? = some u → w.cell? ⟨g, off + j * 1 + i, none⟩ = some u) := r2
  have R3 : Hid (∀ j x, rs[j]? = some x → ∃ g off, o3 = some ⟨g, off, none⟩ ∧ ∀ i u, (rC x)[i]? = some u → w.cell? ⟨g, off + j * 6 + i, none⟩ = some u) := r3
  have b0 := hm.s.1
  have b1 := hm.p.1
  have b2 := hm.g.1
  have b3 := hm.r.1
  rw [hlr] at b3
  have S := BoxAt.start w v
  have HV : Hid (v 0 = .slice o0 l.sections.length c0 ∧ v 1 = .slice o1 l.points.length c1 ∧ v 2 = .slice o2 l.signals.length c2 ∧ v 3 = .slice o3 rs.length c3) := ⟨e0, e1, e2, e3⟩
  rw [e0, e1, e2, e3] at S ⊢
  clear h r0 r1 r2 r3 e0 e1 e2 e3 hm hT hlr
  generalize hs0 : l.sections.length = n0 at *
  generalize hs1 : l.points.length = n1 at *
  generalize hs2 : l.signals.length = n2 at *
  generalize hs3 : rs.length = n3 at *
  have HS0 : Hid (l.sections.length = n0) := hs0
  have HS1 : Hid (l.points.length = n1) := hs1
  have HS2 : Hid (l.signals.length = n2) := hs2
  have HS3 : Hid (rs.length = n3) := hs3
  clear hs0 hs1 hs2 hs3
  have SB : Hid (BoxAt w v (w.alloc (.cells #[.slice o0 n0 c0, .slice o1 n1 c1, .slice o2 n2 c2, .slice o3 n3 c3] 26))) := S
  clear S
  go_enter Tryd.func7, Tryd.ntmps7
  go_wp2
  go_loopg [3] n0 (fun gk i wr => ∃ k : Nat, gk = n0 - k ∧ k ≤ n0 ∧ i = .int .i64 k ∧ (l.sections.take k).all capB = true ∧ BoxAt w v wr)
  case atStart => exact ⟨0, rfl, by omega, rfl, by simp, SB.out⟩
  case round =>
    clear SB
    obtain ⟨k, rfl, hk, rfl, hc, hbx⟩ := hrel
    have HC : Hid ((l.sections.take k).all capB = true) := hc
    have HBX : Hid (BoxAt w v wr) := hbx
    have hcc := hbx.cells
    have hbl := hbx.1
    rw [HV.out.1, HV.out.2.1, HV.out.2.2.1, HV.out.2.2.2] at hcc
    obtain ⟨q0, q1, q2, q3⟩ := hcc
    clear hc hbx
    by_cases hlt : k < n0
    · obtain ⟨y, hy⟩ : ∃ y, l.sections[k]? = some y := ⟨l.sections[k]'(by rw [HS0.out]; exact hlt), List.getElem?_eq_getElem _⟩
      obtain ⟨g, off, rfl, hcell⟩ := R0.out k y hy
      have d0 := hcell 0 _ rfl
      simp only [Nat.mul_one, Nat.add_zero] at d0
      have d1 := (hbl.cell (World.block_lt_of_cell? _ _ d0)).trans d0
      have hki : (k : Int) < (n0 : Int) := by omega
      have N := refCap_any y wr (HMI.out.s.2 y (List.mem_of_getElem? hy)) (tabs_below HT.out hbl)
      have HY : Hid (l.sections[k]? = some y) := hy
      clear hcell d0 hy
      cases hcap : capB y
      · rw [hcap] at N
        have HF : Hid (mayB l = false) := mayB_sec HY.out hcap
        go_wp2_with (go_at_call 18; refine N.mono ?_; rintro e w1 ⟨rfl, hb1⟩)
        go_ret
        exact ⟨ret_bool HF.out.symm, (HBX.out.step hb1).1⟩
      · rw [hcap] at N
        have HA : Hid ((l.sections.take (k + 1)).all capB = true) := all_more HY.out HC.out hcap
        go_wp2_with (go_at_call 18; refine N.mono ?_; rintro e w1 ⟨rfl, hb1⟩)
        go_roundg (n0 - (k + 1))
        case rel => exact ⟨k + 1, rfl, by omega, by go_num, HA.out, HBX.out.step hb1⟩
        case measure => omega
    · have hki : ¬ (k : Int) < (n0 : Int) := by omega
      have HAS : Hid (l.sections.all capB = true) := by
        have := HC.out
        rw [take_all HS0.out (by omega)] at this
        exact this
      clear HC hlt hbl
      go_wp2_with fail
      clear q0 q1 q2 q3 hki hk
      go_loopg [4] n2 (fun gk i wr => ∃ k : Nat, gk = n2 - k ∧ k ≤ n2 ∧ i = .int .i64 k ∧ (l.signals.take k).all capB = true ∧ BoxAt w v wr)
      case atStart => exact ⟨0, rfl, by omega, rfl, by simp, HBX.out⟩
      case round =>
        clear HBX
        obtain ⟨k, rfl, hk, rfl, hc, hbx⟩ := hrel
        have HC : Hid ((l.signals.take k).all capB = true) := hc
        have HBX : Hid (BoxAt w v wr) := hbx
        have hcc := hbx.cells
        have hbl := hbx.1
        rw [HV.out.1, HV.out.2.1, HV.out.2.2.1, HV.out.2.2.2] at hcc
        obtain ⟨q0, q1, q2, q3⟩ := hcc
        clear hc hbx
        by_cases hlt : k < n2
        · obtain ⟨y, hy⟩ : ∃ y, l.signals[k]? = some y := ⟨l.signals[k]'(by rw [HS2.out]; exact hlt), List.getElem?_eq_getElem _⟩
          obtain ⟨g, off, rfl, hcell⟩ := R2.out k y hy
          have d0 := hcell 0 _ rfl
          simp only [Nat.mul_one, Nat.add_zero] at d0
          have d1 := (hbl.cell (World.block_lt_of_cell? _ _ d0)).trans d0
          have hki : (k : Int) < (n2 : Int) := by omega
          have N := refCap_any y wr (HMI.out.g.2 y (List.mem_of_getElem? hy)) (tabs_below HT.out hbl)
          have HY : Hid (l.signals[k]? = some y) := hy
          clear hcell d0 hy
          cases hcap : capB y
          · rw [hcap] at N
            have HF : Hid (mayB l = false) := mayB_sig HY.out hcap
            go_wp2_with (go_at_call 18; refine N.mono ?_; rintro e w1 ⟨rfl, hb1⟩)
            go_ret
            exact ⟨ret_bool HF.out.symm, (HBX.out.step hb1).1⟩
          · rw [hcap] at N
            have HA : Hid ((l.signals.take (k + 1)).all capB = true) := all_more HY.out HC.out hcap
            go_wp2_with (go_at_call 18; refine N.mono ?_; rintro e w1 ⟨rfl, hb1⟩)
            go_roundg (n2 - (k + 1))
            case rel => exact ⟨k + 1, rfl, by omega, by go_num, HA.out, HBX.out.step hb1⟩
            case measure => omega
        · have hki : ¬ (k : Int) < (n2 : Int) := by omega
          have HAG : Hid (l.signals.all capB = true) := by
            have := HC.out
            rw [take_all HS2.out (by omega)] at this
            exact this
          clear HC hlt hbl
          go_wp2_with fail
          clear q0 q1 q2 q3 hki hk
          go_loopg [5] n1 (fun gk i wr => ∃ k : Nat, gk = n1 - k ∧ k ≤ n1 ∧ i = .int .i64 k ∧ (l.points.take k).all (pointP l) = true ∧ BoxAt w v wr)
          case atStart => exact ⟨0, rfl, by omega, rfl, by simp, HBX.out⟩
          case round =>
            clear HBX
            obtain ⟨k, rfl, hk, rfl, hc, hbx⟩ := hrel
            have HC : Hid ((l.points.take k).all (pointP l) = true) := hc
            have HBX : Hid (BoxAt w v wr) := hbx
            have hcc := hbx.cells
            have hbl := hbx.1
            rw [HV.out.1, HV.out.2.1, HV.out.2.2.1, HV.out.2.2.2] at hcc
            obtain ⟨q0, q1, q2, q3⟩ := hcc
            clear hc hbx
            by_cases hlt : k < n1
            · have hki : (k : Int) < (n1 : Int) := by omega
              obtain ⟨⟨pn, ps⟩, hx⟩ : ∃ x, l.points[k]? = some x := ⟨l.points[k]'(by rw [HS1.out]; exact hlt), List.getElem?_eq_getElem _⟩
              obtain ⟨hxz, hxi⟩ := HMI.out.p.2 _ (List.mem_of_getElem? hx)
              simp only [okI] at hxi hxz
              obtain ⟨g, off, rfl, hcell⟩ := R1.out k _ hx
              have e0 := hcell 0 _ rfl
              have e1 := hcell 1 _ rfl
              rw [Nat.add_zero] at e0
              have d0 := ext_cell ((hbl.cell (World.block_lt_of_cell? _ _ e0)).trans e0)
              have d1 := ext_cell ((hbl.cell (World.block_lt_of_cell? _ _ e1)).trans e1)
              have z0 := ext_cell q0
              have z1 := ext_cell q1
              haveI := ext_some wr
              have HX : Hid (l.points[k]? = some (pn, ps)) := hx
              have CP : Hid (∀ z : Ext wr, Calls Tryd.prog 18 #[.string pn] z.z fun e w' => e = .returned (.bool (capB pn)) ∧ Below z.z.heap.size z.z w') := fun z => refCap_any pn z.z hxz (tabs_below HT.out (hbl.trans (z.h.mono hbl.size)))
              have BAD : Hid (pointP l (pn, ps) = false → mayB l = false) := fun hh => mayB_pt HX.out hh
              have GO : Hid (pointP l (pn, ps) = true → (l.points.take (k + 1)).all (pointP l) = true) := fun hh => all_more HX.out HC.out hh
              clear hcell e0 e1 hx
              cases hcap : capB pn
              · rw [hcap] at CP
                have HF : Hid (mayB l = false) := BAD.out (by rw [pointP, hcap, Bool.false_and])
                go_wp2_with fail
                refine wp_region_ext (by kernel_rfl) (by kernel_rfl) ?_
                repeat (first | go_big_quiet_skip | (go_big_quiet_want; go_big_quiet_op; first | go_big_quiet_on | (apply Exists.intro; refine ⟨fun _ => ?_, ?_⟩; (go_at_call 18; exact ext_of (CP.out _)); go_big_quiet_on)))
                refine wpQuiet_nil ?_
                intro _ hw'
                obtain ⟨z, hw''⟩ := hw'
                subst hw''
                go_wp2
                go_ret
                exact ⟨ret_bool HF.out.symm, hbl.trans (z.h.mono hbl.size)⟩
              · rw [hcap] at CP
                have HCP : Hid (capB pn = true) := hcap
                clear hcap
                by_cases h0 : ps < 0
                · have HF : Hid (mayB l = false) := BAD.out (by rw [pointP, HCP.out, Bool.true_and]; exact decide_eq_false (by simp only; omega))
                  go_wp2_with fail
                  refine wp_region_ext (by kernel_rfl) (by kernel_rfl) ?_
                  repeat (first | go_big_quiet_skip | (go_big_quiet_want; go_big_quiet_op; first | go_big_quiet_on | (apply Exists.intro; refine ⟨fun _ => ?_, ?_⟩; (go_at_call 18; exact ext_of (CP.out _)); go_big_quiet_on)))
                  refine wpQuiet_nil ?_
                  intro _ hw'
                  obtain ⟨z, hw''⟩ := hw'
                  subst hw''
                  go_wp2
                  go_ret
                  exact ⟨ret_bool HF.out.symm, hbl.trans (z.h.mono hbl.size)⟩
                · have hd0 : decide (ps < 0) = false := decide_eq_false h0
                  by_cases h1 : (n0 : Int) ≤ ps
                  · have HF : Hid (mayB l = false) := BAD.out (by rw [pointP, HCP.out, Bool.true_and]; exact decide_eq_false (by simp only; rw [HS0.out]; omega))
                    go_wp2_with fail
                    refine wp_region_ext (by kernel_rfl) (by kernel_rfl) ?_
                    repeat (first | go_big_quiet_skip | (go_big_quiet_want; go_big_quiet_op; first | go_big_quiet_on | (apply Exists.intro; refine ⟨fun _ => ?_, ?_⟩; (go_at_call 18; exact ext_of (CP.out _)); go_big_quiet_on)))
                    refine wpQuiet_nil ?_
                    intro _ hw'
                    obtain ⟨z, hw''⟩ := hw'
                    subst hw''
                    go_wp2
                    go_ret
                    exact ⟨ret_bool HF.out.symm, hbl.trans (z.h.mono hbl.size)⟩
                  · have hd1 : decide ((n0 : Int) ≤ ps) = false := decide_eq_false h1
                    have HG : Hid ((l.points.take (k + 1)).all (pointP l) = true) := GO.out (by rw [pointP, HCP.out, Bool.true_and]; exact decide_eq_true (by simp only; rw [HS0.out]; omega))
                    go_wp2_with fail
                    refine wp_region_ext (by kernel_rfl) (by kernel_rfl) ?_
                    repeat (first | go_big_quiet_skip | (go_big_quiet_want; go_big_quiet_op; first | go_big_quiet_on | (apply Exists.intro; refine ⟨fun _ => ?_, ?_⟩; (go_at_call 18; exact ext_of (CP.out _)); go_big_quiet_on)))
                    refine wpQuiet_nil ?_
                    intro _ hw'
                    obtain ⟨z, hw''⟩ := hw'
                    subst hw''
                    go_wp2
                    go_roundg (n1 - (k + 1))
                    case rel => exact ⟨k + 1, rfl, by omega, by go_num, HG.out, HBX.out.step z.h⟩
                    case measure => omega
            · have hki : ¬ (k : Int) < (n1 : Int) := by omega
              have HAP : Hid (l.points.all (pointP l) = true) := by
                have := HC.out
                rw [take_all HS1.out (by omega)] at this
                exact this
              clear HC hlt hbl
              go_wp2_with fail
              clear q0 q1 q2 q3 hki hk
              go_loopg [6] n3 (fun gk i wr => ∃ k : Nat, gk = n3 - k ∧ k ≤ n3 ∧ i = .int .i64 k ∧ (∀ x ∈ rs.take k, routeP l x.1 = true) ∧ BoxAt w v wr)
              case atStart => exact ⟨0, rfl, by omega, rfl, by simp, HBX.out⟩
              case round =>
                clear HBX
                obtain ⟨k, rfl, hk, rfl, hc, hbx⟩ := hrel
                have HC : Hid (∀ x ∈ rs.take k, routeP l x.1 = true) := hc
                have HBX : Hid (BoxAt w v wr) := hbx
                have hcc := hbx.cells
                have hbl := hbx.1
                rw [HV.out.1, HV.out.2.1, HV.out.2.2.1, HV.out.2.2.2] at hcc
                obtain ⟨q0, q1, q2, q3⟩ := hcc
                clear hc hbx
                have up : ∀ {p : Addr} {u : Value}, w.cell? p = some u → wr.cell? p = some u := fun h => (hbl.cell (World.block_lt_of_cell? _ _ h)).trans h
                by_cases hlt : k < n3
                · have hki : (k : Int) < (n3 : Int) := by omega
                  obtain ⟨⟨⟨nm, fr, tt, pa, po, fl⟩, v3, v4, v5⟩, hx⟩ : ∃ x, rs[k]? = some x := ⟨rs[k]'(by rw [HS3.out]; exact hlt), List.getElem?_eq_getElem _⟩
                  have hmem : (⟨nm, fr, tt, pa, po, fl⟩ : Rt) ∈ l.routes := by rw [← HM.out]; exact List.mem_map.2 ⟨_, List.mem_of_getElem? hx, rfl⟩
                  obtain ⟨hnz, hfi, hti, ⟨hpl, hpi⟩, ⟨hql, hqi⟩, ⟨hfl, hfli⟩⟩ := HMI.out.r.2 _ hmem
                  simp only [okI] at hnz hfi hti hpl hpi hql hqi hfl hfli
                  obtain ⟨hr3, hr4, hr5⟩ := HLR.out.x _ (List.mem_of_getElem? hx)
                  simp only at hr3 hr4 hr5
                  have C3 : Hid (∀ W, Below w.heap.size w W → Calls Tryd.prog 19 #[v3, .int .i64 n0] W fun e w' => e = .returned (.bool (placesB pa n0)) ∧ w' = W) := fun W hW => places_any _ _ _ W (hr3.below hW) hpl b0 hpi
                  have C4 : Hid (∀ W, Below w.heap.size w W → Calls Tryd.prog 20 #[v4, .int .i64 n1] W fun e w' => e = .returned (.bool (wantsB po n1)) ∧ w' = W) := fun W hW => wantsM_any _ _ _ W (hr4.below hW) hql b1 hqi
                  have C5 : Hid (∀ W, Below w.heap.size w W → Calls Tryd.prog 20 #[v5, .int .i64 n1] W fun e w' => e = .returned (.bool (wantsB fl n1)) ∧ w' = W) := fun W hW => wantsM_any _ _ _ W (hr5.below hW) hfl b1 hfli
                  have CP : Hid (∀ W, Below w.heap.size w W → Calls Tryd.prog 18 #[.string nm] W fun e w' => e = .returned (.bool (capB nm)) ∧ Below W.heap.size W w') := fun W hW => refCap_any nm W hnz (tabs_below HT.out hW)
                  obtain ⟨p3, k3, e3, _⟩ := hr3
                  obtain ⟨p4, k4, e4, _⟩ := hr4
                  obtain ⟨p5, k5, e5, _⟩ := hr5
                  obtain ⟨g, off, rfl, hcell⟩ := R3.out k _ hx
                  have HX : Hid (rs[k]? = some (⟨nm, fr, tt, pa, po, fl⟩, v3, v4, v5)) := hx
                  have d0 := up (hcell 0 _ rfl)
                  have d1 := up (hcell 1 _ rfl)
                  have d2 := up (hcell 2 _ rfl)
                  have d3 := up (hcell 3 _ rfl)
                  have d4 := up (hcell 4 _ rfl)
                  have d5 := up (hcell 5 _ rfl)
                  rw [Nat.add_zero] at d0
                  rw [e3] at d3 C3
                  rw [e4] at d4 C4
                  rw [e5] at d5 C5
                  have BAD : Hid (routeP l ⟨nm, fr, tt, pa, po, fl⟩ = false → mayB l = false) := fun hh => mayB_rt hmem hh
                  have GO : Hid (routeP l ⟨nm, fr, tt, pa, po, fl⟩ = true → ∀ x ∈ rs.take (k + 1), routeP l x.1 = true) := fun hh => take_more (P := fun y : RtV => routeP l y.1 = true) HX.out HC.out hh
                  have RE : Hid (routeP l ⟨nm, fr, tt, pa, po, fl⟩ = (capB nm && (decide ((0 ≤ fr ∧ fr < n2) ∧ (0 ≤ tt ∧ tt < n2)) && (placesB pa n0 && (wantsB po n1 && wantsB fl n1))))) := by
                    show _ = _
                    simp only [routeP, headP, HS0.out, HS1.out, HS2.out]
                  clear hcell up hx hmem e3 e4 e5 hpi hqi hfli
                  generalize pa.length = lp at *
                  generalize po.length = lq at *
                  generalize fl.length = lf at *
                  have hal : Below wr.heap.size wr (wr.alloc (.cells #[.string ⟨#[]⟩, .int .i64 0, .int .i64 0, .slice none 0 0, .slice none 0 0, .slice none 0 0] 37)) := (Below.refl _ _).alloc (Nat.le_refl _) _
                  obtain ⟨w1, hw1⟩ : ∃ w1, w1 = wr := ⟨wr, rfl⟩
                  subst hw1
                  go_wp2_with fail
                  have hb2 : Below w1.heap.size w1 (w1.alloc (.cells #[.string nm, .int .i64 fr, .int .i64 tt, .slice p3 lp k3, .slice p4 lq k4, .slice p5 lf k5] 37)) := (Below.refl _ _).alloc (Nat.le_refl _) _
                  have HRA : Hid (RouteAt w1.heap.size (.string nm) (.int .i64 fr) (.int .i64 tt) (.slice p3 lp k3) (.slice p4 lq k4) (.slice p5 lf k5) (w1.alloc (.cells #[.string nm, .int .i64 fr, .int .i64 tt, .slice p3 lp k3, .slice p4 lq k4, .slice p5 lf k5] 37))) := by refine ⟨?_, ?_, ?_, ?_, ?_, ?_⟩ <;> simp
                  generalize w1.alloc (.cells #[.string nm, .int .i64 fr, .int .i64 tt, .slice p3 lp k3, .slice p4 lq k4, .slice p5 lf k5] 37) = w2 at *
                  have HB2 : Hid (BoxAt w v w2) := HBX.out.step hb2
                  clear q0 q1 q2 q3 d0 d1 d2 d3 d4 d5 hal hbl HBX
                  have N := CP.out _ HB2.out.1
                  refine N.mono ?_
                  rintro e w3 ⟨rfl, hb3⟩
                  have HB3 : Hid (BoxAt w v w3) := HB2.out.step hb3
                  have HRB : Hid (RouteAt w1.heap.size (.string nm) (.int .i64 fr) (.int .i64 tt) (.slice p3 lp k3) (.slice p4 lq k4) (.slice p5 lf k5) w3) := HRA.out.step hb3
                  clear N hb3 hb2 HB2 HRA
                  have hcc := HB3.out.cells
                  have hbl := HB3.out.1
                  rw [HV.out.1, HV.out.2.1, HV.out.2.2.1, HV.out.2.2.2] at hcc
                  obtain ⟨q0, q1, q2, q3⟩ := hcc
                  obtain ⟨y0, y1, y2, y3, y4, y5⟩ := HRB.out
                  cases hcap : capB nm
                  · have HF : Hid (mayB l = false) := BAD.out (by rw [RE.out, hcap, Bool.false_and])
                    go_wp2_with fail
                    go_ret
                    exact ⟨ret_bool HF.out.symm, hbl⟩
                  have RE1 : Hid (routeP l ⟨nm, fr, tt, pa, po, fl⟩ = (decide ((0 ≤ fr ∧ fr < n2) ∧ (0 ≤ tt ∧ tt < n2)) && (placesB pa n0 && (wantsB po n1 && wantsB fl n1)))) := by
                    show _ = _
                    rw [RE.out, hcap, Bool.true_and]
                  clear hcap RE
                  by_cases a1 : fr < 0
                  · have HF : Hid (mayB l = false) := BAD.out (by rw [RE1.out, decide_eq_false (by omega), Bool.false_and])
                    go_wp2_with fail
                    go_ret
                    exact ⟨ret_bool HF.out.symm, hbl⟩
                  by_cases a2 : (n2 : Int) ≤ fr
                  · have HF : Hid (mayB l = false) := BAD.out (by rw [RE1.out, decide_eq_false (by omega), Bool.false_and])
                    go_wp2_with fail
                    go_ret
                    exact ⟨ret_bool HF.out.symm, hbl⟩
                  by_cases a3 : tt < 0
                  · have HF : Hid (mayB l = false) := BAD.out (by rw [RE1.out, decide_eq_false (by omega), Bool.false_and])
                    go_wp2_with fail
                    go_ret
                    exact ⟨ret_bool HF.out.symm, hbl⟩
                  by_cases a4 : (n2 : Int) ≤ tt
                  · have HF : Hid (mayB l = false) := BAD.out (by rw [RE1.out, decide_eq_false (by omega), Bool.false_and])
                    go_wp2_with fail
                    go_ret
                    exact ⟨ret_bool HF.out.symm, hbl⟩
                  have RE2 : Hid (routeP l ⟨nm, fr, tt, pa, po, fl⟩ = (placesB pa n0 && (wantsB po n1 && wantsB fl n1))) := by
                    show _ = _
                    rw [RE1.out, decide_eq_true (by omega), Bool.true_and]
                  clear RE1
                  have M3 := C3.out _ hbl
                  cases h3 : placesB pa n0
                  · rw [h3] at M3
                    have HF : Hid (mayB l = false) := BAD.out (by rw [RE2.out, h3, Bool.false_and])
                    go_wp2_with fail
                    refine M3.mono ?_
                    rintro e w4 ⟨rfl, rfl⟩
                    go_wp2_with fail
                    go_ret
                    exact ⟨ret_bool HF.out.symm, hbl⟩
                  rw [h3] at M3
                  have M4 := C4.out _ hbl
                  cases h4 : wantsB po n1
                  · rw [h4] at M4
                    have HF : Hid (mayB l = false) := BAD.out (by rw [RE2.out, h3, h4]; rfl)
                    go_wp2_with fail
                    refine M3.mono ?_
                    rintro e w4 ⟨rfl, rfl⟩
                    go_wp2_with fail
                    refine M4.mono ?_
                    rintro e w5 ⟨rfl, rfl⟩
                    go_wp2_with fail
                    go_ret
                    exact ⟨ret_bool HF.out.symm, hbl⟩
                  rw [h4] at M4
                  have M5 := C5.out _ hbl
                  cases h5 : wantsB fl n1
                  · rw [h5] at M5
                    have HF : Hid (mayB l = false) := BAD.out (by rw [RE2.out, h3, h4, h5]; rfl)
                    go_wp2_with fail
                    refine M3.mono ?_
                    rintro e w4 ⟨rfl, rfl⟩
                    go_wp2_with fail
                    refine M4.mono ?_
                    rintro e w5 ⟨rfl, rfl⟩
                    go_wp2_with fail
                    refine M5.mono ?_
                    rintro e w6 ⟨rfl, rfl⟩
                    go_wp2_with fail
                    go_ret
                    exact ⟨ret_bool HF.out.symm, hbl⟩
                  rw [h5] at M5
                  have HG : Hid (∀ x ∈ rs.take (k + 1), routeP l x.1 = true) := GO.out (by rw [RE2.out, h3, h4, h5]; rfl)
                  go_wp2_with fail
                  refine M3.mono ?_
                  rintro e w4 ⟨rfl, rfl⟩
                  go_wp2_with fail
                  refine M4.mono ?_
                  rintro e w5 ⟨rfl, rfl⟩
                  go_wp2_with fail
                  refine M5.mono ?_
                  rintro e w6 ⟨rfl, rfl⟩
                  go_wp2_with fail
                  go_roundg (n3 - (k + 1))
                  case rel => exact ⟨k + 1, rfl, by omega, by go_num, HG.out, HB3.out⟩
                  case measure => omega
                · have hki : ¬ (k : Int) < (n3 : Int) := by omega
                  have HF : Hid (mayB l = true) := by
                    show _ = _
                    rw [mayB, HAS.out, HAG.out, HAP.out, Bool.true_and, Bool.true_and, Bool.true_and, ← HM.out, List.all_eq_true]
                    intro y hy
                    obtain ⟨x, hx, rfl⟩ := List.mem_map.1 hy
                    have := HC.out
                    rw [take_all HS3.out (by omega)] at this
                    exact this x hx
                  clear up
                  go_wp2
                  go_ret
                  exact ⟨ret_bool HF.out.symm, hbl⟩
end Go.Proofs.YtgiaicmhnkhbnaaDoor
