/-
  The reference's Print of a layout that may be, by a contract.
-/
import Derived.Test.YtgiaicmhnkhbnaaDoorLyWants
import Derived.Deep.CutBlock
import Derived.Test.YtgiaicmhnkhbnaaDoorPlMay
namespace Go.Proofs.YtgiaicmhnkhbnaaDoor
open Go.RowKit

theorem wordsS_more {l : List ByteArray} {k : Nat} {x : ByteArray} (h : l[k]? = some x) : wordsS (l.take (k + 1)) = wordsS (l.take k) ++ [[kSection, x]] := by
  rw [take_snocI h, wordsS, List.map_append]
  rfl
theorem wordsG_more {l : List ByteArray} {k : Nat} {x : ByteArray} (h : l[k]? = some x) : wordsG (l.take (k + 1)) = wordsG (l.take k) ++ [[kSignal, x]] := by
  rw [take_snocI h, wordsG, List.map_append]
  rfl
theorem wordsP_more {l : Lay} {k : Nat} {x : ByteArray × Int} (h : l.points[k]? = some x) : wordsP l (l.points.take (k + 1)) = wordsP l (l.points.take k) ++ [[kPoint, x.1, kIn, nth l.sections x.2]] := by
  rw [take_snocI h, wordsP, List.map_append]
  rfl
theorem wordsR_more {l : Lay} {rs : List RtV} {k : Nat} {x : RtV} (h : rs[k]? = some x) : wordsR l ((rs.take (k + 1)).map (·.1)) = wordsR l ((rs.take k).map (·.1)) ++ [kRoute :: routeWords (rlOf l x.1)] := by
  rw [take_snocI h, wordsR, List.map_append, List.map_append]
  rfl

/-- A route that was put into memory. -/
def RouteAt (b : Nat) (c0 c1 c2 c3 c4 c5 : Value) (w : World) : Prop := w.cell? ⟨b, 0, none⟩ = some c0 ∧ w.cell? ⟨b, 1, none⟩ = some c1 ∧ w.cell? ⟨b, 2, none⟩ = some c2 ∧ w.cell? ⟨b, 3, none⟩ = some c3 ∧ w.cell? ⟨b, 4, none⟩ = some c4 ∧ w.cell? ⟨b, 5, none⟩ = some c5
theorem RouteAt.step {b : Nat} {c0 c1 c2 c3 c4 c5 : Value} {w w' : World} (h : RouteAt b c0 c1 c2 c3 c4 c5 w) (hb : Below w.heap.size w w') : RouteAt b c0 c1 c2 c3 c4 c5 w' := by
  have up : ∀ {p : Addr} {u : Value}, w.cell? p = some u → w'.cell? p = some u := fun h => (hb.cell (World.block_lt_of_cell? _ _ h)).trans h
  exact ⟨up h.1, up h.2.1, up h.2.2.1, up h.2.2.2.1, up h.2.2.2.2.1, up h.2.2.2.2.2⟩

set_option maxRecDepth 1000000 in
set_option maxHeartbeats 16000000 in
theorem refPrint_any (v : Nat → Value) (l : Lay) (rs : List RtV) (w : World) (h : LayRd w v l rs) (hL : IsP l) (hs : LaySmall l) :
    Calls Tryd.prog 9 #[.agg #[v 0, v 1, v 2, v 3]] w fun e w' => e = .returned (.string (printT l)) ∧ (printT l).size ≤ 100000000000 ∧ Below w.heap.size w w' := by
  have HLR : Hid (LayRd w v l rs) := h
  have HL : Hid (IsP l) := hL
  have HM : Hid (rs.map (·.1) = l.routes) := h.m
  have HSM : Hid (LaySmall l) := hs
  have hlr : l.routes.length = rs.length := by rw [← h.m, List.length_map]
  obtain ⟨o0, c0, e0, r0⟩ := h.s
  obtain ⟨o1, c1, e1, r1⟩ := h.p
  obtain ⟨o2, c2, e2, r2⟩ := h.g
  obtain ⟨o3, c3, e3, r3⟩ := h.r
  have R0 : Hid (∀ j x, l.sections[j]? = some x → ∃ g off, o0 = some ⟨g, off, none⟩ ∧ ∀ i u, (sC x)[i]? = some u → w.cell? ⟨g, off + j * 1 + i, none⟩ = some u) := r0
  have R1 : Hid (∀ j x, l.points[j]? = some x → ∃ g off, o1 = some ⟨g, off, none⟩ ∧ ∀ i u, (pC x)[i]? = some u → w.cell? ⟨g, off + j * 2 + i, none⟩ = some u) := r1
  have R2 : Hid (∀ j x, l.signals[j]? = some x → ∃ g off, o2 = some ⟨g, off, none⟩ ∧ ∀ i u, (sC x)[i]? = some u → w.cell? ⟨g, off + j * 1 + i, none⟩ = some u) := r2
  have R3 : Hid (∀ j x, rs[j]? = some x → ∃ g off, o3 = some ⟨g, off, none⟩ ∧ ∀ i u, (rC x)[i]? = some u → w.cell? ⟨g, off + j * 6 + i, none⟩ = some u) := r3
  have b0 := hL.s.1
  have b1 := hL.p.1
  have b2 := hL.g.1
  have b3 := hL.r.1
  rw [hlr] at b3
  have HLEN : Hid (l.routes.length = rs.length) := hlr
  have S := BoxAt.start w v
  have HV : Hid (v 0 = .slice o0 l.sections.length c0 ∧ v 1 = .slice o1 l.points.length c1 ∧ v 2 = .slice o2 l.signals.length c2 ∧ v 3 = .slice o3 rs.length c3) := ⟨e0, e1, e2, e3⟩
  rw [e0, e1, e2, e3] at S ⊢
  clear h r0 r1 r2 r3 e0 e1 e2 e3 hL hs hlr
  generalize hs0 : l.sections.length = n0 at *
  generalize hs1 : l.points.length = n1 at *
  generalize hs2 : l.signals.length = n2 at *
  generalize hs3 : rs.length = n3 at *
  have HS0 : Hid (l.sections.length = n0) := hs0
  have HS1 : Hid (l.points.length = n1) := hs1
  have HS2 : Hid (l.signals.length = n2) := hs2
  have HS3 : Hid (rs.length = n3) := hs3
  clear hs0 hs1 hs2 hs3
  have SB : Hid (BoxAt w v (w.alloc (.cells #[.slice o0 n0 c0, .slice o1 n1 c1, .slice o2 n2 c2, .slice o3 n3 c3] 26))) := S
  clear S
  go_enter Tryd.func9, Tryd.ntmps9
  go_wp2
  go_loopg [3, 4] n0 (fun gk s i wr => ∃ k : Nat, gk = n0 - k ∧ k ≤ n0 ∧ i = .int .i64 k ∧ s = .string (cur (wordsS (l.sections.take k)) []) ∧ (cur (wordsS (l.sections.take k)) []).size ≤ 3100 * k ∧ BoxAt w v wr)
  case atStart => exact ⟨0, rfl, by omega, rfl, rfl, by show (⟨#[]⟩ : ByteArray).size ≤ _; decide, SB.out⟩
  case round =>
    obtain ⟨k, rfl, hk, rfl, rfl, hz, hbx⟩ := hrel
    have HBX : Hid (BoxAt w v wr) := hbx
    have hcc := hbx.cells
    have hbl := hbx.1
    rw [HV.out.1, HV.out.2.1, HV.out.2.2.1, HV.out.2.2.2] at hcc
    obtain ⟨q0, q1, q2, q3⟩ := hcc
    clear hbx
    have up : ∀ {p : Addr} {u : Value}, w.cell? p = some u → wr.cell? p = some u := fun h => (hbl.cell (World.block_lt_of_cell? _ _ h)).trans h
    by_cases hlt : k < n0
    · have hki : (k : Int) < (n0 : Int) := by omega
      obtain ⟨x, hx⟩ : ∃ x, l.sections[k]? = some x := ⟨l.sections[k]'(by rw [HS0.out]; exact hlt), List.getElem?_eq_getElem _⟩
      have hxz := HSM.out.s.2 x (List.mem_of_getElem? hx)
      obtain ⟨g, off, rfl, hcell⟩ := R0.out k _ hx
      have d0 := up (hcell 0 _ rfl)
      rw [show off + k * 1 + 0 = off + k by omega] at d0
      have GO : Hid (cur (wordsS (l.sections.take k)) [] ++ ⟨#[115, 101, 99, 116, 105, 111, 110, 32]⟩ ++ x ++ ⟨#[10]⟩ = cur (wordsS (l.sections.take (k + 1))) []) := by
        show _ = _
        rw [cur_section, wordsS_more hx]
      have GOZ : Hid ((cur (wordsS (l.sections.take (k + 1))) []).size ≤ 3100 * (k + 1)) := (by show _ ≤ _; rw [← GO.out]; simp only [ByteArray.size_append]; have a0 : (⟨#[115, 101, 99, 116, 105, 111, 110, 32]⟩ : ByteArray).size = 8 := rfl; have a1 : (⟨#[10]⟩ : ByteArray).size = 1 := rfl; omega)
      clear hcell up hx
      generalize hss : cur (wordsS (l.sections.take k)) [] = ss at *
      clear hss
      go_wp2
      go_roundg (n0 - (k + 1))
      case rel => exact ⟨k + 1, rfl, by omega, by go_num, by rw [GO.out], GOZ.out, HBX.out⟩
      case measure => omega
    · have hki : ¬ (k : Int) < (n0 : Int) := by omega
      have hz' : (cur (wordsS (l.sections.take k)) []).size ≤ 3100 * 3000 := by omega
      rw [take_all HS0.out (by omega)] at hz' ⊢
      clear hz up hlt
      go_wp2_with fail
      clear q0 q1 q2 q3 hki hbl
      go_loopg [3, 5] n2 (fun gk s i wr => ∃ k : Nat, gk = n2 - k ∧ k ≤ n2 ∧ i = .int .i64 k ∧ s = .string (cur (wordsS l.sections ++ wordsG (l.signals.take k)) []) ∧ (cur (wordsS l.sections ++ wordsG (l.signals.take k)) []).size ≤ 9300000 + 3100 * k ∧ BoxAt w v wr)
      case atStart => exact ⟨0, rfl, by omega, rfl, by simp [wordsG], by simp only [List.take_zero, wordsG, List.map_nil, List.append_nil]; omega, HBX.out⟩
      case round =>
        obtain ⟨k, rfl, hk, rfl, rfl, hz, hbx⟩ := hrel
        have HBX : Hid (BoxAt w v wr) := hbx
        have hcc := hbx.cells
        have hbl := hbx.1
        rw [HV.out.1, HV.out.2.1, HV.out.2.2.1, HV.out.2.2.2] at hcc
        obtain ⟨q0, q1, q2, q3⟩ := hcc
        clear hbx
        have up : ∀ {p : Addr} {u : Value}, w.cell? p = some u → wr.cell? p = some u := fun h => (hbl.cell (World.block_lt_of_cell? _ _ h)).trans h
        by_cases hlt : k < n2
        · have hki : (k : Int) < (n2 : Int) := by omega
          obtain ⟨x, hx⟩ : ∃ x, l.signals[k]? = some x := ⟨l.signals[k]'(by rw [HS2.out]; exact hlt), List.getElem?_eq_getElem _⟩
          have hxz := HSM.out.g.2 x (List.mem_of_getElem? hx)
          obtain ⟨g, off, rfl, hcell⟩ := R2.out k _ hx
          have d0 := up (hcell 0 _ rfl)
          rw [show off + k * 1 + 0 = off + k by omega] at d0
          have GO : Hid (cur (wordsS l.sections ++ wordsG (l.signals.take k)) [] ++ ⟨#[115, 105, 103, 110, 97, 108, 32]⟩ ++ x ++ ⟨#[10]⟩ = cur (wordsS l.sections ++ wordsG (l.signals.take (k + 1))) []) := by
            show _ = _
            rw [cur_signal, wordsG_more hx, List.append_assoc]
          have GOZ : Hid ((cur (wordsS l.sections ++ wordsG (l.signals.take (k + 1))) []).size ≤ 9300000 + 3100 * (k + 1)) := (by show _ ≤ _; rw [← GO.out]; simp only [ByteArray.size_append]; have a0 : (⟨#[115, 105, 103, 110, 97, 108, 32]⟩ : ByteArray).size = 7 := rfl; have a1 : (⟨#[10]⟩ : ByteArray).size = 1 := rfl; omega)
          clear hcell up hx
          generalize hss : cur (wordsS l.sections ++ wordsG (l.signals.take k)) [] = ss at *
          clear hss
          go_wp2
          go_roundg (n2 - (k + 1))
          case rel => exact ⟨k + 1, rfl, by omega, by go_num, by rw [GO.out], GOZ.out, HBX.out⟩
          case measure => omega
        · have hki : ¬ (k : Int) < (n2 : Int) := by omega
          have hz' : (cur (wordsS l.sections ++ wordsG (l.signals.take k)) []).size ≤ 9300000 + 3100 * 3000 := by omega
          rw [take_all HS2.out (by omega)] at hz' ⊢
          clear hz up hlt
          go_wp2_with fail
          clear q0 q1 q2 q3 hki hbl
          go_loopg [3, 6] n1 (fun gk s i wr => ∃ k : Nat, gk = n1 - k ∧ k ≤ n1 ∧ i = .int .i64 k ∧ s = .string (cur (wordsS l.sections ++ (wordsG l.signals ++ wordsP l (l.points.take k))) []) ∧ (cur (wordsS l.sections ++ (wordsG l.signals ++ wordsP l (l.points.take k))) []).size ≤ 18600000 + 6100 * k ∧ BoxAt w v wr)
          case atStart => exact ⟨0, rfl, by omega, rfl, by simp [wordsP], by simp only [List.take_zero, wordsP, List.map_nil, List.append_nil]; omega, HBX.out⟩
          case round =>
            obtain ⟨k, rfl, hk, rfl, rfl, hz, hbx⟩ := hrel
            have HBX : Hid (BoxAt w v wr) := hbx
            have hcc := hbx.cells
            have hbl := hbx.1
            rw [HV.out.1, HV.out.2.1, HV.out.2.2.1, HV.out.2.2.2] at hcc
            obtain ⟨q0, q1, q2, q3⟩ := hcc
            clear hbx
            have up : ∀ {p : Addr} {u : Value}, w.cell? p = some u → wr.cell? p = some u := fun h => (hbl.cell (World.block_lt_of_cell? _ _ h)).trans h
            by_cases hlt : k < n1
            · have hki : (k : Int) < (n1 : Int) := by omega
              obtain ⟨⟨pn, ps⟩, hx⟩ : ∃ x, l.points[k]? = some x := ⟨l.points[k]'(by rw [HS1.out]; exact hlt), List.getElem?_eq_getElem _⟩
              have hxz := HSM.out.p.2 _ (List.mem_of_getElem? hx)
              have hin := (HL.out.p.2.2 _ (List.mem_of_getElem? hx)).2
              rw [HS0.out] at hin
              simp only at hxz hin
              obtain ⟨m, rfl⟩ : ∃ m : Nat, ps = m := ⟨ps.toNat, by omega⟩
              obtain ⟨y, hy⟩ : ∃ y, l.sections[m]? = some y := ⟨l.sections[m]'(by rw [HS0.out]; omega), List.getElem?_eq_getElem _⟩
              have hyz := HSM.out.s.2 _ (List.mem_of_getElem? hy)
              obtain ⟨g, off, rfl, hcell⟩ := R1.out k _ hx
              obtain ⟨g', off', rfl, hcell'⟩ := R0.out m _ hy
              have d0 := up (hcell 0 _ rfl)
              have d1 := up (hcell 1 _ rfl)
              have d2 := up (hcell' 0 _ rfl)
              rw [Nat.add_zero] at d0
              rw [show off' + m * 1 + 0 = off' + m by omega] at d2
              have hmi : (m : Int) < (n0 : Int) := by omega
              have hmn : m < n0 := by omega
              have GO : Hid (cur (wordsS l.sections ++ (wordsG l.signals ++ wordsP l (l.points.take k))) [] ++ ⟨#[112, 111, 105, 110, 116, 32]⟩ ++ pn ++ ⟨#[32, 105, 110, 32]⟩ ++ y ++ ⟨#[10]⟩ = cur (wordsS l.sections ++ (wordsG l.signals ++ wordsP l (l.points.take (k + 1)))) []) := by
                show _ = _
                rw [cur_point, wordsP_more hx, nth_at hy, List.append_assoc, List.append_assoc]
              have GOZ : Hid ((cur (wordsS l.sections ++ (wordsG l.signals ++ wordsP l (l.points.take (k + 1)))) []).size ≤ 18600000 + 6100 * (k + 1)) := (by show _ ≤ _; rw [← GO.out]; simp only [ByteArray.size_append]; have a0 : (⟨#[112, 111, 105, 110, 116, 32]⟩ : ByteArray).size = 6 := rfl; have a1 : (⟨#[32, 105, 110, 32]⟩ : ByteArray).size = 4 := rfl; have a2 : (⟨#[10]⟩ : ByteArray).size = 1 := rfl; omega)
              clear hcell hcell' up hx hy hin
              generalize hss : cur (wordsS l.sections ++ (wordsG l.signals ++ wordsP l (l.points.take k))) [] = ss at *
              clear hss
              go_wp2_with fail
              go_quiet (fail)
              go_wp2
              go_roundg (n1 - (k + 1))
              case rel => exact ⟨k + 1, rfl, by omega, by go_num, by rw [GO.out], GOZ.out, HBX.out.step (_root_.Go.below_drewN (Below.refl _ _) _)⟩
              case measure => omega
            · have hki : ¬ (k : Int) < (n1 : Int) := by omega
              have hz' : (cur (wordsS l.sections ++ (wordsG l.signals ++ wordsP l (l.points.take k))) []).size ≤ 18600000 + 6100 * 3000 := by omega
              rw [take_all HS1.out (by omega)] at hz' ⊢
              clear hz up hlt
              go_wp2_with fail
              clear q0 q1 q2 q3 hki hbl
              go_loopg [3, 7] n3 (fun gk s i wr => ∃ k : Nat, gk = n3 - k ∧ k ≤ n3 ∧ i = .int .i64 k ∧ s = .string (cur (wordsS l.sections ++ (wordsG l.signals ++ (wordsP l l.points ++ wordsR l ((rs.take k).map (·.1))))) []) ∧ (cur (wordsS l.sections ++ (wordsG l.signals ++ (wordsP l l.points ++ wordsR l ((rs.take k).map (·.1))))) []).size ≤ 36900000 + 30000000 * k ∧ BoxAt w v wr)
              case atStart => exact ⟨0, rfl, by omega, rfl, by simp [wordsR], by simp only [List.take_zero, List.map_nil, wordsR, List.append_nil]; omega, HBX.out⟩
              case round =>
                obtain ⟨k, rfl, hk, rfl, rfl, hz, hbx⟩ := hrel
                have HBX : Hid (BoxAt w v wr) := hbx
                have hcc := hbx.cells
                have hbl := hbx.1
                rw [HV.out.1, HV.out.2.1, HV.out.2.2.1, HV.out.2.2.2] at hcc
                obtain ⟨q0, q1, q2, q3⟩ := hcc
                clear hbx
                have up : ∀ {p : Addr} {u : Value}, w.cell? p = some u → wr.cell? p = some u := fun h => (hbl.cell (World.block_lt_of_cell? _ _ h)).trans h
                by_cases hlt : k < n3
                · have hki : (k : Int) < (n3 : Int) := by omega
                  obtain ⟨⟨⟨nm, fr, tt, pa, po, fl⟩, v3, v4, v5⟩, hx⟩ : ∃ x, rs[k]? = some x := ⟨rs[k]'(by rw [HS3.out]; exact hlt), List.getElem?_eq_getElem _⟩
                  have hmem : (⟨nm, fr, tt, pa, po, fl⟩ : Rt) ∈ l.routes := by rw [← HM.out]; exact List.mem_map.2 ⟨_, List.mem_of_getElem? hx, rfl⟩
                  have hok := (HL.out.r.2.2 _ hmem).2
                  have hnz := (HSM.out.r.2 _ hmem).1
                  obtain ⟨⟨f0, f1⟩, ⟨t0, t1⟩, ⟨_, hp5, hpi⟩, ⟨hq5, hqi⟩, ⟨hf5, hfi⟩⟩ := hok
                  rw [HS2.out] at f1 t1
                  simp only at f0 f1 t0 t1 hp5 hpi hq5 hqi hf5 hfi hnz
                  have HPI : Hid (∀ i ∈ pa, 0 ≤ i ∧ i < l.sections.length) := hpi
                  have HQI : Hid (∀ n ∈ po, 0 ≤ n.1 ∧ n.1 < l.points.length) := hqi
                  have HFI : Hid (∀ n ∈ fl, 0 ≤ n.1 ∧ n.1 < l.points.length) := hfi
                  obtain ⟨a, rfl⟩ : ∃ m : Nat, fr = m := ⟨fr.toNat, by omega⟩
                  obtain ⟨b, rfl⟩ : ∃ m : Nat, tt = m := ⟨tt.toNat, by omega⟩
                  obtain ⟨ya, hya⟩ : ∃ y, l.signals[a]? = some y := ⟨l.signals[a]'(by rw [HS2.out]; omega), List.getElem?_eq_getElem _⟩
                  obtain ⟨yb, hyb⟩ : ∃ y, l.signals[b]? = some y := ⟨l.signals[b]'(by rw [HS2.out]; omega), List.getElem?_eq_getElem _⟩
                  have hyaz := HSM.out.g.2 _ (List.mem_of_getElem? hya)
                  have hybz := HSM.out.g.2 _ (List.mem_of_getElem? hyb)
                  obtain ⟨hr3, hr4, hr5⟩ := HLR.out.x _ (List.mem_of_getElem? hx)
                  simp only at hr3 hr4 hr5
                  have HR3 : Hid (rowAt w v3 1 iC pa) := hr3
                  have HR4 : Hid (rowAt w v4 2 nC po) := hr4
                  have HR5 : Hid (rowAt w v5 2 nC fl) := hr5
                  obtain ⟨p3, k3, e3, s3⟩ := hr3
                  obtain ⟨p4, k4, e4, _⟩ := hr4
                  obtain ⟨p5, k5, e5, _⟩ := hr5
                  have RP : Hid (∀ j x, pa[j]? = some x → ∃ g off, p3 = some ⟨g, off, none⟩ ∧ ∀ i u, (iC x)[i]? = some u → w.cell? ⟨g, off + j * 1 + i, none⟩ = some u) := s3
                  obtain ⟨g, off, rfl, hcell⟩ := R3.out k _ hx
                  obtain ⟨ga, offa, rfl, hca⟩ := R2.out a _ hya
                  obtain ⟨gb, offb, hgb, hcb⟩ := R2.out b _ hyb
                  injection hgb with hgb
                  injection hgb with hg1 hg2 _
                  subst hg1 hg2
                  have d0 := up (hcell 0 _ rfl)
                  have d1 := up (hcell 1 _ rfl)
                  have d2 := up (hcell 2 _ rfl)
                  have d3 := up (hcell 3 _ rfl)
                  have d4 := up (hcell 4 _ rfl)
                  have d5 := up (hcell 5 _ rfl)
                  have da := hca 0 _ rfl
                  have db := hcb 0 _ rfl
                  rw [show offa + a * 1 + 0 = offa + a by omega] at da
                  rw [show offa + b * 1 + 0 = offa + b by omega] at db
                  rw [Nat.add_zero] at d0
                  rw [e3] at d3 HR3
                  rw [e4] at d4 HR4
                  rw [e5] at d5 HR5
                  have DA : Hid (w.cell? ⟨ga, offa + a, none⟩ = some (.string ya) ∧ w.cell? ⟨ga, offa + b, none⟩ = some (.string yb)) := ⟨da, db⟩
                  have HYA : Hid (nth l.signals (a : Int) = ya ∧ nth l.signals (b : Int) = yb) := ⟨nth_at hya, nth_at hyb⟩
                  have HX : Hid (rs[k]? = some (⟨nm, a, b, pa, po, fl⟩, v3, v4, v5)) := hx
                  have hai : (a : Int) < (n2 : Int) := by omega
                  have hbi : (b : Int) < (n2 : Int) := by omega
                  have han : a < n2 := by omega
                  have hbn : b < n2 := by omega
                  generalize hsp : pa.length = lp at *
                  generalize hsq : po.length = lq at *
                  generalize hsf : fl.length = lf at *
                  have HSP : Hid (pa.length = lp) := hsp
                  have HSQ : Hid (po.length = lq) := hsq
                  have HSF : Hid (fl.length = lf) := hsf
                  clear hcell hca hcb up hx hya hyb hmem hpi hqi hfi s3 e3 e4 e5 da db hsp hsq hsf f0 f1 t0 t1
                  have hal : Below wr.heap.size wr (wr.alloc (.cells #[.string ⟨#[]⟩, .int .i64 0, .int .i64 0, .slice none 0 0, .slice none 0 0, .slice none 0 0] 37)) := (Below.refl _ _).alloc (Nat.le_refl _) _
                  generalize hss : cur (wordsS l.sections ++ (wordsG l.signals ++ (wordsP l l.points ++ wordsR l ((rs.take k).map (·.1))))) [] = ss at *
                  have HSS : Hid (cur (wordsS l.sections ++ (wordsG l.signals ++ (wordsP l l.points ++ wordsR l ((rs.take k).map (·.1))))) [] = ss) := hss
                  clear hss
                  obtain ⟨w1, hw1⟩ : ∃ w1, w1 = wr := ⟨wr, rfl⟩
                  subst hw1
                  go_wp2_with fail
                  have hb2 : Below w1.heap.size w1 (w1.alloc (.cells #[.string nm, .int .i64 a, .int .i64 b, .slice p3 lp k3, .slice p4 lq k4, .slice p5 lf k5] 37)) := (Below.refl _ _).alloc (Nat.le_refl _) _
                  have HRA : Hid (RouteAt w1.heap.size (.string nm) (.int .i64 a) (.int .i64 b) (.slice p3 lp k3) (.slice p4 lq k4) (.slice p5 lf k5) (w1.alloc (.cells #[.string nm, .int .i64 a, .int .i64 b, .slice p3 lp k3, .slice p4 lq k4, .slice p5 lf k5] 37))) := by refine ⟨?_, ?_, ?_, ?_, ?_, ?_⟩ <;> simp
                  generalize w1.alloc (.cells #[.string nm, .int .i64 a, .int .i64 b, .slice p3 lp k3, .slice p4 lq k4, .slice p5 lf k5] 37) = w2 at *
                  have HB2 : Hid (BoxAt w v w2) := HBX.out.step hb2
                  clear q0 q1 q2 q3 d0 d1 d2 d3 d4 d5 hal hb2 hbl HBX
                  have hcc := HB2.out.cells
                  rw [HV.out.1, HV.out.2.1, HV.out.2.2.1, HV.out.2.2.2] at hcc
                  obtain ⟨q0, q1, q2, q3⟩ := hcc
                  obtain ⟨y0, y1, y2, y3, y4, y5⟩ := HRA.out
                  have da := (HB2.out.1.cell (World.block_lt_of_cell? _ _ DA.out.1)).trans DA.out.1
                  have db := (HB2.out.1.cell (World.block_lt_of_cell? _ _ DA.out.2)).trans DA.out.2
                  have G7 : Hid (ss ++ ⟨#[114, 111, 117, 116, 101, 32]⟩ ++ nm ++ ⟨#[32, 102, 114, 111, 109, 32]⟩ ++ ya ++ ⟨#[32, 116, 111, 32]⟩ ++ yb ++ ⟨#[32, 118, 105, 97]⟩ = cur (wordsS l.sections ++ (wordsG l.signals ++ (wordsP l l.points ++ wordsR l ((rs.take k).map (·.1))))) [kRoute, nm, kFrom, ya, kTo, yb, kVia]) := by
                    show _ = _
                    rw [← HSS.out, cur_route]
                  have Z7 : Hid ((cur (wordsS l.sections ++ (wordsG l.signals ++ (wordsP l l.points ++ wordsR l ((rs.take k).map (·.1))))) [kRoute, nm, kFrom, ya, kTo, yb, kVia]).size ≤ 36909100 + 30000000 * k) := (by show _ ≤ _; rw [← G7.out]; simp only [ByteArray.size_append]; have a0 : (⟨#[114, 111, 117, 116, 101, 32]⟩ : ByteArray).size = 6 := rfl; have a1 : (⟨#[32, 102, 114, 111, 109, 32]⟩ : ByteArray).size = 6 := rfl; have a2 : (⟨#[32, 116, 111, 32]⟩ : ByteArray).size = 4 := rfl; have a3 : (⟨#[32, 118, 105, 97]⟩ : ByteArray).size = 4 := rfl; omega)
                  have G8 : Hid (∀ X, X = cur (wordsS l.sections ++ (wordsG l.signals ++ (wordsP l l.points ++ wordsR l ((rs.take k).map (·.1))))) ([kRoute, nm, kFrom, ya, kTo, yb, kVia] ++ (pa.map (nth l.sections) ++ (wantRow kSet (po.map (wantOf l)) ++ wantRow kFlank (fl.map (wantOf l))))) → X ++ ⟨#[10]⟩ = cur (wordsS l.sections ++ (wordsG l.signals ++ (wordsP l l.points ++ wordsR l ((rs.take (k + 1)).map (·.1))))) []) := fun X hX => by
                    rw [hX, cur_end, wordsR_more HX.out]
                    simp only [List.append_assoc, rlOf, routeWords, HYA.out.1, HYA.out.2]
                    rfl
                  generalize hD : wordsS l.sections ++ (wordsG l.signals ++ (wordsP l l.points ++ wordsR l ((rs.take k).map (·.1)))) = D at *
                  clear hD
                  go_quiet (fail)
                  go_wp2_with fail
                  rw [G7.out]
                  clear G7 q0 q1 q2 q3 y0 y1 y2 y3 y4 y5 da db
                  go_loopg [3, 9] lp (fun gk s i wq => ∃ j : Nat, gk = lp - j ∧ j ≤ lp ∧ i = .int .i64 j ∧ s = .string (cur D ([kRoute, nm, kFrom, ya, kTo, yb, kVia] ++ (pa.take j).map (nth l.sections))) ∧ (cur D ([kRoute, nm, kFrom, ya, kTo, yb, kVia] ++ (pa.take j).map (nth l.sections))).size ≤ 36909100 + 30000000 * k + 3100 * j ∧ Below w2.heap.size w2 wq)
                  case atStart => exact ⟨0, rfl, by omega, rfl, by simp, by have := Z7.out; simp only [List.take_zero, List.map_nil, List.append_nil]; omega, _root_.Go.below_drewN (Below.refl _ _) _⟩
                  case round =>
                    obtain ⟨j, rfl, hj, rfl, rfl, hzj, hb3⟩ := hrel
                    have HB3 : Hid (BoxAt w v wr) := HB2.out.step hb3
                    have hcc := HB3.out.cells
                    have hbl := HB3.out.1
                    rw [HV.out.1, HV.out.2.1, HV.out.2.2.1, HV.out.2.2.2] at hcc
                    obtain ⟨q0, q1, q2, q3⟩ := hcc
                    obtain ⟨y0, y1, y2, y3, y4, y5⟩ := HRA.out.step hb3
                    have up : ∀ {p : Addr} {u : Value}, w.cell? p = some u → wr.cell? p = some u := fun h => (hbl.cell (World.block_lt_of_cell? _ _ h)).trans h
                    by_cases hlj : j < lp
                    · have hji : (j : Int) < (lp : Int) := by omega
                      obtain ⟨x, hx⟩ : ∃ x, pa[j]? = some x := ⟨pa[j]'(by rw [HSP.out]; exact hlj), List.getElem?_eq_getElem _⟩
                      have hxi := HPI.out x (List.mem_of_getElem? hx)
                      rw [HS0.out] at hxi
                      obtain ⟨m, rfl⟩ : ∃ m : Nat, x = m := ⟨x.toNat, by omega⟩
                      obtain ⟨y, hy⟩ : ∃ y, l.sections[m]? = some y := ⟨l.sections[m]'(by rw [HS0.out]; omega), List.getElem?_eq_getElem _⟩
                      have hyz := HSM.out.s.2 _ (List.mem_of_getElem? hy)
                      obtain ⟨g3, off3, rfl, hc3⟩ := RP.out j _ hx
                      obtain ⟨g0, off0, rfl, hc0⟩ := R0.out m _ hy
                      have x0 := up (hc3 0 _ rfl)
                      have x1 := up (hc0 0 _ rfl)
                      rw [show off3 + j * 1 + 0 = off3 + j by omega] at x0
                      rw [show off0 + m * 1 + 0 = off0 + m by omega] at x1
                      have hmi : (m : Int) < (n0 : Int) := by omega
                      have hmn : m < n0 := by omega
                      have GO : Hid (cur D ([kRoute, nm, kFrom, ya, kTo, yb, kVia] ++ (pa.take j).map (nth l.sections)) ++ ⟨#[32]⟩ ++ y = cur D ([kRoute, nm, kFrom, ya, kTo, yb, kVia] ++ (pa.take (j + 1)).map (nth l.sections))) := by
                        show _ = _
                        rw [cur_word (by simp), take_snocI hx, List.map_append, List.append_assoc, List.map_singleton, nth_at hy]
                      have GOZ : Hid ((cur D ([kRoute, nm, kFrom, ya, kTo, yb, kVia] ++ (pa.take (j + 1)).map (nth l.sections))).size ≤ 36909100 + 30000000 * k + 3100 * (j + 1)) := (by show _ ≤ _; rw [← GO.out]; simp only [ByteArray.size_append]; have a0 : (⟨#[32]⟩ : ByteArray).size = 1 := rfl; omega)
                      clear hc3 hc0 up hx hy hxi
                      generalize hs5 : cur D ([kRoute, nm, kFrom, ya, kTo, yb, kVia] ++ (pa.take j).map (nth l.sections)) = s5 at *
                      clear hs5
                      go_wp2_with fail
                      go_quiet (fail)
                      go_wp2
                      go_roundg (lp - (j + 1))
                      case rel => exact ⟨j + 1, rfl, by omega, by go_num, by rw [GO.out], GOZ.out, _root_.Go.below_drewN hb3 _⟩
                      case measure => omega
                    · have hji : ¬ (j : Int) < (lp : Int) := by omega
                      have hz5 : (cur D ([kRoute, nm, kFrom, ya, kTo, yb, kVia] ++ (pa.take j).map (nth l.sections))).size ≤ 46209100 + 30000000 * k := by omega
                      rw [take_all HSP.out (by omega)] at hz5 ⊢
                      have W4 : Hid (∀ W, Below wr.heap.size wr W → Calls Tryd.prog 25 #[.agg #[.slice o0 n0 c0, .slice o1 n1 c1, .slice (some ⟨ga, offa, none⟩) n2 c2, .slice (some ⟨g, off, none⟩) n3 c3], .slice p4 lq k4] W fun e w' => e = .returned (.string (wantsT (po.map (wantOf l)))) ∧ Below W.heap.size W w') := fun W hW => by
                        have hbW : Below w.heap.size w W := hbl.trans (hW.mono hbl.size)
                        have := refWants_any v l rs _ po W (HLR.out.below hbW) (HR4.out.below hbW) (by rw [HSQ.out]; omega) HSM.out.p.2 (by rw [HS1.out]; omega) HQI.out
                        rw [HV.out.1, HV.out.2.1, HV.out.2.2.1, HV.out.2.2.2] at this
                        exact this
                      have W5 : Hid (∀ W, Below wr.heap.size wr W → Calls Tryd.prog 25 #[.agg #[.slice o0 n0 c0, .slice o1 n1 c1, .slice (some ⟨ga, offa, none⟩) n2 c2, .slice (some ⟨g, off, none⟩) n3 c3], .slice p5 lf k5] W fun e w' => e = .returned (.string (wantsT (fl.map (wantOf l)))) ∧ Below W.heap.size W w') := fun W hW => by
                        have hbW : Below w.heap.size w W := hbl.trans (hW.mono hbl.size)
                        have := refWants_any v l rs _ fl W (HLR.out.below hbW) (HR5.out.below hbW) (by rw [HSF.out]; omega) HSM.out.p.2 (by rw [HS1.out]; omega) HFI.out
                        rw [HV.out.1, HV.out.2.1, HV.out.2.2.1, HV.out.2.2.2] at this
                        exact this
                      have wz : ∀ xs : List (Int × Bool), (wantsT (xs.map (wantOf l))).size ≤ 3002 * xs.length := fun xs => by
                        have := wantsT_size (xs := xs.map (wantOf l)) fun y hy => by
                          obtain ⟨z, _, rfl⟩ := List.mem_map.1 hy
                          exact nth_size (fun q hq => by
                            obtain ⟨q', h1, rfl⟩ := List.mem_map.1 hq
                            exact HSM.out.p.2 q' h1) _
                        rw [List.length_map] at this
                        exact this
                      have z4 := wz po
                      have z5 := wz fl
                      rw [HSQ.out] at z4
                      rw [HSF.out] at z5
                      have GS : Hid (0 < lq → cur D ([kRoute, nm, kFrom, ya, kTo, yb, kVia] ++ pa.map (nth l.sections)) ++ ⟨#[32, 115, 101, 116]⟩ ++ wantsT (po.map (wantOf l)) = cur D ([kRoute, nm, kFrom, ya, kTo, yb, kVia] ++ (pa.map (nth l.sections) ++ wantRow kSet (po.map (wantOf l))))) := fun hq => by
                        rw [cur_set (by simp) _ (fun e => by rw [List.map_eq_nil_iff] at e; have := HSQ.out; rw [e] at this; simp at this; omega), List.append_assoc]
                      have GN : Hid (lq = 0 → cur D ([kRoute, nm, kFrom, ya, kTo, yb, kVia] ++ pa.map (nth l.sections)) = cur D ([kRoute, nm, kFrom, ya, kTo, yb, kVia] ++ (pa.map (nth l.sections) ++ wantRow kSet (po.map (wantOf l))))) := fun hq => by
                        have : po = [] := List.length_eq_zero_iff.1 (by rw [HSQ.out]; exact hq)
                        rw [this]
                        simp [wantRow]
                      have GF : Hid (0 < lf → cur D ([kRoute, nm, kFrom, ya, kTo, yb, kVia] ++ (pa.map (nth l.sections) ++ wantRow kSet (po.map (wantOf l)))) ++ ⟨#[32, 102, 108, 97, 110, 107]⟩ ++ wantsT (fl.map (wantOf l)) = cur D ([kRoute, nm, kFrom, ya, kTo, yb, kVia] ++ (pa.map (nth l.sections) ++ (wantRow kSet (po.map (wantOf l)) ++ wantRow kFlank (fl.map (wantOf l)))))) := fun hq => by
                        rw [cur_flank (by simp) _ (fun e => by rw [List.map_eq_nil_iff] at e; have := HSF.out; rw [e] at this; simp at this; omega)]
                        simp only [List.append_assoc]
                      have GM : Hid (lf = 0 → cur D ([kRoute, nm, kFrom, ya, kTo, yb, kVia] ++ (pa.map (nth l.sections) ++ wantRow kSet (po.map (wantOf l)))) = cur D ([kRoute, nm, kFrom, ya, kTo, yb, kVia] ++ (pa.map (nth l.sections) ++ (wantRow kSet (po.map (wantOf l)) ++ wantRow kFlank (fl.map (wantOf l)))))) := fun hq => by
                        have : fl = [] := List.length_eq_zero_iff.1 (by rw [HSF.out]; exact hq)
                        rw [this]
                        simp [wantRow]
                      generalize hX1 : cur D ([kRoute, nm, kFrom, ya, kTo, yb, kVia] ++ pa.map (nth l.sections)) = X1 at *
                      generalize hX2 : cur D ([kRoute, nm, kFrom, ya, kTo, yb, kVia] ++ (pa.map (nth l.sections) ++ wantRow kSet (po.map (wantOf l)))) = X2 at *
                      generalize hX3 : cur D ([kRoute, nm, kFrom, ya, kTo, yb, kVia] ++ (pa.map (nth l.sections) ++ (wantRow kSet (po.map (wantOf l)) ++ wantRow kFlank (fl.map (wantOf l))))) = X3 at *
                      generalize hw4 : wantsT (po.map (wantOf l)) = t4 at *
                      generalize hw5 : wantsT (fl.map (wantOf l)) = t5 at *
                      clear hX1 hX2 hX3 hw4 hw5 up wz hlj hzj
                      by_cases hq0 : lq = 0
                      · have hqi0 : ¬ (0 : Int) < (lq : Int) := by omega
                        have EQ2 : Hid (X1 = X2) := GN.out hq0
                        have HBW : Hid (BoxAt w v wr) := HB3.out
                        clear hq0
                        by_cases hf0 : lf = 0
                        · have hfi0 : ¬ (0 : Int) < (lf : Int) := by omega
                          have FIN : Hid (X1 ++ ⟨#[10]⟩ = cur (wordsS l.sections ++ (wordsG l.signals ++ (wordsP l l.points ++ wordsR l ((rs.take (k + 1)).map (·.1))))) []) := G8.out _ (by rw [EQ2.out]; exact GM.out hf0)
                          have FZ : Hid ((cur (wordsS l.sections ++ (wordsG l.signals ++ (wordsP l l.points ++ wordsR l ((rs.take (k + 1)).map (·.1))))) []).size ≤ 36900000 + 30000000 * (k + 1)) := (by show _ ≤ _; rw [← FIN.out]; simp only [ByteArray.size_append]; have a0 : (⟨#[10]⟩ : ByteArray).size = 1 := rfl; have a1 : (⟨#[32, 115, 101, 116]⟩ : ByteArray).size = 4 := rfl; omega)
                          clear hf0
                          go_wp2_with fail
                          go_roundg (n3 - (k + 1))
                          case rel => exact ⟨k + 1, rfl, by omega, by go_num, by rw [FIN.out], FZ.out, HBW.out⟩
                          case measure => omega
                        · have hfi0 : (0 : Int) < (lf : Int) := by omega
                          have FIN : Hid (X1 ++ ⟨#[32, 102, 108, 97, 110, 107]⟩ ++ t5 ++ ⟨#[10]⟩ = cur (wordsS l.sections ++ (wordsG l.signals ++ (wordsP l l.points ++ wordsR l ((rs.take (k + 1)).map (·.1))))) []) := G8.out _ (by rw [EQ2.out]; exact GF.out (by omega))
                          have FZ : Hid ((cur (wordsS l.sections ++ (wordsG l.signals ++ (wordsP l l.points ++ wordsR l ((rs.take (k + 1)).map (·.1))))) []).size ≤ 36900000 + 30000000 * (k + 1)) := (by show _ ≤ _; rw [← FIN.out]; simp only [ByteArray.size_append]; have a0 : (⟨#[10]⟩ : ByteArray).size = 1 := rfl; have a1 : (⟨#[32, 115, 101, 116]⟩ : ByteArray).size = 4 := rfl; have a2 : (⟨#[32, 102, 108, 97, 110, 107]⟩ : ByteArray).size = 6 := rfl; omega)
                          clear hf0
                          go_wp2_with fail
                          refine (W5.out _ (Below.refl _ _)).mono ?_
                          rintro e w6 ⟨rfl, hb6⟩
                          have HBW6 : Hid (BoxAt w v w6) := HBW.out.step hb6
                          go_wp2_with fail
                          go_roundg (n3 - (k + 1))
                          case rel => exact ⟨k + 1, rfl, by omega, by go_num, by rw [FIN.out], FZ.out, HBW6.out⟩
                          case measure => omega
                      · have hqi0 : (0 : Int) < (lq : Int) := by omega
                        have EQ2 : Hid (X1 ++ ⟨#[32, 115, 101, 116]⟩ ++ t4 = X2) := GS.out (by omega)
                        clear hq0
                        go_wp2_with fail
                        refine (W4.out _ (Below.refl _ _)).mono ?_
                        rintro e w5 ⟨rfl, hb5⟩
                        have HBW : Hid (BoxAt w v w5) := HB3.out.step hb5
                        have hcc := HBW.out.cells
                        rw [HV.out.1, HV.out.2.1, HV.out.2.2.1, HV.out.2.2.2] at hcc
                        clear q0 q1 q2 q3 y0 y1 y2 y3 y4 y5
                        obtain ⟨q0, q1, q2, q3⟩ := hcc
                        obtain ⟨y0, y1, y2, y3, y4, y5⟩ := (HRA.out.step hb3).step hb5
                        by_cases hf0 : lf = 0
                        · have hfi0 : ¬ (0 : Int) < (lf : Int) := by omega
                          have FIN : Hid (X1 ++ ⟨#[32, 115, 101, 116]⟩ ++ t4 ++ ⟨#[10]⟩ = cur (wordsS l.sections ++ (wordsG l.signals ++ (wordsP l l.points ++ wordsR l ((rs.take (k + 1)).map (·.1))))) []) := G8.out _ (by rw [EQ2.out]; exact GM.out hf0)
                          have FZ : Hid ((cur (wordsS l.sections ++ (wordsG l.signals ++ (wordsP l l.points ++ wordsR l ((rs.take (k + 1)).map (·.1))))) []).size ≤ 36900000 + 30000000 * (k + 1)) := (by show _ ≤ _; rw [← FIN.out]; simp only [ByteArray.size_append]; have a0 : (⟨#[10]⟩ : ByteArray).size = 1 := rfl; have a1 : (⟨#[32, 115, 101, 116]⟩ : ByteArray).size = 4 := rfl; omega)
                          clear hf0
                          go_wp2_with fail
                          go_roundg (n3 - (k + 1))
                          case rel => exact ⟨k + 1, rfl, by omega, by go_num, by rw [FIN.out], FZ.out, HBW.out⟩
                          case measure => omega
                        · have hfi0 : (0 : Int) < (lf : Int) := by omega
                          have FIN : Hid (X1 ++ ⟨#[32, 115, 101, 116]⟩ ++ t4 ++ ⟨#[32, 102, 108, 97, 110, 107]⟩ ++ t5 ++ ⟨#[10]⟩ = cur (wordsS l.sections ++ (wordsG l.signals ++ (wordsP l l.points ++ wordsR l ((rs.take (k + 1)).map (·.1))))) []) := G8.out _ (by rw [EQ2.out]; exact GF.out (by omega))
                          have FZ : Hid ((cur (wordsS l.sections ++ (wordsG l.signals ++ (wordsP l l.points ++ wordsR l ((rs.take (k + 1)).map (·.1))))) []).size ≤ 36900000 + 30000000 * (k + 1)) := (by show _ ≤ _; rw [← FIN.out]; simp only [ByteArray.size_append]; have a0 : (⟨#[10]⟩ : ByteArray).size = 1 := rfl; have a1 : (⟨#[32, 115, 101, 116]⟩ : ByteArray).size = 4 := rfl; have a2 : (⟨#[32, 102, 108, 97, 110, 107]⟩ : ByteArray).size = 6 := rfl; omega)
                          clear hf0
                          go_wp2_with fail
                          refine (W5.out _ hb5).mono ?_
                          rintro e w6 ⟨rfl, hb6⟩
                          have HBW6 : Hid (BoxAt w v w6) := HBW.out.step hb6
                          go_wp2_with fail
                          go_roundg (n3 - (k + 1))
                          case rel => exact ⟨k + 1, rfl, by omega, by go_num, by rw [FIN.out], FZ.out, HBW6.out⟩
                          case measure => omega
                · have hki : ¬ (k : Int) < (n3 : Int) := by omega
                  have hz' : (cur (wordsS l.sections ++ (wordsG l.signals ++ (wordsP l l.points ++ wordsR l ((rs.take k).map (·.1))))) []).size ≤ 100000000000 := by omega
                  rw [take_all HS3.out (by omega), HM.out] at hz' ⊢
                  have HZ : Hid ((printT l).size ≤ 100000000000) := hz'
                  clear hz hz'
                  go_wp2_with fail
                  go_ret
                  exact ⟨rfl, HZ.out, hbl⟩
end Go.Proofs.YtgiaicmhnkhbnaaDoor
