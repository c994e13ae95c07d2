/-
  Texts of this proof, joined: LyIs, TbSized, TbPts.
-/
import Derived.Test.YtceebimgfajbcaaDoorJoin3
import Derived.Deep.CutBlock
import Derived.Test.YtceebimgfajbcaaDoorJoin2
namespace Go.Proofs.YtceebimgfajbcaaDoor
open Go.RowKit

def boundsB (l : Lay) : Bool := decide (1 ≤ l.sections.length ∧ l.sections.length ≤ 10 ∧ 1 ≤ l.signals.length ∧ l.signals.length ≤ 6 ∧ l.points.length ≤ 5 ∧ l.routes.length ≤ 6)
def secsB (l : Lay) : Bool := decide (∀ x ∈ l.points, 0 ≤ x.2 ∧ x.2 < l.sections.length)
def namesAll (l : Lay) : Bool := namesB l.sections && (namesB l.signals && (namesB (l.points.map (·.1)) && namesB (l.routes.map (·.name))))
/-- May a layout be? -/
def isB (l : Lay) : Bool := boundsB l && (secsB l && (namesAll l && l.routes.all (routeB l)))

/-- How great a layout that is asked about may be. -/
structure LayMid (l : Lay) : Prop where
  s : l.sections.length ≤ 4294967296 ∧ ∀ x ∈ l.sections, x.size ≤ 4294967296
  p : l.points.length ≤ 4294967296 ∧ ∀ x ∈ l.points, x.1.size ≤ 4294967296 ∧ okI x.2
  g : l.signals.length ≤ 4294967296 ∧ ∀ x ∈ l.signals, x.size ≤ 4294967296
  r : l.routes.length ≤ 4294967296 ∧ ∀ x ∈ l.routes, x.name.size ≤ 4294967296 ∧ okI x.frm ∧ okI x.to ∧ (x.path.length ≤ 4294967296 ∧ ∀ i ∈ x.path, okI i) ∧ (x.points.length ≤ 4294967296 ∧ ∀ n ∈ x.points, okI n.1) ∧ (x.flank.length ≤ 4294967296 ∧ ∀ n ∈ x.flank, okI n.1)
theorem LayMid.of {l : Lay} (a : LaySmall l) (b : LayBig l) : LayMid l := by
  refine ⟨⟨by have := a.s.1; omega, fun x hx => by have := a.s.2 x hx; omega⟩, ⟨by have := a.p.1; omega, fun x hx => ⟨by have := a.p.2 x hx; omega, (b.p.2 x hx).2⟩⟩, ⟨by have := a.g.1; omega, fun x hx => by have := a.g.2 x hx; omega⟩, ⟨by have := a.r.1; omega, fun x hx => ?_⟩⟩
  obtain ⟨h1, h2, h3, h4⟩ := a.r.2 x hx
  have hb := b.r.2 x hx
  exact ⟨by omega, hb.frm, hb.to, ⟨by omega, hb.path.2⟩, ⟨by omega, hb.points.2⟩, ⟨by omega, hb.flank.2⟩⟩
theorem LayMid.rt {l : Lay} (h : LayMid l) {r : Rt} (hr : r ∈ l.routes) : RtMid l r := by
  obtain ⟨_, h1, h2, h3, h4, h5⟩ := h.r.2 r hr
  exact ⟨h.s.1, ⟨h.p.1, fun x hx => (h.p.2 x hx).2⟩, h.g.1, h1, h2, h3, h4, h5⟩

theorem BoxAt.append {w0 : World} {v : Nat → Value} {wr w3 : World} {o : Obj} {u : Value} {e : TypeId} {size n : Nat} {xs : List Value} (h : BoxAt w0 v wr) (hown : wr.ownsRow (w0.heap.size + 1) e size u n xs) (hg : (wr.alloc o).grownBy w3 u.ownBlock) : BoxAt w0 v w3 := by
  refine ⟨(h.1.alloc h.1.size o).grown hg (by have := h.1.size; simp; omega) (fun k hk => by have := (hown.lt k hk).1; omega), ?_⟩
  rw [hg.block _ (by have := h.lt; simp; omega) (fun e => by have := (hown.lt _ e.symm).1; omega), Below.heap_alloc _ _ _ h.lt]
  exact h.2
theorem isB_bounds {l : Lay} (h : ¬ (1 ≤ l.sections.length ∧ l.sections.length ≤ 10 ∧ 1 ≤ l.signals.length ∧ l.signals.length ≤ 6 ∧ l.points.length ≤ 5 ∧ l.routes.length ≤ 6)) : isB l = false := by
  rw [isB, boundsB, decide_eq_false h, Bool.false_and]
theorem isB_secs {l : Lay} {k : Nat} {x : ByteArray × Int} (hx : l.points[k]? = some x) (h : ¬ (0 ≤ x.2 ∧ x.2 < l.sections.length)) : isB l = false := by
  rw [isB, show secsB l = false from decide_eq_false fun hh => h (hh x (List.mem_of_getElem? hx)), Bool.false_and, Bool.and_false]
theorem take_all {α : Type} {l : List α} {n : Nat} (h : l.length = n) {k : Nat} (hk : n ≤ k) : l.take k = l := List.take_of_length_le (by omega)

set_option maxRecDepth 1000000 in
set_option maxHeartbeats 16000000 in
theorem is_any (v : Nat → Value) (l : Lay) (rs : List RtV) (w : World) (h : LayRd w v l rs) (hcap : ∀ x ∈ rs, capOk x.2.1) (hm : LayMid l) (hT : Lib.Utf8Tabs 0 1 w) :
    Calls Tryd.prog 14 #[.agg #[v 0, v 1, v 2, v 3]] w fun e w' => e = .returned (.bool (isB l)) ∧ Below w.heap.size w w' := by
  obtain ⟨i0, hii, hz0, hz1, hz2⟩ := info_parts infoS
  have HLR : Hid (LayRd w v l rs) := h
  have HCAP : Hid (∀ x ∈ rs, capOk x.2.1) := hcap
  have HT : Hid (Lib.Utf8Tabs 0 1 w) := hT
  have HMI : Hid (LayMid l) := hm
  have HM : Hid (rs.map (·.1) = l.routes) := h.m
  have hlr : l.routes.length = rs.length := by rw [← h.m, List.length_map]
  obtain ⟨o0, c0, e0, _⟩ := h.s
  obtain ⟨o1, c1, e1, r1⟩ := h.p
  obtain ⟨o2, c2, e2, _⟩ := h.g
  obtain ⟨o3, c3, e3, r3⟩ := h.r
  have R1 : Hid (∀ j x, l.points[j]? = some x → ∃ g off, o1 = some ⟨g, off, none⟩ ∧ ∀ i u, (pC x)[i]? = some u → w.cell? ⟨g, off + j * 2 + i, none⟩ = some u) := r1
  have R3 : Hid (∀ j x, rs[j]? = some x → ∃ g off, o3 = some ⟨g, off, none⟩ ∧ ∀ i u, (rC x)[i]? = some u → w.cell? ⟨g, off + j * 6 + i, none⟩ = some u) := r3
  have b0 := hm.s.1
  have b1 := hm.p.1
  have b2 := hm.g.1
  have b3 := hm.r.1
  rw [hlr] at b3
  have HLEN : Hid (l.routes.length = rs.length) := hlr
  have S := BoxAt.start w v
  have HV : Hid (v 0 = .slice o0 l.sections.length c0 ∧ v 1 = .slice o1 l.points.length c1 ∧ v 2 = .slice o2 l.signals.length c2 ∧ v 3 = .slice o3 rs.length c3) := ⟨e0, e1, e2, e3⟩
  rw [e0, e1, e2, e3] at S ⊢
  clear h r1 r3 e0 e1 e2 e3 hm hT hcap hlr
  generalize hs0 : l.sections.length = n0 at *
  generalize hs1 : l.points.length = n1 at *
  generalize hs2 : l.signals.length = n2 at *
  generalize hs3 : rs.length = n3 at *
  have HS0 : Hid (l.sections.length = n0) := hs0
  have HS1 : Hid (l.points.length = n1) := hs1
  have HS2 : Hid (l.signals.length = n2) := hs2
  have HS3 : Hid (rs.length = n3) := hs3
  clear hs0 hs1 hs2 hs3
  have no : ¬ (1 ≤ n0 ∧ n0 ≤ 10 ∧ 1 ≤ n2 ∧ n2 ≤ 6 ∧ n1 ≤ 5 ∧ n3 ≤ 6) → isB l = false := fun hh => isB_bounds (by rw [HLEN.out, HS0.out, HS1.out, HS2.out]; exact hh)
  have NO : Hid (¬ (1 ≤ n0 ∧ n0 ≤ 10 ∧ 1 ≤ n2 ∧ n2 ≤ 6 ∧ n1 ≤ 5 ∧ n3 ≤ 6) → isB l = false) := no
  have SB : Hid (BoxAt w v (w.alloc (.cells #[.slice o0 n0 c0, .slice o1 n1 c1, .slice o2 n2 c2, .slice o3 n3 c3] 26))) := S
  clear no S
  by_cases a0 : (n0 : Int) < 1
  · have HF : Hid (isB l = false) := NO.out (by omega)
    go_enter Tryd.func14, Tryd.ntmps14
    go_wp2
    go_ret
    exact ⟨ret_bool HF.out.symm, SB.out.1⟩
  by_cases a1 : (10 : Int) < (n0 : Int)
  · have HF : Hid (isB l = false) := NO.out (by omega)
    go_enter Tryd.func14, Tryd.ntmps14
    go_wp2
    go_ret
    exact ⟨ret_bool HF.out.symm, SB.out.1⟩
  by_cases a2 : (n2 : Int) < 1
  · have HF : Hid (isB l = false) := NO.out (by omega)
    go_enter Tryd.func14, Tryd.ntmps14
    go_wp2
    go_ret
    exact ⟨ret_bool HF.out.symm, SB.out.1⟩
  by_cases a3 : (6 : Int) < (n2 : Int)
  · have HF : Hid (isB l = false) := NO.out (by omega)
    go_enter Tryd.func14, Tryd.ntmps14
    go_wp2
    go_ret
    exact ⟨ret_bool HF.out.symm, SB.out.1⟩
  by_cases a4 : (5 : Int) < (n1 : Int)
  · have HF : Hid (isB l = false) := NO.out (by omega)
    go_enter Tryd.func14, Tryd.ntmps14
    go_wp2
    go_ret
    exact ⟨ret_bool HF.out.symm, SB.out.1⟩
  by_cases a5 : (6 : Int) < (n3 : Int)
  · have HF : Hid (isB l = false) := NO.out (by omega)
    go_enter Tryd.func14, Tryd.ntmps14
    go_wp2
    go_ret
    exact ⟨ret_bool HF.out.symm, SB.out.1⟩
  have HH : Hid (isB l = (secsB l && (namesAll l && l.routes.all (routeB l)))) := by
    rw [isB, show boundsB l = true from decide_eq_true (by rw [HLEN.out, HS0.out, HS1.out, HS2.out]; omega), Bool.true_and]
    rfl
  clear NO
  go_enter Tryd.func14, Tryd.ntmps14
  go_wp2
  go_loopg [3, 5] n1 (fun gk vp i wr => ∃ k : Nat, gk = n1 - k ∧ k ≤ n1 ∧ i = .int .i64 k ∧ wr.ownsRow (w.heap.size + 1) 9 1 vp k (((l.points.take k).map (·.1)).flatMap sC) ∧ (∀ x ∈ l.points.take k, 0 ≤ x.2 ∧ x.2 < l.sections.length) ∧ BoxAt w v wr)
  case atStart => exact ⟨0, rfl, by omega, rfl, World.ownsRow_nil _ _ _ _, by simp, SB.out⟩
  case round =>
    clear SB
    obtain ⟨k, rfl, hk, rfl, hown, hc, hbx⟩ := hrel
    have HC : Hid (∀ x ∈ l.points.take k, 0 ≤ x.2 ∧ x.2 < l.sections.length) := hc
    have HBX : Hid (BoxAt w v wr) := hbx
    have hcc := hbx.cells
    have hbl := hbx.1
    rw [HV.out.1, HV.out.2.1, HV.out.2.2.1, HV.out.2.2.2] at hcc
    obtain ⟨q0, q1, q2, q3⟩ := hcc
    have hblt := hbx.lt
    clear hc hbx
    by_cases hlt : k < n1
    · have hki : (k : Int) < (n1 : Int) := by omega
      obtain ⟨⟨pn, ps⟩, hx⟩ : ∃ x, l.points[k]? = some x := ⟨l.points[k]'(by rw [HS1.out]; exact hlt), List.getElem?_eq_getElem _⟩
      have hxi := (HMI.out.p.2 _ (List.mem_of_getElem? hx)).2
      simp only [okI] at hxi
      obtain ⟨g, off, rfl, hcell⟩ := R1.out k _ hx
      have e0 := hcell 0 _ rfl
      have e1 := hcell 1 _ rfl
      rw [Nat.add_zero] at e0
      have d0 := (hbl.cell (World.block_lt_of_cell? _ _ e0)).trans e0
      have HX : Hid (l.points[k]? = some (pn, ps)) := hx
      have E1 : Hid (w.cell? ⟨g, off + k * 2 + 1, none⟩ = some (.int .i64 ps)) := e1
      clear hcell e0 e1 hx
      have HTK : Hid (((l.points.take (k + 1)).map (·.1)).flatMap sC = ((l.points.take k).map (·.1)).flatMap sC ++ [.string pn]) := by
        show _ = _
        rw [take_snocI HX.out]
        simp [sC]
      generalize hcs : ((l.points.take k).map (·.1)).flatMap sC = cells at *
      clear hcs
      go_wp2_with (at_builtin; refine wpList_append_own _ rfl _ _ 22 rfl (w.heap.size + 1) 9 i0 (.string ⟨#[]⟩) 1 16 Tryd.underlying22 hii hz0 hz1 hz2 rfl (by decide) _ _ _ rfl (hown.alloc _) ⟨wr.heap.size, 0, none⟩ 1 1 [.string pn] rfl rfl (cell_one_new _ _ _) (one_str _) (by unfold maxLen; omega) (by omega) (by simp; omega) ?_)
      intro v' w3 hown3 hgrow _
      have HB3 : Hid (BoxAt w v w3) := HBX.out.append hown hgrow
      have HO3 : Hid (w3.ownsRow (w.heap.size + 1) 9 1 v' (k + 1) (cells ++ [.string pn])) := hown3
      have hcc := HB3.out.cells
      rw [HV.out.1, HV.out.2.1, HV.out.2.2.1, HV.out.2.2.2] at hcc
      obtain ⟨q0', q1', q2', q3'⟩ := hcc
      have hbl3 := HB3.out.1
      have d1 := (hbl3.cell (World.block_lt_of_cell? _ _ E1.out)).trans E1.out
      clear hgrow hown3 hown q0 q1 q2 q3 d0 hbl hblt HBX
      by_cases h0 : ps < 0
      · have HF : Hid (isB l = false) := isB_secs HX.out (by simp only; omega)
        go_wp2_with fail
        go_quiet (fail)
        go_wp2
        go_ret
        exact ⟨ret_bool HF.out.symm, _root_.Go.below_drewN hbl3 _⟩
      · have hd0 : decide (ps < 0) = false := decide_eq_false h0
        by_cases h1 : (n0 : Int) ≤ ps
        · have HF : Hid (isB l = false) := isB_secs HX.out (by simp only; rw [HS0.out]; omega)
          go_wp2_with fail
          go_quiet (fail)
          go_wp2
          go_ret
          exact ⟨ret_bool HF.out.symm, _root_.Go.below_drewN hbl3 _⟩
        · have hd1 : decide ((n0 : Int) ≤ ps) = false := decide_eq_false h1
          go_wp2_with fail
          go_quiet (fail)
          go_wp2
          go_roundg (n1 - (k + 1))
          case rel => exact ⟨k + 1, rfl, by omega, by go_num, by rw [HTK.out]; exact owns_below HO3.out (_root_.Go.below_drewN (Below.refl _ _) _), take_more (P := fun x : ByteArray × Int => 0 ≤ x.2 ∧ x.2 < l.sections.length) HX.out HC.out (by simp only; rw [HS0.out]; omega), HB3.out.step (_root_.Go.below_drewN (Below.refl _ _) _)⟩
          case measure => omega
    · have hki : ¬ (k : Int) < (n1 : Int) := by omega
      have HSE : Hid (isB l = (namesAll l && l.routes.all (routeB l))) := by
        have := HC.out
        rw [take_all HS1.out (by omega)] at this
        rw [HH.out, show secsB l = true from decide_eq_true this, Bool.true_and]
        rfl
      have HOP : Hid (wr.ownsRow (w.heap.size + 1) 9 1 u3 (l.points.map (·.1)).length ((l.points.map (·.1)).flatMap sC)) := by
        have := hown
        rw [take_all HS1.out (by omega), show k = (l.points.map (·.1)).length by rw [List.length_map, HS1.out]; omega] at this
        exact this
      clear HC HH hown R1
      obtain ⟨w1, hw1⟩ : ∃ w1, w1 = wr := ⟨wr, rfl⟩
      subst hw1
      go_wp2_with fail
      clear q0 q1 q2 q3 hblt hki hlt hk
      go_loopg [4, 6] n3 (fun gk vr i wq => ∃ j : Nat, gk = n3 - j ∧ j ≤ n3 ∧ i = .int .i64 j ∧ wq.ownsRow w1.heap.size 9 1 vr j (((rs.take j).map (·.1.name)).flatMap sC) ∧ Below w1.heap.size w1 wq)
      case atStart => exact ⟨0, rfl, by omega, rfl, World.ownsRow_nil _ _ _ _, Below.refl _ _⟩
      case round =>
        obtain ⟨j, rfl, hj, rfl, hown, hb1⟩ := hrel
        have hbx := HBX.out.step hb1
        have hcc := hbx.cells
        have hbl2 := hbx.1
        rw [HV.out.1, HV.out.2.1, HV.out.2.2.1, HV.out.2.2.2] at hcc
        obtain ⟨q0, q1, q2, q3⟩ := hcc
        have HBX2 : Hid (BoxAt w v wr) := hbx
        clear hbx
        by_cases hlt : j < n3
        · have hji : (j : Int) < (n3 : Int) := by omega
          obtain ⟨x, hx⟩ : ∃ x, rs[j]? = some x := ⟨rs[j]'(by rw [HS3.out]; exact hlt), List.getElem?_eq_getElem _⟩
          obtain ⟨g, off, rfl, hcell⟩ := R3.out j _ hx
          have e0 := hcell 0 _ rfl
          rw [Nat.add_zero] at e0
          have d0 := (hbl2.cell (World.block_lt_of_cell? _ _ e0)).trans e0
          have HX : Hid (rs[j]? = some x) := hx
          have HTK : Hid (((rs.take (j + 1)).map (·.1.name)).flatMap sC = ((rs.take j).map (·.1.name)).flatMap sC ++ [.string x.1.name]) := by
            show _ = _
            rw [take_snocI HX.out]
            simp [sC]
          clear hcell e0 hx
          generalize hcs : ((rs.take j).map (·.1.name)).flatMap sC = cells at *
          generalize x.1.name = xn at *
          clear hcs
          have hsz1 := hb1.size
          go_wp2_with (at_builtin; refine wpList_append_own _ rfl _ _ 22 rfl w1.heap.size 9 i0 (.string ⟨#[]⟩) 1 16 Tryd.underlying22 hii hz0 hz1 hz2 rfl (by decide) _ _ _ rfl (hown.alloc _) ⟨wr.heap.size, 0, none⟩ 1 1 [.string xn] rfl rfl (cell_one_new _ _ _) (one_str _) (by unfold maxLen; omega) (by omega) (by simp; omega) ?_)
          intro v' w3 hown3 hgrow _
          have hb3 : Below w1.heap.size w1 w3 := (hb1.alloc hb1.size _).grown hgrow (by simp; omega) (fun k hk => (hown.lt k hk).1)
          clear hown hgrow q0 q1 q2 q3 hbl2 HBX2 d0
          go_wp2
          go_roundg (n3 - (j + 1))
          case rel => exact ⟨j + 1, rfl, by omega, by go_num, by rw [HTK.out]; exact hown3, hb3⟩
          case measure => omega
        · have hji : ¬ (j : Int) < (n3 : Int) := by omega
          have HOR : Hid (wr.ownsRow w1.heap.size 9 1 u4 (l.routes.map (·.name)).length ((l.routes.map (·.name)).flatMap sC)) := by
            have := hown
            rw [take_all HS3.out (by omega), show rs.map (·.1.name) = l.routes.map (·.name) by rw [← HM.out, List.map_map]; rfl, show j = (l.routes.map (·.name)).length by rw [List.length_map, HLEN.out]; omega] at this
            exact this
          have N0 : Hid (∀ W, Below wr.heap.size wr W → Calls Tryd.prog 41 #[.slice o0 n0 c0] W fun e w' => e = .returned (.bool (namesB l.sections)) ∧ Below W.heap.size W w') := fun W hW => by
            have hbW : Below w.heap.size w W := hbl2.trans (hW.mono hbl2.size)
            have := names_any _ l.sections W (HLR.out.s.below hbW) (by rw [HS0.out]; omega) HMI.out.s.2 (tabs_below HT.out hbW)
            rw [HV.out.1] at this
            exact this
          have N2 : Hid (∀ W, Below wr.heap.size wr W → Calls Tryd.prog 41 #[.slice o2 n2 c2] W fun e w' => e = .returned (.bool (namesB l.signals)) ∧ Below W.heap.size W w') := fun W hW => by
            have hbW : Below w.heap.size w W := hbl2.trans (hW.mono hbl2.size)
            have := names_any _ l.signals W (HLR.out.g.below hbW) (by rw [HS2.out]; omega) HMI.out.g.2 (tabs_below HT.out hbW)
            rw [HV.out.2.2.1] at this
            exact this
          have NP : Hid (∀ W, Below wr.heap.size wr W → Calls Tryd.prog 41 #[u3] W fun e w' => e = .returned (.bool (namesB (l.points.map (·.1)))) ∧ Below W.heap.size W w') := fun W hW => by
            have hbW : Below w.heap.size w W := hbl2.trans (hW.mono hbl2.size)
            refine names_any _ (l.points.map (·.1)) W (rowAt_of_owns (fun _ => rfl) (owns_below HOP.out (hb1.trans (hW.mono hb1.size)))) (by rw [List.length_map, HS1.out]; omega) (fun x hx => ?_) (tabs_below HT.out hbW)
            obtain ⟨y, hy, rfl⟩ := List.mem_map.1 hx
            exact (HMI.out.p.2 y hy).1
          have NR : Hid (∀ W, Below wr.heap.size wr W → Calls Tryd.prog 41 #[u4] W fun e w' => e = .returned (.bool (namesB (l.routes.map (·.name)))) ∧ Below W.heap.size W w') := fun W hW => by
            have hbW : Below w.heap.size w W := hbl2.trans (hW.mono hbl2.size)
            refine names_any _ (l.routes.map (·.name)) W (rowAt_of_owns (fun _ => rfl) (owns_below HOR.out hW)) (by rw [List.length_map, HLEN.out]; omega) (fun x hx => ?_) (tabs_below HT.out hbW)
            obtain ⟨y, hy, rfl⟩ := List.mem_map.1 hx
            exact (HMI.out.r.2 y hy).1
          clear hown HOP HOR
          have M := N0.out _ (Below.refl _ _)
          cases hn0 : namesB l.sections
          · rw [hn0] at M
            have HF : Hid (isB l = false) := by
              show _ = _
              rw [HSE.out, namesAll, hn0]
              rfl
            go_wp2_with fail
            refine M.mono ?_
            rintro e y0 ⟨rfl, k0⟩
            go_wp2_with fail
            go_ret
            exact ⟨ret_bool HF.out.symm, HBX2.out.1.trans ((k0).mono HBX2.out.1.size)⟩
          rw [hn0] at M
          go_wp2_with fail
          refine M.mono ?_
          rintro e y0 ⟨rfl, k0⟩
          have k0x : Below wr.heap.size wr y0 := k0
          have hcc := (HBX2.out.step k0x).cells
          rw [HV.out.1, HV.out.2.1, HV.out.2.2.1, HV.out.2.2.2] at hcc
          clear q0 q1 q2 q3 M
          obtain ⟨q0, q1, q2, q3⟩ := hcc
          have M := N2.out _ k0x
          cases hn1 : namesB l.signals
          · rw [hn1] at M
            have HF : Hid (isB l = false) := by
              show _ = _
              rw [HSE.out, namesAll, hn0, hn1]
              rfl
            go_wp2_with fail
            refine M.mono ?_
            rintro e y1 ⟨rfl, k1⟩
            go_wp2_with fail
            go_ret
            exact ⟨ret_bool HF.out.symm, HBX2.out.1.trans ((k0x.trans (k1.mono k0x.size)).mono HBX2.out.1.size)⟩
          rw [hn1] at M
          go_wp2_with fail
          refine M.mono ?_
          rintro e y1 ⟨rfl, k1⟩
          have k1x : Below wr.heap.size wr y1 := k0x.trans (k1.mono k0x.size)
          have hcc := (HBX2.out.step k1x).cells
          rw [HV.out.1, HV.out.2.1, HV.out.2.2.1, HV.out.2.2.2] at hcc
          clear q0 q1 q2 q3 M
          obtain ⟨q0, q1, q2, q3⟩ := hcc
          have M := NP.out _ k1x
          cases hn2 : namesB (l.points.map (·.1))
          · rw [hn2] at M
            have HF : Hid (isB l = false) := by
              show _ = _
              rw [HSE.out, namesAll, hn0, hn1, hn2]
              rfl
            go_wp2_with fail
            refine M.mono ?_
            rintro e y2 ⟨rfl, k2⟩
            go_wp2_with fail
            go_ret
            exact ⟨ret_bool HF.out.symm, HBX2.out.1.trans ((k1x.trans (k2.mono k1x.size)).mono HBX2.out.1.size)⟩
          rw [hn2] at M
          go_wp2_with fail
          refine M.mono ?_
          rintro e y2 ⟨rfl, k2⟩
          have k2x : Below wr.heap.size wr y2 := k1x.trans (k2.mono k1x.size)
          have hcc := (HBX2.out.step k2x).cells
          rw [HV.out.1, HV.out.2.1, HV.out.2.2.1, HV.out.2.2.2] at hcc
          clear q0 q1 q2 q3 M
          obtain ⟨q0, q1, q2, q3⟩ := hcc
          have M := NR.out _ k2x
          cases hn3 : namesB (l.routes.map (·.name))
          · rw [hn3] at M
            have HF : Hid (isB l = false) := by
              show _ = _
              rw [HSE.out, namesAll, hn0, hn1, hn2, hn3]
              rfl
            go_wp2_with fail
            refine M.mono ?_
            rintro e y3 ⟨rfl, k3⟩
            go_wp2_with fail
            go_ret
            exact ⟨ret_bool HF.out.symm, HBX2.out.1.trans ((k2x.trans (k3.mono k2x.size)).mono HBX2.out.1.size)⟩
          rw [hn3] at M
          go_wp2_with fail
          refine M.mono ?_
          rintro e y3 ⟨rfl, k3⟩
          have k3x : Below wr.heap.size wr y3 := k2x.trans (k3.mono k2x.size)
          have hcc := (HBX2.out.step k3x).cells
          rw [HV.out.1, HV.out.2.1, HV.out.2.2.1, HV.out.2.2.2] at hcc
          clear q0 q1 q2 q3 M
          obtain ⟨q0, q1, q2, q3⟩ := hcc
          have HFR : Hid (isB l = l.routes.all (routeB l)) := by
            show _ = _
            rw [HSE.out, namesAll, hn0, hn1, hn2, hn3]
            rfl
          have HB4 : Hid (BoxAt w v y3) := HBX2.out.step k3x
          clear N0 N2 NP NR hn0 hn1 hn2 hn3 HSE k0 k1 k2 k3 k0x k1x k2x k3x HBX2 HBX hbl2 hb1 hbl
          go_wp2_with fail
          go_loopg [7] n3 (fun gk i wq => ∃ j : Nat, gk = n3 - j ∧ j ≤ n3 ∧ i = .int .i64 j ∧ (∀ x ∈ rs.take j, routeB l x.1 = true) ∧ BoxAt w v wq)
          case atStart => exact ⟨0, rfl, by omega, rfl, by simp, HB4.out⟩
          case round =>
            clear HB4 q0 q1 q2 q3 hji hlt hj
            obtain ⟨j, rfl, hj, rfl, hc, hbx⟩ := hrel
            have HC : Hid (∀ x ∈ rs.take j, routeB l x.1 = true) := hc
            have HB5 : Hid (BoxAt w v wr) := hbx
            have hcc := hbx.cells
            have hbl := hbx.1
            rw [HV.out.1, HV.out.2.1, HV.out.2.2.1, HV.out.2.2.2] at hcc
            obtain ⟨q0, q1, q2, q3⟩ := hcc
            clear hbx hc
            by_cases hlt : j < n3
            · have hji : (j : Int) < (n3 : Int) := by omega
              obtain ⟨x, hx⟩ : ∃ x, rs[j]? = some x := ⟨rs[j]'(by rw [HS3.out]; exact hlt), List.getElem?_eq_getElem _⟩
              have RT : Hid (∀ z : Ext wr, Calls Tryd.prog 42 #[.agg #[.slice o0 n0 c0, .slice o1 n1 c1, .slice o2 n2 c2, .slice o3 n3 c3], .agg #[.string x.1.name, .int .i64 x.1.frm, .int .i64 x.1.to, x.2.1, x.2.2.1, x.2.2.2]] z.z fun e w' => e = .returned (.bool (routeB l x.1)) ∧ Below z.z.heap.size z.z w') := fun z => by
                have hbz : Below w.heap.size w z.z := hbl.trans (z.h.mono hbl.size)
                have hmem : x ∈ rs := List.mem_of_getElem? hx
                have := refRoute_any v l rs x z.z (HLR.out.below hbz) ((HLR.out.x x hmem).below hbz) (HCAP.out x hmem) (HMI.out.rt (by rw [← HM.out]; exact List.mem_map.2 ⟨x, hmem, rfl⟩))
                rw [HV.out.1, HV.out.2.1, HV.out.2.2.1, HV.out.2.2.2] at this
                exact this
              obtain ⟨⟨p3, k3, f3, _⟩, ⟨p4, k4, f4, _⟩, ⟨p5, k5, f5, _⟩⟩ := HLR.out.x x (List.mem_of_getElem? hx)
              obtain ⟨g, off, rfl, hcell⟩ := R3.out j _ hx
              have HX : Hid (rs[j]? = some x) := hx
              have up : ∀ {p : Addr} {u : Value}, w.cell? p = some u → wr.cell? p = some u := fun h => (hbl.cell (World.block_lt_of_cell? _ _ h)).trans h
              have d0 := ext_cell (up (hcell 0 _ rfl))
              have d1 := ext_cell (up (hcell 1 _ rfl))
              have d2 := ext_cell (up (hcell 2 _ rfl))
              have d3 := ext_cell (up (hcell 3 _ rfl))
              have d4 := ext_cell (up (hcell 4 _ rfl))
              have d5 := ext_cell (up (hcell 5 _ rfl))
              simp only [Nat.add_zero] at d0
              rw [f3] at d3 RT
              rw [f4] at d4 RT
              rw [f5] at d5 RT
              have z0 := ext_cell q0
              have z1 := ext_cell q1
              have z2 := ext_cell q2
              have z3 := ext_cell q3
              haveI := ext_some wr
              have GOB : Hid (routeB l x.1 = true → ∀ y ∈ rs.take (j + 1), routeB l y.1 = true) := fun hh => take_more (P := fun y : RtV => routeB l y.1 = true) HX.out HC.out hh
              have BAD : Hid (routeB l x.1 = false → isB l = false) := fun hh => by
                rw [HFR.out, ← HM.out, List.all_eq_false]
                exact ⟨x.1, List.mem_map.2 ⟨x, List.mem_of_getElem? HX.out, rfl⟩, by rw [hh]; simp⟩
              clear hcell up hx f3 f4 f5
              generalize hrb : routeB l x.1 = rb at *
              generalize x.1.name = xn at *
              generalize x.1.frm = xf at *
              generalize x.1.to = xt at *
              generalize x.1.path.length = xp at *
              generalize x.1.points.length = xq at *
              generalize x.1.flank.length = xr at *
              clear hrb
              cases rb
              · have HF : Hid (isB l = false) := BAD.out rfl
                go_wp2_with fail
                refine wp_region_ext (by kernel_rfl) (by kernel_rfl) ?_
                repeat (first | go_big_quiet_skip | (go_big_quiet_want; go_big_quiet_op; first | go_big_quiet_on | (apply Exists.intro; refine ⟨fun _ => ?_, ?_⟩; (go_at_call 42; exact ext_of (RT.out _)); go_big_quiet_on)))
                refine wpQuiet_nil ?_
                intro _ hw'
                obtain ⟨z, hw''⟩ := hw'
                subst hw''
                go_wp2
                go_ret
                exact ⟨ret_bool HF.out.symm, hbl.trans (z.h.mono hbl.size)⟩
              · go_wp2_with fail
                refine wp_region_ext (by kernel_rfl) (by kernel_rfl) ?_
                repeat (first | go_big_quiet_skip | (go_big_quiet_want; go_big_quiet_op; first | go_big_quiet_on | (apply Exists.intro; refine ⟨fun _ => ?_, ?_⟩; (go_at_call 42; exact ext_of (RT.out _)); go_big_quiet_on)))
                refine wpQuiet_nil ?_
                intro _ hw'
                obtain ⟨z, hw''⟩ := hw'
                subst hw''
                go_wp2
                go_roundg (n3 - (j + 1))
                case rel => exact ⟨j + 1, rfl, by omega, by go_num, GOB.out (by simp), HB5.out.step z.h⟩
                case measure => omega
            · have hji : ¬ (j : Int) < (n3 : Int) := by omega
              have HF : Hid (isB l = true) := by
                show _ = _
                rw [HFR.out, ← HM.out, List.all_eq_true]
                intro y hy
                obtain ⟨x, hx, rfl⟩ := List.mem_map.1 hy
                have := HC.out
                rw [take_all HS3.out (by omega)] at this
                exact this x hx
              go_wp2
              go_ret
              exact ⟨ret_bool HF.out.symm, hbl⟩
end Go.Proofs.YtceebimgfajbcaaDoor

namespace Go.Proofs.YtceebimgfajbcaaDoor
open Go.RowKit

set_option maxRecDepth 1000000 in
set_option maxHeartbeats 4000000 in
theorem isSized_any (v : Nat → Value) (l : Lay) (rs : List RtV) (w : World) (h : LayRd w v l rs) :
    Calls Tryd.prog 70 #[.agg #[v 0, v 1, v 2, v 3]] w fun e w' => e = .returned (.bool (boundsB l)) ∧ Below w.heap.size w w' := by
  have hlr : l.routes.length = rs.length := by rw [← h.m, List.length_map]
  obtain ⟨o0, c0, e0, _⟩ := h.s
  obtain ⟨o1, c1, e1, _⟩ := h.p
  obtain ⟨o2, c2, e2, _⟩ := h.g
  obtain ⟨o3, c3, e3, _⟩ := h.r
  have S := BoxAt.start w v
  have hcc := S.cells
  have hbl := S.1
  rw [e0, e1, e2, e3] at hcc hbl ⊢
  have HB : Hid (boundsB l = (decide ((1 : Int) ≤ (l.sections.length : Int) ∧ (l.sections.length : Int) ≤ 10) && (decide ((1 : Int) ≤ (l.signals.length : Int) ∧ (l.signals.length : Int) ≤ 6) && (decide ((0 : Int) ≤ (l.points.length : Int) ∧ (l.points.length : Int) ≤ 5) && decide ((0 : Int) ≤ (rs.length : Int) ∧ (rs.length : Int) ≤ 6))))) := by
    show _ = _
    rw [boundsB, hlr, Bool.eq_iff_iff]
    simp
    omega
  clear h e0 e1 e2 e3 S hlr
  generalize l.sections.length = n0 at *
  generalize l.points.length = n1 at *
  generalize l.signals.length = n2 at *
  generalize rs.length = n3 at *
  have C0 := fun W => isCount_any n0 1 10 W
  have C1 := fun W => isCount_any n2 1 6 W
  have C2 := fun W => isCount_any n1 0 5 W
  have C3 := fun W => isCount_any n3 0 6 W
  generalize decide ((1 : Int) ≤ (n0 : Int) ∧ (n0 : Int) ≤ 10) = b0 at *
  generalize decide ((1 : Int) ≤ (n2 : Int) ∧ (n2 : Int) ≤ 6) = b1 at *
  generalize decide ((0 : Int) ≤ (n1 : Int) ∧ (n1 : Int) ≤ 5) = b2 at *
  generalize decide ((0 : Int) ≤ (n3 : Int) ∧ (n3 : Int) ≤ 6) = b3 at *
  generalize boundsB l = B at *
  have HBB : Hid (B = (b0 && (b1 && (b2 && b3)))) := HB
  clear HB
  have D0 : Hid (∀ W, Calls Tryd.prog 104 #[.int .i64 n0, .int .i64 1, .int .i64 10] W fun e w' => e = .returned (.bool b0) ∧ w' = W) := C0
  have D1 : Hid (∀ W, Calls Tryd.prog 104 #[.int .i64 n2, .int .i64 1, .int .i64 6] W fun e w' => e = .returned (.bool b1) ∧ w' = W) := C1
  have D2 : Hid (∀ W, Calls Tryd.prog 104 #[.int .i64 n1, .int .i64 0, .int .i64 5] W fun e w' => e = .returned (.bool b2) ∧ w' = W) := C2
  have D3 : Hid (∀ W, Calls Tryd.prog 104 #[.int .i64 n3, .int .i64 0, .int .i64 6] W fun e w' => e = .returned (.bool b3) ∧ w' = W) := C3
  clear C0 C1 C2 C3
  obtain ⟨q0, q1, q2, q3⟩ := hcc
  go_enter Tryd.func70, Tryd.ntmps70
  go_wp2_with fail
  refine (D0.out _).mono ?_
  rintro e w' ⟨rfl, rfl⟩
  cases b0
  · go_wp2
    go_ret
    exact ⟨ret_bool (by rw [HBB.out]; rfl), hbl⟩
  go_wp2_with fail
  refine (D1.out _).mono ?_
  rintro e w' ⟨rfl, rfl⟩
  cases b1
  · go_wp2
    go_ret
    exact ⟨ret_bool (by rw [HBB.out]; rfl), hbl⟩
  go_wp2_with fail
  refine (D2.out _).mono ?_
  rintro e w' ⟨rfl, rfl⟩
  cases b2
  · go_wp2
    go_ret
    exact ⟨ret_bool (by rw [HBB.out]; rfl), hbl⟩
  go_wp2_with fail
  refine (D3.out _).mono ?_
  rintro e w' ⟨rfl, rfl⟩
  go_wp2
  go_ret
  exact ⟨ret_bool (by rw [HBB.out]; rfl), hbl⟩

set_option maxRecDepth 1000000 in
set_option maxHeartbeats 4000000 in
theorem pointsLie_any (v : Nat → Value) (l : Lay) (rs : List RtV) (w : World) (h : LayRd w v l rs) (hl : l.points.length ≤ 4294967296) :
    Calls Tryd.prog 72 #[.agg #[v 0, v 1, v 2, v 3]] w fun e w' => e = .returned (.bool (secsB l)) ∧ Below w.heap.size w w' := by
  obtain ⟨o0, c0, e0, _⟩ := h.s
  obtain ⟨o1, c1, e1, r1⟩ := h.p
  obtain ⟨o2, c2, e2, _⟩ := h.g
  obtain ⟨o3, c3, e3, _⟩ := h.r
  have S := BoxAt.start w v
  have R1 : Hid (∀ j x, l.points[j]? = some x → ∃ g off, o1 = some ⟨g, off, none⟩ ∧ ∀ i u, (pC x)[i]? = some u → w.cell? ⟨g, off + j * 2 + i, none⟩ = some u) := r1
  have HV : Hid (v 0 = .slice o0 l.sections.length c0 ∧ v 1 = .slice o1 l.points.length c1 ∧ v 2 = .slice o2 l.signals.length c2 ∧ v 3 = .slice o3 rs.length c3) := ⟨e0, e1, e2, e3⟩
  have hcc := S.cells
  rw [e0, e1, e2, e3] at S hcc ⊢
  clear h r1 e0 e1 e2 e3
  generalize hs1 : l.points.length = n1 at *
  generalize hs0 : l.sections.length = n0 at *
  generalize l.signals.length = n2 at *
  generalize rs.length = n3 at *
  have HS1 : Hid (l.points.length = n1) := hs1
  have HS0 : Hid (l.sections.length = n0) := hs0
  clear hs0 hs1
  obtain ⟨q0, q1, q2, q3⟩ := hcc
  go_enter Tryd.func72, Tryd.ntmps72
  go_wp2
  clear q0 q1 q2 q3
  go_loopg [4, 8] n1 (fun gk a i wr => ∃ k : Nat, gk = n1 - k ∧ k ≤ n1 ∧ i = .int .i64 k ∧ (∀ x ∈ l.points.take k, 0 ≤ x.2 ∧ x.2 < l.sections.length) ∧ BoxAt w v wr)
  case atStart => exact ⟨0, rfl, by omega, rfl, by simp, S⟩
  case round =>
    clear S
    obtain ⟨k, rfl, hk, rfl, hc, hbx⟩ := hrel
    have HC : Hid (∀ x ∈ l.points.take k, 0 ≤ x.2 ∧ x.2 < l.sections.length) := hc
    have HBX : Hid (BoxAt w v wr) := hbx
    have hcc := hbx.cells
    have hbl := hbx.1
    have hsz := hbx.lt
    rw [HV.out.1, HV.out.2.1, HV.out.2.2.1, HV.out.2.2.2] at hcc
    obtain ⟨q0, q1, q2, q3⟩ := hcc
    clear hc hbx
    by_cases hlt : k < n1
    · obtain ⟨⟨nm, sc⟩, hx⟩ : ∃ x, l.points[k]? = some x := ⟨l.points[k]'(by rw [HS1.out]; exact hlt), List.getElem?_eq_getElem _⟩
      obtain ⟨g, off, rfl, hcell⟩ := R1.out k _ hx
      have a0 := hcell 0 _ rfl
      have a1 := hcell 1 _ rfl
      rw [Nat.add_zero] at a0
      have d0 := (hbl.cell (World.block_lt_of_cell? _ _ a0)).trans a0
      have d1 := (hbl.cell (World.block_lt_of_cell? _ _ a1)).trans a1
      have hki : (k : Int) < (n1 : Int) := by omega
      have HX : Hid (l.points[k]? = some (nm, sc)) := hx
      have C := fun W => isPlace_any sc n0 W
      have z0 := fun o => (Below.cell (Below.alloc (Below.refl wr.heap.size wr) (Nat.le_refl _) o) (World.block_lt_of_cell? _ _ q0)).trans q0
      clear hcell a0 a1 hx
      by_cases hp : 0 ≤ sc ∧ sc < (n0 : Int)
      · rw [decide_eq_true hp] at C
        have HP : Hid (0 ≤ sc ∧ sc < (n0 : Int)) := hp
        clear hp
        go_wp2_with (go_at_call 110; refine (C _).mono ?_; rintro e w' ⟨rfl, rfl⟩)
        go_roundg (n1 - (k + 1))
        case rel => exact ⟨k + 1, rfl, by omega, by go_num, take_more (P := fun x : ByteArray × Int => 0 ≤ x.2 ∧ x.2 < l.sections.length) HX.out HC.out (by rw [HS0.out]; exact HP.out), HBX.out.step (by repeat' (with_reducible first | exact Below.refl _ _ | apply Below.setCell | apply Below.alloc | exact Nat.le_refl _))⟩
        case measure => omega
      · rw [decide_eq_false hp] at C
        have HF : Hid (secsB l = false) := decide_eq_false fun hh => hp (by have := hh _ (List.mem_of_getElem? HX.out); rw [HS0.out] at this; exact this)
        clear hp
        go_wp2_with (go_at_call 110; refine (C _).mono ?_; rintro e w' ⟨rfl, rfl⟩)
        go_ret
        exact ⟨ret_bool HF.out.symm, (HBX.out.step (by repeat' (with_reducible first | exact Below.refl _ _ | apply Below.setCell | apply Below.alloc | exact Nat.le_refl _))).1⟩
    · have HF : Hid (secsB l = true) := by
        have := HC.out
        rw [List.take_of_length_le (by rw [HS1.out]; omega)] at this
        exact decide_eq_true this
      go_wp2
      go_ret
      exact ⟨ret_bool HF.out.symm, hbl⟩
end Go.Proofs.YtceebimgfajbcaaDoor

namespace Go.Proofs.YtceebimgfajbcaaDoor
open Go.RowKit

theorem infoI : (Tryd.prog.info? 3).map (fun i => (i.zero, i.size, i.bytes)) = some (some (.int .i64 0), 1, 8) := by kernel_rfl
theorem one_int (a : Int) : ∀ u ∈ [Value.int .i64 a], u.oneCell' = true := by
  intro u hu
  simp at hu
  subst hu
  rfl

/-- The points that lie in sections of a path. -/
def ptsF (path : List Int) : List (ByteArray × Int) → Nat → List Int
  | [], _ => []
  | p :: ps, k => if inB path p.2 = true then (k : Int) :: ptsF path ps (k + 1) else ptsF path ps (k + 1)
theorem ptsF_len (path : List Int) : ∀ (ps : List (ByteArray × Int)) (k : Nat), (ptsF path ps k).length = countIn path ps
  | [], _ => rfl
  | p :: ps, k => by
    have ih := ptsF_len path ps (k + 1)
    rw [ptsF, countIn, List.filter_cons]
    rw [countIn] at ih
    split
    · rw [List.length_cons, List.length_cons, ih]
    · exact ih
theorem ptsF_le (path : List Int) (ps : List (ByteArray × Int)) (k : Nat) : (ptsF path ps k).length ≤ ps.length := by
  rw [ptsF_len]
  exact List.length_filter_le _ _
theorem ptsF_mem (path : List Int) (x : Int) : ∀ (ps : List (ByteArray × Int)) (k : Nat), x ∈ ptsF path ps k ↔ ∃ (j : Nat) (p : ByteArray × Int), ps[j]? = some p ∧ inB path p.2 = true ∧ x = ((k + j : Nat) : Int)
  | [], k => by simp [ptsF]
  | p :: ps, k => by
    have ih := ptsF_mem path x ps (k + 1)
    rw [ptsF]
    constructor
    · intro h
      by_cases hp : inB path p.2 = true
      · rw [if_pos hp, List.mem_cons] at h
        rcases h with h | h
        · exact ⟨0, p, rfl, hp, h⟩
        · obtain ⟨j, q, h1, h2, h3⟩ := ih.1 h
          exact ⟨j + 1, q, by simpa using h1, h2, by rw [h3]; congr 1; omega⟩
      · rw [if_neg hp] at h
        obtain ⟨j, q, h1, h2, h3⟩ := ih.1 h
        exact ⟨j + 1, q, by simpa using h1, h2, by rw [h3]; congr 1; omega⟩
    · rintro ⟨j, q, h1, h2, h3⟩
      cases j with
      | zero =>
        simp at h1
        subst h1
        rw [if_pos h2, List.mem_cons]
        exact .inl h3
      | succ j =>
        have hm := ih.2 ⟨j, q, by simpa using h1, h2, by rw [h3]; congr 1; omega⟩
        by_cases hp : inB path p.2 = true
        · rw [if_pos hp, List.mem_cons]
          exact .inr hm
        · rw [if_neg hp]
          exact hm
theorem ptsF_up (path : List Int) : ∀ (ps : List (ByteArray × Int)) (k : Nat), (ptsF path ps k).Pairwise (· < ·)
  | [], _ => List.Pairwise.nil
  | p :: ps, k => by
    have ih := ptsF_up path ps (k + 1)
    rw [ptsF]
    split
    · refine List.Pairwise.cons (fun x hx => ?_) ih
      obtain ⟨j, q, _, _, h3⟩ := (ptsF_mem path x ps (k + 1)).1 hx
      omega
    · exact ih
theorem up_eq : ∀ (ys xs : List Int), ys.Pairwise (· < ·) → xs.Pairwise (· < ·) → (∀ x ∈ xs, x ∈ ys) → ys.length ≤ xs.length → xs = ys
  | [], xs, _, _, h, _ => by
    cases xs with
    | nil => rfl
    | cons x xs => exact absurd (h x (by simp)) (by simp)
  | y :: ys, [], _, _, _, hl => by simp at hl
  | y :: ys, x :: xs, hy, hx, h, hl => by
    have hy1 := (List.pairwise_cons.1 hy).1
    have hx1 := (List.pairwise_cons.1 hx).1
    have hxy : y ≤ x := by
      rcases List.mem_cons.1 (h x (by simp)) with e | e
      · omega
      · have := hy1 x e
        omega
    have e := up_eq ys xs (List.pairwise_cons.1 hy).2 (List.pairwise_cons.1 hx).2 (fun z hz => by
      rcases List.mem_cons.1 (h z (by simp [hz])) with e | e
      · have := hx1 z hz
        omega
      · exact e) (by simp at hl; omega)
    subst e
    rcases List.mem_cons.1 (h x (by simp)) with e | e
    · rw [e]
    · have := hx1 x e
      omega
theorem needsF_iff (l : Lay) (path : List Int) : ∀ (ns : List (Int × Bool)) (pr : Option Int), needsF l path true pr ns = true ↔ (∀ x ∈ ns, (0 ≤ x.1 ∧ x.1 < l.points.length) ∧ inB path (secAt l x.1) = true) ∧ (ns.map (·.1)).Pairwise (· < ·) ∧ ∀ q, pr = some q → ∀ x ∈ ns, q < x.1
  | [], pr => by simp [needsF]
  | y :: ns, pr => by
    have ih := needsF_iff l path ns (some y.1)
    rw [needsF, Bool.and_eq_true, ih, needOk, Bool.and_eq_true, Bool.and_eq_true, decide_eq_true_iff, List.map_cons, List.pairwise_cons]
    constructor
    · rintro ⟨⟨h1, h2, h3⟩, h4, h5, h6⟩
      refine ⟨fun x hx => ?_, ⟨fun z hz => ?_, h5⟩, fun q hq x hx => ?_⟩
      · rcases List.mem_cons.1 hx with rfl | hx
        · exact ⟨h1, by simpa using h3⟩
        · exact h4 x hx
      · obtain ⟨x, hx, rfl⟩ := List.mem_map.1 hz
        exact h6 _ rfl x hx
      · subst hq
        have hq1 : q < y.1 := of_decide_eq_true h2
        rcases List.mem_cons.1 hx with rfl | hx
        · exact hq1
        · have := h6 _ rfl x hx
          omega
    · rintro ⟨h1, ⟨h2, h3⟩, h4⟩
      refine ⟨⟨(h1 y (by simp)).1, ?_, by simpa using (h1 y (by simp)).2⟩, fun x hx => h1 x (by simp [hx]), h3, fun q hq x hx => ?_⟩
      · cases pr with
        | none => rfl
        | some q => exact decide_eq_true (h4 q rfl y (by simp))
      · injection hq with hq
        subst hq
        exact h2 _ (List.mem_map.2 ⟨x, hx, rfl⟩)
def eqF (ns : List (Int × Bool)) (ps : List Int) : Bool := decide (ns.map (·.1) = ps)
theorem eqF_rest (l : Lay) (r : Rt) : eqF r.points (ptsF r.path l.points 0) = (decide (r.points.length = countIn r.path l.points) && needsF l r.path true none r.points) := by
  have hmem : ∀ x : Int, x ∈ ptsF r.path l.points 0 ↔ ((0 ≤ x ∧ x < l.points.length) ∧ inB r.path (secAt l x) = true) := fun x => by
    rw [ptsF_mem]
    constructor
    · rintro ⟨j, p, h1, h2, h3⟩
      have hj := (List.getElem?_eq_some_iff.1 h1).1
      have hx : x = (j : Int) := by rw [h3]; congr 1; omega
      subst hx
      refine ⟨by omega, ?_⟩
      rw [secAt, Int.toNat_natCast, h1]
      exact h2
    · rintro ⟨⟨h1, h2⟩, h3⟩
      obtain ⟨j, rfl⟩ : ∃ j : Nat, x = j := ⟨x.toNat, by omega⟩
      obtain ⟨p, hp⟩ : ∃ p, l.points[j]? = some p := ⟨l.points[j]'(by omega), List.getElem?_eq_getElem _⟩
      rw [secAt, Int.toNat_natCast, hp] at h3
      exact ⟨j, p, hp, h3, by congr 1; omega⟩
  rw [eqF, Bool.eq_iff_iff, Bool.and_eq_true, decide_eq_true_iff, decide_eq_true_iff, needsF_iff]
  constructor
  · intro h
    refine ⟨by rw [← ptsF_len r.path l.points 0, ← h, List.length_map], fun x hx => ?_, by rw [h]; exact ptsF_up _ _ _, by simp⟩
    exact (hmem x.1).1 (by rw [← h]; exact List.mem_map.2 ⟨x, hx, rfl⟩)
  · rintro ⟨h1, h2, h3, _⟩
    refine up_eq _ _ (ptsF_up _ _ _) h3 (fun x hx => ?_) (by rw [ptsF_len, List.length_map]; omega)
    obtain ⟨y, hy, rfl⟩ := List.mem_map.1 hx
    exact (hmem y.1).2 (h2 y hy)

set_option maxRecDepth 1000000 in
set_option maxHeartbeats 4000000 in
theorem pointsIn_any (v : Nat → Value) (l : Lay) (rs : List RtV) (p : Value) (path : List Int) (w : World) (h : LayRd w v l rs) (hp : rowAt w p 1 iC path)
    (hq : path.length ≤ 4294967296) (hl : l.points.length ≤ 4294967296) :
    Calls Tryd.prog 142 #[.agg #[v 0, v 1, v 2, v 3], p] w fun e w' => ∃ u, e = .returned u ∧ rowAt w' u 1 iC (ptsF path l.points 0) ∧ Below w.heap.size w w' := by
  obtain ⟨i0, hii, hz0, hz1, hz2⟩ := info_parts infoI
  obtain ⟨o0, c0, e0, _⟩ := h.s
  obtain ⟨o1, c1, e1, r1⟩ := h.p
  obtain ⟨o2, c2, e2, _⟩ := h.g
  obtain ⟨o3, c3, e3, _⟩ := h.r
  obtain ⟨op, cp, rfl, rp⟩ := hp
  have HP : Hid (rowAt w (.slice op path.length cp) 1 iC path) := ⟨op, cp, rfl, rp⟩
  have S := BoxAt.start w v
  have R1 : Hid (∀ j x, l.points[j]? = some x → ∃ g off, o1 = some ⟨g, off, none⟩ ∧ ∀ i u, (pC x)[i]? = some u → w.cell? ⟨g, off + j * 2 + i, none⟩ = some u) := r1
  have HV : Hid (v 0 = .slice o0 l.sections.length c0 ∧ v 1 = .slice o1 l.points.length c1 ∧ v 2 = .slice o2 l.signals.length c2 ∧ v 3 = .slice o3 rs.length c3) := ⟨e0, e1, e2, e3⟩
  have hcc := S.cells
  rw [e0, e1, e2, e3] at S hcc ⊢
  clear h r1 rp e0 e1 e2 e3
  generalize hs1 : l.points.length = n1 at *
  generalize l.sections.length = n0 at *
  generalize l.signals.length = n2 at *
  generalize rs.length = n3 at *
  generalize hsp : path.length = np at *
  have HS1 : Hid (l.points.length = n1) := hs1
  have HSP : Hid (path.length = np) := hsp
  clear hs1 hsp
  obtain ⟨q0, q1, q2, q3⟩ := hcc
  go_enter Tryd.func142, Tryd.ntmps142
  go_wp2
  clear q0 q1 q2 q3
  go_loopg [5, 6, 7, 11] n1 (fun gk vp a b i wr => ∃ (k : Nat) (pre : List Int), gk = n1 - k ∧ k ≤ n1 ∧ i = .int .i64 k ∧ pre.length ≤ k ∧ pre ++ ptsF path (l.points.drop k) k = ptsF path l.points 0 ∧ wr.ownsRow (w.heap.size + 1) 3 1 vp pre.length (pre.flatMap iC) ∧ BoxAt w v wr)
  case atStart => exact ⟨0, [], rfl, by omega, rfl, by simp, by simp, World.ownsRow_nil _ _ _ _, S⟩
  case round =>
    clear S
    obtain ⟨k, pre, rfl, hk, rfl, hpk, hc, hown, hbx⟩ := hrel
    have HC : Hid (pre ++ ptsF path (l.points.drop k) k = ptsF path l.points 0) := hc
    have HBX : Hid (BoxAt w v wr) := hbx
    have HOWN : Hid (wr.ownsRow (w.heap.size + 1) 3 1 u5 pre.length (pre.flatMap iC)) := hown
    have hbl := hbx.1
    have hsz := hbx.lt
    clear hc hbx hown
    by_cases hlt : k < n1
    · obtain ⟨⟨nm, sc⟩, hx⟩ : ∃ x, l.points[k]? = some x := ⟨l.points[k]'(by rw [HS1.out]; exact hlt), List.getElem?_eq_getElem _⟩
      obtain ⟨g, off, rfl, hcell⟩ := R1.out k _ hx
      have a0 := hcell 0 _ rfl
      have a1 := hcell 1 _ rfl
      rw [Nat.add_zero] at a0
      have d0 := (hbl.cell (World.block_lt_of_cell? _ _ a0)).trans a0
      have d1 := (hbl.cell (World.block_lt_of_cell? _ _ a1)).trans a1
      have hki : (k : Int) < (n1 : Int) := by omega
      have hdr := drop_at hx
      clear hcell a0 a1 hx
      rw [hdr, ptsF] at HC
      clear hdr
      have IN : Hid (∀ W, Below wr.heap.size wr W → Calls Tryd.prog 57 #[.slice op np cp, .int .i64 sc] W fun e w' => e = .returned (.bool (inB path sc)) ∧ Below wr.heap.size wr w') := fun W hW => by
        have := containsI_any _ path sc W (HP.out.below (hbl.trans (hW.mono hbl.size))) (by rw [HSP.out]; exact hq)
        refine this.mono ?_
        rintro e w' ⟨rfl, rfl⟩
        exact ⟨rfl, hW⟩
      cases hin : inB path sc
      · rw [hin] at IN
        rw [if_neg (by rw [hin]; simp)] at HC
        clear hin
        go_wp2_with (go_at_call 57; refine (IN.out _ (by repeat' (with_reducible first | exact Below.refl _ _ | apply Below.setCell | apply Below.alloc | exact Nat.le_refl _))).mono ?_; rintro e w1 ⟨rfl, hb1⟩)
        go_roundg (n1 - (k + 1))
        case rel => exact ⟨k + 1, pre, rfl, by omega, by go_num, by omega, HC.out, owns_below HOWN.out hb1, HBX.out.step hb1⟩
        case measure => omega
      · rw [hin] at IN
        rw [if_pos hin] at HC
        clear hin
        go_wp2_with fail
        refine (IN.out _ (by repeat' (with_reducible first | exact Below.refl _ _ | apply Below.setCell | apply Below.alloc | exact Nat.le_refl _))).mono ?_
        rintro e w1 ⟨rfl, hb1⟩
        have hown1 := owns_below HOWN.out hb1
        have HBX1 : Hid (BoxAt w v w1) := HBX.out.step hb1
        have hs1 := HBX1.out.1.size
        have HPR : Hid ((pre ++ [(k : Int)]).flatMap iC = pre.flatMap iC ++ [.int .i64 k]) := by
          show _ = _
          rw [List.flatMap_append]
          rfl
        have HCC : Hid ((pre ++ [(k : Int)]) ++ ptsF path (l.points.drop (k + 1)) (k + 1) = ptsF path l.points 0) := by
          show _ = _
          rw [List.append_assoc]
          exact HC.out
        have HPL : Hid ((pre ++ [(k : Int)]).length = pre.length + 1) := by
          show _ = _
          simp
        clear HC HOWN hb1 IN HBX
        generalize hcs : pre.flatMap iC = cells at *
        generalize hpl : pre.length = m at *
        clear hcs hpl
        go_wp2_with (at_builtin; refine wpList_append_own _ rfl _ _ 39 rfl (w.heap.size + 1) 3 i0 (.int .i64 0) 1 8 Tryd.underlying39 hii hz0 hz1 hz2 rfl (by decide) _ _ _ rfl (hown1.alloc _) ⟨w1.heap.size, 0, none⟩ 1 1 [.int .i64 k] rfl rfl (cell_one_new _ _ _) (one_int _) (by unfold maxLen; omega) (by omega) (by simp; omega) ?_)
        intro v' w3 hown3 hgrow _
        have HBX3 : Hid (BoxAt w v w3) := HBX1.out.append hown1 hgrow
        clear hown1 hgrow d0 d1
        go_wp2
        go_roundg (n1 - (k + 1))
        case rel => exact ⟨k + 1, pre ++ [(k : Int)], rfl, by omega, by go_num, by rw [HPL.out]; omega, HCC.out, by rw [HPR.out, HPL.out]; exact hown3, HBX3.out⟩
        case measure => omega
    · have HE : Hid (rowAt wr u5 1 iC (ptsF path l.points 0)) := by
        have h1 := HC.out
        rw [List.drop_of_length_le (by rw [HS1.out]; omega), ptsF, List.append_nil] at h1
        rw [← h1]
        exact rowAt_of_owns (fun _ => rfl) HOWN.out
      go_wp2
      go_ret
      exact ⟨_, rfl, HE.out, hbl⟩
end Go.Proofs.YtceebimgfajbcaaDoor
