/-
  plan's routeWords, by a contract.
-/
import Derived.Test.YtgiaicmhnkhbnaaDoorPlWantW
import Derived.Test.YtgiaicmhnkhbnaaDoorPlPrint1
import Derived.Deep.RegionHeld
import Derived.Deep.Upon
import Derived.Deep.CutBlock
import Derived.Test.YtgiaicmhnkhbnaaDoorPlMay
namespace Go.Proofs.YtgiaicmhnkhbnaaDoor
open Go.RowKit

set_option maxRecDepth 1000000 in
set_option maxHeartbeats 4000000 in
theorem wantWords_nil (v : Nat → Value) (l : Lay) (rs : List RtV) (t : ByteArray) (o : Option Addr) (c : Nat) (w : World) (h : LayRd w v l rs) :
    Calls Tryd.prog 33 #[.agg #[v 0, v 1, v 2, v 3], .string t, .slice o 0 c] w fun e w' => e = .returned (.slice none 0 0) ∧ Below w.heap.size w w' := by
  obtain ⟨o0, c0, e0, _⟩ := h.s
  obtain ⟨o1, c1, e1, _⟩ := h.p
  obtain ⟨o2, c2, e2, _⟩ := h.g
  obtain ⟨o3, c3, e3, _⟩ := h.r
  have S := (BoxAt.start w v).1
  rw [e0, e1, e2, e3] at S ⊢
  clear h e0 e1 e2 e3
  go_enter Tryd.func33, Tryd.ntmps33
  go_wp2
  go_ret
  exact ⟨rfl, S⟩
theorem nameAt_nth {l : List ByteArray} {i : Int} (h : 0 ≤ i ∧ i < l.length) : nameAtP l i = nth l i := by
  rw [nameAtP, if_neg (by omega), nth, List.getD_eq_getElem?_getD]
theorem own_slice1 {w : World} {base : Nat} {e : TypeId} {v : Value} {n : Nat} {xs : List Value} (h : w.ownsRow base e 1 v n xs) (hn : 0 < n) : ∃ g cap, v = .slice (some ⟨g, 0, none⟩) n cap ∧ n ≤ cap := by
  rcases h.2 with ⟨h1, h2⟩ | ⟨g, cap, cur, rfl, _, _, h2, _⟩
  · omega
  · exact ⟨g, cap, rfl, h2⟩

theorem BoxAt.grown {w0 : World} {v : Nat → Value} {wr w3 : World} {u : Value} {e : TypeId} {size n base : Nat} {xs : List Value} (h : BoxAt w0 v wr) (hown : wr.ownsRow base e size u n xs) (hB : w0.heap.size + 1 ≤ base) (hg : wr.grownBy w3 u.ownBlock) : BoxAt w0 v w3 := by
  refine ⟨h.1.grown hg h.1.size (fun k hk => by have := (hown.lt k hk).1; omega), ?_⟩
  rw [hg.block _ h.lt (fun e => by have := (hown.lt _ e.symm).1; omega)]
  exact h.2
theorem TwoAt.grown {w0 : World} {v : Nat → Value} {c : Array Value} {wr w3 : World} {u : Value} {e : TypeId} {size n : Nat} {xs : List Value} (h : TwoAt w0 v c wr) (hown : wr.ownsRow (w0.heap.size + 2) e size u n xs) (hg : wr.grownBy w3 u.ownBlock) : TwoAt w0 v c w3 := by
  refine ⟨h.1.grown hown (by omega) hg, ?_⟩
  rw [hg.block _ h.lt (fun e => by have := (hown.lt _ e.symm).1; omega)]
  exact h.2
theorem owns_fin {w : World} {base n : Nat} {e : TypeId} {a : Value} {cells : List Value} {ws : List ByteArray} (h : w.ownsRow base e 1 a n cells) (hc : cells = ws.map Value.string) : w.ownsRow base e 1 a ws.length (ws.map Value.string) := by
  subst hc
  have := h.1
  rw [List.length_map, Nat.mul_one] at this
  rw [this]
  exact h
theorem map_str_one (l : List ByteArray) : ∀ u ∈ l.map Value.string, u.oneCell' = true := by
  intro u hu
  obtain ⟨x, _, rfl⟩ := List.mem_map.1 hu
  rfl
theorem wantRow_cells {t : ByteArray} {xs : List Wt} (h : xs ≠ []) : (wantRow t xs).map Value.string = .string t :: xs.map fun x => Value.string (wantW x) := by
  cases xs with
  | nil => exact absurd rfl h
  | cons x xs => simp [wantRow]

set_option maxRecDepth 1000000 in
set_option maxHeartbeats 16000000 in
theorem routeWords_any (v : Nat → Value) (l : Lay) (rs : List RtV) (r : RtV) (w : World) (h : LayRd w v l rs) (hr : RtAt w r) (hok : RtP l r.1) (hs : LaySmall l) :
    Calls Tryd.prog 23 #[.agg #[v 0, v 1, v 2, v 3], .agg #[.string r.1.name, .int .i64 r.1.frm, .int .i64 r.1.to, r.2.1, r.2.2.1, r.2.2.2]] w fun e w' => ∃ a, e = .returned a ∧ w'.ownsRow (w.heap.size + 2) 9 1 a (kRoute :: routeWords (rlOf l r.1)).length ((kRoute :: routeWords (rlOf l r.1)).map Value.string) ∧ Below w.heap.size w w' := by
  obtain ⟨i0, hii, hz0, hz1, hz2⟩ := info_parts infoS
  obtain ⟨⟨nm, fr, tt, pa, po, fl⟩, v3, v4, v5⟩ := r
  simp only at *
  have HLR : Hid (LayRd w v l rs) := h
  have HSM : Hid (LaySmall l) := hs
  obtain ⟨o0, c0, e0, _⟩ := h.s
  obtain ⟨o1, c1, e1, _⟩ := h.p
  obtain ⟨o2, c2, e2, _⟩ := h.g
  obtain ⟨o3, c3, e3, _⟩ := h.r
  obtain ⟨hr3, hr4, hr5⟩ := hr
  simp only at hr3 hr4 hr5
  have HR4 : Hid (rowAt w v4 2 nC po) := hr4
  have HR5 : Hid (rowAt w v5 2 nC fl) := hr5
  obtain ⟨p3, k3, f3, s3⟩ := hr3
  obtain ⟨p4, k4, f4, _⟩ := hr4
  obtain ⟨p5, k5, f5, _⟩ := hr5
  have RP : Hid (∀ j x, pa[j]? = some x → ∃ g off, p3 = some ⟨g, off, none⟩ ∧ ∀ i u, (iC x)[i]? = some u → w.cell? ⟨g, off + j * 1 + i, none⟩ = some u) := s3
  obtain ⟨hf, ht, ⟨_, hp5, hpi⟩, ⟨hq5, hqi⟩, ⟨hf5, hfi⟩⟩ := hok
  simp only at hf ht hp5 hpi hq5 hqi hf5 hfi
  have HPI : Hid (∀ i ∈ pa, 0 ≤ i ∧ i < l.sections.length) := hpi
  have HQI : Hid (∀ n ∈ po, 0 ≤ n.1 ∧ n.1 < l.points.length) := hqi
  have HFI : Hid (∀ n ∈ fl, 0 ≤ n.1 ∧ n.1 < l.points.length) := hfi
  obtain ⟨a, ea⟩ : ∃ a, a = fr := ⟨_, rfl⟩
  obtain ⟨b, eb⟩ : ∃ b, b = tt := ⟨_, rfl⟩
  have hg6 := hs.g.1
  have hs6 := hs.s.1
  have NA : Hid (∀ W, Below w.heap.size w W → Calls Tryd.prog 22 #[v 2, .int .i64 a] W fun e w' => e = .returned (.string (nth l.signals a)) ∧ w' = W) := fun W hW => by
    have := nameAt_any _ l.signals a W (h.g.below hW) (by omega)
    rw [nameAt_nth (by rw [ea]; exact hf)] at this
    exact this
  have NB : Hid (∀ W, Below w.heap.size w W → Calls Tryd.prog 22 #[v 2, .int .i64 b] W fun e w' => e = .returned (.string (nth l.signals b)) ∧ w' = W) := fun W hW => by
    have := nameAt_any _ l.signals b W (h.g.below hW) (by omega)
    rw [nameAt_nth (by rw [eb]; exact ht)] at this
    exact this
  have NS : Hid (∀ W i, i ∈ pa → Below w.heap.size w W → Calls Tryd.prog 22 #[v 0, .int .i64 i] W fun e w' => e = .returned (.string (nth l.sections i)) ∧ w' = W) := fun W i him hW => by
    have hi := hpi i him
    have := nameAt_any _ l.sections i W (h.s.below hW) (by omega)
    rw [nameAt_nth hi] at this
    exact this
  have HWS : Hid (kRoute :: routeWords (rlOf l ⟨nm, fr, tt, pa, po, fl⟩) = [kRoute, nm, kFrom, nth l.signals a, kTo, nth l.signals b, kVia] ++ (pa.map (nth l.sections) ++ (wantRow kSet (po.map (wantOf l)) ++ wantRow kFlank (fl.map (wantOf l))))) := by
    rw [ea, eb]
    rfl
  rw [HWS.out]
  rw [← ea, ← eb]
  clear hf ht hpi hqi hfi s3 ea eb HWS
  have S := TwoAt.start w v #[.string nm, .int .i64 a, .int .i64 b, v3, v4, v5]
  have HV : Hid (v 0 = .slice o0 l.sections.length c0 ∧ v 1 = .slice o1 l.points.length c1 ∧ v 2 = .slice o2 l.signals.length c2 ∧ v 3 = .slice o3 rs.length c3) := ⟨e0, e1, e2, e3⟩
  rw [f4] at HR4
  rw [f5] at HR5
  rw [e0] at NS
  rw [e2] at NA NB
  rw [e0, e1, e2, e3, f3, f4, f5] at S ⊢
  generalize nth l.signals a = ya at *
  generalize nth l.signals b = yb at *
  clear h hs e0 e1 e2 e3 f3 f4 f5
  generalize hs0 : l.sections.length = n0 at *
  generalize hs1 : l.points.length = n1 at *
  have HS1 : Hid (l.points.length = n1) := hs1
  clear hs1
  generalize l.signals.length = n2 at *
  generalize rs.length = n3 at *
  generalize hsp : pa.length = lp at *
  generalize hsq : po.length = lq at *
  generalize hsf : fl.length = lf at *
  have HSP : Hid (pa.length = lp) := hsp
  have HSQ : Hid (po.length = lq) := hsq
  have HSF : Hid (fl.length = lf) := hsf
  clear hsp hsq hsf hs0
  have SB : Hid (TwoAt w v #[.string nm, .int .i64 a, .int .i64 b, .slice p3 lp k3, .slice p4 lq k4, .slice p5 lf k5] ((w.alloc (.cells #[.slice o0 n0 c0, .slice o1 n1 c1, .slice o2 n2 c2, .slice o3 n3 c3] 26)).alloc (.cells #[.string nm, .int .i64 a, .int .i64 b, .slice p3 lp k3, .slice p4 lq k4, .slice p5 lf k5] 37))) := S
  generalize hw1 : (w.alloc (.cells #[.slice o0 n0 c0, .slice o1 n1 c1, .slice o2 n2 c2, .slice o3 n3 c3] 26)).alloc (.cells #[.string nm, .int .i64 a, .int .i64 b, .slice p3 lp k3, .slice p4 lq k4, .slice p5 lf k5] 37) = w1 at *
  have HW1 : Hid ((w.alloc (.cells #[.slice o0 n0 c0, .slice o1 n1 c1, .slice o2 n2 c2, .slice o3 n3 c3] 26)).alloc (.cells #[.string nm, .int .i64 a, .int .i64 b, .slice p3 lp k3, .slice p4 lq k4, .slice p5 lf k5] 37) = w1) := hw1
  have hcc := S.1.cells
  rw [HV.out.1, HV.out.2.1, HV.out.2.2.1, HV.out.2.2.2] at hcc
  obtain ⟨q0, q1, q2, q3⟩ := hcc
  obtain ⟨g0, g1, g2, g3, g4, g5⟩ := S.six
  have hbl1 := S.1.1
  have KEEP : Hid (∀ W : World, Below w1.heap.size w1 W → W.cell? ⟨w.heap.size, 2, none⟩ = some (.slice o2 n2 c2) ∧ W.cell? ⟨w.heap.size + 1, 0, none⟩ = some (.string nm) ∧ W.cell? ⟨w.heap.size + 1, 1, none⟩ = some (.int .i64 a) ∧ W.cell? ⟨w.heap.size + 1, 2, none⟩ = some (.int .i64 b)) := fun W hW => by
    have up : ∀ {p : Addr} {u : Value}, w1.cell? p = some u → W.cell? p = some u := fun h => (hW.cell (World.block_lt_of_cell? _ _ h)).trans h
    exact ⟨up q2, up g0, up g1, up g2⟩
  have HBL1 : Hid (Below w.heap.size w w1) := hbl1
  clear S hw1 hbl1
  go_enter Tryd.func23, Tryd.ntmps23
  go_upto_region 1 with fail
  rw [HW1.out]
  clear HW1
  go_cut [5] from 8 (fun s wc => ∃ g, s = .slice (some ⟨g, 0, none⟩) 7 7 ∧ wc.ownsRow (w.heap.size + 2) 9 1 s 7 ([kRoute, nm, kFrom, ya, kTo, yb, kVia].map Value.string) ∧ TwoAt w v #[.string nm, .int .i64 a, .int .i64 b, .slice p3 lp k3, .slice p4 lq k4, .slice p5 lf k5] wc)
  case first =>
    go_region_held (fun W => W.cell? ⟨w.heap.size, 2, none⟩ = some (.slice o2 n2 c2) ∧ W.cell? ⟨w.heap.size + 1, 0, none⟩ = some (.string nm) ∧ W.cell? ⟨w.heap.size + 1, 1, none⟩ = some (.int .i64 a) ∧ W.cell? ⟨w.heap.size + 1, 2, none⟩ = some (.int .i64 b)) (exact KEEP.out _ (by repeat' (with_reducible first | exact Below.refl _ _ | refine Below.drew ?_ | refine Below.alloc ?_ ?_ _ | exact Nat.le_refl _ | (simp; done) | (simp; omega)))) (first
      | (go_at_call_of 22 (Value.int IntKind.i64 a); refine (NA.out _ (HBL1.out.trans (Below.mono (B := w1.heap.size) (by repeat' (with_reducible first | exact Below.refl _ _ | refine Below.drew ?_ | refine Below.alloc ?_ ?_ _ | exact Nat.le_refl _ | (simp; done) | (simp; omega))) HBL1.out.size))).mono ?_; rintro e wx ⟨rfl, rfl⟩)
      | (go_at_call_of 22 (Value.int IntKind.i64 b); refine (NB.out _ (HBL1.out.trans (Below.mono (B := w1.heap.size) (by repeat' (with_reducible first | exact Below.refl _ _ | refine Below.drew ?_ | refine Below.alloc ?_ ?_ _ | exact Nat.le_refl _ | (simp; done) | (simp; omega))) HBL1.out.size))).mono ?_; rintro e wx ⟨rfl, rfl⟩))
    all_goals
      go_wp2_with fail
      go_meet
      case rel =>
        have hlt := SB.out.lt
        refine ⟨w1.heap.size, rfl, owns_lit (blk_new (w1.drew) (.cells #[.string ⟨#[114, 111, 117, 116, 101]⟩, .string nm, .string ⟨#[102, 114, 111, 109]⟩, .string ya, .string ⟨#[116, 111]⟩, .string yb, .string ⟨#[118, 105, 97]⟩] 9)) (by omega) rfl (by decide), SB.out.step (((Below.refl _ _).drew).alloc (Nat.le_refl _) _)⟩
  case rest =>
    obtain ⟨g, rfl, hown, htw⟩ := hcut
    clear q0 q1 q2 q3 g0 g1 g2 g3 g4 g5 KEEP NA NB SB HBL1
    have hcc := htw.1.cells
    rw [HV.out.1, HV.out.2.1, HV.out.2.2.1, HV.out.2.2.2] at hcc
    obtain ⟨q0, q1, q2, q3⟩ := hcc
    obtain ⟨g0, g1, g2, g3, g4, g5⟩ := htw.six
    have HTW0 : Hid (TwoAt w v #[.string nm, .int .i64 a, .int .i64 b, .slice p3 lp k3, .slice p4 lq k4, .slice p5 lf k5] wc) := htw
    have HO0 : Hid (wc.ownsRow (w.heap.size + 2) 9 1 (.slice (some ⟨g, 0, none⟩) 7 7) 7 ([kRoute, nm, kFrom, ya, kTo, yb, kVia].map Value.string)) := hown
    clear hown htw
    go_wp2_with fail
    clear q0 q1 q2 q3 g0 g1 g2 g3 g4 g5
    go_loopg [5, 24] lp (fun gk s i wr => ∃ j : Nat, gk = lp - j ∧ j ≤ lp ∧ i = .int .i64 j ∧ wr.ownsRow (w.heap.size + 2) 9 1 s (7 + j) (([kRoute, nm, kFrom, ya, kTo, yb, kVia] ++ (pa.take j).map (nth l.sections)).map Value.string) ∧ TwoAt w v #[.string nm, .int .i64 a, .int .i64 b, .slice p3 lp k3, .slice p4 lq k4, .slice p5 lf k5] wr)
    case atStart => exact ⟨0, rfl, by omega, rfl, by simpa using HO0.out, HTW0.out⟩
    case round =>
      clear HTW0 HO0
      obtain ⟨j, rfl, hj, rfl, hown, htw⟩ := hrel
      have hcc := htw.1.cells
      have hbl := htw.1.1
      have hlt2 := htw.lt
      rw [HV.out.1, HV.out.2.1, HV.out.2.2.1, HV.out.2.2.2] at hcc
      obtain ⟨q0, q1, q2, q3⟩ := hcc
      obtain ⟨g0, g1, g2, g3, g4, g5⟩ := htw.six
      have HTW : Hid (TwoAt w v #[.string nm, .int .i64 a, .int .i64 b, .slice p3 lp k3, .slice p4 lq k4, .slice p5 lf k5] wr) := htw
      clear htw
      by_cases hlt : j < lp
      · have hji : (j : Int) < (lp : Int) := by omega
        obtain ⟨x, hx⟩ : ∃ x, pa[j]? = some x := ⟨pa[j]'(by rw [HSP.out]; exact hlt), List.getElem?_eq_getElem _⟩
        obtain ⟨gx, offx, rfl, hcell⟩ := RP.out j _ hx
        have d0 := (hbl.cell (World.block_lt_of_cell? _ _ (hcell 0 _ rfl))).trans (hcell 0 _ rfl)
        rw [show offx + j * 1 + 0 = offx + j by omega] at d0
        have N1 := NS.out wr x (List.mem_of_getElem? hx) hbl
        have HTK : Hid (([kRoute, nm, kFrom, ya, kTo, yb, kVia] ++ (pa.take (j + 1)).map (nth l.sections)).map Value.string = ([kRoute, nm, kFrom, ya, kTo, yb, kVia] ++ (pa.take j).map (nth l.sections)).map Value.string ++ [.string (nth l.sections x)]) := by
          show _ = _
          rw [take_snocI hx]
          simp
        generalize nth l.sections x = y at *
        generalize ([kRoute, nm, kFrom, ya, kTo, yb, kVia] ++ (pa.take j).map (nth l.sections)).map Value.string = cells at *
        clear hcell hx
        go_wp2_with fail
        refine N1.mono ?_
        rintro e wz ⟨rfl, hwz⟩
        subst hwz
        go_wp2_with (at_builtin; refine wpList_append_own _ rfl _ _ 22 rfl (w.heap.size + 2) 9 i0 (.string ⟨#[]⟩) 1 16 Tryd.underlying22 hii hz0 hz1 hz2 rfl (by decide) _ _ _ rfl (hown.alloc _) ⟨wz.heap.size, 0, none⟩ 1 1 [.string y] rfl rfl (cell_one_new _ _ _) (one_str _) (by unfold maxLen; omega) (by omega) (by simp; omega) ?_)
        intro v' w3 hown3 hgrow _
        have HT3 : Hid (TwoAt w v #[.string nm, .int .i64 a, .int .i64 b, .slice (some ⟨gx, offx, none⟩) lp k3, .slice p4 lq k4, .slice p5 lf k5] w3) := (HTW.out.step ((Below.refl _ _).alloc (Nat.le_refl _) _)).grown (hown.alloc _) hgrow
        have HO3 : Hid (w3.ownsRow (w.heap.size + 2) 9 1 v' (7 + j + 1) (cells ++ [.string y])) := hown3
        clear hown3 hgrow hown q0 q1 q2 q3 g0 g1 g2 g3 g4 g5 d0 N1
        go_wp2
        go_roundg (lp - (j + 1))
        case rel => exact ⟨j + 1, rfl, by omega, by go_num, by rw [HTK.out]; exact HO3.out, HT3.out⟩
        case measure => omega
      · have hji : ¬ (j : Int) < (lp : Int) := by omega
        have HO : Hid (wr.ownsRow (w.heap.size + 2) 9 1 u5 (7 + lp) (([kRoute, nm, kFrom, ya, kTo, yb, kVia] ++ pa.map (nth l.sections)).map Value.string)) := by
          have := hown
          rw [take_all HSP.out (by omega), show j = lp by omega] at this
          exact this
        obtain ⟨gu, cu, rfl, hcu⟩ := own_slice1 HO.out (by omega)
        have WS0 : Hid (po = [] → ∀ W, Below w.heap.size w W → Calls Tryd.prog 33 #[.agg #[.slice o0 n0 c0, .slice o1 n1 c1, .slice o2 n2 c2, .slice o3 n3 c3], .string ⟨#[115, 101, 116]⟩, .slice p4 0 k4] W fun e w' => e = .returned (.slice none 0 0) ∧ Below W.heap.size W w') := fun _ W hW => by
          have := wantWords_nil v l rs ⟨#[115, 101, 116]⟩ p4 k4 W (HLR.out.below hW)
          rw [HV.out.1, HV.out.2.1, HV.out.2.2.1, HV.out.2.2.2] at this
          exact this
        have WF0 : Hid (fl = [] → ∀ W, Below w.heap.size w W → Calls Tryd.prog 33 #[.agg #[.slice o0 n0 c0, .slice o1 n1 c1, .slice o2 n2 c2, .slice o3 n3 c3], .string ⟨#[102, 108, 97, 110, 107]⟩, .slice p5 0 k5] W fun e w' => e = .returned (.slice none 0 0) ∧ Below W.heap.size W w') := fun _ W hW => by
          have := wantWords_nil v l rs ⟨#[102, 108, 97, 110, 107]⟩ p5 k5 W (HLR.out.below hW)
          rw [HV.out.1, HV.out.2.1, HV.out.2.2.1, HV.out.2.2.2] at this
          exact this
        have WS1 : Hid (po ≠ [] → ∀ W, Below w.heap.size w W → Calls Tryd.prog 33 #[.agg #[.slice o0 n0 c0, .slice o1 n1 c1, .slice o2 n2 c2, .slice o3 n3 c3], .string ⟨#[115, 101, 116]⟩, .slice p4 lq k4] W fun e w' => ∃ a, e = .returned a ∧ w'.ownsRow (W.heap.size + 1) 9 1 a (lq + 1) ((wantRow kSet (po.map (wantOf l))).map Value.string) ∧ Below W.heap.size W w') := fun hne W hW => by
          have := wantWords_any v l rs ⟨#[115, 101, 116]⟩ _ po W (HLR.out.below hW) (HR4.out.below hW) (by rw [HSQ.out]; omega) HSM.out.p.2 (by rw [HS1.out]; exact HQI.out) hne
          rw [HV.out.1, HV.out.2.1, HV.out.2.2.1, HV.out.2.2.2, HSQ.out] at this
          rw [wantRow_cells (fun e => hne (List.map_eq_nil_iff.1 e)), List.map_map]
          exact this
        have WF1 : Hid (fl ≠ [] → ∀ W, Below w.heap.size w W → Calls Tryd.prog 33 #[.agg #[.slice o0 n0 c0, .slice o1 n1 c1, .slice o2 n2 c2, .slice o3 n3 c3], .string ⟨#[102, 108, 97, 110, 107]⟩, .slice p5 lf k5] W fun e w' => ∃ a, e = .returned a ∧ w'.ownsRow (W.heap.size + 1) 9 1 a (lf + 1) ((wantRow kFlank (fl.map (wantOf l))).map Value.string) ∧ Below W.heap.size W w') := fun hne W hW => by
          have := wantWords_any v l rs ⟨#[102, 108, 97, 110, 107]⟩ _ fl W (HLR.out.below hW) (HR5.out.below hW) (by rw [HSF.out]; omega) HSM.out.p.2 (by rw [HS1.out]; exact HFI.out) hne
          rw [HV.out.1, HV.out.2.1, HV.out.2.2.1, HV.out.2.2.2, HSF.out] at this
          rw [wantRow_cells (fun e => hne (List.map_eq_nil_iff.1 e)), List.map_map]
          exact this
        have HAP : Hid (∀ (g c n : Nat), n ≤ c → ∀ W, (Builtin.append_ #[22, 22] 22 #[.slice (some ⟨g, 0, none⟩) n c, .slice none 0 0]).run Tryd.prog W = .ok (.slice (some ⟨g, 0, none⟩) n c) W) := fun g c n hn W =>
          run_append_nothing (P := Tryd.prog) W 22 22 22 9 i0 Tryd.underlying22 hii (some ⟨g, 0, none⟩) n c hn (.slice none 0 0) (Src.ofNil W Tryd.underlying22 0)
        generalize hcz : ([kRoute, nm, kFrom, ya, kTo, yb, kVia] ++ pa.map (nth l.sections)).map Value.string = cz at HO
        have HCZ : Hid (([kRoute, nm, kFrom, ya, kTo, yb, kVia] ++ pa.map (nth l.sections)).map Value.string = cz) := hcz
        generalize hsr : (wantRow kSet (po.map (wantOf l))).map Value.string = sr at WS1
        have HSR : Hid ((wantRow kSet (po.map (wantOf l))).map Value.string = sr) := hsr
        generalize hfz : (wantRow kFlank (fl.map (wantOf l))).map Value.string = fz at WF1
        have HFR : Hid ((wantRow kFlank (fl.map (wantOf l))).map Value.string = fz) := hfz
        clear hcz hsr hfz hown
        by_cases hq0 : lq = 0
        · subst hq0
          have hpo : po = [] := List.length_eq_zero_iff.1 HSQ.out
          have C1 := WS0.out hpo _ hbl
          have hap := HAP.out gu cu (7 + lp) hcu
          go_wp2_with fail
          refine C1.mono ?_
          rintro e w5 ⟨rfl, hb5⟩
          have HT5 : Hid (TwoAt w v #[.string nm, .int .i64 a, .int .i64 b, .slice p3 lp k3, .slice p4 0 k4, .slice p5 lf k5] w5) := HTW.out.step hb5
          have HO5 : Hid (w5.ownsRow (w.heap.size + 2) 9 1 (.slice (some ⟨gu, 0, none⟩) (7 + lp) cu) (7 + lp) (cz)) := owns_below HO.out hb5
          have hcc := HT5.out.1.cells
          rw [HV.out.1, HV.out.2.1, HV.out.2.2.1, HV.out.2.2.2] at hcc
          clear q0 q1 q2 q3 g0 g1 g2 g3 g4 g5
          obtain ⟨q0, q1, q2, q3⟩ := hcc
          obtain ⟨g0, g1, g2, g3, g4, g5⟩ := HT5.out.six
          by_cases hf0 : lf = 0
          · subst hf0
            have hfl : fl = [] := List.length_eq_zero_iff.1 HSF.out
            have C2 := WF0.out hfl _ HT5.out.1.1
            have hap2 := HAP.out gu cu (7 + lp) hcu
            go_wp2_with fail
            refine C2.mono ?_
            rintro e w8 ⟨rfl, hb8⟩
            have HO8 := owns_below HO5.out hb8
            have hbl8 := HT5.out.1.1.trans (hb8.mono HT5.out.1.1.size)
            go_wp2
            go_ret
            exact ⟨_, rfl, owns_fin HO8 (by rw [← HCZ.out, hpo, hfl]; simp [wantRow]), hbl8⟩
          · have hfl : fl ≠ [] := fun e => hf0 (by rw [← HSF.out, e]; rfl)
            have C2 := WF1.out hfl _ HT5.out.1.1
            go_wp2_with fail
            refine C2.mono ?_
            rintro e w8 ⟨a8, rfl, hown8, hb8⟩
            obtain ⟨g8, c8, rfl, hc8⟩ := own_slice1 hown8 (by omega)
            have hce8 := hown8.cells (g := g8) rfl
            have hle8 := hown8.1
            have HO8 : Hid (w8.ownsRow (w.heap.size + 2) 9 1 (.slice (some ⟨gu, 0, none⟩) (7 + lp) cu) (7 + lp) (cz)) := owns_below HO5.out hb8
            have hlt8 := (HT5.out.step hb8).lt
            have hbl8 := HT5.out.1.1.trans (hb8.mono HT5.out.1.1.size)
            have HT8 := HT5.out.step hb8
            go_wp2_with (at_builtin; refine wpList_append_own _ rfl _ _ 22 rfl (w.heap.size + 2) 9 i0 (.string ⟨#[]⟩) 1 16 Tryd.underlying22 hii hz0 hz1 hz2 rfl (by decide) _ _ _ rfl HO8.out ⟨g8, 0, none⟩ (lf + 1) c8 (fz) rfl hle8 hce8 (by rw [← HFR.out]; exact map_str_one _) (by unfold maxLen; omega) (by omega) (by omega) ?_)
            intro v' w9 hown9 hgrow9 _
            have HT9 := HT8.grown HO8.out hgrow9
            go_wp2
            go_ret
            exact ⟨_, rfl, owns_fin hown9 (by rw [← HCZ.out, ← HFR.out, hpo]; simp [wantRow]), HT9.1.1⟩
        · have hpo : po ≠ [] := fun e => hq0 (by rw [← HSQ.out, e]; rfl)
          have C1 := WS1.out hpo _ hbl
          go_wp2_with fail
          refine C1.mono ?_
          rintro e w5 ⟨a5, rfl, hown5, hb5⟩
          obtain ⟨g5', c5, rfl, hc5⟩ := own_slice1 hown5 (by omega)
          have hce5 := hown5.cells (g := g5') rfl
          have hle5 := hown5.1
          have HO5 : Hid (w5.ownsRow (w.heap.size + 2) 9 1 (.slice (some ⟨gu, 0, none⟩) (7 + lp) cu) (7 + lp) (cz)) := owns_below HO.out hb5
          have HT5 := HTW.out.step hb5
          have hlt5 := HT5.lt
          go_wp2_with (at_builtin; refine wpList_append_own _ rfl _ _ 22 rfl (w.heap.size + 2) 9 i0 (.string ⟨#[]⟩) 1 16 Tryd.underlying22 hii hz0 hz1 hz2 rfl (by decide) _ _ _ rfl HO5.out ⟨g5', 0, none⟩ (lq + 1) c5 (sr) rfl hle5 hce5 (by rw [← HSR.out]; exact map_str_one _) (by unfold maxLen; omega) (by omega) (by omega) ?_)
          intro v6 w6 hown6 hgrow6 _
          have HT6 : Hid (TwoAt w v #[.string nm, .int .i64 a, .int .i64 b, .slice p3 lp k3, .slice p4 lq k4, .slice p5 lf k5] w6) := HT5.grown HO5.out hgrow6
          obtain ⟨gv, cv, rfl, hcv⟩ := own_slice1 hown6 (by omega)
          have HO6 : Hid (w6.ownsRow (w.heap.size + 2) 9 1 (.slice (some ⟨gv, 0, none⟩) (7 + lp + (lq + 1)) cv) (7 + lp + (lq + 1)) (cz ++ sr)) := hown6
          clear hown6 hgrow6 hown5 hce5 hle5
          have hcc := HT6.out.1.cells
          rw [HV.out.1, HV.out.2.1, HV.out.2.2.1, HV.out.2.2.2] at hcc
          clear q0 q1 q2 q3 g0 g1 g2 g3 g4 g5
          obtain ⟨q0, q1, q2, q3⟩ := hcc
          obtain ⟨g0, g1, g2, g3, g4, g5⟩ := HT6.out.six
          by_cases hf0 : lf = 0
          · subst hf0
            have hfl : fl = [] := List.length_eq_zero_iff.1 HSF.out
            have C2 := WF0.out hfl _ HT6.out.1.1
            have hap2 := HAP.out gv cv (7 + lp + (lq + 1)) hcv
            go_wp2_with fail
            refine C2.mono ?_
            rintro e w8 ⟨rfl, hb8⟩
            have HO8 := owns_below HO6.out hb8
            have hbl8 := HT6.out.1.1.trans (hb8.mono HT6.out.1.1.size)
            go_wp2
            go_ret
            exact ⟨_, rfl, owns_fin HO8 (by rw [← HCZ.out, ← HSR.out, hfl]; simp [wantRow]), hbl8⟩
          · have hfl : fl ≠ [] := fun e => hf0 (by rw [← HSF.out, e]; rfl)
            have C2 := WF1.out hfl _ HT6.out.1.1
            go_wp2_with fail
            refine C2.mono ?_
            rintro e w8 ⟨a8, rfl, hown8, hb8⟩
            obtain ⟨g8, c8, rfl, hc8⟩ := own_slice1 hown8 (by omega)
            have hce8 := hown8.cells (g := g8) rfl
            have hle8 := hown8.1
            have HO8 : Hid (w8.ownsRow (w.heap.size + 2) 9 1 (.slice (some ⟨gv, 0, none⟩) (7 + lp + (lq + 1)) cv) (7 + lp + (lq + 1)) (cz ++ sr)) := owns_below HO6.out hb8
            have hlt8 := (HT6.out.step hb8).lt
            have hbl8 := HT6.out.1.1.trans (hb8.mono HT6.out.1.1.size)
            have HT8 := HT6.out.step hb8
            go_wp2_with (at_builtin; refine wpList_append_own _ rfl _ _ 22 rfl (w.heap.size + 2) 9 i0 (.string ⟨#[]⟩) 1 16 Tryd.underlying22 hii hz0 hz1 hz2 rfl (by decide) _ _ _ rfl HO8.out ⟨g8, 0, none⟩ (lf + 1) c8 (fz) rfl hle8 hce8 (by rw [← HFR.out]; exact map_str_one _) (by unfold maxLen; omega) (by omega) (by omega) ?_)
            intro v' w9 hown9 hgrow9 _
            have HT9 := HT8.grown HO8.out hgrow9
            go_wp2
            go_ret
            exact ⟨_, rfl, owns_fin hown9 (by rw [← HCZ.out, ← HFR.out, ← HSR.out]; simp [wantRow]), HT9.1.1⟩
end Go.Proofs.YtgiaicmhnkhbnaaDoor
