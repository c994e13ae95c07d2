/-
  The law: is what the field is told no more than may be? where it is so: by a contract.
-/
import Derived.Test.YtceebimgfajbcaaGreatDoorRfClear
import Derived.Test.YtceebimgfajbcaaGreatDoorLkTellP
namespace Go.Proofs.YtceebimgfajbcaaGreatDoor
open Go.RowKit

theorem any_take {α : Type} {p : α → Bool} {l : List α} {q : Nat} {x : α} (h : l[q]? = some x) : (l.take (q + 1)).any p = ((l.take q).any p || p x) := by
  rw [List.take_add_one, h, List.any_append]
  simp

set_option maxRecDepth 1000000 in
set_option maxHeartbeats 32000000 in
theorem right_any (v : Nat → Value) (l : Lay) (rs : List RtV) (u : Nat → Value) (occ : List Bool) (lies : List Int) (y : Nat → Value) (dr : List Int) (pr : List Bool) (vr : Value) (ss : List St) (w : World) (h : LayRd w v l rs) (hin : InRd w u occ lies) (hd : rowAt w (y 0) 1 iC dr) (hp : rowAt w (y 1) 1 bC pr) (hv : rowAt w vr 4 stC ss)
    (hok : LkOk l.sections.length l.signals.length (l.points.map (·.2)) (waysG rs rs 0) ss) (hcap : ∀ x ∈ rs, capOk x.2.1) (hlen : dr.length = l.points.length ∧ pr.length = l.signals.length ∧ occ.length = l.sections.length ∧ lies.length = l.points.length) (T : TellOk occ lies (l.points.map (·.2)) ((waysG rs rs 0).zip ss) dr pr) :
    Calls Tryz.prog 16 #[.agg #[v 0, v 1, v 2, v 3], .agg #[u 0, u 1], .agg #[y 0, y 1], vr] w fun e w' => e = .returned (.bool true) ∧ Below w.heap.size w w' := by
  have hfew := hok.few
  have hsl := hok.len
  rw [waysG_map] at hsl hfew
  rw [List.length_map] at hfew
  have hwy : ∀ (j : Nat) (x : RtV), rs[j]? = some x → WyOk l.sections.length (l.points.map (·.2)).length l.signals.length (wayF rs (0 + j) x.1) := fun j x hx => hok.ways _ (List.mem_of_getElem? (ways_at rs rs 0 j x hx))
  have HCL : Hid (∀ W, Below w.heap.size w W → ∀ (j : Nat) (x : RtV), rs[j]? = some x → Calls Tryz.prog 36 #[.agg #[v 0, v 1, v 2, v 3], .int .i64 j, .agg #[u 0, u 1]] W fun e w' => e = .returned (.bool (clearB occ x.1.path)) ∧ Below W.heap.size W w') := fun W hW j x hx => rfClear_any v l rs j x u occ lies W (h.below hW) (hin.below hW) hx ⟨(hwy j x hx).few.1, by omega⟩ fun s hs => by rw [hlen.2.2.1]; exact (hwy j x hx).path s hs
  have HRI : Hid (∀ W, Below w.heap.size w W → ∀ (j : Nat) (x : RtV), rs[j]? = some x → Calls Tryz.prog 37 #[.agg #[v 0, v 1, v 2, v 3], .int .i64 j, .agg #[u 0, u 1]] W fun e w' => e = .returned (.bool (rightB lies (x.1.points ++ x.1.flank))) ∧ Below W.heap.size W w') := fun W hW j x hx => rfRight_any v l rs j x u occ lies W (h.below hW) (hin.below hW) hx ⟨by have := (hwy j x hx).few.2.1; rw [show (wayF rs (0 + j) x.1).needs = x.1.points ++ x.1.flank from rfl, List.length_append] at this; exact this, by omega⟩ fun s hs => by have := (hwy j x hx).needs s hs; rw [List.length_map] at this; rw [hlen.2.2.2]; exact this
  have HLD : Hid (∀ W, Below w.heap.size w W → ∀ (j : Nat) (x : RtV) (m t g : Int) (b : Bool) (sec : Int), rs[j]? = some x → ss[j]? = some (m, t, g, b) → Calls Tryz.prog 38 #[.agg #[v 0, v 1, v 2, v 3], .int .i64 j, .agg #[.int .i64 m, .int .i64 t, .int .i64 g, .bool b], .int .i64 sec] W fun e w' => e = .returned (.bool (holdsB sec (wayF rs (0 + j) x.1, (m, t, g, b)))) ∧ Below W.heap.size W w') := fun W hW j x m t g b sec hx hs => rfHolds_any v l rs j x m t g b sec W (h.below hW) hx (hcap x (List.mem_of_getElem? hx)) (hok.sts j _ _ (ways_at rs rs 0 j x hx) hs) (hwy j x hx).some_ (hwy j x hx).few.1
  have HSEC : Hid (∀ (k : Nat) (pt : ByteArray × Int), l.points[k]? = some pt → 0 ≤ pt.2 ∧ pt.2 < (l.sections.length : Nat)) := fun k pt hk => hok.inn _ (List.mem_map.2 ⟨pt, List.mem_of_getElem? hk, rfl⟩)
  have HNTH : Hid (∀ (k : Nat) (pt : ByteArray × Int), l.points[k]? = some pt → nthI (l.points.map (·.2)) k = pt.2) := fun k pt hk => nthI_at (by rw [List.getElem?_map, hk]; rfl)
  have HT : Hid (TellOk occ lies (l.points.map (·.2)) ((waysG rs rs 0).zip ss) dr pr) := T
  have HQ : Hid (∀ (j : Nat) (x : RtV) (s : St), rs[j]? = some x → ss[j]? = some s → ((waysG rs rs 0).zip ss)[j]? = some (wayF rs (0 + j) x.1, s)) := fun j x s hx hs => by show _ = _; rw [List.getElem?_zip_eq_some]; exact ⟨ways_at rs rs 0 j x hx, hs⟩
  have HQL : Hid (((waysG rs rs 0).zip ss).length = rs.length) := by show _ = _; rw [List.length_zip, waysG_map]; omega
  generalize (waysG rs rs 0).zip ss = Q at *
  obtain ⟨o0, c0, e0, _⟩ := h.s
  obtain ⟨o1, c1, e1, r1⟩ := h.p
  obtain ⟨o2, c2, e2, _⟩ := h.g
  obtain ⟨o3, c3, e3, r3⟩ := h.r
  have HPT := (show Hid _ from r1)
  have HRT := (show Hid _ from r3)
  obtain ⟨p0, d0, f0, q0⟩ := hin.o
  obtain ⟨p1, d1, f1, q1⟩ := hin.l
  have HOC := (show Hid _ from row_bool (w := w) ⟨p0, d0, rfl, q0⟩)
  have HLI := (show Hid _ from row_int (w := w) ⟨p1, d1, rfl, q1⟩)
  obtain ⟨p2, d2, f2, q2⟩ := hd
  obtain ⟨p3, d3, f3, q3⟩ := hp
  have HDR := (show Hid _ from row_int (w := w) ⟨p2, d2, rfl, q2⟩)
  have HPR := (show Hid _ from row_bool (w := w) ⟨p3, d3, rfl, q3⟩)
  obtain ⟨p4, d4, rfl, q4⟩ := hv
  have HST := (show Hid _ from row_st (w := w) ⟨p4, d4, rfl, q4⟩)
  rw [e0, e1, e2, e3] at HCL HRI HLD ⊢
  rw [f0, f1] at HCL HRI ⊢
  rw [f2, f3, hlen.1, hlen.2.1, hlen.2.2.1, hlen.2.2.2, hsl]
  rw [hlen.2.2.1, hlen.2.2.2] at HCL HRI
  have HLN : Hid (dr.length = l.points.length ∧ pr.length = l.signals.length ∧ occ.length = l.sections.length ∧ lies.length = l.points.length ∧ ss.length = rs.length) := ⟨hlen.1, hlen.2.1, hlen.2.2.1, hlen.2.2.2, hsl⟩
  clear h hin hok hcap hlen T hwy r1 r3 q0 q1 q2 q3 q4 e0 e1 e2 e3 f0 f1 f2 f3 hsl
  generalize hz0 : l.sections.length = n0 at *
  generalize hz1 : l.points.length = n1 at *
  generalize hz2 : l.signals.length = n2 at *
  generalize hz3 : rs.length = n3 at *
  have HZ : Hid (l.points.length = n1 ∧ rs.length = n3) := ⟨hz1, hz3⟩
  clear hz0 hz1 hz2 hz3
  obtain ⟨hn0, hn1, hn2, hn3⟩ := hfew
  generalize hch : ((w.alloc (.cells #[.slice o0 n0 c0, .slice o1 n1 c1, .slice o2 n2 c2, .slice o3 n3 c3] 26)).alloc (.cells #[.slice p0 n0 d0, .slice p1 n1 d1] 38)).alloc (.cells #[.slice p2 n1 d2, .slice p3 n2 d3] 46) = w1
  have HB01 : Hid (Below w.heap.size w w1) := by show Below _ _ _; rw [← hch]; exact (by repeat' (with_reducible first | exact Below.refl _ _ | refine Below.drew ?_ | refine _root_.Go.below_drewN ?_ _ | refine Below.alloc ?_ ?_ _ | refine Below.setCell ?_ ?_ _ | exact Nat.le_refl _ | (simp; done) | (simp; omega)))
  have H0 : Hid (w1.heap[w.heap.size]? = some (.cells #[.slice o0 n0 c0, .slice o1 n1 c1, .slice o2 n2 c2, .slice o3 n3 c3] 26 (0, 0))) := by show _ = _; rw [← hch]; exact blk_old (blk_old (blk_new _ _))
  have H1 : Hid (w1.heap[w.heap.size + 1]? = some (.cells #[.slice p0 n0 d0, .slice p1 n1 d1] 38 (0, 0))) := by show _ = _; rw [← hch]; exact blk_old (blk_at1 _ _ _)
  have H2 : Hid (w1.heap[w.heap.size + 2]? = some (.cells #[.slice p2 n1 d2, .slice p3 n2 d3] 46 (0, 0))) := by show _ = _; rw [← hch]; exact blk_at2 _ _ _ _
  go_enter Tryz.func16, Tryz.ntmps16
  go_wp2
  clear hch
  go_loopg [9] n2 (fun gk i wr => ∃ s : Nat, gk = n2 - s ∧ i = .int .i64 s ∧ s ≤ n2 ∧ Below w1.heap.size w1 wr)
  case atStart => exact ⟨0, rfl, rfl, by omega, Below.refl _ _⟩
  case round =>
    obtain ⟨s, rfl, rfl, hsn, hb⟩ := hrel
    have HBR : Hid (Below w1.heap.size w1 wr) := hb
    have HBW : Hid (Below w.heap.size w wr) := HB01.out.trans (hb.mono HB01.out.size)
    clear hb
    obtain ⟨⟨x0, x1, x2, x3⟩, _⟩ := cells4 (blk_below HBR.out H0.out)
    by_cases hlt : s < n2
    · have hsi : (s : Int) < (n2 : Int) := by omega
      obtain ⟨bs, hbs⟩ : ∃ bs, pr[s]? = some bs := at_of (by rw [HLN.out.2.1]; exact hlt)
      obtain ⟨gp, fp, rfl, b0⟩ := HPR.out s bs hbs
      obtain ⟨z0, z1⟩ := cells2 (blk_below HBR.out H2.out)
      have b1 := up_cell HBW.out b0
      have TP : Hid (bs = true → Q.any (condB occ lies s) = true) := fun e => HT.out.pr s (by rw [hbs, e])
      obtain ⟨bb, hbb⟩ : ∃ bb, bb = !bs := ⟨_, rfl⟩
      have HBB : Hid (bb = !bs) := hbb
      clear b0 hbs hbb
      cases bs
      all_goals
        go_wp2_with fail
        clear x0 x1 x2 x3 z0 z1 b1
        go_loopg [10, 11] n3 (fun gk c i wr => ∃ (q : Nat) (ok : Bool), gk = n3 - q ∧ c = .bool ok ∧ i = .int .i64 q ∧ q ≤ n3 ∧ ok = (bb || (Q.take q).any (condB occ lies s)) ∧ Below w1.heap.size w1 wr)
        case atStart => exact ⟨0, bb, rfl, by rw [HBB.out]; rfl, rfl, by omega, by simp, HBR.out⟩
        case round =>
          obtain ⟨q, ok, rfl, rfl, rfl, hq, ho, hb⟩ := hrel
          have HOK : Hid (ok = (bb || (Q.take q).any (condB occ lies s))) := ho
          have HB6 : Hid (Below w1.heap.size w1 wr) := hb
          have HBV : Hid (Below w.heap.size w wr) := HB01.out.trans (hb.mono HB01.out.size)
          clear ho hb
          by_cases hqn : q < n3
          · have hqi : (q : Int) < (n3 : Int) := by omega
            obtain ⟨x, hx⟩ := at_of (l := rs) (k := q) (by have := HZ.out.2; omega)
            obtain ⟨⟨m, t, g, b⟩, hst⟩ := at_of (l := ss) (k := q) (by have := HLN.out.2.2.2.2; have := HZ.out.2; omega)
            have NX : Hid (∀ c, condB occ lies s (wayF rs (0 + q) x.1, (m, t, g, b)) = c → (ok || c) = (bb || (Q.take (q + 1)).any (condB occ lies s))) := fun c hc => by rw [any_take (HQ.out q x _ hx hst), ← Bool.or_assoc, ← HOK.out, hc]
            cases ok
            · obtain ⟨gs, fs, rfl, s0, -, -, -⟩ := HST.out q _ hst
              obtain ⟨g3, f3, rfl, hcx⟩ := HRT.out q x hx
              have xf := hcx 1 _ rfl
              simp only at s0
              have a0 := up_cell HBV.out s0
              have a1 := up_cell HBV.out xf
              clear s0 xf hcx
              have CB : Hid (condB occ lies s (wayF rs (0 + q) x.1, (m, t, g, b)) = (decide (m = 2) && (decide (x.1.frm = s) && (clearB occ x.1.path && rightB lies (x.1.points ++ x.1.flank))))) := rfl
              have C1 := (show Hid _ from fun W hW => HCL.out W hW q x hx)
              have C2 := (show Hid _ from fun W hW => HRI.out W hW q x hx)
              generalize hfr : x.1.frm = fr at *
              generalize clearB occ x.1.path = cl at *
              generalize rightB lies (x.1.points ++ x.1.flank) = ri at *
              obtain ⟨⟨x0, x1, x2, x3⟩, _⟩ := cells4 (blk_below HB6.out H0.out)
              obtain ⟨z0, z1⟩ := cells2 (blk_below HB6.out H1.out)
              clear hx hst hfr
              by_cases hm : m = 2
              · have hm2 : (m == 2) = true := by simp [hm]
                by_cases hf : fr = s
                · have hf2 : (fr == (s : Int)) = true := by simp [hf]
                  have CC : Hid (condB occ lies s (wayF rs (0 + q) x.1, (m, t, g, b)) = (cl && ri)) := by show _ = _; rw [CB.out]; simp [hm, hf]
                  have D := C1.out wr HBV.out
                  clear hm hf
                  go_wp2_with fail
                  refine D.mono ?_
                  rintro e w6 ⟨rfl, hb⟩
                  have HB7 : Hid (Below w1.heap.size w1 w6) := HB6.out.trans (hb.mono HB6.out.size)
                  have HBU : Hid (Below w.heap.size w w6) := HBV.out.trans (hb.mono HBV.out.size)
                  clear hb D x0 x1 x2 x3 z0 z1 a0 a1
                  cases cl
                  · go_wp2
                    go_roundg (n3 - (q + 1))
                    case rel => exact ⟨q + 1, false, rfl, rfl, by go_num, by omega, NX.out false CC.out, HB7.out⟩
                    case measure => omega
                  · have D := C2.out w6 HBU.out
                    obtain ⟨⟨x0, x1, x2, x3⟩, _⟩ := cells4 (blk_below HB7.out H0.out)
                    obtain ⟨z0, z1⟩ := cells2 (blk_below HB7.out H1.out)
                    go_wp2_with fail
                    refine D.mono ?_
                    rintro e w7 ⟨rfl, hb⟩
                    have HB8 : Hid (Below w1.heap.size w1 w7) := HB7.out.trans (hb.mono HB7.out.size)
                    clear hb D x0 x1 x2 x3 z0 z1
                    cases ri
                    all_goals
                      go_wp2
                      go_roundg (n3 - (q + 1))
                      case rel => exact ⟨q + 1, _, rfl, rfl, by go_num, by omega, NX.out _ CC.out, HB8.out⟩
                      case measure => omega
                · have hf2 : (fr == (s : Int)) = false := by simp [hf]
                  have CC : Hid (condB occ lies s (wayF rs (0 + q) x.1, (m, t, g, b)) = false) := by show _ = _; rw [CB.out]; simp [hf]
                  clear hm hf
                  go_wp2
                  go_roundg (n3 - (q + 1))
                  case rel => exact ⟨q + 1, false, rfl, rfl, by go_num, by omega, NX.out false CC.out, HB6.out⟩
                  case measure => omega
              · have hm2 : (m == 2) = false := by simp [hm]
                have CC : Hid (condB occ lies s (wayF rs (0 + q) x.1, (m, t, g, b)) = false) := by show _ = _; rw [CB.out]; simp [hm]
                clear hm
                go_wp2
                go_roundg (n3 - (q + 1))
                case rel => exact ⟨q + 1, false, rfl, rfl, by go_num, by omega, NX.out false CC.out, HB6.out⟩
                case measure => omega
            · clear hx hst
              go_wp2
              go_roundg (n3 - (q + 1))
              case rel => exact ⟨q + 1, true, rfl, rfl, by go_num, by omega, by have := NX.out _ rfl; rw [Bool.true_or] at this; exact this, HB6.out⟩
              case measure => omega
          · have hqi : ¬ (q : Int) < (n3 : Int) := by omega
            have hk1 : ok = true := by
              have h0 := HOK.out
              rw [List.take_of_length_le (by rw [HQL.out]; omega), HBB.out] at h0
              first | exact h0 | (have h9 := TP.out (by first | rfl | trivial); rw [h9] at h0; exact h0)
            subst hk1
            clear HOK
            go_wp2
            go_roundg (n2 - (s + 1))
            case rel => exact ⟨s + 1, rfl, by go_num, by omega, HB6.out⟩
            case measure => omega
    · have hsi : ¬ (s : Int) < (n2 : Int) := by omega
      go_wp2
      clear x0 x1 x2 x3 hsi hlt hsn
      have HBZ : Hid (Below w1.heap.size w1 wr) := HBR.out
      clear HBR HBW
      go_loopg [12] n1 (fun gk i wr => ∃ p : Nat, gk = n1 - p ∧ i = .int .i64 p ∧ p ≤ n1 ∧ Below w1.heap.size w1 wr)
      case atStart => exact ⟨0, rfl, rfl, by omega, HBZ.out⟩
      case round =>
        clear HBZ
        obtain ⟨p, rfl, rfl, hpn, hb⟩ := hrel
        have HBR : Hid (Below w1.heap.size w1 wr) := hb
        have HBW : Hid (Below w.heap.size w wr) := HB01.out.trans (hb.mono HB01.out.size)
        clear hb
        obtain ⟨⟨x0, x1, x2, x3⟩, _⟩ := cells4 (blk_below HBR.out H0.out)
        by_cases hlt : p < n1
        · have hpi : (p : Int) < (n1 : Int) := by omega
          obtain ⟨d, hd⟩ : ∃ d, dr[p]? = some d := at_of (by have := HLN.out.1; have := HZ.out.1; omega)
          obtain ⟨gp, fp, rfl, b0⟩ := HDR.out p d hd
          obtain ⟨z0, z1⟩ := cells2 (blk_below HBR.out H2.out)
          have b1 := up_cell HBW.out b0
          clear b0
          by_cases hd0 : d = 0
          · have hd2 : (d == 0) = true := by simp [hd0]
            clear hd hd0
            go_wp2_with fail
            go_roundg (n1 - (p + 1))
            case rel => exact ⟨p + 1, rfl, by go_num, by omega, HBR.out⟩
            case measure => omega
          · have hd2 : (d == 0) = false := by simp [hd0]
            obtain ⟨⟨nm, sec⟩, hpt⟩ := at_of (l := l.points) (k := p) (by have := HZ.out.1; omega)
            have hsb := HSEC.out p _ hpt
            have hnth := HNTH.out p _ hpt
            simp only at hsb hnth
            obtain ⟨zk, rfl, hzk⟩ := nat_of (n := n0) (i := sec) hsb
            obtain ⟨bz, hbz⟩ : ∃ bz, occ[zk]? = some bz := at_of (by rw [HLN.out.2.2.1]; exact hzk)
            obtain ⟨lv, hlv⟩ : ∃ lv, lies[p]? = some lv := at_of (by have := HLN.out.2.2.2.1; have := HZ.out.1; omega)
            obtain rfl : bz = false := by
              have := HT.out.occ p d hd hd0
              rw [hnth, occF_at hbz] at this
              exact this
            have hdl : d ≠ lv := by
              have := HT.out.lie p d hd hd0
              rw [lieF_at hlv] at this
              exact this
            have hdl2 : (d == lv) = false := by simp [hdl]
            have HOW : Hid (∀ y ∈ Q, holdsB (zk : Int) y = true → y.2.1 = 1) := fun y hy hh => HT.out.own p d hd hd0 y hy (by rw [hnth]; exact hh)
            obtain ⟨go, fo, rfl, b2⟩ := HOC.out zk _ hbz
            obtain ⟨gl, fl, rfl, b3⟩ := HLI.out p _ hlv
            obtain ⟨g1, f1, rfl, hcx⟩ := HPT.out p _ hpt
            have b4 := hcx 1 _ rfl
            have B4 := (show Hid _ from b4)
            obtain ⟨y0, y1⟩ := cells2 (blk_below HBR.out H1.out)
            have hzi : (zk : Int) < (n0 : Int) := by omega
            have e0 := ext_cell x1
            have e1 := ext_cell z0
            have e2 := ext_cell y0
            have e3 := ext_cell y1
            have e4 := ext_cell b1
            have e5 := ext_cell (up_cell HBW.out b2)
            have e6 := ext_cell (up_cell HBW.out b3)
            have e7 := ext_cell (up_cell HBW.out b4)
            haveI := ext_some wr
            have HB3 : Hid (Below w1.heap.size w1 wr.drew) := HBR.out.drew
            clear hd hd0 hdl hsb hnth hpt hbz hlv b2 b3 b4 hcx y0 y1
            go_wp2_with fail
            clear x0 x1 x2 x3 z0 z1 b1
            refine wp_region_mix_seq (C := fun W => ∃ y : Ext wr, W = y.z) [0, 1, 2, 3, 4, 5, 6, 7, 8, 9, 10, 11, 12, 13, 14, 15, 16, 17, 18, 19, 20, 21, 22] (by kernel_rfl) (by kernel_rfl) (by kernel_rfl) (by kernel_rfl) (by simp only [List.filterMap_cons, List.getElem?_toArray, List.getElem?_cons_zero, List.getElem?_cons_succ, List.filterMap_nil]; rfl) ⟨⟨_, (Below.refl _ _).drew⟩, rfl⟩ ?_
            (repeat (first | (with_reducible refine mix_read (by kernel_rfl) ?_; go_big_quiet_want; go_big_quiet_op; go_big_quiet_on; with_reducible refine wpQuiet_nil ?_) | (with_reducible refine mix_pass (by kernel_rfl) ?_; go_big_quiet_skip; with_reducible refine wpQuiet_nil ?_)))
            with_reducible refine mix_end ?_
            intro _
            clear e0 e1 e2 e3 e4 e5 e6 e7
            go_wp2
            generalize wr.drew = wd at *
            clear HBR HBW
            go_loopg [13] n3 (fun gk i wr => ∃ q : Nat, gk = n3 - q ∧ i = .int .i64 q ∧ q ≤ n3 ∧ Below w1.heap.size w1 wr)
            case atStart => exact ⟨0, rfl, rfl, by omega, HB3.out⟩
            case round =>
              obtain ⟨q, rfl, rfl, hq, hb⟩ := hrel
              have HB6 : Hid (Below w1.heap.size w1 wr) := hb
              have HBV : Hid (Below w.heap.size w wr) := HB01.out.trans (hb.mono HB01.out.size)
              clear hb
              by_cases hqn : q < n3
              · have hqi : (q : Int) < (n3 : Int) := by omega
                obtain ⟨x, hx⟩ := at_of (l := rs) (k := q) (by have := HZ.out.2; omega)
                obtain ⟨⟨m, t, g, b⟩, hst⟩ := at_of (l := ss) (k := q) (by have := HLN.out.2.2.2.2; have := HZ.out.2; omega)
                obtain ⟨gs, fs, rfl, s0, s1, s2, s3⟩ := HST.out q _ hst
                simp only at s0 s1 s2 s3
                obtain ⟨⟨x0, x1, x2, x3⟩, _⟩ := cells4 (blk_below HB6.out H0.out)
                have C : Hid (∀ U, Below w.heap.size w U → Calls Tryz.prog 38 #[.agg #[.slice o0 n0 c0, .slice (some ⟨g1, f1, none⟩) n1 c1, .slice o2 n2 c2, .slice o3 n3 c3], .int .i64 q, .agg #[.int .i64 m, .int .i64 t, .int .i64 g, .bool b], .int .i64 zk] U fun e w' => e = .returned (.bool (holdsB (zk : Int) (wayF rs (0 + q) x.1, (m, t, g, b)))) ∧ Below U.heap.size U w') := fun U hU => HLD.out U hU q x m t g b zk hx hst
                have HM : Hid (holdsB (zk : Int) (wayF rs (0 + q) x.1, (m, t, g, b)) = true → m = 1) := fun hh => HOW.out _ (List.mem_of_getElem? (HQ.out q x _ hx hst)) hh
                generalize holdsB (zk : Int) (wayF rs (0 + q) x.1, (m, t, g, b)) = bh at *
                have e0 := ext_cell x0
                have e1 := ext_cell x1
                have e2 := ext_cell x2
                have e3 := ext_cell x3
                have e4 := ext_cell (up_cell HBV.out s0)
                have e5 := ext_cell (up_cell HBV.out s1)
                have e6 := ext_cell (up_cell HBV.out s2)
                have e7 := ext_cell (up_cell HBV.out s3)
                have e8 := ext_cell (up_cell HBV.out B4.out)
                haveI := ext_some wr
                have HBQ : Hid (Below wr.heap.size wr wr.drew) := (Below.refl _ _).drew
                clear hx hst s0 s1 s2 s3 x0 x1 x2 x3
                cases bh
                · go_wp2_with fail
                  refine wp_region_mix_seq (C := fun W => ∃ y : Ext wr, W = y.z) [0, 1, 2, 3, 4, 5, 6, 7, 8, 9, 10, 11, 12, 13, 14, 15, 16, 17, 18, 19, 20] (by kernel_rfl) (by kernel_rfl) (by kernel_rfl) (by kernel_rfl) (by simp only [List.filterMap_cons, List.getElem?_toArray, List.getElem?_cons_zero, List.getElem?_cons_succ, List.filterMap_nil]; rfl) ⟨⟨_, HBQ.out⟩, rfl⟩ ?_
                  generalize wr.drew = wd at *
                  (repeat (first | (with_reducible refine mix_read (by kernel_rfl) ?_; go_big_quiet_want; go_big_quiet_op; go_big_quiet_on; with_reducible refine wpQuiet_nil ?_) | (with_reducible refine mix_pass (by kernel_rfl) ?_; go_big_quiet_skip; with_reducible refine wpQuiet_nil ?_)))
                  with_reducible refine mix_call (by kernel_rfl) (by kernel_rfl) ((C.out _ (HBV.out.trans (HBQ.out.mono HBV.out.size))).mono ?_) (by kernel_rfl)
                  rintro e w6 ⟨rfl, hb⟩
                  have HB7 : Hid (Below wr.heap.size wr w6) := HBQ.out.trans (hb.mono HBQ.out.size)
                  clear hb
                  refine ⟨_, rfl, ⟨⟨_, HB7.out⟩, rfl⟩, ?_⟩
                  simp only [Act.put, List.setIfInBounds_toArray, List.set_cons_zero, List.set_cons_succ]
                  (repeat (first | (with_reducible refine mix_read (by kernel_rfl) ?_; go_big_quiet_want; go_big_quiet_op; go_big_quiet_on; with_reducible refine wpQuiet_nil ?_) | (with_reducible refine mix_pass (by kernel_rfl) ?_; go_big_quiet_skip; with_reducible refine wpQuiet_nil ?_)))
                  with_reducible refine mix_end ?_
                  intro _
                  clear e0 e1 e2 e3 e4 e5 e6 e7 e8
                  go_wp2
                  go_roundg (n3 - (q + 1))
                  case rel => exact ⟨q + 1, rfl, by go_num, by omega, HB6.out.trans (HB7.out.mono HB6.out.size)⟩
                  case measure => omega
                · have hm1 := HM.out rfl
                  have hm2 : (m != 1) = false := by simp [hm1]
                  clear hm1
                  go_wp2_with fail
                  refine wp_region_mix_seq (C := fun W => ∃ y : Ext wr, W = y.z) [0, 1, 2, 3, 4, 5, 6, 7, 8, 9, 10, 11, 12, 13, 14, 15, 16, 17, 18, 19, 20] (by kernel_rfl) (by kernel_rfl) (by kernel_rfl) (by kernel_rfl) (by simp only [List.filterMap_cons, List.getElem?_toArray, List.getElem?_cons_zero, List.getElem?_cons_succ, List.filterMap_nil]; rfl) ⟨⟨_, HBQ.out⟩, rfl⟩ ?_
                  generalize wr.drew = wd at *
                  (repeat (first | (with_reducible refine mix_read (by kernel_rfl) ?_; go_big_quiet_want; go_big_quiet_op; go_big_quiet_on; with_reducible refine wpQuiet_nil ?_) | (with_reducible refine mix_pass (by kernel_rfl) ?_; go_big_quiet_skip; with_reducible refine wpQuiet_nil ?_)))
                  with_reducible refine mix_call (by kernel_rfl) (by kernel_rfl) ((C.out _ (HBV.out.trans (HBQ.out.mono HBV.out.size))).mono ?_) (by kernel_rfl)
                  rintro e w6 ⟨rfl, hb⟩
                  have HB7 : Hid (Below wr.heap.size wr w6) := HBQ.out.trans (hb.mono HBQ.out.size)
                  clear hb
                  refine ⟨_, rfl, ⟨⟨_, HB7.out⟩, rfl⟩, ?_⟩
                  simp only [Act.put, List.setIfInBounds_toArray, List.set_cons_zero, List.set_cons_succ]
                  (repeat (first | (with_reducible refine mix_read (by kernel_rfl) ?_; go_big_quiet_want; go_big_quiet_op; go_big_quiet_on; with_reducible refine wpQuiet_nil ?_) | (with_reducible refine mix_pass (by kernel_rfl) ?_; go_big_quiet_skip; with_reducible refine wpQuiet_nil ?_)))
                  with_reducible refine mix_end ?_
                  intro _
                  clear e0 e1 e2 e3 e4 e5 e6 e7 e8
                  go_wp2
                  go_roundg (n3 - (q + 1))
                  case rel => exact ⟨q + 1, rfl, by go_num, by omega, HB6.out.trans (HB7.out.mono HB6.out.size)⟩
                  case measure => omega
              · have hqi : ¬ (q : Int) < (n3 : Int) := by omega
                go_wp2
                go_roundg (n1 - (p + 1))
                case rel => exact ⟨p + 1, rfl, by go_num, by omega, HB6.out⟩
                case measure => omega
        · have hpi : ¬ (p : Int) < (n1 : Int) := by omega
          go_wp2
          go_ret
          exact ⟨rfl, HB01.out.trans (HBR.out.mono HB01.out.size)⟩
end Go.Proofs.YtceebimgfajbcaaGreatDoor
