/-
  Package lock: tell, by a contract.
-/
import Derived.Test.YtceebimgfajbcaaGreatDoorLkOut
namespace Go.Proofs.YtceebimgfajbcaaGreatDoor
open Go.RowKit

def driveF (pts : List Int) (ws : List Wy) (ss : List St) (occ : List Bool) (lies : List Int) (r : Int) : List (Int × Bool) → List Int → List Int
  | [], dr => dr
  | n :: ns, dr => driveF pts ws ss occ lies r ns (if (!rightF lies n && mayMoveF pts ws ss occ n.1 r) = true then dr.set n.1.toNat (posF n.2) else dr)
def tellF (pts : List Int) (ws : List Wy) (ss : List St) (occ : List Bool) (lies : List Int) (r : Int) (x : Wy) (s : St) (o : List Int × List Bool) : List Int × List Bool :=
  if s.1 = 1 then (driveF pts ws ss occ lies r x.needs o.1, o.2)
  else if s.1 = 2 then (o.1, if (clearB occ x.path && rightB lies x.needs) = true then o.2.set x.frm.toNat true else o.2)
  else o
theorem driveF_len (pts : List Int) (ws : List Wy) (ss : List St) (occ : List Bool) (lies : List Int) (r : Int) : ∀ (ns : List (Int × Bool)) (dr : List Int), (driveF pts ws ss occ lies r ns dr).length = dr.length
  | [], _ => rfl
  | n :: ns, dr => by
    rw [driveF, driveF_len pts ws ss occ lies r ns]
    split
    · rw [List.length_set]
    · rfl
theorem tellF_len (pts : List Int) (ws : List Wy) (ss : List St) (occ : List Bool) (lies : List Int) (r : Int) (x : Wy) (s : St) (o : List Int × List Bool) : (tellF pts ws ss occ lies r x s o).1.length = o.1.length ∧ (tellF pts ws ss occ lies r x s o).2.length = o.2.length := by
  unfold tellF
  split
  · exact ⟨driveF_len _ _ _ _ _ _ _ _, rfl⟩
  split
  · refine ⟨rfl, ?_⟩
    simp only
    split
    · rw [List.length_set]
    · rfl
  · exact ⟨rfl, rfl⟩

def outFoot (b1 b2 k : Nat) : Prop := k = b1 ∨ k = b2
theorem OutAt.lt {W : World} {B b1 b2 : Nat} {dr : List Int} {pr : List Bool} (h : OutAt W B b1 b2 dr pr) : b1 < W.heap.size ∧ b2 < W.heap.size := ⟨(Array.getElem?_eq_some_iff.1 h.h1).1, (Array.getElem?_eq_some_iff.1 h.h2).1⟩
theorem OutAt.below' {W W' : World} {B b1 b2 : Nat} {dr : List Int} {pr : List Bool} (h : OutAt W B b1 b2 dr pr) {w0 : World} (hb : Below B w0 W) (hB : B ≤ W.heap.size) (hc : Chg (outFoot b1 b2) W W') : Below B w0 W' :=
  hb.trans (hc.below (fun k hk => by rcases hk with rfl | rfl; exact h.base.1; exact h.base.2) hB)
theorem OutAt.set1 {W : World} {B b1 b2 : Nat} {dr : List Int} {pr : List Bool} (h : OutAt W B b1 b2 dr pr) (p : Nat) (v : Int) : OutAt (W.setCell ⟨b1, p, none⟩ (.int .i64 v)) B b1 b2 (dr.set p v) pr ∧ Chg (outFoot b1 b2) W (W.setCell ⟨b1, p, none⟩ (.int .i64 v)) := by
  refine ⟨⟨?_, ?_, h.base, h.ne⟩, ⟨rfl, rfl, rfl, by simp [World.setCell], fun k hk hs => Below.heap_setCell _ _ _ _ (fun e => hs (.inl e))⟩⟩
  · rw [heap_put h.h1]
    simp [List.map_set]
  · rw [Below.heap_setCell _ _ _ _ (fun e => h.ne e.symm)]
    exact h.h2
theorem OutAt.set2 {W : World} {B b1 b2 : Nat} {dr : List Int} {pr : List Bool} (h : OutAt W B b1 b2 dr pr) (p : Nat) (v : Bool) : OutAt (W.setCell ⟨b2, p, none⟩ (.bool v)) B b1 b2 dr (pr.set p v) ∧ Chg (outFoot b1 b2) W (W.setCell ⟨b2, p, none⟩ (.bool v)) := by
  refine ⟨⟨?_, ?_, h.base, h.ne⟩, ⟨rfl, rfl, rfl, by simp [World.setCell], fun k hk hs => Below.heap_setCell _ _ _ _ (fun e => hs (.inr e))⟩⟩
  · rw [Below.heap_setCell _ _ _ _ (fun e => h.ne e)]
    exact h.h1
  · rw [heap_put h.h2]
    simp [List.map_set]
theorem OutAt.cell1 {W : World} {B b1 b2 : Nat} {dr : List Int} {pr : List Bool} (h : OutAt W B b1 b2 dr pr) {p : Nat} {v : Int} (hp : dr[p]? = some v) : W.cell? ⟨b1, p, none⟩ = some (.int .i64 v) ∧ W.frozen? ⟨b1, p, none⟩ = false := by
  refine ⟨?_, froz2 h.h1 p⟩
  simp [World.cell?, h.h1, List.getElem?_map, hp]
theorem OutAt.cell2 {W : World} {B b1 b2 : Nat} {dr : List Int} {pr : List Bool} (h : OutAt W B b1 b2 dr pr) {p : Nat} {v : Bool} (hp : pr[p]? = some v) : W.cell? ⟨b2, p, none⟩ = some (.bool v) ∧ W.frozen? ⟨b2, p, none⟩ = false := by
  refine ⟨?_, froz2 h.h2 p⟩
  simp [World.cell?, h.h2, List.getElem?_map, hp]

set_option maxRecDepth 1000000 in
set_option maxHeartbeats 16000000 in
theorem tell_any (kb : Nat) (u : Nat → Value) (ng : Nat) (pts : List Int) (ws : List WyV) (ss : List St) (v : Nat → Value) (occ : List Bool) (lies : List Int) (k : Nat) (x : WyV) (s : St) (w : World) (B b1 b2 : Nat) (dr : List Int) (pr : List Bool)
    (hh : ∀ W, Chg (outFoot b1 b2) w W → LkRd W kb u occ.length ng pts ws ss ∧ InRd W v occ lies) (hok : LkOk occ.length ng pts (ws.map (·.1)) ss) (hll : lies.length = pts.length) (hx : ws[k]? = some x) (hs : ss[k]? = some s) (ho : OutAt w B b1 b2 dr pr) (hdr : dr.length = pts.length) (hpr : pr.length = ng) :
    Calls Tryz.prog 32 #[.pointer (some ⟨kb, 0, none⟩), .agg #[v 0, v 1], .int .i64 k, outV b1 b2 pts.length ng] w fun e w' => e = .returned (.tuple #[]) ∧ OutAt w' B b1 b2 (tellF pts (ws.map (·.1)) ss occ lies k x.1 s (dr, pr)).1 (tellF pts (ws.map (·.1)) ss occ lies k x.1 s (dr, pr)).2 ∧ Chg (outFoot b1 b2) w w' := by
  have h := (hh w (Chg.refl _ _)).1
  have hin := (hh w (Chg.refl _ _)).2
  have hlt := (List.getElem?_eq_some_iff.1 hx).1
  have hls := (List.getElem?_eq_some_iff.1 hs).1
  have hxm : x.1 ∈ ws.map (·.1) := List.mem_map.2 ⟨x, List.mem_of_getElem? hx, rfl⟩
  have hwo : WyOk occ.length pts.length ng x.1 := hok.ways _ hxm
  have hxat := h.x x (List.mem_of_getElem? hx)
  have hol := ho.lt
  have hnb := hwo.few.2.1
  have IR : Hid (∀ (W : World) (p : Int) (b : Bool), Chg (outFoot b1 b2) w W → 0 ≤ p ∧ p < (pts.length : Nat) → Calls Tryz.prog 66 #[.agg #[v 0, v 1], .agg #[.int .i64 p, .bool b]] W fun e w' => e = .returned (.bool (rightF lies (p, b))) ∧ Below W.heap.size W w') := fun W p b hW hp => isRight_any v occ lies p b W (hh W hW).2 (by rw [hll]; exact hp)
  have MM : Hid (∀ (W : World) (p : Int), Chg (outFoot b1 b2) w W → 0 ≤ p ∧ p < (pts.length : Nat) → Calls Tryz.prog 67 #[.pointer (some ⟨kb, 0, none⟩), .agg #[v 0, v 1], .int .i64 p, .int .i64 k] W fun e w' => e = .returned (.bool (mayMoveF pts (ws.map (·.1)) ss occ p k)) ∧ Below W.heap.size W w') := fun W p hW hp => mayMove_any kb u ng pts ws ss v occ lies p k W (hh W hW).1 hok (hh W hW).2 hp
  have CL : Hid (∀ W, Chg (outFoot b1 b2) w W → Calls Tryz.prog 60 #[.agg #[.int .i64 x.1.frm, x.2.1, x.2.2.1, x.2.2.2], .agg #[v 0, v 1]] W fun e w' => e = .returned (.bool (clearB occ x.1.path)) ∧ Below W.heap.size W w') := fun W hW => isClear_any v occ lies x W (hh W hW).2 ((hh W hW).1.x x (List.mem_of_getElem? hx)) hwo.path (by have := hwo.few.1; omega)
  have LR : Hid (∀ W, Chg (outFoot b1 b2) w W → Calls Tryz.prog 62 #[.agg #[.int .i64 x.1.frm, x.2.1, x.2.2.1, x.2.2.2], .agg #[v 0, v 1]] W fun e w' => e = .returned (.bool (rightB lies x.1.needs)) ∧ Below W.heap.size W w') := fun W hW => liesRight_any v occ lies x W (hh W hW).2 ((hh W hW).1.x x (List.mem_of_getElem? hx)) (by rw [hll]; exact hwo.needs) (by have := hwo.few.2.1; omega)
  have HF : Hid (tellF pts (ws.map (·.1)) ss occ lies k x.1 s (dr, pr) = if s.1 = 1 then (driveF pts (ws.map (·.1)) ss occ lies k x.1.needs dr, pr)
      else if s.1 = 2 then (dr, if (clearB occ x.1.path && rightB lies x.1.needs) = true then pr.set x.1.frm.toNat true else pr) else (dr, pr)) := rfl
  generalize tellF pts (ws.map (·.1)) ss occ lies k x.1 s (dr, pr) = ans at *
  have HO : Hid (OutAt w B b1 b2 dr pr) := ho
  have h3 := h.c3
  have h4 := h.c4
  obtain ⟨o1, c1, e1, q1⟩ := h.w
  obtain ⟨g1, f1, rfl, a0, a1, a2, a3⟩ := row_way (w := w) ⟨o1, c1, rfl, q1⟩ k x hx
  obtain ⟨o5, c5, e5, q5⟩ := h.s
  obtain ⟨g5, f5, rfl, b0, -, -, -⟩ := row_st (w := w) ⟨o5, c5, rfl, q5⟩ k s hs
  rw [e1] at h3
  rw [e5] at h4
  obtain ⟨o2, c2, e2, _⟩ := hxat.path
  obtain ⟨o6, c6, e6, _⟩ := hxat.needs
  obtain ⟨o7, c7, e7, _⟩ := hxat.foes
  have HQ6 : Hid (∀ W, Chg (outFoot b1 b2) w W → ∀ j n, x.1.needs[j]? = some n → ∃ g off, o6 = some ⟨g, off, none⟩ ∧ W.cell? ⟨g, off + j * 2, none⟩ = some (.int .i64 n.1) ∧ W.cell? ⟨g, off + j * 2 + 1, none⟩ = some (.bool n.2)) := fun W hW => by
    have hr := ((hh W hW).1.x x (List.mem_of_getElem? hx)).needs
    rw [e6] at hr
    exact row_need hr
  have HP : Hid (∀ n ∈ x.1.needs, 0 ≤ n.1 ∧ n.1 < (pts.length : Nat)) := hwo.needs
  rw [e2] at a1 CL LR
  rw [e6] at a2 CL LR
  rw [e7] at a3 CL LR
  obtain ⟨o3, c3, e3, _⟩ := hin.o
  obtain ⟨o4, c4, e4, _⟩ := hin.l
  rw [e3, e4] at CL LR IR MM ⊢
  have hki : (k : Int) < (ws.length : Int) := by omega
  have hki2 : (k : Int) < (ss.length : Int) := by omega
  have HFR : Hid (0 ≤ x.1.frm ∧ x.1.frm < (ng : Nat)) := hwo.frm
  have HDR : Hid (dr.length = pts.length ∧ pr.length = ng) := ⟨hdr, hpr⟩
  clear h hh hok hin hll hx hs hlt hls hxm hwo hxat q1 q5 e1 e2 e3 e4 e5 e6 e7 ho hdr hpr
  obtain ⟨m, st1, st2, st3⟩ := s
  obtain ⟨⟨fr, pa, ne, fo⟩, v1, v2, v3⟩ := x
  simp only at *
  generalize ws.length = n1 at *
  generalize ss.length = n2 at *
  generalize occ.length = n3 at *
  generalize lies.length = n4 at *
  generalize pa.length = m1 at *
  generalize hm2 : ne.length = m2 at *
  generalize fo.length = m3 at *
  have HM2 : Hid (ne.length = m2) := hm2
  clear hm2
  generalize hch : ((w.alloc (.cells #[.slice o3 n3 c3, .slice o4 n4 c4] 38)).alloc (.cells #[.slice (some ⟨b1, 0, none⟩) pts.length pts.length, .slice (some ⟨b2, 0, none⟩) ng ng] 46)).alloc (.cells #[.int .i64 fr, .slice o2 m1 c2, .slice o6 m2 c6, .slice o7 m3 c7] 74) = w1
  have HB1 : Hid (Below w.heap.size w w1) := by show Below _ _ _; rw [← hch]; exact (by repeat' (with_reducible first | exact Below.refl _ _ | refine Below.drew ?_ | refine _root_.Go.below_drewN ?_ _ | refine Below.alloc ?_ ?_ _ | refine Below.setCell ?_ ?_ _ | exact Nat.le_refl _ | (simp; done) | (simp; omega)))
  have H0 : Hid (w1.heap[w.heap.size]? = some (.cells #[.slice o3 n3 c3, .slice o4 n4 c4] 38 (0, 0))) := by show _ = _; rw [← hch]; exact blk_old (blk_old (blk_new _ _))
  have H1 : Hid (w1.heap[w.heap.size + 1]? = some (.cells #[.slice (some ⟨b1, 0, none⟩) pts.length pts.length, .slice (some ⟨b2, 0, none⟩) ng ng] 46 (0, 0))) := by show _ = _; rw [← hch]; exact blk_old (blk_at1 _ _ _)
  have H2 : Hid (w1.heap[w.heap.size + 1 + 1]? = some (.cells #[.int .i64 fr, .slice o2 m1 c2, .slice o6 m2 c6, .slice o7 m3 c7] 74 (0, 0))) := by show _ = _; rw [← hch]; exact blk_at2 _ _ _ _
  obtain ⟨x0, x1⟩ := cells2 H0.out
  obtain ⟨x2, x3⟩ := cells2 H1.out
  obtain ⟨⟨x4, x5, x6, x7⟩, _⟩ := cells4 H2.out
  have x8 := up_cell HB1.out h3
  have x9 := up_cell HB1.out h4
  have xb := up_cell HB1.out b0
  have HOL : Hid (b1 < w.heap.size ∧ b2 < w.heap.size) := hol
  have HBM : Hid (Below w.heap.size w ((w.alloc (.cells #[.slice o3 n3 c3, .slice o4 n4 c4] 38)).alloc (.cells #[.slice (some ⟨b1, 0, none⟩) pts.length pts.length, .slice (some ⟨b2, 0, none⟩) ng ng] 46))) := by show Below _ _ _; exact (by repeat' (with_reducible first | exact Below.refl _ _ | refine Below.drew ?_ | refine _root_.Go.below_drewN ?_ _ | refine Below.alloc ?_ ?_ _ | refine Below.setCell ?_ ?_ _ | exact Nat.le_refl _ | (simp; done) | (simp; omega)))
  have m3' := up_cell HBM.out h3
  have ma0 := up_cell HBM.out a0
  have ma1 := up_cell HBM.out a1
  have ma2 := up_cell HBM.out a2
  have ma3 := up_cell HBM.out a3
  clear h3 h4 a0 a1 a2 a3 b0 hol
  have HW0 : Hid (∀ W, Below w.heap.size w W → Chg (outFoot b1 b2) w W) := fun W hW => Chg.of_below hW
  have HO1 : Hid (OutAt w1 B b1 b2 dr pr) := HO.out.below HB1.out
  have HCH : Hid (∀ W, Chg (outFoot b1 b2) w1 W → Chg (outFoot b1 b2) w W) := fun W hW => (Chg.of_below HB1.out).trans hW
  unfold outV
  by_cases hm1 : m = 1
  · subst hm1
    have HF1 : Hid (ans = (driveF pts (ws.map (·.1)) ss occ lies k ne dr, pr)) := by show _ = _; rw [HF.out, if_pos rfl]
    clear HF
    go_enter Tryz.func32, Tryz.ntmps32
    go_wp2
    clear hch x0 x1 x2 x3 x4 x5 x6 x7 x8 x9 xb m3' ma0 ma1 ma2 ma3
    go_loopg [10, 31] m2 (fun gk a i wr => ∃ (j : Nat) (d : List Int), gk = m2 - j ∧ i = .int .i64 j ∧ j ≤ m2 ∧ driveF pts (ws.map (·.1)) ss occ lies k (ne.drop j) d = driveF pts (ws.map (·.1)) ss occ lies k ne dr ∧ d.length = pts.length ∧ OutAt wr B b1 b2 d pr ∧ Chg (outFoot b1 b2) w1 wr)
    case atStart => exact ⟨0, dr, rfl, rfl, by omega, rfl, HDR.out.1, HO1.out, Chg.refl _ _⟩
    case round =>
      obtain ⟨j, d, rfl, rfl, hj, hc, hd, ho, hcg⟩ := hrel
      have HC : Hid (driveF pts (ws.map (·.1)) ss occ lies k (ne.drop j) d = driveF pts (ws.map (·.1)) ss occ lies k ne dr) := hc
      have HOW : Hid (OutAt wr B b1 b2 d pr) := ho
      have HCG : Hid (Chg (outFoot b1 b2) w1 wr) := hcg
      have HCW : Hid (Chg (outFoot b1 b2) w wr) := HCH.out _ hcg
      have nb : ∀ i, w.heap.size ≤ i → ¬ outFoot b1 b2 i := fun i hi hf => by rcases hf with rfl | rfl <;> (have := HOL.out; omega)
      have G0 := hcg.blk H0.out (nb _ (by omega))
      have G1 := hcg.blk H1.out (nb _ (by omega))
      have G2 := hcg.blk H2.out (nb _ (by omega))
      obtain ⟨x0, x1⟩ := cells2 G0
      obtain ⟨x2, x3⟩ := cells2 G1
      have HG1 : Hid (wr.heap[w.heap.size + 1]? = some (.cells #[.slice (some ⟨b1, 0, none⟩) pts.length pts.length, .slice (some ⟨b2, 0, none⟩) ng ng] 46 (0, 0))) := G1
      have HG0 : Hid (wr.heap[w.heap.size]? = some (.cells #[.slice o3 n3 c3, .slice o4 n4 c4] 38 (0, 0))) := G0
      clear hc ho hcg nb G0 G1 G2
      by_cases hlt : j < m2
      · obtain ⟨⟨p, c⟩, hn⟩ : ∃ n, ne[j]? = some n := at_of (by rw [HM2.out]; exact hlt)
        obtain ⟨g, off, rfl, a0, a1⟩ := HQ6.out wr HCW.out j _ hn
        have hpp := HP.out _ (List.mem_of_getElem? hn)
        simp only at hpp
        rw [drop_at hn, driveF] at HC
        have hji : (j : Int) < (m2 : Int) := by omega
        have HBA : Hid (Below wr.heap.size wr (wr.alloc (.cells #[.int .i64 p, .bool c] 96))) := (Below.refl _ _).alloc (Nat.le_refl _) _
        have HN : Hid ((wr.alloc (.cells #[.int .i64 p, .bool c] 96)).heap[wr.heap.size]? = some (.cells #[.int .i64 p, .bool c] 96 (0, 0))) := blk_new _ _
        have D := IR.out (wr.alloc (.cells #[.int .i64 p, .bool c] 96)) p c (HCW.out.trans (Chg.of_below HBA.out)) hpp
        have y0 := up_cell HBA.out x0
        have y1 := up_cell HBA.out x1
        clear hn x0 x1 x2 x3
        have HPP : Hid (0 ≤ p ∧ p < (pts.length : Nat)) := hpp
        clear hpp
        generalize rightF lies (p, c) = rr at *
        go_wp2_with fail
        refine D.mono ?_
        rintro e w3 ⟨rfl, hb3⟩
        clear D y0 y1 a0 a1
        have HB3 : Hid (Below wr.heap.size wr w3) := HBA.out.trans (hb3.mono HBA.out.size)
        have HN3 : Hid (w3.heap[wr.heap.size]? = some (.cells #[.int .i64 p, .bool c] 96 (0, 0))) := blk_below hb3 HN.out
        clear hb3
        cases rr
        · obtain ⟨y0, y1⟩ := cells2 (blk_below HB3.out HG0.out)
          obtain ⟨z0, z1⟩ := cells2 HN3.out
          have D := MM.out w3 p (HCW.out.trans (Chg.of_below HB3.out)) HPP.out
          generalize mayMoveF pts (ws.map (·.1)) ss occ p k = mm at *
          go_wp2_with fail
          refine D.mono ?_
          rintro e w4 ⟨rfl, hb4⟩
          clear D y0 y1 z0 z1
          have HB4 : Hid (Below wr.heap.size wr w4) := HB3.out.trans (hb4.mono HB3.out.size)
          have HN4 : Hid (w4.heap[wr.heap.size]? = some (.cells #[.int .i64 p, .bool c] 96 (0, 0))) := blk_below hb4 HN3.out
          clear hb4
          cases mm
          · go_wp2
            go_roundg (m2 - (j + 1))
            case rel => exact ⟨j + 1, d, rfl, by go_num, by omega, HC.out, hd, HOW.out.below HB4.out, HCG.out.trans (Chg.of_below HB4.out)⟩
            case measure => omega
          · obtain ⟨kp, rfl, hkp⟩ := nat_of HPP.out
            rw [if_pos (by rfl), Int.toNat_natCast] at HC
            obtain ⟨ov, hov⟩ : ∃ ov, d[kp]? = some ov := at_of (by omega)
            have HOV : Hid (d[kp]? = some ov) := hov
            have hpi : (kp : Int) < (pts.length : Int) := by omega
            obtain ⟨y0, y1⟩ := cells2 (blk_below HB4.out HG1.out)
            obtain ⟨z0, z1⟩ := cells2 HN4.out
            have f0 := ext_cell y0
            have f1 := ext_cell z0
            have f2 := ext_cell z1
            haveI := ext_some w4
            have HB5 : Hid (Below w4.heap.size w4 w4.drew) := (Below.refl _ _).drew
            clear hov y0 y1 z0 z1 hkp
            go_wp2_with fail
            refine wp_region_last (C := fun W => ∃ y : Ext w4, W = y.z) [0, 1, 2, 3, 4, 5] [6, 7] (by kernel_rfl) (by kernel_rfl) (by kernel_rfl) (by kernel_rfl) (by simp only [List.filterMap_cons, List.getElem?_toArray, List.getElem?_cons_zero, List.getElem?_cons_succ, List.filterMap_nil]; rfl) (by simp only [List.filterMap_cons, List.getElem?_toArray, List.getElem?_cons_zero, List.getElem?_cons_succ, List.filterMap_nil]; rfl) ⟨⟨_, (Below.refl _ _).drew⟩, rfl⟩ ?_
            (repeat (first | (with_reducible refine mix_read (by kernel_rfl) ?_; go_big_quiet_want; go_big_quiet_op; go_big_quiet_on; with_reducible refine wpQuiet_nil ?_) | (with_reducible refine mix_pass (by kernel_rfl) ?_; go_big_quiet_skip; with_reducible refine wpQuiet_nil ?_)))
            with_reducible refine mix_call (by kernel_rfl) (by kernel_rfl) ((position_any (kp : Int) c _).mono ?_) (by kernel_rfl)
            rintro e w5 ⟨rfl, hb5⟩
            have HB6 : Hid (Below w4.heap.size w4 w5) := HB5.out.trans (hb5.mono HB5.out.size)
            clear hb5
            refine ⟨_, rfl, ⟨⟨_, HB6.out⟩, rfl⟩, ?_⟩
            simp only [Act.put, List.setIfInBounds_toArray, List.set_cons_zero, List.set_cons_succ]
            with_reducible refine mix_end ?_
            have HB7 : Hid (Below wr.heap.size wr w5) := HB4.out.trans (HB6.out.mono HB4.out.size)
            have HO7 : Hid (OutAt w5 B b1 b2 d pr) := HOW.out.below HB7.out
            obtain ⟨r0, r1⟩ := HO7.out.cell1 HOV.out
            have HS : Hid (OutAt (w5.setCell ⟨b1, kp, none⟩ (.int .i64 (posF c))) B b1 b2 (d.set kp (posF c)) pr ∧ Chg (outFoot b1 b2) w5 (w5.setCell ⟨b1, kp, none⟩ (.int .i64 (posF c)))) := HO7.out.set1 kp (posF c)
            generalize posF c = pc at *
            clear f0 f1 f2
            go_wp2
            go_roundg (m2 - (j + 1))
            case rel => exact ⟨j + 1, d.set kp pc, rfl, by go_num, by omega, HC.out, by rw [List.length_set]; exact hd, HS.out.1, (HCG.out.trans (Chg.of_below HB7.out)).trans HS.out.2⟩
            case measure => omega
        · go_wp2
          go_roundg (m2 - (j + 1))
          case rel => exact ⟨j + 1, d, rfl, by go_num, by omega, HC.out, hd, HOW.out.below HB3.out, HCG.out.trans (Chg.of_below HB3.out)⟩
          case measure => omega
      · have h1 := HC.out
        rw [List.drop_of_length_le (by rw [HM2.out]; omega), driveF] at h1
        have H1' : Hid (d = driveF pts (ws.map (·.1)) ss occ lies k ne dr) := h1
        clear h1
        go_wp2
        go_end0
        exact ⟨rfl, by rw [HF1.out, ← H1'.out]; exact HOW.out, HCH.out _ HCG.out⟩
  by_cases hm2 : m = 2
  · subst hm2
    have HF1 : Hid (ans = (dr, if (clearB occ pa && rightB lies ne) = true then pr.set fr.toNat true else pr)) := by show _ = _; rw [HF.out, if_neg (by decide), if_pos rfl]
    clear HF
    generalize clearB occ pa = cl at *
    generalize rightB lies ne = rb at *
    go_enter Tryz.func32, Tryz.ntmps32
    go_wp2_with fail
    clear hch x0 x1 x2 x3 x4 x5 x6 x7 x8 x9 xb m3' ma0 ma1 ma2 ma3
    refine (CL.out w1 (HW0.out _ HB1.out)).mono ?_
    rintro e w2 ⟨rfl, hb2⟩
    have HB2 : Hid (Below w1.heap.size w1 w2) := hb2
    clear hb2
    obtain ⟨x0, x1⟩ := cells2 (blk_below HB2.out H0.out)
    obtain ⟨x2, x3⟩ := cells2 (blk_below HB2.out H1.out)
    obtain ⟨⟨x4, x5, x6, x7⟩, _⟩ := cells4 (blk_below HB2.out H2.out)
    cases cl
    · have HA : Hid (ans = (dr, pr)) := by show _ = _; rw [HF1.out]; rfl
      go_wp2
      go_end0
      exact ⟨rfl, by rw [HA.out]; exact HO1.out.below HB2.out, HCH.out _ (Chg.of_below HB2.out)⟩
    · go_wp2_with fail
      refine (LR.out w2 (HW0.out _ (HB1.out.trans (HB2.out.mono HB1.out.size)))).mono ?_
      rintro e w3 ⟨rfl, hb3⟩
      have HB3 : Hid (Below w1.heap.size w1 w3) := HB2.out.trans (hb3.mono HB2.out.size)
      clear hb3 x0 x1 x2 x3 x4 x5 x6 x7
      obtain ⟨x2, x3⟩ := cells2 (blk_below HB3.out H1.out)
      obtain ⟨⟨x4, x5, x6, x7⟩, _⟩ := cells4 (blk_below HB3.out H2.out)
      cases rb
      · have HA : Hid (ans = (dr, pr)) := by show _ = _; rw [HF1.out]; rfl
        go_wp2
        go_end0
        exact ⟨rfl, by rw [HA.out]; exact HO1.out.below HB3.out, HCH.out _ (Chg.of_below HB3.out)⟩
      · obtain ⟨kf, rfl, hkf⟩ := nat_of HFR.out
        have HA : Hid (ans = (dr, pr.set kf true)) := by show _ = _; rw [HF1.out]; simp
        obtain ⟨ov, hov⟩ : ∃ ov, pr[kf]? = some ov := at_of (by have := HDR.out.2; omega)
        have HO3 : Hid (OutAt w3 B b1 b2 dr pr) := HO1.out.below HB3.out
        obtain ⟨r0, r1⟩ := HO3.out.cell2 hov
        have HS : Hid (OutAt (w3.setCell ⟨b2, kf, none⟩ (.bool true)) B b1 b2 dr (pr.set kf true) ∧ Chg (outFoot b1 b2) w3 (w3.setCell ⟨b2, kf, none⟩ (.bool true))) := HO3.out.set2 kf true
        have hfi : (kf : Int) < (ng : Int) := by omega
        clear hov
        go_wp2
        go_end0
        exact ⟨rfl, by rw [HA.out]; exact HS.out.1, HCH.out _ ((Chg.of_below HB3.out).trans HS.out.2)⟩
  · have q1 : (m == 1) = false := by simp [hm1]
    have q2 : (m == 2) = false := by simp [hm2]
    have HA : Hid (ans = (dr, pr)) := by show _ = _; rw [HF.out, if_neg hm1, if_neg hm2]
    clear hm1 hm2
    go_enter Tryz.func32, Tryz.ntmps32
    go_wp2
    go_end0
    exact ⟨rfl, by rw [HA.out]; exact HO1.out, HCH.out _ (Chg.refl _ _)⟩
end Go.Proofs.YtceebimgfajbcaaGreatDoor
