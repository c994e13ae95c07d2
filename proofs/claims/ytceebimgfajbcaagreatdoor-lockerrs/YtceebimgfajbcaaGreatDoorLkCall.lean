/-
  Package lock: isBarred, call, cancel, by contracts.
-/
import Derived.Test.YtceebimgfajbcaaGreatDoorLkAt
namespace Go.Proofs.YtceebimgfajbcaaGreatDoor
open Go.RowKit

set_option maxRecDepth 1000000 in
set_option maxHeartbeats 4000000 in
theorem bar1_any (kb : Nat) (u : Nat → Value) (ng : Nat) (pts : List Int) (ws : List WyV) (ss : List St) (v : Nat → Value) (occ : List Bool) (lies : List Int) (r p : Int) (c : Bool) (b1 b2 b3 : Nat) (w : World) (h : LkRd w kb u occ.length ng pts ws ss) (hok : LkOk occ.length ng pts (ws.map (·.1)) ss) (hin : InRd w v occ lies) (hll : lies.length = pts.length) (hp : 0 ≤ p ∧ p < (pts.length : Nat))
    (h1 : w.cell? ⟨b1, 0, none⟩ = some (v 0) ∧ w.cell? ⟨b1, 1, none⟩ = some (v 1)) (h2 : w.cell? ⟨b2, 0, none⟩ = some (.pointer (some ⟨kb, 0, none⟩))) (h3 : w.cell? ⟨b3, 0, none⟩ = some (.int .i64 r)) :
    Calls Tryz.prog 87 #[.agg #[.int .i64 p, .bool c], .pointer (some ⟨b1, 0, none⟩), .pointer (some ⟨b2, 0, none⟩), .pointer (some ⟨b3, 0, none⟩)] w fun e w' => e = .returned (.bool (barF pts (ws.map (·.1)) ss occ lies r (p, c))) ∧ Below w.heap.size w w' := by
  have IR : Hid (∀ W, Below w.heap.size w W → Calls Tryz.prog 66 #[.agg #[v 0, v 1], .agg #[.int .i64 p, .bool c]] W fun e w' => e = .returned (.bool (rightF lies (p, c))) ∧ Below W.heap.size W w') := fun W hW => isRight_any v occ lies p c W (hin.below hW) (by rw [hll]; exact hp)
  have MM : Hid (∀ W, Below w.heap.size w W → Calls Tryz.prog 67 #[.pointer (some ⟨kb, 0, none⟩), .agg #[v 0, v 1], .int .i64 p, .int .i64 r] W fun e w' => e = .returned (.bool (mayMoveF pts (ws.map (·.1)) ss occ p r)) ∧ Below W.heap.size W w') := fun W hW => mayMove_any kb u ng pts ws ss v occ lies p r W (h.below hW) hok (hin.below hW) hp
  have HF : Hid (barF pts (ws.map (·.1)) ss occ lies r (p, c) = (!rightF lies (p, c) && !mayMoveF pts (ws.map (·.1)) ss occ p r)) := rfl
  generalize barF pts (ws.map (·.1)) ss occ lies r (p, c) = ans at *
  generalize rightF lies (p, c) = rr at *
  generalize mayMoveF pts (ws.map (·.1)) ss occ p r = mm at *
  obtain ⟨o0, c0, e0, _⟩ := hin.o
  obtain ⟨o1, c1, e1, _⟩ := hin.l
  rw [e0, e1] at h1 IR MM
  clear h hok hin hll hp e0 e1
  generalize occ.length = n0 at *
  generalize lies.length = n1 at *
  obtain ⟨h1, h1'⟩ := h1
  have HB : Hid (Below w.heap.size w (w.alloc (.cells #[.int .i64 p, .bool c] 96))) := (Below.refl _ _).alloc (Nat.le_refl _) _
  obtain ⟨x0, x1⟩ := cells2 (blk_new w (.cells #[.int .i64 p, .bool c] 96))
  have y1 := up_cell HB.out h1
  have y2 := up_cell HB.out h1'
  have y3 := up_cell HB.out h2
  have y4 := up_cell HB.out h3
  clear h1 h1' h2 h3
  go_enter Tryz.func87, Tryz.ntmps87
  go_wp2_with fail
  generalize w.alloc (.cells #[.int .i64 p, .bool c] 96) = w1 at *
  refine (IR.out _ HB.out).mono ?_
  rintro e w2 ⟨rfl, hb2⟩
  have HB2 : Hid (Below w.heap.size w w2) := HB.out.trans (hb2.mono HB.out.size)
  have z0 := up_cell hb2 x0
  have z1 := up_cell hb2 x1
  have z2 := up_cell hb2 y1
  have z3 := up_cell hb2 y2
  have z4 := up_cell hb2 y3
  have z5 := up_cell hb2 y4
  clear hb2 x0 x1 y1 y2 y3 y4
  cases rr
  · go_wp2_with fail
    refine (MM.out _ HB2.out).mono ?_
    rintro e w3 ⟨rfl, hb3⟩
    go_wp2
    go_ret
    exact ⟨ret_bool (by rw [HF.out]; rfl), HB2.out.trans (hb3.mono HB2.out.size)⟩
  · go_wp2
    go_ret
    exact ⟨ret_bool (by rw [HF.out]; rfl), HB2.out⟩

set_option maxRecDepth 1000000 in
set_option maxHeartbeats 4000000 in
theorem isBarred_any (kb : Nat) (u : Nat → Value) (ng : Nat) (pts : List Int) (ws : List WyV) (ss : List St) (v : Nat → Value) (occ : List Bool) (lies : List Int) (k : Nat) (x : WyV) (w : World) (h : LkRd w kb u occ.length ng pts ws ss) (hok : LkOk occ.length ng pts (ws.map (·.1)) ss) (hin : InRd w v occ lies) (hll : lies.length = pts.length) (hx : ws[k]? = some x) :
    Calls Tryz.prog 61 #[.pointer (some ⟨kb, 0, none⟩), .agg #[v 0, v 1], .int .i64 k] w fun e w' => e = .returned (.bool (x.1.needs.any (barF pts (ws.map (·.1)) ss occ lies k))) ∧ Below w.heap.size w w' := by
  have hlt := (List.getElem?_eq_some_iff.1 hx).1
  have hwo : WyOk occ.length pts.length ng x.1 := hok.ways _ (List.mem_map.2 ⟨x, List.mem_of_getElem? hx, rfl⟩)
  have hxat := h.x x (List.mem_of_getElem? hx)
  have CF : Hid (∀ (b1 b2 b3 : Nat) W, Below w.heap.size w W → (W.cell? ⟨b1, 0, none⟩ = some (v 0) ∧ W.cell? ⟨b1, 1, none⟩ = some (v 1)) → W.cell? ⟨b2, 0, none⟩ = some (.pointer (some ⟨kb, 0, none⟩)) → W.cell? ⟨b3, 0, none⟩ = some (.int .i64 (k : Nat)) →
      Calls Tryz.prog 86 #[x.2.2.1, .func (.func 87) #[] #[.pointer (some ⟨b1, 0, none⟩), .pointer (some ⟨b2, 0, none⟩), .pointer (some ⟨b3, 0, none⟩)]] W fun e w' => e = .returned (.bool (x.1.needs.any (barF pts (ws.map (·.1)) ss occ lies k))) ∧ Below W.heap.size W w') :=
    fun b1 b2 b3 W hW g1 g2 g3 => containsBar_any _ x.1.needs _ b1 b2 b3 W (hxat.below hW).needs (by have := hwo.few.2.1; omega) fun y W' hy hW' => bar1_any kb u ng pts ws ss v occ lies k y.1 y.2 b1 b2 b3 W' (h.below (hW.trans (hW'.mono hW.size))) hok (hin.below (hW.trans (hW'.mono hW.size))) hll (hwo.needs y hy) ⟨up_cell hW' g1.1, up_cell hW' g1.2⟩ (up_cell hW' g2) (up_cell hW' g3)
  generalize x.1.needs.any (barF pts (ws.map (·.1)) ss occ lies k) = ans at *
  have h3 := h.c3
  obtain ⟨o1, c1, e1, q1⟩ := h.w
  obtain ⟨g1, f1, rfl, -, -, a2, -⟩ := row_way (w := w) ⟨o1, c1, rfl, q1⟩ k x hx
  rw [e1] at h3
  obtain ⟨o2, c2, e2, _⟩ := hxat.needs
  rw [e2] at a2 CF
  obtain ⟨o3, c3, e3, _⟩ := hin.o
  obtain ⟨o4, c4, e4, _⟩ := hin.l
  rw [e3, e4] at CF ⊢
  have hki : (k : Int) < (ws.length : Int) := by omega
  clear h hok hin hll hx hlt hwo hxat q1 e1 e2 e3 e4
  generalize ws.length = n1 at *
  generalize x.1.needs.length = n2 at *
  generalize occ.length = n3 at *
  generalize lies.length = n4 at *
  generalize hch : ((w.alloc (.cells #[.pointer (some ⟨kb, 0, none⟩)] 31)).alloc (.cells #[.slice o3 n3 c3, .slice o4 n4 c4] 38)).alloc (.cells #[.int .i64 k] 3) = w1
  have HB1 : Hid (Below w.heap.size w w1) := by show Below _ _ _; rw [← hch]; exact (by repeat' (with_reducible first | exact Below.refl _ _ | refine Below.drew ?_ | refine _root_.Go.below_drewN ?_ _ | refine Below.alloc ?_ ?_ _ | refine Below.setCell ?_ ?_ _ | exact Nat.le_refl _ | (simp; done) | (simp; omega)))
  have H0 : w1.heap[w.heap.size]? = some (.cells #[.pointer (some ⟨kb, 0, none⟩)] 31 (0, 0)) := by rw [← hch]; exact blk_old (blk_old (blk_new _ _))
  have H1 : w1.heap[w.heap.size + 1]? = some (.cells #[.slice o3 n3 c3, .slice o4 n4 c4] 38 (0, 0)) := by rw [← hch]; exact blk_old (blk_at1 _ _ _)
  have H2 : w1.heap[w.heap.size + 1 + 1]? = some (.cells #[.int .i64 k] 3 (0, 0)) := by rw [← hch]; exact blk_at2 _ _ _ _
  have x0 := cells1 H0
  obtain ⟨x1, x2⟩ := cells2 H1
  have x3 := cells1 H2
  have x4 := up_cell HB1.out h3
  have x5 := up_cell HB1.out a2
  have CX : Hid (∀ W, Below w1.heap.size w1 W → Calls Tryz.prog 86 #[.slice o2 n2 c2, .func (.func 87) #[] #[.pointer (some ⟨w.heap.size + 1, 0, none⟩), .pointer (some ⟨w.heap.size, 0, none⟩), .pointer (some ⟨w.heap.size + 1 + 1, 0, none⟩)]] W fun e w' => e = .returned (.bool ans) ∧ Below W.heap.size W w') :=
    fun W hW => CF.out _ _ _ W (HB1.out.trans (hW.mono HB1.out.size)) ⟨up_cell hW x1, up_cell hW x2⟩ (up_cell hW x0) (up_cell hW x3)
  clear h3 a2 H0 H1 H2 CF
  go_enter Tryz.func61, Tryz.ntmps61
  go_wp2_with fail
  have y0 := ext_cell x0
  have y1 := ext_cell x1
  have y2 := ext_cell x2
  have y3 := ext_cell x3
  have y4 := ext_cell x4
  have y5 := ext_cell x5
  haveI := ext_some w1
  have HB2 : Hid (Below w1.heap.size w1 w1.drew) := (Below.refl _ _).drew
  clear x0 x1 x2 x3 x4 x5 hch
  refine wp_region_mix_lex (C := fun W => ∃ y : Ext w1, W = y.z) (by kernel_rfl) (by kernel_rfl) (by kernel_rfl) (by kernel_rfl) ⟨⟨_, (Below.refl _ _).drew⟩, rfl⟩ ?_
  (repeat (first | (with_reducible refine mix_read (by kernel_rfl) ?_; go_big_quiet_want; go_big_quiet_op; go_big_quiet_on; with_reducible refine wpQuiet_nil ?_) | (with_reducible refine mix_pass (by kernel_rfl) ?_; go_big_quiet_skip; with_reducible refine wpQuiet_nil ?_)))
  with_reducible refine mix_call (by kernel_rfl) (by kernel_rfl) ((CX.out _ HB2.out).mono ?_) (by kernel_rfl)
  rintro e w2 ⟨rfl, hb2⟩
  have HB3 : Hid (Below w1.heap.size w1 w2) := HB2.out.trans (hb2.mono HB2.out.size)
  clear hb2
  refine ⟨_, rfl, ⟨⟨_, HB3.out⟩, rfl⟩, ?_⟩
  simp only [Act.put, List.setIfInBounds_toArray, List.set_cons_zero, List.set_cons_succ]
  (repeat (first | (with_reducible refine mix_read (by kernel_rfl) ?_; go_big_quiet_want; go_big_quiet_op; go_big_quiet_on; with_reducible refine wpQuiet_nil ?_) | (with_reducible refine mix_pass (by kernel_rfl) ?_; go_big_quiet_skip; with_reducible refine wpQuiet_nil ?_)))
  with_reducible refine mix_end ?_
  intro _
  go_wp2
  go_ret
  exact ⟨rfl, HB1.out.trans (HB3.out.mono HB1.out.size)⟩

/-- What a call of a route answers, and how all stand then. -/
def callF (pts : List Int) (ws : List Wy) (ss : List St) (occ : List Bool) (lies : List Int) (k : Nat) (x : Wy) (s : St) : Int × List St :=
  if s.1 = 0 then (if (busyB ss x.foes || (!clearB occ x.path || x.needs.any (barF pts ws ss occ lies k))) = true then (8, ss) else (0, ss.set k (1, 0, 0, false))) else (7, ss)

set_option maxRecDepth 1000000 in
set_option maxHeartbeats 8000000 in
theorem call_any (B kb : Nat) (u : Nat → Value) (ng : Nat) (pts : List Int) (ws : List WyV) (ss : List St) (v : Nat → Value) (occ : List Bool) (lies : List Int) (k : Nat) (x : WyV) (s : St) (w : World) (h : LkAt w B kb u occ.length ng pts ws ss) (hok : LkOk occ.length ng pts (ws.map (·.1)) ss) (hin : InRd w v occ lies) (hll : lies.length = pts.length) (hx : ws[k]? = some x) (hs : ss[k]? = some s) :
    Calls Tryz.prog 29 #[.pointer (some ⟨kb, 0, none⟩), .agg #[v 0, v 1], .int .i64 k] w fun e w' => e = .returned (.int .i64 (callF pts (ws.map (·.1)) ss occ lies k x.1 s).1) ∧ LkAt w' B kb u occ.length ng pts ws (callF pts (ws.map (·.1)) ss occ lies k x.1 s).2 ∧ Chg (lkFoot kb (u 2) ss) w w' := by
  have hr := h.rd
  have hlt := (List.getElem?_eq_some_iff.1 hx).1
  have hls := (List.getElem?_eq_some_iff.1 hs).1
  have hxm : x.1 ∈ ws.map (·.1) := List.mem_map.2 ⟨x, List.mem_of_getElem? hx, rfl⟩
  have hwo : WyOk occ.length pts.length ng x.1 := hok.ways _ hxm
  have hxat := hr.x x (List.mem_of_getElem? hx)
  have hlen := hok.len
  rw [List.length_map] at hlen
  have AB : Hid (∀ W, Below w.heap.size w W → Calls Tryz.prog 59 #[u 2, x.2.2.2] W fun e w' => e = .returned (.bool (busyB ss x.1.foes)) ∧ Below W.heap.size W w') := fun W hW => anyBusy_any (u 2) x.2.2.2 ss x.1.foes W (hr.s.below hW) (hxat.below hW).foes (fun i hi => by have := hok.foes _ hxm i hi; rw [List.length_map] at this; rw [hlen]; exact this) (by have := hwo.few.2.2; omega)
  have CL : Hid (∀ W, Below w.heap.size w W → Calls Tryz.prog 60 #[.agg #[.int .i64 x.1.frm, x.2.1, x.2.2.1, x.2.2.2], .agg #[v 0, v 1]] W fun e w' => e = .returned (.bool (clearB occ x.1.path)) ∧ Below W.heap.size W w') := fun W hW => isClear_any v occ lies x W (hin.below hW) (hxat.below hW) hwo.path (by have := hwo.few.1; omega)
  have BA : Hid (∀ W, Below w.heap.size w W → Calls Tryz.prog 61 #[.pointer (some ⟨kb, 0, none⟩), .agg #[v 0, v 1], .int .i64 k] W fun e w' => e = .returned (.bool (x.1.needs.any (barF pts (ws.map (·.1)) ss occ lies k))) ∧ Below W.heap.size W w') := fun W hW => isBarred_any kb u ng pts ws ss v occ lies k x W (hr.below hW) hok (hin.below hW) hll hx
  have HF : Hid (callF pts (ws.map (·.1)) ss occ lies k x.1 s = if s.1 = 0 then (if (busyB ss x.1.foes || (!clearB occ x.1.path || x.1.needs.any (barF pts (ws.map (·.1)) ss occ lies k))) = true then (8, ss) else (0, ss.set k (1, 0, 0, false))) else (7, ss)) := rfl
  generalize callF pts (ws.map (·.1)) ss occ lies k x.1 s = ans at *
  generalize busyB ss x.1.foes = bz at *
  generalize clearB occ x.1.path = cl at *
  generalize x.1.needs.any (barF pts (ws.map (·.1)) ss occ lies k) = ba at *
  have HAT : Hid (LkAt w B kb u occ.length ng pts ws ss) := h
  have PUT : Hid (∀ W, Below w.heap.size w W → ∃ sb cap, u 2 = .slice (some ⟨sb, 0, none⟩) ss.length cap ∧
    (∀ i, i < 4 → (∃ v, W.cell? ⟨sb, k * 4 + i, none⟩ = some v) ∧ W.frozen? ⟨sb, k * 4 + i, none⟩ = false) ∧
    LkAt ((((W.setCell ⟨sb, k * 4, none⟩ (.int .i64 1)).setCell ⟨sb, k * 4 + 1, none⟩ (.int .i64 0)).setCell ⟨sb, k * 4 + 2, none⟩ (.int .i64 0)).setCell ⟨sb, k * 4 + 3, none⟩ (.bool false)) B kb u occ.length ng pts ws (ss.set k (1, 0, 0, false)) ∧
    Chg (lkFoot kb (u 2) ss) w ((((W.setCell ⟨sb, k * 4, none⟩ (.int .i64 1)).setCell ⟨sb, k * 4 + 1, none⟩ (.int .i64 0)).setCell ⟨sb, k * 4 + 2, none⟩ (.int .i64 0)).setCell ⟨sb, k * 4 + 3, none⟩ (.bool false))) := fun W hW => by
    obtain ⟨sb, cap, e1, e2, e3, e4⟩ := (h.below hW).put hls (1, 0, 0, false)
    exact ⟨sb, cap, e1, e2, e3, (Chg.of_below hW).trans e4⟩
  obtain ⟨sb, cap, e5, _, _⟩ := PUT.out w (Below.refl _ _)
  have h3 := hr.c3
  have h4 := hr.c4
  obtain ⟨o1, c1, e1, q1⟩ := hr.w
  obtain ⟨g1, f1, rfl, a0, a1, a2, a3⟩ := row_way (w := w) ⟨o1, c1, rfl, q1⟩ k x hx
  obtain ⟨o5, c5, e5', q5⟩ := hr.s
  rw [e5] at e5'
  injection e5' with e51 e52 e53
  subst e51 e53
  obtain ⟨g6, f6, e6, b0, -, -, -⟩ := row_st (w := w) (c := cap) ⟨_, cap, rfl, q5⟩ k s hs
  injection e6 with e6
  injection e6 with e61 e62
  subst e61 e62
  rw [e1] at h3
  rw [e5] at h4 AB
  rw [Nat.zero_add] at b0
  obtain ⟨o2, c2, e2, _⟩ := hxat.path
  obtain ⟨o6, c6, e6, _⟩ := hxat.needs
  obtain ⟨o7, c7, e7, _⟩ := hxat.foes
  rw [e2] at a1 CL
  rw [e6] at a2 CL
  rw [e7] at a3 CL AB
  obtain ⟨o3, c3, e3, _⟩ := hin.o
  obtain ⟨o4, c4, e4, _⟩ := hin.l
  rw [e3, e4] at CL BA ⊢
  have HU : Hid (u 2 = .slice (some ⟨sb, 0, none⟩) ss.length cap) := e5
  have hki : (k : Int) < (ws.length : Int) := by omega
  have hki2 : (k : Int) < (ss.length : Int) := by omega
  clear h hr hok hin hll hx hs hlt hls hxm hwo hxat hlen q1 q5 e1 e2 e3 e4 e5 e6 e7 e52
  obtain ⟨m, st1, st2, st3⟩ := s
  simp only at HF b0
  have hbl : Below w.heap.size w (w.alloc (.cells #[.slice o3 occ.length c3, .slice o4 lies.length c4] 38)) := (Below.refl _ _).alloc (Nat.le_refl _) _
  have HB1 : Hid (Below w.heap.size w (w.alloc (.cells #[.slice o3 occ.length c3, .slice o4 lies.length c4] 38))) := hbl
  obtain ⟨x0, x1⟩ := cells2 (blk_new w (.cells #[.slice o3 occ.length c3, .slice o4 lies.length c4] 38))
  have x2 := up_cell hbl h3
  have x3 := up_cell hbl h4
  have x4 := up_cell hbl a0
  have x5 := up_cell hbl a1
  have x6 := up_cell hbl a2
  have x7 := up_cell hbl a3
  have x8 := up_cell hbl b0
  clear hbl h3 h4 a0 a1 a2 a3 b0
  have HL1 : Hid (∃ n, n = occ.length) := ⟨_, rfl⟩
  generalize hn1 : ws.length = n1 at *
  generalize hn2 : ss.length = n2 at *
  generalize hn3 : w.alloc (.cells #[.slice o3 occ.length c3, .slice o4 lies.length c4] 38) = w1 at *
  have HN3 : Hid (w.alloc (.cells #[.slice o3 occ.length c3, .slice o4 lies.length c4] 38) = w1) := hn3
  by_cases hm : m = 0
  · subst hm
    rw [if_pos rfl] at HF
    go_enter Tryz.func29, Tryz.ntmps29
    go_wp2_with fail
    have y0 := ext_cell x0
    have y1 := ext_cell x1
    have y2 := ext_cell x2
    have y3 := ext_cell x3
    have y4 := ext_cell x4
    have y5 := ext_cell x5
    have y6 := ext_cell x6
    have y7 := ext_cell x7
    haveI := ext_some w1
    have HX4 : Hid (w1.cell? ⟨kb, 4, none⟩ = some (.slice (some ⟨sb, 0, none⟩) n2 cap)) := x3
    have HB2 : Hid (Below w1.heap.size w1 w1.drew) := (Below.refl _ _).drew
    have HW : Hid (∀ W, Below w1.heap.size w1 W → Below w.heap.size w W) := fun W hW => HB1.out.trans (hW.mono HB1.out.size)
    clear x0 x1 x2 x3 x4 x5 x6 x7 x8 hn1 hn2 hn3
    refine wp_region_mix_lex (C := fun W => ∃ y : Ext w1, W = y.z) (by kernel_rfl) (by kernel_rfl) (by kernel_rfl) (by kernel_rfl) ⟨⟨_, (Below.refl _ _).drew⟩, rfl⟩ ?_
    (repeat (first | (with_reducible refine mix_read (by kernel_rfl) ?_; go_big_quiet_want; go_big_quiet_op; go_big_quiet_on; with_reducible refine wpQuiet_nil ?_) | (with_reducible refine mix_pass (by kernel_rfl) ?_; go_big_quiet_skip; with_reducible refine wpQuiet_nil ?_)))
    with_reducible refine mix_call (by kernel_rfl) (by kernel_rfl) ((AB.out _ (HW.out _ HB2.out)).mono ?_) (by kernel_rfl)
    rintro e w2 ⟨rfl, hb2⟩
    have HB3 : Hid (Below w1.heap.size w1 w2) := HB2.out.trans (hb2.mono HB2.out.size)
    clear hb2
    refine ⟨_, rfl, ⟨⟨_, HB3.out⟩, rfl⟩, ?_⟩
    simp only [Act.put, List.setIfInBounds_toArray, List.set_cons_zero, List.set_cons_succ]
    cases bz
    · (repeat (first | (with_reducible refine mix_read (by kernel_rfl) ?_; go_big_quiet_want; go_big_quiet_op; go_big_quiet_on; with_reducible refine wpQuiet_nil ?_) | (with_reducible refine mix_pass (by kernel_rfl) ?_; go_big_quiet_skip; with_reducible refine wpQuiet_nil ?_)))
      with_reducible refine mix_call (by kernel_rfl) (by kernel_rfl) ((CL.out _ (HW.out _ HB3.out)).mono ?_) (by kernel_rfl)
      rintro e w3 ⟨rfl, hb3⟩
      have HB4 : Hid (Below w1.heap.size w1 w3) := HB3.out.trans (hb3.mono HB3.out.size)
      clear hb3
      refine ⟨_, rfl, ⟨⟨_, HB4.out⟩, rfl⟩, ?_⟩
      simp only [Act.put, List.setIfInBounds_toArray, List.set_cons_zero, List.set_cons_succ]
      cases cl
      · (repeat (first | (with_reducible refine mix_read (by kernel_rfl) ?_; go_big_quiet_want; go_big_quiet_op; go_big_quiet_on; with_reducible refine wpQuiet_nil ?_) | (with_reducible refine mix_pass (by kernel_rfl) ?_; go_big_quiet_skip; with_reducible refine wpQuiet_nil ?_)))
        with_reducible refine mix_end ?_
        intro _
        have HA : Hid (ans = (8, ss)) := by show _ = _; rw [HF.out]; rfl
        go_wp2
        go_ret
        exact ⟨by rw [HA.out]; rfl, by rw [HA.out]; exact HAT.out.below (HW.out _ HB4.out), Chg.of_below (HW.out _ HB4.out)⟩
      · (repeat (first | (with_reducible refine mix_read (by kernel_rfl) ?_; go_big_quiet_want; go_big_quiet_op; go_big_quiet_on; with_reducible refine wpQuiet_nil ?_) | (with_reducible refine mix_pass (by kernel_rfl) ?_; go_big_quiet_skip; with_reducible refine wpQuiet_nil ?_)))
        with_reducible refine mix_call (by kernel_rfl) (by kernel_rfl) ((BA.out _ (HW.out _ HB4.out)).mono ?_) (by kernel_rfl)
        rintro e w4 ⟨rfl, hb4⟩
        have HB5 : Hid (Below w1.heap.size w1 w4) := HB4.out.trans (hb4.mono HB4.out.size)
        clear hb4
        refine ⟨_, rfl, ⟨⟨_, HB5.out⟩, rfl⟩, ?_⟩
        simp only [Act.put, List.setIfInBounds_toArray, List.set_cons_zero, List.set_cons_succ]
        cases ba
        · (repeat (first | (with_reducible refine mix_read (by kernel_rfl) ?_; go_big_quiet_want; go_big_quiet_op; go_big_quiet_on; with_reducible refine wpQuiet_nil ?_) | (with_reducible refine mix_pass (by kernel_rfl) ?_; go_big_quiet_skip; with_reducible refine wpQuiet_nil ?_)))
          with_reducible refine mix_end ?_
          intro _
          have HA : Hid (ans = (0, ss.set k (1, 0, 0, false))) := by show _ = _; rw [HF.out]; rfl
          obtain ⟨sb', cap', e5, hcl, hat, hch⟩ := PUT.out w4 (HW.out _ HB5.out)
          rw [HU.out] at e5
          injection e5 with e51 e52 e53
          injection e51 with e51
          injection e51 with e51
          subst e51
          obtain ⟨⟨d0, i0⟩, j0⟩ := hcl 0 (by omega)
          obtain ⟨⟨d1, i1⟩, j1⟩ := hcl 1 (by omega)
          obtain ⟨⟨d2, i2⟩, j2⟩ := hcl 2 (by omega)
          obtain ⟨⟨d3, i3⟩, j3⟩ := hcl 3 (by omega)
          rw [Nat.add_zero] at i0 j0
          have z1 := up_cell HB5.out HX4.out
          have HHAT : Hid (LkAt ((((w4.setCell ⟨sb, k * 4, none⟩ (.int .i64 1)).setCell ⟨sb, k * 4 + 1, none⟩ (.int .i64 0)).setCell ⟨sb, k * 4 + 2, none⟩ (.int .i64 0)).setCell ⟨sb, k * 4 + 3, none⟩ (.bool false)) B kb u occ.length ng pts ws (ss.set k (1, 0, 0, false))) := hat
          have HCH : Hid (Chg (lkFoot kb (u 2) ss) w ((((w4.setCell ⟨sb, k * 4, none⟩ (.int .i64 1)).setCell ⟨sb, k * 4 + 1, none⟩ (.int .i64 0)).setCell ⟨sb, k * 4 + 2, none⟩ (.int .i64 0)).setCell ⟨sb, k * 4 + 3, none⟩ (.bool false))) := hch
          clear hcl hat hch
          go_wp2
          go_ret
          exact ⟨by rw [HA.out]; rfl, by rw [HA.out]; exact HHAT.out, HCH.out⟩
        · (repeat (first | (with_reducible refine mix_read (by kernel_rfl) ?_; go_big_quiet_want; go_big_quiet_op; go_big_quiet_on; with_reducible refine wpQuiet_nil ?_) | (with_reducible refine mix_pass (by kernel_rfl) ?_; go_big_quiet_skip; with_reducible refine wpQuiet_nil ?_)))
          with_reducible refine mix_end ?_
          intro _
          have HA : Hid (ans = (8, ss)) := by show _ = _; rw [HF.out]; rfl
          go_wp2
          go_ret
          exact ⟨by rw [HA.out]; rfl, by rw [HA.out]; exact HAT.out.below (HW.out _ HB5.out), Chg.of_below (HW.out _ HB5.out)⟩
    · (repeat (first | (with_reducible refine mix_read (by kernel_rfl) ?_; go_big_quiet_want; go_big_quiet_op; go_big_quiet_on; with_reducible refine wpQuiet_nil ?_) | (with_reducible refine mix_pass (by kernel_rfl) ?_; go_big_quiet_skip; with_reducible refine wpQuiet_nil ?_)))
      with_reducible refine mix_end ?_
      intro _
      have HA : Hid (ans = (8, ss)) := by show _ = _; rw [HF.out]; rfl
      go_wp2
      go_ret
      exact ⟨by rw [HA.out]; rfl, by rw [HA.out]; exact HAT.out.below (HW.out _ HB3.out), Chg.of_below (HW.out _ HB3.out)⟩
  · have hd : (m == 0) = false := by simp [hm]
    have hd2 : (m != 0) = true := by simp [hm]
    rw [if_neg hm] at HF
    clear hm
    go_enter Tryz.func29, Tryz.ntmps29
    go_wp2
    go_ret
    exact ⟨by rw [HF.out]; rfl, by rw [HF.out]; exact HAT.out.below HB1.out, Chg.of_below HB1.out⟩
end Go.Proofs.YtceebimgfajbcaaGreatDoor
