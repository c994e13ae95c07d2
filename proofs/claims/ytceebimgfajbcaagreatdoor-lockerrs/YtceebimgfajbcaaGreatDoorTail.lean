/-
  Texts of this proof, joined: RfLk, RfLkSafe, RfCall, RfLCmd, RfLStep, RfLStep2, RfLCyc, LawAct1, LkRfSame, RfTwo, LkAlike.
-/
import Derived.Test.YtceebimgfajbcaaGreatDoorLkTellR
import Derived.Test.YtceebimgfajbcaaGreatDoorLyFork
import Derived.Test.YtceebimgfajbcaaGreatDoorLawActs5
import Derived.Laws.StructEq
import Derived.Test.YtceebimgfajbcaaGreatDoorLkCount
import Derived.Test.YtceebimgfajbcaaGreatDoorLkInOut2
namespace Go.Proofs.YtceebimgfajbcaaGreatDoor
open Go.RowKit

/-- The reference's lock, of the call's own. -/
structure RfLk (w0 W : World) (v : Nat → Value) (l : Lay) (rs : List RtV) (xb rb : Nat) (ss : List St) : Prop where
  bx : W.heap[xb]? = some (.cells #[v 0, v 1, v 2, v 3, .slice (some ⟨rb, 0, none⟩) rs.length rs.length] 91 (0, 0))
  br : W.heap[rb]? = some (.cells (ss.flatMap stC).toArray 80 (0, 0))
  ne : rb ≠ xb
  base : w0.heap.size ≤ xb ∧ w0.heap.size ≤ rb
  bl : Below w0.heap.size w0 W
  ok : LkOk l.sections.length l.signals.length (l.points.map (·.2)) (waysG rs rs 0) ss
section
variable {w0 W W' : World} {v : Nat → Value} {l : Lay} {rs : List RtV} {xb rb : Nat} {ss : List St}
theorem RfLk.step (h : RfLk w0 W v l rs xb rb ss) (hb : Below W.heap.size W W') : RfLk w0 W' v l rs xb rb ss := ⟨blk_below hb h.bx, blk_below hb h.br, h.ne, h.base, h.bl.trans (hb.mono h.bl.size), h.ok⟩
theorem RfLk.len (h : RfLk w0 W v l rs xb rb ss) : ss.length = rs.length := by have := h.ok.len; rw [waysG_map] at this; exact this
theorem RfLk.lt (h : RfLk w0 W v l rs xb rb ss) : xb < W.heap.size ∧ rb < W.heap.size := ⟨(Array.getElem?_eq_some_iff.1 h.bx).1, (Array.getElem?_eq_some_iff.1 h.br).1⟩
theorem RfLk.row (h : RfLk w0 W v l rs xb rb ss) : rowAt W (.slice (some ⟨rb, 0, none⟩) rs.length rs.length) 4 stC ss := by
  have := row_blk (cs := stC) (size := 4) (cap := rs.length) (fun _ => rfl) ss h.br rfl
  rw [h.len] at this
  exact this
theorem RfLk.cells (h : RfLk w0 W v l rs xb rb ss) : W.cell? ⟨xb, 0, none⟩ = some (v 0) ∧ W.cell? ⟨xb, 1, none⟩ = some (v 1) ∧ W.cell? ⟨xb, 2, none⟩ = some (v 2) ∧ W.cell? ⟨xb, 3, none⟩ = some (v 3) ∧ W.cell? ⟨xb, 4, none⟩ = some (.slice (some ⟨rb, 0, none⟩) rs.length rs.length) := (cells5 h.bx).1
/-- How a route stands, read. -/
theorem RfLk.stAt_ (h : RfLk w0 W v l rs xb rb ss) {k : Nat} {m t g : Int} {b : Bool} (hs : ss[k]? = some (m, t, g, b)) : W.cell? ⟨rb, k * 4, none⟩ = some (.int .i64 m) ∧ W.cell? ⟨rb, k * 4 + 1, none⟩ = some (.int .i64 t) ∧ W.cell? ⟨rb, k * 4 + 2, none⟩ = some (.int .i64 g) ∧ W.cell? ⟨rb, k * 4 + 3, none⟩ = some (.bool b) := by
  obtain ⟨gg, off, e, h0, h1, h2, h3⟩ := row_st h.row k _ hs
  injection e with e
  injection e with e1 e2
  subst e1 e2
  simp only [Nat.zero_add] at h0 h1 h2 h3
  exact ⟨h0, h1, h2, h3⟩
theorem RfLk.fz (h : RfLk w0 W v l rs xb rb ss) (i : Nat) : W.frozen? ⟨rb, i, none⟩ = false := froz2 h.br i
def putR (W : World) (rb k : Nat) (s : St) : World := (((W.setCell ⟨rb, k * 4, none⟩ (.int .i64 s.1)).setCell ⟨rb, k * 4 + 1, none⟩ (.int .i64 s.2.1)).setCell ⟨rb, k * 4 + 2, none⟩ (.int .i64 s.2.2.1)).setCell ⟨rb, k * 4 + 3, none⟩ (.bool s.2.2.2)
theorem RfLk.put (h : RfLk w0 W v l rs xb rb ss) {k : Nat} {s : St} (hk : k < ss.length) (hs : ∀ n, 0 < n → mayBeF s n = true) : RfLk w0 (putR W rb k s) v l rs xb rb (ss.set k s) ∧ Chg (fun j => j = rb) W (putR W rb k s) := by
  have hsz : (putR W rb k s).heap.size = W.heap.size := by simp [putR, World.setCell]
  have hoth : ∀ j, j ≠ rb → (putR W rb k s).heap[j]? = W.heap[j]? := fun j hj => by
    unfold putR
    rw [Below.heap_setCell _ _ _ _ (by exact hj), Below.heap_setCell _ _ _ _ (by exact hj), Below.heap_setCell _ _ _ _ (by exact hj), Below.heap_setCell _ _ _ _ (by exact hj)]
  have hrb : (putR W rb k s).heap[rb]? = some (.cells ((ss.set k s).flatMap stC).toArray 80 (0, 0)) := by
    have := heap_put (i := k * 4 + 3) (heap_put (i := k * 4 + 2) (heap_put (i := k * 4 + 1) (heap_put (i := k * 4) h.br (.int .i64 s.1)) (.int .i64 s.2.1)) (.int .i64 s.2.2.1)) (.bool s.2.2.2)
    simp only [List.setIfInBounds_toArray] at this
    rw [flat_set hk s] at this
    exact this
  have hc : Chg (fun j => j = rb) W (putR W rb k s) := ⟨rfl, rfl, rfl, by omega, fun j _ hj => hoth j hj⟩
  exact ⟨⟨(hoth xb h.ne.symm).trans h.bx, hrb, h.ne, h.base, h.bl.trans (hc.below (fun j hj => by rw [hj]; exact h.base.2) h.bl.size), h.ok.put hs⟩, hc⟩
end

set_option maxRecDepth 1000000 in
set_option maxHeartbeats 16000000 in
theorem rlHolder_any (w0 w : World) (v : Nat → Value) (l : Lay) (rs : List RtV) (xb rb : Nat) (ss : List St) (sec : Int) (hL : LayRd w0 v l rs) (hcap : ∀ x ∈ rs, capOk x.2.1) (h : RfLk w0 w v l rs xb rb ss) :
    Calls Tryz.prog 45 #[.pointer (some ⟨xb, 0, none⟩), .int .i64 sec] w fun e w' => e = .returned (.int .i64 (holderF (waysG rs rs 0) ss sec)) ∧ Below w.heap.size w w' := by
  have hlr := h.len
  have hfew := h.ok.few.2.2.2
  rw [waysG_map] at hfew
  have HLD : Hid (∀ W, Below w.heap.size w W → ∀ (j : Nat) (x : RtV) (m t g : Int) (b : Bool), rs[j]? = some x → ss[j]? = some (m, t, g, b) → Calls Tryz.prog 38 #[.agg #[v 0, v 1, v 2, v 3], .int .i64 j, .agg #[.int .i64 m, .int .i64 t, .int .i64 g, .bool b], .int .i64 sec] W fun e w' => e = .returned (.bool (holdsB sec (wayF rs (0 + j) x.1, (m, t, g, b)))) ∧ Below W.heap.size W w') := fun W hW j x m t g b hx hs => rfHolds_any v l rs j x m t g b sec W (hL.below (h.bl.trans (hW.mono h.bl.size))) hx (hcap x (List.mem_of_getElem? hx)) (h.ok.sts j _ _ (ways_at rs rs 0 j x hx) hs) (h.ok.ways _ (List.mem_of_getElem? (ways_at rs rs 0 j x hx))).some_ (h.ok.ways _ (List.mem_of_getElem? (ways_at rs rs 0 j x hx))).few.1
  have HZ : Hid (holderF (waysG rs rs 0) ss sec = atF (holdsB sec) ((waysG rs rs 0).zip ss) 0) := rfl
  have HQ : Hid (∀ (j : Nat) (x : RtV) (s : St), rs[j]? = some x → ss[j]? = some s → ((waysG rs rs 0).zip ss).drop j = (wayF rs (0 + j) x.1, s) :: ((waysG rs rs 0).zip ss).drop (j + 1)) := fun j x s hx hs => drop_at (by rw [List.getElem?_zip_eq_some]; exact ⟨ways_at rs rs 0 j x hx, hs⟩)
  have HQL : Hid (((waysG rs rs 0).zip ss).length = rs.length) := by show _ = _; rw [List.length_zip, waysG_map]; omega
  generalize holderF (waysG rs rs 0) ss sec = ans at *
  generalize (waysG rs rs 0).zip ss = Q at *
  have HR : Hid (RfLk w0 w v l rs xb rb ss) := h
  have HLN : Hid (ss.length = rs.length) := hlr
  have hcl := h.cells
  obtain ⟨o0, c0, e0, _⟩ := hL.s
  obtain ⟨o1, c1, e1, _⟩ := hL.p
  obtain ⟨o2, c2, e2, _⟩ := hL.g
  obtain ⟨o3, c3, e3, _⟩ := hL.r
  rw [e0, e1, e2, e3] at HLD hcl
  have HCL := (show Hid _ from hcl)
  clear h hL hlr hcap hcl e0 e1 e2 e3
  generalize l.sections.length = n0 at *
  generalize l.points.length = n1 at *
  generalize l.signals.length = n2 at *
  obtain ⟨n3, hz3⟩ : ∃ n, rs.length = n := ⟨_, rfl⟩
  have HZ3 : Hid (rs.length = n3) := hz3
  rw [hz3] at hfew HCL HLD
  clear hz3
  obtain ⟨q0, q1, q2, q3, q4⟩ := HCL.out
  go_enter Tryz.func45, Tryz.ntmps45
  go_wp2
  clear q0 q1 q2 q3 q4
  go_loopg [5] n3 (fun gk i wr => ∃ k : Nat, gk = n3 - k ∧ i = .int .i64 k ∧ k ≤ n3 ∧ atF (holdsB sec) (Q.drop k) k = ans ∧ Below w.heap.size w wr)
  case atStart => exact ⟨0, rfl, rfl, by omega, by rw [HZ.out]; rfl, Below.refl _ _⟩
  case round =>
    obtain ⟨k, rfl, rfl, hk, hc, hb⟩ := hrel
    have HC : Hid (atF (holdsB sec) (Q.drop k) k = ans) := hc
    have HBR : Hid (Below w.heap.size w wr) := hb
    clear hc hb
    have HRR : Hid (RfLk w0 wr v l rs xb rb ss) := HR.out.step HBR.out
    have q0 := up_cell HBR.out HCL.out.1
    have q1 := up_cell HBR.out HCL.out.2.1
    have q2 := up_cell HBR.out HCL.out.2.2.1
    have q3 := up_cell HBR.out HCL.out.2.2.2.1
    have q4 := up_cell HBR.out HCL.out.2.2.2.2
    by_cases hlt : k < n3
    · have hki : (k : Int) < (n3 : Int) := by omega
      obtain ⟨x, hx⟩ := at_of (l := rs) (k := k) (by have := HZ3.out; omega)
      obtain ⟨⟨m, t, g, b⟩, hst⟩ := at_of (l := ss) (k := k) (by have := HLN.out; have := HZ3.out; omega)
      obtain ⟨s0, s1, s2, s3⟩ := HRR.out.stAt_ hst
      have hd := HQ.out k x _ hx hst
      have C := (show Hid _ from fun U hU => HLD.out U hU k x m t g b hx hst)
      have CS : Hid (atF (holdsB sec) (Q.drop k) k = if holdsB sec (wayF rs (0 + k) x.1, (m, t, g, b)) = true then (k : Int) else atF (holdsB sec) (Q.drop (k + 1)) (k + 1)) := by show _ = _; rw [hd, atF]
      generalize holdsB sec (wayF rs (0 + k) x.1, (m, t, g, b)) = bh at *
      have y0 := ext_cell q0
      have y1 := ext_cell q1
      have y2 := ext_cell q2
      have y3 := ext_cell q3
      have y4 := ext_cell q4
      have y5 : ∀ y : Ext wr, y.z.cell? ⟨rb, 0 + k * 4, none⟩ = some (.int .i64 m) := by rw [Nat.zero_add]; exact ext_cell s0
      have y6 : ∀ y : Ext wr, y.z.cell? ⟨rb, 0 + k * 4 + 1, none⟩ = some (.int .i64 t) := by rw [Nat.zero_add]; exact ext_cell s1
      have y7 : ∀ y : Ext wr, y.z.cell? ⟨rb, 0 + k * 4 + 2, none⟩ = some (.int .i64 g) := by rw [Nat.zero_add]; exact ext_cell s2
      have y8 : ∀ y : Ext wr, y.z.cell? ⟨rb, 0 + k * 4 + 3, none⟩ = some (.bool b) := by rw [Nat.zero_add]; exact ext_cell s3
      have y9 := ext_cell s0
      have yA := ext_cell s1
      have yB := ext_cell s2
      have yC := ext_cell s3
      haveI := ext_some wr
      have HBQ : Hid (Below wr.heap.size wr wr.drew) := (Below.refl _ _).drew
      clear hx hst hd s0 s1 s2 s3 q0 q1 q2 q3
      cases bh
      all_goals
        go_wp2_with fail
        refine wp_region_mix_seq (C := fun W => ∃ y : Ext wr, W = y.z) [0, 1, 2, 3, 4, 5, 6, 7, 8, 9, 10, 11, 12, 13] (by kernel_rfl) (by kernel_rfl) (by kernel_rfl) (by kernel_rfl) (by simp only [List.filterMap_cons, List.getElem?_toArray, List.getElem?_cons_zero, List.getElem?_cons_succ, List.filterMap_nil]; rfl) ⟨⟨_, HBQ.out⟩, rfl⟩ ?_
        generalize wr.drew = wd at *
        (repeat (first | (with_reducible refine mix_read (by kernel_rfl) ?_; go_big_quiet_want; go_big_quiet_op; go_big_quiet_on; with_reducible refine wpQuiet_nil ?_) | (with_reducible refine mix_pass (by kernel_rfl) ?_; go_big_quiet_skip; with_reducible refine wpQuiet_nil ?_)))
        with_reducible refine mix_call (by kernel_rfl) (by kernel_rfl) ((C.out _ (HBR.out.trans (HBQ.out.mono HBR.out.size))).mono ?_) (by kernel_rfl)
        rintro e w6 ⟨rfl, hb⟩
        have HB7 : Hid (Below wr.heap.size wr w6) := HBQ.out.trans (hb.mono HBQ.out.size)
        clear hb
        refine ⟨_, rfl, ⟨⟨_, HB7.out⟩, rfl⟩, ?_⟩
        simp only [Act.put, List.setIfInBounds_toArray, List.set_cons_zero, List.set_cons_succ]
        (repeat (first | (with_reducible refine mix_read (by kernel_rfl) ?_; go_big_quiet_want; go_big_quiet_op; go_big_quiet_on; with_reducible refine wpQuiet_nil ?_) | (with_reducible refine mix_pass (by kernel_rfl) ?_; go_big_quiet_skip; with_reducible refine wpQuiet_nil ?_)))
        with_reducible refine mix_end ?_
        intro _
        clear y0 y1 y2 y3 y4 y5 y6 y7 y8 y9 yA yB yC
        go_wp2
      · go_roundg (n3 - (k + 1))
        case rel => exact ⟨k + 1, rfl, by go_num, by omega, by rw [← HC.out, CS.out]; rfl, HBR.out.trans (HB7.out.mono HBR.out.size)⟩
        case measure => omega
      · go_ret
        exact ⟨by rw [← HC.out, CS.out]; rfl, HBR.out.trans (HB7.out.mono HBR.out.size)⟩
    · have hki : ¬ (k : Int) < (n3 : Int) := by omega
      go_wp2
      go_ret
      exact ⟨by rw [← HC.out, List.drop_of_length_le (by have := HQL.out; have := HZ3.out; omega)]; rfl, HBR.out⟩
end Go.Proofs.YtceebimgfajbcaaGreatDoor

namespace Go.Proofs.YtceebimgfajbcaaGreatDoor
open Go.RowKit

set_option maxRecDepth 1000000 in
set_option maxHeartbeats 8000000 in
theorem rlSafe_any (w0 w : World) (v : Nat → Value) (l : Lay) (rs : List RtV) (xb rb : Nat) (ss : List St) (hL : LayRd w0 v l rs) (h : RfLk w0 w v l rs xb rb ss) :
    Calls Tryz.prog 42 #[.pointer (some ⟨xb, 0, none⟩)] w fun e w' => ∃ b1 b2, e = .returned (outV b1 b2 l.points.length l.signals.length) ∧ OutAt w' w.heap.size b1 b2 (List.replicate l.points.length 0) (List.replicate l.signals.length false) ∧ Below w.heap.size w w' := by
  have hl1 : l.points.length ≤ 1000 := by have := h.ok.few.2.1; rw [List.length_map] at this; exact this
  have hl2 : l.signals.length ≤ 1000 := h.ok.few.2.2.1
  obtain ⟨o1, c1, e1, _⟩ := hL.p
  obtain ⟨o2, c2, e2, _⟩ := hL.g
  obtain ⟨-, h1, h2, -, -⟩ := h.cells
  rw [e1] at h1
  rw [e2] at h2
  clear h hL e1 e2
  generalize l.points.length = np at *
  generalize l.signals.length = ng at *
  have MI : Hid (∀ w : World, (Instr.makeSlice 36 (.int .i64 (np : Int)) (.int .i64 (np : Int))).run Tryz.prog w = .ok (.slice (some ⟨w.heap.size, 0, none⟩) np np) (w.alloc (.cells ((List.replicate np (0 : Int)).map (Value.int .i64)).toArray 3))) := fun w => mk_int np hl1 w
  have MB : Hid (∀ w : World, (Instr.makeSlice 35 (.int .i64 (ng : Int)) (.int .i64 (ng : Int))).run Tryz.prog w = .ok (.slice (some ⟨w.heap.size, 0, none⟩) ng ng) (w.alloc (.cells ((List.replicate ng false).map Value.bool).toArray 4))) := fun w => mk_bool ng hl2 w
  generalize hci : ((List.replicate np (0 : Int)).map (Value.int .i64)).toArray = ci at *
  generalize hcb : ((List.replicate ng false).map Value.bool).toArray = cb at *
  have HCI : Hid (((List.replicate np (0 : Int)).map (Value.int .i64)).toArray = ci) := hci
  have HCB : Hid (((List.replicate ng false).map Value.bool).toArray = cb) := hcb
  clear hci hcb
  have HB1 : Hid (Below w.heap.size w (w.alloc (.cells #[.slice none 0 0, .slice none 0 0] 46))) := (Below.refl _ _).alloc (Nat.le_refl _) _
  have H0 : Hid ((w.alloc (.cells #[.slice none 0 0, .slice none 0 0] 46)).heap[w.heap.size]? = some (.cells #[.slice none 0 0, .slice none 0 0] 46 (0, 0))) := blk_new _ _
  have x1 := up_cell HB1.out h1
  have x2 := up_cell HB1.out h2
  have hsz : (w.alloc (.cells #[.slice none 0 0, .slice none 0 0] 46)).heap.size = w.heap.size + 1 := by simp
  have HSZ : Hid ((w.alloc (.cells #[.slice none 0 0, .slice none 0 0] 46)).heap.size = w.heap.size + 1) := hsz
  clear h1 h2 hsz
  go_enter Tryz.func42, Tryz.ntmps42
  go_wp2_with fail
  generalize w.alloc (.cells #[.slice none 0 0, .slice none 0 0] 46) = w1 at *
  have y1 := ext_cell x1
  have y2 := ext_cell x2
  haveI := ext_some w1
  have HB2 : Hid (Below w1.heap.size w1 w1.drew) := (Below.refl _ _).drew
  clear x1 x2
  refine wp_region_fork (C := fun W => ∃ y : Ext w1, W = y.z) [0, 1, 2, 3, 4, 5, 7, 8, 9, 10, 11, 12] [6, 13, 14] [13, 6, 14] [15] (by kernel_rfl) (by kernel_rfl) (by kernel_rfl) (by kernel_rfl) (by simp only [List.filterMap_cons, List.getElem?_toArray, List.getElem?_cons_zero, List.getElem?_cons_succ, List.filterMap_nil]; rfl) (by simp only [List.filterMap_cons, List.getElem?_toArray, List.getElem?_cons_zero, List.getElem?_cons_succ, List.filterMap_nil]; rfl) (by simp only [List.filterMap_cons, List.getElem?_toArray, List.getElem?_cons_zero, List.getElem?_cons_succ, List.filterMap_nil]; rfl) (by simp only [List.filterMap_cons, List.getElem?_toArray, List.getElem?_cons_zero, List.getElem?_cons_succ, List.filterMap_nil]; rfl) ⟨⟨_, (Below.refl _ _).drew⟩, rfl⟩ ?_
  (repeat (first | (with_reducible refine mix_read (by kernel_rfl) ?_; go_big_quiet_want; go_big_quiet_op; go_big_quiet_on; with_reducible refine wpQuiet_nil ?_) | (with_reducible refine mix_pass (by kernel_rfl) ?_; go_big_quiet_skip; with_reducible refine wpQuiet_nil ?_)))
  with_reducible refine mix_end ?_
  have HB3 : Hid (Below w1.heap.size w1 (w1.drew.alloc (.cells ci 3))) := HB2.out.alloc HB2.out.size _
  have HB3' : Hid (Below w1.heap.size w1 (w1.drew.alloc (.cells cb 4))) := HB2.out.alloc HB2.out.size _
  refine ⟨?_, ?_⟩
  · refine mix_does (by kernel_rfl) (by kernel_rfl) (run_does (MI.out w1.drew)) ⟨⟨_, HB3.out⟩, rfl⟩ ?_
    simp only [Act.put, List.setIfInBounds_toArray, List.set_cons_zero, List.set_cons_succ]
    have HB4 : Hid (Below w1.heap.size w1 ((w1.drew.alloc (.cells ci 3)).alloc (.cells cb 4))) := HB3.out.alloc HB3.out.size _
    refine mix_does (by kernel_rfl) (by kernel_rfl) (run_does (MB.out (w1.drew.alloc (.cells ci 3)))) ⟨⟨_, HB4.out⟩, rfl⟩ ?_
    simp only [Act.put, List.setIfInBounds_toArray, List.set_cons_zero, List.set_cons_succ]
    (repeat (first | (with_reducible refine mix_read (by kernel_rfl) ?_; go_big_quiet_want; go_big_quiet_op; go_big_quiet_on; with_reducible refine wpQuiet_nil ?_) | (with_reducible refine mix_pass (by kernel_rfl) ?_; go_big_quiet_skip; with_reducible refine wpQuiet_nil ?_)))
    with_reducible refine mix_end ?_
    have HX1 : Hid (((w1.drew.alloc (.cells ci 3)).alloc (.cells cb 4)).heap[w1.heap.size]? = some (.cells ci 3 (0, 0))) := blk_old (blk_new w1.drew _)
    have HX2 : Hid (((w1.drew.alloc (.cells ci 3)).alloc (.cells cb 4)).heap[w1.heap.size + 1]? = some (.cells cb 4 (0, 0))) := blk_at1 w1.drew _ _
    have hs1 : (w1.drew.alloc (.cells ci 3)).heap.size = w1.heap.size + 1 := by rw [World.size_alloc]; rfl
    generalize hw2 : (w1.drew.alloc (.cells ci 3)).alloc (.cells cb 4) = w2 at *
    clear hw2
    have H2 := blk_below HB4.out H0.out
    obtain ⟨z0, z1⟩ := cells2 H2
    have z2 := froz2 H2 0
    have z3 := froz2 H2 1
    go_wp2
    have hg := HSZ.out
    refine bodyPost_ret (v := outV (w1.heap.size) (w1.heap.size + 1) np ng) (by simp [results, Tryz.results42, go_sem, outV, z0, z1]) rfl ⟨w1.heap.size, w1.heap.size + 1, rfl, ⟨?_, ?_, ⟨by omega, by omega⟩, by omega⟩, ?_⟩
    · rw [Below.heap_setCell _ _ _ _ (by show (w1.heap.size) ≠ w.heap.size; omega), Below.heap_setCell _ _ _ _ (by show (w1.heap.size) ≠ w.heap.size; omega), HCI.out]
      exact HX1.out
    · rw [Below.heap_setCell _ _ _ _ (by show (w1.heap.size + 1) ≠ w.heap.size; omega), Below.heap_setCell _ _ _ _ (by show (w1.heap.size + 1) ≠ w.heap.size; omega), HCB.out]
      exact HX2.out
    · exact (((HB1.out.trans (HB4.out.mono HB1.out.size)).setCell (Nat.le_refl _) _).setCell (Nat.le_refl _) _)
  · refine mix_does (by kernel_rfl) (by kernel_rfl) (run_does (MB.out w1.drew)) ⟨⟨_, HB3'.out⟩, rfl⟩ ?_
    simp only [Act.put, List.setIfInBounds_toArray, List.set_cons_zero, List.set_cons_succ]
    have HB4 : Hid (Below w1.heap.size w1 ((w1.drew.alloc (.cells cb 4)).alloc (.cells ci 3))) := HB3'.out.alloc HB3'.out.size _
    refine mix_does (by kernel_rfl) (by kernel_rfl) (run_does (MI.out (w1.drew.alloc (.cells cb 4)))) ⟨⟨_, HB4.out⟩, rfl⟩ ?_
    simp only [Act.put, List.setIfInBounds_toArray, List.set_cons_zero, List.set_cons_succ]
    (repeat (first | (with_reducible refine mix_read (by kernel_rfl) ?_; go_big_quiet_want; go_big_quiet_op; go_big_quiet_on; with_reducible refine wpQuiet_nil ?_) | (with_reducible refine mix_pass (by kernel_rfl) ?_; go_big_quiet_skip; with_reducible refine wpQuiet_nil ?_)))
    with_reducible refine mix_end ?_
    have HX1 : Hid (((w1.drew.alloc (.cells cb 4)).alloc (.cells ci 3)).heap[w1.heap.size]? = some (.cells cb 4 (0, 0))) := blk_old (blk_new w1.drew _)
    have HX2 : Hid (((w1.drew.alloc (.cells cb 4)).alloc (.cells ci 3)).heap[w1.heap.size + 1]? = some (.cells ci 3 (0, 0))) := blk_at1 w1.drew _ _
    have hs1 : (w1.drew.alloc (.cells cb 4)).heap.size = w1.heap.size + 1 := by rw [World.size_alloc]; rfl
    generalize hw2 : (w1.drew.alloc (.cells cb 4)).alloc (.cells ci 3) = w2 at *
    clear hw2
    have H2 := blk_below HB4.out H0.out
    obtain ⟨z0, z1⟩ := cells2 H2
    have z2 := froz2 H2 0
    have z3 := froz2 H2 1
    go_wp2
    have hg := HSZ.out
    refine bodyPost_ret (v := outV (w1.heap.size + 1) (w1.heap.size) np ng) (by simp [results, Tryz.results42, go_sem, outV, z0, z1]) rfl ⟨w1.heap.size + 1, w1.heap.size, rfl, ⟨?_, ?_, ⟨by omega, by omega⟩, by omega⟩, ?_⟩
    · rw [Below.heap_setCell _ _ _ _ (by show (w1.heap.size + 1) ≠ w.heap.size; omega), Below.heap_setCell _ _ _ _ (by show (w1.heap.size + 1) ≠ w.heap.size; omega), HCI.out]
      exact HX2.out
    · rw [Below.heap_setCell _ _ _ _ (by show (w1.heap.size) ≠ w.heap.size; omega), Below.heap_setCell _ _ _ _ (by show (w1.heap.size) ≠ w.heap.size; omega), HCB.out]
      exact HX1.out
    · exact (((HB1.out.trans (HB4.out.mono HB1.out.size)).setCell (Nat.le_refl _) _).setCell (Nat.le_refl _) _)

set_option maxRecDepth 1000000 in
set_option maxHeartbeats 16000000 in
theorem rlNew_ok (w0 W : World) (v : Nat → Value) (l : Lay) (rs : List RtV) (h : LayRd w0 v l rs) (hB0 : Below w0.heap.size w0 W) (hcap : ∀ x ∈ rs, capOk x.2.1) (hm : LayMid l) (hT : Lib.Utf8Tabs 0 1 w0) (hi : isB l = true) (hs : LaySmall l) :
    Calls Tryz.prog 18 #[.agg #[v 0, v 1, v 2, v 3]] W fun e w' => ∃ xb rb, e = .returned (.tuple #[.pointer (some ⟨xb, 0, none⟩), .int .i64 0]) ∧ RfLk w0 w' v l rs xb rb (List.replicate rs.length idleS) ∧ (W.heap.size ≤ xb ∧ W.heap.size ≤ rb) ∧ Below W.heap.size W w' := by
  have IS : Hid (∀ U, Below w0.heap.size w0 U → Calls Tryz.prog 7 #[.agg #[v 0, v 1, v 2, v 3]] U fun e w' => e = .returned (.bool true) ∧ Below U.heap.size U w') := fun U hU => by
    have := is_any v l rs U (h.below hU) hcap hm (tabs_below hT hU)
    rw [hi] at this
    exact this
  have hok := lkOk_new h.m hi hs
  have HOK := (show Hid _ from hok)
  have hfew := hok.few.2.2.2
  rw [waysG_map] at hfew
  have HB0 : Hid (Below w0.heap.size w0 W) := hB0
  obtain ⟨o0, c0, e0, _⟩ := h.s
  obtain ⟨o1, c1, e1, _⟩ := h.p
  obtain ⟨o2, c2, e2, _⟩ := h.g
  obtain ⟨o3, c3, e3, _⟩ := h.r
  have HV : Hid (v 0 = .slice o0 l.sections.length c0 ∧ v 1 = .slice o1 l.points.length c1 ∧ v 2 = .slice o2 l.signals.length c2 ∧ v 3 = .slice o3 rs.length c3) := ⟨e0, e1, e2, e3⟩
  have FIN : Hid (∀ (w' : World) (xb rb : Nat), w'.heap[xb]? = some (.cells #[.slice o0 l.sections.length c0, .slice o1 l.points.length c1, .slice o2 l.signals.length c2, .slice o3 rs.length c3, .slice (some ⟨rb, 0, none⟩) rs.length rs.length] 91 (0, 0)) → w'.heap[rb]? = some (.cells ((List.replicate rs.length idleS).flatMap stC).toArray 80 (0, 0)) → rb ≠ xb → W.heap.size ≤ xb → W.heap.size ≤ rb → Below W.heap.size W w' → RfLk w0 w' v l rs xb rb (List.replicate rs.length idleS)) := fun w' xb rb h1 h2 h3 h4 h5 h6 => by
    have hs0 := HB0.out.size
    refine ⟨?_, h2, h3, ⟨by omega, by omega⟩, HB0.out.trans (h6.mono HB0.out.size), HOK.out⟩
    rw [HV.out.1, HV.out.2.1, HV.out.2.2.1, HV.out.2.2.2]
    exact h1
  rw [e0, e1, e2, e3] at IS ⊢
  clear h hm e0 e1 e2 e3 hi hT hcap hok hs hB0 HV HOK
  have HZ : Hid (rs.length = rs.length) := rfl
  generalize RfLk w0 = RL at *
  generalize l.sections.length = n0 at *
  generalize l.points.length = n1 at *
  generalize l.signals.length = n2 at *
  generalize rs.length = n3 at *
  have MS : Hid (∀ w : World, (Instr.makeSlice 41 (.int .i64 (n3 : Int)) (.int .i64 (n3 : Int))).run Tryz.prog w = .ok (.slice (some ⟨w.heap.size, 0, none⟩) n3 n3) (w.alloc (.cells ((List.replicate n3 idleS).flatMap stC).toArray 80))) := fun w => mk_st n3 hfew w
  generalize ((List.replicate n3 idleS).flatMap stC).toArray = ci at *
  generalize hch : W.alloc (.cells #[.slice o0 n0 c0, .slice o1 n1 c1, .slice o2 n2 c2, .slice o3 n3 c3] 26) = w1
  have HB1 : Hid (Below W.heap.size W w1) := by show Below _ _ _; rw [← hch]; exact (Below.refl _ _).alloc (Nat.le_refl _) _
  have H0 : Hid (w1.heap[W.heap.size]? = some (.cells #[.slice o0 n0 c0, .slice o1 n1 c1, .slice o2 n2 c2, .slice o3 n3 c3] 26 (0, 0))) := by show _ = _; rw [← hch]; exact blk_new _ _
  obtain ⟨⟨x0, x1, x2, x3⟩, _⟩ := cells4 H0.out
  go_enter Tryz.func18, Tryz.ntmps18
  go_wp2_with fail
  clear x0 x1 x2 x3 hch
  refine (IS.out _ (HB0.out.trans (HB1.out.mono HB0.out.size))).mono ?_
  rintro e w2 ⟨rfl, hb2'⟩
  have HB2 : Hid (Below W.heap.size W w2) := HB1.out.trans (hb2'.mono HB1.out.size)
  have H02 : Hid (w2.heap[W.heap.size]? = some (.cells #[.slice o0 n0 c0, .slice o1 n1 c1, .slice o2 n2 c2, .slice o3 n3 c3] 26 (0, 0))) := blk_below hb2' H0.out
  clear hb2' IS
  obtain ⟨⟨x0, x1, x2, x3⟩, _⟩ := cells4 H02.out
  go_wp2_with fail
  have y0 := ext_cell x0
  have y1 := ext_cell x1
  have y2 := ext_cell x2
  have y3 := ext_cell x3
  haveI := ext_some w2
  have HT : Hid (Below w2.heap.size w2 w2.drew) := (Below.refl _ _).drew
  clear x0 x1 x2 x3
  refine wp_region_mix_seq (C := fun W => ∃ y : Ext w2, W = y.z) [0, 1, 2, 3, 4, 5, 6, 7, 8] (by kernel_rfl) (by kernel_rfl) (by kernel_rfl) (by kernel_rfl) (by simp only [List.filterMap_cons, List.getElem?_toArray, List.getElem?_cons_zero, List.getElem?_cons_succ, List.filterMap_nil]; rfl) ⟨⟨_, HT.out⟩, rfl⟩ ?_
  generalize w2.drew = w3 at *
  (repeat (first | (with_reducible refine mix_read (by kernel_rfl) ?_; go_big_quiet_want; go_big_quiet_op; go_big_quiet_on; with_reducible refine wpQuiet_nil ?_) | (with_reducible refine mix_pass (by kernel_rfl) ?_; go_big_quiet_skip; with_reducible refine wpQuiet_nil ?_)))
  have HC1 : Hid (Below w2.heap.size w2 (w3.alloc (.cells ci 80))) := HT.out.alloc HT.out.size _
  refine mix_does (by kernel_rfl) (by kernel_rfl) (run_does (MS.out w3)) ⟨⟨_, HC1.out⟩, rfl⟩ ?_
  simp only [Act.put, List.setIfInBounds_toArray, List.set_cons_zero, List.set_cons_succ]
  (repeat (first | (with_reducible refine mix_read (by kernel_rfl) ?_; go_big_quiet_want; go_big_quiet_op; go_big_quiet_on; with_reducible refine wpQuiet_nil ?_) | (with_reducible refine mix_pass (by kernel_rfl) ?_; go_big_quiet_skip; with_reducible refine wpQuiet_nil ?_)))
  have HK1 : Hid ((w3.alloc (.cells ci 80)).heap[w3.heap.size]? = some (.cells ci 80 (0, 0)) ∧ (w3.alloc (.cells ci 80)).heap.size = w3.heap.size + 1) := ⟨blk_new _ _, by simp⟩
  generalize w3.alloc (.cells ci 80) = w4 at *
  have HS3 : Hid (W.heap.size ≤ w3.heap.size) := Nat.le_trans HB2.out.size HT.out.size
  generalize w3.heap.size = s3 at *
  have HC2 : Hid (Below w2.heap.size w2 (w4.alloc (.cells #[.slice o0 n0 c0, .slice o1 n1 c1, .slice o2 n2 c2, .slice o3 n3 c3, .slice (some ⟨s3, 0, none⟩) n3 n3] 91))) := HC1.out.alloc HC1.out.size _
  refine mix_does (v := .pointer (some ⟨w4.heap.size, 0, none⟩)) (w' := w4.alloc (.cells #[.slice o0 n0 c0, .slice o1 n1 c1, .slice o2 n2 c2, .slice o3 n3 c3, .slice (some ⟨s3, 0, none⟩) n3 n3] 91)) (by kernel_rfl) (by kernel_rfl) (by kernel_rfl) ⟨⟨_, HC2.out⟩, rfl⟩ ?_
  simp only [Act.put, List.setIfInBounds_toArray, List.set_cons_zero, List.set_cons_succ]
  (repeat (first | (with_reducible refine mix_read (by kernel_rfl) ?_; go_big_quiet_want; go_big_quiet_op; go_big_quiet_on; with_reducible refine wpQuiet_nil ?_) | (with_reducible refine mix_pass (by kernel_rfl) ?_; go_big_quiet_skip; with_reducible refine wpQuiet_nil ?_)))
  with_reducible refine mix_end ?_
  intro _
  clear y0 y1 y2 y3
  have HR := FIN.out _ w4.heap.size s3 (blk_new w4 _) (blk_old HK1.out.1) (by have := HK1.out.2; omega) (by have := HK1.out.2; have := HS3.out; omega) HS3.out (HB2.out.trans (HC2.out.mono HB2.out.size))
  have HRR := (show Hid _ from HR)
  clear HR
  go_wp2
  go_ret2
  exact ⟨_, s3, rfl, HRR.out, ⟨by have := HK1.out.2; have := HS3.out; omega, HS3.out⟩, HB2.out.trans (HC2.out.mono HB2.out.size)⟩
end Go.Proofs.YtceebimgfajbcaaGreatDoor

namespace Go.Proofs.YtceebimgfajbcaaGreatDoor
open Go.RowKit

theorem busy_of {rs : List RtV} {ss : List St} {k i : Nat} {a : Rt} {y : RtV} {t : St} (hy : rs[i]? = some y) (ht : ss[i]? = some t) (h0 : t.1 ≠ 0) (hc : confB k i a y.1 = true) (hne : i ≠ k) : busyB ss (wayF rs (0 + k) a).foes = true := by
  cases hb : busyB ss (wayF rs (0 + k) a).foes
  · have := busy_no.1 hb (i : Int) ((foes_mem _ _ _ _ _).2 ⟨i, y, hy, by omega, by simp only [Nat.zero_add]; simp [hne, hc]⟩)
    rw [stAt_at ht] at this
    exact absurd this h0
  · rfl
theorem busy_none {rs : List RtV} {ss : List St} {k : Nat} {a : Rt} (hl : ss.length = rs.length) (h : ∀ (i : Nat) (y : RtV) (t : St), rs[i]? = some y → ss[i]? = some t → t.1 ≠ 0 → confB k i a y.1 = false) : busyB ss (wayF rs (0 + k) a).foes = false := by
  refine busy_no.2 fun f hf => ?_
  obtain ⟨j, y, hy, rfl, hc⟩ := (foes_mem _ _ _ _ _).1 hf
  obtain ⟨t, ht⟩ := at_of (l := ss) (k := j) (by have := (List.getElem?_eq_some_iff.1 hy).1; omega)
  simp only [Nat.zero_add] at hc ⊢
  rw [stAt_at ht]
  by_cases h0 : t.1 = 0
  · exact h0
  · rw [Bool.and_eq_true] at hc
    rw [h j y t hy ht h0] at hc
    exact absurd hc.2 (by decide)
theorem atF_low {α : Type} (p : α → Bool) : ∀ (l : List α) (k : Nat), atF p l k = -1 ∨ 0 ≤ atF p l k
  | [], _ => .inl rfl
  | x :: l, k => by
    rw [atF]
    split
    · exact .inr (by omega)
    · exact atF_low p l (k + 1)
theorem bar_idle {pts : List Int} {rs : List RtV} {ss : List St} {occ : List Bool} {lies : List Int} {k : Nat} {s : St} (hs : ss[k]? = some s) (h0 : s.1 = 0) (n : Int × Bool) :
    barF pts (waysG rs rs 0) ss occ lies k n = (!rightF lies n && (occF occ (nthI pts n.1) || decide (0 ≤ holderF (waysG rs rs 0) ss (nthI pts n.1)))) := by
  have hk : holderF (waysG rs rs 0) ss (nthI pts n.1) ≠ (k : Int) := fun e => by
    obtain ⟨j, q, e1, hq, hp⟩ := at_get _ 0 k e
    rw [Nat.zero_add] at e1
    subst e1
    have := held_in hp
    have h1 := (List.getElem?_zip_eq_some.1 hq).2
    rw [hs] at h1
    rw [← Option.some.inj h1] at this
    exact this.1 h0
  have hd := atF_low (holdsB (nthI pts n.1)) ((waysG rs rs 0).zip ss) 0
  rw [← holderF] at hd
  rw [barF, mayMoveF]
  congr 1
  generalize holderF (waysG rs rs 0) ss (nthI pts n.1) = hh at *
  rw [Bool.not_and, Bool.not_not]
  congr 1
  rw [decide_eq_false hk, Bool.or_false]
  rcases hd with rfl | hd
  · rfl
  · rw [decide_eq_false (by omega), decide_eq_true hd]
    rfl

set_option maxRecDepth 1000000 in
set_option maxHeartbeats 32000000 in
theorem rlCall_any (w0 w : World) (v : Nat → Value) (l : Lay) (rs : List RtV) (xb rb : Nat) (ss : List St) (u : Nat → Value) (occ : List Bool) (lies : List Int) (k : Nat) (x : RtV) (m t g : Int) (b : Bool) (hL : LayRd w0 v l rs) (hcap : ∀ x ∈ rs, capOk x.2.1) (h : RfLk w0 w v l rs xb rb ss) (hin : InRd w0 u occ lies) (hlen : occ.length = l.sections.length ∧ lies.length = l.points.length) (hx : rs[k]? = some x) (hs : ss[k]? = some (m, t, g, b)) :
    Calls Tryz.prog 41 #[.pointer (some ⟨xb, 0, none⟩), .agg #[u 0, u 1], .int .i64 k] w fun e w' => e = .returned (.int .i64 (callF (l.points.map (·.2)) (waysG rs rs 0) ss occ lies k (wayF rs (0 + k) x.1) (m, t, g, b)).1) ∧ RfLk w0 w' v l rs xb rb (callF (l.points.map (·.2)) (waysG rs rs 0) ss occ lies k (wayF rs (0 + k) x.1) (m, t, g, b)).2 ∧ Chg (fun j => j = rb) w w' := by
  have hlr := h.len
  have hfew := h.ok.few
  rw [waysG_map, List.length_map] at hfew
  have hwy : ∀ (j : Nat) (x : RtV), rs[j]? = some x → WyOk l.sections.length (l.points.map (·.2)).length l.signals.length (wayF rs (0 + j) x.1) := fun j x hx => h.ok.ways _ (List.mem_of_getElem? (ways_at rs rs 0 j x hx))
  have few2 : ∀ (j : Nat) (x : RtV), rs[j]? = some x → x.1.path.length ≤ 1000000 ∧ x.1.points.length + x.1.flank.length ≤ 1000000 := fun j x hx => ⟨(hwy j x hx).few.1, by have := (hwy j x hx).few.2.1; rw [show (wayF rs (0 + j) x.1).needs = x.1.points ++ x.1.flank from rfl, List.length_append] at this; exact this⟩
  have HUP : Hid (∀ W, Below w.heap.size w W → Below w0.heap.size w0 W) := fun W hW => h.bl.trans (hW.mono h.bl.size)
  have HCL : Hid (∀ W, Below w.heap.size w W → Calls Tryz.prog 36 #[.agg #[v 0, v 1, v 2, v 3], .int .i64 k, .agg #[u 0, u 1]] W fun e w' => e = .returned (.bool (clearB occ x.1.path)) ∧ Below W.heap.size W w') := fun W hW => rfClear_any v l rs k x u occ lies W (hL.below (HUP.out W hW)) (hin.below (HUP.out W hW)) hx ⟨(hwy k x hx).few.1, by omega⟩ fun s hs => by rw [hlen.1]; exact (hwy k x hx).path s hs
  have HND : Hid (∀ W, Below w.heap.size w W → Calls Tryz.prog 44 #[.agg #[v 0, v 1, v 2, v 3], .int .i64 k] W fun e w' => ∃ u, e = .returned u ∧ rowAt w' u 2 nC (x.1.points ++ x.1.flank) ∧ Below W.heap.size W w') := fun W hW => rfNeeds_any v l rs k x W (hL.below (HUP.out W hW)) hx (few2 k x hx).2
  have HCF : Hid (∀ W, Below w.heap.size w W → ∀ (j : Nat) (y : RtV), rs[j]? = some y → Calls Tryz.prog 35 #[.agg #[v 0, v 1, v 2, v 3], .int .i64 k, .int .i64 j] W fun e w' => e = .returned (.bool (confB k j x.1 y.1)) ∧ Below W.heap.size W w') := fun W hW j y hy => rfConflict_any v l rs k j x y W (hL.below (HUP.out W hW)) hx hy (few2 k x hx) (few2 j y hy)
  have HHO : Hid (∀ W, Below w.heap.size w W → ∀ sec : Int, Calls Tryz.prog 45 #[.pointer (some ⟨xb, 0, none⟩), .int .i64 sec] W fun e w' => e = .returned (.int .i64 (holderF (waysG rs rs 0) ss sec)) ∧ Below W.heap.size W w') := fun W hW sec => rlHolder_any w0 W v l rs xb rb ss sec hL hcap (h.step hW)
  have HSEC : Hid (∀ (k : Nat) (pt : ByteArray × Int), l.points[k]? = some pt → (0 ≤ pt.2 ∧ pt.2 < (l.sections.length : Nat)) ∧ nthI (l.points.map (·.2)) k = pt.2) := fun k pt hk => ⟨h.ok.inn _ (List.mem_map.2 ⟨pt, List.mem_of_getElem? hk, rfl⟩), nthI_at (by rw [List.getElem?_map, hk]; rfl)⟩
  have HBO : Hid (∀ (i : Nat) (y : RtV) (t : St), rs[i]? = some y → ss[i]? = some t → t.1 ≠ 0 → confB k i x.1 y.1 = true → i ≠ k → busyB ss (wayF rs (0 + k) x.1).foes = true) := fun i y t hy ht h0 hc hne => busy_of hy ht h0 hc hne
  have HBN : Hid ((∀ (i : Nat) (y : RtV) (t : St), rs[i]? = some y → ss[i]? = some t → t.1 ≠ 0 → confB k i x.1 y.1 = false) → busyB ss (wayF rs (0 + k) x.1).foes = false) := fun hh => busy_none hlr hh
  have HBI : Hid (m = 0 → ∀ n, barF (l.points.map (·.2)) (waysG rs rs 0) ss occ lies k n = (!rightF lies n && (occF occ (nthI (l.points.map (·.2)) n.1) || decide (0 ≤ holderF (waysG rs rs 0) ss (nthI (l.points.map (·.2)) n.1))))) := fun h0 n => bar_idle hs h0 n
  have HF : Hid (callF (l.points.map (·.2)) (waysG rs rs 0) ss occ lies k (wayF rs (0 + k) x.1) (m, t, g, b) = if m = 0 then (if (busyB ss (wayF rs (0 + k) x.1).foes || (!clearB occ x.1.path || (x.1.points ++ x.1.flank).any (barF (l.points.map (·.2)) (waysG rs rs 0) ss occ lies k))) = true then (8, ss) else (0, ss.set k (1, 0, 0, false))) else (7, ss)) := rfl
  generalize callF (l.points.map (·.2)) (waysG rs rs 0) ss occ lies k (wayF rs (0 + k) x.1) (m, t, g, b) = ans at *
  have HR : Hid (RfLk w0 w v l rs xb rb ss) := h
  have HPUT : Hid (∀ W, Below w.heap.size w W → RfLk w0 (putR W rb k (1, 0, 0, false)) v l rs xb rb (ss.set k (1, 0, 0, false)) ∧ Chg (fun j => j = rb) W (putR W rb k (1, 0, 0, false))) := fun W hW => (h.step hW).put (List.getElem?_eq_some_iff.1 hs).1 fun n _ => by simp [mayBeF]
  have HNB : Hid (∀ s ∈ x.1.points ++ x.1.flank, 0 ≤ s.1 ∧ s.1 < (l.points.length : Nat)) := fun s hs => by have := (hwy k x hx).needs s hs; rw [List.length_map] at this; exact this
  have hcl := h.cells
  have hkn := (List.getElem?_eq_some_iff.1 hx).1
  have HST := (show Hid _ from hs)
  have hstk := h.stAt_ hs
  obtain ⟨o0, c0, e0, _⟩ := hL.s
  obtain ⟨o1, c1, e1, r1⟩ := hL.p
  obtain ⟨o2, c2, e2, _⟩ := hL.g
  obtain ⟨o3, c3, e3, _⟩ := hL.r
  have HPT := (show Hid _ from r1)
  obtain ⟨p0, d0, f0, q0⟩ := hin.o
  obtain ⟨p1, d1, f1, q1⟩ := hin.l
  have HOC := (show Hid _ from row_bool (w := w0) ⟨p0, d0, rfl, q0⟩)
  have HLI := (show Hid _ from row_int (w := w0) ⟨p1, d1, rfl, q1⟩)
  rw [e0, e1, e2, e3] at HCL HND HCF hcl
  rw [f0, f1, hlen.1, hlen.2] at HCL
  rw [f0, f1, hlen.1, hlen.2]
  have HLN : Hid (occ.length = l.sections.length ∧ lies.length = l.points.length ∧ ss.length = rs.length) := ⟨hlen.1, hlen.2, hlr⟩
  have hndl : (x.1.points ++ x.1.flank).length ≤ 1000000 := by rw [List.length_append]; exact (few2 k x hx).2
  have HNDL := (show Hid _ from hndl)
  clear hndl
  generalize x.1.points ++ x.1.flank = nd at *
  generalize clearB occ x.1.path = cl at *
  generalize busyB ss (wayF rs (0 + k) x.1).foes = bz at *
  generalize barF (l.points.map (·.2)) (waysG rs rs 0) ss occ lies k = bar at *
  generalize holderF (waysG rs rs 0) ss = hol at *
  generalize nthI (l.points.map (·.2)) = sct at *
  have HCLS := (show Hid _ from hcl)
  clear h hL hin hlen hwy few2 hx hs hcl r1 q0 q1 e0 e1 e2 e3 f0 f1 hlr hcap
  obtain ⟨n0, hz0⟩ : ∃ n, l.sections.length = n := ⟨_, rfl⟩
  obtain ⟨n1, hz1⟩ : ∃ n, l.points.length = n := ⟨_, rfl⟩
  obtain ⟨n2, hz2⟩ : ∃ n, l.signals.length = n := ⟨_, rfl⟩
  obtain ⟨n3, hz3⟩ : ∃ n, rs.length = n := ⟨_, rfl⟩
  have HZ : Hid (l.sections.length = n0 ∧ l.points.length = n1 ∧ rs.length = n3) := ⟨hz0, hz1, hz3⟩
  rw [hz0, hz1, hz2, hz3] at HCLS HCL HND HCF
  rw [hz0, hz1]
  rw [hz3] at hkn hfew
  clear hz0 hz1 hz2 hz3
  generalize hch : w.alloc (.cells #[.slice p0 n0 d0, .slice p1 n1 d1] 38) = w1
  have HB01 : Hid (Below w.heap.size w w1) := by show Below _ _ _; rw [← hch]; exact (Below.refl _ _).alloc (Nat.le_refl _) _
  have H1 : Hid (w1.heap[w.heap.size]? = some (.cells #[.slice p0 n0 d0, .slice p1 n1 d1] 38 (0, 0))) := by show _ = _; rw [← hch]; exact blk_new _ _
  have HUQ : Hid (∀ W, Below w1.heap.size w1 W → Below w.heap.size w W) := fun W hW => HB01.out.trans (hW.mono HB01.out.size)
  have hki : (k : Int) < (n3 : Int) := by omega
  have b0 := up_cell HB01.out hstk.1
  have q4 := up_cell HB01.out HCLS.out.2.2.2.2
  clear hstk
  go_enter Tryz.func41, Tryz.ntmps41
  by_cases hm : m = 0
  case neg =>
    have hm2 : (m != 0) = true := by simp [hm]
    go_wp2_with fail
    clear hch
    go_ret
    exact ⟨by rw [HF.out, if_neg hm]; rfl, by rw [HF.out, if_neg hm]; exact HR.out.step HB01.out, Chg.of_below HB01.out⟩
  subst hm
  have BAR := (show Hid _ from HBI.out rfl)
  have HF2 : Hid (ans = if (bz || (!cl || nd.any bar)) = true then (8, ss) else (0, ss.set k (1, 0, 0, false))) := by show _ = _; rw [HF.out, if_pos rfl]
  clear HF HBI
  go_wp2
  clear hch b0 q4
  go_loopg [7] n3 (fun gk i wr => ∃ j : Nat, gk = n3 - j ∧ i = .int .i64 j ∧ j ≤ n3 ∧ (∀ (i : Nat) (y : RtV) (t : St), i < j → rs[i]? = some y → ss[i]? = some t → t.1 ≠ 0 → confB k i x.1 y.1 = false) ∧ Below w1.heap.size w1 wr)
  case atStart => exact ⟨0, rfl, rfl, by omega, fun i y t hi => by omega, Below.refl _ _⟩
  case round =>
    obtain ⟨j, rfl, rfl, hj, hno, hb⟩ := hrel
    have HNO : Hid (∀ (i : Nat) (y : RtV) (t : St), i < j → rs[i]? = some y → ss[i]? = some t → t.1 ≠ 0 → confB k i x.1 y.1 = false) := hno
    have HBR : Hid (Below w1.heap.size w1 wr) := hb
    have HBW : Hid (Below w.heap.size w wr) := HUQ.out wr hb
    clear hno hb
    have q4 := up_cell HBW.out HCLS.out.2.2.2.2
    by_cases hlt : j < n3
    · have hji : (j : Int) < (n3 : Int) := by omega
      obtain ⟨y, hy⟩ := at_of (l := rs) (k := j) (by have := HZ.out.2.2; omega)
      obtain ⟨⟨m', t', g', b'⟩, hst⟩ := at_of (l := ss) (k := j) (by have := HLN.out.2.2; have := HZ.out.2.2; omega)
      obtain ⟨s0, -, -, -⟩ := (HR.out.step HBW.out).stAt_ hst
      have HY : Hid (rs[j]? = some y) := hy
      have HS : Hid (ss[j]? = some (m', t', g', b')) := hst
      clear hy hst
      by_cases hm : m' = 0
      · have hm2 : (m' != 0) = false := by simp [hm]
        have NX : Hid (∀ (i : Nat) (y : RtV) (t : St), i < j + 1 → rs[i]? = some y → ss[i]? = some t → t.1 ≠ 0 → confB k i x.1 y.1 = false) := fun i y2 t2 hi hy2 ht2 h0 => by
          by_cases hij : i < j
          · exact HNO.out i y2 t2 hij hy2 ht2 h0
          · obtain rfl : i = j := by omega
            rw [← Option.some.inj (HS.out.symm.trans ht2)] at h0
            exact absurd hm h0
        clear hm
        go_wp2_with fail
        go_roundg (n3 - (j + 1))
        case rel => exact ⟨j + 1, rfl, by go_num, by omega, NX.out, HBR.out⟩
        case measure => omega
      · have hm2 : (m' != 0) = true := by simp [hm]
        have HM : Hid (m' ≠ 0) := hm
        have D := HCF.out wr HBW.out j y HY.out
        generalize hbc : confB k j x.1 y.1 = bc at D
        have HBC : Hid (confB k j x.1 y.1 = bc) := hbc
        have q0 := up_cell HBW.out HCLS.out.1
        have q1 := up_cell HBW.out HCLS.out.2.1
        have q2 := up_cell HBW.out HCLS.out.2.2.1
        have q3 := up_cell HBW.out HCLS.out.2.2.2.1
        clear hm hbc
        go_wp2_with fail
        refine D.mono ?_
        rintro e w6 ⟨rfl, hb⟩
        have HB7 : Hid (Below w1.heap.size w1 w6) := HBR.out.trans (hb.mono HBR.out.size)
        clear hb D q0 q1 q2 q3 q4 s0
        cases bc
        · have NX : Hid (∀ (i : Nat) (y : RtV) (t : St), i < j + 1 → rs[i]? = some y → ss[i]? = some t → t.1 ≠ 0 → confB k i x.1 y.1 = false) := fun i y2 t2 hi hy2 ht2 h0 => by
            by_cases hij : i < j
            · exact HNO.out i y2 t2 hij hy2 ht2 h0
            · obtain rfl : i = j := by omega
              rw [← Option.some.inj (HY.out.symm.trans hy2)]
              exact HBC.out
          go_wp2
          go_roundg (n3 - (j + 1))
          case rel => exact ⟨j + 1, rfl, by go_num, by omega, NX.out, HB7.out⟩
          case measure => omega
        · have hbt : bz = true := HBO.out j y _ HY.out HS.out HM.out HBC.out fun e => by
            have h1 := HS.out
            rw [e, HST.out] at h1
            have := Option.some.inj h1
            injection this with h2 h3
            exact HM.out h2.symm
          have HE : Hid (ans = (8, ss)) := by show _ = _; rw [HF2.out, hbt]; rfl
          clear hbt
          go_wp2
          go_ret
          exact ⟨by rw [HE.out]; rfl, by rw [HE.out]; exact HR.out.step (HUQ.out _ HB7.out), Chg.of_below (HUQ.out _ HB7.out)⟩
    · have hji : ¬ (j : Int) < (n3 : Int) := by omega
      have hbf : bz = false := HBN.out fun i y t hy ht h0 => HNO.out i y t (by have := (List.getElem?_eq_some_iff.1 hy).1; have := HZ.out.2.2; omega) hy ht h0
      have HF3 : Hid (ans = if (!cl || nd.any bar) = true then (8, ss) else (0, ss.set k (1, 0, 0, false))) := by show _ = _; rw [HF2.out, hbf, Bool.false_or]
      clear hbf HNO HF2 HBO HBN
      have D := HND.out wr HBW.out
      have q0 := up_cell HBW.out HCLS.out.1
      have q1 := up_cell HBW.out HCLS.out.2.1
      have q2 := up_cell HBW.out HCLS.out.2.2.1
      have q3 := up_cell HBW.out HCLS.out.2.2.2.1
      go_wp2_with fail
      refine D.mono ?_
      rintro e w2 ⟨vn, rfl, hvn, hb⟩
      have HB2 : Hid (Below w1.heap.size w1 w2) := HBR.out.trans (hb.mono HBR.out.size)
      clear hb D q0 q1 q2 q3 q4 HBR HBW
      obtain ⟨on, cn, en, qn⟩ := hvn
      have HN := (show Hid _ from row_need (w := w2) ⟨on, cn, rfl, qn⟩)
      obtain ⟨nn, hnn⟩ : ∃ n, nd.length = n := ⟨_, rfl⟩
      rw [hnn] at en
      subst en
      have HNN : Hid (nd.length = nn) := hnn
      have hnl : nn ≤ 1000000 := by have := HNDL.out; omega
      clear qn hnn
      have HAN : Hid ((nd.drop 0).any bar = nd.any bar) := rfl
      generalize nd.any bar = ab at *
      go_wp2
      go_loopg [9] nn (fun gk i wr => ∃ j : Nat, gk = nn - j ∧ i = .int .i64 j ∧ j ≤ nn ∧ (nd.drop j).any bar = ab ∧ Below w2.heap.size w2 wr)
      case atStart => exact ⟨0, rfl, rfl, by omega, HAN.out, Below.refl _ _⟩
      case round =>
        clear hji hlt hj
        obtain ⟨j, rfl, rfl, hj, hc, hb⟩ := hrel
        have HC : Hid ((nd.drop j).any bar = ab) := hc
        have HBR : Hid (Below w2.heap.size w2 wr) := hb
        have HBS : Hid (Below w1.heap.size w1 wr) := HB2.out.trans (hb.mono HB2.out.size)
        have HBW : Hid (Below w.heap.size w wr) := HUQ.out wr HBS.out
        clear hb hc HAN
        by_cases hlt : j < nn
        · have hji : (j : Int) < (nn : Int) := by omega
          obtain ⟨⟨z, rv⟩, hz⟩ : ∃ z, nd[j]? = some z := at_of (by have := HNN.out; omega)
          obtain ⟨gp, fp, rfl, b0, b2⟩ := HN.out j _ hz
          have hzb := HNB.out _ (List.mem_of_getElem? hz)
          simp only at b0 b2 hzb
          obtain ⟨zk, rfl, hzk⟩ := nat_of (n := n1) (i := z) (by have := HZ.out.2.1; omega)
          obtain ⟨lv, hlv⟩ : ∃ lv, lies[zk]? = some lv := at_of (by have := HLN.out.2.1; have := HZ.out.2.1; omega)
          obtain ⟨⟨nm, sec⟩, hpt⟩ := at_of (l := l.points) (k := zk) (by have := HZ.out.2.1; omega)
          obtain ⟨hsb, hnth⟩ := HSEC.out zk _ hpt
          simp only at hsb hnth
          obtain ⟨sk, rfl, hsk⟩ := nat_of (n := n0) (i := sec) (by have := HZ.out.1; omega)
          obtain ⟨bo, hbo⟩ : ∃ bo, occ[sk]? = some bo := at_of (by have := HLN.out.1; have := HZ.out.1; omega)
          obtain ⟨go, fo, rfl, b3⟩ := HOC.out sk _ hbo
          obtain ⟨gl, fl, rfl, b4⟩ := HLI.out zk _ hlv
          obtain ⟨g1, f1, rfl, hcx⟩ := HPT.out zk _ hpt
          have b5 := hcx 1 _ rfl
          obtain ⟨i0, i1⟩ := cells2 (blk_below HBS.out H1.out)
          have CS : Hid ((nd.drop j).any bar = ((!decide (lv = posF rv) && (bo || decide (0 ≤ hol sk))) || (nd.drop (j + 1)).any bar)) := by
            show _ = _
            rw [drop_at hz, List.any_cons, BAR.out, rightF, lieF_at hlv, hnth, occF_at hbo]
          have hzi : (zk : Int) < (n1 : Int) := by omega
          have hsi : (sk : Int) < (n0 : Int) := by omega
          have HB0W : Hid (Below w0.heap.size w0 wr) := HUP.out wr HBW.out
          have y1 := ext_cell (up_cell HBW.out HCLS.out.2.1)
          have y2 := ext_cell (up_cell HBR.out b0)
          have y3 := ext_cell (up_cell HBR.out b2)
          have y4 := ext_cell (up_cell HB0W.out b5)
          haveI := ext_some wr
          have HBQ : Hid (Below wr.heap.size wr wr.drew) := (Below.refl _ _).drew
          have B0 := (show Hid _ from b0)
          have B2 := (show Hid _ from b2)
          have B3 := (show Hid _ from b3)
          have B4 := (show Hid _ from b4)
          have I01 : Hid (wr.cell? ⟨w.heap.size, 0, none⟩ = some (.slice (some ⟨go, fo, none⟩) n0 d0) ∧ wr.cell? ⟨w.heap.size, 1, none⟩ = some (.slice (some ⟨gl, fl, none⟩) n1 d1)) := ⟨i0, i1⟩
          clear hz hzb hlv hpt hsb hnth hbo hcx b0 b2 b3 b4 b5 i0 i1
          go_wp2_with fail
          refine wp_region_mix_seq (C := fun W => ∃ y : Ext wr, W = y.z) [0, 1, 2, 3, 4, 5, 6, 7, 8, 9, 10, 11, 12, 13] (by kernel_rfl) (by kernel_rfl) (by kernel_rfl) (by kernel_rfl) (by simp only [List.filterMap_cons, List.getElem?_toArray, List.getElem?_cons_zero, List.getElem?_cons_succ, List.filterMap_nil]; rfl) ⟨⟨_, HBQ.out⟩, rfl⟩ ?_
          (repeat (first | (with_reducible refine mix_read (by kernel_rfl) ?_; go_big_quiet_want; go_big_quiet_op; go_big_quiet_on; with_reducible refine wpQuiet_nil ?_) | (with_reducible refine mix_pass (by kernel_rfl) ?_; go_big_quiet_skip; with_reducible refine wpQuiet_nil ?_)))
          with_reducible refine mix_end ?_
          intro _
          clear y1 y2 y3 y4
          have HBX : Hid (Below wr.heap.size wr wr.drew) := HBQ.out
          generalize wr.drew = wx at *
          have HCX : Hid (Below w2.heap.size w2 wx) := HBR.out.trans (HBX.out.mono HBR.out.size)
          have HBY : Hid (Below w.heap.size w wx) := HBW.out.trans (HBX.out.mono HBW.out.size)
          have HB0Y : Hid (Below w0.heap.size w0 wx) := HUP.out wx HBY.out
          have y1 := ext_cell (up_cell HBX.out I01.out.1)
          have y2 := ext_cell (up_cell HBX.out I01.out.2)
          have y3 := ext_cell (up_cell HCX.out B0.out)
          have y4 := ext_cell (up_cell HCX.out B2.out)
          have y5 := ext_cell (up_cell HB0Y.out B3.out)
          have y6 := ext_cell (up_cell HB0Y.out B4.out)
          haveI := ext_some wx
          have HBQ2 : Hid (Below wx.heap.size wx wx.drew) := (Below.refl _ _).drew
          obtain ⟨ps, hps⟩ : ∃ p, posF rv = p := ⟨_, rfl⟩
          have HPS : Hid (posF rv = ps) := hps
          clear hps
          by_cases hbp : lv = ps
          · have hne : (lv != ps) = false := by simp [hbp]
            have NX : Hid ((nd.drop (j + 1)).any bar = ab) := by show _ = _; rw [← HC.out, CS.out, HPS.out, hbp]; simp
            clear hbp
            go_wp2_with fail
            refine wp_region_mix_seq (C := fun W => ∃ y : Ext wx, W = y.z) [0, 1, 2, 3, 4, 5, 6, 7, 8, 9, 10, 11, 12, 13, 14, 15, 16, 17, 18, 19, 20, 21, 22, 23, 24, 25, 26, 27] (by kernel_rfl) (by kernel_rfl) (by kernel_rfl) (by kernel_rfl) (by simp only [List.filterMap_cons, List.getElem?_toArray, List.getElem?_cons_zero, List.getElem?_cons_succ, List.filterMap_nil]; rfl) ⟨⟨_, HBQ2.out⟩, rfl⟩ ?_
            generalize wx.drew = wd at *
            (repeat (first | (with_reducible refine mix_read (by kernel_rfl) ?_; go_big_quiet_want; go_big_quiet_op; go_big_quiet_on; with_reducible refine wpQuiet_nil ?_) | (with_reducible refine mix_pass (by kernel_rfl) ?_; go_big_quiet_skip; with_reducible refine wpQuiet_nil ?_)))
            with_reducible refine mix_call (by kernel_rfl) (by kernel_rfl) ((rfSide_any (zk : Int) rv wd).mono ?_) (by kernel_rfl)
            rintro e w6 ⟨rfl, hb⟩
            rw [HPS.out]
            have HB7 : Hid (Below wx.heap.size wx w6) := HBQ2.out.trans (hb.mono HBQ2.out.size)
            clear hb
            refine ⟨_, rfl, ⟨⟨_, HB7.out⟩, rfl⟩, ?_⟩
            simp only [Act.put, List.setIfInBounds_toArray, List.set_cons_zero, List.set_cons_succ]
            (repeat (first | (with_reducible refine mix_read (by kernel_rfl) ?_; go_big_quiet_want; go_big_quiet_op; go_big_quiet_on; with_reducible refine wpQuiet_nil ?_) | (with_reducible refine mix_pass (by kernel_rfl) ?_; go_big_quiet_skip; with_reducible refine wpQuiet_nil ?_)))
            with_reducible refine mix_end ?_
            intro _
            clear y1 y2 y3 y4 y5 y6
            go_wp2
            go_roundg (nn - (j + 1))
            case rel => exact ⟨j + 1, rfl, by go_num, by omega, NX.out, HCX.out.trans (HB7.out.mono HCX.out.size)⟩
            case measure => omega
          · have hne : (lv != ps) = true := by simp [hbp]
            have CT : Hid (((bo || decide (0 ≤ hol sk)) || (nd.drop (j + 1)).any bar) = ab) := by show _ = _; rw [← HC.out, CS.out, HPS.out, decide_eq_false hbp]; simp
            clear hbp
            cases bo
            · have DH := (show Hid _ from HHO.out)
              obtain ⟨hv, hhv⟩ : ∃ h, hol sk = h := ⟨_, rfl⟩
              have HHV : Hid (hol sk = hv) := hhv
              clear hhv
              by_cases hh0 : 0 ≤ hv
              · have HAB : Hid (ab = true) := by show _ = _; rw [← CT.out, HHV.out, decide_eq_true hh0]; rfl
                go_wp2_with fail
                refine wp_region_mix_seq (C := fun W => ∃ y : Ext wx, W = y.z) [0, 1, 2, 3, 4, 5, 6, 7, 8, 9, 10, 11, 12, 13, 14, 15, 16, 17, 18, 19, 20, 21, 22, 23, 24, 25, 26, 27] (by kernel_rfl) (by kernel_rfl) (by kernel_rfl) (by kernel_rfl) (by simp only [List.filterMap_cons, List.getElem?_toArray, List.getElem?_cons_zero, List.getElem?_cons_succ, List.filterMap_nil]; rfl) ⟨⟨_, HBQ2.out⟩, rfl⟩ ?_
                generalize wx.drew = wd at *
                (repeat (first | (with_reducible refine mix_read (by kernel_rfl) ?_; go_big_quiet_want; go_big_quiet_op; go_big_quiet_on; with_reducible refine wpQuiet_nil ?_) | (with_reducible refine mix_pass (by kernel_rfl) ?_; go_big_quiet_skip; with_reducible refine wpQuiet_nil ?_)))
                with_reducible refine mix_call (by kernel_rfl) (by kernel_rfl) ((rfSide_any (zk : Int) rv wd).mono ?_) (by kernel_rfl)
                rintro e w6 ⟨rfl, hb⟩
                rw [HPS.out]
                have HB7 : Hid (Below wx.heap.size wx w6) := HBQ2.out.trans (hb.mono HBQ2.out.size)
                clear hb
                refine ⟨_, rfl, ⟨⟨_, HB7.out⟩, rfl⟩, ?_⟩
                simp only [Act.put, List.setIfInBounds_toArray, List.set_cons_zero, List.set_cons_succ]
                (repeat (first | (with_reducible refine mix_read (by kernel_rfl) ?_; go_big_quiet_want; go_big_quiet_op; go_big_quiet_on; with_reducible refine wpQuiet_nil ?_) | (with_reducible refine mix_pass (by kernel_rfl) ?_; go_big_quiet_skip; with_reducible refine wpQuiet_nil ?_)))
                with_reducible refine mix_call (by kernel_rfl) (by kernel_rfl) ((DH.out w6 (HBY.out.trans (HB7.out.mono HBY.out.size)) (sk : Int)).mono ?_) (by kernel_rfl)
                rintro e w7 ⟨rfl, hb⟩
                rw [HHV.out]
                have HB8 : Hid (Below wx.heap.size wx w7) := HB7.out.trans (hb.mono HB7.out.size)
                clear hb
                refine ⟨_, rfl, ⟨⟨_, HB8.out⟩, rfl⟩, ?_⟩
                simp only [Act.put, List.setIfInBounds_toArray, List.set_cons_zero, List.set_cons_succ]
                (repeat (first | (with_reducible refine mix_read (by kernel_rfl) ?_; go_big_quiet_want; go_big_quiet_op; go_big_quiet_on; with_reducible refine wpQuiet_nil ?_) | (with_reducible refine mix_pass (by kernel_rfl) ?_; go_big_quiet_skip; with_reducible refine wpQuiet_nil ?_)))
                with_reducible refine mix_end ?_
                intro _
                clear y1 y2 y3 y4 y5 y6
                have HE : Hid (ans = (8, ss)) := by show _ = _; rw [HF3.out, HAB.out]; simp
                go_wp2
                go_ret
                exact ⟨by rw [HE.out]; rfl, by rw [HE.out]; exact HR.out.step (HBY.out.trans (HB8.out.mono HBY.out.size)), Chg.of_below (HBY.out.trans (HB8.out.mono HBY.out.size))⟩
              · have NX : Hid ((nd.drop (j + 1)).any bar = ab) := by show _ = _; rw [← CT.out, HHV.out, decide_eq_false hh0]; simp
                go_wp2_with fail
                refine wp_region_mix_seq (C := fun W => ∃ y : Ext wx, W = y.z) [0, 1, 2, 3, 4, 5, 6, 7, 8, 9, 10, 11, 12, 13, 14, 15, 16, 17, 18, 19, 20, 21, 22, 23, 24, 25, 26, 27] (by kernel_rfl) (by kernel_rfl) (by kernel_rfl) (by kernel_rfl) (by simp only [List.filterMap_cons, List.getElem?_toArray, List.getElem?_cons_zero, List.getElem?_cons_succ, List.filterMap_nil]; rfl) ⟨⟨_, HBQ2.out⟩, rfl⟩ ?_
                generalize wx.drew = wd at *
                (repeat (first | (with_reducible refine mix_read (by kernel_rfl) ?_; go_big_quiet_want; go_big_quiet_op; go_big_quiet_on; with_reducible refine wpQuiet_nil ?_) | (with_reducible refine mix_pass (by kernel_rfl) ?_; go_big_quiet_skip; with_reducible refine wpQuiet_nil ?_)))
                with_reducible refine mix_call (by kernel_rfl) (by kernel_rfl) ((rfSide_any (zk : Int) rv wd).mono ?_) (by kernel_rfl)
                rintro e w6 ⟨rfl, hb⟩
                rw [HPS.out]
                have HB7 : Hid (Below wx.heap.size wx w6) := HBQ2.out.trans (hb.mono HBQ2.out.size)
                clear hb
                refine ⟨_, rfl, ⟨⟨_, HB7.out⟩, rfl⟩, ?_⟩
                simp only [Act.put, List.setIfInBounds_toArray, List.set_cons_zero, List.set_cons_succ]
                (repeat (first | (with_reducible refine mix_read (by kernel_rfl) ?_; go_big_quiet_want; go_big_quiet_op; go_big_quiet_on; with_reducible refine wpQuiet_nil ?_) | (with_reducible refine mix_pass (by kernel_rfl) ?_; go_big_quiet_skip; with_reducible refine wpQuiet_nil ?_)))
                with_reducible refine mix_call (by kernel_rfl) (by kernel_rfl) ((DH.out w6 (HBY.out.trans (HB7.out.mono HBY.out.size)) (sk : Int)).mono ?_) (by kernel_rfl)
                rintro e w7 ⟨rfl, hb⟩
                rw [HHV.out]
                have HB8 : Hid (Below wx.heap.size wx w7) := HB7.out.trans (hb.mono HB7.out.size)
                clear hb
                refine ⟨_, rfl, ⟨⟨_, HB8.out⟩, rfl⟩, ?_⟩
                simp only [Act.put, List.setIfInBounds_toArray, List.set_cons_zero, List.set_cons_succ]
                (repeat (first | (with_reducible refine mix_read (by kernel_rfl) ?_; go_big_quiet_want; go_big_quiet_op; go_big_quiet_on; with_reducible refine wpQuiet_nil ?_) | (with_reducible refine mix_pass (by kernel_rfl) ?_; go_big_quiet_skip; with_reducible refine wpQuiet_nil ?_)))
                with_reducible refine mix_end ?_
                intro _
                clear y1 y2 y3 y4 y5 y6
                go_wp2
                go_roundg (nn - (j + 1))
                case rel => exact ⟨j + 1, rfl, by go_num, by omega, NX.out, HCX.out.trans (HB8.out.mono HCX.out.size)⟩
                case measure => omega
            · have HAB : Hid (ab = true) := by show _ = _; rw [← CT.out]; simp
              go_wp2_with fail
              refine wp_region_mix_seq (C := fun W => ∃ y : Ext wx, W = y.z) [0, 1, 2, 3, 4, 5, 6, 7, 8, 9, 10, 11, 12, 13, 14, 15, 16, 17, 18, 19, 20, 21, 22, 23, 24, 25, 26, 27] (by kernel_rfl) (by kernel_rfl) (by kernel_rfl) (by kernel_rfl) (by simp only [List.filterMap_cons, List.getElem?_toArray, List.getElem?_cons_zero, List.getElem?_cons_succ, List.filterMap_nil]; rfl) ⟨⟨_, HBQ2.out⟩, rfl⟩ ?_
              generalize wx.drew = wd at *
              (repeat (first | (with_reducible refine mix_read (by kernel_rfl) ?_; go_big_quiet_want; go_big_quiet_op; go_big_quiet_on; with_reducible refine wpQuiet_nil ?_) | (with_reducible refine mix_pass (by kernel_rfl) ?_; go_big_quiet_skip; with_reducible refine wpQuiet_nil ?_)))
              with_reducible refine mix_call (by kernel_rfl) (by kernel_rfl) ((rfSide_any (zk : Int) rv wd).mono ?_) (by kernel_rfl)
              rintro e w6 ⟨rfl, hb⟩
              rw [HPS.out]
              have HB7 : Hid (Below wx.heap.size wx w6) := HBQ2.out.trans (hb.mono HBQ2.out.size)
              clear hb
              refine ⟨_, rfl, ⟨⟨_, HB7.out⟩, rfl⟩, ?_⟩
              simp only [Act.put, List.setIfInBounds_toArray, List.set_cons_zero, List.set_cons_succ]
              (repeat (first | (with_reducible refine mix_read (by kernel_rfl) ?_; go_big_quiet_want; go_big_quiet_op; go_big_quiet_on; with_reducible refine wpQuiet_nil ?_) | (with_reducible refine mix_pass (by kernel_rfl) ?_; go_big_quiet_skip; with_reducible refine wpQuiet_nil ?_)))
              with_reducible refine mix_end ?_
              intro _
              clear y1 y2 y3 y4 y5 y6
              have HE : Hid (ans = (8, ss)) := by show _ = _; rw [HF3.out, HAB.out]; simp
              go_wp2
              go_ret
              exact ⟨by rw [HE.out]; rfl, by rw [HE.out]; exact HR.out.step (HBY.out.trans (HB7.out.mono HBY.out.size)), Chg.of_below (HBY.out.trans (HB7.out.mono HBY.out.size))⟩
        · have hji : ¬ (j : Int) < (nn : Int) := by omega
          have hab : ab = false := by rw [← HC.out, List.drop_of_length_le (by have := HNN.out; omega)]; rfl
          have HF4 : Hid (ans = if (!cl) = true then (8, ss) else (0, ss.set k (1, 0, 0, false))) := by show _ = _; rw [HF3.out, hab, Bool.or_false]
          clear hab HC HF3
          obtain ⟨i0, i1⟩ := cells2 (blk_below HBS.out H1.out)
          have y0 := ext_cell (up_cell HBW.out HCLS.out.1)
          have y1 := ext_cell (up_cell HBW.out HCLS.out.2.1)
          have y2 := ext_cell (up_cell HBW.out HCLS.out.2.2.1)
          have y3 := ext_cell (up_cell HBW.out HCLS.out.2.2.2.1)
          have y4 := ext_cell i0
          have y5 := ext_cell i1
          haveI := ext_some wr
          have HBQ : Hid (Below wr.heap.size wr wr.drew) := (Below.refl _ _).drew
          clear i0 i1
          go_wp2_with fail
          refine wp_region_mix_seq (C := fun W => ∃ y : Ext wr, W = y.z) [0, 1, 2, 3, 4, 5, 6, 7] (by kernel_rfl) (by kernel_rfl) (by kernel_rfl) (by kernel_rfl) (by simp only [List.filterMap_cons, List.getElem?_toArray, List.getElem?_cons_zero, List.getElem?_cons_succ, List.filterMap_nil]; rfl) ⟨⟨_, HBQ.out⟩, rfl⟩ ?_
          generalize wr.drew = wd at *
          (repeat (first | (with_reducible refine mix_read (by kernel_rfl) ?_; go_big_quiet_want; go_big_quiet_op; go_big_quiet_on; with_reducible refine wpQuiet_nil ?_) | (with_reducible refine mix_pass (by kernel_rfl) ?_; go_big_quiet_skip; with_reducible refine wpQuiet_nil ?_)))
          with_reducible refine mix_call (by kernel_rfl) (by kernel_rfl) ((HCL.out _ (HBW.out.trans (HBQ.out.mono HBW.out.size))).mono ?_) (by kernel_rfl)
          rintro e w6 ⟨rfl, hb⟩
          have HB7 : Hid (Below wr.heap.size wr w6) := HBQ.out.trans (hb.mono HBQ.out.size)
          clear hb
          refine ⟨_, rfl, ⟨⟨_, HB7.out⟩, rfl⟩, ?_⟩
          simp only [Act.put, List.setIfInBounds_toArray, List.set_cons_zero, List.set_cons_succ]
          (repeat (first | (with_reducible refine mix_read (by kernel_rfl) ?_; go_big_quiet_want; go_big_quiet_op; go_big_quiet_on; with_reducible refine wpQuiet_nil ?_) | (with_reducible refine mix_pass (by kernel_rfl) ?_; go_big_quiet_skip; with_reducible refine wpQuiet_nil ?_)))
          with_reducible refine mix_end ?_
          intro _
          clear y0 y1 y2 y3 y4 y5
          have HB8 : Hid (Below w.heap.size w w6) := HBW.out.trans (HB7.out.mono HBW.out.size)
          cases cl
          · have HE : Hid (ans = (8, ss)) := by show _ = _; rw [HF4.out]; rfl
            go_wp2
            go_ret
            exact ⟨by rw [HE.out]; rfl, by rw [HE.out]; exact HR.out.step HB8.out, Chg.of_below HB8.out⟩
          · have HE : Hid (ans = (0, ss.set k (1, 0, 0, false))) := by show _ = _; rw [HF4.out]; rfl
            have q4 := up_cell HB8.out HCLS.out.2.2.2.2
            have HR6 := HR.out.step HB8.out
            obtain ⟨s0, s1, s2, s3⟩ := HR6.stAt_ HST.out
            have z0 := HR6.fz (k * 4)
            have z1 := HR6.fz (k * 4 + 1)
            have z2 := HR6.fz (k * 4 + 2)
            have z3 := HR6.fz (k * 4 + 3)
            have HP : Hid (RfLk w0 (putR w6 rb k (1, 0, 0, false)) v l rs xb rb (ss.set k (1, 0, 0, false)) ∧ Chg (fun j => j = rb) w (putR w6 rb k (1, 0, 0, false))) := ⟨(HPUT.out w6 HB8.out).1, (Chg.of_below HB8.out).trans (HPUT.out w6 HB8.out).2⟩
            clear HR6
            go_wp2
            go_ret
            exact ⟨by rw [HE.out]; rfl, by rw [HE.out]; exact HP.out.1, HP.out.2⟩
end Go.Proofs.YtceebimgfajbcaaGreatDoor

namespace Go.Proofs.YtceebimgfajbcaaGreatDoor
open Go.RowKit

set_option maxRecDepth 1000000 in
set_option maxHeartbeats 32000000 in
theorem rlCmd_any (w0 w : World) (v : Nat → Value) (l : Lay) (rs : List RtV) (xb rb : Nat) (ss : List St) (u : Nat → Value) (occ : List Bool) (lies : List Int) (kind r : Int) (hL : LayRd w0 v l rs) (hcap : ∀ x ∈ rs, capOk x.2.1) (h : RfLk w0 w v l rs xb rb ss) (hin : InRd w0 u occ lies) (hl : lies.length ≤ 4294967296) :
    Calls Tryz.prog 19 #[.pointer (some ⟨xb, 0, none⟩), .agg #[u 0, u 1], .agg #[.int .i64 kind, .int .i64 r]] w fun e w' => e = .returned (.int .i64 (cmdG l rs ss occ lies kind r).1) ∧ RfLk w0 w' v l rs xb rb (cmdG l rs ss occ lies kind r).2 ∧ Chg (fun j => j = rb) w w' := by
  have hlr := h.len
  have hfew := h.ok.few.2.2.2
  rw [waysG_map] at hfew
  have HUP : Hid (∀ W, Below w.heap.size w W → Below w0.heap.size w0 W) := fun W hW => h.bl.trans (hW.mono h.bl.size)
  have HMI : Hid (∀ W, Below w.heap.size w W → Calls Tryz.prog 12 #[.agg #[v 0, v 1, v 2, v 3], .agg #[u 0, u 1]] W fun e w' => e = .returned (.bool (inB2 occ lies l.sections.length l.points.length)) ∧ Below W.heap.size W w') := fun W hW => rfMayIn_any v l rs u occ lies W (hL.below (HUP.out W hW)) (hin.below (HUP.out W hW)) hl
  have HCA : Hid (inB2 occ lies l.sections.length l.points.length = true → ∀ W, Below w.heap.size w W → ∀ (k : Nat) (x : RtV) (m t g : Int) (b : Bool), rs[k]? = some x → ss[k]? = some (m, t, g, b) → Calls Tryz.prog 41 #[.pointer (some ⟨xb, 0, none⟩), .agg #[u 0, u 1], .int .i64 k] W fun e w' => e = .returned (.int .i64 (callF (l.points.map (·.2)) (waysG rs rs 0) ss occ lies k (wayF rs (0 + k) x.1) (m, t, g, b)).1) ∧ RfLk w0 w' v l rs xb rb (callF (l.points.map (·.2)) (waysG rs rs 0) ss occ lies k (wayF rs (0 + k) x.1) (m, t, g, b)).2 ∧ Chg (fun j => j = rb) W w') := fun hb W hW k x m t g b hx hs => rlCall_any w0 W v l rs xb rb ss u occ lies k x m t g b hL hcap (h.step hW) hin (by
    rw [inB2, Bool.and_eq_true, Bool.and_eq_true, decide_eq_true_eq, decide_eq_true_eq] at hb
    omega) hx hs
  have HF1 : Hid (inB2 occ lies l.sections.length l.points.length = false ∨ ¬ (kind = 1 ∨ kind = 2) → cmdG l rs ss occ lies kind r = (1, ss)) := fun hb => by
    rw [cmdG, cmdF, if_pos (by rw [List.length_map, Bool.or_eq_true]; rcases hb with hb | hb; exact .inl (by rw [hb]; rfl); exact .inr (by simp [hb]))]
  have HF5 : Hid (inB2 occ lies l.sections.length l.points.length = true → (kind = 1 ∨ kind = 2) → (r < 0 ∨ (rs.length : Int) ≤ r) → cmdG l rs ss occ lies kind r = (5, ss)) := fun hb hk hr => by
    rw [cmdG, cmdF, if_neg (by rw [List.length_map, hb]; simp [hk]), if_pos (by rw [waysG_map]; exact hr)]
  have HFC : Hid (inB2 occ lies l.sections.length l.points.length = true → (kind = 1 ∨ kind = 2) → ∀ (k : Nat) (x : RtV) (s : St), r = (k : Int) → rs[k]? = some x → ss[k]? = some s → cmdG l rs ss occ lies kind r = if kind = 1 then callF (l.points.map (·.2)) (waysG rs rs 0) ss occ lies k (wayF rs (0 + k) x.1) s else cancelF ss k s) := fun hb hk k x s hr hx hs => by
    have hlt := (List.getElem?_eq_some_iff.1 hx).1
    rw [cmdG, cmdF, if_neg (by rw [List.length_map, hb]; simp [hk]), if_neg (by rw [waysG_map]; omega), hr, Int.toNat_natCast, ways_at rs rs 0 k x hx, hs]
  generalize cmdG l rs ss occ lies kind r = ans at *
  have HR : Hid (RfLk w0 w v l rs xb rb ss) := h
  have HPUT : Hid (∀ W, Below w.heap.size w W → ∀ (k : Nat) (s : St), k < ss.length → (∀ n, 0 < n → mayBeF s n = true) → RfLk w0 (putR W rb k s) v l rs xb rb (ss.set k s) ∧ Chg (fun j => j = rb) w (putR W rb k s)) := fun W hW k s hk hs => ⟨((h.step hW).put hk hs).1, (Chg.of_below hW).trans ((h.step hW).put hk hs).2⟩
  have hcl := h.cells
  obtain ⟨o0, c0, e0, _⟩ := hL.s
  obtain ⟨o1, c1, e1, _⟩ := hL.p
  obtain ⟨o2, c2, e2, _⟩ := hL.g
  obtain ⟨o3, c3, e3, _⟩ := hL.r
  obtain ⟨p0, d0, f0, _⟩ := hin.o
  obtain ⟨p1, d1, f1, _⟩ := hin.l
  rw [e0, e1, e2, e3] at HMI hcl
  rw [f0, f1] at HMI HCA ⊢
  have HLN : Hid (ss.length = rs.length) := hlr
  have HCLS := (show Hid _ from hcl)
  clear h hL hin hcl e0 e1 e2 e3 f0 f1 hlr hcap hl
  generalize inB2 occ lies l.sections.length l.points.length = bi at *
  generalize occ.length = m0 at *
  generalize lies.length = m1 at *
  generalize l.sections.length = n0 at *
  generalize l.points.length = n1 at *
  generalize l.signals.length = n2 at *
  obtain ⟨n3, hz3⟩ : ∃ n, rs.length = n := ⟨_, rfl⟩
  have HZ : Hid (rs.length = n3) := hz3
  rw [hz3] at HCLS hfew HMI
  clear hz3
  generalize hch : (w.alloc (.cells #[.slice p0 m0 d0, .slice p1 m1 d1] 38)).alloc (.cells #[.int .i64 kind, .int .i64 r] 40) = w1
  have HB01 : Hid (Below w.heap.size w w1) := by show Below _ _ _; rw [← hch]; exact (by repeat' (with_reducible first | exact Below.refl _ _ | refine Below.drew ?_ | refine _root_.Go.below_drewN ?_ _ | refine Below.alloc ?_ ?_ _ | refine Below.setCell ?_ ?_ _ | exact Nat.le_refl _ | (simp; done) | (simp; omega)))
  have H1 : Hid (w1.heap[w.heap.size]? = some (.cells #[.slice p0 m0 d0, .slice p1 m1 d1] 38 (0, 0))) := by show _ = _; rw [← hch]; exact blk_old (blk_new _ _)
  have H2 : Hid (w1.heap[w.heap.size + 1]? = some (.cells #[.int .i64 kind, .int .i64 r] 40 (0, 0))) := by show _ = _; rw [← hch]; exact blk_at1 _ _ _
  have HUQ : Hid (∀ W, Below w1.heap.size w1 W → Below w.heap.size w W) := fun W hW => HB01.out.trans (hW.mono HB01.out.size)
  have HBQ : Hid (Below w1.heap.size w1 w1.drew) := (Below.refl _ _).drew
  obtain ⟨i0, i1⟩ := cells2 H1.out
  obtain ⟨j0, j1⟩ := cells2 H2.out
  have y0 := ext_cell (up_cell HB01.out HCLS.out.1)
  have y1 := ext_cell (up_cell HB01.out HCLS.out.2.1)
  have y2 := ext_cell (up_cell HB01.out HCLS.out.2.2.1)
  have y3 := ext_cell (up_cell HB01.out HCLS.out.2.2.2.1)
  have y4 := ext_cell i0
  have y5 := ext_cell i1
  have y6 := ext_cell j0
  haveI := ext_some w1
  go_enter Tryz.func19, Tryz.ntmps19
  clear i0 i1 j0 j1
  cases bi
  · have HE : Hid (ans = (1, ss)) := HF1.out (.inl rfl)
    go_wp2_with fail
    clear hch
    refine wp_region_mix_seq (C := fun W => ∃ y : Ext w1, W = y.z) [0, 1, 2, 3, 4, 5, 6, 7, 8, 9, 10, 11, 12, 13, 14, 15, 16, 17] (by kernel_rfl) (by kernel_rfl) (by kernel_rfl) (by kernel_rfl) (by simp only [List.filterMap_cons, List.getElem?_toArray, List.getElem?_cons_zero, List.getElem?_cons_succ, List.filterMap_nil]; rfl) ⟨⟨_, HBQ.out⟩, rfl⟩ ?_
    generalize w1.drew = wd at *
    (repeat (first | (with_reducible refine mix_read (by kernel_rfl) ?_; go_big_quiet_want; go_big_quiet_op; go_big_quiet_on; with_reducible refine wpQuiet_nil ?_) | (with_reducible refine mix_pass (by kernel_rfl) ?_; go_big_quiet_skip; with_reducible refine wpQuiet_nil ?_)))
    with_reducible refine mix_call (by kernel_rfl) (by kernel_rfl) ((HMI.out wd (HUQ.out wd HBQ.out)).mono ?_) (by kernel_rfl)
    rintro e w2 ⟨rfl, hb⟩
    have HB2 : Hid (Below w1.heap.size w1 w2) := HBQ.out.trans (hb.mono HBQ.out.size)
    clear hb
    refine ⟨_, rfl, ⟨⟨_, HB2.out⟩, rfl⟩, ?_⟩
    simp only [Act.put, List.setIfInBounds_toArray, List.set_cons_zero, List.set_cons_succ]
    (repeat (first | (with_reducible refine mix_read (by kernel_rfl) ?_; go_big_quiet_want; go_big_quiet_op; go_big_quiet_on; with_reducible refine wpQuiet_nil ?_) | (with_reducible refine mix_pass (by kernel_rfl) ?_; go_big_quiet_skip; with_reducible refine wpQuiet_nil ?_)))
    with_reducible refine mix_end ?_
    intro _
    clear y0 y1 y2 y3 y4 y5 y6
    go_wp2
    go_ret
    exact ⟨by rw [HE.out]; rfl, by rw [HE.out]; exact HR.out.step (HUQ.out _ HB2.out), Chg.of_below (HUQ.out _ HB2.out)⟩
  by_cases hk12 : kind = 1 ∨ kind = 2
  case neg =>
    have hk1 : (kind != 1) = true := by simp; omega
    have hk2 : (kind != 2) = true := by simp; omega
    have HE : Hid (ans = (1, ss)) := HF1.out (.inr hk12)
    clear hk12
    go_wp2_with fail
    clear hch
    refine wp_region_mix_seq (C := fun W => ∃ y : Ext w1, W = y.z) [0, 1, 2, 3, 4, 5, 6, 7, 8, 9, 10, 11, 12, 13, 14, 15, 16, 17] (by kernel_rfl) (by kernel_rfl) (by kernel_rfl) (by kernel_rfl) (by simp only [List.filterMap_cons, List.getElem?_toArray, List.getElem?_cons_zero, List.getElem?_cons_succ, List.filterMap_nil]; rfl) ⟨⟨_, HBQ.out⟩, rfl⟩ ?_
    generalize w1.drew = wd at *
    (repeat (first | (with_reducible refine mix_read (by kernel_rfl) ?_; go_big_quiet_want; go_big_quiet_op; go_big_quiet_on; with_reducible refine wpQuiet_nil ?_) | (with_reducible refine mix_pass (by kernel_rfl) ?_; go_big_quiet_skip; with_reducible refine wpQuiet_nil ?_)))
    with_reducible refine mix_call (by kernel_rfl) (by kernel_rfl) ((HMI.out wd (HUQ.out wd HBQ.out)).mono ?_) (by kernel_rfl)
    rintro e w2 ⟨rfl, hb⟩
    have HB2 : Hid (Below w1.heap.size w1 w2) := HBQ.out.trans (hb.mono HBQ.out.size)
    clear hb
    refine ⟨_, rfl, ⟨⟨_, HB2.out⟩, rfl⟩, ?_⟩
    simp only [Act.put, List.setIfInBounds_toArray, List.set_cons_zero, List.set_cons_succ]
    (repeat (first | (with_reducible refine mix_read (by kernel_rfl) ?_; go_big_quiet_want; go_big_quiet_op; go_big_quiet_on; with_reducible refine wpQuiet_nil ?_) | (with_reducible refine mix_pass (by kernel_rfl) ?_; go_big_quiet_skip; with_reducible refine wpQuiet_nil ?_)))
    with_reducible refine mix_end ?_
    intro _
    clear y0 y1 y2 y3 y4 y5 y6
    go_wp2
    go_ret
    exact ⟨by rw [HE.out]; rfl, by rw [HE.out]; exact HR.out.step (HUQ.out _ HB2.out), Chg.of_below (HUQ.out _ HB2.out)⟩
  rcases hk12 with rfl | rfl
  · have HK : Hid ((1 : Int) = 1 ∨ (1 : Int) = 2) := by show _ ∨ _; decide
    go_wp2_with fail
    clear hch
    refine wp_region_mix_seq (C := fun W => ∃ y : Ext w1, W = y.z) [0, 1, 2, 3, 4, 5, 6, 7, 8, 9, 10, 11, 12, 13, 14, 15, 16, 17] (by kernel_rfl) (by kernel_rfl) (by kernel_rfl) (by kernel_rfl) (by simp only [List.filterMap_cons, List.getElem?_toArray, List.getElem?_cons_zero, List.getElem?_cons_succ, List.filterMap_nil]; rfl) ⟨⟨_, HBQ.out⟩, rfl⟩ ?_
    generalize w1.drew = wd at *
    (repeat (first | (with_reducible refine mix_read (by kernel_rfl) ?_; go_big_quiet_want; go_big_quiet_op; go_big_quiet_on; with_reducible refine wpQuiet_nil ?_) | (with_reducible refine mix_pass (by kernel_rfl) ?_; go_big_quiet_skip; with_reducible refine wpQuiet_nil ?_)))
    with_reducible refine mix_call (by kernel_rfl) (by kernel_rfl) ((HMI.out wd (HUQ.out wd HBQ.out)).mono ?_) (by kernel_rfl)
    rintro e w2 ⟨rfl, hb⟩
    have HB2 : Hid (Below w1.heap.size w1 w2) := HBQ.out.trans (hb.mono HBQ.out.size)
    clear hb
    refine ⟨_, rfl, ⟨⟨_, HB2.out⟩, rfl⟩, ?_⟩
    simp only [Act.put, List.setIfInBounds_toArray, List.set_cons_zero, List.set_cons_succ]
    (repeat (first | (with_reducible refine mix_read (by kernel_rfl) ?_; go_big_quiet_want; go_big_quiet_op; go_big_quiet_on; with_reducible refine wpQuiet_nil ?_) | (with_reducible refine mix_pass (by kernel_rfl) ?_; go_big_quiet_skip; with_reducible refine wpQuiet_nil ?_)))
    with_reducible refine mix_end ?_
    intro _
    clear y0 y1 y2 y3 y4 y5 y6
    have HBY : Hid (Below w.heap.size w w2) := HUQ.out _ HB2.out
    obtain ⟨j0, j1⟩ := cells2 (blk_below HB2.out H2.out)
    have q4 := up_cell HBY.out HCLS.out.2.2.2.2
    have y1 := ext_cell j1
    have y2 := ext_cell q4
    haveI := ext_some w2
    have HQZ : Hid (Below w2.heap.size w2 w2.drew) := (Below.refl _ _).drew
    by_cases hr0 : r < 0
    · have HE : Hid (ans = (5, ss)) := HF5.out (by first | rfl | trivial) HK.out (.inl hr0)
      go_wp2_with fail
      refine wp_region_mix_seq (C := fun W => ∃ y : Ext w2, W = y.z) [0, 1, 2, 3, 4, 5, 6, 7, 8, 9, 10, 11, 12, 13] (by kernel_rfl) (by kernel_rfl) (by kernel_rfl) (by kernel_rfl) (by simp only [List.filterMap_cons, List.getElem?_toArray, List.getElem?_cons_zero, List.getElem?_cons_succ, List.filterMap_nil]; rfl) ⟨⟨_, (Below.refl _ _).drew⟩, rfl⟩ ?_
      (repeat (first | (with_reducible refine mix_read (by kernel_rfl) ?_; go_big_quiet_want; go_big_quiet_op; go_big_quiet_on; with_reducible refine wpQuiet_nil ?_) | (with_reducible refine mix_pass (by kernel_rfl) ?_; go_big_quiet_skip; with_reducible refine wpQuiet_nil ?_)))
      with_reducible refine mix_end ?_
      intro _
      clear y1 y2
      go_wp2
      go_ret
      exact ⟨by rw [HE.out]; rfl, by rw [HE.out]; exact HR.out.step (HBY.out.trans (HQZ.out.mono HBY.out.size)), Chg.of_below (HBY.out.trans (HQZ.out.mono HBY.out.size))⟩
    have hdr : decide (r < 0) = false := decide_eq_false hr0
    by_cases hrn : (n3 : Int) ≤ r
    · have hdn : decide ((n3 : Int) ≤ r) = true := decide_eq_true hrn
      have HE : Hid (ans = (5, ss)) := HF5.out (by first | rfl | trivial) HK.out (.inr (by rw [HZ.out]; exact hrn))
      go_wp2_with fail
      refine wp_region_mix_seq (C := fun W => ∃ y : Ext w2, W = y.z) [0, 1, 2, 3, 4, 5, 6, 7, 8, 9, 10, 11, 12, 13] (by kernel_rfl) (by kernel_rfl) (by kernel_rfl) (by kernel_rfl) (by simp only [List.filterMap_cons, List.getElem?_toArray, List.getElem?_cons_zero, List.getElem?_cons_succ, List.filterMap_nil]; rfl) ⟨⟨_, (Below.refl _ _).drew⟩, rfl⟩ ?_
      (repeat (first | (with_reducible refine mix_read (by kernel_rfl) ?_; go_big_quiet_want; go_big_quiet_op; go_big_quiet_on; with_reducible refine wpQuiet_nil ?_) | (with_reducible refine mix_pass (by kernel_rfl) ?_; go_big_quiet_skip; with_reducible refine wpQuiet_nil ?_)))
      with_reducible refine mix_end ?_
      intro _
      clear y1 y2
      go_wp2
      go_ret
      exact ⟨by rw [HE.out]; rfl, by rw [HE.out]; exact HR.out.step (HBY.out.trans (HQZ.out.mono HBY.out.size)), Chg.of_below (HBY.out.trans (HQZ.out.mono HBY.out.size))⟩
    obtain ⟨k, hrk, hkn⟩ := nat_of (n := n3) (i := r) ⟨by omega, by omega⟩
    obtain ⟨x, hx⟩ := at_of (l := rs) (k := k) (by rw [HZ.out]; exact hkn)
    obtain ⟨⟨m, t, g, b⟩, hs⟩ := at_of (l := ss) (k := k) (by rw [HLN.out, HZ.out]; exact hkn)
    have HFK := (show Hid _ from HFC.out (by first | rfl | trivial) HK.out k x _ hrk hx hs)
    subst hrk
    have HX : Hid (rs[k]? = some x ∧ ss[k]? = some (m, t, g, b)) := ⟨hx, hs⟩
    have hki : (k : Int) < (n3 : Int) := by omega
    have hdk : decide ((n3 : Int) ≤ (k : Int)) = false := decide_eq_false (by omega)
    clear hx hs
    go_wp2_with fail
    refine wp_region_mix_seq (C := fun W => ∃ y : Ext w2, W = y.z) [0, 1, 2, 3, 4, 5, 6, 7, 8, 9, 10, 11, 12, 13] (by kernel_rfl) (by kernel_rfl) (by kernel_rfl) (by kernel_rfl) (by simp only [List.filterMap_cons, List.getElem?_toArray, List.getElem?_cons_zero, List.getElem?_cons_succ, List.filterMap_nil]; rfl) ⟨⟨_, (Below.refl _ _).drew⟩, rfl⟩ ?_
    (repeat (first | (with_reducible refine mix_read (by kernel_rfl) ?_; go_big_quiet_want; go_big_quiet_op; go_big_quiet_on; with_reducible refine wpQuiet_nil ?_) | (with_reducible refine mix_pass (by kernel_rfl) ?_; go_big_quiet_skip; with_reducible refine wpQuiet_nil ?_)))
    with_reducible refine mix_end ?_
    intro _
    clear y1 y2
    generalize w2.drew = w3 at *
    have HBZ : Hid (Below w.heap.size w w3) := HBY.out.trans (HQZ.out.mono HBY.out.size)
    obtain ⟨j0, j1⟩ := cells2 (blk_below (HB2.out.trans (HQZ.out.mono HB2.out.size)) H2.out)
    obtain ⟨i0, i1⟩ := cells2 (blk_below (HB2.out.trans (HQZ.out.mono HB2.out.size)) H1.out)
    have HE : Hid (ans = callF (l.points.map (·.2)) (waysG rs rs 0) ss occ lies k (wayF rs (0 + k) x.1) (m, t, g, b)) := by show _ = _; rw [HFK.out]; simp
    have D := HCA.out (by first | rfl | trivial) w3 HBZ.out k x m t g b HX.out.1 HX.out.2
    rw [← HE.out] at D
    go_wp2_with fail
    refine D.mono ?_
    rintro e w4 ⟨rfl, hr, hc⟩
    go_wp2
    go_ret
    exact ⟨rfl, hr, (Chg.of_below HBZ.out).trans hc⟩
  · have HK : Hid ((2 : Int) = 1 ∨ (2 : Int) = 2) := by show _ ∨ _; decide
    go_wp2_with fail
    clear hch
    refine wp_region_mix_seq (C := fun W => ∃ y : Ext w1, W = y.z) [0, 1, 2, 3, 4, 5, 6, 7, 8, 9, 10, 11, 12, 13, 14, 15, 16, 17] (by kernel_rfl) (by kernel_rfl) (by kernel_rfl) (by kernel_rfl) (by simp only [List.filterMap_cons, List.getElem?_toArray, List.getElem?_cons_zero, List.getElem?_cons_succ, List.filterMap_nil]; rfl) ⟨⟨_, HBQ.out⟩, rfl⟩ ?_
    generalize w1.drew = wd at *
    (repeat (first | (with_reducible refine mix_read (by kernel_rfl) ?_; go_big_quiet_want; go_big_quiet_op; go_big_quiet_on; with_reducible refine wpQuiet_nil ?_) | (with_reducible refine mix_pass (by kernel_rfl) ?_; go_big_quiet_skip; with_reducible refine wpQuiet_nil ?_)))
    with_reducible refine mix_call (by kernel_rfl) (by kernel_rfl) ((HMI.out wd (HUQ.out wd HBQ.out)).mono ?_) (by kernel_rfl)
    rintro e w2 ⟨rfl, hb⟩
    have HB2 : Hid (Below w1.heap.size w1 w2) := HBQ.out.trans (hb.mono HBQ.out.size)
    clear hb
    refine ⟨_, rfl, ⟨⟨_, HB2.out⟩, rfl⟩, ?_⟩
    simp only [Act.put, List.setIfInBounds_toArray, List.set_cons_zero, List.set_cons_succ]
    (repeat (first | (with_reducible refine mix_read (by kernel_rfl) ?_; go_big_quiet_want; go_big_quiet_op; go_big_quiet_on; with_reducible refine wpQuiet_nil ?_) | (with_reducible refine mix_pass (by kernel_rfl) ?_; go_big_quiet_skip; with_reducible refine wpQuiet_nil ?_)))
    with_reducible refine mix_end ?_
    intro _
    clear y0 y1 y2 y3 y4 y5 y6
    have HBY : Hid (Below w.heap.size w w2) := HUQ.out _ HB2.out
    obtain ⟨j0, j1⟩ := cells2 (blk_below HB2.out H2.out)
    have q4 := up_cell HBY.out HCLS.out.2.2.2.2
    have y1 := ext_cell j1
    have y2 := ext_cell q4
    haveI := ext_some w2
    have HQZ : Hid (Below w2.heap.size w2 w2.drew) := (Below.refl _ _).drew
    by_cases hr0 : r < 0
    · have HE : Hid (ans = (5, ss)) := HF5.out (by first | rfl | trivial) HK.out (.inl hr0)
      go_wp2_with fail
      refine wp_region_mix_seq (C := fun W => ∃ y : Ext w2, W = y.z) [0, 1, 2, 3, 4, 5, 6, 7, 8, 9, 10, 11, 12, 13] (by kernel_rfl) (by kernel_rfl) (by kernel_rfl) (by kernel_rfl) (by simp only [List.filterMap_cons, List.getElem?_toArray, List.getElem?_cons_zero, List.getElem?_cons_succ, List.filterMap_nil]; rfl) ⟨⟨_, (Below.refl _ _).drew⟩, rfl⟩ ?_
      (repeat (first | (with_reducible refine mix_read (by kernel_rfl) ?_; go_big_quiet_want; go_big_quiet_op; go_big_quiet_on; with_reducible refine wpQuiet_nil ?_) | (with_reducible refine mix_pass (by kernel_rfl) ?_; go_big_quiet_skip; with_reducible refine wpQuiet_nil ?_)))
      with_reducible refine mix_end ?_
      intro _
      clear y1 y2
      go_wp2
      go_ret
      exact ⟨by rw [HE.out]; rfl, by rw [HE.out]; exact HR.out.step (HBY.out.trans (HQZ.out.mono HBY.out.size)), Chg.of_below (HBY.out.trans (HQZ.out.mono HBY.out.size))⟩
    have hdr : decide (r < 0) = false := decide_eq_false hr0
    by_cases hrn : (n3 : Int) ≤ r
    · have hdn : decide ((n3 : Int) ≤ r) = true := decide_eq_true hrn
      have HE : Hid (ans = (5, ss)) := HF5.out (by first | rfl | trivial) HK.out (.inr (by rw [HZ.out]; exact hrn))
      go_wp2_with fail
      refine wp_region_mix_seq (C := fun W => ∃ y : Ext w2, W = y.z) [0, 1, 2, 3, 4, 5, 6, 7, 8, 9, 10, 11, 12, 13] (by kernel_rfl) (by kernel_rfl) (by kernel_rfl) (by kernel_rfl) (by simp only [List.filterMap_cons, List.getElem?_toArray, List.getElem?_cons_zero, List.getElem?_cons_succ, List.filterMap_nil]; rfl) ⟨⟨_, (Below.refl _ _).drew⟩, rfl⟩ ?_
      (repeat (first | (with_reducible refine mix_read (by kernel_rfl) ?_; go_big_quiet_want; go_big_quiet_op; go_big_quiet_on; with_reducible refine wpQuiet_nil ?_) | (with_reducible refine mix_pass (by kernel_rfl) ?_; go_big_quiet_skip; with_reducible refine wpQuiet_nil ?_)))
      with_reducible refine mix_end ?_
      intro _
      clear y1 y2
      go_wp2
      go_ret
      exact ⟨by rw [HE.out]; rfl, by rw [HE.out]; exact HR.out.step (HBY.out.trans (HQZ.out.mono HBY.out.size)), Chg.of_below (HBY.out.trans (HQZ.out.mono HBY.out.size))⟩
    obtain ⟨k, hrk, hkn⟩ := nat_of (n := n3) (i := r) ⟨by omega, by omega⟩
    obtain ⟨x, hx⟩ := at_of (l := rs) (k := k) (by rw [HZ.out]; exact hkn)
    obtain ⟨⟨m, t, g, b⟩, hs⟩ := at_of (l := ss) (k := k) (by rw [HLN.out, HZ.out]; exact hkn)
    have HFK := (show Hid _ from HFC.out (by first | rfl | trivial) HK.out k x _ hrk hx hs)
    subst hrk
    have HX : Hid (rs[k]? = some x ∧ ss[k]? = some (m, t, g, b)) := ⟨hx, hs⟩
    have hki : (k : Int) < (n3 : Int) := by omega
    have hdk : decide ((n3 : Int) ≤ (k : Int)) = false := decide_eq_false (by omega)
    clear hx hs
    go_wp2_with fail
    refine wp_region_mix_seq (C := fun W => ∃ y : Ext w2, W = y.z) [0, 1, 2, 3, 4, 5, 6, 7, 8, 9, 10, 11, 12, 13] (by kernel_rfl) (by kernel_rfl) (by kernel_rfl) (by kernel_rfl) (by simp only [List.filterMap_cons, List.getElem?_toArray, List.getElem?_cons_zero, List.getElem?_cons_succ, List.filterMap_nil]; rfl) ⟨⟨_, (Below.refl _ _).drew⟩, rfl⟩ ?_
    (repeat (first | (with_reducible refine mix_read (by kernel_rfl) ?_; go_big_quiet_want; go_big_quiet_op; go_big_quiet_on; with_reducible refine wpQuiet_nil ?_) | (with_reducible refine mix_pass (by kernel_rfl) ?_; go_big_quiet_skip; with_reducible refine wpQuiet_nil ?_)))
    with_reducible refine mix_end ?_
    intro _
    clear y1 y2
    generalize w2.drew = w3 at *
    have HBZ : Hid (Below w.heap.size w w3) := HBY.out.trans (HQZ.out.mono HBY.out.size)
    obtain ⟨j0, j1⟩ := cells2 (blk_below (HB2.out.trans (HQZ.out.mono HB2.out.size)) H2.out)
    obtain ⟨i0, i1⟩ := cells2 (blk_below (HB2.out.trans (HQZ.out.mono HB2.out.size)) H1.out)
    have HC2 : Hid (ans = if m = 1 then (0, ss.set k idleS) else if m = 2 then (0, ss.set k (4, 0, 0, false)) else (7, ss)) := by show _ = _; rw [HFK.out, if_neg (by decide)]; rfl
    have q4 := up_cell HBZ.out HCLS.out.2.2.2.2
    have a0 := ((HR.out.step HBZ.out).stAt_ HX.out.2).1
    have y1 := ext_cell j1
    have y2 := ext_cell q4
    have y3 := ext_cell a0
    haveI := ext_some w3
    by_cases hm1 : m = 1
    · have hmm : (m == 1) = true := by simp [hm1]
      have HE : Hid (ans = (0, ss.set k idleS)) := by show _ = _; rw [HC2.out, if_pos hm1]
      clear hm1
      go_wp2_with fail
      refine wp_region_mix_seq (C := fun W => ∃ y : Ext w3, W = y.z) [0, 1, 2, 3, 4, 5, 6, 7, 8, 9, 10] (by kernel_rfl) (by kernel_rfl) (by kernel_rfl) (by kernel_rfl) (by simp only [List.filterMap_cons, List.getElem?_toArray, List.getElem?_cons_zero, List.getElem?_cons_succ, List.filterMap_nil]; rfl) ⟨⟨_, (Below.refl _ _).drew⟩, rfl⟩ ?_
      (repeat (first | (with_reducible refine mix_read (by kernel_rfl) ?_; go_big_quiet_want; go_big_quiet_op; go_big_quiet_on; with_reducible refine wpQuiet_nil ?_) | (with_reducible refine mix_pass (by kernel_rfl) ?_; go_big_quiet_skip; with_reducible refine wpQuiet_nil ?_)))
      with_reducible refine mix_end ?_
      intro _
      clear y1 y2 y3
      have HQZ3 : Hid (Below w3.heap.size w3 w3.drew) := (Below.refl _ _).drew
      generalize w3.drew = w5 at *
      have HBZ2 : Hid (Below w.heap.size w w5) := HBZ.out.trans (HQZ3.out.mono HBZ.out.size)
      have j1 := up_cell HQZ3.out j1
      have q4 := up_cell HQZ3.out q4
      have y1 := ext_cell j1
      have y2 := ext_cell q4
      haveI := ext_some w5
      go_wp2_with fail
      refine wp_region_last (C := fun W => ∃ y : Ext w5, W = y.z) [0, 1, 2, 3, 4, 5, 6, 7] [8] (by kernel_rfl) (by kernel_rfl) (by kernel_rfl) (by kernel_rfl) (by simp only [List.filterMap_cons, List.getElem?_toArray, List.getElem?_cons_zero, List.getElem?_cons_succ, List.filterMap_nil]; rfl) (by simp only [List.filterMap_cons, List.getElem?_toArray, List.getElem?_cons_zero, List.getElem?_cons_succ, List.filterMap_nil]; rfl) ⟨⟨_, (Below.refl _ _).drew⟩, rfl⟩ ?_
      (repeat (first | (with_reducible refine mix_read (by kernel_rfl) ?_; go_big_quiet_want; go_big_quiet_op; go_big_quiet_on; with_reducible refine wpQuiet_nil ?_) | (with_reducible refine mix_pass (by kernel_rfl) ?_; go_big_quiet_skip; with_reducible refine wpQuiet_nil ?_)))
      with_reducible refine mix_end ?_
      have HBV : Hid (Below w.heap.size w w5.drew) := HBZ2.out.trans ((Below.refl _ _).drew.mono HBZ2.out.size)
      have HR6 := HR.out.step HBV.out
      obtain ⟨s0, s1, s2, s3⟩ := HR6.stAt_ HX.out.2
      have z0 := HR6.fz (k * 4)
      have z1 := HR6.fz (k * 4 + 1)
      have z2 := HR6.fz (k * 4 + 2)
      have z3 := HR6.fz (k * 4 + 3)
      have HP := (show Hid _ from HPUT.out _ HBV.out k idleS (by rw [HLN.out, HZ.out]; exact hkn) fun n _ => mayBe_idle n)
      clear HR6
      clear y1 y2
      generalize w5.drew = wz at *
      go_wp2
      go_ret
      exact ⟨by rw [HE.out]; rfl, by rw [HE.out]; exact HP.out.1, HP.out.2⟩
    · have hmm : (m == 1) = false := by simp [hm1]
      have HC3 : Hid (ans = if m = 2 then (0, ss.set k (4, 0, 0, false)) else (7, ss)) := by show _ = _; rw [HC2.out, if_neg hm1]
      clear hm1
      go_wp2_with fail
      refine wp_region_mix_seq (C := fun W => ∃ y : Ext w3, W = y.z) [0, 1, 2, 3, 4, 5, 6, 7, 8, 9, 10] (by kernel_rfl) (by kernel_rfl) (by kernel_rfl) (by kernel_rfl) (by simp only [List.filterMap_cons, List.getElem?_toArray, List.getElem?_cons_zero, List.getElem?_cons_succ, List.filterMap_nil]; rfl) ⟨⟨_, (Below.refl _ _).drew⟩, rfl⟩ ?_
      (repeat (first | (with_reducible refine mix_read (by kernel_rfl) ?_; go_big_quiet_want; go_big_quiet_op; go_big_quiet_on; with_reducible refine wpQuiet_nil ?_) | (with_reducible refine mix_pass (by kernel_rfl) ?_; go_big_quiet_skip; with_reducible refine wpQuiet_nil ?_)))
      with_reducible refine mix_end ?_
      intro _
      clear y1 y2 y3
      have HQZ3 : Hid (Below w3.heap.size w3 w3.drew) := (Below.refl _ _).drew
      generalize w3.drew = w5 at *
      have HBZ5 : Hid (Below w.heap.size w w5) := HBZ.out.trans (HQZ3.out.mono HBZ.out.size)
      have j1 := up_cell HQZ3.out j1
      have q4 := up_cell HQZ3.out q4
      have a0 := up_cell HQZ3.out a0
      have y1 := ext_cell j1
      have y2 := ext_cell q4
      have y3 := ext_cell a0
      haveI := ext_some w5
      have HQZ5 : Hid (Below w5.heap.size w5 w5.drew) := (Below.refl _ _).drew
      by_cases hm2 : m = 2
      · have hmm : (m == 2) = true := by simp [hm2]
        have HE : Hid (ans = (0, ss.set k (4, 0, 0, false))) := by show _ = _; rw [HC3.out, if_pos hm2]
        clear hm2
        go_wp2_with fail
        refine wp_region_mix_seq (C := fun W => ∃ y : Ext w5, W = y.z) [0, 1, 2, 3, 4, 5, 6, 7, 8, 9, 10] (by kernel_rfl) (by kernel_rfl) (by kernel_rfl) (by kernel_rfl) (by simp only [List.filterMap_cons, List.getElem?_toArray, List.getElem?_cons_zero, List.getElem?_cons_succ, List.filterMap_nil]; rfl) ⟨⟨_, (Below.refl _ _).drew⟩, rfl⟩ ?_
        (repeat (first | (with_reducible refine mix_read (by kernel_rfl) ?_; go_big_quiet_want; go_big_quiet_op; go_big_quiet_on; with_reducible refine wpQuiet_nil ?_) | (with_reducible refine mix_pass (by kernel_rfl) ?_; go_big_quiet_skip; with_reducible refine wpQuiet_nil ?_)))
        with_reducible refine mix_end ?_
        intro _
        clear y1 y2 y3
        generalize w5.drew = w6 at *
        have HBZ2 : Hid (Below w.heap.size w w6) := HBZ5.out.trans (HQZ5.out.mono HBZ5.out.size)
        have j1 := up_cell HQZ5.out j1
        have q4 := up_cell HQZ5.out q4
        have y1 := ext_cell j1
        have y2 := ext_cell q4
        haveI := ext_some w6
        go_wp2_with fail
        refine wp_region_last (C := fun W => ∃ y : Ext w6, W = y.z) [0, 1, 2, 3, 4, 5, 6, 7] [8] (by kernel_rfl) (by kernel_rfl) (by kernel_rfl) (by kernel_rfl) (by simp only [List.filterMap_cons, List.getElem?_toArray, List.getElem?_cons_zero, List.getElem?_cons_succ, List.filterMap_nil]; rfl) (by simp only [List.filterMap_cons, List.getElem?_toArray, List.getElem?_cons_zero, List.getElem?_cons_succ, List.filterMap_nil]; rfl) ⟨⟨_, (Below.refl _ _).drew⟩, rfl⟩ ?_
        (repeat (first | (with_reducible refine mix_read (by kernel_rfl) ?_; go_big_quiet_want; go_big_quiet_op; go_big_quiet_on; with_reducible refine wpQuiet_nil ?_) | (with_reducible refine mix_pass (by kernel_rfl) ?_; go_big_quiet_skip; with_reducible refine wpQuiet_nil ?_)))
        with_reducible refine mix_end ?_
        have HBV : Hid (Below w.heap.size w w6.drew) := HBZ2.out.trans ((Below.refl _ _).drew.mono HBZ2.out.size)
        have HR6 := HR.out.step HBV.out
        obtain ⟨s0, s1, s2, s3⟩ := HR6.stAt_ HX.out.2
        have z0 := HR6.fz (k * 4)
        have z1 := HR6.fz (k * 4 + 1)
        have z2 := HR6.fz (k * 4 + 2)
        have z3 := HR6.fz (k * 4 + 3)
        have HP := (show Hid _ from HPUT.out _ HBV.out k (4, 0, 0, false) (by rw [HLN.out, HZ.out]; exact hkn) fun n _ => by simp [mayBeF])
        clear HR6
        clear y1 y2
        generalize w6.drew = wz at *
        go_wp2
        go_ret
        exact ⟨by rw [HE.out]; rfl, by rw [HE.out]; exact HP.out.1, HP.out.2⟩
      · have hmm : (m == 2) = false := by simp [hm2]
        have HE : Hid (ans = (7, ss)) := by show _ = _; rw [HC3.out, if_neg hm2]
        clear hm2
        go_wp2_with fail
        refine wp_region_mix_seq (C := fun W => ∃ y : Ext w5, W = y.z) [0, 1, 2, 3, 4, 5, 6, 7, 8, 9, 10] (by kernel_rfl) (by kernel_rfl) (by kernel_rfl) (by kernel_rfl) (by simp only [List.filterMap_cons, List.getElem?_toArray, List.getElem?_cons_zero, List.getElem?_cons_succ, List.filterMap_nil]; rfl) ⟨⟨_, (Below.refl _ _).drew⟩, rfl⟩ ?_
        (repeat (first | (with_reducible refine mix_read (by kernel_rfl) ?_; go_big_quiet_want; go_big_quiet_op; go_big_quiet_on; with_reducible refine wpQuiet_nil ?_) | (with_reducible refine mix_pass (by kernel_rfl) ?_; go_big_quiet_skip; with_reducible refine wpQuiet_nil ?_)))
        with_reducible refine mix_end ?_
        intro _
        clear y1 y2 y3
        go_wp2
        go_ret
        exact ⟨by rw [HE.out]; rfl, by rw [HE.out]; exact HR.out.step (HBZ5.out.trans (HQZ5.out.mono HBZ5.out.size)), Chg.of_below (HBZ5.out.trans (HQZ5.out.mono HBZ5.out.size))⟩
end Go.Proofs.YtceebimgfajbcaaGreatDoor

namespace Go.Proofs.YtceebimgfajbcaaGreatDoor
open Go.RowKit

/-- The reference's lock while a route's state is under way. -/
structure RfR (w0 W : World) (v : Nat → Value) (rs : List RtV) (xb rb : Nat) (ss : List St) : Prop where
  bx : W.heap[xb]? = some (.cells #[v 0, v 1, v 2, v 3, .slice (some ⟨rb, 0, none⟩) rs.length rs.length] 91 (0, 0))
  br : W.heap[rb]? = some (.cells (ss.flatMap stC).toArray 80 (0, 0))
  ne : rb ≠ xb
  base : w0.heap.size ≤ xb ∧ w0.heap.size ≤ rb
  bl : Below w0.heap.size w0 W
  len : ss.length = rs.length
theorem flat_one {ss : List St} {k i : Nat} {s s' : St} {val : Value} (hs : ss[k]? = some s) (hi : i < 4) (he : stC s' = (stC s).set i val) : (ss.flatMap stC).set (k * 4 + i) val = (ss.set k s').flatMap stC := by
  obtain ⟨hk, hsk⟩ := List.getElem?_eq_some_iff.1 hs
  apply List.ext_getElem?
  intro j
  by_cases hj : j < ss.length * 4
  · obtain ⟨q, r, rfl, hr, hq⟩ : ∃ q r, j = q * 4 + r ∧ r < 4 ∧ q < ss.length := ⟨j / 4, j % 4, by omega, by omega, by omega⟩
    rw [flat_st_at (by rw [List.length_set]; exact hq) hr, List.getElem?_set]
    by_cases hqk : k = q
    · subst hqk
      rw [List.getElem_set_self, he, List.getElem?_set]
      by_cases hir : i = r
      · subst hir
        rw [if_pos rfl, if_pos (by rw [flat_st_len]; exact hj), if_pos rfl, if_pos (by simp [stC]; exact hi)]
      · rw [if_neg (by omega), if_neg (by omega), flat_st_at hk hr, hsk]
    · rw [List.getElem_set_ne hqk, if_neg (by omega), flat_st_at hq hr]
  · rw [List.getElem?_eq_none (by simp only [List.length_set, flat_st_len]; omega), List.getElem?_eq_none (by rw [flat_st_len, List.length_set]; omega)]
section
variable {w0 W W' : World} {v : Nat → Value} {l : Lay} {rs : List RtV} {xb rb : Nat} {ss : List St}
theorem RfLk.raw (h : RfLk w0 W v l rs xb rb ss) : RfR w0 W v rs xb rb ss := ⟨h.bx, h.br, h.ne, h.base, h.bl, h.len⟩
theorem RfR.lk (h : RfR w0 W v rs xb rb ss) (ok : LkOk l.sections.length l.signals.length (l.points.map (·.2)) (waysG rs rs 0) ss) : RfLk w0 W v l rs xb rb ss := ⟨h.bx, h.br, h.ne, h.base, h.bl, ok⟩
theorem RfR.step (h : RfR w0 W v rs xb rb ss) (hb : Below W.heap.size W W') : RfR w0 W' v rs xb rb ss := ⟨blk_below hb h.bx, blk_below hb h.br, h.ne, h.base, h.bl.trans (hb.mono h.bl.size), h.len⟩
theorem RfR.cells (h : RfR w0 W v rs xb rb ss) : W.cell? ⟨xb, 0, none⟩ = some (v 0) ∧ W.cell? ⟨xb, 1, none⟩ = some (v 1) ∧ W.cell? ⟨xb, 2, none⟩ = some (v 2) ∧ W.cell? ⟨xb, 3, none⟩ = some (v 3) ∧ W.cell? ⟨xb, 4, none⟩ = some (.slice (some ⟨rb, 0, none⟩) rs.length rs.length) := (cells5 h.bx).1
theorem RfR.fz (h : RfR w0 W v rs xb rb ss) (i : Nat) : W.frozen? ⟨rb, i, none⟩ = false := froz2 h.br i
theorem RfR.stAt_ (h : RfR w0 W v rs xb rb ss) {k : Nat} {m t g : Int} {b : Bool} (hs : ss[k]? = some (m, t, g, b)) : W.cell? ⟨rb, k * 4, none⟩ = some (.int .i64 m) ∧ W.cell? ⟨rb, k * 4 + 1, none⟩ = some (.int .i64 t) ∧ W.cell? ⟨rb, k * 4 + 2, none⟩ = some (.int .i64 g) ∧ W.cell? ⟨rb, k * 4 + 3, none⟩ = some (.bool b) := by
  have hr := row_blk (cs := stC) (size := 4) (cap := rs.length) (fun _ => rfl) ss h.br rfl
  obtain ⟨gg, off, e, h0, h1, h2, h3⟩ := row_st hr k _ hs
  injection e with e
  injection e with e1 e2
  subst e1 e2
  simp only [Nat.zero_add] at h0 h1 h2 h3
  exact ⟨h0, h1, h2, h3⟩
theorem RfR.turn (h : RfR w0 W v rs xb rb ss) {ss' : List St} (hl : ss'.length = ss.length) (hsz : W'.heap.size = W.heap.size) (ho : W'.os = W.os) (ht : W'.tape = W.tape) (hu : W'.output = W.output) (hoth : ∀ j, j ≠ rb → W'.heap[j]? = W.heap[j]?) (hrb : W'.heap[rb]? = some (.cells (ss'.flatMap stC).toArray 80 (0, 0))) : RfR w0 W' v rs xb rb ss' ∧ Chg (fun j => j = rb) W W' := by
  have hc : Chg (fun j => j = rb) W W' := ⟨ho, ht, hu, by omega, fun j _ hj => hoth j hj⟩
  exact ⟨⟨(hoth xb h.ne.symm).trans h.bx, hrb, h.ne, h.base, h.bl.trans (hc.below (fun j hj => by rw [hj]; exact h.base.2) h.bl.size), hl.trans h.len⟩, hc⟩
theorem RfR.all (h : RfR w0 W v rs xb rb ss) {k : Nat} (hk : k < ss.length) (s : St) : RfR w0 (putR W rb k s) v rs xb rb (ss.set k s) ∧ Chg (fun j => j = rb) W (putR W rb k s) := by
  refine h.turn (by rw [List.length_set]) (by simp [putR, World.setCell]) rfl rfl rfl (fun j hj => ?_) ?_
  · unfold putR
    rw [Below.heap_setCell _ _ _ _ (by exact hj), Below.heap_setCell _ _ _ _ (by exact hj), Below.heap_setCell _ _ _ _ (by exact hj), Below.heap_setCell _ _ _ _ (by exact hj)]
  · have := heap_put (i := k * 4 + 3) (heap_put (i := k * 4 + 2) (heap_put (i := k * 4 + 1) (heap_put (i := k * 4) h.br (.int .i64 s.1)) (.int .i64 s.2.1)) (.int .i64 s.2.2.1)) (.bool s.2.2.2)
    simp only [List.setIfInBounds_toArray] at this
    rw [flat_set hk s] at this
    exact this
theorem RfR.one (h : RfR w0 W v rs xb rb ss) {k : Nat} {s : St} (hs : ss[k]? = some s) (i : Nat) (val : Value) (s' : St) (hi : i < 4) (he : stC s' = (stC s).set i val) : RfR w0 (W.setCell ⟨rb, k * 4 + i, none⟩ val) v rs xb rb (ss.set k s') ∧ Chg (fun j => j = rb) W (W.setCell ⟨rb, k * 4 + i, none⟩ val) := by
  refine h.turn (by rw [List.length_set]) (by simp [World.setCell]) rfl rfl rfl (fun j hj => Below.heap_setCell _ _ _ _ (by exact hj)) ?_
  have := heap_put (i := k * 4 + i) h.br val
  simp only [List.setIfInBounds_toArray] at this
  rw [flat_one hs hi he] at this
  exact this
end
theorem set_self {ss : List St} {k : Nat} {s : St} (h : ss[k]? = some s) : ss.set k s = ss := by
  obtain ⟨hk, e⟩ := List.getElem?_eq_some_iff.1 h
  rw [← e]
  exact List.set_getElem_self ..
theorem get_set {ss : List St} {k : Nat} {s s' : St} (h : ss[k]? = some s) : (ss.set k s')[k]? = some s' := by
  have hk := (List.getElem?_eq_some_iff.1 h).1
  rw [List.getElem?_set_self hk]
end Go.Proofs.YtceebimgfajbcaaGreatDoor

namespace Go.Proofs.YtceebimgfajbcaaGreatDoor
open Go.RowKit

theorem LkOk.put2 {ns ng : Nat} {pts : List Int} {ws : List Wy} {ss : List St} (h : LkOk ns ng pts ws ss) {k : Nat} {x : Wy} {s : St} (hx : ws[k]? = some x) (hs : mayBeF s x.path.length = true) : LkOk ns ng pts ws (ss.set k s) := by
  refine ⟨by rw [List.length_set]; exact h.len, h.ways, h.foes, h.inn, fun j y t hy ht => ?_, h.few⟩
  rw [List.getElem?_set] at ht
  split at ht
  · rename_i e
    subst e
    split at ht
    · rw [← Option.some.inj ht, ← Option.some.inj (hx.symm.trans hy)]
      exact hs
    · cases ht
  · exact h.sts j y t hy ht

set_option maxRecDepth 1000000 in
set_option maxHeartbeats 64000000 in
theorem rlStep_any (w0 w : World) (v : Nat → Value) (l : Lay) (rs : List RtV) (xb rb : Nat) (ss : List St) (u : Nat → Value) (occ : List Bool) (lies : List Int) (k : Nat) (x : RtV) (m t g : Int) (b : Bool) (hL : LayRd w0 v l rs) (h : RfLk w0 w v l rs xb rb ss) (hin : InRd w0 u occ lies) (hlen : occ.length = l.sections.length ∧ lies.length = l.points.length) (hx : rs[k]? = some x) (hs : ss[k]? = some (m, t, g, b)) :
    Calls Tryz.prog 43 #[.pointer (some ⟨xb, 0, none⟩), .agg #[u 0, u 1], .int .i64 k] w fun e w' => e = .returned (.tuple #[]) ∧ RfLk w0 w' v l rs xb rb (ss.set k (stepF (m, t, g, b) (wayF rs (0 + k) x.1) occ lies)) ∧ Chg (fun j => j = rb) w w' := by
  have hfew := h.ok.few
  rw [waysG_map, List.length_map] at hfew
  have hwa := ways_at rs rs 0 k x hx
  have hwy : WyOk l.sections.length (l.points.map (·.2)).length l.signals.length (wayF rs (0 + k) x.1) := h.ok.ways _ (List.mem_of_getElem? hwa)
  have hmb := h.ok.sts k _ _ hwa hs
  have hnd : (x.1.points ++ x.1.flank).length ≤ 1000000 := hwy.few.2.1
  have hnp : 0 < x.1.path.length := hwy.some_
  have hbd := mayBe_bounds hmb hwy.some_
  have hbd : 0 ≤ m ∧ m ≤ 4 ∧ 0 ≤ t ∧ t ≤ 8 ∧ 0 ≤ g ∧ g < (x.1.path.length : Nat) := hbd
  have HUP : Hid (∀ W, Below w.heap.size w W → Below w0.heap.size w0 W) := fun W hW => h.bl.trans (hW.mono h.bl.size)
  have HRI : Hid (∀ W, Below w.heap.size w W → Calls Tryz.prog 37 #[.agg #[v 0, v 1, v 2, v 3], .int .i64 k, .agg #[u 0, u 1]] W fun e w' => e = .returned (.bool (rightB lies (x.1.points ++ x.1.flank))) ∧ Below W.heap.size W w') := fun W hW => rfRight_any v l rs k x u occ lies W (hL.below (HUP.out W hW)) (hin.below (HUP.out W hW)) hx ⟨by rw [← List.length_append]; exact hnd, by omega⟩ fun s hs => by have := hwy.needs s hs; rw [List.length_map] at this; rw [hlen.2]; exact this
  have HOK : Hid (LkOk l.sections.length l.signals.length (l.points.map (·.2)) (waysG rs rs 0) (ss.set k (stepF (m, t, g, b) (wayF rs (0 + k) x.1) occ lies))) := h.ok.put2 hwa (mayBe_step hmb hwy.some_)
  have HFIN : Hid (∀ (W : World) (s' : St), stepF (m, t, g, b) (wayF rs (0 + k) x.1) occ lies = s' → RfR w0 W v rs xb rb (ss.set k s') → RfLk w0 W v l rs xb rb (ss.set k (stepF (m, t, g, b) (wayF rs (0 + k) x.1) occ lies))) := fun W s' e hr => by
    have h9 := HOK.out
    rw [e] at h9 ⊢
    exact hr.lk h9
  have HPI : Hid (∀ s ∈ x.1.path, 0 ≤ s ∧ s < (l.sections.length : Nat)) := hwy.path
  have HSF : Hid (stepF (m, t, g, b) (wayF rs (0 + k) x.1) occ lies = if m = 1 then (if rightB lies (x.1.points ++ x.1.flank) = true then (2, 0, 0, false) else waitF (m, t, g, b) 8) else if m = 2 then (if occF occ (nthI x.1.path 0) = true then (3, 0, 0, true) else (m, t, g, b)) else if m = 4 then (if occF occ (nthI x.1.path 0) = true then (3, 0, 0, true) else waitF (m, t, g, b) 5) else if m = 3 then followF (m, t, g, b) x.1.path occ else (m, t, g, b)) := rfl
  have HT5 : Hid (m = 4 → t ≤ 5) := fun e => by
    subst e
    simp only [mayBeF] at hmb
    simp at hmb
    exact hmb.2.2
  generalize stepF (m, t, g, b) (wayF rs (0 + k) x.1) occ lies = ans at *
  have HR : Hid (RfR w0 w v rs xb rb ss) := h.raw
  have hcl := h.cells
  have HST := (show Hid _ from hs)
  have hkn := (List.getElem?_eq_some_iff.1 hx).1
  have HKS : Hid (k < ss.length) := (List.getElem?_eq_some_iff.1 hs).1
  obtain ⟨o0, c0, e0, _⟩ := hL.s
  obtain ⟨o1, c1, e1, _⟩ := hL.p
  obtain ⟨o2, c2, e2, _⟩ := hL.g
  obtain ⟨o3, c3, e3, r3⟩ := hL.r
  obtain ⟨g3, f3, rfl, hcx⟩ := r3 k x hx
  have xa3 := hcx 3 _ rfl
  obtain ⟨op, cp, ep, qp⟩ := (hL.x x (List.mem_of_getElem? hx)).path
  rw [ep] at xa3
  have HP := (show Hid _ from row_int (w := w0) ⟨op, cp, rfl, qp⟩)
  obtain ⟨p0, d0, f0, q0⟩ := hin.o
  obtain ⟨p1, d1, f1, _⟩ := hin.l
  have HO := (show Hid _ from row_bool (w := w0) ⟨p0, d0, rfl, q0⟩)
  rw [e0, e1, e2, e3] at HRI hcl
  rw [f0, f1, hlen.1, hlen.2] at HRI ⊢
  have HLO : Hid (occ.length = l.sections.length) := hlen.1
  have HXA := (show Hid _ from xa3)
  have HCLS := (show Hid _ from hcl)
  have hpl : x.1.path.length ≤ 1000000 := hwy.few.1
  clear h hL hin hlen hx hs hcl r3 hcx ep qp q0 e0 e1 e2 e3 f0 f1 hwa hwy hmb hnd xa3
  generalize x.1.points ++ x.1.flank = nd at *
  generalize rightB lies nd = ri at *
  generalize x.1.path = pa at *
  obtain ⟨np, hz4⟩ : ∃ n, pa.length = n := ⟨_, rfl⟩
  obtain ⟨n0, hz0⟩ : ∃ n, l.sections.length = n := ⟨_, rfl⟩
  obtain ⟨n3, hz3⟩ : ∃ n, rs.length = n := ⟨_, rfl⟩
  have HZ : Hid (l.sections.length = n0 ∧ rs.length = n3 ∧ pa.length = np) := ⟨hz0, hz3, hz4⟩
  rw [hz0, hz3] at HCLS HRI
  rw [hz0]
  rw [hz4] at hnp hpl hbd HXA
  rw [hz3] at hkn
  clear hz0 hz3 hz4
  generalize l.points.length = n1 at *
  generalize l.signals.length = n2 at *
  generalize hch : w.alloc (.cells #[.slice p0 n0 d0, .slice p1 n1 d1] 38) = w1
  have HB01 : Hid (Below w.heap.size w w1) := by show Below _ _ _; rw [← hch]; exact (Below.refl _ _).alloc (Nat.le_refl _) _
  have H1 : Hid (w1.heap[w.heap.size]? = some (.cells #[.slice p0 n0 d0, .slice p1 n1 d1] 38 (0, 0))) := by show _ = _; rw [← hch]; exact blk_new _ _
  have HUQ : Hid (∀ W, Below w1.heap.size w1 W → Below w.heap.size w W) := fun W hW => HB01.out.trans (hW.mono HB01.out.size)
  have hki : (k : Int) < (n3 : Int) := by omega
  have SPL : Hid (∀ W, Below w1.heap.size w1 W → (W.cell? ⟨rb, k * 4, none⟩ = some (.int .i64 m) ∧ W.cell? ⟨rb, k * 4 + 1, none⟩ = some (.int .i64 t) ∧ W.cell? ⟨rb, k * 4 + 2, none⟩ = some (.int .i64 g) ∧ W.cell? ⟨rb, k * 4 + 3, none⟩ = some (.bool b)) ∧ (W.frozen? ⟨rb, k * 4, none⟩ = false ∧ W.frozen? ⟨rb, k * 4 + 1, none⟩ = false ∧ W.frozen? ⟨rb, k * 4 + 2, none⟩ = false ∧ W.frozen? ⟨rb, k * 4 + 3, none⟩ = false)) := fun W hW => by
    have hr := HR.out.step (HUQ.out W hW)
    exact ⟨hr.stAt_ HST.out, hr.fz _, hr.fz _, hr.fz _, hr.fz _⟩
  have SET : Hid (∀ W, Below w1.heap.size w1 W → ∀ s : St, RfR w0 (putR W rb k s) v rs xb rb (ss.set k s) ∧ Chg (fun j => j = rb) w (putR W rb k s)) := fun W hW s => by
    have hr := (HR.out.step (HUQ.out W hW)).all HKS.out s
    exact ⟨hr.1, (Chg.of_below (HUQ.out W hW)).trans hr.2⟩
  have ONE : Hid (∀ W, Below w1.heap.size w1 W → ∀ (i : Nat) (val : Value) (s' : St), i < 4 → stC s' = (stC (m, t, g, b)).set i val → RfR w0 (W.setCell ⟨rb, k * 4 + i, none⟩ val) v rs xb rb (ss.set k s') ∧ Chg (fun j => j = rb) w (W.setCell ⟨rb, k * 4 + i, none⟩ val)) := fun W hW i val s' hi he => by
    have hr := (HR.out.step (HUQ.out W hW)).one HST.out i val s' hi he
    exact ⟨hr.1, (Chg.of_below (HUQ.out W hW)).trans hr.2⟩
  have SAME : Hid (∀ W, Below w1.heap.size w1 W → ans = (m, t, g, b) → RfLk w0 W v l rs xb rb (ss.set k ans) ∧ Chg (fun j => j = rb) w W) := fun W hW e => ⟨HFIN.out W _ e (by rw [set_self HST.out]; exact HR.out.step (HUQ.out W hW)), Chg.of_below (HUQ.out W hW)⟩
  have OCC : Hid (∀ (i : Nat), i < np → ∃ (zk : Nat) (bz : Bool) (gp fp gq fq : Nat), occF occ (nthI pa i) = bz ∧ zk < n0 ∧ op = some ⟨gp, fp, none⟩ ∧ w0.cell? ⟨gp, fp + i, none⟩ = some (.int .i64 (zk : Nat)) ∧ p0 = some ⟨gq, fq, none⟩ ∧ w0.cell? ⟨gq, fq + zk, none⟩ = some (.bool bz)) := fun i hi => by
    obtain ⟨z, hz⟩ : ∃ z, pa[i]? = some z := at_of (by have := HZ.out.2.2; omega)
    obtain ⟨gp, fp, e1, h1⟩ := HP.out i z hz
    have hzb := HPI.out z (List.mem_of_getElem? hz)
    obtain ⟨zk, rfl, hzk⟩ := nat_of (n := n0) (i := z) (by have := HZ.out.1; omega)
    obtain ⟨bz, hbz⟩ : ∃ bz, occ[zk]? = some bz := at_of (by have := HLO.out; have := HZ.out.1; omega)
    obtain ⟨gq, fq, e2, h2⟩ := HO.out zk bz hbz
    exact ⟨zk, bz, gp, fp, gq, fq, by rw [nthI_at hz, occF_at hbz], hzk, e1, h1, e2, h2⟩
  have q3 := up_cell HB01.out HCLS.out.2.2.2.1
  have q4 := up_cell HB01.out HCLS.out.2.2.2.2
  have a3 := up_cell (HUP.out _ HB01.out) HXA.out
  go_enter Tryz.func43, Tryz.ntmps43
  have hm4 : m = 0 ∨ m = 1 ∨ m = 2 ∨ m = 3 ∨ m = 4 := by omega
  have HQN9 : Hid (0 ≤ t ∧ t ≤ 8 ∧ 0 ≤ g ∧ g < (np : Int)) := ⟨by omega, by omega, by omega, by omega⟩
  clear hbd
  rcases hm4 with rfl | rfl | rfl | rfl | rfl
  · have HE : Hid (ans = ((0 : Int), t, g, b)) := HSF.out
    have HR0 : Hid (Below w1.heap.size w1 w1) := Below.refl _ _
    obtain ⟨⟨s0, s1, s2, s3⟩, z0, z1, z2, z3⟩ := SPL.out w1 HR0.out
    go_wp2_with fail
    clear hch q3 q4 a3
    have y0 := ext_cell s0
    haveI := ext_some w1
    refine wp_region_mix_seq (C := fun W => ∃ y : Ext w1, W = y.z) [0, 1, 2, 3, 4, 5, 6, 7, 8, 9, 10, 11, 12, 13, 14] (by kernel_rfl) (by kernel_rfl) (by kernel_rfl) (by kernel_rfl) (by simp only [List.filterMap_cons, List.getElem?_toArray, List.getElem?_cons_zero, List.getElem?_cons_succ, List.filterMap_nil]; rfl) ⟨⟨_, (Below.refl _ _).drew⟩, rfl⟩ ?_
    (repeat (first | (with_reducible refine mix_read (by kernel_rfl) ?_; go_big_quiet_want; go_big_quiet_op; go_big_quiet_on; with_reducible refine wpQuiet_nil ?_) | (with_reducible refine mix_pass (by kernel_rfl) ?_; go_big_quiet_skip; with_reducible refine wpQuiet_nil ?_)))
    with_reducible refine mix_end ?_
    intro _
    clear y0 s0 s1 s2 s3 z0 z1 z2 z3
    have HR3 : Hid (Below w1.heap.size w1 w1.drew) := HR0.out.trans ((Below.refl _ _).drew.mono HR0.out.size)
    generalize w1.drew = w3 at *
    obtain ⟨⟨s0, s1, s2, s3⟩, z0, z1, z2, z3⟩ := SPL.out w3 HR3.out
    go_wp2_with fail
    have y0 := ext_cell s0
    haveI := ext_some w3
    refine wp_region_mix_seq (C := fun W => ∃ y : Ext w3, W = y.z) [0, 1, 2, 3, 4, 5, 6, 7, 8, 9, 10, 11, 12, 13, 14, 15, 16, 17, 18, 19, 20, 21] (by kernel_rfl) (by kernel_rfl) (by kernel_rfl) (by kernel_rfl) (by simp only [List.filterMap_cons, List.getElem?_toArray, List.getElem?_cons_zero, List.getElem?_cons_succ, List.filterMap_nil]; rfl) ⟨⟨_, (Below.refl _ _).drew⟩, rfl⟩ ?_
    (repeat (first | (with_reducible refine mix_read (by kernel_rfl) ?_; go_big_quiet_want; go_big_quiet_op; go_big_quiet_on; with_reducible refine wpQuiet_nil ?_) | (with_reducible refine mix_pass (by kernel_rfl) ?_; go_big_quiet_skip; with_reducible refine wpQuiet_nil ?_)))
    with_reducible refine mix_end ?_
    intro _
    clear y0 s0 s1 s2 s3 z0 z1 z2 z3
    have HR5 : Hid (Below w1.heap.size w1 w3.drew) := HR3.out.trans ((Below.refl _ _).drew.mono HR3.out.size)
    generalize w3.drew = w5 at *
    obtain ⟨⟨s0, s1, s2, s3⟩, z0, z1, z2, z3⟩ := SPL.out w5 HR5.out
    go_wp2_with fail
    have y0 := ext_cell s0
    haveI := ext_some w5
    refine wp_region_mix_seq (C := fun W => ∃ y : Ext w5, W = y.z) [0, 1, 2, 3, 4, 5, 6, 7, 8, 9, 10, 11, 12, 13, 14, 15, 16, 17, 18] (by kernel_rfl) (by kernel_rfl) (by kernel_rfl) (by kernel_rfl) (by simp only [List.filterMap_cons, List.getElem?_toArray, List.getElem?_cons_zero, List.getElem?_cons_succ, List.filterMap_nil]; rfl) ⟨⟨_, (Below.refl _ _).drew⟩, rfl⟩ ?_
    (repeat (first | (with_reducible refine mix_read (by kernel_rfl) ?_; go_big_quiet_want; go_big_quiet_op; go_big_quiet_on; with_reducible refine wpQuiet_nil ?_) | (with_reducible refine mix_pass (by kernel_rfl) ?_; go_big_quiet_skip; with_reducible refine wpQuiet_nil ?_)))
    with_reducible refine mix_end ?_
    intro _
    clear y0 s0 s1 s2 s3 z0 z1 z2 z3
    have HR7 : Hid (Below w1.heap.size w1 w5.drew) := HR5.out.trans ((Below.refl _ _).drew.mono HR5.out.size)
    generalize w5.drew = w7 at *
    obtain ⟨⟨s0, s1, s2, s3⟩, z0, z1, z2, z3⟩ := SPL.out w7 HR7.out
    go_wp2
    exact bodyPost_end (v := .tuple #[]) (by simp [results, Tryz.results43, go_sem]) rfl ⟨rfl, SAME.out _ HR7.out HE.out⟩
  · have HSG : Hid (ans = if ri = true then (2, 0, 0, false) else waitF (1, t, g, b) 8) := HSF.out
    have HR0 : Hid (Below w1.heap.size w1 w1) := Below.refl _ _
    obtain ⟨⟨s0, s1, s2, s3⟩, z0, z1, z2, z3⟩ := SPL.out w1 HR0.out
    have i01 := cells2 H1.out
    obtain ⟨i0, i1⟩ := i01
    go_wp2_with fail
    clear hch a3
    have y0 := ext_cell s0
    have y1 := ext_cell i0
    have y2 := ext_cell i1
    have y3 := ext_cell (up_cell HB01.out HCLS.out.1)
    have y4 := ext_cell (up_cell HB01.out HCLS.out.2.1)
    have y5 := ext_cell (up_cell HB01.out HCLS.out.2.2.1)
    have y6 := ext_cell q3
    haveI := ext_some w1
    have HBQ : Hid (Below w1.heap.size w1 w1.drew) := (Below.refl _ _).drew
    refine wp_region_mix_seq (C := fun W => ∃ y : Ext w1, W = y.z) [0, 1, 2, 3, 4, 5, 6, 7, 8, 9, 10, 11, 12, 13, 14] (by kernel_rfl) (by kernel_rfl) (by kernel_rfl) (by kernel_rfl) (by simp only [List.filterMap_cons, List.getElem?_toArray, List.getElem?_cons_zero, List.getElem?_cons_succ, List.filterMap_nil]; rfl) ⟨⟨_, HBQ.out⟩, rfl⟩ ?_
    generalize w1.drew = wd at *
    (repeat (first | (with_reducible refine mix_read (by kernel_rfl) ?_; go_big_quiet_want; go_big_quiet_op; go_big_quiet_on; with_reducible refine wpQuiet_nil ?_) | (with_reducible refine mix_pass (by kernel_rfl) ?_; go_big_quiet_skip; with_reducible refine wpQuiet_nil ?_)))
    with_reducible refine mix_call (by kernel_rfl) (by kernel_rfl) ((HRI.out wd (HUQ.out wd HBQ.out)).mono ?_) (by kernel_rfl)
    rintro e w3 ⟨rfl, hb⟩
    have HR3 : Hid (Below w1.heap.size w1 w3) := HBQ.out.trans (hb.mono HBQ.out.size)
    clear hb
    refine ⟨_, rfl, ⟨⟨_, HR3.out⟩, rfl⟩, ?_⟩
    simp only [Act.put, List.setIfInBounds_toArray, List.set_cons_zero, List.set_cons_succ]
    (repeat (first | (with_reducible refine mix_read (by kernel_rfl) ?_; go_big_quiet_want; go_big_quiet_op; go_big_quiet_on; with_reducible refine wpQuiet_nil ?_) | (with_reducible refine mix_pass (by kernel_rfl) ?_; go_big_quiet_skip; with_reducible refine wpQuiet_nil ?_)))
    with_reducible refine mix_end ?_
    intro _
    clear y0 y1 y2 y3 y4 y5 y6 i0 i1 q3 q4 s0 s1 s2 s3 z0 z1 z2 z3
    cases ri
    · have HE8 : Hid (ans = waitF (1, t, g, b) 8) := HSG.out
      obtain ⟨⟨s0, s1, s2, s3⟩, z0, z1, z2, z3⟩ := SPL.out w3 HR3.out
      have ht1 := HQN9.out.1
      have ht2 := HQN9.out.2.1
      go_upto_region 7 with fail
      have HW1 := (show Hid _ from ONE.out w3 HR3.out 1 (.int .i64 (t + 1)) (1, t + 1, g, b) (by decide) rfl)
      clear s0 s1 s2 s3 z0 z1 z2 z3
      generalize w3.setCell ⟨rb, k * 4 + 1, none⟩ (.int .i64 (t + 1)) = w5 at *
      obtain ⟨s0, s1, s2, s3⟩ := HW1.out.1.stAt_ (get_set HST.out)
      have z0 := HW1.out.1.fz (k * 4)
      have z1 := HW1.out.1.fz (k * 4 + 1)
      have z2 := HW1.out.1.fz (k * 4 + 2)
      have z3 := HW1.out.1.fz (k * 4 + 3)
      by_cases ht8 : 8 < t + 1
      · have HE : Hid (ans = idleS) := by show _ = _; rw [HE8.out]; exact if_pos ht8
        have HP4 := HW1.out.1.all (k := k) (by rw [List.length_set]; exact HKS.out) idleS
        rw [List.set_set] at HP4
        have HPX : Hid (RfR w0 (putR w5 rb k idleS) v rs xb rb (ss.set k idleS) ∧ Chg (fun j => j = rb) w (putR w5 rb k idleS)) := ⟨HP4.1, HW1.out.2.trans HP4.2⟩
        clear HP4
        go_wp2
        exact bodyPost_end (v := .tuple #[]) (by simp [results, Tryz.results43, go_sem]) rfl ⟨rfl, HFIN.out _ _ HE.out HPX.out.1, HPX.out.2⟩
      · have HE : Hid (ans = (1, t + 1, g, b)) := by show _ = _; rw [HE8.out]; exact if_neg ht8
        go_wp2
        exact bodyPost_end (v := .tuple #[]) (by simp [results, Tryz.results43, go_sem]) rfl ⟨rfl, HFIN.out _ _ HE.out HW1.out.1, HW1.out.2⟩
    · have HE : Hid (ans = (2, 0, 0, false)) := HSG.out
      obtain ⟨⟨s0, s1, s2, s3⟩, z0, z1, z2, z3⟩ := SPL.out w3 HR3.out
      have HP4 := (show Hid _ from SET.out w3 HR3.out (2, 0, 0, false))
      go_wp2
      exact bodyPost_end (v := .tuple #[]) (by simp [results, Tryz.results43, go_sem]) rfl ⟨rfl, HFIN.out _ _ HE.out HP4.out.1, HP4.out.2⟩
  · have HSG : Hid (ans = if occF occ (nthI pa 0) = true then (3, 0, 0, true) else (2, t, g, b)) := HSF.out
    have HR0 : Hid (Below w1.heap.size w1 w1) := Below.refl _ _
    obtain ⟨⟨s0, s1, s2, s3⟩, z0, z1, z2, z3⟩ := SPL.out w1 HR0.out
    go_wp2_with fail
    clear hch q3 q4 a3
    have y0 := ext_cell s0
    haveI := ext_some w1
    refine wp_region_mix_seq (C := fun W => ∃ y : Ext w1, W = y.z) [0, 1, 2, 3, 4, 5, 6, 7, 8, 9, 10, 11, 12, 13, 14] (by kernel_rfl) (by kernel_rfl) (by kernel_rfl) (by kernel_rfl) (by simp only [List.filterMap_cons, List.getElem?_toArray, List.getElem?_cons_zero, List.getElem?_cons_succ, List.filterMap_nil]; rfl) ⟨⟨_, (Below.refl _ _).drew⟩, rfl⟩ ?_
    (repeat (first | (with_reducible refine mix_read (by kernel_rfl) ?_; go_big_quiet_want; go_big_quiet_op; go_big_quiet_on; with_reducible refine wpQuiet_nil ?_) | (with_reducible refine mix_pass (by kernel_rfl) ?_; go_big_quiet_skip; with_reducible refine wpQuiet_nil ?_)))
    with_reducible refine mix_end ?_
    intro _
    clear y0 s0 s1 s2 s3 z0 z1 z2 z3
    have HR3 : Hid (Below w1.heap.size w1 w1.drew) := HR0.out.trans ((Below.refl _ _).drew.mono HR0.out.size)
    generalize w1.drew = w3 at *
    obtain ⟨⟨s0, s1, s2, s3⟩, z0, z1, z2, z3⟩ := SPL.out w3 HR3.out
    obtain ⟨zk, bz, gp, fp, gq, fq, hoc, hzk, rfl, b1, rfl, b2⟩ := OCC.out 0 hnp
    have HOC9 : Hid (occF occ (nthI pa 0) = bz) := hoc
    have hzi : (zk : Int) < (n0 : Int) := by omega
    have hnpi : (0 : Int) < (np : Int) := by omega
    rw [Nat.add_zero] at b1
    obtain ⟨i0, i1⟩ := cells2 (blk_below HR3.out H1.out)
    have HB0W : Hid (Below w0.heap.size w0 w3) := HUP.out w3 (HUQ.out w3 HR3.out)
    clear hoc
    cases bz
    all_goals
      go_wp2_with fail
      have y0 := ext_cell s0
      have y1 := ext_cell i0
      have y2 := ext_cell (up_cell HB0W.out b1)
      have y3 := ext_cell (up_cell HB0W.out b2)
      haveI := ext_some w3
      refine wp_region_mix_seq (C := fun W => ∃ y : Ext w3, W = y.z) [0, 1, 2, 3, 4, 5, 6, 7, 8, 9, 10, 11, 12, 13, 14, 15, 16, 17, 18, 19, 20, 21] (by kernel_rfl) (by kernel_rfl) (by kernel_rfl) (by kernel_rfl) (by simp only [List.filterMap_cons, List.getElem?_toArray, List.getElem?_cons_zero, List.getElem?_cons_succ, List.filterMap_nil]; rfl) ⟨⟨_, (Below.refl _ _).drew⟩, rfl⟩ ?_
      (repeat (first | (with_reducible refine mix_read (by kernel_rfl) ?_; go_big_quiet_want; go_big_quiet_op; go_big_quiet_on; with_reducible refine wpQuiet_nil ?_) | (with_reducible refine mix_pass (by kernel_rfl) ?_; go_big_quiet_skip; with_reducible refine wpQuiet_nil ?_)))
      with_reducible refine mix_end ?_
      intro _
      clear y0 y1 y2 y3 i0 i1 b1 b2 s0 s1 s2 s3 z0 z1 z2 z3
      have HR5 : Hid (Below w1.heap.size w1 w3.drew) := HR3.out.trans ((Below.refl _ _).drew.mono HR3.out.size)
      generalize w3.drew = w5 at *
    · have HE : Hid (ans = (2, t, g, b)) := by show _ = _; rw [HSG.out, HOC9.out]; rfl
      obtain ⟨⟨s0, s1, s2, s3⟩, z0, z1, z2, z3⟩ := SPL.out w5 HR5.out
      go_wp2_with fail
      have y0 := ext_cell s0
      haveI := ext_some w5
      refine wp_region_mix_seq (C := fun W => ∃ y : Ext w5, W = y.z) [0, 1, 2, 3, 4, 5, 6, 7, 8, 9, 10, 11, 12, 13, 14, 15, 16, 17, 18] (by kernel_rfl) (by kernel_rfl) (by kernel_rfl) (by kernel_rfl) (by simp only [List.filterMap_cons, List.getElem?_toArray, List.getElem?_cons_zero, List.getElem?_cons_succ, List.filterMap_nil]; rfl) ⟨⟨_, (Below.refl _ _).drew⟩, rfl⟩ ?_
      (repeat (first | (with_reducible refine mix_read (by kernel_rfl) ?_; go_big_quiet_want; go_big_quiet_op; go_big_quiet_on; with_reducible refine wpQuiet_nil ?_) | (with_reducible refine mix_pass (by kernel_rfl) ?_; go_big_quiet_skip; with_reducible refine wpQuiet_nil ?_)))
      with_reducible refine mix_end ?_
      intro _
      clear y0 s0 s1 s2 s3 z0 z1 z2 z3
      have HR7 : Hid (Below w1.heap.size w1 w5.drew) := HR5.out.trans ((Below.refl _ _).drew.mono HR5.out.size)
      generalize w5.drew = w7 at *
      obtain ⟨⟨s0, s1, s2, s3⟩, z0, z1, z2, z3⟩ := SPL.out w7 HR7.out
      go_wp2
      exact bodyPost_end (v := .tuple #[]) (by simp [results, Tryz.results43, go_sem]) rfl ⟨rfl, SAME.out _ HR7.out HE.out⟩
    · have HE : Hid (ans = (3, 0, 0, true)) := by show _ = _; rw [HSG.out, HOC9.out]; rfl
      obtain ⟨⟨s0, s1, s2, s3⟩, z0, z1, z2, z3⟩ := SPL.out w5 HR5.out
      have HP4 := (show Hid _ from SET.out w5 HR5.out (3, 0, 0, true))
      go_wp2
      exact bodyPost_end (v := .tuple #[]) (by simp [results, Tryz.results43, go_sem]) rfl ⟨rfl, HFIN.out _ _ HE.out HP4.out.1, HP4.out.2⟩
  · obtain ⟨gk, rfl, hgk⟩ := nat_of (n := np) (i := g) ⟨HQN9.out.2.2.1, HQN9.out.2.2.2⟩
    have HSG : Hid (ans = followF (3, t, (gk : Int), b) pa occ) := HSF.out
    have HR0 : Hid (Below w1.heap.size w1 w1) := Below.refl _ _
    obtain ⟨⟨s0, s1, s2, s3⟩, z0, z1, z2, z3⟩ := SPL.out w1 HR0.out
    go_wp2_with fail
    clear hch q3 q4 a3
    have y0 := ext_cell s0
    haveI := ext_some w1
    refine wp_region_mix_seq (C := fun W => ∃ y : Ext w1, W = y.z) [0, 1, 2, 3, 4, 5, 6, 7, 8, 9, 10, 11, 12, 13, 14] (by kernel_rfl) (by kernel_rfl) (by kernel_rfl) (by kernel_rfl) (by simp only [List.filterMap_cons, List.getElem?_toArray, List.getElem?_cons_zero, List.getElem?_cons_succ, List.filterMap_nil]; rfl) ⟨⟨_, (Below.refl _ _).drew⟩, rfl⟩ ?_
    (repeat (first | (with_reducible refine mix_read (by kernel_rfl) ?_; go_big_quiet_want; go_big_quiet_op; go_big_quiet_on; with_reducible refine wpQuiet_nil ?_) | (with_reducible refine mix_pass (by kernel_rfl) ?_; go_big_quiet_skip; with_reducible refine wpQuiet_nil ?_)))
    with_reducible refine mix_end ?_
    intro _
    clear y0 s0 s1 s2 s3 z0 z1 z2 z3
    have HR3 : Hid (Below w1.heap.size w1 w1.drew) := HR0.out.trans ((Below.refl _ _).drew.mono HR0.out.size)
    generalize w1.drew = w3 at *
    obtain ⟨⟨s0, s1, s2, s3⟩, z0, z1, z2, z3⟩ := SPL.out w3 HR3.out
    go_wp2_with fail
    have y0 := ext_cell s0
    haveI := ext_some w3
    refine wp_region_mix_seq (C := fun W => ∃ y : Ext w3, W = y.z) [0, 1, 2, 3, 4, 5, 6, 7, 8, 9, 10, 11, 12, 13, 14, 15, 16, 17, 18, 19, 20, 21] (by kernel_rfl) (by kernel_rfl) (by kernel_rfl) (by kernel_rfl) (by simp only [List.filterMap_cons, List.getElem?_toArray, List.getElem?_cons_zero, List.getElem?_cons_succ, List.filterMap_nil]; rfl) ⟨⟨_, (Below.refl _ _).drew⟩, rfl⟩ ?_
    (repeat (first | (with_reducible refine mix_read (by kernel_rfl) ?_; go_big_quiet_want; go_big_quiet_op; go_big_quiet_on; with_reducible refine wpQuiet_nil ?_) | (with_reducible refine mix_pass (by kernel_rfl) ?_; go_big_quiet_skip; with_reducible refine wpQuiet_nil ?_)))
    with_reducible refine mix_end ?_
    intro _
    clear y0 s0 s1 s2 s3 z0 z1 z2 z3
    have HR5 : Hid (Below w1.heap.size w1 w3.drew) := HR3.out.trans ((Below.refl _ _).drew.mono HR3.out.size)
    generalize w3.drew = w5 at *
    obtain ⟨⟨s0, s1, s2, s3⟩, z0, z1, z2, z3⟩ := SPL.out w5 HR5.out
    obtain ⟨zk, bz, gp, fp, gq, fq, hoc, hzk, rfl, b1, rfl, b2⟩ := OCC.out gk hgk
    have HOC9 : Hid (occF occ (nthI pa (gk : Int)) = bz) := hoc
    have hzi : (zk : Int) < (n0 : Int) := by omega
    have hgki : (gk : Int) < (np : Int) := by omega
    obtain ⟨i0, i1⟩ := cells2 (blk_below HR5.out H1.out)
    have HB0W : Hid (Below w0.heap.size w0 w5) := HUP.out w5 (HUQ.out w5 HR5.out)
    clear hoc
    cases bz
    all_goals
      go_wp2_with fail
      have y0 := ext_cell s0
      have y4 := ext_cell s2
      have y1 := ext_cell i0
      have y2 := ext_cell (up_cell HB0W.out b1)
      have y3 := ext_cell (up_cell HB0W.out b2)
      haveI := ext_some w5
      refine wp_region_mix_seq (C := fun W => ∃ y : Ext w5, W = y.z) [0, 1, 2, 3, 4, 5, 6, 7, 8, 9, 10, 11, 12, 13, 14, 15, 16, 17, 18] (by kernel_rfl) (by kernel_rfl) (by kernel_rfl) (by kernel_rfl) (by simp only [List.filterMap_cons, List.getElem?_toArray, List.getElem?_cons_zero, List.getElem?_cons_succ, List.filterMap_nil]; rfl) ⟨⟨_, (Below.refl _ _).drew⟩, rfl⟩ ?_
      (repeat (first | (with_reducible refine mix_read (by kernel_rfl) ?_; go_big_quiet_want; go_big_quiet_op; go_big_quiet_on; with_reducible refine wpQuiet_nil ?_) | (with_reducible refine mix_pass (by kernel_rfl) ?_; go_big_quiet_skip; with_reducible refine wpQuiet_nil ?_)))
      with_reducible refine mix_end ?_
      intro _
      clear y0 y1 y2 y3 y4 i0 i1 b1 b2 s0 s1 s2 s3 z0 z1 z2 z3
      have HR7 : Hid (Below w1.heap.size w1 w5.drew) := HR5.out.trans ((Below.refl _ _).drew.mono HR5.out.size)
      generalize w5.drew = w7 at *
    · have HSH : Hid (ans = if b = false then (3, t, (gk : Int), b) else if (gk : Int) + 1 = pa.length then idleS else (3, t, (gk : Int) + 1, false)) := by show _ = _; rw [HSG.out, followF, if_neg (by simp only; rw [HOC9.out]; decide)]
      cases b
      · have HE : Hid (ans = (3, t, (gk : Int), false)) := HSH.out
        obtain ⟨⟨s0, s1, s2, s3⟩, z0, z1, z2, z3⟩ := SPL.out w7 HR7.out
        go_wp2
        exact bodyPost_end (v := .tuple #[]) (by simp [results, Tryz.results43, go_sem]) rfl ⟨rfl, SAME.out _ HR7.out HE.out⟩
      · have HSI : Hid (ans = if (gk : Int) + 1 = np then idleS else (3, t, (gk : Int) + 1, false)) := by show _ = _; rw [HSH.out, if_neg (by decide), HZ.out.2.2]
        obtain ⟨⟨s0, s1, s2, s3⟩, z0, z1, z2, z3⟩ := SPL.out w7 HR7.out
        go_upto_region 20 with fail
        have HW1 := (show Hid _ from ONE.out w7 HR7.out 2 (.int .i64 ((gk : Int) + 1)) (3, t, (gk : Int) + 1, true) (by decide) rfl)
        have HW2 := HW1.out.1.one (get_set HST.out) 3 (.bool false) (3, t, (gk : Int) + 1, false) (by decide) rfl
        rw [List.set_set] at HW2
        have HW3 : Hid (RfR w0 ((w7.setCell ⟨rb, k * 4 + 2, none⟩ (.int .i64 ((gk : Int) + 1))).setCell ⟨rb, k * 4 + 3, none⟩ (.bool false)) v rs xb rb (ss.set k (3, t, (gk : Int) + 1, false)) ∧ Chg (fun j => j = rb) w ((w7.setCell ⟨rb, k * 4 + 2, none⟩ (.int .i64 ((gk : Int) + 1))).setCell ⟨rb, k * 4 + 3, none⟩ (.bool false))) := ⟨HW2.1, HW1.out.2.trans HW2.2⟩
        clear HW1 HW2 s0 s1 s2 s3 z0 z1 z2 z3
        generalize (w7.setCell ⟨rb, k * 4 + 2, none⟩ (.int .i64 ((gk : Int) + 1))).setCell ⟨rb, k * 4 + 3, none⟩ (.bool false) = w8 at *
        obtain ⟨s0, s1, s2, s3⟩ := HW3.out.1.stAt_ (get_set HST.out)
        have z0 := HW3.out.1.fz (k * 4)
        have z1 := HW3.out.1.fz (k * 4 + 1)
        have z2 := HW3.out.1.fz (k * 4 + 2)
        have z3 := HW3.out.1.fz (k * 4 + 3)
        by_cases hgn : (gk : Int) + 1 = np
        · have hg2 : ((gk : Int) + 1 == (np : Int)) = true := by simp [hgn]
          have HE : Hid (ans = idleS) := by show _ = _; rw [HSI.out, if_pos hgn]
          have HP4 := HW3.out.1.all (k := k) (by rw [List.length_set]; exact HKS.out) idleS
          rw [List.set_set] at HP4
          have HPX : Hid (RfR w0 (putR w8 rb k idleS) v rs xb rb (ss.set k idleS) ∧ Chg (fun j => j = rb) w (putR w8 rb k idleS)) := ⟨HP4.1, HW3.out.2.trans HP4.2⟩
          clear HP4 hgn
          go_wp2
          exact bodyPost_end (v := .tuple #[]) (by simp [results, Tryz.results43, go_sem]) rfl ⟨rfl, HFIN.out _ _ HE.out HPX.out.1, HPX.out.2⟩
        · have hg2 : ((gk : Int) + 1 == (np : Int)) = false := by simp [hgn]
          have HE : Hid (ans = (3, t, (gk : Int) + 1, false)) := by show _ = _; rw [HSI.out, if_neg hgn]
          clear hgn
          go_wp2
          exact bodyPost_end (v := .tuple #[]) (by simp [results, Tryz.results43, go_sem]) rfl ⟨rfl, HFIN.out _ _ HE.out HW3.out.1, HW3.out.2⟩
    · have HE : Hid (ans = (3, t, (gk : Int), true)) := by show _ = _; rw [HSG.out]; exact if_pos HOC9.out
      obtain ⟨⟨s0, s1, s2, s3⟩, z0, z1, z2, z3⟩ := SPL.out w7 HR7.out
      have HW1 := (show Hid _ from ONE.out w7 HR7.out 3 (.bool true) (3, t, (gk : Int), true) (by decide) rfl)
      go_wp2
      exact bodyPost_end (v := .tuple #[]) (by simp [results, Tryz.results43, go_sem]) rfl ⟨rfl, HFIN.out _ _ HE.out HW1.out.1, HW1.out.2⟩
  · have HSG : Hid (ans = if occF occ (nthI pa 0) = true then (3, 0, 0, true) else waitF (4, t, g, b) 5) := HSF.out
    have HR0 : Hid (Below w1.heap.size w1 w1) := Below.refl _ _
    obtain ⟨⟨s0, s1, s2, s3⟩, z0, z1, z2, z3⟩ := SPL.out w1 HR0.out
    go_wp2_with fail
    clear hch q3 q4 a3
    have y0 := ext_cell s0
    haveI := ext_some w1
    refine wp_region_mix_seq (C := fun W => ∃ y : Ext w1, W = y.z) [0, 1, 2, 3, 4, 5, 6, 7, 8, 9, 10, 11, 12, 13, 14] (by kernel_rfl) (by kernel_rfl) (by kernel_rfl) (by kernel_rfl) (by simp only [List.filterMap_cons, List.getElem?_toArray, List.getElem?_cons_zero, List.getElem?_cons_succ, List.filterMap_nil]; rfl) ⟨⟨_, (Below.refl _ _).drew⟩, rfl⟩ ?_
    (repeat (first | (with_reducible refine mix_read (by kernel_rfl) ?_; go_big_quiet_want; go_big_quiet_op; go_big_quiet_on; with_reducible refine wpQuiet_nil ?_) | (with_reducible refine mix_pass (by kernel_rfl) ?_; go_big_quiet_skip; with_reducible refine wpQuiet_nil ?_)))
    with_reducible refine mix_end ?_
    intro _
    clear y0 s0 s1 s2 s3 z0 z1 z2 z3
    have HR3 : Hid (Below w1.heap.size w1 w1.drew) := HR0.out.trans ((Below.refl _ _).drew.mono HR0.out.size)
    generalize w1.drew = w3 at *
    obtain ⟨⟨s0, s1, s2, s3⟩, z0, z1, z2, z3⟩ := SPL.out w3 HR3.out
    obtain ⟨zk, bz, gp, fp, gq, fq, hoc, hzk, rfl, b1, rfl, b2⟩ := OCC.out 0 hnp
    have HOC9 : Hid (occF occ (nthI pa 0) = bz) := hoc
    have hzi : (zk : Int) < (n0 : Int) := by omega
    have hnpi : (0 : Int) < (np : Int) := by omega
    rw [Nat.add_zero] at b1
    obtain ⟨i0, i1⟩ := cells2 (blk_below HR3.out H1.out)
    have HB0W : Hid (Below w0.heap.size w0 w3) := HUP.out w3 (HUQ.out w3 HR3.out)
    clear hoc
    cases bz
    all_goals
      go_wp2_with fail
      have y0 := ext_cell s0
      have y1 := ext_cell i0
      have y2 := ext_cell (up_cell HB0W.out b1)
      have y3 := ext_cell (up_cell HB0W.out b2)
      haveI := ext_some w3
      refine wp_region_mix_seq (C := fun W => ∃ y : Ext w3, W = y.z) [0, 1, 2, 3, 4, 5, 6, 7, 8, 9, 10, 11, 12, 13, 14, 15, 16, 17, 18, 19, 20, 21] (by kernel_rfl) (by kernel_rfl) (by kernel_rfl) (by kernel_rfl) (by simp only [List.filterMap_cons, List.getElem?_toArray, List.getElem?_cons_zero, List.getElem?_cons_succ, List.filterMap_nil]; rfl) ⟨⟨_, (Below.refl _ _).drew⟩, rfl⟩ ?_
      (repeat (first | (with_reducible refine mix_read (by kernel_rfl) ?_; go_big_quiet_want; go_big_quiet_op; go_big_quiet_on; with_reducible refine wpQuiet_nil ?_) | (with_reducible refine mix_pass (by kernel_rfl) ?_; go_big_quiet_skip; with_reducible refine wpQuiet_nil ?_)))
      with_reducible refine mix_end ?_
      intro _
      clear y0 y1 y2 y3 i0 i1 b1 b2 s0 s1 s2 s3 z0 z1 z2 z3
      have HR5 : Hid (Below w1.heap.size w1 w3.drew) := HR3.out.trans ((Below.refl _ _).drew.mono HR3.out.size)
      generalize w3.drew = w5 at *
    · have HE8 : Hid (ans = waitF (4, t, g, b) 5) := by show _ = _; rw [HSG.out, HOC9.out]; rfl
      obtain ⟨⟨s0, s1, s2, s3⟩, z0, z1, z2, z3⟩ := SPL.out w5 HR5.out
      have ht1 := HQN9.out.1
      have ht2 := HT5.out (by first | rfl | trivial)
      go_upto_region 13 with fail
      have HW1 := (show Hid _ from ONE.out w5 HR5.out 1 (.int .i64 (t + 1)) (4, t + 1, g, b) (by decide) rfl)
      clear s0 s1 s2 s3 z0 z1 z2 z3
      generalize w5.setCell ⟨rb, k * 4 + 1, none⟩ (.int .i64 (t + 1)) = w6 at *
      obtain ⟨s0, s1, s2, s3⟩ := HW1.out.1.stAt_ (get_set HST.out)
      have z0 := HW1.out.1.fz (k * 4)
      have z1 := HW1.out.1.fz (k * 4 + 1)
      have z2 := HW1.out.1.fz (k * 4 + 2)
      have z3 := HW1.out.1.fz (k * 4 + 3)
      by_cases ht8 : t + 1 = 6
      · have ht6 : (t + 1 == 6) = true := by simp [ht8]
        have HE : Hid (ans = idleS) := by show _ = _; rw [HE8.out]; exact if_pos (by simp only; omega)
        have HP4 := HW1.out.1.all (k := k) (by rw [List.length_set]; exact HKS.out) idleS
        rw [List.set_set] at HP4
        have HPX : Hid (RfR w0 (putR w6 rb k idleS) v rs xb rb (ss.set k idleS) ∧ Chg (fun j => j = rb) w (putR w6 rb k idleS)) := ⟨HP4.1, HW1.out.2.trans HP4.2⟩
        clear HP4 ht8
        go_wp2
        exact bodyPost_end (v := .tuple #[]) (by simp [results, Tryz.results43, go_sem]) rfl ⟨rfl, HFIN.out _ _ HE.out HPX.out.1, HPX.out.2⟩
      · have ht6 : (t + 1 == 6) = false := by simp [ht8]
        have HE : Hid (ans = (4, t + 1, g, b)) := by show _ = _; rw [HE8.out]; exact if_neg (by simp only; omega)
        clear ht8
        go_wp2
        exact bodyPost_end (v := .tuple #[]) (by simp [results, Tryz.results43, go_sem]) rfl ⟨rfl, HFIN.out _ _ HE.out HW1.out.1, HW1.out.2⟩
    · have HE : Hid (ans = (3, 0, 0, true)) := by show _ = _; rw [HSG.out, HOC9.out]; rfl
      obtain ⟨⟨s0, s1, s2, s3⟩, z0, z1, z2, z3⟩ := SPL.out w5 HR5.out
      have HP4 := (show Hid _ from SET.out w5 HR5.out (3, 0, 0, true))
      go_wp2
      exact bodyPost_end (v := .tuple #[]) (by simp [results, Tryz.results43, go_sem]) rfl ⟨rfl, HFIN.out _ _ HE.out HP4.out.1, HP4.out.2⟩
end Go.Proofs.YtceebimgfajbcaaGreatDoor

namespace Go.Proofs.YtceebimgfajbcaaGreatDoor
open Go.RowKit

/-- The reference's lock and the answer under way. -/
structure CyAt (w0 w W : World) (v : Nat → Value) (l : Lay) (rs : List RtV) (xb rb : Nat) (st : List St) (IB : Obj) (ob b1 b2 n1 n2 : Nat) (dr : List Int) (pr : List Bool) : Prop where
  lk : RfLk w0 W v l rs xb rb st
  i : W.heap[w.heap.size]? = some IB
  z : W.heap[w.heap.size + 1]? = some (.cells #[.slice none 0 0, .slice none 0 0] 46 (0, 0))
  o : W.heap[ob]? = some (.cells #[.slice (some ⟨b1, 0, none⟩) n1 n1, .slice (some ⟨b2, 0, none⟩) n2 n2] 46 (0, 0))
  a : OutAt W (w.heap.size + 2) b1 b2 dr pr
  len : dr.length = n1 ∧ pr.length = n2
  c : Chg (fun j => j = rb) w W
  lt : xb < w.heap.size ∧ rb < w.heap.size
  ne : ob ≠ b1 ∧ ob ≠ b2 ∧ w.heap.size + 2 ≤ ob
section
variable {w0 w W W' : World} {v : Nat → Value} {l : Lay} {rs : List RtV} {xb rb : Nat} {st st' : List St} {IB : Obj} {ob b1 b2 n1 n2 : Nat} {dr : List Int} {pr : List Bool}
theorem CyAt.step (h : CyAt w0 w W v l rs xb rb st IB ob b1 b2 n1 n2 dr pr) (hb : Below W.heap.size W W') : CyAt w0 w W' v l rs xb rb st IB ob b1 b2 n1 n2 dr pr :=
  ⟨h.lk.step hb, blk_below hb h.i, blk_below hb h.z, blk_below hb h.o, h.a.below hb, h.len, h.c.trans (Chg.of_below hb), h.lt, h.ne⟩
theorem CyAt.turn (h : CyAt w0 w W v l rs xb rb st IB ob b1 b2 n1 n2 dr pr) (hc : Chg (fun j => j = rb) W W') (hl : RfLk w0 W' v l rs xb rb st') : CyAt w0 w W' v l rs xb rb st' IB ob b1 b2 n1 n2 dr pr := by
  have h1 := h.lt
  have h2 := h.a.base
  have h3 := h.ne
  exact ⟨hl, hc.blk h.i (by omega), hc.blk h.z (by omega), hc.blk h.o (by omega), h.a.chg hc (by omega) (by omega), h.len, h.c.trans hc, h.lt, h.ne⟩
theorem CyAt.out (h : CyAt w0 w W v l rs xb rb st IB ob b1 b2 n1 n2 dr pr) {dr' : List Int} {pr' : List Bool} (ha : OutAt W' (w.heap.size + 2) b1 b2 dr' pr') (hc : Chg (outFoot b1 b2) W W') (hl : dr'.length = n1 ∧ pr'.length = n2) : CyAt w0 w W' v l rs xb rb st IB ob b1 b2 n1 n2 dr' pr' := by
  have h1 := h.lt
  have h2 := h.a.base
  have h3 := h.ne
  have hsz := h.c.size
  refine ⟨⟨hc.blk h.lk.bx ?_, hc.blk h.lk.br ?_, h.lk.ne, h.lk.base, h.lk.bl.trans (hc.below (fun k hk => ?_) h.lk.bl.size), h.lk.ok⟩, hc.blk h.i ?_, hc.blk h.z ?_, hc.blk h.o ?_, ha, hl, ⟨hc.os.trans h.c.os, hc.tape.trans h.c.tape, hc.output.trans h.c.output, Nat.le_trans h.c.size hc.size, fun k hk hn => ?_⟩, h.lt, h.ne⟩
  · rintro (e | e) <;> omega
  · rintro (e | e) <;> omega
  · have := h.lk.base
    rcases hk with e | e <;> omega
  · rintro (e | e) <;> omega
  · rintro (e | e) <;> omega
  · rintro (e | e)
    · exact h3.1 e
    · exact h3.2.1 e
  · exact (hc.block k (by omega) (by rintro (e | e) <;> omega)).trans (h.c.block k hk hn)
end

theorem chg_cell9 {S : Nat → Prop} {W W' : World} {a : Addr} {v : Value} (h : Chg S W W') (hc : W.cell? a = some v) (hn : ¬ S a.block) : W'.cell? a = some v := by
  have := h.block a.block (World.block_lt_of_cell? W a hc) hn
  unfold World.cell? at hc ⊢
  rw [this]
  exact hc
theorem need_ne {W : World} {B b1 b2 gp i : Nat} {dr : List Int} {pr : List Bool} {z : Int} {rv : Bool} (ha : OutAt W B b1 b2 dr pr) (h0 : W.cell? ⟨gp, i, none⟩ = some (.int .i64 z)) (h1 : W.cell? ⟨gp, i + 1, none⟩ = some (.bool rv)) : gp ≠ b1 ∧ gp ≠ b2 := by
  refine ⟨fun e => ?_, fun e => ?_⟩
  · subst e
    simp [World.cell?, ha.h1] at h1
  · subst e
    simp [World.cell?, ha.h2] at h0

set_option maxRecDepth 1000000 in
set_option maxHeartbeats 64000000 in
theorem rlCyc_any (w0 w : World) (v : Nat → Value) (l : Lay) (rs : List RtV) (xb rb : Nat) (ss : List St) (u : Nat → Value) (occ : List Bool) (lies : List Int) (hL : LayRd w0 v l rs) (hcap : ∀ x ∈ rs, capOk x.2.1) (h : RfLk w0 w v l rs xb rb ss) (hin : InRd w0 u occ lies) (hl : lies.length ≤ 4294967296) :
    Calls Tryz.prog 20 #[.pointer (some ⟨xb, 0, none⟩), .agg #[u 0, u 1]] w fun e w' => (∃ y, e = .returned y) ∧ RfLk w0 w' v l rs xb rb (cycG l rs ss occ lies).1 ∧ Chg (fun j => j = rb) w w' := by
  have hfew := h.ok.few
  have hlr := h.len
  rw [waysG_map, List.length_map] at hfew
  have hwy : ∀ (j : Nat) (x : RtV), rs[j]? = some x → WyOk l.sections.length (l.points.map (·.2)).length l.signals.length (wayF rs (0 + j) x.1) := fun j x hx => h.ok.ways _ (List.mem_of_getElem? (ways_at rs rs 0 j x hx))
  have SAF : Hid (∀ (U : World) (s' : List St), RfLk w0 U v l rs xb rb s' → Calls Tryz.prog 42 #[.pointer (some ⟨xb, 0, none⟩)] U fun e w' => ∃ b1 b2, e = .returned (outV b1 b2 l.points.length l.signals.length) ∧ OutAt w' U.heap.size b1 b2 (List.replicate l.points.length 0) (List.replicate l.signals.length false) ∧ Below U.heap.size U w') := fun U s' hU => rlSafe_any w0 U v l rs xb rb s' hL hU
  have MYI : Hid (∀ U, Below w0.heap.size w0 U → Calls Tryz.prog 12 #[.agg #[v 0, v 1, v 2, v 3], .agg #[u 0, u 1]] U fun e w' => e = .returned (.bool (inB2 occ lies l.sections.length l.points.length)) ∧ Below U.heap.size U w') := fun U hU => rfMayIn_any v l rs u occ lies U (hL.below hU) (hin.below hU) hl
  have STP : Hid (occ.length = l.sections.length ∧ lies.length = l.points.length → ∀ (U : World) (s' : List St), RfLk w0 U v l rs xb rb s' → ∀ (k : Nat) (x : RtV) (s : St), rs[k]? = some x → s'[k]? = some s → Calls Tryz.prog 43 #[.pointer (some ⟨xb, 0, none⟩), .agg #[u 0, u 1], .int .i64 k] U fun e w' => e = .returned (.tuple #[]) ∧ RfLk w0 w' v l rs xb rb (s'.set k (stepF s (wayF rs (0 + k) x.1) occ lies)) ∧ Chg (fun j => j = rb) U w') := fun hn U s' hU k x s hx hs => rlStep_any w0 U v l rs xb rb s' u occ lies k x s.1 s.2.1 s.2.2.1 s.2.2.2 hL hU hin hn hx hs
  have NDS : Hid (∀ U, Below w0.heap.size w0 U → ∀ (k : Nat) (x : RtV), rs[k]? = some x → Calls Tryz.prog 44 #[.agg #[v 0, v 1, v 2, v 3], .int .i64 k] U fun e w' => ∃ u, e = .returned u ∧ rowAt w' u 2 nC (x.1.points ++ x.1.flank) ∧ Below U.heap.size U w') := fun U hU k x hx => rfNeeds_any v l rs k x U (hL.below hU) hx (by have := (hwy k x hx).few.2.1; rw [show (wayF rs (0 + k) x.1).needs = x.1.points ++ x.1.flank from rfl, List.length_append] at this; exact this)
  have HOL : Hid (∀ (U : World) (s' : List St), RfLk w0 U v l rs xb rb s' → ∀ sec : Int, Calls Tryz.prog 45 #[.pointer (some ⟨xb, 0, none⟩), .int .i64 sec] U fun e w' => e = .returned (.int .i64 (holderF (waysG rs rs 0) s' sec)) ∧ Below U.heap.size U w') := fun U s' hU sec => rlHolder_any w0 U v l rs xb rb s' sec hL hcap hU
  have CLR : Hid (occ.length = l.sections.length ∧ lies.length = l.points.length → ∀ U, Below w0.heap.size w0 U → ∀ (k : Nat) (x : RtV), rs[k]? = some x → Calls Tryz.prog 36 #[.agg #[v 0, v 1, v 2, v 3], .int .i64 k, .agg #[u 0, u 1]] U fun e w' => e = .returned (.bool (clearB occ x.1.path)) ∧ Below U.heap.size U w') := fun hn U hU k x hx => rfClear_any v l rs k x u occ lies U (hL.below hU) (hin.below hU) hx ⟨(hwy k x hx).few.1, by omega⟩ fun s hs => by rw [hn.1]; exact (hwy k x hx).path s hs
  have RGT : Hid (occ.length = l.sections.length ∧ lies.length = l.points.length → ∀ U, Below w0.heap.size w0 U → ∀ (k : Nat) (x : RtV), rs[k]? = some x → Calls Tryz.prog 37 #[.agg #[v 0, v 1, v 2, v 3], .int .i64 k, .agg #[u 0, u 1]] U fun e w' => e = .returned (.bool (rightB lies (x.1.points ++ x.1.flank))) ∧ Below U.heap.size U w') := fun hn U hU k x hx => rfRight_any v l rs k x u occ lies U (hL.below hU) (hin.below hU) hx ⟨by have := (hwy k x hx).few.2.1; rw [show (wayF rs (0 + k) x.1).needs = x.1.points ++ x.1.flank from rfl, List.length_append] at this; exact this, by omega⟩ fun s hs => by have := (hwy k x hx).needs s hs; rw [List.length_map] at this; rw [hn.2]; exact this
  have NDB : Hid (∀ (k : Nat) (x : RtV), rs[k]? = some x → (x.1.points ++ x.1.flank).length ≤ 1000000 ∧ (0 ≤ x.1.frm ∧ x.1.frm < (l.signals.length : Nat)) ∧ ∀ s ∈ x.1.points ++ x.1.flank, 0 ≤ s.1 ∧ s.1 < (l.points.length : Nat)) := fun k x hx => ⟨(hwy k x hx).few.2.1, (hwy k x hx).frm, fun s hs => by have := (hwy k x hx).needs s hs; rw [List.length_map] at this; exact this⟩
  have HSEC : Hid (∀ (k : Nat) (pt : ByteArray × Int), l.points[k]? = some pt → 0 ≤ pt.2 ∧ pt.2 < (l.sections.length : Nat)) := fun k pt hk => h.ok.inn _ (List.mem_map.2 ⟨pt, List.mem_of_getElem? hk, rfl⟩)
  have INL : Hid (inB2 occ lies l.sections.length l.points.length = true → occ.length = l.sections.length ∧ lies.length = l.points.length) := fun hb => by
    rw [inB2, Bool.and_eq_true, Bool.and_eq_true, decide_eq_true_eq, decide_eq_true_eq] at hb
    omega
  have HFF : Hid (inB2 occ lies l.sections.length l.points.length = false → (cycG l rs ss occ lies).1 = ss) := fun hb => by
    have hb' : inB2 occ lies l.sections.length (l.points.map (·.2)).length = false := by rw [List.length_map]; exact hb
    rw [cycG, cycF, hb']
    rfl
  have HFT : Hid (inB2 occ lies l.sections.length l.points.length = true → (cycG l rs ss occ lies).1 = stepAll occ lies (waysG rs rs 0) ss) := fun hb => by
    have hb' : inB2 occ lies l.sections.length (l.points.map (·.2)).length = true := by rw [List.length_map]; exact hb
    rw [cycG, cycF, if_pos hb']
  generalize (cycG l rs ss occ lies).1 = ans at *
  have HCU : Hid (∀ (j : Nat) (x : RtV) (s : St), rs[j]? = some x → ss[j]? = some s → (curF occ lies (waysG rs rs 0) ss j)[j]? = some s ∧ (curF occ lies (waysG rs rs 0) ss j).set j (stepF s (wayF rs (0 + j) x.1) occ lies) = curF occ lies (waysG rs rs 0) ss (j + 1)) := fun j x s hx hs => ⟨curF_at hs, curF_set (ways_at rs rs 0 j x hx) hs⟩
  have HC0 : Hid (curF occ lies (waysG rs rs 0) ss 0 = ss) := by show _ = _; simp [curF]
  have HCN : Hid (curF occ lies (waysG rs rs 0) ss rs.length = stepAll occ lies (waysG rs rs 0) ss) := by
    show _ = _
    rw [curF, List.take_of_length_le (by rw [stepAll_len, hlr]; exact Nat.le_refl _), List.drop_of_length_le (by rw [hlr]; exact Nat.le_refl _), List.append_nil]
  have HSL : Hid ((stepAll occ lies (waysG rs rs 0) ss).length = rs.length) := by show _ = _; rw [stepAll_len, hlr]
  generalize stepAll occ lies (waysG rs rs 0) ss = st at *
  generalize curF occ lies (waysG rs rs 0) ss = cur at *
  have HR : Hid (RfLk w0 w v l rs xb rb ss) := h
  have HLT : Hid (xb < w.heap.size ∧ rb < w.heap.size) := h.lt
  have HLR : Hid (ss.length = rs.length) := hlr
  obtain ⟨o0, c0, e0, _⟩ := hL.s
  obtain ⟨o1, c1, e1, r1⟩ := hL.p
  obtain ⟨o2, c2, e2, _⟩ := hL.g
  obtain ⟨o3, c3, e3, r3⟩ := hL.r
  have HPT := (show Hid _ from r1)
  have HRT := (show Hid _ from r3)
  obtain ⟨p0, d0, f0, q0⟩ := hin.o
  obtain ⟨p1, d1, f1, q1⟩ := hin.l
  have HOC := (show Hid _ from row_bool (w := w0) ⟨p0, d0, rfl, q0⟩)
  have HLI := (show Hid _ from row_int (w := w0) ⟨p1, d1, rfl, q1⟩)
  rw [e0, e1, e2, e3] at MYI NDS CLR RGT
  rw [f0, f1] at MYI STP CLR RGT ⊢
  have HCLX : Hid (∀ (U : World) (s' : List St), RfLk w0 U v l rs xb rb s' → U.cell? ⟨xb, 0, none⟩ = some (.slice o0 l.sections.length c0) ∧ U.cell? ⟨xb, 1, none⟩ = some (.slice o1 l.points.length c1) ∧ U.cell? ⟨xb, 2, none⟩ = some (.slice o2 l.signals.length c2) ∧ U.cell? ⟨xb, 3, none⟩ = some (.slice o3 rs.length c3) ∧ U.cell? ⟨xb, 4, none⟩ = some (.slice (some ⟨rb, 0, none⟩) rs.length rs.length)) := fun U s' hU => by
    have := hU.cells
    rw [e0, e1, e2, e3] at this
    exact this
  clear h hL hin hwy hlr r1 r3 q0 q1 e0 e1 e2 e3 f0 f1 hcap hl
  obtain ⟨n0, hz0⟩ : ∃ n, l.sections.length = n := ⟨_, rfl⟩
  obtain ⟨n1, hz1⟩ : ∃ n, l.points.length = n := ⟨_, rfl⟩
  obtain ⟨n2, hz2⟩ : ∃ n, l.signals.length = n := ⟨_, rfl⟩
  obtain ⟨n3, hz3⟩ : ∃ n, rs.length = n := ⟨_, rfl⟩
  obtain ⟨m0, hm0⟩ : ∃ n, occ.length = n := ⟨_, rfl⟩
  obtain ⟨m1, hm1⟩ : ∃ n, lies.length = n := ⟨_, rfl⟩
  rw [hz0, hz1, hz2, hz3] at MYI
  rw [hz0, hz1] at INL HFF HFT
  rw [hz0, hz1, hz2, hz3] at HCLX NDS CLR RGT hfew
  rw [hz0, hz1] at STP
  rw [hz1, hz2] at SAF NDB
  rw [hz0] at HSEC
  rw [hz3] at HCN HSL HLR
  rw [hm0, hm1] at MYI STP CLR RGT INL ⊢
  have HZ : Hid (l.points.length = n1 ∧ rs.length = n3 ∧ occ.length = m0 ∧ lies.length = m1) := ⟨hz1, hz3, hm0, hm1⟩
  clear hz0 hz1 hz2 hz3 hm0 hm1
  obtain ⟨hn0, hn1, hn2, hn3⟩ := hfew
  generalize hch : (w.alloc (.cells #[.slice p0 m0 d0, .slice p1 m1 d1] 38)).alloc (.cells #[.slice none 0 0, .slice none 0 0] 46) = w1
  have HB01 : Hid (Below w.heap.size w w1) := by show Below _ _ _; rw [← hch]; exact (by repeat' (with_reducible first | exact Below.refl _ _ | refine Below.drew ?_ | refine _root_.Go.below_drewN ?_ _ | refine Below.alloc ?_ ?_ _ | refine Below.setCell ?_ ?_ _ | exact Nat.le_refl _ | (simp; done) | (simp; omega)))
  have HSZ : Hid (w1.heap.size = w.heap.size + 2) := by show _ = _; rw [← hch]; simp
  have H1 : Hid (w1.heap[w.heap.size]? = some (.cells #[.slice p0 m0 d0, .slice p1 m1 d1] 38 (0, 0))) := by show _ = _; rw [← hch]; exact blk_old (blk_new _ _)
  have H2 : Hid (w1.heap[w.heap.size + 1]? = some (.cells #[.slice none 0 0, .slice none 0 0] 46 (0, 0))) := by show _ = _; rw [← hch]; exact blk_at1 _ _ _
  go_enter Tryz.func20, Tryz.ntmps20
  go_wp2_with fail
  clear hch
  refine (SAF.out w1 ss (HR.out.step HB01.out)).mono ?_
  rintro e w2 ⟨b1, b2, rfl, ho, hb⟩
  have HB12 : Hid (Below w1.heap.size w1 w2) := hb
  have HO2 : Hid (OutAt w2 (w.heap.size + 2) b1 b2 (List.replicate n1 0) (List.replicate n2 false)) := by show OutAt _ _ _ _ _ _; rw [← HSZ.out]; exact ho
  clear ho hb
  simp only [outV]
  go_upto_region 2 with fail
  generalize hco : w2.alloc (.cells #[.slice (some ⟨b1, 0, none⟩) n1 n1, .slice (some ⟨b2, 0, none⟩) n2 n2] 46) = w3
  have HC3 : Hid (CyAt w0 w w3 v l rs xb rb ss (.cells #[.slice p0 m0 d0, .slice p1 m1 d1] 38 (0, 0)) w2.heap.size b1 b2 n1 n2 (List.replicate n1 0) (List.replicate n2 false)) := by
    have hb3 : Below w2.heap.size w2 w3 := by rw [← hco]; exact (Below.refl _ _).alloc (Nat.le_refl _) _
    have hb13 : Below w1.heap.size w1 w3 := HB12.out.trans (hb3.mono HB12.out.size)
    have hbw : Below w.heap.size w w3 := HB01.out.trans (hb13.mono HB01.out.size)
    have hl2 := HO2.out.lt
    have h12 := HB12.out.size
    have hs1 := HSZ.out
    exact ⟨HR.out.step hbw, blk_below hb13 H1.out, blk_below hb13 H2.out, by rw [← hco]; exact blk_new _ _, HO2.out.below hb3, ⟨by simp, by simp⟩, Chg.of_below hbw, HLT.out, ⟨by omega, by omega, by omega⟩⟩
  clear hco HB12 HO2 H1 H2
  generalize w2.heap.size = ob at *
  obtain ⟨q0, q1, q2, q3, q4⟩ := HCLX.out w3 ss HC3.out.lk
  obtain ⟨i0, i1⟩ := cells2 HC3.out.i
  have y0 := ext_cell q0
  have y1 := ext_cell q1
  have y2 := ext_cell q2
  have y3 := ext_cell q3
  have y4 := ext_cell i0
  have y5 := ext_cell i1
  haveI := ext_some w3
  have HBQ : Hid (Below w3.heap.size w3 w3.drew) := (Below.refl _ _).drew
  clear q0 q1 q2 q3 q4 i0 i1
  refine wp_region_mix_seq (C := fun W => ∃ y : Ext w3, W = y.z) [0, 1, 2, 3, 4, 5, 6] (by kernel_rfl) (by kernel_rfl) (by kernel_rfl) (by kernel_rfl) (by simp only [List.filterMap_cons, List.getElem?_toArray, List.getElem?_cons_zero, List.getElem?_cons_succ, List.filterMap_nil]; rfl) ⟨⟨_, HBQ.out⟩, rfl⟩ ?_
  generalize w3.drew = wd at *
  (repeat (first | (with_reducible refine mix_read (by kernel_rfl) ?_; go_big_quiet_want; go_big_quiet_op; go_big_quiet_on; with_reducible refine wpQuiet_nil ?_) | (with_reducible refine mix_pass (by kernel_rfl) ?_; go_big_quiet_skip; with_reducible refine wpQuiet_nil ?_)))
  with_reducible refine mix_call (by kernel_rfl) (by kernel_rfl) ((MYI.out wd (HC3.out.step HBQ.out).lk.bl).mono ?_) (by kernel_rfl)
  rintro e w4 ⟨rfl, hb⟩
  have HB34 : Hid (Below w3.heap.size w3 w4) := HBQ.out.trans (hb.mono HBQ.out.size)
  clear hb
  refine ⟨_, rfl, ⟨⟨_, HB34.out⟩, rfl⟩, ?_⟩
  simp only [Act.put, List.setIfInBounds_toArray, List.set_cons_zero, List.set_cons_succ]
  (repeat (first | (with_reducible refine mix_read (by kernel_rfl) ?_; go_big_quiet_want; go_big_quiet_op; go_big_quiet_on; with_reducible refine wpQuiet_nil ?_) | (with_reducible refine mix_pass (by kernel_rfl) ?_; go_big_quiet_skip; with_reducible refine wpQuiet_nil ?_)))
  with_reducible refine mix_end ?_
  intro _
  clear y0 y1 y2 y3 y4 y5
  have HC4 := (show Hid _ from HC3.out.step HB34.out)
  clear HC3 HB34 HBQ
  cases hbi : inB2 occ lies n0 n1
  · have HE : Hid (ans = ss) := HFF.out hbi
    clear hbi
    obtain ⟨g0, g1⟩ := cells2 HC4.out.o
    obtain ⟨z0, z1⟩ := cells2 HC4.out.z
    have z2 := froz2 HC4.out.z 0
    have z3 := froz2 HC4.out.z 1
    have HFI : Hid (RfLk w0 (((w4.setCell ⟨w.heap.size + 1, 0, none⟩ (.slice (some ⟨b1, 0, none⟩) n1 n1))).setCell ⟨w.heap.size + 1, 1, none⟩ (.slice (some ⟨b2, 0, none⟩) n2 n2)) v l rs xb rb ss ∧ Chg (fun j => j = rb) w (((w4.setCell ⟨w.heap.size + 1, 0, none⟩ (.slice (some ⟨b1, 0, none⟩) n1 n1))).setCell ⟨w.heap.size + 1, 1, none⟩ (.slice (some ⟨b2, 0, none⟩) n2 n2))) := by
      have hs := HC4.out.lt
      have hw : ∀ k, k ≠ w.heap.size + 1 → (((w4.setCell ⟨w.heap.size + 1, 0, none⟩ (.slice (some ⟨b1, 0, none⟩) n1 n1))).setCell ⟨w.heap.size + 1, 1, none⟩ (.slice (some ⟨b2, 0, none⟩) n2 n2)).heap[k]? = w4.heap[k]? := fun k hk => by
        rw [Below.heap_setCell _ _ _ _ (by exact hk), Below.heap_setCell _ _ _ _ (by exact hk)]
      have hch : Chg (fun k => k = w.heap.size + 1) w4 (((w4.setCell ⟨w.heap.size + 1, 0, none⟩ (.slice (some ⟨b1, 0, none⟩) n1 n1))).setCell ⟨w.heap.size + 1, 1, none⟩ (.slice (some ⟨b2, 0, none⟩) n2 n2)) := ⟨rfl, rfl, rfl, by simp [World.setCell], fun k _ hk => hw k hk⟩
      have hlk := HC4.out.lk
      have hww := hlk.base
      have hc0 := HC4.out.c
      refine ⟨⟨hch.blk hlk.bx (by omega), hch.blk hlk.br (by omega), hlk.ne, hlk.base, hlk.bl.trans (hch.below (fun k hk => by rw [hk]; omega) hlk.bl.size), hlk.ok⟩, ⟨hc0.os, hc0.tape, hc0.output, Nat.le_trans hc0.size hch.size, fun k hk hn => (hch.block k (Nat.lt_of_lt_of_le hk hc0.size) (by omega)).trans (hc0.block k hk hn)⟩⟩
    go_wp2
    exact bodyPost_ret (v := outV b1 b2 n1 n2) (by simp [results, Tryz.results20, go_sem, outV, z0, z1]) rfl ⟨⟨_, rfl⟩, by rw [HE.out]; exact HFI.out.1, HFI.out.2⟩
  · have HE : Hid (ans = st) := HFT.out hbi
    have HNL : Hid (m0 = n0 ∧ m1 = n1) := INL.out hbi
    have STP2 := (show Hid _ from STP.out HNL.out)
    have CLR2 := (show Hid _ from CLR.out HNL.out)
    have RGT2 := (show Hid _ from RGT.out HNL.out)
    clear hbi STP CLR RGT HFF HFT
    obtain ⟨-, -, -, -, q4⟩ := HCLX.out w4 ss HC4.out.lk
    go_wp2
    clear q4
    go_loopg [6] n3 (fun gk i wr => ∃ j : Nat, gk = n3 - j ∧ i = .int .i64 j ∧ j ≤ n3 ∧ CyAt w0 w wr v l rs xb rb (cur j) (.cells #[.slice p0 m0 d0, .slice p1 m1 d1] 38 (0, 0)) ob b1 b2 n1 n2 (List.replicate n1 0) (List.replicate n2 false))
    case atStart => exact ⟨0, rfl, rfl, by omega, by rw [HC0.out]; exact HC4.out⟩
    case round =>
      obtain ⟨j, rfl, rfl, hj, hcy⟩ := hrel
      have HCJ : Hid (CyAt w0 w wr v l rs xb rb (cur j) (.cells #[.slice p0 m0 d0, .slice p1 m1 d1] 38 (0, 0)) ob b1 b2 n1 n2 (List.replicate n1 0) (List.replicate n2 false)) := hcy
      clear hcy HC4
      obtain ⟨-, -, -, -, q4⟩ := HCLX.out wr (cur j) HCJ.out.lk
      by_cases hlt : j < n3
      · have hji : (j : Int) < (n3 : Int) := by omega
        obtain ⟨x, hx⟩ := at_of (l := rs) (k := j) (by have := HZ.out.2.1; omega)
        obtain ⟨s, hs⟩ := at_of (l := ss) (k := j) (by have := HLR.out; omega)
        obtain ⟨i0, i1⟩ := cells2 HCJ.out.i
        have hcu := HCU.out j x s hx hs
        have D := STP2.out wr (cur j) HCJ.out.lk j x s hx hcu.1
        rw [hcu.2] at D
        clear hx hs hcu
        go_wp2_with fail
        refine D.mono ?_
        rintro e w5 ⟨rfl, hlk, hc⟩
        have HC5 := (show Hid _ from HCJ.out.turn hc hlk)
        clear hlk hc D i0 i1 q4
        go_wp2
        go_roundg (n3 - (j + 1))
        case rel => exact ⟨j + 1, rfl, by go_num, by omega, HC5.out⟩
        case measure => omega
      · have hji : ¬ (j : Int) < (n3 : Int) := by omega
        have hjn : j = n3 := by omega
        have HCK : Hid (CyAt w0 w wr v l rs xb rb st (.cells #[.slice p0 m0 d0, .slice p1 m1 d1] 38 (0, 0)) ob b1 b2 n1 n2 (List.replicate n1 0) (List.replicate n2 false)) := by have h9 := HCJ.out; rw [hjn, HCN.out] at h9; exact h9
        clear HCJ hjn
        go_wp2
        clear hji hlt hj q4
        go_loopg [7] n3 (fun gk i wr => ∃ (j : Nat) (dr : List Int) (pr : List Bool), gk = n3 - j ∧ i = .int .i64 j ∧ j ≤ n3 ∧ CyAt w0 w wr v l rs xb rb st (.cells #[.slice p0 m0 d0, .slice p1 m1 d1] 38 (0, 0)) ob b1 b2 n1 n2 dr pr)
        case atStart => exact ⟨0, _, _, rfl, rfl, by omega, HCK.out⟩
        case round =>
          clear HCK
          obtain ⟨j, dr, pr, rfl, rfl, hj, hcy⟩ := hrel
          have HCJ : Hid (CyAt w0 w wr v l rs xb rb st (.cells #[.slice p0 m0 d0, .slice p1 m1 d1] 38 (0, 0)) ob b1 b2 n1 n2 dr pr) := hcy
          clear hcy
          obtain ⟨q0, q1, q2, q3, q4⟩ := HCLX.out wr st HCJ.out.lk
          by_cases hlt : j < n3
          · have hji : (j : Int) < (n3 : Int) := by omega
            obtain ⟨x, hx⟩ := at_of (l := rs) (k := j) (by have := HZ.out.2.1; omega)
            obtain ⟨⟨m, t, g, b⟩, hst⟩ := at_of (l := st) (k := j) (by have := HSL.out; omega)
            have HX : Hid (rs[j]? = some x ∧ st[j]? = some (m, t, g, b)) := ⟨hx, hst⟩
            obtain ⟨s0, -, -, -⟩ := HCJ.out.lk.stAt_ hst
            clear hx hst
            by_cases hm1 : m = 1
            · have hm2 : (m == 1) = true := by simp [hm1]
              have hm3 : (m == 2) = false := by simp [hm1]
              have D := NDS.out wr HCJ.out.lk.bl j x HX.out.1
              clear hm1
              go_wp2_with fail
              refine D.mono ?_
              rintro e w5 ⟨vn, rfl, hvn, hb⟩
              have HC5 := (show Hid _ from HCJ.out.step hb)
              obtain ⟨on, cn, en, qn⟩ := hvn
              have HN := (show Hid _ from row_need (w := w5) ⟨on, cn, rfl, qn⟩)
              have hnb := NDB.out j x HX.out.1
              generalize x.1.points ++ x.1.flank = nd at *
              obtain ⟨nn, hnn⟩ : ∃ n, nd.length = n := ⟨_, rfl⟩
              rw [hnn] at en hnb
              subst en
              have hnl : nn ≤ 1000000 := hnb.1
              have HNN : Hid (nd.length = nn ∧ ∀ s ∈ nd, 0 ≤ s.1 ∧ s.1 < (n1 : Nat)) := ⟨hnn, hnb.2.2⟩
              clear qn hnn hnb hb D HCJ q0 q1 q2 q3 q4 s0
              go_wp2
              go_loopg [9] nn (fun gk i wr => ∃ (q : Nat) (dr : List Int) (pr : List Bool), gk = nn - q ∧ i = .int .i64 q ∧ q ≤ nn ∧ CyAt w0 w wr v l rs xb rb st (.cells #[.slice p0 m0 d0, .slice p1 m1 d1] 38 (0, 0)) ob b1 b2 n1 n2 dr pr ∧ Chg (outFoot b1 b2) w5 wr)
              case atStart => exact ⟨0, _, _, rfl, rfl, by omega, HC5.out, Chg.refl _ _⟩
              case round =>
                obtain ⟨q, dr, pr, rfl, rfl, hq, hcy, hcg⟩ := hrel
                have HCQ : Hid (CyAt w0 w wr v l rs xb rb st (.cells #[.slice p0 m0 d0, .slice p1 m1 d1] 38 (0, 0)) ob b1 b2 n1 n2 dr pr) := hcy
                have HCG : Hid (Chg (outFoot b1 b2) w5 wr) := hcg
                clear hcy hcg
                by_cases hqn : q < nn
                · have hqi : (q : Int) < (nn : Int) := by omega
                  obtain ⟨⟨z, rv⟩, hz⟩ : ∃ z, nd[q]? = some z := at_of (by have := HNN.out.1; omega)
                  obtain ⟨gp, fp, rfl, b0, b2'⟩ := HN.out q _ hz
                  have hzb := HNN.out.2 _ (List.mem_of_getElem? hz)
                  simp only at b0 b2' hzb
                  have hne9 := need_ne HC5.out.a b0 b2'
                  have N0 : Hid (wr.cell? ⟨gp, fp + q * 2, none⟩ = some (.int .i64 z)) := chg_cell9 HCG.out b0 (by rintro (e | e); exact hne9.1 e; exact hne9.2 e)
                  have N1 : Hid (wr.cell? ⟨gp, fp + q * 2 + 1, none⟩ = some (.bool rv)) := chg_cell9 HCG.out b2' (by rintro (e | e); exact hne9.1 e; exact hne9.2 e)
                  obtain ⟨zk, rfl, hzk⟩ := nat_of (n := n1) (i := z) hzb
                  obtain ⟨lv, hlv⟩ : ∃ lv, lies[zk]? = some lv := at_of (by have := HZ.out.2.2.2; have := HNL.out.2; omega)
                  obtain ⟨⟨nm, sec⟩, hpt⟩ := at_of (l := l.points) (k := zk) (by have := HZ.out.1; omega)
                  have hsb := HSEC.out zk _ hpt
                  simp only at hsb
                  obtain ⟨sk, rfl, hsk⟩ := nat_of (n := n0) (i := sec) hsb
                  obtain ⟨bo, hbo⟩ : ∃ bo, occ[sk]? = some bo := at_of (by have := HZ.out.2.2.1; have := HNL.out.1; omega)
                  obtain ⟨go, fo, rfl, b3⟩ := HOC.out sk _ hbo
                  obtain ⟨gl, fl, rfl, b4⟩ := HLI.out zk _ hlv
                  obtain ⟨g1, f1, rfl, hcx⟩ := HPT.out zk _ hpt
                  have b5 := hcx 1 _ rfl
                  obtain ⟨q0, q1, q2, q3, q4⟩ := HCLX.out wr st HCQ.out.lk
                  have hzi : (zk : Int) < (n1 : Int) := by omega
                  have hzm : (zk : Int) < (m1 : Int) := by have := HNL.out.2; omega
                  have hsi : (sk : Int) < (m0 : Int) := by have := HNL.out.1; omega
                  have y1 := ext_cell q1
                  have y2 := ext_cell N0.out
                  have y4 := ext_cell (up_cell HCQ.out.lk.bl b5)
                  haveI := ext_some wr
                  have HBQ : Hid (Below wr.heap.size wr wr.drew) := (Below.refl _ _).drew
                  have B3 := (show Hid _ from b3)
                  have B4 := (show Hid _ from b4)
                  clear hz hzb hlv hpt hsb hbo hcx b0 b2' b3 b4 b5 q0 q1 q2 q3 q4 hne9
                  go_wp2_with fail
                  refine wp_region_mix_seq (C := fun W => ∃ y : Ext wr, W = y.z) [0, 1, 2, 3, 4, 5, 6, 7, 8, 9, 10, 11, 12, 13] (by kernel_rfl) (by kernel_rfl) (by kernel_rfl) (by kernel_rfl) (by simp only [List.filterMap_cons, List.getElem?_toArray, List.getElem?_cons_zero, List.getElem?_cons_succ, List.filterMap_nil]; rfl) ⟨⟨_, HBQ.out⟩, rfl⟩ ?_
                  (repeat (first | (with_reducible refine mix_read (by kernel_rfl) ?_; go_big_quiet_want; go_big_quiet_op; go_big_quiet_on; with_reducible refine wpQuiet_nil ?_) | (with_reducible refine mix_pass (by kernel_rfl) ?_; go_big_quiet_skip; with_reducible refine wpQuiet_nil ?_)))
                  with_reducible refine mix_end ?_
                  intro _
                  clear y1 y2 y4
                  generalize wr.drew = wx at *
                  have HCX := (show Hid _ from HCQ.out.step HBQ.out)
                  have D := HOL.out wx st HCX.out.lk (sk : Int)
                  generalize holderF (waysG rs rs 0) st (sk : Int) = hv at D
                  go_wp2_with fail
                  refine D.mono ?_
                  rintro e w6 ⟨rfl, hb⟩
                  have HB6 : Hid (Below wr.heap.size wr w6) := HBQ.out.trans (hb.mono HBQ.out.size)
                  have HC6 := (show Hid _ from HCX.out.step hb)
                  clear D hb HCX
                  obtain ⟨i0, i1⟩ := cells2 HC6.out.i
                  have y1 := ext_cell i0
                  have y2 := ext_cell i1
                  have y3 := ext_cell (up_cell HB6.out N0.out)
                  have y4 := ext_cell (up_cell HB6.out N1.out)
                  have y5 := ext_cell (up_cell HC6.out.lk.bl B3.out)
                  have y6 := ext_cell (up_cell HC6.out.lk.bl B4.out)
                  haveI := ext_some w6
                  have HBP : Hid (Below w6.heap.size w6 w6.drew) := (Below.refl _ _).drew
                  obtain ⟨ps, hps⟩ : ∃ p, posF rv = p := ⟨_, rfl⟩
                  have HPS : Hid (posF rv = ps) := hps
                  clear hps i0 i1
                  by_cases hbp : lv = ps
                  · have hne : (lv != ps) = false := by simp [hbp]
                    clear hbp
                    go_wp2_with fail
                    refine wp_region_mix_seq (C := fun W => ∃ y : Ext w6, W = y.z) [0, 1, 2, 3, 4, 5, 6, 7, 8, 9, 10, 11, 12, 13, 14, 15, 16, 17, 18, 19, 20, 21, 22, 23, 24, 25, 26, 27, 28, 29, 30, 31] (by kernel_rfl) (by kernel_rfl) (by kernel_rfl) (by kernel_rfl) (by simp only [List.filterMap_cons, List.getElem?_toArray, List.getElem?_cons_zero, List.getElem?_cons_succ, List.filterMap_nil]; rfl) ⟨⟨_, HBP.out⟩, rfl⟩ ?_
                    generalize w6.drew = wd at *
                    (repeat (first | (with_reducible refine mix_read (by kernel_rfl) ?_; go_big_quiet_want; go_big_quiet_op; go_big_quiet_on; with_reducible refine wpQuiet_nil ?_) | (with_reducible refine mix_pass (by kernel_rfl) ?_; go_big_quiet_skip; with_reducible refine wpQuiet_nil ?_)))
                    with_reducible refine mix_call (by kernel_rfl) (by kernel_rfl) ((rfSide_any (zk : Int) rv wd).mono ?_) (by kernel_rfl)
                    rintro e w7 ⟨rfl, hb⟩
                    rw [HPS.out]
                    have HB7 : Hid (Below w6.heap.size w6 w7) := HBP.out.trans (hb.mono HBP.out.size)
                    clear hb
                    refine ⟨_, rfl, ⟨⟨_, HB7.out⟩, rfl⟩, ?_⟩
                    simp only [Act.put, List.setIfInBounds_toArray, List.set_cons_zero, List.set_cons_succ]
                    (repeat (first | (with_reducible refine mix_read (by kernel_rfl) ?_; go_big_quiet_want; go_big_quiet_op; go_big_quiet_on; with_reducible refine wpQuiet_nil ?_) | (with_reducible refine mix_pass (by kernel_rfl) ?_; go_big_quiet_skip; with_reducible refine wpQuiet_nil ?_)))
                    with_reducible refine mix_end ?_
                    intro _
                    clear y1 y2 y3 y4 y5 y6
                    have HB67 : Hid (Below wr.heap.size wr w7) := HB6.out.trans (HB7.out.mono HB6.out.size)
                    have HC7 := (show Hid _ from HC6.out.step HB7.out)
                    go_wp2
                    go_roundg (nn - (q + 1))
                    case rel => exact ⟨q + 1, _, _, rfl, by go_num, by omega, HC7.out, HCG.out.trans (Chg.of_below HB67.out)⟩
                    case measure => omega
                  · have hne : (lv != ps) = true := by simp [hbp]
                    clear hbp
                    cases bo
                    · by_cases hh0 : hv < 0
                      · have hhd : decide (hv < 0) = true := decide_eq_true hh0
                        go_wp2_with fail
                        refine wp_region_mix_seq (C := fun W => ∃ y : Ext w6, W = y.z) [0, 1, 2, 3, 4, 5, 6, 7, 8, 9, 10, 11, 12, 13, 14, 15, 16, 17, 18, 19, 20, 21, 22, 23, 24, 25, 26, 27, 28, 29, 30, 31] (by kernel_rfl) (by kernel_rfl) (by kernel_rfl) (by kernel_rfl) (by simp only [List.filterMap_cons, List.getElem?_toArray, List.getElem?_cons_zero, List.getElem?_cons_succ, List.filterMap_nil]; rfl) ⟨⟨_, HBP.out⟩, rfl⟩ ?_
                        generalize w6.drew = wd at *
                        (repeat (first | (with_reducible refine mix_read (by kernel_rfl) ?_; go_big_quiet_want; go_big_quiet_op; go_big_quiet_on; with_reducible refine wpQuiet_nil ?_) | (with_reducible refine mix_pass (by kernel_rfl) ?_; go_big_quiet_skip; with_reducible refine wpQuiet_nil ?_)))
                        with_reducible refine mix_call (by kernel_rfl) (by kernel_rfl) ((rfSide_any (zk : Int) rv wd).mono ?_) (by kernel_rfl)
                        rintro e w7 ⟨rfl, hb⟩
                        rw [HPS.out]
                        have HB7 : Hid (Below w6.heap.size w6 w7) := HBP.out.trans (hb.mono HBP.out.size)
                        clear hb
                        refine ⟨_, rfl, ⟨⟨_, HB7.out⟩, rfl⟩, ?_⟩
                        simp only [Act.put, List.setIfInBounds_toArray, List.set_cons_zero, List.set_cons_succ]
                        (repeat (first | (with_reducible refine mix_read (by kernel_rfl) ?_; go_big_quiet_want; go_big_quiet_op; go_big_quiet_on; with_reducible refine wpQuiet_nil ?_) | (with_reducible refine mix_pass (by kernel_rfl) ?_; go_big_quiet_skip; with_reducible refine wpQuiet_nil ?_)))
                        with_reducible refine mix_end ?_
                        intro _
                        clear y1 y2 y3 y4 y5 y6
                        have HB67 : Hid (Below wr.heap.size wr w7) := HB6.out.trans (HB7.out.mono HB6.out.size)
                        have HC7 := (show Hid _ from HC6.out.step HB7.out)
                        obtain ⟨ov, hov⟩ : ∃ ov, dr[zk]? = some ov := at_of (by have := HC7.out.len.1; omega)
                        have HOV : Hid (dr[zk]? = some ov) := hov
                        obtain ⟨g0, g1'⟩ := cells2 HC7.out.o
                        have y1 := ext_cell g0
                        have y3 := ext_cell (up_cell HB67.out N0.out)
                        have y4 := ext_cell (up_cell HB67.out N1.out)
                        haveI := ext_some w7
                        have HBR9 : Hid (Below w7.heap.size w7 w7.drew) := (Below.refl _ _).drew
                        clear hov g0 g1'
                        go_wp2_with fail
                        refine wp_region_last (C := fun W => ∃ y : Ext w7, W = y.z) [0, 1, 2, 3, 4, 5, 6, 7, 8, 9, 10, 11, 12] [13] (by kernel_rfl) (by kernel_rfl) (by kernel_rfl) (by kernel_rfl) (by simp only [List.filterMap_cons, List.getElem?_toArray, List.getElem?_cons_zero, List.getElem?_cons_succ, List.filterMap_nil]; rfl) (by simp only [List.filterMap_cons, List.getElem?_toArray, List.getElem?_cons_zero, List.getElem?_cons_succ, List.filterMap_nil]; rfl) ⟨⟨_, HBR9.out⟩, rfl⟩ ?_
                        generalize w7.drew = wd7 at *
                        (repeat (first | (with_reducible refine mix_read (by kernel_rfl) ?_; go_big_quiet_want; go_big_quiet_op; go_big_quiet_on; with_reducible refine wpQuiet_nil ?_) | (with_reducible refine mix_pass (by kernel_rfl) ?_; go_big_quiet_skip; with_reducible refine wpQuiet_nil ?_)))
                        with_reducible refine mix_call (by kernel_rfl) (by kernel_rfl) ((rfSide_any (zk : Int) rv wd7).mono ?_) (by kernel_rfl)
                        rintro e w8 ⟨rfl, hb⟩
                        rw [HPS.out]
                        have HB8 : Hid (Below w7.heap.size w7 w8) := HBR9.out.trans (hb.mono HBR9.out.size)
                        clear hb
                        refine ⟨_, rfl, ⟨⟨_, HB8.out⟩, rfl⟩, ?_⟩
                        simp only [Act.put, List.setIfInBounds_toArray, List.set_cons_zero, List.set_cons_succ]
                        (repeat (first | (with_reducible refine mix_read (by kernel_rfl) ?_; go_big_quiet_want; go_big_quiet_op; go_big_quiet_on; with_reducible refine wpQuiet_nil ?_) | (with_reducible refine mix_pass (by kernel_rfl) ?_; go_big_quiet_skip; with_reducible refine wpQuiet_nil ?_)))
                        with_reducible refine mix_end ?_
                        have HC8 := (show Hid _ from HC7.out.step HB8.out)
                        obtain ⟨r0, r1⟩ := HC8.out.a.cell1 HOV.out
                        have hset := HC8.out.a.set1 zk ps
                        have HC9 := (show Hid _ from HC8.out.out hset.1 hset.2 ⟨by rw [List.length_set]; exact HC8.out.len.1, HC8.out.len.2⟩)
                        have HCG9 : Hid (Chg (outFoot b1 b2) w5 (w8.setCell ⟨b1, zk, none⟩ (.int .i64 ps))) := (HCG.out.trans (Chg.of_below (HB67.out.trans (HB8.out.mono HB67.out.size)))).trans hset.2
                        clear hset y1 y3 y4
                        go_wp2
                        go_roundg (nn - (q + 1))
                        case rel => exact ⟨q + 1, _, _, rfl, by go_num, by omega, HC9.out, HCG9.out⟩
                        case measure => omega
                      · have hhd : decide (hv < 0) = false := decide_eq_false hh0
                        by_cases hhj : hv = (j : Int)
                        · have hhe : (hv == (j : Int)) = true := by simp [hhj]
                          clear hhj
                          go_wp2_with fail
                          refine wp_region_mix_seq (C := fun W => ∃ y : Ext w6, W = y.z) [0, 1, 2, 3, 4, 5, 6, 7, 8, 9, 10, 11, 12, 13, 14, 15, 16, 17, 18, 19, 20, 21, 22, 23, 24, 25, 26, 27, 28, 29, 30, 31] (by kernel_rfl) (by kernel_rfl) (by kernel_rfl) (by kernel_rfl) (by simp only [List.filterMap_cons, List.getElem?_toArray, List.getElem?_cons_zero, List.getElem?_cons_succ, List.filterMap_nil]; rfl) ⟨⟨_, HBP.out⟩, rfl⟩ ?_
                          generalize w6.drew = wd at *
                          (repeat (first | (with_reducible refine mix_read (by kernel_rfl) ?_; go_big_quiet_want; go_big_quiet_op; go_big_quiet_on; with_reducible refine wpQuiet_nil ?_) | (with_reducible refine mix_pass (by kernel_rfl) ?_; go_big_quiet_skip; with_reducible refine wpQuiet_nil ?_)))
                          with_reducible refine mix_call (by kernel_rfl) (by kernel_rfl) ((rfSide_any (zk : Int) rv wd).mono ?_) (by kernel_rfl)
                          rintro e w7 ⟨rfl, hb⟩
                          rw [HPS.out]
                          have HB7 : Hid (Below w6.heap.size w6 w7) := HBP.out.trans (hb.mono HBP.out.size)
                          clear hb
                          refine ⟨_, rfl, ⟨⟨_, HB7.out⟩, rfl⟩, ?_⟩
                          simp only [Act.put, List.setIfInBounds_toArray, List.set_cons_zero, List.set_cons_succ]
                          (repeat (first | (with_reducible refine mix_read (by kernel_rfl) ?_; go_big_quiet_want; go_big_quiet_op; go_big_quiet_on; with_reducible refine wpQuiet_nil ?_) | (with_reducible refine mix_pass (by kernel_rfl) ?_; go_big_quiet_skip; with_reducible refine wpQuiet_nil ?_)))
                          with_reducible refine mix_end ?_
                          intro _
                          clear y1 y2 y3 y4 y5 y6
                          have HB67 : Hid (Below wr.heap.size wr w7) := HB6.out.trans (HB7.out.mono HB6.out.size)
                          have HC7 := (show Hid _ from HC6.out.step HB7.out)
                          obtain ⟨ov, hov⟩ : ∃ ov, dr[zk]? = some ov := at_of (by have := HC7.out.len.1; omega)
                          have HOV : Hid (dr[zk]? = some ov) := hov
                          obtain ⟨g0, g1'⟩ := cells2 HC7.out.o
                          have y1 := ext_cell g0
                          have y3 := ext_cell (up_cell HB67.out N0.out)
                          have y4 := ext_cell (up_cell HB67.out N1.out)
                          haveI := ext_some w7
                          have HBR9 : Hid (Below w7.heap.size w7 w7.drew) := (Below.refl _ _).drew
                          clear hov g0 g1'
                          go_wp2_with fail
                          refine wp_region_last (C := fun W => ∃ y : Ext w7, W = y.z) [0, 1, 2, 3, 4, 5, 6, 7, 8, 9, 10, 11, 12] [13] (by kernel_rfl) (by kernel_rfl) (by kernel_rfl) (by kernel_rfl) (by simp only [List.filterMap_cons, List.getElem?_toArray, List.getElem?_cons_zero, List.getElem?_cons_succ, List.filterMap_nil]; rfl) (by simp only [List.filterMap_cons, List.getElem?_toArray, List.getElem?_cons_zero, List.getElem?_cons_succ, List.filterMap_nil]; rfl) ⟨⟨_, HBR9.out⟩, rfl⟩ ?_
                          generalize w7.drew = wd7 at *
                          (repeat (first | (with_reducible refine mix_read (by kernel_rfl) ?_; go_big_quiet_want; go_big_quiet_op; go_big_quiet_on; with_reducible refine wpQuiet_nil ?_) | (with_reducible refine mix_pass (by kernel_rfl) ?_; go_big_quiet_skip; with_reducible refine wpQuiet_nil ?_)))
                          with_reducible refine mix_call (by kernel_rfl) (by kernel_rfl) ((rfSide_any (zk : Int) rv wd7).mono ?_) (by kernel_rfl)
                          rintro e w8 ⟨rfl, hb⟩
                          rw [HPS.out]
                          have HB8 : Hid (Below w7.heap.size w7 w8) := HBR9.out.trans (hb.mono HBR9.out.size)
                          clear hb
                          refine ⟨_, rfl, ⟨⟨_, HB8.out⟩, rfl⟩, ?_⟩
                          simp only [Act.put, List.setIfInBounds_toArray, List.set_cons_zero, List.set_cons_succ]
                          (repeat (first | (with_reducible refine mix_read (by kernel_rfl) ?_; go_big_quiet_want; go_big_quiet_op; go_big_quiet_on; with_reducible refine wpQuiet_nil ?_) | (with_reducible refine mix_pass (by kernel_rfl) ?_; go_big_quiet_skip; with_reducible refine wpQuiet_nil ?_)))
                          with_reducible refine mix_end ?_
                          have HC8 := (show Hid _ from HC7.out.step HB8.out)
                          obtain ⟨r0, r1⟩ := HC8.out.a.cell1 HOV.out
                          have hset := HC8.out.a.set1 zk ps
                          have HC9 := (show Hid _ from HC8.out.out hset.1 hset.2 ⟨by rw [List.length_set]; exact HC8.out.len.1, HC8.out.len.2⟩)
                          have HCG9 : Hid (Chg (outFoot b1 b2) w5 (w8.setCell ⟨b1, zk, none⟩ (.int .i64 ps))) := (HCG.out.trans (Chg.of_below (HB67.out.trans (HB8.out.mono HB67.out.size)))).trans hset.2
                          clear hset y1 y3 y4
                          go_wp2
                          go_roundg (nn - (q + 1))
                          case rel => exact ⟨q + 1, _, _, rfl, by go_num, by omega, HC9.out, HCG9.out⟩
                          case measure => omega
                        · have hhe : (hv == (j : Int)) = false := by simp [hhj]
                          go_wp2_with fail
                          refine wp_region_mix_seq (C := fun W => ∃ y : Ext w6, W = y.z) [0, 1, 2, 3, 4, 5, 6, 7, 8, 9, 10, 11, 12, 13, 14, 15, 16, 17, 18, 19, 20, 21, 22, 23, 24, 25, 26, 27, 28, 29, 30, 31] (by kernel_rfl) (by kernel_rfl) (by kernel_rfl) (by kernel_rfl) (by simp only [List.filterMap_cons, List.getElem?_toArray, List.getElem?_cons_zero, List.getElem?_cons_succ, List.filterMap_nil]; rfl) ⟨⟨_, HBP.out⟩, rfl⟩ ?_
                          generalize w6.drew = wd at *
                          (repeat (first | (with_reducible refine mix_read (by kernel_rfl) ?_; go_big_quiet_want; go_big_quiet_op; go_big_quiet_on; with_reducible refine wpQuiet_nil ?_) | (with_reducible refine mix_pass (by kernel_rfl) ?_; go_big_quiet_skip; with_reducible refine wpQuiet_nil ?_)))
                          with_reducible refine mix_call (by kernel_rfl) (by kernel_rfl) ((rfSide_any (zk : Int) rv wd).mono ?_) (by kernel_rfl)
                          rintro e w7 ⟨rfl, hb⟩
                          rw [HPS.out]
                          have HB7 : Hid (Below w6.heap.size w6 w7) := HBP.out.trans (hb.mono HBP.out.size)
                          clear hb
                          refine ⟨_, rfl, ⟨⟨_, HB7.out⟩, rfl⟩, ?_⟩
                          simp only [Act.put, List.setIfInBounds_toArray, List.set_cons_zero, List.set_cons_succ]
                          (repeat (first | (with_reducible refine mix_read (by kernel_rfl) ?_; go_big_quiet_want; go_big_quiet_op; go_big_quiet_on; with_reducible refine wpQuiet_nil ?_) | (with_reducible refine mix_pass (by kernel_rfl) ?_; go_big_quiet_skip; with_reducible refine wpQuiet_nil ?_)))
                          with_reducible refine mix_end ?_
                          intro _
                          clear y1 y2 y3 y4 y5 y6
                          have HB67 : Hid (Below wr.heap.size wr w7) := HB6.out.trans (HB7.out.mono HB6.out.size)
                          have HC7 := (show Hid _ from HC6.out.step HB7.out)
                          go_wp2
                          go_roundg (nn - (q + 1))
                          case rel => exact ⟨q + 1, _, _, rfl, by go_num, by omega, HC7.out, HCG.out.trans (Chg.of_below HB67.out)⟩
                          case measure => omega
                    · go_wp2_with fail
                      refine wp_region_mix_seq (C := fun W => ∃ y : Ext w6, W = y.z) [0, 1, 2, 3, 4, 5, 6, 7, 8, 9, 10, 11, 12, 13, 14, 15, 16, 17, 18, 19, 20, 21, 22, 23, 24, 25, 26, 27, 28, 29, 30, 31] (by kernel_rfl) (by kernel_rfl) (by kernel_rfl) (by kernel_rfl) (by simp only [List.filterMap_cons, List.getElem?_toArray, List.getElem?_cons_zero, List.getElem?_cons_succ, List.filterMap_nil]; rfl) ⟨⟨_, HBP.out⟩, rfl⟩ ?_
                      generalize w6.drew = wd at *
                      (repeat (first | (with_reducible refine mix_read (by kernel_rfl) ?_; go_big_quiet_want; go_big_quiet_op; go_big_quiet_on; with_reducible refine wpQuiet_nil ?_) | (with_reducible refine mix_pass (by kernel_rfl) ?_; go_big_quiet_skip; with_reducible refine wpQuiet_nil ?_)))
                      with_reducible refine mix_call (by kernel_rfl) (by kernel_rfl) ((rfSide_any (zk : Int) rv wd).mono ?_) (by kernel_rfl)
                      rintro e w7 ⟨rfl, hb⟩
                      rw [HPS.out]
                      have HB7 : Hid (Below w6.heap.size w6 w7) := HBP.out.trans (hb.mono HBP.out.size)
                      clear hb
                      refine ⟨_, rfl, ⟨⟨_, HB7.out⟩, rfl⟩, ?_⟩
                      simp only [Act.put, List.setIfInBounds_toArray, List.set_cons_zero, List.set_cons_succ]
                      (repeat (first | (with_reducible refine mix_read (by kernel_rfl) ?_; go_big_quiet_want; go_big_quiet_op; go_big_quiet_on; with_reducible refine wpQuiet_nil ?_) | (with_reducible refine mix_pass (by kernel_rfl) ?_; go_big_quiet_skip; with_reducible refine wpQuiet_nil ?_)))
                      with_reducible refine mix_end ?_
                      intro _
                      clear y1 y2 y3 y4 y5 y6
                      have HB67 : Hid (Below wr.heap.size wr w7) := HB6.out.trans (HB7.out.mono HB6.out.size)
                      have HC7 := (show Hid _ from HC6.out.step HB7.out)
                      go_wp2
                      go_roundg (nn - (q + 1))
                      case rel => exact ⟨q + 1, _, _, rfl, by go_num, by omega, HC7.out, HCG.out.trans (Chg.of_below HB67.out)⟩
                      case measure => omega
                · have hqi : ¬ (q : Int) < (nn : Int) := by omega
                  obtain ⟨q0, q1, q2, q3, q4⟩ := HCLX.out wr st HCQ.out.lk
                  obtain ⟨s0, -, -, -⟩ := HCQ.out.lk.stAt_ HX.out.2
                  go_wp2_with fail
                  clear q0 q1 q2 q3
                  have y0 := ext_cell q4
                  have y1 := ext_cell s0
                  haveI := ext_some wr
                  have HBQ : Hid (Below wr.heap.size wr wr.drew) := (Below.refl _ _).drew
                  refine wp_region_mix_seq (C := fun W => ∃ y : Ext wr, W = y.z) [0, 1, 2, 3, 4, 5, 6, 7, 8, 9, 10, 11, 12, 13, 14, 15, 16, 17, 18, 19, 20, 21, 22, 23, 24, 25, 26] (by kernel_rfl) (by kernel_rfl) (by kernel_rfl) (by kernel_rfl) (by simp only [List.filterMap_cons, List.getElem?_toArray, List.getElem?_cons_zero, List.getElem?_cons_succ, List.filterMap_nil]; rfl) ⟨⟨_, HBQ.out⟩, rfl⟩ ?_
                  (repeat (first | (with_reducible refine mix_read (by kernel_rfl) ?_; go_big_quiet_want; go_big_quiet_op; go_big_quiet_on; with_reducible refine wpQuiet_nil ?_) | (with_reducible refine mix_pass (by kernel_rfl) ?_; go_big_quiet_skip; with_reducible refine wpQuiet_nil ?_)))
                  with_reducible refine mix_end ?_
                  intro _
                  clear y0 y1 q4 s0
                  generalize wr.drew = wx at *
                  go_wp2
                  go_roundg (n3 - (j + 1))
                  case rel => exact ⟨j + 1, _, _, rfl, by go_num, by omega, HCQ.out.step HBQ.out⟩
                  case measure => omega
            · have hm2 : (m == 1) = false := by simp [hm1]
              by_cases hm22 : m = 2
              · have hm3 : (m == 2) = true := by simp [hm22]
                clear hm1 hm22
                go_wp2_with fail
                obtain ⟨i0, i1⟩ := cells2 HCJ.out.i
                have y0 := ext_cell q0
                have y1 := ext_cell q1
                have y2 := ext_cell q2
                have y3 := ext_cell q3
                have y4 := ext_cell q4
                have y5 := ext_cell i0
                have y6 := ext_cell i1
                have y7 := ext_cell s0
                haveI := ext_some wr
                have HBQ : Hid (Below wr.heap.size wr wr.drew) := (Below.refl _ _).drew
                have C1 := (show Hid _ from fun U hU => CLR2.out U hU j x HX.out.1)
                have C2 := (show Hid _ from fun U hU => RGT2.out U hU j x HX.out.1)
                have hnb := (NDB.out j x HX.out.1).2.1
                generalize clearB occ x.1.path = cl at *
                generalize rightB lies (x.1.points ++ x.1.flank) = ri at *
                clear q0 q1 q2 q3 q4 i0 i1 s0
                refine wp_region_mix_seq (C := fun W => ∃ y : Ext wr, W = y.z) [0, 1, 2, 3, 4, 5, 6, 7, 8, 9, 10, 11, 12, 13, 14, 15, 16, 17, 18, 19, 20, 21, 22, 23, 24, 25, 26] (by kernel_rfl) (by kernel_rfl) (by kernel_rfl) (by kernel_rfl) (by simp only [List.filterMap_cons, List.getElem?_toArray, List.getElem?_cons_zero, List.getElem?_cons_succ, List.filterMap_nil]; rfl) ⟨⟨_, HBQ.out⟩, rfl⟩ ?_
                generalize wr.drew = wd at *
                (repeat (first | (with_reducible refine mix_read (by kernel_rfl) ?_; go_big_quiet_want; go_big_quiet_op; go_big_quiet_on; with_reducible refine wpQuiet_nil ?_) | (with_reducible refine mix_pass (by kernel_rfl) ?_; go_big_quiet_skip; with_reducible refine wpQuiet_nil ?_)))
                with_reducible refine mix_call (by kernel_rfl) (by kernel_rfl) ((C1.out wd (HCJ.out.step HBQ.out).lk.bl).mono ?_) (by kernel_rfl)
                rintro e w6 ⟨rfl, hb⟩
                have HB6 : Hid (Below wr.heap.size wr w6) := HBQ.out.trans (hb.mono HBQ.out.size)
                clear hb
                refine ⟨_, rfl, ⟨⟨_, HB6.out⟩, rfl⟩, ?_⟩
                cases cl
                · simp only [Act.put, List.setIfInBounds_toArray, List.set_cons_zero, List.set_cons_succ]
                  (repeat (first | (with_reducible refine mix_read (by kernel_rfl) ?_; go_big_quiet_want; go_big_quiet_op; go_big_quiet_on; with_reducible refine wpQuiet_nil ?_) | (with_reducible refine mix_pass (by kernel_rfl) ?_; go_big_quiet_skip; with_reducible refine wpQuiet_nil ?_)))
                  with_reducible refine mix_end ?_
                  intro _
                  clear y0 y1 y2 y3 y4 y5 y6 y7
                  go_wp2
                  go_roundg (n3 - (j + 1))
                  case rel => exact ⟨j + 1, _, _, rfl, by go_num, by omega, HCJ.out.step HB6.out⟩
                  case measure => omega
                · simp only [Act.put, List.setIfInBounds_toArray, List.set_cons_zero, List.set_cons_succ]
                  (repeat (first | (with_reducible refine mix_read (by kernel_rfl) ?_; go_big_quiet_want; go_big_quiet_op; go_big_quiet_on; with_reducible refine wpQuiet_nil ?_) | (with_reducible refine mix_pass (by kernel_rfl) ?_; go_big_quiet_skip; with_reducible refine wpQuiet_nil ?_)))
                  with_reducible refine mix_call (by kernel_rfl) (by kernel_rfl) ((C2.out w6 (HCJ.out.step HB6.out).lk.bl).mono ?_) (by kernel_rfl)
                  rintro e w7 ⟨rfl, hb⟩
                  have HB7 : Hid (Below wr.heap.size wr w7) := HB6.out.trans (hb.mono HB6.out.size)
                  clear hb
                  refine ⟨_, rfl, ⟨⟨_, HB7.out⟩, rfl⟩, ?_⟩
                  cases ri
                  · simp only [Act.put, List.setIfInBounds_toArray, List.set_cons_zero, List.set_cons_succ]
                    (repeat (first | (with_reducible refine mix_read (by kernel_rfl) ?_; go_big_quiet_want; go_big_quiet_op; go_big_quiet_on; with_reducible refine wpQuiet_nil ?_) | (with_reducible refine mix_pass (by kernel_rfl) ?_; go_big_quiet_skip; with_reducible refine wpQuiet_nil ?_)))
                    with_reducible refine mix_end ?_
                    intro _
                    clear y0 y1 y2 y3 y4 y5 y6 y7
                    go_wp2
                    go_roundg (n3 - (j + 1))
                    case rel => exact ⟨j + 1, _, _, rfl, by go_num, by omega, HCJ.out.step HB7.out⟩
                    case measure => omega
                  · simp only [Act.put, List.setIfInBounds_toArray, List.set_cons_zero, List.set_cons_succ]
                    (repeat (first | (with_reducible refine mix_read (by kernel_rfl) ?_; go_big_quiet_want; go_big_quiet_op; go_big_quiet_on; with_reducible refine wpQuiet_nil ?_) | (with_reducible refine mix_pass (by kernel_rfl) ?_; go_big_quiet_skip; with_reducible refine wpQuiet_nil ?_)))
                    with_reducible refine mix_end ?_
                    intro _
                    clear y0 y1 y2 y3 y4 y5 y6 y7
                    have HC7 := (show Hid _ from HCJ.out.step HB7.out)
                    obtain ⟨g3, f3, rfl, hcx⟩ := HRT.out j x HX.out.1
                    have b1' := hcx 1 _ rfl
                    obtain ⟨fk, hfk, hfn⟩ := nat_of (n := n2) (i := x.1.frm) hnb
                    rw [hfk] at b1'
                    obtain ⟨ov, hov⟩ : ∃ ov, pr[fk]? = some ov := at_of (by have := HC7.out.len.2; omega)
                    obtain ⟨q0, q1, q2, q3, q4⟩ := HCLX.out w7 st HC7.out.lk
                    obtain ⟨g0, g1⟩ := cells2 HC7.out.o
                    have y1 := ext_cell g1
                    have y2 := ext_cell q3
                    have y3 := ext_cell (up_cell HC7.out.lk.bl b1')
                    haveI := ext_some w7
                    have hfi : (fk : Int) < (n2 : Int) := by omega
                    have HBP : Hid (Below w7.heap.size w7 w7.drew) := (Below.refl _ _).drew
                    have HOV : Hid (pr[fk]? = some ov) := hov
                    clear q0 q1 q2 q3 q4 g0 g1 b1' hcx hov hfk hnb
                    go_wp2_with fail
                    refine wp_region_last (C := fun W => ∃ y : Ext w7, W = y.z) [0, 1, 2, 3, 4, 5, 6, 7, 8, 9, 10, 11] [12] (by kernel_rfl) (by kernel_rfl) (by kernel_rfl) (by kernel_rfl) (by simp only [List.filterMap_cons, List.getElem?_toArray, List.getElem?_cons_zero, List.getElem?_cons_succ, List.filterMap_nil]; rfl) (by simp only [List.filterMap_cons, List.getElem?_toArray, List.getElem?_cons_zero, List.getElem?_cons_succ, List.filterMap_nil]; rfl) ⟨⟨_, HBP.out⟩, rfl⟩ ?_
                    (repeat (first | (with_reducible refine mix_read (by kernel_rfl) ?_; go_big_quiet_want; go_big_quiet_op; go_big_quiet_on; with_reducible refine wpQuiet_nil ?_) | (with_reducible refine mix_pass (by kernel_rfl) ?_; go_big_quiet_skip; with_reducible refine wpQuiet_nil ?_)))
                    with_reducible refine mix_end ?_
                    have HC8 := (show Hid _ from HC7.out.step HBP.out)
                    generalize w7.drew = w8 at *
                    obtain ⟨r0, r1⟩ := HC8.out.a.cell2 HOV.out
                    have hset := HC8.out.a.set2 fk true
                    have HC9 := (show Hid _ from HC8.out.out hset.1 hset.2 ⟨HC8.out.len.1, by rw [List.length_set]; exact HC8.out.len.2⟩)
                    clear hset y1 y2 y3
                    go_wp2
                    go_roundg (n3 - (j + 1))
                    case rel => exact ⟨j + 1, _, _, rfl, by go_num, by omega, HC9.out⟩
                    case measure => omega
              · have hm3 : (m == 2) = false := by simp [hm22]
                clear hm1 hm22
                go_wp2_with fail
                clear q0 q1 q2 q3
                have y0 := ext_cell q4
                have y1 := ext_cell s0
                haveI := ext_some wr
                have HBQ : Hid (Below wr.heap.size wr wr.drew) := (Below.refl _ _).drew
                refine wp_region_mix_seq (C := fun W => ∃ y : Ext wr, W = y.z) [0, 1, 2, 3, 4, 5, 6, 7, 8, 9, 10, 11, 12, 13, 14, 15, 16, 17, 18, 19, 20, 21, 22, 23, 24, 25, 26] (by kernel_rfl) (by kernel_rfl) (by kernel_rfl) (by kernel_rfl) (by simp only [List.filterMap_cons, List.getElem?_toArray, List.getElem?_cons_zero, List.getElem?_cons_succ, List.filterMap_nil]; rfl) ⟨⟨_, HBQ.out⟩, rfl⟩ ?_
                (repeat (first | (with_reducible refine mix_read (by kernel_rfl) ?_; go_big_quiet_want; go_big_quiet_op; go_big_quiet_on; with_reducible refine wpQuiet_nil ?_) | (with_reducible refine mix_pass (by kernel_rfl) ?_; go_big_quiet_skip; with_reducible refine wpQuiet_nil ?_)))
                with_reducible refine mix_end ?_
                intro _
                clear y0 y1 q4 s0
                generalize wr.drew = wx at *
                go_wp2
                go_roundg (n3 - (j + 1))
                case rel => exact ⟨j + 1, _, _, rfl, by go_num, by omega, HCJ.out.step HBQ.out⟩
                case measure => omega
          · have hji : ¬ (j : Int) < (n3 : Int) := by omega
            obtain ⟨g0, g1⟩ := cells2 HCJ.out.o
            obtain ⟨z0, z1⟩ := cells2 HCJ.out.z
            have z2 := froz2 HCJ.out.z 0
            have z3 := froz2 HCJ.out.z 1
            have HFI : Hid (RfLk w0 (((wr.setCell ⟨w.heap.size + 1, 0, none⟩ (.slice (some ⟨b1, 0, none⟩) n1 n1))).setCell ⟨w.heap.size + 1, 1, none⟩ (.slice (some ⟨b2, 0, none⟩) n2 n2)) v l rs xb rb st ∧ Chg (fun j => j = rb) w (((wr.setCell ⟨w.heap.size + 1, 0, none⟩ (.slice (some ⟨b1, 0, none⟩) n1 n1))).setCell ⟨w.heap.size + 1, 1, none⟩ (.slice (some ⟨b2, 0, none⟩) n2 n2))) := by
              have hs := HCJ.out.lt
              have hw : ∀ k, k ≠ w.heap.size + 1 → (((wr.setCell ⟨w.heap.size + 1, 0, none⟩ (.slice (some ⟨b1, 0, none⟩) n1 n1))).setCell ⟨w.heap.size + 1, 1, none⟩ (.slice (some ⟨b2, 0, none⟩) n2 n2)).heap[k]? = wr.heap[k]? := fun k hk => by
                rw [Below.heap_setCell _ _ _ _ (by exact hk), Below.heap_setCell _ _ _ _ (by exact hk)]
              have hch : Chg (fun k => k = w.heap.size + 1) wr (((wr.setCell ⟨w.heap.size + 1, 0, none⟩ (.slice (some ⟨b1, 0, none⟩) n1 n1))).setCell ⟨w.heap.size + 1, 1, none⟩ (.slice (some ⟨b2, 0, none⟩) n2 n2)) := ⟨rfl, rfl, rfl, by simp [World.setCell], fun k _ hk => hw k hk⟩
              have hlk := HCJ.out.lk
              have hww := hlk.base
              have hc0 := HCJ.out.c
              refine ⟨⟨hch.blk hlk.bx (by omega), hch.blk hlk.br (by omega), hlk.ne, hlk.base, hlk.bl.trans (hch.below (fun k hk => by rw [hk]; omega) hlk.bl.size), hlk.ok⟩, ⟨hc0.os, hc0.tape, hc0.output, Nat.le_trans hc0.size hch.size, fun k hk hn => (hch.block k (Nat.lt_of_lt_of_le hk hc0.size) (by omega)).trans (hc0.block k hk hn)⟩⟩
            go_wp2
            exact bodyPost_ret (v := outV b1 b2 n1 n2) (by simp [results, Tryz.results20, go_sem, outV, z0, z1]) rfl ⟨⟨_, rfl⟩, by rw [HE.out]; exact HFI.out.1, HFI.out.2⟩
end Go.Proofs.YtceebimgfajbcaaGreatDoor

namespace Go.Proofs.YtceebimgfajbcaaGreatDoor
open Go.ChangeShapes Go.WideShapes Go.ChangeAt Go.RowKit

section
variable {H : Type} {enc : TypeId × Value → H} {W : World}
set_option maxRecDepth 100000 in
theorem open_ac1 {base : Nat} {v : Value} {d : DataW H} {p : List MemPlace} (hv : Value.okWide Tryz.prog W .any base 43 v) (h : DataW.Trod enc Tryz.prog W 0 (fun _ => true) true 43 v d p) :
    ∃ (t : Ac5) (u : Nat → Value), v = .agg #[.int .i64 t.1, u 0, u 1, .int .i64 t.2.2.1.1, .int .i64 t.2.2.1.2, u 2] ∧ InRd W u t.2.1.1 t.2.1.2 ∧ rowAt W (u 2) 4 stC t.2.2.2 := by
  simp only [Value.okWide, underAc] at hv
  obtain ⟨cs, rfl, -, -⟩ := hv
  obtain ⟨fuel, hf⟩ := h
  have hf' := hf
  simp only [Value.cells] at hf'
  obtain ⟨t, u, hcs, r1, r2⟩ := open_ac hf'
  refine ⟨t, u, ?_, r1, r2⟩
  congr 1
  exact Array.ext' hcs
end
end Go.Proofs.YtceebimgfajbcaaGreatDoor

namespace Go.Proofs.YtceebimgfajbcaaGreatDoor
open Go.RowKit

theorem eqGuardRs : Tryz.prog.eqGuardType Tryz.prog.depth 80 = false := by kernel_rfl
theorem stoodRs : Tryz.prog.stoodInHeld 80 = false := by kernel_rfl
theorem namedRs : (Tryz.prog.fieldsOf 80).toList.map (fun f => (f.name, f.type, f.offset)) = [("Mode", 3, 0), ("Timer", 3, 1), ("Gone", 3, 2), ("Seen", 4, 3)] := by kernel_rfl
section
variable (m t g : Int) (b : Bool) (W : World)
theorem partRs0 : (part 3 #[.int .i64 m, .int .i64 t, .int .i64 g, .bool b] 0).run Tryz.prog W = .ok (.int .i64 m) W := by go_simp
theorem partRs1 : (part 3 #[.int .i64 m, .int .i64 t, .int .i64 g, .bool b] 1).run Tryz.prog W = .ok (.int .i64 t) W := by go_simp
theorem partRs2 : (part 3 #[.int .i64 m, .int .i64 t, .int .i64 g, .bool b] 2).run Tryz.prog W = .ok (.int .i64 g) W := by go_simp
theorem partRs3 : (part 4 #[.int .i64 m, .int .i64 t, .int .i64 g, .bool b] 3).run Tryz.prog W = .ok (.bool b) W := by go_simp
theorem run_eqRs : (Op.equalIn 10000 80 (.agg #[.int .i64 m, .int .i64 t, .int .i64 g, .bool b]) (.agg #[.int .i64 m, .int .i64 t, .int .i64 g, .bool b])).run Tryz.prog W = .ok true W := by
  rw [run_equalIn_struct W 9999 _ _ _ underRs stoodRs]
  obtain ⟨p, q, r, s, hfg, hp, hq, hr, hs⟩ := maps_four _ _ _ _ _ _ namedRs
  rw [hfg]
  simp only [Prod.mk.injEq] at hp hq hr hs
  obtain ⟨p1, p2, p3⟩ := hp
  obtain ⟨q1, q2, q3⟩ := hq
  obtain ⟨r1, r2, r3⟩ := hr
  obtain ⟨s1, s2, s3⟩ := hs
  have z1 : ∀ k n : Int, (Op.equalIn 9999 3 (.int .i64 k) (.int .i64 n)).run Tryz.prog W = .ok (k == n) W := fun k n => run_equalIn_int (P := Tryz.prog) W 9998 3 .i64 .i64 k n Tryz.underlying3
  have z2 : ∀ a b : Bool, (Op.equalIn 9999 4 (.bool a) (.bool b)).run Tryz.prog W = .ok (a == b) W := fun a b => run_equalIn_bool (P := Tryz.prog) W 9998 4 a b Tryz.underlying4
  have e1 : ¬ (("Mode" : String) = "_") := by decide
  have e2 : ¬ (("Timer" : String) = "_") := by decide
  have e3 : ¬ (("Gone" : String) = "_") := by decide
  have e4 : ¬ (("Seen" : String) = "_") := by decide
  simp [Op.eqFields, p1, p2, p3, q1, q2, q3, r1, r2, r3, s1, s2, s3, e1, e2, e3, e4, Sem.run_bind, partRs0, partRs1, partRs2, partRs3, Result.andThen_ok, z1, z2]
theorem run_neqRs : (binOp .neq 80 (.agg #[.int .i64 m, .int .i64 t, .int .i64 g, .bool b]) (.agg #[.int .i64 m, .int .i64 t, .int .i64 g, .bool b])).run Tryz.prog W = .ok (.bool false) W := by
  rw [run_neq_struct, run_eqRs]
  rfl
end

set_option maxRecDepth 1000000 in
set_option maxHeartbeats 2000000 in
theorem rfSame_eq (va vb : Value) (l : List St) (w : World) (h : rowAt w va 4 stC l) (hb : rowAt w vb 4 stC l) (hl : l.length ≤ 4294967296) :
    Calls Tryz.prog 47 #[va, vb] w fun e w' => e = .returned (.bool true) ∧ Below w.heap.size w w' := by
  obtain ⟨oa, ca, rfl, h2⟩ := h
  obtain ⟨ob, cb, rfl, h3⟩ := hb
  have H2 : Hid (∀ j y, l[j]? = some y → ∃ g off, oa = some ⟨g, off, none⟩ ∧ ∀ i u, (stC y)[i]? = some u → w.cell? ⟨g, off + j * 4 + i, none⟩ = some u) := h2
  have H3 : Hid (∀ j y, l[j]? = some y → ∃ g off, ob = some ⟨g, off, none⟩ ∧ ∀ i u, (stC y)[i]? = some u → w.cell? ⟨g, off + j * 4 + i, none⟩ = some u) := h3
  clear h2 h3
  generalize hn : l.length = n at *
  have HN : Hid (l.length = n) := hn
  clear hn
  go_enter Tryz.func47, Tryz.ntmps47
  go_wp2
  go_loopg [5] n (fun gk i wr => ∃ k q : Nat, gk = n - k ∧ i = .int .i64 k ∧ k ≤ n ∧ wr = w.drewN q)
  case atStart => exact ⟨0, 0, rfl, rfl, by omega, rfl⟩
  case round =>
    obtain ⟨k, q, rfl, rfl, hk, rfl⟩ := hrel
    by_cases hlt : k < n
    · obtain ⟨⟨y1, y2, y3, y4⟩, hy⟩ : ∃ y, l[k]? = some y := ⟨l[k]'(by rw [HN.out]; exact hlt), List.getElem?_eq_getElem _⟩
      obtain ⟨g, off, rfl, hcell⟩ := H2.out k _ hy
      obtain ⟨g', off', rfl, hcell'⟩ := H3.out k _ hy
      have hki : (k : Int) < (n : Int) := by omega
      have a0 := hcell 0 _ rfl
      have a1 := hcell 1 _ rfl
      have a2 := hcell 2 _ rfl
      have a3 := hcell 3 _ rfl
      have b0 := hcell' 0 _ rfl
      have b1 := hcell' 1 _ rfl
      have b2 := hcell' 2 _ rfl
      have b3 := hcell' 3 _ rfl
      rw [Nat.add_zero] at a0 b0
      clear hcell hcell' hy
      have hEQ : ∀ W : World, (binOp .neq 80 (.agg #[.int .i64 y1, .int .i64 y2, .int .i64 y3, .bool y4]) (.agg #[.int .i64 y1, .int .i64 y2, .int .i64 y3, .bool y4])).run Tryz.prog W = .ok (.bool false) W := fun W => run_neqRs y1 y2 y3 y4 W
      have hgd := eqGuardRs
      go_wp2_with fail
      go_quiet (fail)
      go_wp2
      go_roundg (n - (k + 1))
      case rel => exact ⟨k + 1, q + nq, rfl, by go_num, by omega, rfl⟩
      case measure => omega
    · go_wp2
      go_ret
      exact ⟨rfl, _root_.Go.below_drewN (Below.refl _ _) _⟩
end Go.Proofs.YtceebimgfajbcaaGreatDoor

namespace Go.Proofs.YtceebimgfajbcaaGreatDoor
open Go.RowKit

structure TwoX (w0 w1 W : World) (v : Nat → Value) (l : Lay) (rs : List RtV) (ka xb rb : Nat) (ss : List St) : Prop where
  a : ∃ u ws, LkAt W w0.heap.size ka u l.sections.length l.signals.length (l.points.map (·.2)) ws ss ∧ ws.map (·.1) = waysG rs rs 0 ∧ ∀ k, lkFoot ka (u 2) ss k → k < w1.heap.size
  b : RfLk w0 W v l rs xb rb ss
  hi : w1.heap.size ≤ xb ∧ w1.heap.size ≤ rb
/-- While they stand unlike one another. -/
structure TwoY (w0 w1 W : World) (v : Nat → Value) (l : Lay) (rs : List RtV) (ka xb rb : Nat) (ss tt : List St) : Prop where
  a : ∃ u ws, LkAt W w0.heap.size ka u l.sections.length l.signals.length (l.points.map (·.2)) ws ss ∧ ws.map (·.1) = waysG rs rs 0 ∧ ∀ k, lkFoot ka (u 2) ss k → k < w1.heap.size
  oa : LkOk l.sections.length l.signals.length (l.points.map (·.2)) (waysG rs rs 0) ss
  b : RfLk w0 W v l rs xb rb tt
  hi : w1.heap.size ≤ xb ∧ w1.heap.size ≤ rb
section
variable {w0 w1 W W' : World} {v : Nat → Value} {l : Lay} {rs : List RtV} {ka xb rb : Nat} {ss tt : List St}
theorem TwoY.of (h1 : LkG w0 w1 l rs ka ss) (h2 : RfLk w0 W v l rs xb rb tt) (hb : Below w1.heap.size w1 W) (hi : w1.heap.size ≤ xb ∧ w1.heap.size ≤ rb) : TwoY w0 w1 W v l rs ka xb rb ss tt := by
  obtain ⟨u, ws, g1, g2⟩ := h1.ex
  exact ⟨⟨u, ws, g1.below hb, g2, fun k hk => (g1.foot hk).2.1⟩, h1.ok, h2, hi⟩
theorem TwoY.step (h : TwoY w0 w1 W v l rs ka xb rb ss tt) (hb : Below W.heap.size W W') : TwoY w0 w1 W' v l rs ka xb rb ss tt := by
  obtain ⟨u, ws, g1, g2, g3⟩ := h.a
  exact ⟨⟨u, ws, g1.below hb, g2, g3⟩, h.oa, h.b.step hb, h.hi⟩
theorem TwoY.turnA (h : TwoY w0 w1 W v l rs ka xb rb ss tt) {u : Nat → Value} {ws : List WyV} {ss' : List St} (g1 : LkAt W w0.heap.size ka u l.sections.length l.signals.length (l.points.map (·.2)) ws ss) (g2 : ws.map (·.1) = waysG rs rs 0) (g3 : ∀ k, lkFoot ka (u 2) ss k → k < w1.heap.size)
    (h4 : LkAt W' w0.heap.size ka u l.sections.length l.signals.length (l.points.map (·.2)) ws ss') (h5 : Chg (lkFoot ka (u 2) ss) W W') (hok : LkOk l.sections.length l.signals.length (l.points.map (·.2)) (waysG rs rs 0) ss') : TwoY w0 w1 W' v l rs ka xb rb ss' tt := by
  have hx : ¬ lkFoot ka (u 2) ss xb := fun e => by have := g3 _ e; have := h.hi.1; omega
  have hr : ¬ lkFoot ka (u 2) ss rb := fun e => by have := g3 _ e; have := h.hi.2; omega
  exact ⟨⟨u, ws, h4, g2, fun k hk => g3 k (lkFoot_mono (hok.len.trans h.oa.len.symm) hk)⟩, hok, ⟨h5.blk h.b.bx hx, h5.blk h.b.br hr, h.b.ne, h.b.base, h.b.bl.trans (h5.below (fun k hk => (g1.foot hk).1) h.b.bl.size), h.b.ok⟩, h.hi⟩
theorem TwoY.turnB (h : TwoY w0 w1 W v l rs ka xb rb ss tt) {tt' : List St} (h4 : RfLk w0 W' v l rs xb rb tt') (h5 : Chg (fun j => j = rb) W W') : TwoY w0 w1 W' v l rs ka xb rb ss tt' := by
  obtain ⟨u, ws, g4, g5, g6⟩ := h.a
  refine ⟨⟨u, ws, g4.keep h5.size fun k hk hor => h5.block k hk fun hf => ?_, g5, g6⟩, h.oa, h4, h.hi⟩
  rcases hor with ho | ho
  · have := g6 k ho
    have := h.hi.2
    omega
  · obtain ⟨c, t, z, hb, ht⟩ := ho
    rw [hf, h.b.br] at hb
    injection hb with hb
    injection hb with h1 h2 h3
    subst h2
    revert ht
    decide
section
variable (u : Nat → Value) (occ : List Bool) (lies : List Int) (kind r : Int)
theorem cmd_x (h : TwoY w0 w1 W v l rs ka xb rb ss tt) (hin : InRd w0 u occ lies) (hl : lies.length ≤ 4294967296) :
    Calls Tryz.prog 9 #[.pointer (some ⟨ka, 0, none⟩), .agg #[u 0, u 1], .agg #[.int .i64 kind, .int .i64 r]] W fun e w' => e = .returned (.int .i64 (cmdG l rs ss occ lies kind r).1) ∧ TwoY w0 w1 w' v l rs ka xb rb (cmdG l rs ss occ lies kind r).2 tt ∧ TC W w' := by
  obtain ⟨u', ws, g1, g2, g3⟩ := h.a
  refine (command_any w0.heap.size ka u' _ _ _ ws ss u occ lies kind r W g1 (by rw [g2]; exact h.oa) (hin.below h.b.bl) hl).mono ?_
  rintro e w' ⟨rfl, h4, h5⟩
  rw [g2] at h4 ⊢
  exact ⟨rfl, h.turnA g1 g2 g3 h4 h5 (h.oa.cmd occ lies kind r), h5.mono fun k _ hk => foot_ty g1 hk⟩
theorem cyc_x (h : TwoY w0 w1 W v l rs ka xb rb ss tt) (hin : InRd w0 u occ lies) (hl : lies.length ≤ 4294967296) :
    Calls Tryz.prog 10 #[.pointer (some ⟨ka, 0, none⟩), .agg #[u 0, u 1]] W fun e w' => (∃ y, e = .returned y) ∧ TwoY w0 w1 w' v l rs ka xb rb (cycG l rs ss occ lies).1 tt ∧ TC W w' := by
  obtain ⟨u', ws, g1, g2, g3⟩ := h.a
  refine (cycle_any w0.heap.size ka u' _ _ _ ws ss u occ lies W g1 (by rw [g2]; exact h.oa) (fun W' hW => hin.below (h.b.bl.trans (hW.below (fun k hk => (g1.foot hk).1) h.b.bl.size))) hl).mono ?_
  rintro e w' ⟨b1, b2, rfl, ho, h4, h5⟩
  rw [g2] at h4
  exact ⟨⟨_, rfl⟩, h.turnA g1 g2 g3 h4 h5 (h.oa.cyc occ lies), h5.mono fun k _ hk => foot_ty g1 hk⟩
theorem rcmd_x (hL : LayRd w0 v l rs) (hcap : ∀ x ∈ rs, capOk x.2.1) (h : TwoY w0 w1 W v l rs ka xb rb ss tt) (hin : InRd w0 u occ lies) (hl : lies.length ≤ 4294967296) :
    Calls Tryz.prog 19 #[.pointer (some ⟨xb, 0, none⟩), .agg #[u 0, u 1], .agg #[.int .i64 kind, .int .i64 r]] W fun e w' => (∃ y, e = .returned y) ∧ TwoY w0 w1 w' v l rs ka xb rb ss (cmdG l rs tt occ lies kind r).2 ∧ Chg (fun j => j = rb) W w' :=
  (rlCmd_any w0 W v l rs xb rb tt u occ lies kind r hL hcap h.b hin hl).mono fun _ _ ⟨h1, h2, h3⟩ => ⟨⟨_, h1⟩, h.turnB h2 h3, h3⟩
theorem rcyc_x (hL : LayRd w0 v l rs) (hcap : ∀ x ∈ rs, capOk x.2.1) (h : TwoY w0 w1 W v l rs ka xb rb ss tt) (hin : InRd w0 u occ lies) (hl : lies.length ≤ 4294967296) :
    Calls Tryz.prog 20 #[.pointer (some ⟨xb, 0, none⟩), .agg #[u 0, u 1]] W fun e w' => (∃ y, e = .returned y) ∧ TwoY w0 w1 w' v l rs ka xb rb ss (cycG l rs tt occ lies).1 ∧ Chg (fun j => j = rb) W w' :=
  (rlCyc_any w0 W v l rs xb rb tt u occ lies hL hcap h.b hin hl).mono fun _ _ ⟨h1, h2, h3⟩ => ⟨h1, h.turnB h2 h3, h3⟩
end
theorem TwoY.lk (h : TwoY w0 w1 W v l rs ka xb rb ss tt) : LkG w0 W l rs ka ss := by
  obtain ⟨u, ws, g1, g2, g3⟩ := h.a
  exact ⟨⟨u, ws, g1, g2⟩, h.oa, h.b.bl⟩
end
/-- A command that errs changes nothing. -/
theorem cmd_errs (l : Lay) (rs : List RtV) (ss : List St) (occ : List Bool) (lies : List Int) (kind r : Int) (h : (cmdG l rs ss occ lies kind r).1 ≠ 0) : (cmdG l rs ss occ lies kind r).2 = ss := by
  revert h
  unfold cmdG cmdF
  split
  · exact fun _ => rfl
  split
  · exact fun _ => rfl
  split
  · split
    · unfold callF
      split
      · split
        · exact fun _ => rfl
        · exact fun h => absurd rfl h
      · exact fun _ => rfl
    · unfold cancelF
      split
      · exact fun h => absurd rfl h
      split
      · exact fun h => absurd rfl h
      · exact fun _ => rfl
  · exact fun _ => rfl
end Go.Proofs.YtceebimgfajbcaaGreatDoor

namespace Go.Proofs.YtceebimgfajbcaaGreatDoor
open Go.RowKit

theorem flat_i5 (l : List Int) : l.flatMap iC = ((l.map (Value.int .i64)).toArray).toList := by
  induction l with
  | nil => rfl
  | cons x l ih => rw [List.flatMap_cons, ih]; rfl
theorem flat_b5 (l : List Bool) : l.flatMap bC = ((l.map Value.bool).toArray).toList := by
  induction l with
  | nil => rfl
  | cons x l ih => rw [List.flatMap_cons, ih]; rfl
theorem out_d5 {W : World} {B b1 b2 n : Nat} {dr : List Int} {pr : List Bool} (h : OutAt W B b1 b2 dr pr) (hn : dr.length = n) : rowAt W (.slice (some ⟨b1, 0, none⟩) n n) 1 iC dr := by
  subst hn
  exact row_blk (cs := iC) (size := 1) (fun _ => rfl) dr h.h1 (flat_i5 dr)
theorem out_p5 {W : World} {B b1 b2 n : Nat} {dr : List Int} {pr : List Bool} (h : OutAt W B b1 b2 dr pr) (hn : pr.length = n) : rowAt W (.slice (some ⟨b2, 0, none⟩) n n) 1 bC pr := by
  subst hn
  exact row_blk (cs := bC) (size := 1) (fun _ => rfl) pr h.h2 (flat_b5 pr)

set_option maxRecDepth 1000000 in
set_option maxHeartbeats 32000000 in
theorem alike_any (w0 w1 w : World) (v : Nat → Value) (l : Lay) (rs : List RtV) (ka xb rb : Nat) (ss : List St) (hL : LayRd w0 v l rs) (hcap : ∀ x ∈ rs, capOk x.2.1) (h : TwoY w0 w1 w v l rs ka xb rb ss ss) :
    Calls Tryz.prog 21 #[.pointer (some ⟨ka, 0, none⟩), .pointer (some ⟨xb, 0, none⟩)] w fun e w' => e = .returned (.bool true) ∧ Below w.heap.size w w' := by
  have hfew := h.oa.few
  have hlr := h.b.len
  rw [waysG_map, List.length_map] at hfew
  have HT : Hid (TwoY w0 w1 w v l rs ka xb rb ss ss) := h
  have RTS : Hid (∀ U, Below w.heap.size w U → Calls Tryz.prog 11 #[.pointer (some ⟨ka, 0, none⟩)] U fun e w' => ∃ v, e = .returned v ∧ rowAt w' v 4 stC ss ∧ Below U.heap.size U w') := fun U hU => (routes_g w0 U l rs ka ss (h.step hU).lk).mono fun e w' ⟨v, h1, h2, h3⟩ => ⟨v, h1, rowAt_of_owns (cs := stC) (fun _ => rfl) h2, h3⟩
  have SAK : Hid (∀ U, Below w.heap.size w U → Calls Tryz.prog 14 #[.pointer (some ⟨ka, 0, none⟩)] U fun e w' => ∃ b1 b2, e = .returned (outV b1 b2 l.points.length l.signals.length) ∧ OutAt w' U.heap.size b1 b2 (List.replicate l.points.length 0) (List.replicate l.signals.length false) ∧ Below U.heap.size U w') := fun U hU => safe_g w0 U l rs ka ss (h.step hU).lk
  have SAX : Hid (∀ U, Below w.heap.size w U → Calls Tryz.prog 42 #[.pointer (some ⟨xb, 0, none⟩)] U fun e w' => ∃ b1 b2, e = .returned (outV b1 b2 l.points.length l.signals.length) ∧ OutAt w' U.heap.size b1 b2 (List.replicate l.points.length 0) (List.replicate l.signals.length false) ∧ Below U.heap.size U w') := fun U hU => rlSafe_any w0 U v l rs xb rb ss hL (h.step hU).b
  have HOK : Hid (∀ U, Below w.heap.size w U → ∀ sec : Int, Calls Tryz.prog 40 #[.pointer (some ⟨ka, 0, none⟩), .int .i64 sec] U fun e w' => e = .returned (.int .i64 (holderF (waysG rs rs 0) ss sec)) ∧ Below U.heap.size U w') := fun U hU sec => holder_g w0 U l rs ka ss sec (h.step hU).lk
  have HOX : Hid (∀ U, Below w.heap.size w U → ∀ sec : Int, Calls Tryz.prog 45 #[.pointer (some ⟨xb, 0, none⟩), .int .i64 sec] U fun e w' => e = .returned (.int .i64 (holderF (waysG rs rs 0) ss sec)) ∧ Below U.heap.size U w') := fun U hU sec => rlHolder_any w0 U v l rs xb rb ss sec hL hcap (h.step hU).b
  have hcl := h.b.cells
  obtain ⟨o0, c0, e0, _⟩ := hL.s
  rw [e0] at hcl
  have HQ0 : Hid (w.cell? ⟨xb, 0, none⟩ = some (.slice o0 l.sections.length c0) ∧ w.cell? ⟨xb, 4, none⟩ = some (.slice (some ⟨rb, 0, none⟩) rs.length rs.length)) := ⟨hcl.1, hcl.2.2.2.2⟩
  have HRX : Hid (rowAt w (.slice (some ⟨rb, 0, none⟩) rs.length rs.length) 4 stC ss) := h.b.row
  have HSN : Hid (ss.length ≤ 4294967296) := by show _ ≤ _; omega
  clear h hL hcap hcl e0 hlr
  generalize holderF (waysG rs rs 0) ss = hol at *
  obtain ⟨n0, hz0⟩ : ∃ n, l.sections.length = n := ⟨_, rfl⟩
  obtain ⟨n1, hz1⟩ : ∃ n, l.points.length = n := ⟨_, rfl⟩
  obtain ⟨n2, hz2⟩ : ∃ n, l.signals.length = n := ⟨_, rfl⟩
  obtain ⟨n3, hz3⟩ : ∃ n, rs.length = n := ⟨_, rfl⟩
  rw [hz0, hz1, hz2, hz3] at hfew
  rw [hz1, hz2] at SAK SAX
  rw [hz0, hz3] at HQ0
  rw [hz3] at HRX
  clear hz0 hz1 hz2 hz3
  obtain ⟨hn0, hn1, hn2, hn3⟩ := hfew
  obtain ⟨q0, q4⟩ := HQ0.out
  have y0 := ext_cell q0
  have y4 := ext_cell q4
  haveI := ext_some w
  have HBQ : Hid (Below w.heap.size w w.drew) := (Below.refl _ _).drew
  go_enter Tryz.func21, Tryz.ntmps21
  clear q0 q4
  go_wp2_with fail
  refine wp_region_mix_seq (C := fun W => ∃ y : Ext w, W = y.z) [0, 2, 3, 4, 5, 1, 6, 7, 8, 9, 11, 10, 12, 13, 14, 15] (by kernel_rfl) (by kernel_rfl) (by kernel_rfl) (by kernel_rfl) (by simp only [List.filterMap_cons, List.getElem?_toArray, List.getElem?_cons_zero, List.getElem?_cons_succ, List.filterMap_nil]; rfl) ⟨⟨_, HBQ.out⟩, rfl⟩ ?_
  generalize w.drew = wd at *
  (repeat (first | (with_reducible refine mix_read (by kernel_rfl) ?_; go_big_quiet_want; go_big_quiet_op; go_big_quiet_on; with_reducible refine wpQuiet_nil ?_) | (with_reducible refine mix_pass (by kernel_rfl) ?_; go_big_quiet_skip; with_reducible refine wpQuiet_nil ?_)))
  with_reducible refine mix_call (by kernel_rfl) (by kernel_rfl) ((RTS.out wd HBQ.out).mono ?_) (by kernel_rfl)
  rintro e w2 ⟨vr, rfl, hvr, hb⟩
  have HB2 : Hid (Below w.heap.size w w2) := HBQ.out.trans (hb.mono HBQ.out.size)
  have HV : Hid (rowAt w2 vr 4 stC ss) := hvr
  clear hb hvr
  refine ⟨_, rfl, ⟨⟨_, HB2.out⟩, rfl⟩, ?_⟩
  simp only [Act.put, List.setIfInBounds_toArray, List.set_cons_zero, List.set_cons_succ]
  (repeat (first | (with_reducible refine mix_read (by kernel_rfl) ?_; go_big_quiet_want; go_big_quiet_op; go_big_quiet_on; with_reducible refine wpQuiet_nil ?_) | (with_reducible refine mix_pass (by kernel_rfl) ?_; go_big_quiet_skip; with_reducible refine wpQuiet_nil ?_)))
  with_reducible refine mix_call (by kernel_rfl) (by kernel_rfl) ((rfSame_eq vr (.slice (some ⟨rb, 0, none⟩) n3 n3) ss w2 HV.out (HRX.out.below HB2.out) HSN.out).mono ?_) (by kernel_rfl)
  rintro e w3 ⟨rfl, hb⟩
  have HB3 : Hid (Below w.heap.size w w3) := HB2.out.trans (hb.mono HB2.out.size)
  clear hb
  refine ⟨_, rfl, ⟨⟨_, HB3.out⟩, rfl⟩, ?_⟩
  simp only [Act.put, List.setIfInBounds_toArray, List.set_cons_zero, List.set_cons_succ]
  (repeat (first | (with_reducible refine mix_read (by kernel_rfl) ?_; go_big_quiet_want; go_big_quiet_op; go_big_quiet_on; with_reducible refine wpQuiet_nil ?_) | (with_reducible refine mix_pass (by kernel_rfl) ?_; go_big_quiet_skip; with_reducible refine wpQuiet_nil ?_)))
  with_reducible refine mix_call (by kernel_rfl) (by kernel_rfl) ((SAK.out w3 HB3.out).mono ?_) (by kernel_rfl)
  rintro e w4 ⟨b1, b2, rfl, ho, hb⟩
  have HB4 : Hid (Below w.heap.size w w4) := HB3.out.trans (hb.mono HB3.out.size)
  have HO4 : Hid (OutAt w4 w3.heap.size b1 b2 (List.replicate n1 0) (List.replicate n2 false)) := ho
  clear hb ho
  refine ⟨_, rfl, ⟨⟨_, HB4.out⟩, rfl⟩, ?_⟩
  simp only [Act.put, List.setIfInBounds_toArray, List.set_cons_zero, List.set_cons_succ]
  simp only [outV]
  (repeat (first | (with_reducible refine mix_read (by kernel_rfl) ?_; go_big_quiet_want; go_big_quiet_op; go_big_quiet_on; with_reducible refine wpQuiet_nil ?_) | (with_reducible refine mix_pass (by kernel_rfl) ?_; go_big_quiet_skip; with_reducible refine wpQuiet_nil ?_)))
  with_reducible refine mix_call (by kernel_rfl) (by kernel_rfl) ((SAX.out w4 HB4.out).mono ?_) (by kernel_rfl)
  rintro e w5 ⟨b3, b4, rfl, ho, hb⟩
  have HB5 : Hid (Below w.heap.size w w5) := HB4.out.trans (hb.mono HB4.out.size)
  have HO5 : Hid (OutAt w5 w3.heap.size b1 b2 (List.replicate n1 0) (List.replicate n2 false) ∧ OutAt w5 w4.heap.size b3 b4 (List.replicate n1 0) (List.replicate n2 false)) := ⟨HO4.out.below hb, ho⟩
  clear hb ho
  refine ⟨_, rfl, ⟨⟨_, HB5.out⟩, rfl⟩, ?_⟩
  simp only [Act.put, List.setIfInBounds_toArray, List.set_cons_zero, List.set_cons_succ]
  simp only [outV]
  (repeat (first | (with_reducible refine mix_read (by kernel_rfl) ?_; go_big_quiet_want; go_big_quiet_op; go_big_quiet_on; with_reducible refine wpQuiet_nil ?_) | (with_reducible refine mix_pass (by kernel_rfl) ?_; go_big_quiet_skip; with_reducible refine wpQuiet_nil ?_)))
  with_reducible refine mix_call (by kernel_rfl) (by kernel_rfl) ((sameOut_eq (some ⟨b1, 0, none⟩) (some ⟨b2, 0, none⟩) (some ⟨b3, 0, none⟩) (some ⟨b4, 0, none⟩) n1 n2 n1 n2 n1 n2 (List.replicate n1 0) (List.replicate n2 false) w5 (out_d5 HO5.out.1 (by simp)) (out_p5 HO5.out.1 (by simp)) (out_d5 HO5.out.2 (by simp)) (out_p5 HO5.out.2 (by simp)) ⟨hn1, hn2⟩).mono ?_) (by kernel_rfl)
  rintro e w6 ⟨rfl, hb⟩
  have HB6 : Hid (Below w.heap.size w w6) := HB5.out.trans (hb.mono HB5.out.size)
  clear hb
  refine ⟨_, rfl, ⟨⟨_, HB6.out⟩, rfl⟩, ?_⟩
  simp only [Act.put, List.setIfInBounds_toArray, List.set_cons_zero, List.set_cons_succ]
  (repeat (first | (with_reducible refine mix_read (by kernel_rfl) ?_; go_big_quiet_want; go_big_quiet_op; go_big_quiet_on; with_reducible refine wpQuiet_nil ?_) | (with_reducible refine mix_pass (by kernel_rfl) ?_; go_big_quiet_skip; with_reducible refine wpQuiet_nil ?_)))
  with_reducible refine mix_end ?_
  intro _
  clear y0 y4
  go_wp2
  go_loopg [5] (n0 + 2) (fun gk i wr => ∃ k : Nat, gk = n0 + 2 - k ∧ i = .int .i64 ((k : Int) - 1) ∧ k ≤ n0 + 2 ∧ Below w.heap.size w wr)
  case atStart => exact ⟨0, by omega, rfl, by omega, HB6.out⟩
  case round =>
    obtain ⟨k, rfl, rfl, hk, hb⟩ := hrel
    have HBR : Hid (Below w.heap.size w wr) := hb
    clear hb
    have q0 := up_cell HBR.out HQ0.out.1
    by_cases hlt : k < n0 + 2
    · have hki : (k : Int) - 1 ≤ (n0 : Int) := by omega
      have hnn : ∀ a : Int, (a != a) = false := fun a => by simp
      have D1 := (show Hid _ from HOK.out)
      have D2 := (show Hid _ from HOX.out)
      obtain ⟨hv, hhv⟩ : ∃ h, hol ((k : Int) - 1) = h := ⟨_, rfl⟩
      have HV1 : Hid (hol ((k : Int) - 1) = hv) := hhv
      clear hhv
      have hne := hnn hv
      clear hnn
      go_wp2_with fail
      refine (D1.out wr HBR.out _).mono ?_
      rintro e w7 ⟨rfl, hb⟩
      have HB7 : Hid (Below w.heap.size w w7) := HBR.out.trans (hb.mono HBR.out.size)
      clear hb
      rw [HV1.out]
      go_wp2_with fail
      refine (D2.out w7 HB7.out _).mono ?_
      rintro e w8 ⟨rfl, hb⟩
      have HB8 : Hid (Below w.heap.size w w8) := HB7.out.trans (hb.mono HB7.out.size)
      clear hb
      rw [HV1.out]
      go_wp2
      go_roundg (n0 + 2 - (k + 1))
      case rel => exact ⟨k + 1, rfl, by go_num, by omega, HB8.out⟩
      case measure => omega
    · have hki : ¬ (k : Int) - 1 ≤ (n0 : Int) := by omega
      go_wp2
      go_ret
      exact ⟨rfl, HBR.out⟩
end Go.Proofs.YtceebimgfajbcaaGreatDoor
