/-
  Package lock: wayOf, by a contract.
-/
import Derived.Test.YtceebimgfajbcaaGreatDoorLkRoutes
namespace Go.Proofs.YtceebimgfajbcaaGreatDoor
open Go.RowKit

/-- The others that exclude it. -/
def foesF (r : Nat) (a : Rt) : List RtV → Nat → List Int
  | [], _ => []
  | y :: ys, k => if (decide (k ≠ r) && confB r k a y.1) = true then (k : Int) :: foesF r a ys (k + 1) else foesF r a ys (k + 1)
def wayF (rs : List RtV) (r : Nat) (a : Rt) : Wy := ⟨a.frm, a.path, a.points ++ a.flank, foesF r a rs 0⟩

/-- A block of numbers or needs. -/
def isRowB (W : World) (k : Nat) : Prop := ∃ c t z, W.heap[k]? = some (.cells c t z) ∧ (t = 3 ∨ t = 96)
theorem owns_clean {W W' : World} {base size n : Nat} {e : TypeId} {v : Value} {xs : List Value} (h : W.ownsRow base e size v n xs) (he : e = 3 ∨ e = 96) (hW : ∀ k, k < W.heap.size → isRowB W k → W'.heap[k]? = W.heap[k]?) : W'.ownsRow base e size v n xs := by
  refine owns_keep h fun k hk => hW k (h.lt k hk).2 ?_
  rcases h.2 with ⟨e', _⟩ | ⟨g, cap, cur, e', _, hg, _⟩
  · rw [e'] at hk; cases hk
  · rw [e'] at hk
    have := Option.some.inj hk
    simp only at this
    subst this
    exact ⟨_, _, _, hg, he⟩
theorem owns_cap {W : World} {base size n : Nat} {e : TypeId} {v : Value} {xs : List Value} (h : W.ownsRow base e size v n xs) : capOk v := fun o m c hv => by
  rcases h.2 with ⟨e', _⟩ | ⟨g, cap, cur, e', _, _, hc, _⟩
  · rw [e'] at hv; injection hv with h1 h2 h3; omega
  · rw [e'] at hv; injection hv with h1 h2 h3; omega
/-- A way whose rows lie where no lock ever writes. -/
def WyIn (W : World) (y : WyV) : Prop := ∀ W' : World, (∀ k, k < W.heap.size → isRowB W k → W'.heap[k]? = W.heap[k]?) → WyAt W' y
theorem WyIn.step {W W' : World} {y : WyV} (h : WyIn W y) (hs : W.heap.size ≤ W'.heap.size) (hk : ∀ k, k < W.heap.size → isRowB W k → W'.heap[k]? = W.heap[k]?) : WyIn W' y := fun W'' hW => h W'' fun k hl hc => by
  have h1 := hk k hl hc
  obtain ⟨c, t, z, hb, ht⟩ := hc
  exact (hW k (Nat.lt_of_lt_of_le hl hs) ⟨c, t, z, h1.trans hb, ht⟩).trans h1
theorem wyIn_of {W : World} {b1 b3 n1 : Nat} {fr : Int} {pa : List Int} {ne : List (Int × Bool)} {fo : List Int} {v1 v2 v3 : Value} (hn : n1 = pa.length) (h1 : W.ownsRow b1 3 1 v1 n1 (pa.flatMap iC)) (h2 : nOwn W v2 ne) (h3 : W.ownsRow b3 3 1 v3 fo.length (fo.flatMap iC)) : WyIn W (⟨fr, pa, ne, fo⟩, v1, v2, v3) := fun _ hW =>
  ⟨rowAt_of_owns (fun _ => rfl) (owns_clean (hn ▸ h1) (.inl rfl) hW), rowAt_of_owns (fun _ => rfl) (owns_clean h2 (.inr rfl) hW), rowAt_of_owns (fun _ => rfl) (owns_clean h3 (.inl rfl) hW), owns_cap h1⟩

set_option maxRecDepth 1000000 in
set_option maxHeartbeats 32000000 in
theorem wayOf_any (v : Nat → Value) (l : Lay) (rs : List RtV) (r : Nat) (x : RtV) (w : World) (h : LayRd w v l rs) (hx : rs[r]? = some x) (hb : rs.length ≤ 1000) (hm : ∀ y ∈ rs, y.1.path.length ≤ 1000000 ∧ y.1.points.length + y.1.flank.length ≤ 1000000) :
    Calls Tryz.prog 26 #[.agg #[v 0, v 1, v 2, v 3], .int .i64 r] w fun e w' => ∃ v1 v2 v3, e = .returned (.agg #[.int .i64 x.1.frm, v1, v2, v3]) ∧ WyIn w' (wayF rs r x.1, v1, v2, v3) ∧ Below w.heap.size w w' := by
  have hmx := hm x (List.mem_of_getElem? hx)
  have hxat := h.x x (List.mem_of_getElem? hx)
  have CI : Hid (∀ W, Below w.heap.size w W → Calls Tryz.prog 55 #[x.2.1] W fun e w' => ∃ u, e = .returned u ∧ w'.ownsRow W.heap.size 3 1 u x.1.path.length (x.1.path.flatMap iC) ∧ Below W.heap.size W w') := fun W hW => cloneI_any x.2.1 x.1.path W (hxat.path.below hW) (by omega)
  have ND : Hid (∀ W, Below w.heap.size w W → Calls Tryz.prog 56 #[.agg #[v 0, v 1, v 2, v 3], .int .i64 r] W fun e w' => ∃ u, e = .returned u ∧ nOwn w' u (x.1.points ++ x.1.flank) ∧ Below W.heap.size W w') := fun W hW => tableNeedsO_any v l rs r x W (h.below hW) hx hmx.2
  have CF : Hid (∀ (s : Nat) (y : RtV), rs[s]? = some y → ∀ W, Below w.heap.size w W → Calls Tryz.prog 57 #[.agg #[v 0, v 1, v 2, v 3], .int .i64 r, .int .i64 s] W fun e w' => e = .returned (.bool (confB r s x.1 y.1)) ∧ Below W.heap.size W w') := fun s y hy W hW => conflict_any v l rs r s x y W (h.below hW) hx hy hmx (hm y (List.mem_of_getElem? hy))
  obtain ⟨i0, hii, hz0, hz1, hz2⟩ := info_parts infoInt
  have HWF : Hid (wayF rs r x.1 = ⟨x.1.frm, x.1.path, x.1.points ++ x.1.flank, foesF r x.1 rs 0⟩) := rfl
  generalize wayF rs r x.1 = ans at *
  obtain ⟨o0, c0, e0, _⟩ := h.s
  obtain ⟨o1, c1, e1, _⟩ := h.p
  obtain ⟨o2, c2, e2, _⟩ := h.g
  obtain ⟨o3, c3, e3, r3⟩ := h.r
  obtain ⟨⟨p1, l1, d1, fx1⟩, ⟨p2, l2, d2, fx2⟩, p3, l3, d3, fx3⟩ := hxat.slices
  obtain ⟨g, off, rfl, hcx⟩ := r3 r _ hx
  have a1 := hcx 1 _ rfl
  have a3 := hcx 3 _ rfl
  have hrl : r < rs.length := (List.getElem?_eq_some_iff.1 hx).1
  have hri : (r : Int) < (rs.length : Int) := by omega
  rw [fx1] at a3 CI
  rw [e0, e1, e2, e3] at ND CF ⊢
  clear h hx hm hmx hxat r3 hcx e0 e1 e2 e3 fx1 fx2 fx3 hrl
  obtain ⟨⟨nm, fr, tt, pa, po, fl⟩, v3, v4, v5⟩ := x
  simp only at *
  generalize l.sections.length = n0 at *
  generalize l.points.length = n1 at *
  generalize l.signals.length = n2 at *
  generalize hn3 : rs.length = n3 at *
  have HN3 : Hid (rs.length = n3) := hn3
  clear hn3
  generalize hch : (w.alloc (.cells #[.slice o0 n0 c0, .slice o1 n1 c1, .slice o2 n2 c2, .slice (some ⟨g, off, none⟩) n3 c3] 26)).alloc (.cells #[.int .i64 0, .slice none 0 0, .slice none 0 0, .slice none 0 0] 74) = w1
  have HB1 : Hid (Below w.heap.size w w1) := by show Below _ _ _; rw [← hch]; exact (by repeat' (with_reducible first | exact Below.refl _ _ | refine Below.drew ?_ | refine _root_.Go.below_drewN ?_ _ | refine Below.alloc ?_ ?_ _ | refine Below.setCell ?_ ?_ _ | exact Nat.le_refl _ | (simp; done) | (simp; omega)))
  have H0 : Hid (w1.heap[w.heap.size]? = some (.cells #[.slice o0 n0 c0, .slice o1 n1 c1, .slice o2 n2 c2, .slice (some ⟨g, off, none⟩) n3 c3] 26 (0, 0))) := by show _ = _; rw [← hch]; exact blk_old (blk_new _ _)
  have H1 : Hid (w1.heap[w.heap.size + 1]? = some (.cells #[.int .i64 0, .slice none 0 0, .slice none 0 0, .slice none 0 0] 74 (0, 0))) := by show _ = _; rw [← hch]; exact blk_at1 _ _ _
  have HW : Hid (∀ W, Below w1.heap.size w1 W → Below w.heap.size w W) := fun W hW => HB1.out.trans (hW.mono HB1.out.size)
  obtain ⟨⟨x0, x1, x2, x3⟩, _⟩ := cells4 H0.out
  have x4 := up_cell HB1.out a1
  have x5 := up_cell HB1.out a3
  go_enter Tryz.func26, Tryz.ntmps26
  go_wp2_with fail
  have y0 := ext_cell x0
  have y1 := ext_cell x1
  have y2 := ext_cell x2
  have y3 := ext_cell x3
  have y4 := ext_cell x4
  have y5 := ext_cell x5
  haveI := ext_some w1
  have HB2 : Hid (Below w1.heap.size w1 w1.drew) := (Below.refl _ _).drew
  clear x0 x1 x2 x3 x4 x5 hch a1 a3
  refine wp_region_fork3 (C := fun W => ∃ y : Ext w1, W = y.z) [0, 1, 2, 3, 4, 5, 6, 7, 8, 9, 10, 11, 13, 14] [12] [15, 16, 17] [17, 15, 16] [17, 12, 15, 16] [18] (by kernel_rfl) (by kernel_rfl) (by kernel_rfl) (by kernel_rfl) (by simp only [List.filterMap_cons, List.getElem?_toArray, List.getElem?_cons_zero, List.getElem?_cons_succ, List.filterMap_nil]; rfl) (by simp only [List.filterMap_cons, List.getElem?_toArray, List.getElem?_cons_zero, List.getElem?_cons_succ, List.filterMap_nil]; rfl) (by simp only [List.filterMap_cons, List.getElem?_toArray, List.getElem?_cons_zero, List.getElem?_cons_succ, List.filterMap_nil]; rfl) (by simp only [List.filterMap_cons, List.getElem?_toArray, List.getElem?_cons_zero, List.getElem?_cons_succ, List.filterMap_nil]; rfl) (by simp only [List.filterMap_cons, List.getElem?_toArray, List.getElem?_cons_zero, List.getElem?_cons_succ, List.filterMap_nil]; rfl) (by simp only [List.filterMap_cons, List.getElem?_toArray, List.getElem?_cons_zero, List.getElem?_cons_succ, List.filterMap_nil]; rfl) ⟨⟨_, (Below.refl _ _).drew⟩, rfl⟩ ?_
  (repeat (first | (with_reducible refine mix_read (by kernel_rfl) ?_; go_big_quiet_want; go_big_quiet_op; go_big_quiet_on; with_reducible refine wpQuiet_nil ?_) | (with_reducible refine mix_pass (by kernel_rfl) ?_; go_big_quiet_skip; with_reducible refine wpQuiet_nil ?_)))
  with_reducible refine mix_end ?_
  refine ⟨?_, ?_⟩
  · with_reducible refine mix_call (by kernel_rfl) (by kernel_rfl) ((CI.out _ (HW.out _ HB2.out)).mono ?_) (by kernel_rfl)
    rintro e w2 ⟨v1, rfl, ho1, hbb⟩
    obtain ⟨o8, c8, rfl⟩ := owns_slice ho1
    generalize hn8 : pa.length = n8 at *
    have HB3 : Hid (Below w1.heap.size w1 w2) := HB2.out.trans (hbb.mono HB2.out.size)
    clear hbb
    refine ⟨_, rfl, ⟨⟨_, HB3.out⟩, rfl⟩, ?_⟩
    simp only [Act.put, List.setIfInBounds_toArray, List.set_cons_zero, List.set_cons_succ]
    with_reducible refine mix_end ?_
    refine ⟨?_, ?_⟩
    · with_reducible refine mix_call (by kernel_rfl) (by kernel_rfl) ((ND.out _ (HW.out _ HB3.out)).mono ?_) (by kernel_rfl)
      rintro e w3 ⟨v2, rfl, ho2, hbb⟩
      obtain ⟨o9, c9, rfl⟩ := owns_slice ho2
      generalize hn9 : (po ++ fl).length = n9 at *
      have HB4 : Hid (Below w1.heap.size w1 w3) := HB3.out.trans (hbb.mono HB3.out.size)
      have ho1' := owns_below ho1 hbb
      clear hbb
      refine ⟨_, rfl, ⟨⟨_, HB4.out⟩, rfl⟩, ?_⟩
      simp only [Act.put, List.setIfInBounds_toArray, List.set_cons_zero, List.set_cons_succ]
      (repeat (first | (with_reducible refine mix_read (by kernel_rfl) ?_; go_big_quiet_want; go_big_quiet_op; go_big_quiet_on; with_reducible refine wpQuiet_nil ?_) | (with_reducible refine mix_pass (by kernel_rfl) ?_; go_big_quiet_skip; with_reducible refine wpQuiet_nil ?_)))
      have HB5 : Hid (Below w1.heap.size w1 (w3.alloc (.cells #[.int .i64 0, .slice none 0 0, .slice none 0 0, .slice none 0 0] 74))) := HB4.out.alloc HB4.out.size _
      refine mix_does (v := .pointer (some ⟨w3.heap.size, 0, none⟩)) (w' := w3.alloc (.cells #[.int .i64 0, .slice none 0 0, .slice none 0 0, .slice none 0 0] 74)) (by kernel_rfl) (by kernel_rfl) (by kernel_rfl) ⟨⟨_, HB5.out⟩, rfl⟩ ?_
      simp only [Act.put, List.setIfInBounds_toArray, List.set_cons_zero, List.set_cons_succ]
      with_reducible refine mix_end ?_
      have HV1 : Hid (∃ b, (w3.alloc (.cells #[.int .i64 0, .slice none 0 0, .slice none 0 0, .slice none 0 0] 74)).ownsRow b 3 1 (.slice o8 n8 c8) n8 (pa.flatMap iC)) := ⟨_, (owns_below ho1' ((Below.refl _ _).alloc (Nat.le_refl _) _))⟩
      have HV2 : Hid (nOwn (w3.alloc (.cells #[.int .i64 0, .slice none 0 0, .slice none 0 0, .slice none 0 0] 74)) (.slice o9 n9 c9) (po ++ fl)) := owns_below ho2 ((Below.refl _ _).alloc (Nat.le_refl _) _)
      have HBZ : Hid (Below w1.heap.size w1 ((w3.alloc (.cells #[.int .i64 0, .slice none 0 0, .slice none 0 0, .slice none 0 0] 74)))) := HB5.out
      have HQ : Hid (((w3.alloc (.cells #[.int .i64 0, .slice none 0 0, .slice none 0 0, .slice none 0 0] 74))).heap[w3.heap.size]? = some (.cells #[.int .i64 0, .slice none 0 0, .slice none 0 0, .slice none 0 0] 74 (0, 0))) := blk_new _ _
      have HQG : Hid (w.heap.size + 1 < w3.heap.size) := by have := (Array.getElem?_eq_some_iff.1 H1.out).1; have := HB4.out.size; show _ < _; omega
      obtain ⟨q, hq⟩ : ∃ q, q = w3.heap.size := ⟨_, rfl⟩
      rw [← hq] at HQ HQG ⊢
      clear ho1 ho1' ho2 HB3 HB4 HB5 hq
      generalize w3.alloc (.cells #[.int .i64 0, .slice none 0 0, .slice none 0 0, .slice none 0 0] 74) = wz at *
      clear w3 w2
      have HN8 : Hid (pa.length = n8) := hn8
      have HB : Hid (n3 ≤ 1000) := hb
      clear hn8 hn9
      obtain ⟨⟨q0, q1, q2, q3⟩, z0, z1, z2, z3⟩ := cells4 HQ.out
      generalize hst : ((((wz.setCell ⟨q, 0, none⟩ (.int .i64 fr)).setCell ⟨q, 1, none⟩ (.slice o8 n8 c8)).setCell ⟨q, 2, none⟩ (.slice o9 n9 c9)).setCell ⟨q, 3, none⟩ (.slice none 0 0)) = wq
      have HQ2 : Hid (wq.heap[q]? = some (.cells #[.int .i64 fr, .slice o8 n8 c8, .slice o9 n9 c9, .slice none 0 0] 74 (0, 0))) := by show _ = _; rw [← hst]; exact set4 HQ.out _ _ _ _
      have HOTH : Hid (∀ k, k ≠ q → wq.heap[k]? = wz.heap[k]?) := fun k hk => by
        rw [← hst, Below.heap_setCell _ _ _ _ (by exact hk), Below.heap_setCell _ _ _ _ (by exact hk), Below.heap_setCell _ _ _ _ (by exact hk), Below.heap_setCell _ _ _ _ (by exact hk)]
      have HBQ : Hid (Below w.heap.size w wq) := by
        show Below _ _ _
        have := HQG.out
        rw [← hst]
        exact below_set4 (HW.out _ HBZ.out) (by omega) _ _ _ _
      have HL0 : Hid (wq.heap[w.heap.size]? = some (.cells #[.slice o0 n0 c0, .slice o1 n1 c1, .slice o2 n2 c2, .slice (some ⟨g, off, none⟩) n3 c3] 26 (0, 0))) := (HOTH.out _ (by have := HQG.out; omega)).trans (blk_below HBZ.out H0.out)
      have HL1 : Hid (wq.heap[w.heap.size + 1]? = some (.cells #[.int .i64 0, .slice none 0 0, .slice none 0 0, .slice none 0 0] 74 (0, 0))) := (HOTH.out _ (by have := HQG.out; omega)).trans (blk_below HBZ.out H1.out)
      have HQL : Hid (q < wq.heap.size) := (Array.getElem?_eq_some_iff.1 HQ2.out).1
      have HV1' : Hid (∃ b, wq.ownsRow b 3 1 (.slice o8 n8 c8) n8 (pa.flatMap iC)) := by
        obtain ⟨b, ho⟩ := HV1.out
        exact ⟨b, owns_keep ho fun k hk => HOTH.out k (owns_ne ho HQ.out (by decide) k hk)⟩
      have HV2' : Hid (nOwn wq (.slice o9 n9 c9) (po ++ fl)) := owns_keep HV2.out fun k hk => HOTH.out k (owns_ne HV2.out HQ.out (by decide) k hk)
      obtain ⟨⟨y0', y1', y2', y3'⟩, _⟩ := cells4 HL0.out
      go_wp2
      clear hst q0 q1 q2 q3 z0 z1 z2 z3 y0' y1' y2' y3' HOTH HBZ HQ HV1 HV2 y0 y1 y2 y3 y4 y5
      go_loopg [6, 27] n3 (fun gk a i wr => ∃ (k : Nat) (pre : List Int) (vf : Value), gk = n3 - k ∧ i = .int .i64 k ∧ k ≤ n3 ∧ pre.length ≤ k ∧ pre ++ foesF r ⟨nm, fr, tt, pa, po, fl⟩ (rs.drop k) k = foesF r ⟨nm, fr, tt, pa, po, fl⟩ rs 0 ∧ wr.ownsRow wq.heap.size 3 1 vf pre.length (pre.flatMap iC) ∧ wr.heap[q]? = some (.cells #[.int .i64 fr, .slice o8 n8 c8, .slice o9 n9 c9, vf] 74 (0, 0)) ∧ Chg (fun k => k = q) wq wr)
      case atStart => exact ⟨0, [], _, rfl, rfl, by omega, by simp, by simp, World.ownsRow_nil _ _ _ _, HQ2.out, Chg.refl _ _⟩
      case round =>
        obtain ⟨k, pre, vf, rfl, rfl, hk, hpk, hc, hown, hbox, hcg⟩ := hrel
        have HC : Hid (pre ++ foesF r ⟨nm, fr, tt, pa, po, fl⟩ (rs.drop k) k = foesF r ⟨nm, fr, tt, pa, po, fl⟩ rs 0) := hc
        have HOW : Hid (wr.ownsRow wq.heap.size 3 1 vf pre.length (pre.flatMap iC)) := hown
        have HBX : Hid (wr.heap[q]? = some (.cells #[.int .i64 fr, .slice o8 n8 c8, .slice o9 n9 c9, vf] 74 (0, 0))) := hbox
        have HCG : Hid (Chg (fun k => k = q) wq wr) := hcg
        have HBW : Hid (Below w.heap.size w wr) := HBQ.out.trans (hcg.below (fun k (hk : k = q) => by have := HQG.out; omega) HBQ.out.size)
        have HM0 : Hid (wr.heap[w.heap.size]? = some (.cells #[.slice o0 n0 c0, .slice o1 n1 c1, .slice o2 n2 c2, .slice (some ⟨g, off, none⟩) n3 c3] 26 (0, 0))) := hcg.blk HL0.out (by have := HQG.out; show ¬ w.heap.size = q; omega)
        clear hc hown hbox hcg
        by_cases hlt : k < n3
        · obtain ⟨y, hy⟩ : ∃ y, rs[k]? = some y := at_of (by rw [HN3.out]; exact hlt)
          have CY := CF.out k y hy
          rw [drop_at hy, foesF] at HC
          have hki : (k : Int) < (n3 : Int) := by omega
          have hkb : n3 ≤ 1000 := HB.out
          obtain ⟨⟨t0, t1, t2, t3⟩, _⟩ := cells4 HM0.out
          clear hy
          by_cases hkr : k = r
          · subst hkr
            rw [if_neg (by simp)] at HC
            go_wp2
            go_roundg (n3 - (k + 1))
            case rel => exact ⟨k + 1, pre, vf, rfl, by go_num, by omega, by omega, HC.out, HOW.out, HBX.out, HCG.out⟩
            case measure => omega
          · have hd : ((k : Int) != (r : Int)) = true := by simp; omega
            have hd2 : ((k : Int) == (r : Int)) = false := by simp; omega
            have hd3 : decide (k ≠ r) = true := decide_eq_true hkr
            rw [hd3, Bool.true_and] at HC
            have HCY : Hid (∀ W, Below w.heap.size w W → Calls Tryz.prog 57 #[.agg #[.slice o0 n0 c0, .slice o1 n1 c1, .slice o2 n2 c2, .slice (some ⟨g, off, none⟩) n3 c3], .int .i64 r, .int .i64 k] W fun e w' => e = .returned (.bool (confB r k ⟨nm, fr, tt, pa, po, fl⟩ y.1)) ∧ Below W.heap.size W w') := CY
            clear CY hkr hd3
            generalize confB r k ⟨nm, fr, tt, pa, po, fl⟩ y.1 = cb at *
            go_wp2_with fail
            refine (HCY.out _ HBW.out).mono ?_
            rintro e w5 ⟨rfl, hb5⟩
            have HB5 : Hid (Below wr.heap.size wr w5) := hb5
            clear hb5 t0 t1 t2 t3
            cases cb
            · rw [if_neg (by simp)] at HC
              go_wp2
              go_roundg (n3 - (k + 1))
              case rel => exact ⟨k + 1, pre, vf, rfl, by go_num, by omega, by omega, HC.out, owns_below HOW.out HB5.out, blk_below HB5.out HBX.out, HCG.out.trans (Chg.of_below HB5.out)⟩
              case measure => omega
            · rw [if_pos rfl] at HC
              obtain ⟨⟨t0, t1, t2, t3⟩, u0, u1, u2, u3⟩ := cells4 (blk_below HB5.out HBX.out)
              have hown5 := owns_below HOW.out HB5.out
              have HOWN5 : Hid (w5.ownsRow wq.heap.size 3 1 vf pre.length (pre.flatMap iC)) := hown5
              have HPR : Hid ((pre ++ [(k : Int)]).flatMap iC = pre.flatMap iC ++ [.int .i64 k]) := by
                show _ = _
                rw [List.flatMap_append]
                rfl
              have HCC : Hid ((pre ++ [(k : Int)]) ++ foesF r ⟨nm, fr, tt, pa, po, fl⟩ (rs.drop (k + 1)) (k + 1) = foesF r ⟨nm, fr, tt, pa, po, fl⟩ rs 0) := by
                show _ = _
                rw [List.append_assoc]
                exact HC.out
              have HPL : Hid ((pre ++ [(k : Int)]).length = pre.length + 1) := by
                show _ = _
                simp
              have hsz5 : wq.heap.size ≤ w5.heap.size := Nat.le_trans HCG.out.size HB5.out.size
              have HSZ5 : Hid (wq.heap.size ≤ w5.heap.size) := hsz5
              clear HC
              generalize hcs : pre.flatMap iC = cells at *
              generalize hpl : pre.length = m at *
              clear hcs hpl
              go_wp2_with (at_builtin; refine wpList_append_own _ rfl _ _ 36 rfl wq.heap.size 3 i0 (.int .i64 0) 1 8 Tryz.underlying36 hii hz0 hz1 hz2 rfl (by decide) _ _ _ rfl (hown5.alloc _) ⟨w5.heap.size, 0, none⟩ 1 1 [.int .i64 k] rfl rfl (by intro j u hj; match j, hj with | 0, hj => (simp at hj; subst hj; simp [addr_add]) | j + 1, hj => simp at hj) (one_int _) (by unfold maxLen; omega) (by omega) (by simp; omega) ?_)
              intro v' w6 hown6 hgrow _
              obtain ⟨ov, cv, rfl⟩ := owns_slice hown6
              have hsz6 := hgrow.size
              rw [World.size_alloc] at hsz6
              have keep6 : ∀ i, i < wq.heap.size → w6.heap[i]? = w5.heap[i]? := fun i hi => by
                rw [hgrow.block i (by simp; have := HSZ5.out; omega) (fun e => by have := (HOWN5.out.lt i e.symm).1; omega), Below.heap_alloc _ _ _ (by have := HSZ5.out; omega)]
              have HQ6 : Hid (w6.heap[q]? = some (.cells #[.int .i64 fr, .slice o8 n8 c8, .slice o9 n9 c9, vf] 74 (0, 0))) := (keep6 q HQL.out).trans (blk_below HB5.out HBX.out)
              obtain ⟨⟨s0, s1, s2, s3⟩, v0, v1, v2, v3'⟩ := cells4 HQ6.out
              have HO6 : Hid (w6.ownsRow wq.heap.size 3 1 (.slice ov (m + 1) cv) (m + 1) (cells ++ [.int .i64 k])) := hown6
              have HR6 : Hid ((w6.setCell ⟨q, 3, none⟩ (.slice ov (m + 1) cv)).ownsRow wq.heap.size 3 1 (.slice ov (m + 1) cv) (m + 1) (cells ++ [.int .i64 k]) ∧ (w6.setCell ⟨q, 3, none⟩ (.slice ov (m + 1) cv)).heap[q]? = some (.cells #[.int .i64 fr, .slice o8 n8 c8, .slice o9 n9 c9, (.slice ov (m + 1) cv)] 74 (0, 0)) ∧ Chg (fun k => k = q) wq (w6.setCell ⟨q, 3, none⟩ (.slice ov (m + 1) cv))) := by
                refine ⟨owns_keep HO6.out fun i hi => Below.heap_setCell _ _ _ _ (by have := (HO6.out.lt i hi).1; have := HQL.out; show i ≠ q; omega), ?_, ?_⟩
                · rw [heap_put HQ6.out]
                  rfl
                · have h5 := HCG.out.trans (Chg.of_below HB5.out)
                  refine ⟨hgrow.os.trans h5.os, hgrow.tape.trans h5.tape, hgrow.output.trans h5.output, ?_, fun i hi hf => ?_⟩
                  · have := HSZ5.out
                    simp only [World.setCell, Array.size_modify]
                    omega
                  · rw [Below.heap_setCell _ _ _ _ (by exact hf), keep6 i hi]
                    exact h5.block i hi hf
              clear hown5 hown6 hgrow keep6 hsz5 hsz6 t0 t1 t2 t3 u0 u1 u2 u3
              go_wp2
              go_roundg (n3 - (k + 1))
              case rel => exact ⟨k + 1, pre ++ [(k : Int)], (.slice ov (m + 1) cv), rfl, by go_num, by omega, by rw [HPL.out]; omega, HCC.out, by rw [HPR.out, HPL.out]; exact HR6.out.1, HR6.out.2.1, HR6.out.2.2⟩
              case measure => omega
        · have hkn : k = n3 := by omega
          rw [List.drop_of_length_le (by rw [HN3.out]; omega), foesF, List.append_nil] at HC
          obtain ⟨⟨t0, t1, t2, t3⟩, _⟩ := cells4 HBX.out
          have hl1 := HCG.out.blk HL1.out (by have := HQG.out; show ¬ w.heap.size + 1 = q; omega)
          obtain ⟨⟨s0, s1, s2, s3⟩, v0, v1, v2, v3'⟩ := cells4 hl1
          obtain ⟨of, cf, hvf⟩ := owns_slice HOW.out
          subst hvf
          go_wp2
          refine bodyPost_ret (v := .agg #[.int .i64 fr, .slice o8 n8 c8, .slice o9 n9 c9, .slice of pre.length cf]) (by simp [results, Tryz.results26, go_sem, s0, s1, s2, s3]) rfl ⟨_, _, _, rfl, ?_, ?_⟩
          · rw [HWF.out, ← HC.out]
            have oth : ∀ k, k ≠ w.heap.size + 1 → ((((wr.setCell ⟨w.heap.size + 1, 0, none⟩ (.int .i64 fr)).setCell ⟨w.heap.size + 1, 1, none⟩ (.slice o8 n8 c8)).setCell ⟨w.heap.size + 1, 2, none⟩ (.slice o9 n9 c9)).setCell ⟨w.heap.size + 1, 3, none⟩ (.slice of pre.length cf)).heap[k]? = wr.heap[k]? := fun k hk => by
              rw [Below.heap_setCell _ _ _ _ (by exact hk), Below.heap_setCell _ _ _ _ (by exact hk), Below.heap_setCell _ _ _ _ (by exact hk), Below.heap_setCell _ _ _ _ (by exact hk)]
            obtain ⟨b, ho1⟩ := HV1'.out
            have hr1 := owns_keep (w' := wr) ho1 fun k hk => HCG.out.block k (ho1.lt k hk).2 (owns_ne ho1 HQ2.out (by decide) k hk)
            have hr2 : wr.ownsRow 0 96 2 (.slice o9 n9 c9) (po ++ fl).length ((po ++ fl).flatMap nC) := owns_keep (w' := wr) HV2'.out fun k hk => HCG.out.block k (HV2'.out.lt k hk).2 (owns_ne HV2'.out HQ2.out (by decide) k hk)
            have hl1 := HCG.out.blk HL1.out (by have := HQG.out; show ¬ w.heap.size + 1 = q; omega)
            have hf1 := owns_keep hr1 fun k hk => oth k (owns_ne hr1 hl1 (by decide) k hk)
            have hf2 := owns_keep hr2 fun k hk => oth k (owns_ne hr2 hl1 (by decide) k hk)
            have hf3 := owns_keep HOW.out fun k hk => oth k (owns_ne HOW.out hl1 (by decide) k hk)
            exact wyIn_of HN8.out.symm hf1 hf2 hf3
          · exact below_set4 HBW.out (by omega) _ _ _ _
    · have HB4 : Hid (Below w1.heap.size w1 (w2.alloc (.cells #[.int .i64 0, .slice none 0 0, .slice none 0 0, .slice none 0 0] 74))) := HB3.out.alloc HB3.out.size _
      have HBA2 : Below w2.heap.size w2 (w2.alloc (.cells #[.int .i64 0, .slice none 0 0, .slice none 0 0, .slice none 0 0] 74)) := (Below.refl _ _).alloc (Nat.le_refl _) _
      have hqz : (w2.alloc (.cells #[.int .i64 0, .slice none 0 0, .slice none 0 0, .slice none 0 0] 74)).heap[w2.heap.size]? = some (.cells #[.int .i64 0, .slice none 0 0, .slice none 0 0, .slice none 0 0] 74 (0, 0)) := blk_new w2 _
      refine mix_does (v := .pointer (some ⟨w2.heap.size, 0, none⟩)) (w' := w2.alloc (.cells #[.int .i64 0, .slice none 0 0, .slice none 0 0, .slice none 0 0] 74)) (by kernel_rfl) (by kernel_rfl) (by kernel_rfl) ⟨⟨_, HB4.out⟩, rfl⟩ ?_
      simp only [Act.put, List.setIfInBounds_toArray, List.set_cons_zero, List.set_cons_succ]
      generalize w2.alloc (.cells #[.int .i64 0, .slice none 0 0, .slice none 0 0, .slice none 0 0] 74) = wA at *
      with_reducible refine mix_call (by kernel_rfl) (by kernel_rfl) ((ND.out _ (HW.out _ HB4.out)).mono ?_) (by kernel_rfl)
      rintro e w4 ⟨v2, rfl, ho2, hbb⟩
      obtain ⟨o9, c9, rfl⟩ := owns_slice ho2
      generalize hn9 : (po ++ fl).length = n9 at *
      have HB5 : Hid (Below w1.heap.size w1 w4) := HB4.out.trans (hbb.mono HB4.out.size)
      have ho1' := owns_below (owns_below ho1 HBA2) hbb
      have hqz' := blk_below hbb hqz
      clear hbb
      refine ⟨_, rfl, ⟨⟨_, HB5.out⟩, rfl⟩, ?_⟩
      simp only [Act.put, List.setIfInBounds_toArray, List.set_cons_zero, List.set_cons_succ]
      (repeat (first | (with_reducible refine mix_read (by kernel_rfl) ?_; go_big_quiet_want; go_big_quiet_op; go_big_quiet_on; with_reducible refine wpQuiet_nil ?_) | (with_reducible refine mix_pass (by kernel_rfl) ?_; go_big_quiet_skip; with_reducible refine wpQuiet_nil ?_)))
      with_reducible refine mix_end ?_
      have HV1 : Hid (∃ b, w4.ownsRow b 3 1 (.slice o8 n8 c8) n8 (pa.flatMap iC)) := ⟨_, ho1'⟩
      have HV2 : Hid (nOwn w4 (.slice o9 n9 c9) (po ++ fl)) := ho2
      have HBZ : Hid (Below w1.heap.size w1 w4) := HB5.out
      have HQ : Hid (w4.heap[w2.heap.size]? = some (.cells #[.int .i64 0, .slice none 0 0, .slice none 0 0, .slice none 0 0] 74 (0, 0))) := hqz'
      have HQG : Hid (w.heap.size + 1 < w2.heap.size) := by have := (Array.getElem?_eq_some_iff.1 H1.out).1; have := HB3.out.size; show _ < _; omega
      obtain ⟨q, hq⟩ : ∃ q, q = w2.heap.size := ⟨_, rfl⟩
      rw [← hq] at HQ HQG ⊢
      clear ho1 ho1' ho2 hqz hqz' HBA2 HB3 HB4 HB5 hq
      generalize w4 = wz at *
      have HN8 : Hid (pa.length = n8) := hn8
      have HB : Hid (n3 ≤ 1000) := hb
      clear hn8 hn9
      obtain ⟨⟨q0, q1, q2, q3⟩, z0, z1, z2, z3⟩ := cells4 HQ.out
      generalize hst : ((((wz.setCell ⟨q, 0, none⟩ (.int .i64 fr)).setCell ⟨q, 1, none⟩ (.slice o8 n8 c8)).setCell ⟨q, 2, none⟩ (.slice o9 n9 c9)).setCell ⟨q, 3, none⟩ (.slice none 0 0)) = wq
      have HQ2 : Hid (wq.heap[q]? = some (.cells #[.int .i64 fr, .slice o8 n8 c8, .slice o9 n9 c9, .slice none 0 0] 74 (0, 0))) := by show _ = _; rw [← hst]; exact set4 HQ.out _ _ _ _
      have HOTH : Hid (∀ k, k ≠ q → wq.heap[k]? = wz.heap[k]?) := fun k hk => by
        rw [← hst, Below.heap_setCell _ _ _ _ (by exact hk), Below.heap_setCell _ _ _ _ (by exact hk), Below.heap_setCell _ _ _ _ (by exact hk), Below.heap_setCell _ _ _ _ (by exact hk)]
      have HBQ : Hid (Below w.heap.size w wq) := by
        show Below _ _ _
        have := HQG.out
        rw [← hst]
        exact below_set4 (HW.out _ HBZ.out) (by omega) _ _ _ _
      have HL0 : Hid (wq.heap[w.heap.size]? = some (.cells #[.slice o0 n0 c0, .slice o1 n1 c1, .slice o2 n2 c2, .slice (some ⟨g, off, none⟩) n3 c3] 26 (0, 0))) := (HOTH.out _ (by have := HQG.out; omega)).trans (blk_below HBZ.out H0.out)
      have HL1 : Hid (wq.heap[w.heap.size + 1]? = some (.cells #[.int .i64 0, .slice none 0 0, .slice none 0 0, .slice none 0 0] 74 (0, 0))) := (HOTH.out _ (by have := HQG.out; omega)).trans (blk_below HBZ.out H1.out)
      have HQL : Hid (q < wq.heap.size) := (Array.getElem?_eq_some_iff.1 HQ2.out).1
      have HV1' : Hid (∃ b, wq.ownsRow b 3 1 (.slice o8 n8 c8) n8 (pa.flatMap iC)) := by
        obtain ⟨b, ho⟩ := HV1.out
        exact ⟨b, owns_keep ho fun k hk => HOTH.out k (owns_ne ho HQ.out (by decide) k hk)⟩
      have HV2' : Hid (nOwn wq (.slice o9 n9 c9) (po ++ fl)) := owns_keep HV2.out fun k hk => HOTH.out k (owns_ne HV2.out HQ.out (by decide) k hk)
      obtain ⟨⟨y0', y1', y2', y3'⟩, _⟩ := cells4 HL0.out
      go_wp2
      clear hst q0 q1 q2 q3 z0 z1 z2 z3 y0' y1' y2' y3' HOTH HBZ HQ HV1 HV2 y0 y1 y2 y3 y4 y5
      go_loopg [6, 27] n3 (fun gk a i wr => ∃ (k : Nat) (pre : List Int) (vf : Value), gk = n3 - k ∧ i = .int .i64 k ∧ k ≤ n3 ∧ pre.length ≤ k ∧ pre ++ foesF r ⟨nm, fr, tt, pa, po, fl⟩ (rs.drop k) k = foesF r ⟨nm, fr, tt, pa, po, fl⟩ rs 0 ∧ wr.ownsRow wq.heap.size 3 1 vf pre.length (pre.flatMap iC) ∧ wr.heap[q]? = some (.cells #[.int .i64 fr, .slice o8 n8 c8, .slice o9 n9 c9, vf] 74 (0, 0)) ∧ Chg (fun k => k = q) wq wr)
      case atStart => exact ⟨0, [], _, rfl, rfl, by omega, by simp, by simp, World.ownsRow_nil _ _ _ _, HQ2.out, Chg.refl _ _⟩
      case round =>
        obtain ⟨k, pre, vf, rfl, rfl, hk, hpk, hc, hown, hbox, hcg⟩ := hrel
        have HC : Hid (pre ++ foesF r ⟨nm, fr, tt, pa, po, fl⟩ (rs.drop k) k = foesF r ⟨nm, fr, tt, pa, po, fl⟩ rs 0) := hc
        have HOW : Hid (wr.ownsRow wq.heap.size 3 1 vf pre.length (pre.flatMap iC)) := hown
        have HBX : Hid (wr.heap[q]? = some (.cells #[.int .i64 fr, .slice o8 n8 c8, .slice o9 n9 c9, vf] 74 (0, 0))) := hbox
        have HCG : Hid (Chg (fun k => k = q) wq wr) := hcg
        have HBW : Hid (Below w.heap.size w wr) := HBQ.out.trans (hcg.below (fun k (hk : k = q) => by have := HQG.out; omega) HBQ.out.size)
        have HM0 : Hid (wr.heap[w.heap.size]? = some (.cells #[.slice o0 n0 c0, .slice o1 n1 c1, .slice o2 n2 c2, .slice (some ⟨g, off, none⟩) n3 c3] 26 (0, 0))) := hcg.blk HL0.out (by have := HQG.out; show ¬ w.heap.size = q; omega)
        clear hc hown hbox hcg
        by_cases hlt : k < n3
        · obtain ⟨y, hy⟩ : ∃ y, rs[k]? = some y := at_of (by rw [HN3.out]; exact hlt)
          have CY := CF.out k y hy
          rw [drop_at hy, foesF] at HC
          have hki : (k : Int) < (n3 : Int) := by omega
          have hkb : n3 ≤ 1000 := HB.out
          obtain ⟨⟨t0, t1, t2, t3⟩, _⟩ := cells4 HM0.out
          clear hy
          by_cases hkr : k = r
          · subst hkr
            rw [if_neg (by simp)] at HC
            go_wp2
            go_roundg (n3 - (k + 1))
            case rel => exact ⟨k + 1, pre, vf, rfl, by go_num, by omega, by omega, HC.out, HOW.out, HBX.out, HCG.out⟩
            case measure => omega
          · have hd : ((k : Int) != (r : Int)) = true := by simp; omega
            have hd2 : ((k : Int) == (r : Int)) = false := by simp; omega
            have hd3 : decide (k ≠ r) = true := decide_eq_true hkr
            rw [hd3, Bool.true_and] at HC
            have HCY : Hid (∀ W, Below w.heap.size w W → Calls Tryz.prog 57 #[.agg #[.slice o0 n0 c0, .slice o1 n1 c1, .slice o2 n2 c2, .slice (some ⟨g, off, none⟩) n3 c3], .int .i64 r, .int .i64 k] W fun e w' => e = .returned (.bool (confB r k ⟨nm, fr, tt, pa, po, fl⟩ y.1)) ∧ Below W.heap.size W w') := CY
            clear CY hkr hd3
            generalize confB r k ⟨nm, fr, tt, pa, po, fl⟩ y.1 = cb at *
            go_wp2_with fail
            refine (HCY.out _ HBW.out).mono ?_
            rintro e w5 ⟨rfl, hb5⟩
            have HB5 : Hid (Below wr.heap.size wr w5) := hb5
            clear hb5 t0 t1 t2 t3
            cases cb
            · rw [if_neg (by simp)] at HC
              go_wp2
              go_roundg (n3 - (k + 1))
              case rel => exact ⟨k + 1, pre, vf, rfl, by go_num, by omega, by omega, HC.out, owns_below HOW.out HB5.out, blk_below HB5.out HBX.out, HCG.out.trans (Chg.of_below HB5.out)⟩
              case measure => omega
            · rw [if_pos rfl] at HC
              obtain ⟨⟨t0, t1, t2, t3⟩, u0, u1, u2, u3⟩ := cells4 (blk_below HB5.out HBX.out)
              have hown5 := owns_below HOW.out HB5.out
              have HOWN5 : Hid (w5.ownsRow wq.heap.size 3 1 vf pre.length (pre.flatMap iC)) := hown5
              have HPR : Hid ((pre ++ [(k : Int)]).flatMap iC = pre.flatMap iC ++ [.int .i64 k]) := by
                show _ = _
                rw [List.flatMap_append]
                rfl
              have HCC : Hid ((pre ++ [(k : Int)]) ++ foesF r ⟨nm, fr, tt, pa, po, fl⟩ (rs.drop (k + 1)) (k + 1) = foesF r ⟨nm, fr, tt, pa, po, fl⟩ rs 0) := by
                show _ = _
                rw [List.append_assoc]
                exact HC.out
              have HPL : Hid ((pre ++ [(k : Int)]).length = pre.length + 1) := by
                show _ = _
                simp
              have hsz5 : wq.heap.size ≤ w5.heap.size := Nat.le_trans HCG.out.size HB5.out.size
              have HSZ5 : Hid (wq.heap.size ≤ w5.heap.size) := hsz5
              clear HC
              generalize hcs : pre.flatMap iC = cells at *
              generalize hpl : pre.length = m at *
              clear hcs hpl
              go_wp2_with (at_builtin; refine wpList_append_own _ rfl _ _ 36 rfl wq.heap.size 3 i0 (.int .i64 0) 1 8 Tryz.underlying36 hii hz0 hz1 hz2 rfl (by decide) _ _ _ rfl (hown5.alloc _) ⟨w5.heap.size, 0, none⟩ 1 1 [.int .i64 k] rfl rfl (by intro j u hj; match j, hj with | 0, hj => (simp at hj; subst hj; simp [addr_add]) | j + 1, hj => simp at hj) (one_int _) (by unfold maxLen; omega) (by omega) (by simp; omega) ?_)
              intro v' w6 hown6 hgrow _
              obtain ⟨ov, cv, rfl⟩ := owns_slice hown6
              have hsz6 := hgrow.size
              rw [World.size_alloc] at hsz6
              have keep6 : ∀ i, i < wq.heap.size → w6.heap[i]? = w5.heap[i]? := fun i hi => by
                rw [hgrow.block i (by simp; have := HSZ5.out; omega) (fun e => by have := (HOWN5.out.lt i e.symm).1; omega), Below.heap_alloc _ _ _ (by have := HSZ5.out; omega)]
              have HQ6 : Hid (w6.heap[q]? = some (.cells #[.int .i64 fr, .slice o8 n8 c8, .slice o9 n9 c9, vf] 74 (0, 0))) := (keep6 q HQL.out).trans (blk_below HB5.out HBX.out)
              obtain ⟨⟨s0, s1, s2, s3⟩, v0, v1, v2, v3'⟩ := cells4 HQ6.out
              have HO6 : Hid (w6.ownsRow wq.heap.size 3 1 (.slice ov (m + 1) cv) (m + 1) (cells ++ [.int .i64 k])) := hown6
              have HR6 : Hid ((w6.setCell ⟨q, 3, none⟩ (.slice ov (m + 1) cv)).ownsRow wq.heap.size 3 1 (.slice ov (m + 1) cv) (m + 1) (cells ++ [.int .i64 k]) ∧ (w6.setCell ⟨q, 3, none⟩ (.slice ov (m + 1) cv)).heap[q]? = some (.cells #[.int .i64 fr, .slice o8 n8 c8, .slice o9 n9 c9, (.slice ov (m + 1) cv)] 74 (0, 0)) ∧ Chg (fun k => k = q) wq (w6.setCell ⟨q, 3, none⟩ (.slice ov (m + 1) cv))) := by
                refine ⟨owns_keep HO6.out fun i hi => Below.heap_setCell _ _ _ _ (by have := (HO6.out.lt i hi).1; have := HQL.out; show i ≠ q; omega), ?_, ?_⟩
                · rw [heap_put HQ6.out]
                  rfl
                · have h5 := HCG.out.trans (Chg.of_below HB5.out)
                  refine ⟨hgrow.os.trans h5.os, hgrow.tape.trans h5.tape, hgrow.output.trans h5.output, ?_, fun i hi hf => ?_⟩
                  · have := HSZ5.out
                    simp only [World.setCell, Array.size_modify]
                    omega
                  · rw [Below.heap_setCell _ _ _ _ (by exact hf), keep6 i hi]
                    exact h5.block i hi hf
              clear hown5 hown6 hgrow keep6 hsz5 hsz6 t0 t1 t2 t3 u0 u1 u2 u3
              go_wp2
              go_roundg (n3 - (k + 1))
              case rel => exact ⟨k + 1, pre ++ [(k : Int)], (.slice ov (m + 1) cv), rfl, by go_num, by omega, by rw [HPL.out]; omega, HCC.out, by rw [HPR.out, HPL.out]; exact HR6.out.1, HR6.out.2.1, HR6.out.2.2⟩
              case measure => omega
        · have hkn : k = n3 := by omega
          rw [List.drop_of_length_le (by rw [HN3.out]; omega), foesF, List.append_nil] at HC
          obtain ⟨⟨t0, t1, t2, t3⟩, _⟩ := cells4 HBX.out
          have hl1 := HCG.out.blk HL1.out (by have := HQG.out; show ¬ w.heap.size + 1 = q; omega)
          obtain ⟨⟨s0, s1, s2, s3⟩, v0, v1, v2, v3'⟩ := cells4 hl1
          obtain ⟨of, cf, hvf⟩ := owns_slice HOW.out
          subst hvf
          go_wp2
          refine bodyPost_ret (v := .agg #[.int .i64 fr, .slice o8 n8 c8, .slice o9 n9 c9, .slice of pre.length cf]) (by simp [results, Tryz.results26, go_sem, s0, s1, s2, s3]) rfl ⟨_, _, _, rfl, ?_, ?_⟩
          · rw [HWF.out, ← HC.out]
            have oth : ∀ k, k ≠ w.heap.size + 1 → ((((wr.setCell ⟨w.heap.size + 1, 0, none⟩ (.int .i64 fr)).setCell ⟨w.heap.size + 1, 1, none⟩ (.slice o8 n8 c8)).setCell ⟨w.heap.size + 1, 2, none⟩ (.slice o9 n9 c9)).setCell ⟨w.heap.size + 1, 3, none⟩ (.slice of pre.length cf)).heap[k]? = wr.heap[k]? := fun k hk => by
              rw [Below.heap_setCell _ _ _ _ (by exact hk), Below.heap_setCell _ _ _ _ (by exact hk), Below.heap_setCell _ _ _ _ (by exact hk), Below.heap_setCell _ _ _ _ (by exact hk)]
            obtain ⟨b, ho1⟩ := HV1'.out
            have hr1 := owns_keep (w' := wr) ho1 fun k hk => HCG.out.block k (ho1.lt k hk).2 (owns_ne ho1 HQ2.out (by decide) k hk)
            have hr2 : wr.ownsRow 0 96 2 (.slice o9 n9 c9) (po ++ fl).length ((po ++ fl).flatMap nC) := owns_keep (w' := wr) HV2'.out fun k hk => HCG.out.block k (HV2'.out.lt k hk).2 (owns_ne HV2'.out HQ2.out (by decide) k hk)
            have hl1 := HCG.out.blk HL1.out (by have := HQG.out; show ¬ w.heap.size + 1 = q; omega)
            have hf1 := owns_keep hr1 fun k hk => oth k (owns_ne hr1 hl1 (by decide) k hk)
            have hf2 := owns_keep hr2 fun k hk => oth k (owns_ne hr2 hl1 (by decide) k hk)
            have hf3 := owns_keep HOW.out fun k hk => oth k (owns_ne HOW.out hl1 (by decide) k hk)
            exact wyIn_of HN8.out.symm hf1 hf2 hf3
          · exact below_set4 HBW.out (by omega) _ _ _ _
  · have HB3 : Hid (Below w1.heap.size w1 (w1.drew.alloc (.cells #[.int .i64 0, .slice none 0 0, .slice none 0 0, .slice none 0 0] 74))) := HB2.out.alloc HB2.out.size _
    have hqz : (w1.drew.alloc (.cells #[.int .i64 0, .slice none 0 0, .slice none 0 0, .slice none 0 0] 74)).heap[w1.heap.size]? = some (.cells #[.int .i64 0, .slice none 0 0, .slice none 0 0, .slice none 0 0] 74 (0, 0)) := blk_new w1.drew _
    refine mix_does (v := .pointer (some ⟨w1.heap.size, 0, none⟩)) (w' := w1.drew.alloc (.cells #[.int .i64 0, .slice none 0 0, .slice none 0 0, .slice none 0 0] 74)) (by kernel_rfl) (by kernel_rfl) (by kernel_rfl) ⟨⟨_, HB3.out⟩, rfl⟩ ?_
    simp only [Act.put, List.setIfInBounds_toArray, List.set_cons_zero, List.set_cons_succ]
    generalize w1.drew.alloc (.cells #[.int .i64 0, .slice none 0 0, .slice none 0 0, .slice none 0 0] 74) = wA at *
    with_reducible refine mix_call (by kernel_rfl) (by kernel_rfl) ((CI.out _ (HW.out _ HB3.out)).mono ?_) (by kernel_rfl)
    rintro e w3 ⟨v1, rfl, ho1, hbb⟩
    obtain ⟨o8, c8, rfl⟩ := owns_slice ho1
    generalize hn8 : pa.length = n8 at *
    have HB4 : Hid (Below w1.heap.size w1 w3) := HB3.out.trans (hbb.mono HB3.out.size)
    have hqz' := blk_below hbb hqz
    clear hbb
    refine ⟨_, rfl, ⟨⟨_, HB4.out⟩, rfl⟩, ?_⟩
    simp only [Act.put, List.setIfInBounds_toArray, List.set_cons_zero, List.set_cons_succ]
    with_reducible refine mix_call (by kernel_rfl) (by kernel_rfl) ((ND.out _ (HW.out _ HB4.out)).mono ?_) (by kernel_rfl)
    rintro e w4 ⟨v2, rfl, ho2, hbb⟩
    obtain ⟨o9, c9, rfl⟩ := owns_slice ho2
    generalize hn9 : (po ++ fl).length = n9 at *
    have HB5 : Hid (Below w1.heap.size w1 w4) := HB4.out.trans (hbb.mono HB4.out.size)
    have ho1' := owns_below ho1 hbb
    have hqz'' := blk_below hbb hqz'
    clear hbb
    refine ⟨_, rfl, ⟨⟨_, HB5.out⟩, rfl⟩, ?_⟩
    simp only [Act.put, List.setIfInBounds_toArray, List.set_cons_zero, List.set_cons_succ]
    (repeat (first | (with_reducible refine mix_read (by kernel_rfl) ?_; go_big_quiet_want; go_big_quiet_op; go_big_quiet_on; with_reducible refine wpQuiet_nil ?_) | (with_reducible refine mix_pass (by kernel_rfl) ?_; go_big_quiet_skip; with_reducible refine wpQuiet_nil ?_)))
    with_reducible refine mix_end ?_
    have HV1 : Hid (∃ b, w4.ownsRow b 3 1 (.slice o8 n8 c8) n8 (pa.flatMap iC)) := ⟨_, ho1'⟩
    have HV2 : Hid (nOwn w4 (.slice o9 n9 c9) (po ++ fl)) := ho2
    have HBZ : Hid (Below w1.heap.size w1 w4) := HB5.out
    have HQ : Hid (w4.heap[w1.heap.size]? = some (.cells #[.int .i64 0, .slice none 0 0, .slice none 0 0, .slice none 0 0] 74 (0, 0))) := hqz''
    have HQG : Hid (w.heap.size + 1 < w1.heap.size) := (Array.getElem?_eq_some_iff.1 H1.out).1
    obtain ⟨q, hq⟩ : ∃ q, q = w1.heap.size := ⟨_, rfl⟩
    rw [← hq] at HQ HQG ⊢
    clear ho1 ho1' ho2 hqz hqz' hqz'' HB3 HB4 HB5 hq
    generalize w4 = wz at *
    have HN8 : Hid (pa.length = n8) := hn8
    have HB : Hid (n3 ≤ 1000) := hb
    clear hn8 hn9
    obtain ⟨⟨q0, q1, q2, q3⟩, z0, z1, z2, z3⟩ := cells4 HQ.out
    generalize hst : ((((wz.setCell ⟨q, 0, none⟩ (.int .i64 fr)).setCell ⟨q, 1, none⟩ (.slice o8 n8 c8)).setCell ⟨q, 2, none⟩ (.slice o9 n9 c9)).setCell ⟨q, 3, none⟩ (.slice none 0 0)) = wq
    have HQ2 : Hid (wq.heap[q]? = some (.cells #[.int .i64 fr, .slice o8 n8 c8, .slice o9 n9 c9, .slice none 0 0] 74 (0, 0))) := by show _ = _; rw [← hst]; exact set4 HQ.out _ _ _ _
    have HOTH : Hid (∀ k, k ≠ q → wq.heap[k]? = wz.heap[k]?) := fun k hk => by
      rw [← hst, Below.heap_setCell _ _ _ _ (by exact hk), Below.heap_setCell _ _ _ _ (by exact hk), Below.heap_setCell _ _ _ _ (by exact hk), Below.heap_setCell _ _ _ _ (by exact hk)]
    have HBQ : Hid (Below w.heap.size w wq) := by
      show Below _ _ _
      have := HQG.out
      rw [← hst]
      exact below_set4 (HW.out _ HBZ.out) (by omega) _ _ _ _
    have HL0 : Hid (wq.heap[w.heap.size]? = some (.cells #[.slice o0 n0 c0, .slice o1 n1 c1, .slice o2 n2 c2, .slice (some ⟨g, off, none⟩) n3 c3] 26 (0, 0))) := (HOTH.out _ (by have := HQG.out; omega)).trans (blk_below HBZ.out H0.out)
    have HL1 : Hid (wq.heap[w.heap.size + 1]? = some (.cells #[.int .i64 0, .slice none 0 0, .slice none 0 0, .slice none 0 0] 74 (0, 0))) := (HOTH.out _ (by have := HQG.out; omega)).trans (blk_below HBZ.out H1.out)
    have HQL : Hid (q < wq.heap.size) := (Array.getElem?_eq_some_iff.1 HQ2.out).1
    have HV1' : Hid (∃ b, wq.ownsRow b 3 1 (.slice o8 n8 c8) n8 (pa.flatMap iC)) := by
      obtain ⟨b, ho⟩ := HV1.out
      exact ⟨b, owns_keep ho fun k hk => HOTH.out k (owns_ne ho HQ.out (by decide) k hk)⟩
    have HV2' : Hid (nOwn wq (.slice o9 n9 c9) (po ++ fl)) := owns_keep HV2.out fun k hk => HOTH.out k (owns_ne HV2.out HQ.out (by decide) k hk)
    obtain ⟨⟨y0', y1', y2', y3'⟩, _⟩ := cells4 HL0.out
    go_wp2
    clear hst q0 q1 q2 q3 z0 z1 z2 z3 y0' y1' y2' y3' HOTH HBZ HQ HV1 HV2 y0 y1 y2 y3 y4 y5
    go_loopg [6, 27] n3 (fun gk a i wr => ∃ (k : Nat) (pre : List Int) (vf : Value), gk = n3 - k ∧ i = .int .i64 k ∧ k ≤ n3 ∧ pre.length ≤ k ∧ pre ++ foesF r ⟨nm, fr, tt, pa, po, fl⟩ (rs.drop k) k = foesF r ⟨nm, fr, tt, pa, po, fl⟩ rs 0 ∧ wr.ownsRow wq.heap.size 3 1 vf pre.length (pre.flatMap iC) ∧ wr.heap[q]? = some (.cells #[.int .i64 fr, .slice o8 n8 c8, .slice o9 n9 c9, vf] 74 (0, 0)) ∧ Chg (fun k => k = q) wq wr)
    case atStart => exact ⟨0, [], _, rfl, rfl, by omega, by simp, by simp, World.ownsRow_nil _ _ _ _, HQ2.out, Chg.refl _ _⟩
    case round =>
      obtain ⟨k, pre, vf, rfl, rfl, hk, hpk, hc, hown, hbox, hcg⟩ := hrel
      have HC : Hid (pre ++ foesF r ⟨nm, fr, tt, pa, po, fl⟩ (rs.drop k) k = foesF r ⟨nm, fr, tt, pa, po, fl⟩ rs 0) := hc
      have HOW : Hid (wr.ownsRow wq.heap.size 3 1 vf pre.length (pre.flatMap iC)) := hown
      have HBX : Hid (wr.heap[q]? = some (.cells #[.int .i64 fr, .slice o8 n8 c8, .slice o9 n9 c9, vf] 74 (0, 0))) := hbox
      have HCG : Hid (Chg (fun k => k = q) wq wr) := hcg
      have HBW : Hid (Below w.heap.size w wr) := HBQ.out.trans (hcg.below (fun k (hk : k = q) => by have := HQG.out; omega) HBQ.out.size)
      have HM0 : Hid (wr.heap[w.heap.size]? = some (.cells #[.slice o0 n0 c0, .slice o1 n1 c1, .slice o2 n2 c2, .slice (some ⟨g, off, none⟩) n3 c3] 26 (0, 0))) := hcg.blk HL0.out (by have := HQG.out; show ¬ w.heap.size = q; omega)
      clear hc hown hbox hcg
      by_cases hlt : k < n3
      · obtain ⟨y, hy⟩ : ∃ y, rs[k]? = some y := at_of (by rw [HN3.out]; exact hlt)
        have CY := CF.out k y hy
        rw [drop_at hy, foesF] at HC
        have hki : (k : Int) < (n3 : Int) := by omega
        have hkb : n3 ≤ 1000 := HB.out
        obtain ⟨⟨t0, t1, t2, t3⟩, _⟩ := cells4 HM0.out
        clear hy
        by_cases hkr : k = r
        · subst hkr
          rw [if_neg (by simp)] at HC
          go_wp2
          go_roundg (n3 - (k + 1))
          case rel => exact ⟨k + 1, pre, vf, rfl, by go_num, by omega, by omega, HC.out, HOW.out, HBX.out, HCG.out⟩
          case measure => omega
        · have hd : ((k : Int) != (r : Int)) = true := by simp; omega
          have hd2 : ((k : Int) == (r : Int)) = false := by simp; omega
          have hd3 : decide (k ≠ r) = true := decide_eq_true hkr
          rw [hd3, Bool.true_and] at HC
          have HCY : Hid (∀ W, Below w.heap.size w W → Calls Tryz.prog 57 #[.agg #[.slice o0 n0 c0, .slice o1 n1 c1, .slice o2 n2 c2, .slice (some ⟨g, off, none⟩) n3 c3], .int .i64 r, .int .i64 k] W fun e w' => e = .returned (.bool (confB r k ⟨nm, fr, tt, pa, po, fl⟩ y.1)) ∧ Below W.heap.size W w') := CY
          clear CY hkr hd3
          generalize confB r k ⟨nm, fr, tt, pa, po, fl⟩ y.1 = cb at *
          go_wp2_with fail
          refine (HCY.out _ HBW.out).mono ?_
          rintro e w5 ⟨rfl, hb5⟩
          have HB5 : Hid (Below wr.heap.size wr w5) := hb5
          clear hb5 t0 t1 t2 t3
          cases cb
          · rw [if_neg (by simp)] at HC
            go_wp2
            go_roundg (n3 - (k + 1))
            case rel => exact ⟨k + 1, pre, vf, rfl, by go_num, by omega, by omega, HC.out, owns_below HOW.out HB5.out, blk_below HB5.out HBX.out, HCG.out.trans (Chg.of_below HB5.out)⟩
            case measure => omega
          · rw [if_pos rfl] at HC
            obtain ⟨⟨t0, t1, t2, t3⟩, u0, u1, u2, u3⟩ := cells4 (blk_below HB5.out HBX.out)
            have hown5 := owns_below HOW.out HB5.out
            have HOWN5 : Hid (w5.ownsRow wq.heap.size 3 1 vf pre.length (pre.flatMap iC)) := hown5
            have HPR : Hid ((pre ++ [(k : Int)]).flatMap iC = pre.flatMap iC ++ [.int .i64 k]) := by
              show _ = _
              rw [List.flatMap_append]
              rfl
            have HCC : Hid ((pre ++ [(k : Int)]) ++ foesF r ⟨nm, fr, tt, pa, po, fl⟩ (rs.drop (k + 1)) (k + 1) = foesF r ⟨nm, fr, tt, pa, po, fl⟩ rs 0) := by
              show _ = _
              rw [List.append_assoc]
              exact HC.out
            have HPL : Hid ((pre ++ [(k : Int)]).length = pre.length + 1) := by
              show _ = _
              simp
            have hsz5 : wq.heap.size ≤ w5.heap.size := Nat.le_trans HCG.out.size HB5.out.size
            have HSZ5 : Hid (wq.heap.size ≤ w5.heap.size) := hsz5
            clear HC
            generalize hcs : pre.flatMap iC = cells at *
            generalize hpl : pre.length = m at *
            clear hcs hpl
            go_wp2_with (at_builtin; refine wpList_append_own _ rfl _ _ 36 rfl wq.heap.size 3 i0 (.int .i64 0) 1 8 Tryz.underlying36 hii hz0 hz1 hz2 rfl (by decide) _ _ _ rfl (hown5.alloc _) ⟨w5.heap.size, 0, none⟩ 1 1 [.int .i64 k] rfl rfl (by intro j u hj; match j, hj with | 0, hj => (simp at hj; subst hj; simp [addr_add]) | j + 1, hj => simp at hj) (one_int _) (by unfold maxLen; omega) (by omega) (by simp; omega) ?_)
            intro v' w6 hown6 hgrow _
            obtain ⟨ov, cv, rfl⟩ := owns_slice hown6
            have hsz6 := hgrow.size
            rw [World.size_alloc] at hsz6
            have keep6 : ∀ i, i < wq.heap.size → w6.heap[i]? = w5.heap[i]? := fun i hi => by
              rw [hgrow.block i (by simp; have := HSZ5.out; omega) (fun e => by have := (HOWN5.out.lt i e.symm).1; omega), Below.heap_alloc _ _ _ (by have := HSZ5.out; omega)]
            have HQ6 : Hid (w6.heap[q]? = some (.cells #[.int .i64 fr, .slice o8 n8 c8, .slice o9 n9 c9, vf] 74 (0, 0))) := (keep6 q HQL.out).trans (blk_below HB5.out HBX.out)
            obtain ⟨⟨s0, s1, s2, s3⟩, v0, v1, v2, v3'⟩ := cells4 HQ6.out
            have HO6 : Hid (w6.ownsRow wq.heap.size 3 1 (.slice ov (m + 1) cv) (m + 1) (cells ++ [.int .i64 k])) := hown6
            have HR6 : Hid ((w6.setCell ⟨q, 3, none⟩ (.slice ov (m + 1) cv)).ownsRow wq.heap.size 3 1 (.slice ov (m + 1) cv) (m + 1) (cells ++ [.int .i64 k]) ∧ (w6.setCell ⟨q, 3, none⟩ (.slice ov (m + 1) cv)).heap[q]? = some (.cells #[.int .i64 fr, .slice o8 n8 c8, .slice o9 n9 c9, (.slice ov (m + 1) cv)] 74 (0, 0)) ∧ Chg (fun k => k = q) wq (w6.setCell ⟨q, 3, none⟩ (.slice ov (m + 1) cv))) := by
              refine ⟨owns_keep HO6.out fun i hi => Below.heap_setCell _ _ _ _ (by have := (HO6.out.lt i hi).1; have := HQL.out; show i ≠ q; omega), ?_, ?_⟩
              · rw [heap_put HQ6.out]
                rfl
              · have h5 := HCG.out.trans (Chg.of_below HB5.out)
                refine ⟨hgrow.os.trans h5.os, hgrow.tape.trans h5.tape, hgrow.output.trans h5.output, ?_, fun i hi hf => ?_⟩
                · have := HSZ5.out
                  simp only [World.setCell, Array.size_modify]
                  omega
                · rw [Below.heap_setCell _ _ _ _ (by exact hf), keep6 i hi]
                  exact h5.block i hi hf
            clear hown5 hown6 hgrow keep6 hsz5 hsz6 t0 t1 t2 t3 u0 u1 u2 u3
            go_wp2
            go_roundg (n3 - (k + 1))
            case rel => exact ⟨k + 1, pre ++ [(k : Int)], (.slice ov (m + 1) cv), rfl, by go_num, by omega, by rw [HPL.out]; omega, HCC.out, by rw [HPR.out, HPL.out]; exact HR6.out.1, HR6.out.2.1, HR6.out.2.2⟩
            case measure => omega
      · have hkn : k = n3 := by omega
        rw [List.drop_of_length_le (by rw [HN3.out]; omega), foesF, List.append_nil] at HC
        obtain ⟨⟨t0, t1, t2, t3⟩, _⟩ := cells4 HBX.out
        have hl1 := HCG.out.blk HL1.out (by have := HQG.out; show ¬ w.heap.size + 1 = q; omega)
        obtain ⟨⟨s0, s1, s2, s3⟩, v0, v1, v2, v3'⟩ := cells4 hl1
        obtain ⟨of, cf, hvf⟩ := owns_slice HOW.out
        subst hvf
        go_wp2
        refine bodyPost_ret (v := .agg #[.int .i64 fr, .slice o8 n8 c8, .slice o9 n9 c9, .slice of pre.length cf]) (by simp [results, Tryz.results26, go_sem, s0, s1, s2, s3]) rfl ⟨_, _, _, rfl, ?_, ?_⟩
        · rw [HWF.out, ← HC.out]
          have oth : ∀ k, k ≠ w.heap.size + 1 → ((((wr.setCell ⟨w.heap.size + 1, 0, none⟩ (.int .i64 fr)).setCell ⟨w.heap.size + 1, 1, none⟩ (.slice o8 n8 c8)).setCell ⟨w.heap.size + 1, 2, none⟩ (.slice o9 n9 c9)).setCell ⟨w.heap.size + 1, 3, none⟩ (.slice of pre.length cf)).heap[k]? = wr.heap[k]? := fun k hk => by
            rw [Below.heap_setCell _ _ _ _ (by exact hk), Below.heap_setCell _ _ _ _ (by exact hk), Below.heap_setCell _ _ _ _ (by exact hk), Below.heap_setCell _ _ _ _ (by exact hk)]
          obtain ⟨b, ho1⟩ := HV1'.out
          have hr1 := owns_keep (w' := wr) ho1 fun k hk => HCG.out.block k (ho1.lt k hk).2 (owns_ne ho1 HQ2.out (by decide) k hk)
          have hr2 : wr.ownsRow 0 96 2 (.slice o9 n9 c9) (po ++ fl).length ((po ++ fl).flatMap nC) := owns_keep (w' := wr) HV2'.out fun k hk => HCG.out.block k (HV2'.out.lt k hk).2 (owns_ne HV2'.out HQ2.out (by decide) k hk)
          have hl1 := HCG.out.blk HL1.out (by have := HQG.out; show ¬ w.heap.size + 1 = q; omega)
          have hf1 := owns_keep hr1 fun k hk => oth k (owns_ne hr1 hl1 (by decide) k hk)
          have hf2 := owns_keep hr2 fun k hk => oth k (owns_ne hr2 hl1 (by decide) k hk)
          have hf3 := owns_keep HOW.out fun k hk => oth k (owns_ne HOW.out hl1 (by decide) k hk)
          exact wyIn_of HN8.out.symm hf1 hf2 hf3
        · exact below_set4 HBW.out (by omega) _ _ _ _
end Go.Proofs.YtceebimgfajbcaaGreatDoor
