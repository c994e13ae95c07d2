/-
  Package lock: may all routes stand so (mayStand), and Set, by contracts.
-/
import Derived.Test.YtceebimgfajbcaaDoorLkMayBe
import Derived.Test.YtceebimgfajbcaaDoorLkRoutes
namespace Go.Proofs.YtceebimgfajbcaaDoor
open Go.RowKit

def standOne (l : List St) (x : Wy) (s : St) : Bool := mayBeF s x.path.length && (decide (s.1 = 0) || !busyB l x.foes)
/-- May all routes stand so at one time? -/
def standF (ws : List Wy) (l : List St) : Bool := decide (l.length = ws.length) && (ws.zip l).all fun q => standOne l q.1 q.2
theorem stand_no {ws : List Wy} {l : List St} {k : Nat} {x : Wy} {s : St} (hx : ws[k]? = some x) (hs : l[k]? = some s) (h : standOne l x s = false) : standF ws l = false := by
  rw [standF, Bool.and_eq_false_iff]
  refine .inr (List.all_eq_false.2 ⟨(x, s), List.mem_of_getElem? (zip_at hx hs), by simpa using h⟩)
theorem stand_yes {ws : List Wy} {l : List St} (hl : l.length = ws.length) (h : ∀ (k : Nat) (x : Wy) (s : St), ws[k]? = some x → l[k]? = some s → standOne l x s = true) : standF ws l = true := by
  rw [standF, Bool.and_eq_true]
  refine ⟨decide_eq_true hl, List.all_eq_true.2 fun q hq => ?_⟩
  obtain ⟨k, hk⟩ := List.getElem?_of_mem hq
  rw [List.getElem?_zip_eq_some] at hk
  exact h k q.1 q.2 hk.1 hk.2

/-- All states stored anew: the row that the call itself made. -/
theorem set_states {W : World} {B kb : Nat} {u : Nat → Value} {ns ng : Nat} {pts : List Int} {ws : List WyV} {ss l : List St} {v : Value} (h : LkAt W B kb u ns ng pts ws ss) (ho : W.ownsRow B 56 4 v l.length (l.flatMap stC)) :
    (∃ u', LkAt (W.setCell ⟨kb, 4, none⟩ v) B kb u' ns ng pts ws l ∧ u' 2 = v) ∧ Chg (fun k => k = kb) W (W.setCell ⟨kb, 4, none⟩ v) ∧ True := by
  have hc : Chg (fun k => k = kb) W (W.setCell ⟨kb, 4, none⟩ v) := ⟨rfl, rfl, rfl, by simp, fun k _ hk => Below.heap_setCell W ⟨kb, 4, none⟩ v k hk⟩
  have hne : ∀ k, v.ownBlock = some k → k ≠ kb := owns_ne ho h.blk (by decide)
  refine ⟨⟨fun | 0 => u 0 | 1 => u 1 | _ => v, ⟨?_, h.base, .inl ?_, fun W' hW => ?_⟩, rfl⟩, hc, trivial⟩
  · rw [heap_put h.blk v]
    rfl
  · exact owns_keep ho fun k e => hc.block k (ho.lt k e).2 (hne k e)
  · refine h.inn W' fun k hk hcl => ?_
    have hkb : k ≠ kb := fun e => (h.foot (.inl e)).2.2 hcl
    have e1 := hc.block k hk hkb
    obtain ⟨c, t, z, hb, ht⟩ := hcl
    exact (hW k (Nat.lt_of_lt_of_le hk hc.size) ⟨c, t, z, e1.trans hb, ht⟩).trans e1

set_option maxRecDepth 1000000 in
set_option maxHeartbeats 8000000 in
theorem mayStand_any (kb : Nat) (u : Nat → Value) (ns ng : Nat) (pts : List Int) (ws : List WyV) (ss l : List St) (v : Value) (w : World) (h : LkRd w kb u ns ng pts ws ss) (hv : rowAt w v 4 stC l) (hf : ∀ x ∈ ws, ∀ f ∈ x.1.foes, 0 ≤ f ∧ f < (ws.length : Nat)) (hl : ws.length ≤ 1000 ∧ l.length ≤ 1000000 ∧ ∀ x ∈ ws, x.1.path.length ≤ 1000000 ∧ x.1.foes.length ≤ 1000000) :
    Calls Tryd.prog 52 #[.pointer (some ⟨kb, 0, none⟩), v] w fun e w' => e = .returned (.bool (standF (ws.map (·.1)) l)) ∧ Below w.heap.size w w' := by
  have HL : Hid (LkRd w kb u ns ng pts ws ss) := h
  have HV : Hid (rowAt w v 4 stC l) := hv
  have HF : Hid (∀ x ∈ ws, ∀ f ∈ x.1.foes, 0 ≤ f ∧ f < (ws.length : Nat)) := hf
  have HX : Hid (∀ x ∈ ws, x.1.path.length ≤ 1000000 ∧ x.1.foes.length ≤ 1000000) := hl.2.2
  obtain ⟨o, c, rfl, -⟩ := hv
  obtain ⟨ow, cw, ew, -⟩ := h.w
  have h3 := h.c3
  rw [ew] at h3
  have hlw : ws.length ≤ 1000 := hl.1
  have hll : l.length ≤ 1000000 := hl.2.1
  clear h hf hl
  by_cases hne : l.length = ws.length
  · have hd : ((l.length : Int) != (ws.length : Int)) = false := by simp [hne]
    have HNE : Hid (l.length = ws.length) := hne
    go_enter Tryd.func52, Tryd.ntmps52
    go_wp2
    clear hd hne h3
    go_loopg [20] ws.length (fun gk i wr => ∃ k : Nat, gk = ws.length - k ∧ i = .int .i64 k ∧ k ≤ ws.length ∧ (∀ j x s, j < k → ws[j]? = some x → l[j]? = some s → standOne l x.1 s = true) ∧ Below w.heap.size w wr)
    case atStart => exact ⟨0, rfl, rfl, by omega, by omega, Below.refl _ _⟩
    case round =>
      obtain ⟨k, rfl, rfl, hk, hgood, hb⟩ := hrel
      have HG : Hid (∀ j x s, j < k → ws[j]? = some x → l[j]? = some s → standOne l x.1 s = true) := hgood
      have HB : Hid (Below w.heap.size w wr) := hb
      clear hgood hb
      by_cases hlt : k < ws.length
      · obtain ⟨x, hx⟩ := at_of hlt
        obtain ⟨s, hs⟩ := at_of (l := l) (k := k) (by rw [HNE.out]; exact hlt)
        have HXS : Hid (ws[k]? = some x ∧ l[k]? = some s) := ⟨hx, hs⟩
        have hxat := (HL.out.below HB.out).x x (List.mem_of_getElem? hx)
        obtain ⟨g1, f1, e1, a0, a1, a2, a3⟩ := row_way (w := wr) (by have := (HL.out.below HB.out).w; rw [ew] at this; exact this) k x hx
        subst e1
        have hrow := HV.out.below HB.out
        obtain ⟨g2, f2, e2, b0, b1, b2, b3⟩ := row_st hrow k s hs
        subst e2
        obtain ⟨m, t, gn, bb⟩ := s
        obtain ⟨⟨fr, pa, ne, fo⟩, v1, v2, v3⟩ := x
        have hfo := hxat.foes
        obtain ⟨o3, c3, e3, -⟩ := hxat.path
        obtain ⟨o4, c4, e4, -⟩ := hxat.needs
        obtain ⟨o5, c5, e5, -⟩ := hxat.foes
        simp only at e3 e4 e5 a0 a1 a2 a3 b0 b1 b2 b3 hfo
        subst e3 e4 e5
        have hlen := HX.out _ (List.mem_of_getElem? hx)
        have hfb := HF.out _ (List.mem_of_getElem? hx)
        simp only at hlen hfb
        have MB : Hid (∀ W, Calls Tryd.prog 88 #[.agg #[.int .i64 m, .int .i64 t, .int .i64 gn, .bool bb], .int .i64 pa.length] W fun e w' => e = .returned (.bool (mayBeF (m, t, gn, bb) pa.length)) ∧ Below W.heap.size W w') := fun W => mayBe_any m t gn bb pa.length W
        have AB : Hid (∀ W, Below wr.heap.size wr W → Calls Tryd.prog 78 #[.slice (some ⟨g2, f2, none⟩) l.length c, .slice o5 fo.length c5] W fun e w' => e = .returned (.bool (busyB l fo)) ∧ Below W.heap.size W w') := fun W hW => anyBusy_any _ _ l fo W (hrow.below hW) (hfo.below hW) (fun i hi => by have := hfb i hi; rw [HNE.out]; exact this) (by omega)
        have HO : Hid (standOne l ⟨fr, pa, ne, fo⟩ (m, t, gn, bb) = (mayBeF (m, t, gn, bb) pa.length && (decide (m = 0) || !busyB l fo))) := rfl
        have hki : (k : Int) < (ws.length : Int) := by omega
        have hkl : (k : Int) < (l.length : Int) := by rw [HNE.out]; omega
        clear hx hs hxat hrow hfo hlen hfb
        generalize mayBeF (m, t, gn, bb) pa.length = mb at *
        generalize busyB l fo = bz at *
        generalize pa.length = n3 at *
        generalize ne.length = n4 at *
        generalize fo.length = n5 at *
        have hbl : Below wr.heap.size wr (wr.alloc (.cells #[.int .i64 fr, .slice o3 n3 c3, .slice o4 n4 c4, .slice o5 n5 c5] 91)) := (Below.refl _ _).alloc (Nat.le_refl _) _
        have HBL : Hid (Below wr.heap.size wr (wr.alloc (.cells #[.int .i64 fr, .slice o3 n3 c3, .slice o4 n4 c4, .slice o5 n5 c5] 91))) := hbl
        go_wp2_with fail
        generalize hch : wr.alloc (.cells #[.int .i64 fr, .slice o3 n3 c3, .slice o4 n4 c4, .slice o5 n5 c5] 91) = w1 at HBL ⊢
        have H1 : Hid (w1.heap[wr.heap.size]? = some (.cells #[.int .i64 fr, .slice o3 n3 c3, .slice o4 n4 c4, .slice o5 n5 c5] 91 (0, 0))) := by show _ = _; rw [← hch]; exact blk_new _ _
        have HB1 : Hid (Below w.heap.size w w1) := HB.out.trans (HBL.out.mono HB.out.size)
        have hgo : ∀ W, Below wr.heap.size wr W → Below w.heap.size w W := fun W hW => HB.out.trans (hW.mono HB.out.size)
        have HGO : Hid (∀ W, Below wr.heap.size wr W → Below w.heap.size w W) := hgo
        obtain ⟨⟨z0, z1, z2, z3⟩, _⟩ := cells4 H1.out
        have y0 := ext_cell (up_cell HBL.out b0)
        have y1 := ext_cell (up_cell HBL.out b1)
        have y2 := ext_cell (up_cell HBL.out b2)
        have y3 := ext_cell (up_cell HBL.out b3)
        have y4 := ext_cell z1
        have y5 := ext_cell z3
        haveI := ext_some w1
        have HT : Hid (Below wr.heap.size wr w1.drew) := HBL.out.drew
        have HTE : Hid (Below w1.heap.size w1 w1.drew) := (Below.refl _ _).drew
        clear hch a0 a1 a2 a3 b0 b1 b2 b3 z0 z1 z2 z3 hbl hgo
        cases mb
        · have HA : Hid (standF (ws.map (·.1)) l = false) := stand_no (k := k) (x := ⟨fr, pa, ne, fo⟩) (by rw [List.getElem?_map, HXS.out.1]; rfl) HXS.out.2 (by rw [HO.out]; rfl)
          refine wp_region_mix_seq (C := fun W => ∃ y : Ext w1, W = y.z) [0, 1, 2, 3, 4, 5, 6, 7, 8, 9, 10, 11, 12, 13, 14, 15, 16, 17, 18, 19, 20, 21, 22] (by kernel_rfl) (by kernel_rfl) (by kernel_rfl) (by kernel_rfl) (by simp only [List.filterMap_cons, List.getElem?_toArray, List.getElem?_cons_zero, List.getElem?_cons_succ, List.filterMap_nil]; rfl) ⟨⟨_, (Below.refl _ _).drew⟩, rfl⟩ ?_
          (repeat (first | (with_reducible refine mix_read (by kernel_rfl) ?_; go_big_quiet_want; go_big_quiet_op; go_big_quiet_on; with_reducible refine wpQuiet_nil ?_) | (with_reducible refine mix_pass (by kernel_rfl) ?_; go_big_quiet_skip; with_reducible refine wpQuiet_nil ?_)))
          with_reducible refine mix_call (by kernel_rfl) (by kernel_rfl) ((MB.out _).mono ?_) (by kernel_rfl)
          rintro e w2 ⟨rfl, hb2⟩
          have HB2 : Hid (Below wr.heap.size wr w2) := HT.out.trans (hb2.mono HT.out.size)
          have HB2E : Hid (Below w1.heap.size w1 w2) := HTE.out.trans (hb2.mono HTE.out.size)
          clear hb2
          refine ⟨_, rfl, ⟨⟨_, HB2E.out⟩, rfl⟩, ?_⟩
          simp only [Act.put, List.setIfInBounds_toArray, List.set_cons_zero, List.set_cons_succ]
          (repeat (first | (with_reducible refine mix_read (by kernel_rfl) ?_; go_big_quiet_want; go_big_quiet_op; go_big_quiet_on; with_reducible refine wpQuiet_nil ?_) | (with_reducible refine mix_pass (by kernel_rfl) ?_; go_big_quiet_skip; with_reducible refine wpQuiet_nil ?_)))
          with_reducible refine mix_end ?_
          intro _
          clear y0 y1 y2 y3 y4 y5
          go_wp2
          go_ret
          exact ⟨ret_bool HA.out.symm, HGO.out _ HB2.out⟩
        · by_cases hm0 : m = 0
          · subst hm0
            have HO1 : Hid (standOne l ⟨fr, pa, ne, fo⟩ (0, t, gn, bb) = true) := by show _ = _; rw [HO.out]; rfl
            refine wp_region_mix_seq (C := fun W => ∃ y : Ext w1, W = y.z) [0, 1, 2, 3, 4, 5, 6, 7, 8, 9, 10, 11, 12, 13, 14, 15, 16, 17, 18, 19, 20, 21, 22] (by kernel_rfl) (by kernel_rfl) (by kernel_rfl) (by kernel_rfl) (by simp only [List.filterMap_cons, List.getElem?_toArray, List.getElem?_cons_zero, List.getElem?_cons_succ, List.filterMap_nil]; rfl) ⟨⟨_, (Below.refl _ _).drew⟩, rfl⟩ ?_
            (repeat (first | (with_reducible refine mix_read (by kernel_rfl) ?_; go_big_quiet_want; go_big_quiet_op; go_big_quiet_on; with_reducible refine wpQuiet_nil ?_) | (with_reducible refine mix_pass (by kernel_rfl) ?_; go_big_quiet_skip; with_reducible refine wpQuiet_nil ?_)))
            with_reducible refine mix_call (by kernel_rfl) (by kernel_rfl) ((MB.out _).mono ?_) (by kernel_rfl)
            rintro e w2 ⟨rfl, hb2⟩
            have HB2 : Hid (Below wr.heap.size wr w2) := HT.out.trans (hb2.mono HT.out.size)
            have HB2E : Hid (Below w1.heap.size w1 w2) := HTE.out.trans (hb2.mono HTE.out.size)
            clear hb2
            refine ⟨_, rfl, ⟨⟨_, HB2E.out⟩, rfl⟩, ?_⟩
            simp only [Act.put, List.setIfInBounds_toArray, List.set_cons_zero, List.set_cons_succ]
            (repeat (first | (with_reducible refine mix_read (by kernel_rfl) ?_; go_big_quiet_want; go_big_quiet_op; go_big_quiet_on; with_reducible refine wpQuiet_nil ?_) | (with_reducible refine mix_pass (by kernel_rfl) ?_; go_big_quiet_skip; with_reducible refine wpQuiet_nil ?_)))
            with_reducible refine mix_end ?_
            intro _
            clear y0 y1 y2 y3 y4 y5
            go_wp2
            go_roundg (ws.length - (k + 1))
            case rel =>
              refine ⟨k + 1, rfl, by go_num, by omega, fun j x s hj hx hs => ?_, HGO.out _ HB2.out⟩
              by_cases hjk : j < k
              · exact HG.out j x s hjk hx hs
              · obtain rfl : j = k := by omega
                obtain rfl := Option.some.inj (HXS.out.1.symm.trans hx)
                obtain rfl := Option.some.inj (HXS.out.2.symm.trans hs)
                exact HO1.out
            case measure => omega
          · have hmn : (m != 0) = true := by simp [hm0]
            have HM0 : Hid (decide (m = 0) = false) := decide_eq_false hm0
            clear hm0
            cases bz
            · have HO1 : Hid (standOne l ⟨fr, pa, ne, fo⟩ (m, t, gn, bb) = true) := by show _ = _; rw [HO.out]; rw [HM0.out]; rfl
              refine wp_region_mix_seq (C := fun W => ∃ y : Ext w1, W = y.z) [0, 1, 2, 3, 4, 5, 6, 7, 8, 9, 10, 11, 12, 13, 14, 15, 16, 17, 18, 19, 20, 21, 22] (by kernel_rfl) (by kernel_rfl) (by kernel_rfl) (by kernel_rfl) (by simp only [List.filterMap_cons, List.getElem?_toArray, List.getElem?_cons_zero, List.getElem?_cons_succ, List.filterMap_nil]; rfl) ⟨⟨_, (Below.refl _ _).drew⟩, rfl⟩ ?_
              (repeat (first | (with_reducible refine mix_read (by kernel_rfl) ?_; go_big_quiet_want; go_big_quiet_op; go_big_quiet_on; with_reducible refine wpQuiet_nil ?_) | (with_reducible refine mix_pass (by kernel_rfl) ?_; go_big_quiet_skip; with_reducible refine wpQuiet_nil ?_)))
              with_reducible refine mix_call (by kernel_rfl) (by kernel_rfl) ((MB.out _).mono ?_) (by kernel_rfl)
              rintro e w2 ⟨rfl, hb2⟩
              have HB2 : Hid (Below wr.heap.size wr w2) := HT.out.trans (hb2.mono HT.out.size)
              have HB2E : Hid (Below w1.heap.size w1 w2) := HTE.out.trans (hb2.mono HTE.out.size)
              clear hb2
              refine ⟨_, rfl, ⟨⟨_, HB2E.out⟩, rfl⟩, ?_⟩
              simp only [Act.put, List.setIfInBounds_toArray, List.set_cons_zero, List.set_cons_succ]
              (repeat (first | (with_reducible refine mix_read (by kernel_rfl) ?_; go_big_quiet_want; go_big_quiet_op; go_big_quiet_on; with_reducible refine wpQuiet_nil ?_) | (with_reducible refine mix_pass (by kernel_rfl) ?_; go_big_quiet_skip; with_reducible refine wpQuiet_nil ?_)))
              with_reducible refine mix_call (by kernel_rfl) (by kernel_rfl) ((AB.out _ HB2.out).mono ?_) (by kernel_rfl)
              rintro e w3 ⟨rfl, hb3⟩
              have HB3 : Hid (Below wr.heap.size wr w3) := HB2.out.trans (hb3.mono HB2.out.size)
              have HB3E : Hid (Below w1.heap.size w1 w3) := HB2E.out.trans (hb3.mono HB2E.out.size)
              clear hb3
              refine ⟨_, rfl, ⟨⟨_, HB3E.out⟩, rfl⟩, ?_⟩
              simp only [Act.put, List.setIfInBounds_toArray, List.set_cons_zero, List.set_cons_succ]
              (repeat (first | (with_reducible refine mix_read (by kernel_rfl) ?_; go_big_quiet_want; go_big_quiet_op; go_big_quiet_on; with_reducible refine wpQuiet_nil ?_) | (with_reducible refine mix_pass (by kernel_rfl) ?_; go_big_quiet_skip; with_reducible refine wpQuiet_nil ?_)))
              with_reducible refine mix_end ?_
              intro _
              clear y0 y1 y2 y3 y4 y5
              go_wp2
              go_roundg (ws.length - (k + 1))
              case rel =>
                refine ⟨k + 1, rfl, by go_num, by omega, fun j x s hj hx hs => ?_, HGO.out _ HB3.out⟩
                by_cases hjk : j < k
                · exact HG.out j x s hjk hx hs
                · obtain rfl : j = k := by omega
                  obtain rfl := Option.some.inj (HXS.out.1.symm.trans hx)
                  obtain rfl := Option.some.inj (HXS.out.2.symm.trans hs)
                  exact HO1.out
              case measure => omega
            · have HA : Hid (standF (ws.map (·.1)) l = false) := stand_no (k := k) (x := ⟨fr, pa, ne, fo⟩) (by rw [List.getElem?_map, HXS.out.1]; rfl) HXS.out.2 (by rw [HO.out]; rw [HM0.out]; rfl)
              refine wp_region_mix_seq (C := fun W => ∃ y : Ext w1, W = y.z) [0, 1, 2, 3, 4, 5, 6, 7, 8, 9, 10, 11, 12, 13, 14, 15, 16, 17, 18, 19, 20, 21, 22] (by kernel_rfl) (by kernel_rfl) (by kernel_rfl) (by kernel_rfl) (by simp only [List.filterMap_cons, List.getElem?_toArray, List.getElem?_cons_zero, List.getElem?_cons_succ, List.filterMap_nil]; rfl) ⟨⟨_, (Below.refl _ _).drew⟩, rfl⟩ ?_
              (repeat (first | (with_reducible refine mix_read (by kernel_rfl) ?_; go_big_quiet_want; go_big_quiet_op; go_big_quiet_on; with_reducible refine wpQuiet_nil ?_) | (with_reducible refine mix_pass (by kernel_rfl) ?_; go_big_quiet_skip; with_reducible refine wpQuiet_nil ?_)))
              with_reducible refine mix_call (by kernel_rfl) (by kernel_rfl) ((MB.out _).mono ?_) (by kernel_rfl)
              rintro e w2 ⟨rfl, hb2⟩
              have HB2 : Hid (Below wr.heap.size wr w2) := HT.out.trans (hb2.mono HT.out.size)
              have HB2E : Hid (Below w1.heap.size w1 w2) := HTE.out.trans (hb2.mono HTE.out.size)
              clear hb2
              refine ⟨_, rfl, ⟨⟨_, HB2E.out⟩, rfl⟩, ?_⟩
              simp only [Act.put, List.setIfInBounds_toArray, List.set_cons_zero, List.set_cons_succ]
              (repeat (first | (with_reducible refine mix_read (by kernel_rfl) ?_; go_big_quiet_want; go_big_quiet_op; go_big_quiet_on; with_reducible refine wpQuiet_nil ?_) | (with_reducible refine mix_pass (by kernel_rfl) ?_; go_big_quiet_skip; with_reducible refine wpQuiet_nil ?_)))
              with_reducible refine mix_call (by kernel_rfl) (by kernel_rfl) ((AB.out _ HB2.out).mono ?_) (by kernel_rfl)
              rintro e w3 ⟨rfl, hb3⟩
              have HB3 : Hid (Below wr.heap.size wr w3) := HB2.out.trans (hb3.mono HB2.out.size)
              have HB3E : Hid (Below w1.heap.size w1 w3) := HB2E.out.trans (hb3.mono HB2E.out.size)
              clear hb3
              refine ⟨_, rfl, ⟨⟨_, HB3E.out⟩, rfl⟩, ?_⟩
              simp only [Act.put, List.setIfInBounds_toArray, List.set_cons_zero, List.set_cons_succ]
              (repeat (first | (with_reducible refine mix_read (by kernel_rfl) ?_; go_big_quiet_want; go_big_quiet_op; go_big_quiet_on; with_reducible refine wpQuiet_nil ?_) | (with_reducible refine mix_pass (by kernel_rfl) ?_; go_big_quiet_skip; with_reducible refine wpQuiet_nil ?_)))
              with_reducible refine mix_end ?_
              intro _
              clear y0 y1 y2 y3 y4 y5
              go_wp2
              go_ret
              exact ⟨ret_bool HA.out.symm, HGO.out _ HB3.out⟩
      · have hkn : k = ws.length := by omega
        subst hkn
        have HA : Hid (standF (ws.map (·.1)) l = true) := stand_yes (by rw [List.length_map]; exact HNE.out) fun j x s hx hs => by
          rw [List.getElem?_map, Option.map_eq_some_iff] at hx
          obtain ⟨y, hy, rfl⟩ := hx
          exact HG.out j y s (List.getElem?_eq_some_iff.1 hy).1 hy hs
        go_wp2
        go_ret
        exact ⟨ret_bool HA.out.symm, HB.out⟩
  · have hd : ((l.length : Int) != (ws.length : Int)) = true := by simp; omega
    have HA : Hid (standF (ws.map (·.1)) l = false) := by show _ = _; rw [standF, List.length_map, decide_eq_false hne]; rfl
    go_enter Tryd.func52, Tryd.ntmps52
    go_wp2
    go_ret
    exact ⟨ret_bool HA.out.symm, Below.refl _ _⟩

/-- All ways may stand anew. -/
theorem stand_sts {ws : List Wy} {l : List St} (h : standF ws l = true) : l.length = ws.length ∧ ∀ (k : Nat) (x : Wy) (s : St), ws[k]? = some x → l[k]? = some s → mayBeF s x.path.length = true := by
  rw [standF, Bool.and_eq_true] at h
  refine ⟨of_decide_eq_true h.1, fun k x s hx hs => ?_⟩
  have := List.all_eq_true.1 h.2 (x, s) (List.mem_of_getElem? (zip_at hx hs))
  rw [standOne, Bool.and_eq_true] at this
  exact this.1

set_option maxRecDepth 1000000 in
set_option maxHeartbeats 8000000 in
theorem set_yes (B kb : Nat) (u : Nat → Value) (ns ng : Nat) (pts : List Int) (ws : List WyV) (ss l : List St) (v : Value) (w : World) (h : LkAt w B kb u ns ng pts ws ss) (hB : B ≤ w.heap.size) (hv : rowAt w v 4 stC l) (hf : ∀ x ∈ ws, ∀ f ∈ x.1.foes, 0 ≤ f ∧ f < (ws.length : Nat)) (hl : ws.length ≤ 1000 ∧ l.length ≤ 1000000 ∧ ∀ x ∈ ws, x.1.path.length ≤ 1000000 ∧ x.1.foes.length ≤ 1000000) (hs : standF (ws.map (·.1)) l = true) :
    Calls Tryd.prog 18 #[.pointer (some ⟨kb, 0, none⟩), v] w fun e w' => ∃ u', e = .returned (.bool true) ∧ LkAt w' B kb u' ns ng pts ws l ∧ Chg (fun k => k = kb) w w' ∧ ∀ k, (u' 2).ownBlock = some k → w.heap.size ≤ k := by
  have D := mayStand_any kb u ns ng pts ws ss l v w h.rd hv hf hl
  rw [hs] at D
  have HA : Hid (LkAt w B kb u ns ng pts ws ss) := h
  have HV : Hid (rowAt w v 4 stC l) := hv
  have HB : Hid (B ≤ w.heap.size) := hB
  have hll : l.length ≤ 1000000 := hl.2.1
  obtain ⟨o, c, rfl, -⟩ := hv
  clear h hf hs hl hB
  go_enter Tryd.func18, Tryd.ntmps18
  go_wp2_with fail
  refine D.mono ?_
  rintro e w1 ⟨rfl, hb1⟩
  have HB1 : Hid (Below w.heap.size w w1) := hb1
  clear D hb1
  go_wp2_with fail
  refine (cloneSt_any _ l w1 (HV.out.below HB1.out) hll).mono ?_
  rintro e w2 ⟨u2, rfl, ho, hb2⟩
  have HO : Hid (w2.ownsRow w1.heap.size 56 4 u2 l.length (l.flatMap stC)) := ho
  have HB2 : Hid (Below w.heap.size w w2) := HB1.out.trans (hb2.mono HB1.out.size)
  clear ho hb2
  have HK := set_states (v := u2) (l := l) (HA.out.below HB2.out) (owns_mono HO.out (Nat.le_trans HB.out HB1.out.size))
  obtain ⟨h1, h2, h3⟩ := HK
  have hblk := (HA.out.below HB2.out).blk
  have hc4 : w2.cell? ⟨kb, 4, none⟩ = some (u 2) := by simp [World.cell?, hblk]
  have hf4 : w2.frozen? ⟨kb, 4, none⟩ = false := by simp [World.frozen?, hblk]
  have HR : Hid (∃ u', LkAt (w2.setCell ⟨kb, 4, none⟩ u2) B kb u' ns ng pts ws l ∧ u' 2 = u2) := h1
  have HC : Hid (Chg (fun k => k = kb) w (w2.setCell ⟨kb, 4, none⟩ u2)) := (Chg.of_below HB2.out).trans h2
  clear h1 h2 h3 hblk
  have hsh : ∃ o2 n2 c2, u2 = .slice o2 n2 c2 := by
    rcases HO.out.2 with ⟨e, _⟩ | ⟨g, cap, cur, e, _⟩
    · exact ⟨_, _, _, e⟩
    · exact ⟨_, _, _, e⟩
  obtain ⟨o2, n2, c2, rfl⟩ := hsh
  go_wp2
  go_ret
  obtain ⟨u', hu', e2⟩ := HR.out
  refine ⟨u', rfl, hu', HC.out, fun k hk => ?_⟩
  rw [e2] at hk
  exact Nat.le_trans HB1.out.size (HO.out.lt k hk).1
theorem LkAt.store {W : World} {B kb : Nat} {u : Nat → Value} {ns ng : Nat} {pts : List Int} {ws : List WyV} {ss : List St} (h : LkAt W B kb u ns ng pts ws ss) {a : Addr} (ha : ¬ lkFoot kb (u 2) ss a.block ∧ ¬ isClean W a.block) (v : Value) : LkAt (W.setCell a v) B kb u ns ng pts ws ss :=
  h.keep (by simp) fun k _ hk => Below.heap_setCell W a v k fun e => by
    subst e
    exact hk.elim ha.1 ha.2
theorem not_clean {W : World} {k : Nat} {c : Array Value} {t : TypeId} {z : Nat × Nat} (hb : W.heap[k]? = some (.cells c t z)) (ht : t ≠ 3 ∧ t ≠ 105 ∧ t ≠ 91) : ¬ isClean W k := by
  rintro ⟨c', t', z', hb', h⟩
  rw [hb] at hb'
  injection hb' with hb'
  injection hb' with h1 h2 h3
  subst h2
  rcases h with h | h | h
  · exact ht.1 h
  · exact ht.2.1 h
  · exact ht.2.2 h
end Go.Proofs.YtceebimgfajbcaaDoor
