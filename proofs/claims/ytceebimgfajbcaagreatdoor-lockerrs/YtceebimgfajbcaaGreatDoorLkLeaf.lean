/-
  Package lock: position, isRight, isClear, liesRight, by contracts.
-/
import Derived.Test.YtceebimgfajbcaaGreatDoorLkP
namespace Go.Proofs.YtceebimgfajbcaaGreatDoor
open Go.RowKit

theorem position_any (p : Int) (b : Bool) (w : World) :
    Calls Tryz.prog 68 #[.agg #[.int .i64 p, .bool b]] w fun e w' => e = .returned (.int .i64 (posF b)) ∧ Below w.heap.size w w' := by
  cases b
  all_goals
    go_enter Tryz.func68, Tryz.ntmps68
    go_wp2
    go_ret
    exact ⟨rfl, (by repeat' (with_reducible first | exact Below.refl _ _ | apply Below.setCell | apply Below.alloc | apply Below.drew | exact Nat.le_refl _))⟩

theorem isKind_any (n : Int) (w : World) :
    Calls Tryz.prog 28 #[.int .i64 n] w fun e w' => e = .returned (.bool (decide (n = 1 ∨ n = 2))) ∧ w' = w := by
  by_cases h : n = 1
  · subst h
    go_enter Tryz.func28, Tryz.ntmps28
    go_wp2
    go_ret
    exact ⟨rfl, rfl⟩
  · have hd : (n == 1) = false := by simp [h]
    go_enter Tryz.func28, Tryz.ntmps28
    go_wp2
    go_ret
    exact ⟨ret_bool (by rw [Bool.eq_iff_iff]; simp [h]), rfl⟩

set_option maxRecDepth 1000000 in
set_option maxHeartbeats 2000000 in
theorem isRight_any (v : Nat → Value) (occ : List Bool) (lies : List Int) (p : Int) (b : Bool) (w : World) (h : InRd w v occ lies) (hp : 0 ≤ p ∧ p < (lies.length : Nat)) :
    Calls Tryz.prog 66 #[.agg #[v 0, v 1], .agg #[.int .i64 p, .bool b]] w fun e w' => e = .returned (.bool (rightF lies (p, b))) ∧ Below w.heap.size w w' := by
  obtain ⟨o0, c0, e0, _⟩ := h.o
  obtain ⟨o1, c1, e1, r1⟩ := h.l
  obtain ⟨k, rfl, hk⟩ := nat_of hp
  obtain ⟨x, hx⟩ := at_of hk
  obtain ⟨g, off, rfl, hcell⟩ := r1 k x hx
  have a0 := hcell 0 _ rfl
  simp only [Nat.mul_one, Nat.add_zero] at a0
  have HF : Hid (rightF lies ((k : Int), b) = decide (x = posF b)) := by
    show _ = _
    rw [rightF, lieF_at hx]
  rw [e0, e1]
  have hki : (k : Int) < (lies.length : Int) := by omega
  generalize lies.length = n1 at *
  generalize occ.length = n0 at *
  generalize rightF lies ((k : Int), b) = ans at *
  clear h r1 hcell hx hp e0 e1
  have S : Hid (∃ w1, w1 = ((w.alloc (.cells #[.slice o0 n0 c0, .slice (some ⟨g, off, none⟩) n1 c1] 38)).alloc (.cells #[.int .i64 k, .bool b] 96))) := ⟨_, rfl⟩
  go_enter Tryz.func66, Tryz.ntmps66
  go_wp2_with fail
  have hb1 : Below w.heap.size w ((w.alloc (.cells #[.slice o0 n0 c0, .slice (some ⟨g, off, none⟩) n1 c1] 38)).alloc (.cells #[.int .i64 k, .bool b] 96)) := (by repeat' (with_reducible first | exact Below.refl _ _ | refine Below.drew ?_ | refine _root_.Go.below_drewN ?_ _ | refine Below.alloc ?_ ?_ _ | refine Below.setCell ?_ ?_ _ | exact Nat.le_refl _ | (simp; done) | (simp; omega)))
  have x0 : ((w.alloc (.cells #[.slice o0 n0 c0, .slice (some ⟨g, off, none⟩) n1 c1] 38)).alloc (.cells #[.int .i64 k, .bool b] 96)).cell? ⟨w.heap.size, 1, none⟩ = some (.slice (some ⟨g, off, none⟩) n1 c1) := by go_simp
  have x1 : ((w.alloc (.cells #[.slice o0 n0 c0, .slice (some ⟨g, off, none⟩) n1 c1] 38)).alloc (.cells #[.int .i64 k, .bool b] 96)).cell? ⟨w.heap.size + 1, 0, none⟩ = some (.int .i64 k) := by go_simp
  have x2 : ((w.alloc (.cells #[.slice o0 n0 c0, .slice (some ⟨g, off, none⟩) n1 c1] 38)).alloc (.cells #[.int .i64 k, .bool b] 96)).cell? ⟨w.heap.size + 1, 1, none⟩ = some (.bool b) := by go_simp
  have x3 := (hb1.cell (World.block_lt_of_cell? _ _ a0)).trans a0
  generalize (w.alloc (.cells #[.slice o0 n0 c0, .slice (some ⟨g, off, none⟩) n1 c1] 38)).alloc (.cells #[.int .i64 k, .bool b] 96) = w1 at *
  have y0 := ext_cell x0
  have y1 := ext_cell x1
  have y2 := ext_cell x2
  have y3 := ext_cell x3
  haveI := ext_some w1
  have HB1 : Hid (Below w1.heap.size w1 w1.drew) := (Below.refl _ _).drew
  have HB0 : Hid (Below w.heap.size w w1) := hb1
  clear a0 x0 x1 x2 x3 hb1
  refine wp_region_mix_lex (C := fun W => ∃ y : Ext w1, W = y.z) (by kernel_rfl) (by kernel_rfl) (by kernel_rfl) (by kernel_rfl) ⟨⟨_, (Below.refl _ _).drew⟩, rfl⟩ ?_
  (repeat (first | (with_reducible refine mix_read (by kernel_rfl) ?_; go_big_quiet_want; go_big_quiet_op; go_big_quiet_on; with_reducible refine wpQuiet_nil ?_) | (with_reducible refine mix_pass (by kernel_rfl) ?_; go_big_quiet_skip; with_reducible refine wpQuiet_nil ?_)))
  with_reducible refine mix_call (by kernel_rfl) (by kernel_rfl) ((position_any (k : Int) b _).mono ?_) (by kernel_rfl)
  rintro e w2 ⟨rfl, hb2⟩
  have HB2 : Hid (Below w1.heap.size w1 w2) := HB1.out.trans (hb2.mono HB1.out.size)
  clear hb2
  refine ⟨_, rfl, ⟨⟨_, HB2.out⟩, rfl⟩, ?_⟩
  simp only [Act.put, List.setIfInBounds_toArray, List.set_cons_zero, List.set_cons_succ]
  (repeat (first | (with_reducible refine mix_read (by kernel_rfl) ?_; go_big_quiet_want; go_big_quiet_op; go_big_quiet_on; with_reducible refine wpQuiet_nil ?_) | (with_reducible refine mix_pass (by kernel_rfl) ?_; go_big_quiet_skip; with_reducible refine wpQuiet_nil ?_)))
  with_reducible refine mix_end ?_
  intro _
  go_wp2
  go_ret
  exact ⟨ret_bool (by rw [HF.out]; rw [Bool.eq_iff_iff]; simp), HB0.out.trans (HB2.out.mono HB0.out.size)⟩

set_option maxRecDepth 1000000 in
set_option maxHeartbeats 4000000 in
theorem isClear_any (v : Nat → Value) (occ : List Bool) (lies : List Int) (x : WyV) (w : World) (h : InRd w v occ lies) (hx : WyAt w x) (hp : ∀ s ∈ x.1.path, 0 ≤ s ∧ s < (occ.length : Nat)) (hl : x.1.path.length ≤ 4294967296) :
    Calls Tryz.prog 60 #[.agg #[.int .i64 x.1.frm, x.2.1, x.2.2.1, x.2.2.2], .agg #[v 0, v 1]] w fun e w' => e = .returned (.bool (clearB occ x.1.path)) ∧ Below w.heap.size w w' := by
  obtain ⟨⟨fr, pa, ne, fo⟩, v1, v2, v3⟩ := x
  obtain ⟨hx1, hx2, hx3, _⟩ := hx
  simp only at *
  obtain ⟨o0, c0, e0, r0⟩ := h.o
  obtain ⟨o1, c1, e1, _⟩ := h.l
  obtain ⟨p1, k1, rfl, q1⟩ := hx1
  obtain ⟨p2, k2, rfl, _⟩ := hx2
  obtain ⟨p3, k3, rfl, _⟩ := hx3
  rw [e0, e1]
  have R0 := row_bool (w := w) ⟨o0, c0, rfl, r0⟩
  have Q1 := row_int (w := w) ⟨p1, k1, rfl, q1⟩
  have HR0 : Hid (∀ j x, occ[j]? = some x → ∃ g off, o0 = some ⟨g, off, none⟩ ∧ w.cell? ⟨g, off + j, none⟩ = some (.bool x)) := R0
  have HQ1 : Hid (∀ j x, pa[j]? = some x → ∃ g off, p1 = some ⟨g, off, none⟩ ∧ w.cell? ⟨g, off + j, none⟩ = some (.int .i64 x)) := Q1
  have HP : Hid (∀ s ∈ pa, 0 ≤ s ∧ s < (occ.length : Nat)) := hp
  clear R0 Q1 hp r0 q1 h e0 e1
  generalize hn : pa.length = n at *
  generalize hm : occ.length = m at *
  have HN : Hid (pa.length = n) := hn
  have HM : Hid (occ.length = m) := hm
  generalize lies.length = m1 at *
  generalize ne.length = m2 at *
  generalize fo.length = m3 at *
  clear hn hm
  go_enter Tryz.func60, Tryz.ntmps60
  go_wp2
  have hb1 : Below w.heap.size w ((w.alloc (.cells #[.int .i64 fr, .slice p1 n k1, .slice p2 m2 k2, .slice p3 m3 k3] 74)).alloc (.cells #[.slice o0 m c0, .slice o1 m1 c1] 38)) := (by repeat' (with_reducible first | exact Below.refl _ _ | refine Below.drew ?_ | refine _root_.Go.below_drewN ?_ _ | refine Below.alloc ?_ ?_ _ | refine Below.setCell ?_ ?_ _ | exact Nat.le_refl _ | (simp; done) | (simp; omega)))
  have x1 : ((w.alloc (.cells #[.int .i64 fr, .slice p1 n k1, .slice p2 m2 k2, .slice p3 m3 k3] 74)).alloc (.cells #[.slice o0 m c0, .slice o1 m1 c1] 38)).cell? ⟨w.heap.size + 1, 0, none⟩ = some (.slice o0 m c0) := by go_simp
  generalize (w.alloc (.cells #[.int .i64 fr, .slice p1 n k1, .slice p2 m2 k2, .slice p3 m3 k3] 74)).alloc (.cells #[.slice o0 m c0, .slice o1 m1 c1] 38) = w1 at *
  have HB1 : Hid (Below w.heap.size w w1) := hb1
  clear hb1
  go_loop [6, 10] (fun _ i => ∃ k : Nat, i = .int .i64 k ∧ k ≤ n ∧ clearB occ (pa.drop k) = clearB occ pa) (fun _ i => n - (intOf i).toNat)
  case atStart => exact ⟨0, rfl, by omega, by simp⟩
  case round =>
    obtain ⟨k, rfl, hk, hc⟩ := hrel
    have HC : Hid (clearB occ (pa.drop k) = clearB occ pa) := hc
    clear hc
    by_cases hlt : k < n
    · obtain ⟨s, hs⟩ : ∃ s, pa[k]? = some s := at_of (by rw [HN.out]; exact hlt)
      obtain ⟨g, off, rfl, a0⟩ := HQ1.out k s hs
      obtain ⟨ks, rfl, hks⟩ := nat_of (HP.out s (List.mem_of_getElem? hs))
      obtain ⟨b, hb⟩ : ∃ b, occ[ks]? = some b := at_of (by rw [HM.out]; exact hks)
      obtain ⟨g', off', rfl, a1⟩ := HR0.out ks b hb
      have b0 := (HB1.out.cell (World.block_lt_of_cell? _ _ a0)).trans a0
      have b1 := (HB1.out.cell (World.block_lt_of_cell? _ _ a1)).trans a1
      have hki : (k : Int) < (n : Int) := by omega
      have hksi : (ks : Int) < (m : Int) := by have := HM.out; omega
      rw [drop_at hs, clearB, List.all_cons, occF_at hb] at HC
      clear hs hb a0 a1 hks
      cases b
      · go_wp2
        go_round
        case rel => exact ⟨k + 1, by go_num, by omega, HC.out⟩
        case measure => simp [intOf]; omega
      · go_wp2
        go_ret
        exact ⟨ret_bool HC.out, HB1.out⟩
    · have h1 := HC.out
      rw [List.drop_of_length_le (by rw [HN.out]; omega), clearB, List.all_nil] at h1
      have H1 : Hid (true = clearB occ pa) := h1
      clear h1
      go_wp2
      go_ret
      exact ⟨ret_bool H1.out, HB1.out⟩

set_option maxRecDepth 1000000 in
set_option maxHeartbeats 4000000 in
theorem liesRight_any (v : Nat → Value) (occ : List Bool) (lies : List Int) (x : WyV) (w : World) (h : InRd w v occ lies) (hx : WyAt w x) (hp : ∀ s ∈ x.1.needs, 0 ≤ s.1 ∧ s.1 < (lies.length : Nat)) (hl : x.1.needs.length ≤ 4294967296) :
    Calls Tryz.prog 62 #[.agg #[.int .i64 x.1.frm, x.2.1, x.2.2.1, x.2.2.2], .agg #[v 0, v 1]] w fun e w' => e = .returned (.bool (rightB lies x.1.needs)) ∧ Below w.heap.size w w' := by
  obtain ⟨⟨fr, pa, ne, fo⟩, v1, v2, v3⟩ := x
  obtain ⟨hx1, hx2, hx3, _⟩ := hx
  simp only at *
  have IR : Hid (∀ (W : World) (p : Int) (b : Bool), Below w.heap.size w W → 0 ≤ p ∧ p < (lies.length : Nat) → Calls Tryz.prog 66 #[.agg #[v 0, v 1], .agg #[.int .i64 p, .bool b]] W fun e w' => e = .returned (.bool (rightF lies (p, b))) ∧ Below W.heap.size W w') := fun W p b hW hb => isRight_any v occ lies p b W (h.below hW) hb
  obtain ⟨o0, c0, e0, r0⟩ := h.o
  obtain ⟨o1, c1, e1, _⟩ := h.l
  obtain ⟨p1, k1, rfl, q1⟩ := hx1
  obtain ⟨p2, k2, rfl, q2⟩ := hx2
  obtain ⟨p3, k3, rfl, _⟩ := hx3
  rw [e0, e1] at IR ⊢
  have Q1 := row_need (w := w) ⟨p2, k2, rfl, q2⟩
  have HQ1 : Hid (∀ j x, ne[j]? = some x → ∃ g off, p2 = some ⟨g, off, none⟩ ∧ w.cell? ⟨g, off + j * 2, none⟩ = some (.int .i64 x.1) ∧ w.cell? ⟨g, off + j * 2 + 1, none⟩ = some (.bool x.2)) := Q1
  have HP : Hid (∀ s ∈ ne, 0 ≤ s.1 ∧ s.1 < (lies.length : Nat)) := hp
  clear Q1 hp r0 q1 q2 h e0 e1
  generalize pa.length = m2 at *
  generalize occ.length = m at *
  generalize hn : ne.length = n at *
  have HN : Hid (ne.length = n) := hn
  generalize lies.length = m1 at *
  generalize fo.length = m3 at *
  clear hn
  go_enter Tryz.func62, Tryz.ntmps62
  go_wp2
  have hb1 : Below w.heap.size w ((w.alloc (.cells #[.int .i64 fr, .slice p1 m2 k1, .slice p2 n k2, .slice p3 m3 k3] 74)).alloc (.cells #[.slice o0 m c0, .slice o1 m1 c1] 38)) := (by repeat' (with_reducible first | exact Below.refl _ _ | refine Below.drew ?_ | refine _root_.Go.below_drewN ?_ _ | refine Below.alloc ?_ ?_ _ | refine Below.setCell ?_ ?_ _ | exact Nat.le_refl _ | (simp; done) | (simp; omega)))
  have x1 : ((w.alloc (.cells #[.int .i64 fr, .slice p1 m2 k1, .slice p2 n k2, .slice p3 m3 k3] 74)).alloc (.cells #[.slice o0 m c0, .slice o1 m1 c1] 38)).cell? ⟨w.heap.size + 1, 0, none⟩ = some (.slice o0 m c0) := by go_simp
  have x2 : ((w.alloc (.cells #[.int .i64 fr, .slice p1 m2 k1, .slice p2 n k2, .slice p3 m3 k3] 74)).alloc (.cells #[.slice o0 m c0, .slice o1 m1 c1] 38)).cell? ⟨w.heap.size + 1, 1, none⟩ = some (.slice o1 m1 c1) := by go_simp
  generalize (w.alloc (.cells #[.int .i64 fr, .slice p1 m2 k1, .slice p2 n k2, .slice p3 m3 k3] 74)).alloc (.cells #[.slice o0 m c0, .slice o1 m1 c1] 38) = w1 at *
  have HB1 : Hid (Below w.heap.size w w1) := hb1
  have HX1 : Hid (w1.cell? ⟨w.heap.size + 1, 0, none⟩ = some (.slice o0 m c0) ∧ w1.cell? ⟨w.heap.size + 1, 1, none⟩ = some (.slice o1 m1 c1)) := ⟨x1, x2⟩
  clear hb1 x1 x2
  go_loopg [6, 10] n (fun gk a i wr => ∃ k : Nat, gk = n - k ∧ i = .int .i64 k ∧ k ≤ n ∧ rightB lies (ne.drop k) = rightB lies ne ∧ Below w1.heap.size w1 wr)
  case atStart => exact ⟨0, rfl, rfl, by omega, by simp, Below.refl _ _⟩
  case round =>
    obtain ⟨k, rfl, rfl, hk, hc, hbw⟩ := hrel
    have HC : Hid (rightB lies (ne.drop k) = rightB lies ne) := hc
    have HBW : Hid (Below w1.heap.size w1 wr) := hbw
    have HBL : Hid (Below w.heap.size w wr) := HB1.out.trans (hbw.mono HB1.out.size)
    have x1 := (hbw.cell (World.block_lt_of_cell? _ _ HX1.out.1)).trans HX1.out.1
    have x2 := (hbw.cell (World.block_lt_of_cell? _ _ HX1.out.2)).trans HX1.out.2
    clear hc hbw
    by_cases hlt : k < n
    · obtain ⟨⟨p, b⟩, hs⟩ : ∃ s, ne[k]? = some s := at_of (by rw [HN.out]; exact hlt)
      obtain ⟨g, off, rfl, a0, a1⟩ := HQ1.out k _ hs
      have hpp := HP.out _ (List.mem_of_getElem? hs)
      have b0 := (HBL.out.cell (World.block_lt_of_cell? _ _ a0)).trans a0
      have b1 := (HBL.out.cell (World.block_lt_of_cell? _ _ a1)).trans a1
      have hki : (k : Int) < (n : Int) := by omega
      rw [drop_at hs, rightB, List.all_cons] at HC
      have HBA : Hid (Below wr.heap.size wr (wr.alloc (.cells #[.int .i64 p, .bool b] 96))) := (Below.refl _ _).alloc (Nat.le_refl _) _
      have D := IR.out (wr.alloc (.cells #[.int .i64 p, .bool b] 96)) p b (HBL.out.trans (HBA.out.mono HBL.out.size)) hpp
      clear hs a0 a1 hpp
      have y1 := (HBA.out.cell (World.block_lt_of_cell? _ _ x1)).trans x1
      have y2 := (HBA.out.cell (World.block_lt_of_cell? _ _ x2)).trans x2
      clear x1 x2
      generalize rightF lies (p, b) = r at *
      go_wp2_with fail
      refine D.mono ?_
      rintro e w3 ⟨rfl, hb3⟩
      have HB3 : Hid (Below wr.heap.size wr w3) := HBA.out.trans (hb3.mono HBA.out.size)
      clear hb3 D
      cases r
      · go_wp2
        go_ret
        exact ⟨ret_bool HC.out, HBL.out.trans (HB3.out.mono HBL.out.size)⟩
      · go_wp2
        go_roundg (n - (k + 1))
        case rel => exact ⟨k + 1, rfl, by go_num, by omega, HC.out, HBW.out.trans (HB3.out.mono HBW.out.size)⟩
        case measure => omega
    · have h1 := HC.out
      rw [List.drop_of_length_le (by rw [HN.out]; omega), rightB, List.all_nil] at h1
      have H1 : Hid (true = rightB lies ne) := h1
      clear h1
      go_wp2
      go_ret
      exact ⟨ret_bool H1.out, HBL.out⟩
end Go.Proofs.YtceebimgfajbcaaGreatDoor
