/-
  The reference: may all routes stand so? where they may: by a contract.
-/
import Derived.Test.YtceebimgfajbcaaGreatDoorRfOne
import Derived.Test.YtceebimgfajbcaaGreatDoorRfConf
namespace Go.Proofs.YtceebimgfajbcaaGreatDoor
open Go.RowKit

/-- Of two routes that are not idle neither excludes the other. -/
theorem apart_conf {rs : List RtV} {ss : List St} (h : ApartS (waysG rs rs 0) ss) {i k : Nat} {x y : RtV} {s t : St} (hx : rs[i]? = some x) (hy : rs[k]? = some y) (hs : ss[i]? = some s) (ht : ss[k]? = some t) (hne : i ≠ k) (h1 : s.1 ≠ 0) (h2 : t.1 ≠ 0) : confB i k x.1 y.1 = false := by
  cases hc : confB i k x.1 y.1
  · rfl
  · rcases h i _ s (ways_at rs rs 0 i x hx) hs with h0 | h0
    · exact absurd h0 h1
    · have hm : (k : Int) ∈ foesF (0 + i) x.1 rs 0 := (foes_mem _ _ _ _ _).2 ⟨k, y, hy, by omega, by
        rw [Bool.and_eq_true]
        refine ⟨decide_eq_true (by omega), ?_⟩
        rw [Nat.zero_add, Nat.zero_add]
        exact hc⟩
      have := busy_no.1 h0 _ hm
      rw [stAt_at ht] at this
      exact absurd this h2

set_option maxRecDepth 1000000 in
set_option maxHeartbeats 16000000 in
theorem rfMay_yes (v : Nat → Value) (l : Lay) (rs : List RtV) (ss : List St) (vr : Value) (w : World) (h : LayRd w v l rs) (hv : rowAt w vr 4 stC ss) (hlen : ss.length = rs.length) (hlr : rs.length ≤ 1000)
    (hm : ∀ (k : Nat) (x : RtV) (s : St), rs[k]? = some x → ss[k]? = some s → mayBeF s x.1.path.length = true) (hap : ApartS (waysG rs rs 0) ss)
    (hmx : ∀ x ∈ rs, x.1.path.length ≤ 1000000 ∧ x.1.points.length + x.1.flank.length ≤ 1000000) :
    Calls Tryz.prog 15 #[.agg #[v 0, v 1, v 2, v 3], vr] w fun e w' => e = .returned (.bool true) ∧ Below w.heap.size w w' := by
  have CF : Hid (∀ (i k : Nat) (x y : RtV), rs[i]? = some x → rs[k]? = some y → ∀ W, Below w.heap.size w W → Calls Tryz.prog 35 #[.agg #[v 0, v 1, v 2, v 3], .int .i64 i, .int .i64 k] W fun e w' => e = .returned (.bool (confB i k x.1 y.1)) ∧ Below W.heap.size W w') := fun i k x y hx hy W hW => rfConflict_any v l rs i k x y W (h.below hW) hx hy (hmx x (List.mem_of_getElem? hx)) (hmx y (List.mem_of_getElem? hy))
  have PTH : Hid (∀ x ∈ rs, ∃ o n c, x.2.1 = .slice o n c ∧ n = x.1.path.length) := fun x hx => by
    obtain ⟨o, c, e, -⟩ := (h.x x hx).path
    exact ⟨o, _, c, e, rfl⟩
  have HM : Hid (∀ (k : Nat) (x : RtV) (s : St), rs[k]? = some x → ss[k]? = some s → mayBeF s x.1.path.length = true) := hm
  have HAP : Hid (ApartS (waysG rs rs 0) ss) := hap
  obtain ⟨o0, c0, e0, _⟩ := h.s
  obtain ⟨o1, c1, e1, _⟩ := h.p
  obtain ⟨o2, c2, e2, _⟩ := h.g
  obtain ⟨o3, c3, e3, r3⟩ := h.r
  have R3 := (show Hid _ from r3)
  have HST : Hid (rowAt w vr 4 stC ss) := hv
  obtain ⟨or_, cr, er, -⟩ := hv
  rw [hlen] at er
  rw [e0, e1, e2, e3] at CF ⊢
  subst er
  clear h hm hap hmx r3 e0 e1 e2 e3
  generalize l.sections.length = n0 at *
  generalize l.points.length = n1 at *
  generalize l.signals.length = n2 at *
  generalize hs3 : rs.length = n3 at *
  have HLR : Hid (rs.length = n3 ∧ ss.length = n3) := ⟨hs3, hlen⟩
  clear hs3 hlen
  generalize hch : w.alloc (.cells #[.slice o0 n0 c0, .slice o1 n1 c1, .slice o2 n2 c2, .slice o3 n3 c3] 26) = w1
  have HB01 : Hid (Below w.heap.size w w1) := by show Below _ _ _; rw [← hch]; exact (by repeat' (with_reducible first | exact Below.refl _ _ | refine Below.drew ?_ | refine _root_.Go.below_drewN ?_ _ | refine Below.alloc ?_ ?_ _ | refine Below.setCell ?_ ?_ _ | exact Nat.le_refl _ | (simp; done) | (simp; omega)))
  have H0 : Hid (w1.heap[w.heap.size]? = some (.cells #[.slice o0 n0 c0, .slice o1 n1 c1, .slice o2 n2 c2, .slice o3 n3 c3] 26 (0, 0))) := by show _ = _; rw [← hch]; exact blk_new _ _
  obtain ⟨⟨q0, q1, q2, q3⟩, _⟩ := cells4 H0.out
  go_enter Tryz.func15, Tryz.ntmps15
  go_wp2_with fail
  clear hch q0 q1 q2 q3
  go_loopg [5] n3 (fun gk i wr => ∃ k : Nat, gk = n3 - k ∧ i = .int .i64 k ∧ k ≤ n3 ∧ Below w1.heap.size w1 wr)
  case atStart => exact ⟨0, rfl, rfl, by omega, Below.refl _ _⟩
  case round =>
    obtain ⟨i, rfl, rfl, hi, hb⟩ := hrel
    have HB : Hid (Below w1.heap.size w1 wr) := hb
    clear hb
    by_cases hlt : i < n3
    · have hii : (i : Int) < (n3 : Int) := by omega
      obtain ⟨x, hx⟩ := at_of (l := rs) (k := i) (by rw [HLR.out.1]; exact hlt)
      obtain ⟨s, hs⟩ := at_of (l := ss) (k := i) (by rw [HLR.out.2]; exact hlt)
      have HX : Hid (rs[i]? = some x ∧ ss[i]? = some s) := ⟨hx, hs⟩
      obtain ⟨g, off, rfl, hcx⟩ := R3.out i x hx
      have xa3 := hcx 3 _ rfl
      obtain ⟨op, np, cp, ep, enp⟩ := PTH.out x (List.mem_of_getElem? hx)
      rw [ep] at xa3
      have hst := HST.out
      obtain ⟨gs, fs, rfl, s0, s1, s2, s3⟩ := row_st hst i s hs
      have HMB := HM.out i x s hx hs
      rw [← enp] at HMB
      obtain ⟨m, t, gn, bb⟩ := s
      simp only at s0 s1 s2 s3
      have D : Hid (∀ W, Calls Tryz.prog 34 #[.agg #[.int .i64 m, .int .i64 t, .int .i64 gn, .bool bb], .slice op np cp] W fun e w' => e = .returned (.bool true) ∧ Below W.heap.size W w') := fun W => rfOne_yes m t gn bb op np cp W HMB
      have HS0 : Hid (w.cell? ⟨gs, fs + i * 4, none⟩ = some (.int .i64 m)) := s0
      obtain ⟨⟨q0, q1, q2, q3⟩, _⟩ := cells4 H0.out
      have y0 := ext_cell (up_cell HB01.out s0)
      have y1 := ext_cell (up_cell HB01.out s1)
      have y2 := ext_cell (up_cell HB01.out s2)
      have y3 := ext_cell (up_cell HB01.out s3)
      have y4 := ext_cell (up_cell HB01.out xa3)
      have y5 := ext_cell q3
      haveI := ext_some w1
      have HBQ : Hid (Below w1.heap.size w1 wr.drew) := HB.out.drew
      clear hx hs hcx xa3 ep enp hst s0 s1 s2 s3 HMB q0 q1 q2 q3
      go_wp2_with fail
      refine wp_region_mix_seq (C := fun W => ∃ y : Ext w1, W = y.z) [0, 1, 2, 3, 4, 5, 6, 7, 8, 9, 10, 11] (by kernel_rfl) (by kernel_rfl) (by kernel_rfl) (by kernel_rfl) (by simp only [List.filterMap_cons, List.getElem?_toArray, List.getElem?_cons_zero, List.getElem?_cons_succ, List.filterMap_nil]; rfl) ⟨⟨_, HBQ.out⟩, rfl⟩ ?_
      generalize wr.drew = wd at *
      (repeat (first | (with_reducible refine mix_read (by kernel_rfl) ?_; go_big_quiet_want; go_big_quiet_op; go_big_quiet_on; with_reducible refine wpQuiet_nil ?_) | (with_reducible refine mix_pass (by kernel_rfl) ?_; go_big_quiet_skip; with_reducible refine wpQuiet_nil ?_)))
      with_reducible refine mix_call (by kernel_rfl) (by kernel_rfl) ((D.out _).mono ?_) (by kernel_rfl)
      rintro e w2 ⟨rfl, hb2⟩
      have HB2 : Hid (Below w1.heap.size w1 w2) := HBQ.out.trans (hb2.mono HBQ.out.size)
      clear hb2
      refine ⟨_, rfl, ⟨⟨_, HB2.out⟩, rfl⟩, ?_⟩
      simp only [Act.put, List.setIfInBounds_toArray, List.set_cons_zero, List.set_cons_succ]
      (repeat (first | (with_reducible refine mix_read (by kernel_rfl) ?_; go_big_quiet_want; go_big_quiet_op; go_big_quiet_on; with_reducible refine wpQuiet_nil ?_) | (with_reducible refine mix_pass (by kernel_rfl) ?_; go_big_quiet_skip; with_reducible refine wpQuiet_nil ?_)))
      with_reducible refine mix_end ?_
      intro _
      clear y0 y1 y2 y3 y4 y5
      go_wp2
      go_loopg [6] i (fun gk j wr => ∃ k : Nat, gk = i - k ∧ j = .int .i64 k ∧ k ≤ i ∧ Below w1.heap.size w1 wr)
      case atStart => exact ⟨0, rfl, rfl, by omega, HB2.out⟩
      case round =>
        obtain ⟨k, rfl, rfl, hk, hb⟩ := hrel
        have HB3 : Hid (Below w1.heap.size w1 wr) := hb
        clear hb
        by_cases hki : k < i
        · have hkk : (k : Int) < (i : Int) := by omega
          have hkn : (k : Int) < (n3 : Int) := by omega
          obtain ⟨y, hy⟩ := at_of (l := rs) (k := k) (by rw [HLR.out.1]; omega)
          obtain ⟨s', hs'⟩ := at_of (l := ss) (k := k) (by rw [HLR.out.2]; omega)
          have hst := HST.out
          obtain ⟨gs', fs', e', t0, -⟩ := row_st hst k s' hs'
          injection e' with e'
          injection e' with e1' e2'
          subst e1' e2'
          have HBW : Hid (Below w.heap.size w wr) := HB01.out.trans (HB3.out.mono HB01.out.size)
          have z0 := up_cell HBW.out HS0.out
          have z1 := up_cell HBW.out t0
          obtain ⟨⟨q0, q1, q2, q3⟩, _⟩ := cells4 (blk_below HB3.out H0.out)
          obtain ⟨m', r'⟩ := s'
          simp only at z1 t0
          by_cases hm0 : m = 0
          · have hd0 : (m != 0) = false := by simp [hm0]
            clear hst t0 hs' hy hm0
            go_wp2_with fail
            go_roundg (i - (k + 1))
            case rel => exact ⟨k + 1, rfl, by go_num, by omega, HB3.out⟩
            case measure => omega
          · by_cases hm1 : m' = 0
            · have hd0 : (m != 0) = true := by simp [hm0]
              have hd1 : (m' != 0) = false := by simp [hm1]
              clear hst t0 hs' hy hm0 hm1
              go_wp2_with fail
              go_roundg (i - (k + 1))
              case rel => exact ⟨k + 1, rfl, by go_num, by omega, HB3.out⟩
              case measure => omega
            · have C := CF.out i k x y HX.out.1 hy wr HBW.out
              have hcf := apart_conf HAP.out HX.out.1 hy HX.out.2 hs' (by omega) hm0 hm1
              rw [hcf] at C
              have hd0 : (m != 0) = true := by simp [hm0]
              have hd1 : (m' != 0) = true := by simp [hm1]
              clear hst t0 hs' hy hcf hm0 hm1
              go_wp2_with fail
              refine C.mono ?_
              rintro e w3 ⟨rfl, hb⟩
              have HB4 : Hid (Below w1.heap.size w1 w3) := HB3.out.trans (hb.mono HB3.out.size)
              clear hb C q0 q1 q2 q3 z0 z1
              go_wp2
              go_roundg (i - (k + 1))
              case rel => exact ⟨k + 1, rfl, by go_num, by omega, HB4.out⟩
              case measure => omega
        · have hkk : ¬ (k : Int) < (i : Int) := by omega
          go_wp2
          go_roundg (n3 - (i + 1))
          case rel => exact ⟨i + 1, rfl, by go_num, by omega, HB3.out⟩
          case measure => omega
    · have hii : ¬ (i : Int) < (n3 : Int) := by omega
      go_wp2
      go_ret
      exact ⟨rfl, HB01.out.trans (HB.out.mono HB01.out.size)⟩
end Go.Proofs.YtceebimgfajbcaaGreatDoor
