/-
  Package lock: held, Holder, mayMove, by contracts.
-/
import Derived.Test.YtceebimgfajbcaaGreatDoorLkStep
namespace Go.Proofs.YtceebimgfajbcaaGreatDoor
open Go.RowKit

theorem row_drop {w : World} {o : Option Addr} {n c : Nat} {l : List Int} {g off : Nat} (h : rowAt w (.slice o n c) 1 iC l) (ho : o = some ⟨g, off, none⟩) (k : Nat) (c' : Nat) : rowAt w (.slice (some ⟨g, off + k, none⟩) (n - k) c') 1 iC (l.drop k) := by
  obtain ⟨oa, cap, e, h2⟩ := h
  injection e with e1 e2 e3
  refine ⟨_, _, by rw [List.length_drop, e2], fun j x hj => ?_⟩
  rw [List.getElem?_drop] at hj
  obtain ⟨g', off', e4, hc⟩ := h2 _ x hj
  rw [← e1, ho] at e4
  injection e4 with e4
  injection e4 with e5 e6
  subst e5 e6
  refine ⟨g, off + k, rfl, fun i u hu => ?_⟩
  have := hc i u hu
  rw [← this]
  congr 2
  omega

set_option maxRecDepth 1000000 in
set_option maxHeartbeats 4000000 in
theorem held_any (kb : Nat) (u : Nat → Value) (ns ng : Nat) (pts : List Int) (ws : List WyV) (ss : List St) (k : Nat) (x : WyV) (s : St) (w : World) (h : LkRd w kb u ns ng pts ws ss) (hx : ws[k]? = some x) (hs : ss[k]? = some s) (hm : mayBeF s x.1.path.length = true) (hn : 0 < x.1.path.length) (hl : ws.length ≤ 1000 ∧ ss.length ≤ 1000 ∧ x.1.path.length ≤ 1000000) :
    Calls Tryz.prog 70 #[.pointer (some ⟨kb, 0, none⟩), .int .i64 k] w fun e w' => ∃ v, e = .returned v ∧ rowAt w' v 1 iC (heldF x.1 s) ∧ Below w.heap.size w w' := by
  have hbd := mayBe_bounds hm hn
  have hxat := h.x x (List.mem_of_getElem? hx)
  have h3 := h.c3
  have h4 := h.c4
  obtain ⟨o1, c1, e1, q1⟩ := h.w
  obtain ⟨o2, c2, e2, q2⟩ := h.s
  obtain ⟨g1, f1, rfl, -, a1, -, -⟩ := row_way (w := w) ⟨o1, c1, rfl, q1⟩ k x hx
  obtain ⟨g2, f2, rfl, b0, b1, b2, b3⟩ := row_st (w := w) ⟨o2, c2, rfl, q2⟩ k s hs
  obtain ⟨m, t, gn, bb⟩ := s
  obtain ⟨⟨fr, pa, ne, fo⟩, v1, v2, v3⟩ := x
  have hcp := hxat.cap
  obtain ⟨o3, c3, e3, q3⟩ := hxat.path
  clear hxat
  simp only at *
  subst e3
  have hk1 : (k : Int) < (ws.length : Int) := by have := (List.getElem?_eq_some_iff.1 hx).1; omega
  have hk2 : (k : Int) < (ss.length : Int) := by have := (List.getElem?_eq_some_iff.1 hs).1; omega
  have hcc := hcp _ _ _ rfl
  obtain ⟨gk, rfl, hgk⟩ := nat_of (n := pa.length) (i := gn) ⟨hbd.2.2.2.2.1, hbd.2.2.2.2.2⟩
  obtain ⟨z, hz⟩ : ∃ z, pa[0]? = some z := at_of hn
  obtain ⟨g3, f3, rfl, _⟩ := row_int (w := w) ⟨o3, c3, rfl, q3⟩ 0 z hz
  have HD : Hid (rowAt w (.slice (some ⟨g3, f3 + gk, none⟩) (pa.length - gk) (c3 - gk)) 1 iC (pa.drop gk)) := row_drop (g := g3) (off := f3) (c := c3) ⟨_, c3, rfl, q3⟩ rfl gk _
  rw [e1] at h3
  rw [e2] at h4
  have hgi : (gk : Int) ≤ (pa.length : Int) := by omega
  have hgc : gk ≤ c3 := by omega
  have hgn : gk ≤ pa.length := by omega
  clear h hx hs q1 q2 q3 hz hcp hm hbd
  generalize ws.length = n1 at *
  generalize ss.length = n2 at *
  generalize hpl : pa.length = n3 at *
  by_cases hm0 : m = 0
  · subst hm0
    go_enter Tryz.func70, Tryz.ntmps70
    go_wp2
    go_ret
    exact ⟨_, rfl, by rw [heldF, if_pos rfl]; exact rowAt.nil _ _ _, Below.refl _ _⟩
  · have hd : (m == 0) = false := by simp [hm0]
    have HF : Hid (heldF ⟨fr, pa, ne, fo⟩ (m, t, (gk : Int), bb) = pa.drop gk) := if_neg hm0
    clear hm0
    go_enter Tryz.func70, Tryz.ntmps70
    go_wp2_with fail
    go_quiet (fail)
    go_wp2
    go_ret
    refine ⟨_, rfl, ?_, _root_.Go.below_drewN (Below.refl _ _) _⟩
    rw [HF.out]
    exact HD.out.drewN _

theorem zip_at {α β : Type} {l : List α} {m : List β} {k : Nat} {x : α} {y : β} (hx : l[k]? = some x) (hy : m[k]? = some y) : (l.zip m)[k]? = some (x, y) := by
  rw [List.getElem?_zip_eq_some]
  exact ⟨hx, hy⟩

/-- What a lock's readers need. -/
theorem LkOk.at_ {ns ng : Nat} {pts : List Int} {ws : List WyV} {ss : List St} (h : LkOk ns ng pts (ws.map (·.1)) ss) {k : Nat} (hk : k < ws.length) : ∃ x s, ws[k]? = some x ∧ ss[k]? = some s ∧ mayBeF s x.1.path.length = true ∧ WyOk ns pts.length ng x.1 := by
  obtain ⟨x, hx⟩ := at_of hk
  have hl := h.len
  rw [List.length_map] at hl
  obtain ⟨s, hs⟩ : ∃ s, ss[k]? = some s := at_of (by omega)
  have hx' : (ws.map (·.1))[k]? = some x.1 := by rw [List.getElem?_map, hx]; rfl
  exact ⟨x, s, hx, hs, h.sts k _ _ hx' hs, h.ways _ (List.mem_of_getElem? hx')⟩

set_option maxRecDepth 1000000 in
set_option maxHeartbeats 4000000 in
theorem holder_any (kb : Nat) (u : Nat → Value) (ns ng : Nat) (pts : List Int) (ws : List WyV) (ss : List St) (sec : Int) (w : World) (h : LkRd w kb u ns ng pts ws ss) (hok : LkOk ns ng pts (ws.map (·.1)) ss) :
    Calls Tryz.prog 40 #[.pointer (some ⟨kb, 0, none⟩), .int .i64 sec] w fun e w' => e = .returned (.int .i64 (holderF (ws.map (·.1)) ss sec)) ∧ Below w.heap.size w w' := by
  have hfew := hok.few
  have hlen := hok.len
  rw [List.length_map] at hfew hlen
  have HE : Hid (∀ (k : Nat) (x : WyV) (s : St), ws[k]? = some x → ss[k]? = some s → mayBeF s x.1.path.length = true → WyOk ns pts.length ng x.1 → ∀ W, Below w.heap.size w W → Calls Tryz.prog 70 #[.pointer (some ⟨kb, 0, none⟩), .int .i64 k] W fun e w' => ∃ v, e = .returned v ∧ rowAt w' v 1 iC (heldF x.1 s) ∧ Below W.heap.size W w') := fun k x s hx hs hm hwo W hW => held_any kb u ns ng pts ws ss k x s W (h.below hW) hx hs hm hwo.some_ ⟨by omega, by omega, hwo.few.1⟩
  have HZ : Hid (holderF (ws.map (·.1)) ss sec = atF (holdsB sec) ((ws.map (·.1)).zip ss) 0) := rfl
  generalize holderF (ws.map (·.1)) ss sec = ans at *
  have HAT : Hid (∀ k, k < ws.length → ∃ x s, ws[k]? = some x ∧ ss[k]? = some s ∧ mayBeF s x.1.path.length = true ∧ WyOk ns pts.length ng x.1) := fun k hk => hok.at_ hk
  have h3 := h.c3
  obtain ⟨o1, c1, e1, _⟩ := h.w
  rw [e1] at h3
  have HZL : Hid (((ws.map (·.1)).zip ss).length = ws.length) := by show _ = _; rw [List.length_zip, List.length_map]; omega
  have HH3 : Hid (w.cell? ⟨kb, 3, none⟩ = some (.slice o1 ws.length c1)) := h3
  clear h hok e1 hlen
  generalize hn : ws.length = n at *
  clear hn
  go_enter Tryz.func40, Tryz.ntmps40
  go_wp2
  clear h3
  go_loopg [5, 13] n (fun gk a i wr => ∃ k : Nat, gk = n - k ∧ i = .int .i64 k ∧ k ≤ n ∧ atF (holdsB sec) (((ws.map (·.1)).zip ss).drop k) k = ans ∧ Below w.heap.size w wr)
  case atStart => exact ⟨0, rfl, rfl, by omega, by rw [HZ.out]; rfl, Below.refl _ _⟩
  case round =>
    obtain ⟨k, rfl, rfl, hk, hc, hbw⟩ := hrel
    have HC : Hid (atF (holdsB sec) (((ws.map (·.1)).zip ss).drop k) k = ans) := hc
    have HBW : Hid (Below w.heap.size w wr) := hbw
    clear hc
    by_cases hlt : k < n
    · obtain ⟨x, s, hx, hs, hm, hwo⟩ := HAT.out k hlt
      have hz := zip_at (l := ws.map (·.1)) (x := x.1) (by rw [List.getElem?_map, hx]; rfl) hs
      rw [drop_at hz, atF] at HC
      have D := HE.out k x s hx hs hm hwo wr hbw
      have hpl : (heldF x.1 s).length ≤ 4294967296 := by
        have := hwo.few.1
        unfold heldF
        split
        · simp
        · rw [List.length_drop]; omega
      clear hx hs hm hwo hz
      have hki : (k : Int) < (n : Int) := by omega
      have HHB : Hid (holdsB sec (x.1, s) = inB (heldF x.1 s) sec) := rfl
      generalize holdsB sec (x.1, s) = hb at *
      generalize heldF x.1 s = hl at *
      go_wp2_with fail
      refine D.mono ?_
      rintro e w2 ⟨vv, rfl, hr2, hb2⟩
      have HB2 : Hid (Below w.heap.size w w2) := HBW.out.trans (hb2.mono HBW.out.size)
      have C2 := containsI_any vv hl sec w2 hr2 hpl
      rw [← HHB.out] at C2
      clear D hb2 hr2
      go_wp2_with fail
      refine C2.mono ?_
      rintro e w3 ⟨rfl, hw3⟩
      subst hw3
      cases hb
      · rw [if_neg (by simp)] at HC
        go_wp2
        go_roundg (n - (k + 1))
        case rel => exact ⟨k + 1, rfl, by go_num, by omega, HC.out, HB2.out⟩
        case measure => omega
      · rw [if_pos rfl] at HC
        go_wp2
        go_ret
        exact ⟨by rw [← HC.out]; rfl, HB2.out⟩
    · have h1 := HC.out
      rw [List.drop_of_length_le (by rw [HZL.out]; omega), atF] at h1
      have H1 : Hid (-1 = ans) := h1
      clear h1
      go_wp2
      go_ret
      exact ⟨by rw [← H1.out]; rfl, HBW.out⟩

set_option maxRecDepth 1000000 in
set_option maxHeartbeats 4000000 in
theorem mayMove_any (kb : Nat) (u : Nat → Value) (ng : Nat) (pts : List Int) (ws : List WyV) (ss : List St) (v : Nat → Value) (occ : List Bool) (lies : List Int) (p r : Int) (w : World) (h : LkRd w kb u occ.length ng pts ws ss) (hok : LkOk occ.length ng pts (ws.map (·.1)) ss) (hin : InRd w v occ lies) (hp : 0 ≤ p ∧ p < (pts.length : Nat)) :
    Calls Tryz.prog 67 #[.pointer (some ⟨kb, 0, none⟩), .agg #[v 0, v 1], .int .i64 p, .int .i64 r] w fun e w' => e = .returned (.bool (mayMoveF pts (ws.map (·.1)) ss occ p r)) ∧ Below w.heap.size w w' := by
  have HO : Hid (∀ sec W, Below w.heap.size w W → Calls Tryz.prog 40 #[.pointer (some ⟨kb, 0, none⟩), .int .i64 sec] W fun e w' => e = .returned (.int .i64 (holderF (ws.map (·.1)) ss sec)) ∧ Below W.heap.size W w') := fun sec W hW => holder_any kb u occ.length ng pts ws ss sec W (h.below hW) hok
  obtain ⟨kp, rfl, hkp⟩ := nat_of hp
  obtain ⟨sc, hsc⟩ : ∃ sc, pts[kp]? = some sc := at_of hkp
  obtain ⟨ks, rfl, hks⟩ := nat_of (hok.inn sc (List.mem_of_getElem? hsc))
  obtain ⟨oc, hoc⟩ : ∃ oc, occ[ks]? = some oc := at_of hks
  obtain ⟨o0, c0, e0, r0⟩ := hin.o
  obtain ⟨o1, c1, e1, _⟩ := hin.l
  have h2 := h.c2
  obtain ⟨o2, c2, e2, q2⟩ := h.p
  obtain ⟨g2, f2, rfl, a0⟩ := row_int (w := w) ⟨o2, c2, rfl, q2⟩ kp _ hsc
  obtain ⟨g0, f0, rfl, b0⟩ := row_bool (w := w) ⟨o0, c0, rfl, r0⟩ ks _ hoc
  have HF : Hid (mayMoveF pts (ws.map (·.1)) ss occ kp r = (!oc && (decide (holderF (ws.map (·.1)) ss (ks : Int) = -1) || decide (holderF (ws.map (·.1)) ss (ks : Int) = r)))) := by
    show _ = _
    rw [mayMoveF, nthI_at hsc, occF_at hoc]
  have D := HO.out (ks : Int)
  have HD : Hid (∀ W, Below w.heap.size w W → Calls Tryz.prog 40 #[.pointer (some ⟨kb, 0, none⟩), .int .i64 (ks : Int)] W fun e w' => e = .returned (.int .i64 (holderF (ws.map (·.1)) ss (ks : Int))) ∧ Below W.heap.size W w') := D
  generalize mayMoveF pts (ws.map (·.1)) ss occ kp r = ans at *
  generalize holderF (ws.map (·.1)) ss (ks : Int) = hd at *
  rw [e0, e1]
  rw [e2] at h2
  have hpi : (kp : Int) < (pts.length : Int) := by omega
  have hsi : (ks : Int) < (occ.length : Int) := by omega
  clear D HO h hok hin e0 e1 e2 q2 r0 hsc hoc hp hkp hks
  generalize occ.length = n0 at *
  generalize lies.length = n1 at *
  generalize pts.length = n2 at *
  have hb1 : Below w.heap.size w (w.alloc (.cells #[.slice (some ⟨g0, f0, none⟩) n0 c0, .slice o1 n1 c1] 38)) := (by repeat' (with_reducible first | exact Below.refl _ _ | refine Below.drew ?_ | refine _root_.Go.below_drewN ?_ _ | refine Below.alloc ?_ ?_ _ | refine Below.setCell ?_ ?_ _ | exact Nat.le_refl _ | (simp; done) | (simp; omega)))
  have x0 := up_cell hb1 h2
  have x1 := up_cell hb1 a0
  have H0 : Hid ((w.alloc (.cells #[.slice (some ⟨g0, f0, none⟩) n0 c0, .slice o1 n1 c1] 38)).heap[w.heap.size]? = some (.cells #[.slice (some ⟨g0, f0, none⟩) n0 c0, .slice o1 n1 c1] 38 (0, 0))) := blk_new _ _
  have HB1 : Hid (Below w.heap.size w (w.alloc (.cells #[.slice (some ⟨g0, f0, none⟩) n0 c0, .slice o1 n1 c1] 38))) := hb1
  clear hb1 h2 a0
  go_enter Tryz.func67, Tryz.ntmps67
  go_wp2_with fail
  generalize w.alloc (.cells #[.slice (some ⟨g0, f0, none⟩) n0 c0, .slice o1 n1 c1] 38) = w1 at *
  refine (HD.out _ HB1.out).mono ?_
  rintro e w2 ⟨rfl, hb2⟩
  have HB2 : Hid (Below w.heap.size w w2) := HB1.out.trans (hb2.mono HB1.out.size)
  obtain ⟨y0, y1⟩ := cells2 (blk_below hb2 H0.out)
  have y2 := up_cell HB2.out b0
  clear hb2 b0 x0 x1
  cases oc
  · by_cases h1 : hd = -1
    · have d1 : (hd == -1) = true := by simp [h1]
      have HA : Hid (ans = true) := by show _ = _; rw [HF.out]; simp [h1]
      clear h1
      go_wp2
      go_ret
      exact ⟨ret_bool HA.out.symm, HB2.out⟩
    · have d1 : (hd == -1) = false := by simp [h1]
      have HA : Hid (ans = decide (hd = r)) := by show _ = _; rw [HF.out]; simp [h1]
      clear h1
      go_wp2
      go_ret
      exact ⟨ret_bool (by rw [HA.out]; rw [Bool.eq_iff_iff]; simp), HB2.out⟩
  · have HA : Hid (ans = false) := by show _ = _; rw [HF.out]; rfl
    go_wp2
    go_ret
    exact ⟨ret_bool HA.out.symm, HB2.out⟩
end Go.Proofs.YtceebimgfajbcaaGreatDoor
