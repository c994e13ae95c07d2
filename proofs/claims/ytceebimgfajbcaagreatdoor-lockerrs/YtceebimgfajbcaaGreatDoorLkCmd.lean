/-
  Package lock: cancel, Command, by contracts.
-/
import Derived.Test.YtceebimgfajbcaaGreatDoorLkCall
namespace Go.Proofs.YtceebimgfajbcaaGreatDoor
open Go.RowKit

/-- What a cancel of a route answers, and how all stand then. -/
def cancelF (ss : List St) (k : Nat) (s : St) : Int × List St :=
  if s.1 = 1 then (0, ss.set k idleS) else if s.1 = 2 then (0, ss.set k (4, 0, 0, false)) else (7, ss)

set_option maxRecDepth 1000000 in
set_option maxHeartbeats 8000000 in
theorem cancel_any (B kb : Nat) (u : Nat → Value) (ns ng : Nat) (pts : List Int) (ws : List WyV) (ss : List St) (k : Nat) (s : St) (w : World) (h : LkAt w B kb u ns ng pts ws ss) (hs : ss[k]? = some s) :
    Calls Tryz.prog 30 #[.pointer (some ⟨kb, 0, none⟩), .int .i64 k] w fun e w' => e = .returned (.int .i64 (cancelF ss k s).1) ∧ LkAt w' B kb u ns ng pts ws (cancelF ss k s).2 ∧ Chg (lkFoot kb (u 2) ss) w w' := by
  have hr := h.rd
  have hls := (List.getElem?_eq_some_iff.1 hs).1
  have HF : Hid (cancelF ss k s = if s.1 = 1 then (0, ss.set k idleS) else if s.1 = 2 then (0, ss.set k (4, 0, 0, false)) else (7, ss)) := rfl
  generalize cancelF ss k s = ans at *
  have HAT : Hid (LkAt w B kb u ns ng pts ws ss) := h
  obtain ⟨sb, cap, e5, hcl, hat0, hch0⟩ := h.put hls idleS
  obtain ⟨sb', cap', e5', _, hat4, hch4⟩ := h.put hls (4, 0, 0, false)
  have h4 := hr.c4
  obtain ⟨o5, c5, e6', q5⟩ := hr.s
  rw [e5] at e5' e6' h4
  injection e5' with e51 e52 e53
  injection e51 with e51
  injection e51 with e51
  subst e51
  injection e6' with e61 e62 e63
  subst e61 e63
  obtain ⟨g6, f6, e6, b0, -, -, -⟩ := row_st (w := w) (c := cap) ⟨_, cap, rfl, q5⟩ k s hs
  injection e6 with e6
  injection e6 with e61 e62
  subst e61 e62
  rw [Nat.zero_add] at b0
  obtain ⟨⟨d0, i0⟩, j0⟩ := hcl 0 (by omega)
  obtain ⟨⟨d1, i1⟩, j1⟩ := hcl 1 (by omega)
  obtain ⟨⟨d2, i2⟩, j2⟩ := hcl 2 (by omega)
  obtain ⟨⟨d3, i3⟩, j3⟩ := hcl 3 (by omega)
  rw [Nat.add_zero] at i0 j0
  have H0 : Hid (LkAt ((((w.setCell ⟨sb, k * 4, none⟩ (.int .i64 0)).setCell ⟨sb, k * 4 + 1, none⟩ (.int .i64 0)).setCell ⟨sb, k * 4 + 2, none⟩ (.int .i64 0)).setCell ⟨sb, k * 4 + 3, none⟩ (.bool false)) B kb u ns ng pts ws (ss.set k idleS)) := hat0
  have H4 : Hid (LkAt ((((w.setCell ⟨sb, k * 4, none⟩ (.int .i64 4)).setCell ⟨sb, k * 4 + 1, none⟩ (.int .i64 0)).setCell ⟨sb, k * 4 + 2, none⟩ (.int .i64 0)).setCell ⟨sb, k * 4 + 3, none⟩ (.bool false)) B kb u ns ng pts ws (ss.set k (4, 0, 0, false))) := hat4
  have C0 : Hid (Chg (lkFoot kb (u 2) ss) w ((((w.setCell ⟨sb, k * 4, none⟩ (.int .i64 0)).setCell ⟨sb, k * 4 + 1, none⟩ (.int .i64 0)).setCell ⟨sb, k * 4 + 2, none⟩ (.int .i64 0)).setCell ⟨sb, k * 4 + 3, none⟩ (.bool false))) := hch0
  have C4 : Hid (Chg (lkFoot kb (u 2) ss) w ((((w.setCell ⟨sb, k * 4, none⟩ (.int .i64 4)).setCell ⟨sb, k * 4 + 1, none⟩ (.int .i64 0)).setCell ⟨sb, k * 4 + 2, none⟩ (.int .i64 0)).setCell ⟨sb, k * 4 + 3, none⟩ (.bool false))) := hch4
  have hki2 : (k : Int) < (ss.length : Int) := by omega
  obtain ⟨m, st1, st2, st3⟩ := s
  simp only at HF b0
  clear h hr hs hls q5 hcl hat0 hat4 hch0 hch4 e5 e52 e53 e62
  generalize ss.length = n2 at *
  by_cases h1 : m = 1
  · subst h1
    rw [if_pos rfl] at HF
    clear i0
    go_enter Tryz.func30, Tryz.ntmps30
    go_wp2
    go_ret
    exact ⟨by rw [HF.out]; rfl, by rw [HF.out]; exact H0.out, C0.out⟩
  by_cases h2 : m = 2
  · subst h2
    rw [if_neg (by decide), if_pos rfl] at HF
    clear i0
    go_enter Tryz.func30, Tryz.ntmps30
    go_wp2
    go_ret
    exact ⟨by rw [HF.out]; rfl, by rw [HF.out]; exact H4.out, C4.out⟩
  rw [if_neg h1, if_neg h2] at HF
  have q1 : (m == 1) = false := by simp [h1]
  have q2 : (m == 2) = false := by simp [h2]
  clear h1 h2 i0 i1 i2 i3 j0 j1 j2 j3
  go_enter Tryz.func30, Tryz.ntmps30
  go_wp2
  go_ret
  exact ⟨by rw [HF.out]; rfl, by rw [HF.out]; exact HAT.out, Chg.refl _ _⟩

/-- What a command answers, and how all stand then. -/
def cmdF (ns : Nat) (pts : List Int) (ws : List Wy) (ss : List St) (occ : List Bool) (lies : List Int) (kind r : Int) : Int × List St :=
  if (!inB2 occ lies ns pts.length || !decide (kind = 1 ∨ kind = 2)) = true then (1, ss)
  else if r < 0 ∨ (ws.length : Int) ≤ r then (5, ss)
  else match ws[r.toNat]?, ss[r.toNat]? with
    | some x, some s => if kind = 1 then callF pts ws ss occ lies r.toNat x s else cancelF ss r.toNat s
    | _, _ => (0, ss)

set_option maxRecDepth 1000000 in
set_option maxHeartbeats 8000000 in
theorem command_any (B kb : Nat) (u : Nat → Value) (ns ng : Nat) (pts : List Int) (ws : List WyV) (ss : List St) (v : Nat → Value) (occ : List Bool) (lies : List Int) (kind r : Int) (w : World) (h : LkAt w B kb u ns ng pts ws ss) (hok : LkOk ns ng pts (ws.map (·.1)) ss) (hin : InRd w v occ lies) (hl : lies.length ≤ 4294967296) :
    Calls Tryz.prog 9 #[.pointer (some ⟨kb, 0, none⟩), .agg #[v 0, v 1], .agg #[.int .i64 kind, .int .i64 r]] w fun e w' => e = .returned (.int .i64 (cmdF ns pts (ws.map (·.1)) ss occ lies kind r).1) ∧ LkAt w' B kb u ns ng pts ws (cmdF ns pts (ws.map (·.1)) ss occ lies kind r).2 ∧ Chg (lkFoot kb (u 2) ss) w w' := by
  have hr := h.rd
  have hlen := hok.len
  rw [List.length_map] at hlen
  have HF : Hid (cmdF ns pts (ws.map (·.1)) ss occ lies kind r = if (!inB2 occ lies ns pts.length || !decide (kind = 1 ∨ kind = 2)) = true then (1, ss)
      else if r < 0 ∨ (ws.length : Int) ≤ r then (5, ss)
      else match (ws.map (·.1))[r.toNat]?, ss[r.toNat]? with
        | some x, some s => if kind = 1 then callF pts (ws.map (·.1)) ss occ lies r.toNat x s else cancelF ss r.toNat s
        | _, _ => (0, ss)) := by
    show _ = _
    unfold cmdF
    rw [List.length_map]
  generalize cmdF ns pts (ws.map (·.1)) ss occ lies kind r = ans at *
  have HAT : Hid (LkAt w B kb u ns ng pts ws ss) := h
  have MI : Hid (∀ W, Below w.heap.size w W → Calls Tryz.prog 27 #[.pointer (some ⟨kb, 0, none⟩), .agg #[v 0, v 1]] W fun e w' => e = .returned (.bool (inB2 occ lies ns pts.length)) ∧ Below W.heap.size W w') := fun W hW => mayIn_any kb u ns ng pts ws ss v occ lies W (hr.below hW) (hin.below hW) hl
  have CA : Hid (inB2 occ lies ns pts.length = true → ∀ k x s, ws[k]? = some x → ss[k]? = some s → ∀ W, Below w.heap.size w W → Calls Tryz.prog 29 #[.pointer (some ⟨kb, 0, none⟩), .agg #[v 0, v 1], .int .i64 (k : Nat)] W fun e w' => e = .returned (.int .i64 (callF pts (ws.map (·.1)) ss occ lies k x.1 s).1) ∧ LkAt w' B kb u ns ng pts ws (callF pts (ws.map (·.1)) ss occ lies k x.1 s).2 ∧ Chg (lkFoot kb (u 2) ss) W w') := fun hI k x s hx hs W hW => by
    unfold inB2 at hI
    simp only [Bool.and_eq_true, decide_eq_true_eq] at hI
    have e1 : occ.length = ns := by omega
    have e2 : lies.length = pts.length := by omega
    subst e1
    exact call_any B kb u ng pts ws ss v occ lies k x s W (h.below hW) hok (hin.below hW) e2 hx hs
  have CN : Hid (∀ k s, ss[k]? = some s → ∀ W, Below w.heap.size w W → Calls Tryz.prog 30 #[.pointer (some ⟨kb, 0, none⟩), .int .i64 (k : Nat)] W fun e w' => e = .returned (.int .i64 (cancelF ss k s).1) ∧ LkAt w' B kb u ns ng pts ws (cancelF ss k s).2 ∧ Chg (lkFoot kb (u 2) ss) W w') := fun k s hs W hW => cancel_any B kb u ns ng pts ws ss k s W (h.below hW) hs
  have AT : Hid (∀ k, k < ws.length → ∃ x s, ws[k]? = some x ∧ ss[k]? = some s) := fun k hk => by
    obtain ⟨x, s, h1, h2, _⟩ := hok.at_ hk
    exact ⟨x, s, h1, h2⟩
  have KI : Hid (∀ W, Calls Tryz.prog 28 #[.int .i64 kind] W fun e w' => e = .returned (.bool (decide (kind = 1 ∨ kind = 2))) ∧ w' = W) := fun W => isKind_any kind W
  have h3 := hr.c3
  obtain ⟨o1, c1, e1, _⟩ := hr.w
  rw [e1] at h3
  obtain ⟨o3, c3, e3, _⟩ := hin.o
  obtain ⟨o4, c4, e4, _⟩ := hin.l
  rw [e3, e4] at MI CA ⊢
  clear h hr hok hin hl hlen e1 e3 e4
  generalize inB2 occ lies ns pts.length = iB at *
  generalize hkd : decide (kind = 1 ∨ kind = 2) = kB at *
  generalize hn3 : occ.length = n3 at *
  generalize lies.length = n4 at *
  generalize hn1 : ws.length = n1 at *
  have HKD : Hid (decide (kind = 1 ∨ kind = 2) = kB) := hkd
  clear hn1 hn3 hkd
  generalize hch : (w.alloc (.cells #[.slice o3 n3 c3, .slice o4 n4 c4] 38)).alloc (.cells #[.int .i64 kind, .int .i64 r] 40) = w1
  have HB1 : Hid (Below w.heap.size w w1) := by show Below _ _ _; rw [← hch]; exact (by repeat' (with_reducible first | exact Below.refl _ _ | refine Below.drew ?_ | refine _root_.Go.below_drewN ?_ _ | refine Below.alloc ?_ ?_ _ | refine Below.setCell ?_ ?_ _ | exact Nat.le_refl _ | (simp; done) | (simp; omega)))
  have H0 : Hid (w1.heap[w.heap.size]? = some (.cells #[.slice o3 n3 c3, .slice o4 n4 c4] 38 (0, 0))) := by show _ = _; rw [← hch]; exact blk_old (blk_new _ _)
  have H1 : Hid (w1.heap[w.heap.size + 1]? = some (.cells #[.int .i64 kind, .int .i64 r] 40 (0, 0))) := by show _ = _; rw [← hch]; exact blk_at1 _ _ _
  obtain ⟨x0, x1⟩ := cells2 H0.out
  obtain ⟨x2, x3⟩ := cells2 H1.out
  go_enter Tryz.func9, Tryz.ntmps9
  go_wp2_with fail
  clear hch x0 x1 x2 x3
  refine (MI.out _ HB1.out).mono ?_
  rintro e w2 ⟨rfl, hb2⟩
  have HB2 : Hid (Below w.heap.size w w2) := HB1.out.trans (hb2.mono HB1.out.size)
  obtain ⟨x0, x1⟩ := cells2 (blk_below hb2 H0.out)
  obtain ⟨x2, x3⟩ := cells2 (blk_below hb2 H1.out)
  have x4 := up_cell HB2.out h3
  clear hb2 h3
  cases iB
  · have HA : Hid (ans = (1, ss)) := by show _ = _; rw [HF.out]; rfl
    go_wp2
    go_ret
    exact ⟨by rw [HA.out]; rfl, by rw [HA.out]; exact HAT.out.below HB2.out, Chg.of_below HB2.out⟩
  go_wp2_with fail
  refine (KI.out _).mono ?_
  rintro e w3 ⟨rfl, hw3⟩
  subst hw3
  cases kB
  · have HA : Hid (ans = (1, ss)) := by show _ = _; rw [HF.out]; rfl
    go_wp2
    go_ret
    exact ⟨by rw [HA.out]; rfl, by rw [HA.out]; exact HAT.out.below HB2.out, Chg.of_below HB2.out⟩
  rw [if_neg (by decide)] at HF
  by_cases hr0 : r < 0
  · have HA : Hid (ans = (5, ss)) := by show _ = _; rw [HF.out, if_pos (.inl hr0)]
    have hd : decide (r < 0) = true := decide_eq_true hr0
    clear hr0
    go_wp2_with fail
    go_quiet (fail)
    go_wp2
    go_ret
    exact ⟨by rw [HA.out]; rfl, by rw [HA.out]; exact HAT.out.below (_root_.Go.below_drewN HB2.out _), Chg.of_below (_root_.Go.below_drewN HB2.out _)⟩
  have hd0 : decide (r < 0) = false := decide_eq_false hr0
  by_cases hr1 : (n1 : Int) ≤ r
  · have HA : Hid (ans = (5, ss)) := by show _ = _; rw [HF.out, if_pos (.inr hr1)]
    have hd : decide ((n1 : Int) ≤ r) = true := decide_eq_true hr1
    clear hr0 hr1
    go_wp2_with fail
    go_quiet (fail)
    go_wp2
    go_ret
    exact ⟨by rw [HA.out]; rfl, by rw [HA.out]; exact HAT.out.below (_root_.Go.below_drewN HB2.out _), Chg.of_below (_root_.Go.below_drewN HB2.out _)⟩
  have hd1 : decide ((n1 : Int) ≤ r) = false := decide_eq_false hr1
  rw [if_neg (by omega)] at HF
  obtain ⟨k, rfl, hk⟩ := nat_of (n := n1) (i := r) ⟨by omega, by omega⟩
  obtain ⟨x, s, hx, hs⟩ := AT.out k hk
  have hx' : (ws.map (·.1))[k]? = some x.1 := by rw [List.getElem?_map, hx]; rfl
  rw [Int.toNat_natCast, hx', hs] at HF
  simp only at HF
  have CX := CA.out trivial k x s hx hs
  have CY := CN.out k s hs
  have HCX : Hid (∀ W, Below w.heap.size w W → Calls Tryz.prog 29 #[.pointer (some ⟨kb, 0, none⟩), .agg #[.slice o3 n3 c3, .slice o4 n4 c4], .int .i64 (k : Nat)] W fun e w' => e = .returned (.int .i64 (callF pts (ws.map (·.1)) ss occ lies k x.1 s).1) ∧ LkAt w' B kb u ns ng pts ws (callF pts (ws.map (·.1)) ss occ lies k x.1 s).2 ∧ Chg (lkFoot kb (u 2) ss) W w') := CX
  have HCY : Hid (∀ W, Below w.heap.size w W → Calls Tryz.prog 30 #[.pointer (some ⟨kb, 0, none⟩), .int .i64 (k : Nat)] W fun e w' => e = .returned (.int .i64 (cancelF ss k s).1) ∧ LkAt w' B kb u ns ng pts ws (cancelF ss k s).2 ∧ Chg (lkFoot kb (u 2) ss) W w') := CY
  have hd3 : decide (n1 ≤ k) = false := decide_eq_false (by omega)
  have hd4 : ¬ n1 ≤ k := by omega
  clear CX CY CA CN AT hx hs hx' hr0 hr1 hk hd1
  go_wp2_with fail
  go_quiet (fail)
  have HB3 : Hid (Below w.heap.size w (w3.drewN nq)) := _root_.Go.below_drewN HB2.out nq
  have z0 := up_cell (_root_.Go.below_drewN (Below.refl _ _) nq : Below w3.heap.size w3 (w3.drewN nq)) x0
  have z1 := up_cell (_root_.Go.below_drewN (Below.refl _ _) nq : Below w3.heap.size w3 (w3.drewN nq)) x1
  have z2 := up_cell (_root_.Go.below_drewN (Below.refl _ _) nq : Below w3.heap.size w3 (w3.drewN nq)) x2
  have z3 := up_cell (_root_.Go.below_drewN (Below.refl _ _) nq : Below w3.heap.size w3 (w3.drewN nq)) x3
  clear x0 x1 x2 x3 x4
  generalize w3.drewN nq = w4 at *
  by_cases hk1 : kind = 1
  · subst hk1
    rw [if_pos rfl] at HF
    go_wp2_with fail
    refine (HCX.out _ HB3.out).mono ?_
    rintro e w5 ⟨rfl, hat, hch⟩
    have HAT5 : Hid (LkAt w5 B kb u ns ng pts ws (callF pts (ws.map (·.1)) ss occ lies k x.1 s).2) := hat
    have HCH5 : Hid (Chg (lkFoot kb (u 2) ss) w w5) := (Chg.of_below HB3.out).trans hch
    clear hat hch
    rw [← HF.out] at HAT5 ⊢
    go_wp2
    go_ret
    exact ⟨rfl, HAT5.out, HCH5.out⟩
  · have hd : (kind == 1) = false := by simp [hk1]
    rw [if_neg hk1] at HF
    clear hk1
    go_wp2_with fail
    refine (HCY.out _ HB3.out).mono ?_
    rintro e w5 ⟨rfl, hat, hch⟩
    have HAT5 : Hid (LkAt w5 B kb u ns ng pts ws (cancelF ss k s).2) := hat
    have HCH5 : Hid (Chg (lkFoot kb (u 2) ss) w w5) := (Chg.of_below HB3.out).trans hch
    clear hat hch
    rw [← HF.out] at HAT5 ⊢
    go_wp2
    go_ret
    exact ⟨rfl, HAT5.out, HCH5.out⟩
end Go.Proofs.YtceebimgfajbcaaGreatDoor
