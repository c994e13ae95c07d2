/-
  Of every layout and two numbers: LockBusy returns true. A tied card: what unicode/utf8's two tables hold is listed, tied by the given tie.
-/
import Derived.Test.YtfgkkhcoidegdabDoorRows
import Derived.Test.YtfgkkhcoidegdabDoorTie
import Derived.Test.YtfgkkhcoidegdabDoorCards
import Derived.Test.YtfgkkhcoidegdabDoorJoin1
import Derived.Test.YtfgkkhcoidegdabDoorLkKnown
import Derived.Test.YtfgkkhcoidegdabDoorLkLay
import Derived.Test.YtfgkkhcoidegdabDoorRfConf
import Derived.Test.YtfgkkhcoidegdabDoorConfSym
import Derived.Test.YtfgkkhcoidegdabDoorLyTree
import Derived.Deep.CutBlock
import Derived.WalkKit
import Derived.ProofKit
import Derived.OpenShut
import Derived.ShutString
import Derived.ChangeOld
import Derived.Below
import Derived.SizedLaws
import Derived.PinnedBridge
import Derived.Lib.LaidU8T
import Derived.Lay
import Derived.LaidOnce
import Derived.SevenTiedAt
import Derived.Deep.DeepHandedRow
namespace Go.Proofs.YtfgkkhcoidegdabDoor.lockBusy
open Go.ChangeShapes Go.WideShapes Go.ChangeAt Go.RowKit

theorem idle_at (n : Nat) (i : Int) : stAt (List.replicate n idleS) i = idleS := by
  rw [stAt, List.getD_eq_getElem?_getD, List.getElem?_replicate]
  split <;> rfl
theorem busy_idle (n : Nat) (fs : List Int) : busyB (List.replicate n idleS) fs = false := by
  rw [busyB]
  exact List.any_eq_false.2 fun f _ => by rw [idle_at]; decide
theorem clear0 (m : Nat) (path : List Int) : clearB (List.replicate m false) path = true := by
  rw [clearB]
  refine List.all_eq_true.2 fun s _ => ?_
  rw [occF, List.getD_eq_getElem?_getD, List.getElem?_replicate]
  split <;> rfl
theorem at_no {α : Type} {p : α → Bool} : ∀ {l : List α} {k : Nat}, (∀ x ∈ l, p x = false) → atF p l k = -1
  | [], _, _ => rfl
  | y :: l, k, h => by rw [atF, h y (List.mem_cons_self ..), if_neg (by decide)]; exact at_no fun x hx => h x (List.mem_cons_of_mem _ hx)
theorem hold_idle (ws : List Wy) (n : Nat) (sec : Int) : holderF ws (List.replicate n idleS) sec = -1 := at_no fun q hq => by
  have h := (List.of_mem_zip hq).2
  rw [holdsB, (List.mem_replicate.1 h).2]
  rfl
theorem bar0 (pts : List Int) (ws : List Wy) (n m : Nat) (lies : List Int) (r : Int) (nd : Int × Bool) : barF pts ws (List.replicate n idleS) (List.replicate m false) lies r nd = false := by
  rw [barF, mayMoveF, hold_idle]
  have : occF (List.replicate m false) (nthI pts nd.1) = false := by
    rw [occF, List.getD_eq_getElem?_getD, List.getElem?_replicate]
    split <;> rfl
  rw [this]
  simp
theorem in0 (ns np : Nat) : inB2 (List.replicate ns false) (List.replicate np 0) ns np = true := by
  rw [inB2, List.length_replicate, List.length_replicate, decide_eq_true rfl, decide_eq_true rfl]
  have : (List.replicate np (0 : Int)).any posB = false := List.any_eq_false.2 fun x hx => by rw [(List.mem_replicate.1 hx).2]; decide
  rw [this]
  rfl
section
variable (l : Lay) (rs : List RtV)
abbrev occ0 : List Bool := List.replicate l.sections.length false
abbrev lie0 : List Int := List.replicate l.points.length 0
abbrev id0 : List St := List.replicate rs.length idleS
abbrev st1 (R : Nat) : List St := (id0 rs).set R (1, 0, 0, false)
theorem in_ok (kind : Int) (hk : kind = 1 ∨ kind = 2) : (!inB2 (occ0 l) (lie0 l) l.sections.length (l.points.map (·.2)).length || !decide (kind = 1 ∨ kind = 2)) = false := by
  rw [List.length_map, in0, decide_eq_true hk]
  rfl
theorem call_one {R : Nat} {x : RtV} (hx : rs[R]? = some x) : cmdG l rs (id0 rs) (occ0 l) (lie0 l) 1 R = (0, st1 rs R) := by
  have hlt := (List.getElem?_eq_some_iff.1 hx).1
  have hw := ways_at rs rs 0 R x hx
  have hs : (id0 rs)[R]? = some idleS := by rw [List.getElem?_replicate, if_pos hlt]
  rw [cmdG, cmdF, in_ok l 1 (.inl rfl), if_neg (by decide), if_neg (by rw [waysG_map]; omega), Int.toNat_natCast, hw, hs]
  show (if (1 : Int) = 1 then _ else _) = _
  rw [if_pos rfl, callF, if_pos (show idleS.1 = 0 from rfl), busy_idle, clear0]
  have : (wayF rs (0 + R) x.1).needs.any (barF (l.points.map (·.2)) (waysG rs rs 0) (id0 rs) (occ0 l) (lie0 l) R) = false := List.any_eq_false.2 fun nd _ => by rw [bar0]; decide
  rw [this]
  rfl
theorem st1_at {R S : Nat} (h : R ≠ S) (hS : S < rs.length) : (st1 rs R)[S]? = some idleS := by
  rw [List.getElem?_set_ne h, List.getElem?_replicate, if_pos hS]
theorem st1_busy {R : Nat} (hR : R < rs.length) (f : Int) (hf : 0 ≤ f) : decide ((stAt (st1 rs R) f).1 ≠ 0) = decide (f = (R : Int)) := by
  rw [stAt, List.getD_eq_getElem?_getD, List.getElem?_set]
  by_cases h : f = (R : Int)
  · subst h
    rw [Int.toNat_natCast, if_pos rfl, List.length_replicate, if_pos hR]
    simp
  · rw [if_neg (by omega), List.getElem?_replicate, decide_eq_false h]
    split <;> rfl
theorem busy_foe {R S : Nat} {x y : RtV} (hx : rs[R]? = some x) (_ : rs[S]? = some y) (hne : R ≠ S) : busyB (st1 rs R) (foesF (0 + S) y.1 rs 0) = confB S R y.1 x.1 := by
  have hR := (List.getElem?_eq_some_iff.1 hx).1
  rw [Bool.eq_iff_iff, busyB, List.any_eq_true]
  constructor
  · rintro ⟨f, hf, hb⟩
    obtain ⟨j, z, hz, rfl, hc⟩ := (foes_mem _ _ _ _ _).1 hf
    rw [st1_busy rs hR _ (by omega)] at hb
    have hj : 0 + j = R := by have := of_decide_eq_true hb; omega
    rw [hj, Bool.and_eq_true] at hc
    obtain rfl : j = R := by omega
    obtain rfl := Option.some.inj (hx.symm.trans hz)
    rw [Nat.zero_add] at hc
    exact hc.2
  · intro hc
    refine ⟨(R : Int), (foes_mem _ _ _ _ _).2 ⟨R, x, hx, by rw [Nat.zero_add], ?_⟩, ?_⟩
    · rw [Nat.zero_add, Nat.zero_add, hc, decide_eq_true hne]
      rfl
    · rw [st1_busy rs hR _ (by omega)]
      simp
theorem call_two {R S : Nat} {x y : RtV} (hx : rs[R]? = some x) (hy : rs[S]? = some y) (hne : R ≠ S) :
    (confB S R y.1 x.1 = true → cmdG l rs (st1 rs R) (occ0 l) (lie0 l) 1 S = (8, st1 rs R)) ∧ ((cmdG l rs (st1 rs R) (occ0 l) (lie0 l) 1 S).1 = 8 ∨ (cmdG l rs (st1 rs R) (occ0 l) (lie0 l) 1 S).1 = 0) := by
  have hS := (List.getElem?_eq_some_iff.1 hy).1
  have e : cmdG l rs (st1 rs R) (occ0 l) (lie0 l) 1 S = callF (l.points.map (·.2)) (waysG rs rs 0) (st1 rs R) (occ0 l) (lie0 l) S (wayF rs (0 + S) y.1) idleS := by
    rw [cmdG, cmdF, in_ok l 1 (.inl rfl), if_neg (by decide), if_neg (by rw [waysG_map]; omega), Int.toNat_natCast, ways_at rs rs 0 S y hy, st1_at rs hne hS]
    exact if_pos rfl
  rw [e, callF, if_pos (show idleS.1 = 0 from rfl)]
  refine ⟨fun hc => ?_, ?_⟩
  · rw [if_pos]
    rw [show (wayF rs (0 + S) y.1).foes = foesF (0 + S) y.1 rs 0 from rfl, busy_foe rs hx hy hne, hc]
    rfl
  · split
    · exact .inl rfl
    · exact .inr rfl
theorem cancel_one {R : Nat} {x : RtV} (hx : rs[R]? = some x) : cmdG l rs (st1 rs R) (occ0 l) (lie0 l) 2 R = (0, id0 rs) := by
  have hlt := (List.getElem?_eq_some_iff.1 hx).1
  have hs : (st1 rs R)[R]? = some (1, 0, 0, false) := by rw [List.getElem?_set, if_pos rfl, List.length_replicate, if_pos hlt]
  rw [cmdG, cmdF, in_ok l 2 (.inr rfl), if_neg (by decide), if_neg (by rw [waysG_map]; omega), Int.toNat_natCast, ways_at rs rs 0 R x hx, hs]
  show (if (2 : Int) = 1 then _ else _) = _
  rw [if_neg (by decide), cancelF, if_pos rfl, List.set_set]
  congr 1
  apply List.ext_getElem?
  intro j
  rw [List.getElem?_set, List.getElem?_replicate]
  split
  · rename_i h
    subst h
    rw [List.length_replicate]
  · rfl
end
/-- What the field tells, as the law lays it. -/
structure InB (W : World) (bo gb gi n0 n1 : Nat) : Prop where
  x : W.heap[bo]? = some (.cells #[.slice (some ⟨gb, 0, none⟩) n0 n0, .slice (some ⟨gi, 0, none⟩) n1 n1] 36 (0, 0))
  b : W.heap[gb]? = some (.cells ((List.replicate n0 false).map Value.bool).toArray 4)
  i : W.heap[gi]? = some (.cells ((List.replicate n1 (0 : Int)).map (Value.int .i64)).toArray 3)
theorem InB.tc {W W' : World} {bo gb gi n0 n1 : Nat} (h : InB W bo gb gi n0 n1) (hc : TC W W') : InB W' bo gb gi n0 n1 := ⟨hc.blk h.x (by decide), hc.blk h.b (by decide), hc.blk h.i (by decide)⟩
theorem InB.rd {W : World} {bo gb gi n0 n1 : Nat} (h : InB W bo gb gi n0 n1) : InRd W (v4 (.slice (some ⟨gb, 0, none⟩) n0 n0) (.slice (some ⟨gi, 0, none⟩) n1 n1) .nilIface .nilIface) (List.replicate n0 false) (List.replicate n1 0) := by
  have a := row_blk (cs := bC) (cap := n0) (fun _ => rfl) (List.replicate n0 false) h.b (by simp [bC, List.flatMap_replicate])
  have b := row_blk (cs := iC) (cap := n1) (fun _ => rfl) (List.replicate n1 (0 : Int)) h.i (by simp [iC, List.flatMap_replicate])
  rw [List.length_replicate] at a b
  exact ⟨a, b⟩

set_option maxRecDepth 1000000 in
set_option maxHeartbeats 32000000 in
theorem walk (w : World) (v : Nat → Value) (l : Lay) (rs : List RtV) (h : LayRd w v l rs) (hB : LayBig l) (hcap : ∀ x ∈ rs, capOk x.2.1) (hc3 : capOk (v 3) ∧ capOk (v 0) ∧ capOk (v 2)) (r : Int) (_ : (Lit.int IntKind.i64 r).wf = true) (s : Int) (_ : (Lit.int IntKind.i64 s).wf = true) (hT : Lib.Utf8Tabs 0 1 w) :
    Calls Tryd.prog 3 #[.agg #[v 0, v 1, v 2, v 3], .int .i64 r, .int .i64 s] w fun e w' => e = .returned (.bool true) ∧ Below w.heap.size w w' := by
  have hlr : rs.length = l.routes.length := by rw [← h.m, List.length_map]
  obtain ⟨o0, c0, e0, _⟩ := h.s
  obtain ⟨o1, c1, e1, _⟩ := h.p
  obtain ⟨o2, c2, e2, _⟩ := h.g
  obtain ⟨o3, c3, e3, r3⟩ := h.r
  have MID : LaySmall l → IsMid l rs v := fun hs => ⟨by have := hs.s.1; omega, by have := hs.p.1; omega, by have := hs.g.1; omega, by have := hs.r.1; omega, fun x hx => by
    have := hs.r.2 x.1 (by rw [← h.m]; exact List.mem_map.2 ⟨x, hx, rfl⟩)
    exact ⟨hcap x hx, by omega, by omega, by omega⟩, hc3.2.1, hc3.2.2⟩
  have SZ : Hid (∀ W, Below w.heap.size w W → Calls Tryd.prog 6 #[.agg #[v 0, v 1, v 2, v 3]] W fun e w' => ∃ n : Int, e = .returned (.int .i64 n) ∧ 0 ≤ n ∧ n ≤ 1125899906842624 ∧ (n < 3000 → LaySmall l) ∧ Below W.heap.size W w') := fun W hW => size_any v l rs W (h.below hW) hB
  have IS : Hid (LaySmall l → ∀ W, Below w.heap.size w W → Calls Tryd.prog 7 #[.agg #[v 0, v 1, v 2, v 3]] W fun e w' => e = .returned (.bool (isB l)) ∧ Below W.heap.size W w') := fun hs W hW => is_any v l rs W (h.below hW) hcap (LayMid.of hs hB) (tabs_below hT hW)
  have NEW : Hid (LaySmall l → isB l = true → ∀ W, Below w.heap.size w W → Calls Tryd.prog 8 #[.agg #[v 0, v 1, v 2, v 3]] W fun e w' => ∃ kb, e = .returned (.tuple #[.pointer (some ⟨kb, 0, none⟩), .int .i64 0]) ∧ LkG w w' l rs kb (id0 rs) ∧ Below W.heap.size W w') := fun hs hi W hW => new_g w W v l rs (h.below hW) (MID hs) hi hs hW
  have SMA : LaySmall l → ∀ z ∈ rs, z.1.path.length ≤ 1000000 ∧ z.1.points.length + z.1.flank.length ≤ 1000000 := fun hs z hz => by
    have := hs.r.2 z.1 (by rw [← h.m]; exact List.mem_map.2 ⟨z, hz, rfl⟩)
    omega
  have LRD : Hid (LayRd w v l rs) := h
  have CF : Hid (LaySmall l → ∀ (r s : Nat) (x y : RtV), rs[r]? = some x → rs[s]? = some y → ∀ W, Below w.heap.size w W → Calls Tryd.prog 10 #[.agg #[v 0, v 1, v 2, v 3], .int .i64 r, .int .i64 s] W fun e w' => e = .returned (.bool (confB r s x.1 y.1)) ∧ Below W.heap.size W w') := fun hs r s x y hx hy W hW => rfConflict_any v l rs r s x y W (h.below hW) hx hy (SMA hs x (List.mem_of_getElem? hx)) (SMA hs y (List.mem_of_getElem? hy))
  have HLR : Hid (rs.length = l.routes.length) := hlr
  clear SMA MID
  rw [e0, e1, e2, e3] at SZ IS NEW CF ⊢
  clear h hB hcap hT hc3 e0 e1 e2 e3 r3 hlr LRD
  have HG0 : Hid (l.sections.length = l.sections.length ∧ l.points.length = l.points.length) := ⟨rfl, rfl⟩
  generalize hs0 : l.sections.length = n0 at *
  generalize hs1 : l.points.length = n1 at *
  generalize hs2 : l.signals.length = n2 at *
  generalize hs3 : rs.length = n3 at *
  have HS : Hid (l.sections.length = n0 ∧ l.points.length = n1 ∧ rs.length = n3) := ⟨hs0, hs1, hs3⟩
  clear hs0 hs1 hs2 hs3 HG0
  generalize hch : w.alloc (.cells #[.slice o0 n0 c0, .slice o1 n1 c1, .slice o2 n2 c2, .slice o3 n3 c3] 26) = w1
  have HB01 : Hid (Below w.heap.size w w1) := by show Below _ _ _; rw [← hch]; exact (Below.refl _ _).alloc (Nat.le_refl _) _
  have H0 : Hid (w1.heap[w.heap.size]? = some (.cells #[.slice o0 n0 c0, .slice o1 n1 c1, .slice o2 n2 c2, .slice o3 n3 c3] 26 (0, 0))) := by show _ = _; rw [← hch]; exact blk_new _ _
  have HUP : Hid (∀ W, Below w1.heap.size w1 W → Below w.heap.size w W) := fun W hW => HB01.out.trans (hW.mono HB01.out.size)
  obtain ⟨⟨q0, q1, q2, q3⟩, _⟩ := cells4 H0.out
  go_enter Tryd.func3, Tryd.ntmps3
  go_wp2_with fail
  clear hch
  refine (SZ.out _ HB01.out).mono ?_
  rintro e w2 ⟨n, rfl, hn0, hn1, hsm, hb2⟩
  have HB2 : Hid (Below w1.heap.size w1 w2) := hb2
  clear q0 q1 q2 q3 hb2 SZ
  obtain ⟨⟨q0, q1, q2, q3⟩, _⟩ := cells4 (blk_below HB2.out H0.out)
  by_cases hbig : (3000 : Int) ≤ n
  · clear hsm
    go_wp2_with fail
    go_ret
    exact ⟨rfl, HUP.out _ HB2.out⟩
  have HSM : Hid (LaySmall l) := hsm (by omega)
  have hn3 : n3 < 3000 := by have := HSM.out.r.1; have := HLR.out; have := HS.out.2.2; omega
  clear hsm
  have D := IS.out HSM.out w2 (HUP.out _ HB2.out)
  have HBI : Hid (isB l = isB l) := rfl
  generalize hbl : isB l = b at D
  have HBL : Hid (isB l = b) := hbl
  clear hbl HBI
  go_wp2_with fail
  refine D.mono ?_
  rintro e w3 ⟨rfl, hb3⟩
  have HB3 : Hid (Below w1.heap.size w1 w3) := HB2.out.trans (hb3.mono HB2.out.size)
  clear q0 q1 q2 q3 hb3 D IS
  obtain ⟨⟨q0, q1, q2, q3⟩, _⟩ := cells4 (blk_below HB3.out H0.out)
  cases b
  · go_wp2
    go_ret
    exact ⟨rfl, HUP.out _ HB3.out⟩
  by_cases k0 : r < 0
  · go_wp2
    go_ret
    exact ⟨rfl, HUP.out _ HB3.out⟩
  by_cases k1 : (n3 : Int) ≤ r
  · go_wp2
    go_ret
    exact ⟨rfl, HUP.out _ HB3.out⟩
  by_cases k2 : s < 0
  · go_wp2
    go_ret
    exact ⟨rfl, HUP.out _ HB3.out⟩
  by_cases k3 : (n3 : Int) ≤ s
  · go_wp2
    go_ret
    exact ⟨rfl, HUP.out _ HB3.out⟩
  obtain ⟨R, rfl, hR⟩ := nat_of (n := n3) (i := r) ⟨by omega, by omega⟩
  obtain ⟨S, rfl, hS⟩ := nat_of (n := n3) (i := s) ⟨by omega, by omega⟩
  by_cases k4 : R = S
  · subst k4
    have hq : ((R : Int) == (R : Int)) = true := by simp
    go_wp2
    go_ret
    exact ⟨rfl, HUP.out _ HB3.out⟩
  have hq : ((R : Int) == (S : Int)) = false := by simp; omega
  obtain ⟨x, hx⟩ : ∃ x, rs[R]? = some x := at_of (by rw [HS.out.2.2]; exact hR)
  obtain ⟨y, hy⟩ : ∃ y, rs[S]? = some y := at_of (by rw [HS.out.2.2]; exact hS)
  have HX : Hid (rs[R]? = some x ∧ rs[S]? = some y ∧ R ≠ S) := ⟨hx, hy, k4⟩
  clear hx hy k4
  have D := NEW.out HSM.out HBL.out w3 (HUP.out _ HB3.out)
  go_wp2_with fail
  refine D.mono ?_
  rintro e wx ⟨kb, rfl, hk, hb4⟩
  have HBX : Hid (Below w1.heap.size w1 wx) := HB3.out.trans (hb4.mono HB3.out.size)
  have HKX : Hid (LkG w wx l rs kb (id0 rs)) := hk
  clear q0 q1 q2 q3 hb4 hk D NEW k0 k1 k2 k3 hq hbig hn0 hn1
  obtain ⟨⟨q0, q1, q2, q3⟩, _⟩ := cells4 (blk_below HBX.out H0.out)
  have hn01 : n0 ≤ 1000 ∧ n1 ≤ 1000 := by have := LayOk.of HBL.out; have a := this.sec; have b := this.pts; have := HS.out; omega
  have MB : Hid (∀ w : World, (Instr.makeSlice 33 (.int .i64 (n0 : Int)) (.int .i64 (n0 : Int))).run Tryd.prog w = .ok (.slice (some ⟨w.heap.size, 0, none⟩) n0 n0) (w.alloc (.cells ((List.replicate n0 false).map Value.bool).toArray 4))) := fun w => mk_bool n0 hn01.1 w
  have MI : Hid (∀ w : World, (Instr.makeSlice 34 (.int .i64 (n1 : Int)) (.int .i64 (n1 : Int))).run Tryd.prog w = .ok (.slice (some ⟨w.heap.size, 0, none⟩) n1 n1) (w.alloc (.cells ((List.replicate n1 (0 : Int)).map (Value.int .i64)).toArray 3))) := fun w => mk_int n1 hn01.2 w
  go_upto_region 6 with fail
  go_cut [9] from 60 to 69 (fun s wc => ∃ bo gb gi, s = .pointer (some ⟨bo, 0, none⟩) ∧ InB wc bo gb gi n0 n1 ∧ Below wx.heap.size wx wc)
  case first =>
    have y0 := ext_cell q0
    have y1 := ext_cell q1
    haveI := ext_some wx
    have HT : Hid (Below wx.heap.size wx wx.drew) := (Below.refl _ _).drew
    clear q0 q1 q2 q3
    obtain ⟨CB, hCB⟩ : ∃ CB, CB = Obj.cells ((List.replicate n0 false).map Value.bool).toArray 4 := ⟨_, rfl⟩
    obtain ⟨CI, hCI⟩ : ∃ CI, CI = Obj.cells ((List.replicate n1 (0 : Int)).map (Value.int .i64)).toArray 3 := ⟨_, rfl⟩
    obtain ⟨CX, hCX⟩ : ∃ CX, CX = Obj.cells #[.slice none 0 0, .slice none 0 0] 36 := ⟨_, rfl⟩
    have HCB : Hid (CB = Obj.cells ((List.replicate n0 false).map Value.bool).toArray 4) := hCB
    have HCI : Hid (CI = Obj.cells ((List.replicate n1 (0 : Int)).map (Value.int .i64)).toArray 3) := hCI
    have HCX : Hid (CX = Obj.cells #[.slice none 0 0, .slice none 0 0] 36) := hCX
    rw [← hCB] at MB
    rw [← hCI] at MI
    clear hCB hCI hCX
    refine wp_region_tree (C := fun W => ∃ y : Ext wx, W = y.z) [0, 1, 2, 3, 4, 5, 6, 7, 8, 9] (by kernel_rfl) (by kernel_rfl) rfl rfl ⟨⟨_, (Below.refl _ _).drew⟩, rfl⟩ ?_
    generalize wx.drew = w3 at *
    refine tree_seq [0, 1, 2, 4, 5, 6] (by kernel_rfl) (by kernel_rfl) (show 11 = 5 + 6 from rfl) (by kernel_rfl) (by simp only [List.filterMap_cons, List.getElem?_toArray, List.getElem?_cons_zero, List.getElem?_cons_succ, List.filterMap_nil]; rfl) rfl ?_
    (repeat (first | (with_reducible refine mix_read (by kernel_rfl) ?_; go_big_quiet_want; go_big_quiet_op; go_big_quiet_on; with_reducible refine wpQuiet_nil ?_) | (with_reducible refine mix_pass (by kernel_rfl) ?_; go_big_quiet_skip; with_reducible refine wpQuiet_nil ?_)))
    with_reducible refine mix_end ?_
    clear y0 y1
    refine tree_three 3 7 9 (show 5 = 4 + 1 from rfl) (by kernel_rfl) (by kernel_rfl) (by simp only [List.getElem?_toArray, List.getElem?_cons_zero, List.getElem?_cons_succ]; rfl) (by simp only [List.getElem?_toArray, List.getElem?_cons_zero, List.getElem?_cons_succ]; rfl) (by simp only [List.getElem?_toArray, List.getElem?_cons_zero, List.getElem?_cons_succ]; rfl) rfl rfl rfl ?_ ?_ ?_
    · skip
      have HC1 : Hid (Below wx.heap.size wx (w3.alloc CB)) := HT.out.alloc HT.out.size _
      refine mix_does (by kernel_rfl) (by kernel_rfl) (run_does (MB.out w3)) ⟨⟨_, HC1.out⟩, rfl⟩ ?_
      simp only [Act.put, List.setIfInBounds_toArray, List.set_cons_zero, List.set_cons_succ]
      with_reducible refine mix_end ?_
      refine tree_two 7 9 (show 4 = 3 + 1 from rfl) (by kernel_rfl) (by kernel_rfl) (by simp only [List.getElem?_toArray, List.getElem?_cons_zero, List.getElem?_cons_succ]; rfl) (by simp only [List.getElem?_toArray, List.getElem?_cons_zero, List.getElem?_cons_succ]; rfl) rfl rfl ?_ ?_
      · skip
        have HC2 : Hid (Below wx.heap.size wx ((w3.alloc CB).alloc CI)) := HC1.out.alloc HC1.out.size _
        refine mix_does (by kernel_rfl) (by kernel_rfl) (run_does (MI.out (w3.alloc CB))) ⟨⟨_, HC2.out⟩, rfl⟩ ?_
        simp only [Act.put, List.setIfInBounds_toArray, List.set_cons_zero, List.set_cons_succ]
        with_reducible refine mix_end ?_
        refine tree_seq [8] (by kernel_rfl) (by kernel_rfl) (show 3 = 2 + 1 from rfl) (by kernel_rfl) (by simp only [List.filterMap_cons, List.getElem?_toArray, List.getElem?_cons_zero, List.getElem?_cons_succ, List.filterMap_nil]; rfl) rfl ?_
        (repeat (first | (with_reducible refine mix_read (by kernel_rfl) ?_; go_big_quiet_want; go_big_quiet_op; go_big_quiet_on; with_reducible refine wpQuiet_nil ?_) | (with_reducible refine mix_pass (by kernel_rfl) ?_; go_big_quiet_skip; with_reducible refine wpQuiet_nil ?_)))
        with_reducible refine mix_end ?_
        refine tree_seq [9] (by kernel_rfl) (by kernel_rfl) (show 2 = 1 + 1 from rfl) (by kernel_rfl) (by simp only [List.filterMap_cons, List.getElem?_toArray, List.getElem?_cons_zero, List.getElem?_cons_succ, List.filterMap_nil]; rfl) rfl ?_
        have HC3 : Hid (Below wx.heap.size wx (((w3.alloc CB).alloc CI).alloc CX)) := HC2.out.alloc HC2.out.size _
        refine mix_does (v := .pointer (some ⟨((w3.alloc CB).alloc CI).heap.size, 0, none⟩)) (w' := (((w3.alloc CB).alloc CI).alloc CX)) (by kernel_rfl) (by kernel_rfl) (by rw [HCX.out]; kernel_rfl) ⟨⟨_, HC3.out⟩, rfl⟩ ?_
        simp only [Act.put, List.setIfInBounds_toArray, List.set_cons_zero, List.set_cons_succ]
        with_reducible refine mix_end ?_
        have K0 : Hid ((((w3.alloc CB).alloc CI).alloc CX).heap[w3.heap.size]? = some CB ∧ (((w3.alloc CB).alloc CI).alloc CX).heap[(w3.alloc CB).heap.size]? = some CI ∧ (((w3.alloc CB).alloc CI).alloc CX).heap[((w3.alloc CB).alloc CI).heap.size]? = some CX) := ⟨blk_old (blk_old (blk_new _ _)), blk_old (blk_new _ _), blk_new _ _⟩
        have K2 : Hid (wx.heap.size ≤ w3.heap.size) := HT.out.size
        clear HC1 HC2 MB MI
        generalize hwz : (((w3.alloc CB).alloc CI).alloc CX) = wz at *
        clear hwz
        simp only [World.size_alloc] at K0 ⊢
        generalize w3.heap.size = s0 at *
        refine tree_end [10] rfl (by kernel_rfl) (by simp only [List.filterMap_cons, List.getElem?_toArray, List.getElem?_cons_zero, List.getElem?_cons_succ, List.filterMap_nil]; rfl) ?_
        have hX : wz.heap[(s0 + 1 + 1)]? = some (.cells #[.slice none 0 0, .slice none 0 0] 36 (0, 0)) := by rw [K0.out.2.2, HCX.out]
        obtain ⟨c0, c1⟩ := cells2 hX
        have d0 := froz2 hX 0
        have d1 := froz2 hX 1
        have hb : s0 ≠ (s0 + 1 + 1) := by omega
        have hi : (s0 + 1) ≠ (s0 + 1 + 1) := by omega
        have HR : Hid (∃ bo gb gi, (.pointer (some ⟨(s0 + 1 + 1), 0, none⟩) : Value) = .pointer (some ⟨bo, 0, none⟩) ∧ InB ((wz.setCell ⟨(s0 + 1 + 1), 0, none⟩ (.slice (some ⟨s0, 0, none⟩) n0 n0)).setCell ⟨(s0 + 1 + 1), 1, none⟩ (.slice (some ⟨(s0 + 1), 0, none⟩) n1 n1)) bo gb gi n0 n1 ∧ Below wx.heap.size wx ((wz.setCell ⟨(s0 + 1 + 1), 0, none⟩ (.slice (some ⟨s0, 0, none⟩) n0 n0)).setCell ⟨(s0 + 1 + 1), 1, none⟩ (.slice (some ⟨(s0 + 1), 0, none⟩) n1 n1))) := by
          refine ⟨(s0 + 1 + 1), s0, (s0 + 1), rfl, ⟨set2 hX _ _, ?_, ?_⟩, (HC3.out.setCell (by have := K2.out; show wx.heap.size ≤ (s0 + 1 + 1); omega) _).setCell (by have := K2.out; show wx.heap.size ≤ (s0 + 1 + 1); omega) _⟩
          · rw [Below.heap_setCell _ _ _ _ (by exact hb), Below.heap_setCell _ _ _ _ (by exact hb), K0.out.1, HCB.out]
          · rw [Below.heap_setCell _ _ _ _ (by exact hi), Below.heap_setCell _ _ _ _ (by exact hi), K0.out.2.1, HCI.out]
        clear hX hb hi K0 K2 HC3
        go_wp2_with fail
        go_meet
        case rel => exact HR.out
      · skip
        have HC2 : Hid (Below wx.heap.size wx ((w3.alloc CB).alloc CX)) := HC1.out.alloc HC1.out.size _
        refine mix_does (v := .pointer (some ⟨(w3.alloc CB).heap.size, 0, none⟩)) (w' := ((w3.alloc CB).alloc CX)) (by kernel_rfl) (by kernel_rfl) (by rw [HCX.out]; kernel_rfl) ⟨⟨_, HC2.out⟩, rfl⟩ ?_
        simp only [Act.put, List.setIfInBounds_toArray, List.set_cons_zero, List.set_cons_succ]
        with_reducible refine mix_end ?_
        refine tree_seq [7] (by kernel_rfl) (by kernel_rfl) (show 3 = 2 + 1 from rfl) (by kernel_rfl) (by simp only [List.filterMap_cons, List.getElem?_toArray, List.getElem?_cons_zero, List.getElem?_cons_succ, List.filterMap_nil]; rfl) rfl ?_
        have HC3 : Hid (Below wx.heap.size wx (((w3.alloc CB).alloc CX).alloc CI)) := HC2.out.alloc HC2.out.size _
        refine mix_does (by kernel_rfl) (by kernel_rfl) (run_does (MI.out ((w3.alloc CB).alloc CX))) ⟨⟨_, HC3.out⟩, rfl⟩ ?_
        simp only [Act.put, List.setIfInBounds_toArray, List.set_cons_zero, List.set_cons_succ]
        with_reducible refine mix_end ?_
        refine tree_seq [8] (by kernel_rfl) (by kernel_rfl) (show 2 = 1 + 1 from rfl) (by kernel_rfl) (by simp only [List.filterMap_cons, List.getElem?_toArray, List.getElem?_cons_zero, List.getElem?_cons_succ, List.filterMap_nil]; rfl) rfl ?_
        (repeat (first | (with_reducible refine mix_read (by kernel_rfl) ?_; go_big_quiet_want; go_big_quiet_op; go_big_quiet_on; with_reducible refine wpQuiet_nil ?_) | (with_reducible refine mix_pass (by kernel_rfl) ?_; go_big_quiet_skip; with_reducible refine wpQuiet_nil ?_)))
        with_reducible refine mix_end ?_
        have K0 : Hid ((((w3.alloc CB).alloc CX).alloc CI).heap[w3.heap.size]? = some CB ∧ (((w3.alloc CB).alloc CX).alloc CI).heap[(w3.alloc CB).heap.size]? = some CX ∧ (((w3.alloc CB).alloc CX).alloc CI).heap[((w3.alloc CB).alloc CX).heap.size]? = some CI) := ⟨blk_old (blk_old (blk_new _ _)), blk_old (blk_new _ _), blk_new _ _⟩
        have K2 : Hid (wx.heap.size ≤ w3.heap.size) := HT.out.size
        clear HC1 HC2 MB MI
        generalize hwz : (((w3.alloc CB).alloc CX).alloc CI) = wz at *
        clear hwz
        simp only [World.size_alloc] at K0 ⊢
        generalize w3.heap.size = s0 at *
        refine tree_end [10] rfl (by kernel_rfl) (by simp only [List.filterMap_cons, List.getElem?_toArray, List.getElem?_cons_zero, List.getElem?_cons_succ, List.filterMap_nil]; rfl) ?_
        have hX : wz.heap[(s0 + 1)]? = some (.cells #[.slice none 0 0, .slice none 0 0] 36 (0, 0)) := by rw [K0.out.2.1, HCX.out]
        obtain ⟨c0, c1⟩ := cells2 hX
        have d0 := froz2 hX 0
        have d1 := froz2 hX 1
        have hb : s0 ≠ (s0 + 1) := by omega
        have hi : (s0 + 1 + 1) ≠ (s0 + 1) := by omega
        have HR : Hid (∃ bo gb gi, (.pointer (some ⟨(s0 + 1), 0, none⟩) : Value) = .pointer (some ⟨bo, 0, none⟩) ∧ InB ((wz.setCell ⟨(s0 + 1), 0, none⟩ (.slice (some ⟨s0, 0, none⟩) n0 n0)).setCell ⟨(s0 + 1), 1, none⟩ (.slice (some ⟨(s0 + 1 + 1), 0, none⟩) n1 n1)) bo gb gi n0 n1 ∧ Below wx.heap.size wx ((wz.setCell ⟨(s0 + 1), 0, none⟩ (.slice (some ⟨s0, 0, none⟩) n0 n0)).setCell ⟨(s0 + 1), 1, none⟩ (.slice (some ⟨(s0 + 1 + 1), 0, none⟩) n1 n1))) := by
          refine ⟨(s0 + 1), s0, (s0 + 1 + 1), rfl, ⟨set2 hX _ _, ?_, ?_⟩, (HC3.out.setCell (by have := K2.out; show wx.heap.size ≤ (s0 + 1); omega) _).setCell (by have := K2.out; show wx.heap.size ≤ (s0 + 1); omega) _⟩
          · rw [Below.heap_setCell _ _ _ _ (by exact hb), Below.heap_setCell _ _ _ _ (by exact hb), K0.out.1, HCB.out]
          · rw [Below.heap_setCell _ _ _ _ (by exact hi), Below.heap_setCell _ _ _ _ (by exact hi), K0.out.2.2, HCI.out]
        clear hX hb hi K0 K2 HC3
        go_wp2_with fail
        go_meet
        case rel => exact HR.out
    · skip
      have HC1 : Hid (Below wx.heap.size wx (w3.alloc CI)) := HT.out.alloc HT.out.size _
      refine mix_does (by kernel_rfl) (by kernel_rfl) (run_does (MI.out w3)) ⟨⟨_, HC1.out⟩, rfl⟩ ?_
      simp only [Act.put, List.setIfInBounds_toArray, List.set_cons_zero, List.set_cons_succ]
      with_reducible refine mix_end ?_
      refine tree_two 3 9 (show 4 = 3 + 1 from rfl) (by kernel_rfl) (by kernel_rfl) (by simp only [List.getElem?_toArray, List.getElem?_cons_zero, List.getElem?_cons_succ]; rfl) (by simp only [List.getElem?_toArray, List.getElem?_cons_zero, List.getElem?_cons_succ]; rfl) rfl rfl ?_ ?_
      · skip
        have HC2 : Hid (Below wx.heap.size wx ((w3.alloc CI).alloc CB)) := HC1.out.alloc HC1.out.size _
        refine mix_does (by kernel_rfl) (by kernel_rfl) (run_does (MB.out (w3.alloc CI))) ⟨⟨_, HC2.out⟩, rfl⟩ ?_
        simp only [Act.put, List.setIfInBounds_toArray, List.set_cons_zero, List.set_cons_succ]
        with_reducible refine mix_end ?_
        refine tree_seq [8] (by kernel_rfl) (by kernel_rfl) (show 3 = 2 + 1 from rfl) (by kernel_rfl) (by simp only [List.filterMap_cons, List.getElem?_toArray, List.getElem?_cons_zero, List.getElem?_cons_succ, List.filterMap_nil]; rfl) rfl ?_
        (repeat (first | (with_reducible refine mix_read (by kernel_rfl) ?_; go_big_quiet_want; go_big_quiet_op; go_big_quiet_on; with_reducible refine wpQuiet_nil ?_) | (with_reducible refine mix_pass (by kernel_rfl) ?_; go_big_quiet_skip; with_reducible refine wpQuiet_nil ?_)))
        with_reducible refine mix_end ?_
        refine tree_seq [9] (by kernel_rfl) (by kernel_rfl) (show 2 = 1 + 1 from rfl) (by kernel_rfl) (by simp only [List.filterMap_cons, List.getElem?_toArray, List.getElem?_cons_zero, List.getElem?_cons_succ, List.filterMap_nil]; rfl) rfl ?_
        have HC3 : Hid (Below wx.heap.size wx (((w3.alloc CI).alloc CB).alloc CX)) := HC2.out.alloc HC2.out.size _
        refine mix_does (v := .pointer (some ⟨((w3.alloc CI).alloc CB).heap.size, 0, none⟩)) (w' := (((w3.alloc CI).alloc CB).alloc CX)) (by kernel_rfl) (by kernel_rfl) (by rw [HCX.out]; kernel_rfl) ⟨⟨_, HC3.out⟩, rfl⟩ ?_
        simp only [Act.put, List.setIfInBounds_toArray, List.set_cons_zero, List.set_cons_succ]
        with_reducible refine mix_end ?_
        have K0 : Hid ((((w3.alloc CI).alloc CB).alloc CX).heap[w3.heap.size]? = some CI ∧ (((w3.alloc CI).alloc CB).alloc CX).heap[(w3.alloc CI).heap.size]? = some CB ∧ (((w3.alloc CI).alloc CB).alloc CX).heap[((w3.alloc CI).alloc CB).heap.size]? = some CX) := ⟨blk_old (blk_old (blk_new _ _)), blk_old (blk_new _ _), blk_new _ _⟩
        have K2 : Hid (wx.heap.size ≤ w3.heap.size) := HT.out.size
        clear HC1 HC2 MB MI
        generalize hwz : (((w3.alloc CI).alloc CB).alloc CX) = wz at *
        clear hwz
        simp only [World.size_alloc] at K0 ⊢
        generalize w3.heap.size = s0 at *
        refine tree_end [10] rfl (by kernel_rfl) (by simp only [List.filterMap_cons, List.getElem?_toArray, List.getElem?_cons_zero, List.getElem?_cons_succ, List.filterMap_nil]; rfl) ?_
        have hX : wz.heap[(s0 + 1 + 1)]? = some (.cells #[.slice none 0 0, .slice none 0 0] 36 (0, 0)) := by rw [K0.out.2.2, HCX.out]
        obtain ⟨c0, c1⟩ := cells2 hX
        have d0 := froz2 hX 0
        have d1 := froz2 hX 1
        have hb : (s0 + 1) ≠ (s0 + 1 + 1) := by omega
        have hi : s0 ≠ (s0 + 1 + 1) := by omega
        have HR : Hid (∃ bo gb gi, (.pointer (some ⟨(s0 + 1 + 1), 0, none⟩) : Value) = .pointer (some ⟨bo, 0, none⟩) ∧ InB ((wz.setCell ⟨(s0 + 1 + 1), 0, none⟩ (.slice (some ⟨(s0 + 1), 0, none⟩) n0 n0)).setCell ⟨(s0 + 1 + 1), 1, none⟩ (.slice (some ⟨s0, 0, none⟩) n1 n1)) bo gb gi n0 n1 ∧ Below wx.heap.size wx ((wz.setCell ⟨(s0 + 1 + 1), 0, none⟩ (.slice (some ⟨(s0 + 1), 0, none⟩) n0 n0)).setCell ⟨(s0 + 1 + 1), 1, none⟩ (.slice (some ⟨s0, 0, none⟩) n1 n1))) := by
          refine ⟨(s0 + 1 + 1), (s0 + 1), s0, rfl, ⟨set2 hX _ _, ?_, ?_⟩, (HC3.out.setCell (by have := K2.out; show wx.heap.size ≤ (s0 + 1 + 1); omega) _).setCell (by have := K2.out; show wx.heap.size ≤ (s0 + 1 + 1); omega) _⟩
          · rw [Below.heap_setCell _ _ _ _ (by exact hb), Below.heap_setCell _ _ _ _ (by exact hb), K0.out.2.1, HCB.out]
          · rw [Below.heap_setCell _ _ _ _ (by exact hi), Below.heap_setCell _ _ _ _ (by exact hi), K0.out.1, HCI.out]
        clear hX hb hi K0 K2 HC3
        go_wp2_with fail
        go_meet
        case rel => exact HR.out
      · skip
        have HC2 : Hid (Below wx.heap.size wx ((w3.alloc CI).alloc CX)) := HC1.out.alloc HC1.out.size _
        refine mix_does (v := .pointer (some ⟨(w3.alloc CI).heap.size, 0, none⟩)) (w' := ((w3.alloc CI).alloc CX)) (by kernel_rfl) (by kernel_rfl) (by rw [HCX.out]; kernel_rfl) ⟨⟨_, HC2.out⟩, rfl⟩ ?_
        simp only [Act.put, List.setIfInBounds_toArray, List.set_cons_zero, List.set_cons_succ]
        with_reducible refine mix_end ?_
        refine tree_seq [3] (by kernel_rfl) (by kernel_rfl) (show 3 = 2 + 1 from rfl) (by kernel_rfl) (by simp only [List.filterMap_cons, List.getElem?_toArray, List.getElem?_cons_zero, List.getElem?_cons_succ, List.filterMap_nil]; rfl) rfl ?_
        have HC3 : Hid (Below wx.heap.size wx (((w3.alloc CI).alloc CX).alloc CB)) := HC2.out.alloc HC2.out.size _
        refine mix_does (by kernel_rfl) (by kernel_rfl) (run_does (MB.out ((w3.alloc CI).alloc CX))) ⟨⟨_, HC3.out⟩, rfl⟩ ?_
        simp only [Act.put, List.setIfInBounds_toArray, List.set_cons_zero, List.set_cons_succ]
        with_reducible refine mix_end ?_
        refine tree_seq [8] (by kernel_rfl) (by kernel_rfl) (show 2 = 1 + 1 from rfl) (by kernel_rfl) (by simp only [List.filterMap_cons, List.getElem?_toArray, List.getElem?_cons_zero, List.getElem?_cons_succ, List.filterMap_nil]; rfl) rfl ?_
        (repeat (first | (with_reducible refine mix_read (by kernel_rfl) ?_; go_big_quiet_want; go_big_quiet_op; go_big_quiet_on; with_reducible refine wpQuiet_nil ?_) | (with_reducible refine mix_pass (by kernel_rfl) ?_; go_big_quiet_skip; with_reducible refine wpQuiet_nil ?_)))
        with_reducible refine mix_end ?_
        have K0 : Hid ((((w3.alloc CI).alloc CX).alloc CB).heap[w3.heap.size]? = some CI ∧ (((w3.alloc CI).alloc CX).alloc CB).heap[(w3.alloc CI).heap.size]? = some CX ∧ (((w3.alloc CI).alloc CX).alloc CB).heap[((w3.alloc CI).alloc CX).heap.size]? = some CB) := ⟨blk_old (blk_old (blk_new _ _)), blk_old (blk_new _ _), blk_new _ _⟩
        have K2 : Hid (wx.heap.size ≤ w3.heap.size) := HT.out.size
        clear HC1 HC2 MB MI
        generalize hwz : (((w3.alloc CI).alloc CX).alloc CB) = wz at *
        clear hwz
        simp only [World.size_alloc] at K0 ⊢
        generalize w3.heap.size = s0 at *
        refine tree_end [10] rfl (by kernel_rfl) (by simp only [List.filterMap_cons, List.getElem?_toArray, List.getElem?_cons_zero, List.getElem?_cons_succ, List.filterMap_nil]; rfl) ?_
        have hX : wz.heap[(s0 + 1)]? = some (.cells #[.slice none 0 0, .slice none 0 0] 36 (0, 0)) := by rw [K0.out.2.1, HCX.out]
        obtain ⟨c0, c1⟩ := cells2 hX
        have d0 := froz2 hX 0
        have d1 := froz2 hX 1
        have hb : (s0 + 1 + 1) ≠ (s0 + 1) := by omega
        have hi : s0 ≠ (s0 + 1) := by omega
        have HR : Hid (∃ bo gb gi, (.pointer (some ⟨(s0 + 1), 0, none⟩) : Value) = .pointer (some ⟨bo, 0, none⟩) ∧ InB ((wz.setCell ⟨(s0 + 1), 0, none⟩ (.slice (some ⟨(s0 + 1 + 1), 0, none⟩) n0 n0)).setCell ⟨(s0 + 1), 1, none⟩ (.slice (some ⟨s0, 0, none⟩) n1 n1)) bo gb gi n0 n1 ∧ Below wx.heap.size wx ((wz.setCell ⟨(s0 + 1), 0, none⟩ (.slice (some ⟨(s0 + 1 + 1), 0, none⟩) n0 n0)).setCell ⟨(s0 + 1), 1, none⟩ (.slice (some ⟨s0, 0, none⟩) n1 n1))) := by
          refine ⟨(s0 + 1), (s0 + 1 + 1), s0, rfl, ⟨set2 hX _ _, ?_, ?_⟩, (HC3.out.setCell (by have := K2.out; show wx.heap.size ≤ (s0 + 1); omega) _).setCell (by have := K2.out; show wx.heap.size ≤ (s0 + 1); omega) _⟩
          · rw [Below.heap_setCell _ _ _ _ (by exact hb), Below.heap_setCell _ _ _ _ (by exact hb), K0.out.2.2, HCB.out]
          · rw [Below.heap_setCell _ _ _ _ (by exact hi), Below.heap_setCell _ _ _ _ (by exact hi), K0.out.1, HCI.out]
        clear hX hb hi K0 K2 HC3
        go_wp2_with fail
        go_meet
        case rel => exact HR.out
    · skip
      have HC1 : Hid (Below wx.heap.size wx (w3.alloc CX)) := HT.out.alloc HT.out.size _
      refine mix_does (v := .pointer (some ⟨w3.heap.size, 0, none⟩)) (w' := (w3.alloc CX)) (by kernel_rfl) (by kernel_rfl) (by rw [HCX.out]; kernel_rfl) ⟨⟨_, HC1.out⟩, rfl⟩ ?_
      simp only [Act.put, List.setIfInBounds_toArray, List.set_cons_zero, List.set_cons_succ]
      with_reducible refine mix_end ?_
      refine tree_two 3 7 (show 4 = 3 + 1 from rfl) (by kernel_rfl) (by kernel_rfl) (by simp only [List.getElem?_toArray, List.getElem?_cons_zero, List.getElem?_cons_succ]; rfl) (by simp only [List.getElem?_toArray, List.getElem?_cons_zero, List.getElem?_cons_succ]; rfl) rfl rfl ?_ ?_
      · skip
        have HC2 : Hid (Below wx.heap.size wx ((w3.alloc CX).alloc CB)) := HC1.out.alloc HC1.out.size _
        refine mix_does (by kernel_rfl) (by kernel_rfl) (run_does (MB.out (w3.alloc CX))) ⟨⟨_, HC2.out⟩, rfl⟩ ?_
        simp only [Act.put, List.setIfInBounds_toArray, List.set_cons_zero, List.set_cons_succ]
        with_reducible refine mix_end ?_
        refine tree_seq [7] (by kernel_rfl) (by kernel_rfl) (show 3 = 2 + 1 from rfl) (by kernel_rfl) (by simp only [List.filterMap_cons, List.getElem?_toArray, List.getElem?_cons_zero, List.getElem?_cons_succ, List.filterMap_nil]; rfl) rfl ?_
        have HC3 : Hid (Below wx.heap.size wx (((w3.alloc CX).alloc CB).alloc CI)) := HC2.out.alloc HC2.out.size _
        refine mix_does (by kernel_rfl) (by kernel_rfl) (run_does (MI.out ((w3.alloc CX).alloc CB))) ⟨⟨_, HC3.out⟩, rfl⟩ ?_
        simp only [Act.put, List.setIfInBounds_toArray, List.set_cons_zero, List.set_cons_succ]
        with_reducible refine mix_end ?_
        refine tree_seq [8] (by kernel_rfl) (by kernel_rfl) (show 2 = 1 + 1 from rfl) (by kernel_rfl) (by simp only [List.filterMap_cons, List.getElem?_toArray, List.getElem?_cons_zero, List.getElem?_cons_succ, List.filterMap_nil]; rfl) rfl ?_
        (repeat (first | (with_reducible refine mix_read (by kernel_rfl) ?_; go_big_quiet_want; go_big_quiet_op; go_big_quiet_on; with_reducible refine wpQuiet_nil ?_) | (with_reducible refine mix_pass (by kernel_rfl) ?_; go_big_quiet_skip; with_reducible refine wpQuiet_nil ?_)))
        with_reducible refine mix_end ?_
        have K0 : Hid ((((w3.alloc CX).alloc CB).alloc CI).heap[w3.heap.size]? = some CX ∧ (((w3.alloc CX).alloc CB).alloc CI).heap[(w3.alloc CX).heap.size]? = some CB ∧ (((w3.alloc CX).alloc CB).alloc CI).heap[((w3.alloc CX).alloc CB).heap.size]? = some CI) := ⟨blk_old (blk_old (blk_new _ _)), blk_old (blk_new _ _), blk_new _ _⟩
        have K2 : Hid (wx.heap.size ≤ w3.heap.size) := HT.out.size
        clear HC1 HC2 MB MI
        generalize hwz : (((w3.alloc CX).alloc CB).alloc CI) = wz at *
        clear hwz
        simp only [World.size_alloc] at K0 ⊢
        generalize w3.heap.size = s0 at *
        refine tree_end [10] rfl (by kernel_rfl) (by simp only [List.filterMap_cons, List.getElem?_toArray, List.getElem?_cons_zero, List.getElem?_cons_succ, List.filterMap_nil]; rfl) ?_
        have hX : wz.heap[s0]? = some (.cells #[.slice none 0 0, .slice none 0 0] 36 (0, 0)) := by rw [K0.out.1, HCX.out]
        obtain ⟨c0, c1⟩ := cells2 hX
        have d0 := froz2 hX 0
        have d1 := froz2 hX 1
        have hb : (s0 + 1) ≠ s0 := by omega
        have hi : (s0 + 1 + 1) ≠ s0 := by omega
        have HR : Hid (∃ bo gb gi, (.pointer (some ⟨s0, 0, none⟩) : Value) = .pointer (some ⟨bo, 0, none⟩) ∧ InB ((wz.setCell ⟨s0, 0, none⟩ (.slice (some ⟨(s0 + 1), 0, none⟩) n0 n0)).setCell ⟨s0, 1, none⟩ (.slice (some ⟨(s0 + 1 + 1), 0, none⟩) n1 n1)) bo gb gi n0 n1 ∧ Below wx.heap.size wx ((wz.setCell ⟨s0, 0, none⟩ (.slice (some ⟨(s0 + 1), 0, none⟩) n0 n0)).setCell ⟨s0, 1, none⟩ (.slice (some ⟨(s0 + 1 + 1), 0, none⟩) n1 n1))) := by
          refine ⟨s0, (s0 + 1), (s0 + 1 + 1), rfl, ⟨set2 hX _ _, ?_, ?_⟩, (HC3.out.setCell (by have := K2.out; show wx.heap.size ≤ s0; omega) _).setCell (by have := K2.out; show wx.heap.size ≤ s0; omega) _⟩
          · rw [Below.heap_setCell _ _ _ _ (by exact hb), Below.heap_setCell _ _ _ _ (by exact hb), K0.out.2.1, HCB.out]
          · rw [Below.heap_setCell _ _ _ _ (by exact hi), Below.heap_setCell _ _ _ _ (by exact hi), K0.out.2.2, HCI.out]
        clear hX hb hi K0 K2 HC3
        go_wp2_with fail
        go_meet
        case rel => exact HR.out
      · skip
        have HC2 : Hid (Below wx.heap.size wx ((w3.alloc CX).alloc CI)) := HC1.out.alloc HC1.out.size _
        refine mix_does (by kernel_rfl) (by kernel_rfl) (run_does (MI.out (w3.alloc CX))) ⟨⟨_, HC2.out⟩, rfl⟩ ?_
        simp only [Act.put, List.setIfInBounds_toArray, List.set_cons_zero, List.set_cons_succ]
        with_reducible refine mix_end ?_
        refine tree_seq [3] (by kernel_rfl) (by kernel_rfl) (show 3 = 2 + 1 from rfl) (by kernel_rfl) (by simp only [List.filterMap_cons, List.getElem?_toArray, List.getElem?_cons_zero, List.getElem?_cons_succ, List.filterMap_nil]; rfl) rfl ?_
        have HC3 : Hid (Below wx.heap.size wx (((w3.alloc CX).alloc CI).alloc CB)) := HC2.out.alloc HC2.out.size _
        refine mix_does (by kernel_rfl) (by kernel_rfl) (run_does (MB.out ((w3.alloc CX).alloc CI))) ⟨⟨_, HC3.out⟩, rfl⟩ ?_
        simp only [Act.put, List.setIfInBounds_toArray, List.set_cons_zero, List.set_cons_succ]
        with_reducible refine mix_end ?_
        refine tree_seq [8] (by kernel_rfl) (by kernel_rfl) (show 2 = 1 + 1 from rfl) (by kernel_rfl) (by simp only [List.filterMap_cons, List.getElem?_toArray, List.getElem?_cons_zero, List.getElem?_cons_succ, List.filterMap_nil]; rfl) rfl ?_
        (repeat (first | (with_reducible refine mix_read (by kernel_rfl) ?_; go_big_quiet_want; go_big_quiet_op; go_big_quiet_on; with_reducible refine wpQuiet_nil ?_) | (with_reducible refine mix_pass (by kernel_rfl) ?_; go_big_quiet_skip; with_reducible refine wpQuiet_nil ?_)))
        with_reducible refine mix_end ?_
        have K0 : Hid ((((w3.alloc CX).alloc CI).alloc CB).heap[w3.heap.size]? = some CX ∧ (((w3.alloc CX).alloc CI).alloc CB).heap[(w3.alloc CX).heap.size]? = some CI ∧ (((w3.alloc CX).alloc CI).alloc CB).heap[((w3.alloc CX).alloc CI).heap.size]? = some CB) := ⟨blk_old (blk_old (blk_new _ _)), blk_old (blk_new _ _), blk_new _ _⟩
        have K2 : Hid (wx.heap.size ≤ w3.heap.size) := HT.out.size
        clear HC1 HC2 MB MI
        generalize hwz : (((w3.alloc CX).alloc CI).alloc CB) = wz at *
        clear hwz
        simp only [World.size_alloc] at K0 ⊢
        generalize w3.heap.size = s0 at *
        refine tree_end [10] rfl (by kernel_rfl) (by simp only [List.filterMap_cons, List.getElem?_toArray, List.getElem?_cons_zero, List.getElem?_cons_succ, List.filterMap_nil]; rfl) ?_
        have hX : wz.heap[s0]? = some (.cells #[.slice none 0 0, .slice none 0 0] 36 (0, 0)) := by rw [K0.out.1, HCX.out]
        obtain ⟨c0, c1⟩ := cells2 hX
        have d0 := froz2 hX 0
        have d1 := froz2 hX 1
        have hb : (s0 + 1 + 1) ≠ s0 := by omega
        have hi : (s0 + 1) ≠ s0 := by omega
        have HR : Hid (∃ bo gb gi, (.pointer (some ⟨s0, 0, none⟩) : Value) = .pointer (some ⟨bo, 0, none⟩) ∧ InB ((wz.setCell ⟨s0, 0, none⟩ (.slice (some ⟨(s0 + 1 + 1), 0, none⟩) n0 n0)).setCell ⟨s0, 1, none⟩ (.slice (some ⟨(s0 + 1), 0, none⟩) n1 n1)) bo gb gi n0 n1 ∧ Below wx.heap.size wx ((wz.setCell ⟨s0, 0, none⟩ (.slice (some ⟨(s0 + 1 + 1), 0, none⟩) n0 n0)).setCell ⟨s0, 1, none⟩ (.slice (some ⟨(s0 + 1), 0, none⟩) n1 n1))) := by
          refine ⟨s0, (s0 + 1 + 1), (s0 + 1), rfl, ⟨set2 hX _ _, ?_, ?_⟩, (HC3.out.setCell (by have := K2.out; show wx.heap.size ≤ s0; omega) _).setCell (by have := K2.out; show wx.heap.size ≤ s0; omega) _⟩
          · rw [Below.heap_setCell _ _ _ _ (by exact hb), Below.heap_setCell _ _ _ _ (by exact hb), K0.out.2.2, HCB.out]
          · rw [Below.heap_setCell _ _ _ _ (by exact hi), Below.heap_setCell _ _ _ _ (by exact hi), K0.out.2.1, HCI.out]
        clear hX hb hi K0 K2 HC3
        go_wp2_with fail
        go_meet
        case rel => exact HR.out
  case rest =>
    obtain ⟨bo, gb, gi, rfl, hin, hbc⟩ := hcut
    have HK0 : Hid (LkG w wc l rs kb (id0 rs)) := HKX.out.step hbc
    have HI0 : Hid (InB wc bo gb gi n0 n1) := hin
    have HL0 : Hid (wc.heap[w.heap.size]? = some (.cells #[.slice o0 n0 c0, .slice o1 n1 c1, .slice o2 n2 c2, .slice o3 n3 c3] 26 (0, 0))) := blk_below (HBX.out.trans (hbc.mono HBX.out.size)) H0.out
    have hne : confB R S x.1 y.1 = confB S R y.1 x.1 := conf_symm _ _ _ _
    have CON : Hid (∀ W, Below w.heap.size w W → Calls Tryd.prog 10 #[.agg #[.slice o0 n0 c0, .slice o1 n1 c1, .slice o2 n2 c2, .slice o3 n3 c3], .int .i64 R, .int .i64 S] W fun e w' => e = .returned (.bool (confB S R y.1 x.1)) ∧ Below W.heap.size W w') := by
      rw [← hne]
      exact CF.out HSM.out R S x y HX.out.1 HX.out.2.1
    have HO : Hid (occ0 l = List.replicate n0 false ∧ lie0 l = List.replicate n1 0) := by show _ ∧ _; rw [occ0, lie0, HS.out.1, HS.out.2.1]; exact ⟨rfl, rfl⟩
    have CMD : Hid (∀ W ss kind r, LkG w W l rs kb ss → InB W bo gb gi n0 n1 → Calls Tryd.prog 9 #[.pointer (some ⟨kb, 0, none⟩), .agg #[.slice (some ⟨gb, 0, none⟩) n0 n0, .slice (some ⟨gi, 0, none⟩) n1 n1], .agg #[.int .i64 kind, .int .i64 r]] W fun e w' => e = .returned (.int .i64 (cmdG l rs ss (occ0 l) (lie0 l) kind r).1) ∧ LkG w w' l rs kb (cmdG l rs ss (occ0 l) (lie0 l) kind r).2 ∧ TC W w') := fun W ss kind r hk hi => by
      rw [HO.out.1, HO.out.2]
      exact cmd_g w W l rs kb ss (v4 (.slice (some ⟨gb, 0, none⟩) n0 n0) (.slice (some ⟨gi, 0, none⟩) n1 n1) .nilIface .nilIface) _ _ kind r hk hi.rd (by rw [List.length_replicate]; omega)
    clear hin hbc hne CF HKX HBX MB MI q0 q1 q2 q3 hn01
    have C1 := call_one l rs HX.out.1
    have D := CMD.out wc (id0 rs) 1 R HK0.out HI0.out
    rw [C1] at D
    clear C1
    obtain ⟨z0, z1⟩ := cells2 HI0.out.x
    go_wp2_with fail
    refine D.mono ?_
    rintro e v1 ⟨rfl, hk, hc⟩
    have HK1 : Hid (LkG w v1 l rs kb (st1 rs R)) := hk
    have HI1 : Hid (InB v1 bo gb gi n0 n1) := HI0.out.tc hc
    have HL1 : Hid (v1.heap[w.heap.size]? = some (.cells #[.slice o0 n0 c0, .slice o1 n1 c1, .slice o2 n2 c2, .slice o3 n3 c3] 26 (0, 0))) := hc.blk HL0.out (by decide)
    clear hk hc D z0 z1
    have C2 := call_two l rs HX.out.1 HX.out.2.1 HX.out.2.2
    have D := CMD.out v1 (st1 rs R) 1 S HK1.out HI1.out
    obtain ⟨z0, z1⟩ := cells2 HI1.out.x
    cases hcf : confB S R y.1 x.1
    · have HAN : Hid ((cmdG l rs (st1 rs R) (occ0 l) (lie0 l) 1 S).1 = 8 ∨ (cmdG l rs (st1 rs R) (occ0 l) (lie0 l) 1 S).1 = 0) := C2.2
      rw [hcf] at CON
      clear C2 hcf
      generalize cmdG l rs (st1 rs R) (occ0 l) (lie0 l) 1 S = an at *
      go_wp2_with fail
      refine D.mono ?_
      rintro e v2 ⟨rfl, hk, hc⟩
      have HK2 : Hid (LkG w v2 l rs kb an.2) := hk
      have HL2 : Hid (v2.heap[w.heap.size]? = some (.cells #[.slice o0 n0 c0, .slice o1 n1 c1, .slice o2 n2 c2, .slice o3 n3 c3] 26 (0, 0))) := hc.blk HL1.out (by decide)
      clear hk hc D z0 z1
      obtain ⟨⟨q0, q1, q2, q3⟩, _⟩ := cells4 HL2.out
      have D := CON.out v2 HK2.out.bl
      obtain ⟨an1, an2⟩ := an
      rcases HAN.out with e8 | e8
      all_goals
        simp only at e8
        subst e8
        go_wp2_with fail
        refine D.mono ?_
        rintro e v3 ⟨rfl, hb⟩
        have HK3 : Hid (LkG w v3 l rs kb an2) := HK2.out.step hb
        clear hb q0 q1 q2 q3
        go_wp2_with fail
        refine (known_any _).mono ?_
        rintro e v4 ⟨rfl, hb⟩
        go_wp2
        go_ret
        exact ⟨rfl, HK3.out.bl.trans (hb.mono HK3.out.bl.size)⟩
    · rw [C2.1 hcf] at D
      rw [hcf] at CON
      clear C2 hcf
      go_wp2_with fail
      refine D.mono ?_
      rintro e v2 ⟨rfl, hk, hc⟩
      have HK2 : Hid (LkG w v2 l rs kb (st1 rs R)) := hk
      have HI2 : Hid (InB v2 bo gb gi n0 n1) := HI1.out.tc hc
      have HL2 : Hid (v2.heap[w.heap.size]? = some (.cells #[.slice o0 n0 c0, .slice o1 n1 c1, .slice o2 n2 c2, .slice o3 n3 c3] 26 (0, 0))) := hc.blk HL1.out (by decide)
      clear hk hc D z0 z1
      obtain ⟨⟨q0, q1, q2, q3⟩, _⟩ := cells4 HL2.out
      have D := CON.out v2 HK2.out.bl
      go_wp2_with fail
      refine D.mono ?_
      rintro e v3 ⟨rfl, hb⟩
      have HK3 : Hid (LkG w v3 l rs kb (st1 rs R)) := HK2.out.step hb
      have HI3 : Hid (InB v3 bo gb gi n0 n1) := HI2.out.tc (TC.of_below hb)
      clear hb q0 q1 q2 q3 D
      have C3 := cancel_one l rs HX.out.1
      have D := CMD.out v3 (st1 rs R) 2 R HK3.out HI3.out
      rw [C3] at D
      clear C3
      obtain ⟨z0, z1⟩ := cells2 HI3.out.x
      go_wp2_with fail
      refine D.mono ?_
      rintro e v4 ⟨rfl, hk, hc⟩
      have HK4 : Hid (LkG w v4 l rs kb (id0 rs)) := hk
      have HI4 : Hid (InB v4 bo gb gi n0 n1) := HI3.out.tc hc
      clear hk hc D z0 z1
      have C4 := call_one l rs HX.out.2.1
      have D := CMD.out v4 (id0 rs) 1 S HK4.out HI4.out
      rw [C4] at D
      clear C4
      obtain ⟨z0, z1⟩ := cells2 HI4.out.x
      go_wp2_with fail
      refine D.mono ?_
      rintro e v5 ⟨rfl, hk, hc⟩
      have HK5 : Hid (LkG w v5 l rs kb (st1 rs S)) := hk
      clear hk hc D z0 z1
      go_wp2_with fail
      refine (known_any _).mono ?_
      rintro e v6 ⟨rfl, hb⟩
      go_wp2
      go_ret
      exact ⟨rfl, HK5.out.bl.trans (hb.mono HK5.out.bl.size)⟩

theorem own : ownKnob Tryd.prog.godebug = none := by kernel_rfl
theorem u8x : U8Extra Tryd.prog Tryd.lays260_ren := ⟨by kernel_rfl, by kernel_rfl, by kernel_rfl, by kernel_rfl, by kernel_rfl, by kernel_rfl, by kernel_rfl⟩
theorem accept_eq : (Rows.laid_unicode_utf8_acceptRanges : DataW Unit) = Lib.acceptData := by kernel_rfl
theorem first_eq : Rows.laid_unicode_utf8_first = Lib.firstData := Pinned.utf8First_eq
theorem tabs_of {W : World} (hL : laidMet Tryd.prog Rows.lockBusyRow.laid W) : Lib.Utf8Tabs 0 1 W :=
  utf8Tabs_of_readsT (U8Types.of260 Tryd.lays260) u8x (first_eq ▸ Lib.laidMet.reads hL (.tail _ (.head _))) (accept_eq ▸ Lib.laidMet.reads hL (.head _))

set_option maxRecDepth 100000 in
theorem lifted (os : Os) (started : os.Started) (H : Type) (enc : TypeId × Value → H) :
    ReturnsInHanded {} Tryd.checked os 3 .any (fun w args => (Rows.lockBusySpec.pre enc Tryd.prog Tryd.f3 [] false w args ∧ laidMetH Tryd.prog Rows.lockBusyRow.laid w) ∧ sizedMet enc Tryd.prog Tryd.f3 (OpenSpec.ofChange Rows.lockBusySpec) false w args)
      (Rows.lockBusySpec.post enc Tryd.prog Tryd.f3 false true false false) := by
  refine returnsInHanded_of_change_and (C := Tryd.checked) (X := fun w _ => laidMetH Tryd.prog Rows.lockBusyRow.laid w) (fun _ _ _ hh h => h.of_heap hh) own started (by kernel_rfl) Tryd.func3
    (ChangeSpec.witness_shaped (enc := enc) (C := Tryd.checked) (os := os) (X := fun w _ => laidMetH Tryd.prog Rows.lockBusyRow.laid w) false (World.laidAll Tryd.prog os Rows.lockBusyRow.laid) #[.agg #[.slice none 0 0, .slice none 0 0, .slice none 0 0, .slice none 0 0], .int .i64 0, .int .i64 0] 8 (World.laidAll_os _ _ _)
      (World.shaped_of_ZipB (by kernel_rfl) (by kernel_rfl)) (by kernel_rfl) (by kernel_rfl) (by kernel_rfl)
      (by rw [MakeChecks.laidMetH_plain _ _ _ (by kernel_rfl)]; exact laidMet_laidAll _ (by kernel_rfl) (by kernel_rfl))) ?_
  intro W base args ds gs before hval0 hW _ hsz0 hL _
  have hval : ∀ (j : Nat) t v, Tryd.f3.params[j]? = some t → args[j]? = some v → Value.okWide Tryd.prog W .any base t v := hval0
  have hsz : (DataW.weightsEach Tryd.prog (Tryd.f3.params.toList ++ Rows.lockBusySpec.plain.varTypes Tryd.prog) (ds ++ gs)).all (· ≤ reachBytes) = true := hsz0
  have hW' := hW
  obtain ⟨p, q, hA0, hV, rfl, _, _⟩ := hW
  have hA : DataW.TrodAll enc Tryd.prog W 0 (fun _ => true) true Tryd.f3.params.toList args.toList ds p := hA0
  rw [Tryd.params3] at hA hval hsz
  obtain ⟨v0, vs0, d0, ds0, p0, q0, hargs, rfl, rfl, h0, r0⟩ := trodAll_cons hA
  obtain ⟨v1, vs1, d1, ds1, p1, q1, rfl, rfl, rfl, h1, r1⟩ := trodAll_cons r0
  obtain ⟨v2, vs2, d2, ds2, p2, q2, rfl, rfl, rfl, h2, r2⟩ := trodAll_cons r1
  obtain ⟨rfl, rfl, rfl⟩ := trodAll_nil r2
  obtain rfl : args = #[v0, v1, v2] := by cases args; simp_all
  obtain ⟨rfl, rfl⟩ := trodVars_none hV
  have k0 := h0
  have lt0 : ∀ x ∈ p0, x.block < W.heap.size := by obtain ⟨m, hm⟩ := k0; exact DataW.trod_lt m _ _ _ hm
  have g0 := weights_at hsz (j := 0) (t := 26) rfl rfl
  obtain ⟨u0, l0, s0, rfl, y0, b0, c0, x0⟩ := open_layout_c (hval 0 26 v0 rfl rfl) h0 g0
  obtain ⟨a1, rfl, rfl, rfl, w1⟩ := open_int Tryd.underlying3 (hval 1 3 v1 rfl rfl) h1
  obtain ⟨a2, rfl, rfl, rfl, w2⟩ := open_int Tryd.underlying3 (hval 2 3 v2 rfl rfl) h2
  clear hA0 hval0
  rw [MakeChecks.laidMetH_plain _ _ _ (by kernel_rfl)] at hL
  refine (walk W u0 l0 s0 y0 b0 c0 x0 a1 w1 a2 w2 (tabs_of hL)).mono fun e W' ⟨he, bel⟩ => ?_
  subst he
  exact ⟨_, rfl, _, _, _, [], _, [], hW', trodAll_mk1 (shut_bool Tryd.underlying4 _), (trodAll_cons_mk (Below.trod laidOut (by kernel_rfl) (of_decide_eq_true (by kernel_rfl)) k0 bel lt0) (trodAll_cons_mk (shut_int Tryd.underlying3 w1) (trodAll_cons_mk (shut_int Tryd.underlying3 w2) trodAll_mk0))), rfl, bel.frame _, fun h => by cases h⟩

theorem over : Rows.lockBusyRow.holds Tryd.pinned (OpenSpec.ofChange Rows.lockBusySpec) :=
  OpenClaim.holds_of_wide 3 Tryd.f3 rfl rfl rfl rfl rfl rfl rfl ⟨rfl, rfl, rfl, rfl, rfl⟩ rfl rfl rfl rfl rfl (by kernel_rfl) Tryd.func3 (by kernel_rfl)
    (of_decide_eq_true (by kernel_rfl)) (by unfold Func.isWrapper; first | (rw [if_pos (by decide +kernel)]; kernel_rfl) | (rw [if_neg (by decide +kernel)]; exact ⟨rfl, rfl⟩))
    (fun os started H enc _ => lifted os started H enc)

theorem card : Rows.LockBusyCardSaid :=
  Claim7.holds_tied_plain_at .later [] _ _ _ _ over (fun _ h => by cases h) (by kernel_rfl) (fun _ h => by cases h) lockBusy_row_tie rfl ⟨rfl, rfl⟩ (by kernel_rfl) rfl
    (fun f fn hf hfn => by
      obtain rfl : f = 3 := Option.some.inj ((show Tryd.prog.funcNamed Rows.lockBusyRow.func = some 3 by kernel_rfl).symm.trans hf) |>.symm
      obtain rfl : fn = Tryd.f3 := (Option.some.inj (Tryd.func3.symm.trans hfn)).symm
      exact ⟨by kernel_rfl, fun j t ht => by
        rw [Tryd.params3] at ht
        have hm : t ∈ [26, 3, 3] := by simpa using Array.mem_of_getElem? ht
        have hall : ([26, 3, 3].all fun u => !Tryd.prog.wantsStandIn u) = true := by kernel_rfl
        exact (show Tryd.prog.wantsStandIn t = false by simpa using List.all_eq_true.1 hall t hm)⟩)
    (by kernel_rfl)

end Go.Proofs.YtfgkkhcoidegdabDoor.lockBusy
namespace Go.Proofs.YtfgkkhcoidegdabDoor
theorem lockBusy_holds : Rows.LockBusyCardSaid := lockBusy.card
#print axioms lockBusy_holds
end Go.Proofs.YtfgkkhcoidegdabDoor
