/-
  Of every layout and a script: LockErrs returns true. A tied card: what unicode/utf8's two tables hold is listed, tied by the given tie.
-/
import Derived.Test.YtceebimgfajbcaaGreatDoorRows
import Derived.Test.YtceebimgfajbcaaGreatDoorTie
import Derived.Test.YtceebimgfajbcaaGreatDoorCards
import Derived.Test.YtceebimgfajbcaaGreatDoorJoin1
import Derived.Test.YtceebimgfajbcaaGreatDoorLkKnown
import Derived.Test.YtceebimgfajbcaaGreatDoorLySz5
import Derived.Test.YtceebimgfajbcaaGreatDoorLkLong
import Derived.Test.YtceebimgfajbcaaGreatDoorTail
import Derived.WalkKit
import Derived.ProofKit
import Derived.OpenShut
import Derived.ShutString
import Derived.ChangeOld
import Derived.Below
import Derived.SizedLaws
import Derived.PinnedBridge
import Derived.Lib.LaidU8T
import Derived.Lay
import Derived.LaidOnce
import Derived.SevenTiedAt
import Derived.Deep.DeepHandedRow
namespace Go.Proofs.YtceebimgfajbcaaGreatDoor.lockErrs
open Go.ChangeShapes Go.WideShapes Go.ChangeAt Go.RowKit

abbrev id0 (rs : List RtV) : List St := List.replicate rs.length idleS
set_option maxRecDepth 1000000 in
set_option maxHeartbeats 64000000 in
theorem walk (w : World) (v : Nat → Value) (l : Lay) (rs : List RtV) (h : LayRd w v l rs) (hB : LayBig l) (hcap : ∀ x ∈ rs, capOk x.2.1) (hc3 : capOk (v 3) ∧ capOk (v 0) ∧ capOk (v 2)) (oa : Option Addr) (na ca : Nat) (za : List Ac5) (ea : za.length = na) (ma : na ≤ maxLen) (sa : hasActs5 w oa za) (ta : Ac5) (ua : Nat → Value) (ra : InRd w ua ta.2.1.1 ta.2.1.2) (qa : rowAt w (ua 2) 4 stC ta.2.2.2) (hT : Lib.Utf8Tabs 0 1 w) :
    Calls Tryz.prog 4 #[.agg #[v 0, v 1, v 2, v 3], .slice oa na ca, .agg #[.int .i64 ta.1, ua 0, ua 1, .int .i64 ta.2.2.1.1, .int .i64 ta.2.2.1.2, ua 2]] w fun e w' => e = .returned (.bool true) ∧ Below w.heap.size w w' := by
  have hlr : rs.length = l.routes.length := by rw [← h.m, List.length_map]
  obtain ⟨o0, c0, e0, _⟩ := h.s
  obtain ⟨o1, c1, e1, _⟩ := h.p
  obtain ⟨o2, c2, e2, _⟩ := h.g
  obtain ⟨o3, c3, e3, r3⟩ := h.r
  have MID : LaySmall l → IsMid l rs v := fun hs => ⟨by have := hs.s.1; omega, by have := hs.p.1; omega, by have := hs.g.1; omega, by have := hs.r.1; omega, fun x hx => by
    have := hs.r.2 x.1 (by rw [← h.m]; exact List.mem_map.2 ⟨x, hx, rfl⟩)
    exact ⟨hcap x hx, by omega, by omega, by omega⟩, hc3.2.1, hc3.2.2⟩
  have SZ : Hid (∀ W, Below w.heap.size w W → Calls Tryz.prog 5 #[.agg #[v 0, v 1, v 2, v 3]] W fun e w' => ∃ n : Int, e = .returned (.int .i64 n) ∧ 0 ≤ n ∧ n ≤ 1125899906842624 ∧ (n < 3000 → LaySmall l) ∧ Below W.heap.size W w') := fun W hW => size5_any v l rs W (h.below hW) hB
  have IS : Hid (LaySmall l → ∀ W, Below w.heap.size w W → Calls Tryz.prog 7 #[.agg #[v 0, v 1, v 2, v 3]] W fun e w' => e = .returned (.bool (isB l)) ∧ Below W.heap.size W w') := fun hs W hW => is_any v l rs W (h.below hW) hcap (LayMid.of hs hB) (tabs_below hT hW)
  have NEW : Hid (LaySmall l → isB l = true → ∀ W, Below w.heap.size w W → Calls Tryz.prog 8 #[.agg #[v 0, v 1, v 2, v 3]] W fun e w' => ∃ kb, e = .returned (.tuple #[.pointer (some ⟨kb, 0, none⟩), .int .i64 0]) ∧ LkG w w' l rs kb (id0 rs) ∧ Below W.heap.size W w') := fun hs hi W hW => new_g w W v l rs (h.below hW) (MID hs) hi hs hW
  have LGA : Hid (∀ W, Below w.heap.size w W → Calls Tryz.prog 6 #[.slice oa na ca] W fun e w' => e = .returned (.bool (longB za)) ∧ Below W.heap.size W w') := fun W hW => by subst ea; exact long_any oa ca za W (sa.below hW) ma
  have RNW : Hid (LaySmall l → isB l = true → ∀ W, Below w.heap.size w W → Calls Tryz.prog 18 #[.agg #[v 0, v 1, v 2, v 3]] W fun e w' => ∃ xb rb, e = .returned (.tuple #[.pointer (some ⟨xb, 0, none⟩), .int .i64 0]) ∧ RfLk w w' v l rs xb rb (id0 rs) ∧ (W.heap.size ≤ xb ∧ W.heap.size ≤ rb) ∧ Below W.heap.size W w') := fun hs hi W hW => rlNew_ok w W v l rs h hW hcap (LayMid.of hs hB) hT hi hs
  have LG1 : Hid (∀ (U : World) (g : Nat), Below w.heap.size w U → U.heap[g]? = some (.cells #[.int .i64 ta.1, ua 0, ua 1, .int .i64 ta.2.2.1.1, .int .i64 ta.2.2.1.2, ua 2] 43 (0, 0)) → Calls Tryz.prog 6 #[.slice (some ⟨g, 0, none⟩) 1 1] U fun e w' => e = .returned (.bool (longB [ta])) ∧ Below U.heap.size U w') := fun U g hU hg => long_any (some ⟨g, 0, none⟩) 1 [ta] U (fun j x hj => by
    cases j with
    | succ j => simp at hj
    | zero =>
      obtain rfl := Option.some.inj hj
      refine ⟨g, 0, rfl, ua, ?_, ?_, ?_, ?_, ?_, ?_, ra.below hU, qa.below hU⟩ <;> simp [World.cell?, hg]) (by unfold maxLen; simp)
  have CMX : Hid (∀ (w1 W : World) (ka xb rb : Nat) (ss tt : List St) (u : Nat → Value) (occ : List Bool) (lies : List Int) (kind r : Int), TwoY w w1 W v l rs ka xb rb ss tt → InRd w u occ lies → lies.length ≤ 4294967296 → Calls Tryz.prog 9 #[.pointer (some ⟨ka, 0, none⟩), .agg #[u 0, u 1], .agg #[.int .i64 kind, .int .i64 r]] W fun e w' => e = .returned (.int .i64 (cmdG l rs ss occ lies kind r).1) ∧ TwoY w w1 w' v l rs ka xb rb (cmdG l rs ss occ lies kind r).2 tt ∧ TC W w') := fun w1 W ka xb rb ss tt u occ lies kind r hh hi hl => cmd_x u occ lies kind r hh hi hl
  have CYX : Hid (∀ (w1 W : World) (ka xb rb : Nat) (ss tt : List St) (u : Nat → Value) (occ : List Bool) (lies : List Int), TwoY w w1 W v l rs ka xb rb ss tt → InRd w u occ lies → lies.length ≤ 4294967296 → Calls Tryz.prog 10 #[.pointer (some ⟨ka, 0, none⟩), .agg #[u 0, u 1]] W fun e w' => (∃ y, e = .returned y) ∧ TwoY w w1 w' v l rs ka xb rb (cycG l rs ss occ lies).1 tt ∧ TC W w') := fun w1 W ka xb rb ss tt u occ lies hh hi hl => cyc_x u occ lies hh hi hl
  have RCX : Hid (∀ (w1 W : World) (ka xb rb : Nat) (ss tt : List St) (u : Nat → Value) (occ : List Bool) (lies : List Int) (kind r : Int), TwoY w w1 W v l rs ka xb rb ss tt → InRd w u occ lies → lies.length ≤ 4294967296 → Calls Tryz.prog 19 #[.pointer (some ⟨xb, 0, none⟩), .agg #[u 0, u 1], .agg #[.int .i64 kind, .int .i64 r]] W fun e w' => (∃ y, e = .returned y) ∧ TwoY w w1 w' v l rs ka xb rb ss (cmdG l rs tt occ lies kind r).2 ∧ Chg (fun j => j = rb) W w') := fun w1 W ka xb rb ss tt u occ lies kind r hh hi hl => rcmd_x u occ lies kind r h hcap hh hi hl
  have RYX : Hid (∀ (w1 W : World) (ka xb rb : Nat) (ss tt : List St) (u : Nat → Value) (occ : List Bool) (lies : List Int), TwoY w w1 W v l rs ka xb rb ss tt → InRd w u occ lies → lies.length ≤ 4294967296 → Calls Tryz.prog 20 #[.pointer (some ⟨xb, 0, none⟩), .agg #[u 0, u 1]] W fun e w' => (∃ y, e = .returned y) ∧ TwoY w w1 w' v l rs ka xb rb ss (cycG l rs tt occ lies).1 ∧ Chg (fun j => j = rb) W w') := fun w1 W ka xb rb ss tt u occ lies hh hi hl => rcyc_x u occ lies h hcap hh hi hl
  have ALX : Hid (∀ (w1 W : World) (ka xb rb : Nat) (ss : List St), TwoY w w1 W v l rs ka xb rb ss ss → Calls Tryz.prog 21 #[.pointer (some ⟨ka, 0, none⟩), .pointer (some ⟨xb, 0, none⟩)] W fun e w' => e = .returned (.bool true) ∧ Below W.heap.size W w') := fun w1 W ka xb rb ss hh => alike_any w w1 W v l rs ka xb rb ss h hcap hh
  have HRA : Hid (InRd w ua ta.2.1.1 ta.2.1.2) := ra
  have HSA : Hid (hasActs5 w oa za) := sa
  have HNA : Hid (za.length = na) := ea
  have HLR : Hid (rs.length = l.routes.length) := hlr
  unfold maxLen at ma
  clear MID sa ea ra qa
  rw [e0, e1, e2, e3] at SZ IS NEW RNW ⊢
  clear h hB hcap hT hc3 e0 e1 e2 e3 r3 hlr
  have HG0 : Hid (l.sections.length = l.sections.length ∧ l.points.length = l.points.length) := ⟨rfl, rfl⟩
  generalize hs0 : l.sections.length = n0 at *
  generalize hs1 : l.points.length = n1 at *
  generalize hs2 : l.signals.length = n2 at *
  generalize hs3 : rs.length = n3 at *
  have HS : Hid (l.sections.length = n0 ∧ l.points.length = n1 ∧ rs.length = n3) := ⟨hs0, hs1, hs3⟩
  have HS2 : Hid (l.signals.length = n2) := hs2
  clear hs0 hs1 hs2 hs3 HG0
  generalize hch : (w.alloc (.cells #[.slice o0 n0 c0, .slice o1 n1 c1, .slice o2 n2 c2, .slice o3 n3 c3] 26)).alloc (.cells #[.int .i64 ta.1, ua 0, ua 1, .int .i64 ta.2.2.1.1, .int .i64 ta.2.2.1.2, ua 2] 43) = w1
  have HB01 : Hid (Below w.heap.size w w1) := by show Below _ _ _; rw [← hch]; exact (by repeat' (with_reducible first | exact Below.refl _ _ | refine Below.drew ?_ | refine _root_.Go.below_drewN ?_ _ | refine Below.alloc ?_ ?_ _ | refine Below.setCell ?_ ?_ _ | exact Nat.le_refl _ | (simp; done) | (simp; omega)))
  have H0 : Hid (w1.heap[w.heap.size]? = some (.cells #[.slice o0 n0 c0, .slice o1 n1 c1, .slice o2 n2 c2, .slice o3 n3 c3] 26 (0, 0))) := by show _ = _; rw [← hch]; exact blk_old (blk_new _ _)
  have H5 : Hid (w1.heap[w.heap.size + 1]? = some (.cells #[.int .i64 ta.1, ua 0, ua 1, .int .i64 ta.2.2.1.1, .int .i64 ta.2.2.1.2, ua 2] 43 (0, 0))) := by show _ = _; rw [← hch]; exact blk_at1 _ _ _
  have HUP : Hid (∀ W, Below w1.heap.size w1 W → Below w.heap.size w W) := fun W hW => HB01.out.trans (hW.mono HB01.out.size)
  obtain ⟨⟨q0, q1, q2, q3⟩, _⟩ := cells4 H0.out
  go_enter Tryz.func4, Tryz.ntmps4
  go_wp2_with fail
  clear hch
  refine (SZ.out _ HB01.out).mono ?_
  rintro e w2 ⟨n, rfl, hn0, hn1, hsm, hb2⟩
  have HB2 : Hid (Below w1.heap.size w1 w2) := hb2
  clear q0 q1 q2 q3 hb2 SZ
  obtain ⟨⟨q0, q1, q2, q3⟩, _⟩ := cells4 (blk_below HB2.out H0.out)
  by_cases hbig : (3000 : Int) ≤ n
  · clear hsm
    go_wp2_with fail
    go_ret
    exact ⟨rfl, HUP.out _ HB2.out⟩
  have HSM : Hid (LaySmall l) := hsm (by omega)
  clear hsm
  have D := LGA.out w2 (HUP.out _ HB2.out)
  generalize hla : longB za = ba at D
  have HLA : Hid (longB za = ba) := hla
  go_wp2_with fail
  refine D.mono ?_
  rintro e w3 ⟨rfl, hb⟩
  have HB3 : Hid (Below w1.heap.size w1 w3) := HB2.out.trans (hb.mono HB2.out.size)
  clear q0 q1 q2 q3 D hb hla LGA
  obtain ⟨⟨q0, q1, q2, q3⟩, _⟩ := cells4 (blk_below HB3.out H0.out)
  cases ba
  case true =>
    go_wp2_with fail
    go_ret
    exact ⟨rfl, HUP.out _ HB3.out⟩
  have HC6 : Hid (∀ W : World, W.heap[w.heap.size + 1]? = some (.cells #[.int .i64 ta.1, ua 0, ua 1, .int .i64 ta.2.2.1.1, .int .i64 ta.2.2.1.2, ua 2] 43 (0, 0)) → (W.cell? ⟨w.heap.size + 1, 0, none⟩ = some (.int .i64 ta.1) ∧ W.cell? ⟨w.heap.size + 1, 1, none⟩ = some (ua 0) ∧ W.cell? ⟨w.heap.size + 1, 2, none⟩ = some (ua 1)) ∧ (W.cell? ⟨w.heap.size + 1, 3, none⟩ = some (.int .i64 ta.2.2.1.1) ∧ W.cell? ⟨w.heap.size + 1, 4, none⟩ = some (.int .i64 ta.2.2.1.2) ∧ W.cell? ⟨w.heap.size + 1, 5, none⟩ = some (ua 2))) := fun W hW => by
    refine ⟨⟨?_, ?_, ?_⟩, ?_, ?_, ?_⟩ <;> simp [World.cell?, hW]
  obtain ⟨⟨t0, t1, t2⟩, t3, t4, t5⟩ := HC6.out w3 (blk_below HB3.out H5.out)
  generalize hcl : w3.alloc (.cells #[.int .i64 ta.1, ua 0, ua 1, .int .i64 ta.2.2.1.1, .int .i64 ta.2.2.1.2, ua 2] 43) = w4
  have HB34 : Hid (Below w3.heap.size w3 w4) := by show Below _ _ _; rw [← hcl]; exact (Below.refl _ _).alloc (Nat.le_refl _) _
  have HB4 : Hid (Below w1.heap.size w1 w4) := HB3.out.trans (HB34.out.mono HB3.out.size)
  have D := LG1.out w4 w3.heap.size (HUP.out _ HB4.out) (by rw [← hcl]; exact blk_new _ _)
  generalize hla2 : longB [ta] = ba2 at D
  have HLA2 : Hid (longB [ta] = ba2) := hla2
  go_wp2_with fail
  clear hcl
  refine D.mono ?_
  rintro e w5a ⟨rfl, hb⟩
  have HB5a : Hid (Below w1.heap.size w1 w5a) := HB4.out.trans (hb.mono HB4.out.size)
  clear q0 q1 q2 q3 t0 t1 t2 t3 t4 t5 D hb hla2 LG1
  obtain ⟨⟨q0, q1, q2, q3⟩, _⟩ := cells4 (blk_below HB5a.out H0.out)
  cases ba2
  case true =>
    go_wp2_with fail
    go_ret
    exact ⟨rfl, HUP.out _ HB5a.out⟩
  have D := IS.out HSM.out w5a (HUP.out _ HB5a.out)
  generalize hbl : isB l = b at D
  have HBL : Hid (isB l = b) := hbl
  clear hbl
  go_wp2_with fail
  refine D.mono ?_
  rintro e w5 ⟨rfl, hb⟩
  have HB5 : Hid (Below w1.heap.size w1 w5) := HB5a.out.trans (hb.mono HB5a.out.size)
  clear q0 q1 q2 q3 hb D IS
  obtain ⟨⟨q0, q1, q2, q3⟩, _⟩ := cells4 (blk_below HB5.out H0.out)
  cases b
  case false =>
    go_wp2_with fail
    go_ret
    exact ⟨rfl, HUP.out _ HB5.out⟩
  have D := NEW.out HSM.out HBL.out w5 (HUP.out _ HB5.out)
  go_wp2_with fail
  refine D.mono ?_
  rintro e wn ⟨ka, rfl, hk, hb⟩
  have HBN : Hid (Below w1.heap.size w1 wn) := HB5.out.trans (hb.mono HB5.out.size)
  have HKN : Hid (LkG w wn l rs ka (id0 rs)) := hk
  clear q0 q1 q2 q3 hb hk D hbig hn0 hn1
  obtain ⟨⟨q0, q1, q2, q3⟩, _⟩ := cells4 (blk_below HBN.out H0.out)
  have D := RNW.out HSM.out HBL.out wn (HUP.out _ HBN.out)
  go_wp2_with fail
  refine D.mono ?_
  rintro e wx ⟨xb, rb, rfl, hrl, hhi, hb⟩
  have HTW : Hid (TwoY w wn wx v l rs ka xb rb (id0 rs) (id0 rs)) := TwoY.of HKN.out hrl hb hhi
  have HBX : Hid (Below w1.heap.size w1 wx) := HBN.out.trans (hb.mono HBN.out.size)
  have HAX : Hid (wx.heap[w.heap.size + 1]? = some (.cells #[.int .i64 ta.1, ua 0, ua 1, .int .i64 ta.2.2.1.1, .int .i64 ta.2.2.1.2, ua 2] 43 (0, 0))) := blk_below HBX.out H5.out
  have HWR : Hid (w.heap.size + 1 < rb) := by
    have h1 := (Array.getElem?_eq_some_iff.1 H5.out).1
    have h2 := HBN.out.size
    have h3 := hhi.2
    show _ < _
    omega
  clear q0 q1 q2 q3 hb hrl hhi D
  go_wp2
  go_loopg [11] 60 (fun gk i wr => ∃ (k : Nat) (ss : List St), gk = 60 - k ∧ i = .int .i64 k ∧ k ≤ 60 ∧ k ≤ na ∧ TwoY w wn wr v l rs ka xb rb ss ss ∧ wr.heap[w.heap.size + 1]? = some (.cells #[.int .i64 ta.1, ua 0, ua 1, .int .i64 ta.2.2.1.1, .int .i64 ta.2.2.1.2, ua 2] 43 (0, 0)))
  case atStart => exact ⟨0, _, rfl, rfl, by omega, by omega, HTW.out, HAX.out⟩
  case round =>
    obtain ⟨k, ss, rfl, rfl, hk, hkn, htw, hax⟩ := hrel
    have HT1 : Hid (TwoY w wn wr v l rs ka xb rb ss ss) := htw
    have HA1 : Hid (wr.heap[w.heap.size + 1]? = some (.cells #[.int .i64 ta.1, ua 0, ua 1, .int .i64 ta.2.2.1.1, .int .i64 ta.2.2.1.2, ua 2] 43 (0, 0))) := hax
    clear htw hax HTW HAX
    by_cases hlt : k < na
    · by_cases h60 : k < 60
      · obtain ⟨x, hx⟩ := at_of (l := za) (k := k) (by rw [HNA.out]; exact hlt)
        obtain ⟨bo, off, rfl, vv, k0, k1, k2, k3, k4, k5, hin, hrr⟩ := HSA.out k x hx
        have hnl := not_long HLA.out h60 hx
        obtain ⟨kd, ⟨occ, lies⟩, ⟨ck, cr⟩, rr⟩ := x
        simp only at k0 k1 k2 k3 k4 k5 hin hnl hrr
        have HLN : Hid (lies.length ≤ 4294967296) := by show _ ≤ _; omega
        have HIN : Hid (InRd w vv occ lies) := hin
        have HK : Hid (w.cell? ⟨bo, off + k * 6 + 1, none⟩ = some (vv 0) ∧ w.cell? ⟨bo, off + k * 6 + 1 + 1, none⟩ = some (vv 1)) := ⟨k1, k2⟩
        have a0 := cell_kept HT1.out.b.bl k0
        have d1 : w.cell? ⟨bo, off + k * 6 + 1 + 0, none⟩ = some (vv 0) := k1
        have d2 : w.cell? ⟨bo, off + k * 6 + 1 + 1, none⟩ = some (vv 1) := k2
        have d3 : w.cell? ⟨bo, off + k * 6 + 3 + 0, none⟩ = some (.int .i64 ck) := k3
        have d4 : w.cell? ⟨bo, off + k * 6 + 3 + 1, none⟩ = some (.int .i64 cr) := k4
        have hki : (k : Int) < (na : Int) := by omega
        have hkj : (k : Int) < 60 := by omega
        clear hx hin hnl hrr k5
        by_cases hkd : kd = 1
        · subst hkd
          have y1 := ext_cell k1
          have y2 := ext_cell d1
          have y3 := ext_cell d2
          have y4 := ext_cell k3
          have y5 := ext_cell d3
          have y6 := ext_cell d4
          haveI := ext_some w
          have HTQ : Hid (TwoY w wn wr.drew v l rs ka xb rb ss ss) := HT1.out.step (Below.refl wr.heap.size wr).drew
          have HAQ : Hid (wr.drew.heap[w.heap.size + 1]? = some (.cells #[.int .i64 ta.1, ua 0, ua 1, .int .i64 ta.2.2.1.1, .int .i64 ta.2.2.1.2, ua 2] 43 (0, 0))) := blk_below (Below.refl wr.heap.size wr).drew HA1.out
          go_wp2_with fail
          clear k1 k2 k3 k4 d1 d2 d3 d4 a0
          refine wp_region_mix_seq (C := fun W => ∃ y : Ext w, W = y.z) [0, 1, 2, 3, 4, 5, 6, 7, 8, 9, 10, 11] (by kernel_rfl) (by kernel_rfl) (by kernel_rfl) (by kernel_rfl) (by simp only [List.filterMap_cons, List.getElem?_toArray, List.getElem?_cons_zero, List.getElem?_cons_succ, List.filterMap_nil]; rfl) ⟨⟨_, HTQ.out.b.bl⟩, rfl⟩ ?_
          generalize wr.drew = wd at *
          (repeat (first | (with_reducible refine mix_read (by kernel_rfl) ?_; go_big_quiet_want; go_big_quiet_op; go_big_quiet_on; with_reducible refine wpQuiet_nil ?_) | (with_reducible refine mix_pass (by kernel_rfl) ?_; go_big_quiet_skip; with_reducible refine wpQuiet_nil ?_)))
          with_reducible refine mix_call (by kernel_rfl) (by kernel_rfl) ((CMX.out wn wd ka xb rb ss ss vv occ lies ck cr HTQ.out HIN.out HLN.out).mono ?_) (by kernel_rfl)
          rintro e w2 ⟨rfl, ht2, hc2⟩
          have HT2 := (show Hid _ from ht2)
          have HA2 : Hid (w2.heap[w.heap.size + 1]? = some (.cells #[.int .i64 ta.1, ua 0, ua 1, .int .i64 ta.2.2.1.1, .int .i64 ta.2.2.1.2, ua 2] 43 (0, 0))) := hc2.blk HAQ.out (by decide)
          clear ht2 hc2
          refine ⟨_, rfl, ⟨⟨_, HT2.out.b.bl⟩, rfl⟩, ?_⟩
          simp only [Act.put, List.setIfInBounds_toArray, List.set_cons_zero, List.set_cons_succ]
          (repeat (first | (with_reducible refine mix_read (by kernel_rfl) ?_; go_big_quiet_want; go_big_quiet_op; go_big_quiet_on; with_reducible refine wpQuiet_nil ?_) | (with_reducible refine mix_pass (by kernel_rfl) ?_; go_big_quiet_skip; with_reducible refine wpQuiet_nil ?_)))
          with_reducible refine mix_end ?_
          intro _
          have HTQ2 := (show Hid _ from HT2.out.step (Below.refl w2.heap.size w2).drew)
          have HAQ2 : Hid (w2.drew.heap[w.heap.size + 1]? = some (.cells #[.int .i64 ta.1, ua 0, ua 1, .int .i64 ta.2.2.1.1, .int .i64 ta.2.2.1.2, ua 2] 43 (0, 0))) := blk_below (Below.refl w2.heap.size w2).drew HA2.out
          go_wp2_with fail
          refine wp_region_mix_seq (C := fun W => ∃ y : Ext w, W = y.z) [0, 1, 2, 3, 4, 5, 6, 7, 8, 9, 10, 11] (by kernel_rfl) (by kernel_rfl) (by kernel_rfl) (by kernel_rfl) (by simp only [List.filterMap_cons, List.getElem?_toArray, List.getElem?_cons_zero, List.getElem?_cons_succ, List.filterMap_nil]; rfl) ⟨⟨_, HTQ2.out.b.bl⟩, rfl⟩ ?_
          generalize w2.drew = wd2 at *
          (repeat (first | (with_reducible refine mix_read (by kernel_rfl) ?_; go_big_quiet_want; go_big_quiet_op; go_big_quiet_on; with_reducible refine wpQuiet_nil ?_) | (with_reducible refine mix_pass (by kernel_rfl) ?_; go_big_quiet_skip; with_reducible refine wpQuiet_nil ?_)))
          with_reducible refine mix_call (by kernel_rfl) (by kernel_rfl) ((RCX.out wn wd2 ka xb rb _ ss vv occ lies ck cr HTQ2.out HIN.out HLN.out).mono ?_) (by kernel_rfl)
          rintro e w3' ⟨⟨yy, rfl⟩, ht3, hc3⟩
          have HT3 := (show Hid _ from ht3)
          have HA3 : Hid (w3'.heap[w.heap.size + 1]? = some (.cells #[.int .i64 ta.1, ua 0, ua 1, .int .i64 ta.2.2.1.1, .int .i64 ta.2.2.1.2, ua 2] 43 (0, 0))) := hc3.blk HAQ2.out (by have := HWR.out; omega)
          clear ht3 hc3
          refine ⟨_, rfl, ⟨⟨_, HT3.out.b.bl⟩, rfl⟩, ?_⟩
          simp only [Act.put, List.setIfInBounds_toArray, List.set_cons_zero, List.set_cons_succ]
          (repeat (first | (with_reducible refine mix_read (by kernel_rfl) ?_; go_big_quiet_want; go_big_quiet_op; go_big_quiet_on; with_reducible refine wpQuiet_nil ?_) | (with_reducible refine mix_pass (by kernel_rfl) ?_; go_big_quiet_skip; with_reducible refine wpQuiet_nil ?_)))
          with_reducible refine mix_end ?_
          intro _
          clear y1 y2 y3 y4 y5 y6
          go_wp2
          go_roundg (60 - (k + 1))
          case rel => exact ⟨k + 1, _, rfl, by go_num, by omega, by omega, HT3.out, HA3.out⟩
          case measure => omega
        · have hkf : (kd == 1) = false := by simp [hkd]
          have a1 := cell_kept HT1.out.b.bl HK.out.1
          have a2 : wr.cell? ⟨bo, off + k * 6 + 1 + 0, none⟩ = some (vv 0) := cell_kept HT1.out.b.bl HK.out.1
          have a3 : wr.cell? ⟨bo, off + k * 6 + 1 + 1, none⟩ = some (vv 1) := cell_kept HT1.out.b.bl HK.out.2
          have D := CYX.out wn wr ka xb rb ss ss vv occ lies HT1.out HIN.out HLN.out
          clear hkd k1 k2 k3 k4 d1 d2 d3 d4
          go_wp2_with fail
          refine D.mono ?_
          rintro e w2 ⟨⟨yy, rfl⟩, ht2, hc2⟩
          have HT2 := (show Hid _ from ht2)
          have HA2 : Hid (w2.heap[w.heap.size + 1]? = some (.cells #[.int .i64 ta.1, ua 0, ua 1, .int .i64 ta.2.2.1.1, .int .i64 ta.2.2.1.2, ua 2] 43 (0, 0))) := hc2.blk HA1.out (by decide)
          clear ht2 hc2 D a0 a1 a2 a3
          have a1 := cell_kept HT2.out.b.bl HK.out.1
          have a2 : w2.cell? ⟨bo, off + k * 6 + 1 + 0, none⟩ = some (vv 0) := cell_kept HT2.out.b.bl HK.out.1
          have a3 : w2.cell? ⟨bo, off + k * 6 + 1 + 1, none⟩ = some (vv 1) := cell_kept HT2.out.b.bl HK.out.2
          have D := RYX.out wn w2 ka xb rb _ ss vv occ lies HT2.out HIN.out HLN.out
          go_wp2_with fail
          refine D.mono ?_
          rintro e w3' ⟨⟨yy2, rfl⟩, ht3, hc3⟩
          have HT3 := (show Hid _ from ht3)
          have HA3 : Hid (w3'.heap[w.heap.size + 1]? = some (.cells #[.int .i64 ta.1, ua 0, ua 1, .int .i64 ta.2.2.1.1, .int .i64 ta.2.2.1.2, ua 2] 43 (0, 0))) := hc3.blk HA2.out (by have := HWR.out; omega)
          clear ht3 hc3 D a1 a2 a3
          go_wp2
          go_roundg (60 - (k + 1))
          case rel => exact ⟨k + 1, _, rfl, by go_num, by omega, by omega, HT3.out, HA3.out⟩
          case measure => omega
      · have hki : (k : Int) < (na : Int) := by omega
        have hkj : ¬ (k : Int) < 60 := by omega
        have HLN1 : Hid (ta.2.1.2.length ≤ 4294967296) := by
          have := not_long HLA2.out (k := 0) (by decide) rfl
          show _ ≤ _
          omega
        obtain ⟨⟨t0, t1, t2⟩, t3, t4, t5⟩ := HC6.out wr HA1.out
        have D := CMX.out wn wr ka xb rb ss ss ua _ _ ta.2.2.1.1 ta.2.2.1.2 HT1.out HRA.out HLN1.out
        have HER : Hid ((cmdG l rs ss ta.2.1.1 ta.2.1.2 ta.2.2.1.1 ta.2.2.1.2).1 ≠ 0 → (cmdG l rs ss ta.2.1.1 ta.2.1.2 ta.2.2.1.1 ta.2.2.1.2).2 = ss) := fun he => cmd_errs l rs ss _ _ _ _ he
        generalize cmdG l rs ss ta.2.1.1 ta.2.1.2 ta.2.2.1.1 ta.2.2.1.2 = cg at D HER
        obtain ⟨ec, sc⟩ := cg
        go_wp2_with fail
        refine D.mono ?_
        rintro e w7 ⟨rfl, ht7, -⟩
        have HT7 : Hid (TwoY w wn w7 v l rs ka xb rb sc ss) := ht7
        clear ht7 D t0 t1 t2 t3 t4 t5
        simp only
        by_cases he0 : ec = 0
        · have he2 : (ec == 0) = true := by simp [he0]
          clear he0
          go_wp2_with fail
          refine (known_any _).mono ?_
          rintro e wz ⟨rfl, hb⟩
          go_wp2
          go_ret
          exact ⟨rfl, HT7.out.b.bl.trans (hb.mono HT7.out.b.bl.size)⟩
        · have he2 : (ec == 0) = false := by simp [he0]
          have hsc : sc = ss := HER.out he0
          subst hsc
          clear he0
          have D := ALX.out wn w7 ka xb rb _ HT7.out
          go_wp2_with fail
          refine D.mono ?_
          rintro e w8 ⟨rfl, hb⟩
          have HB8 := (show Hid _ from HT7.out.b.bl.trans (hb.mono HT7.out.b.bl.size))
          clear hb D
          go_wp2_with fail
          refine (known_any _).mono ?_
          rintro e wz ⟨rfl, hb⟩
          go_wp2
          go_ret
          exact ⟨rfl, HB8.out.trans (hb.mono HB8.out.size)⟩
    · have hki : ¬ (k : Int) < (na : Int) := by omega
      have HLN1 : Hid (ta.2.1.2.length ≤ 4294967296) := by
        have := not_long HLA2.out (k := 0) (by decide) rfl
        show _ ≤ _
        omega
      obtain ⟨⟨t0, t1, t2⟩, t3, t4, t5⟩ := HC6.out wr HA1.out
      have D := CMX.out wn wr ka xb rb ss ss ua _ _ ta.2.2.1.1 ta.2.2.1.2 HT1.out HRA.out HLN1.out
      have HER : Hid ((cmdG l rs ss ta.2.1.1 ta.2.1.2 ta.2.2.1.1 ta.2.2.1.2).1 ≠ 0 → (cmdG l rs ss ta.2.1.1 ta.2.1.2 ta.2.2.1.1 ta.2.2.1.2).2 = ss) := fun he => cmd_errs l rs ss _ _ _ _ he
      generalize cmdG l rs ss ta.2.1.1 ta.2.1.2 ta.2.2.1.1 ta.2.2.1.2 = cg at D HER
      obtain ⟨ec, sc⟩ := cg
      go_wp2_with fail
      refine D.mono ?_
      rintro e w7 ⟨rfl, ht7, -⟩
      have HT7 : Hid (TwoY w wn w7 v l rs ka xb rb sc ss) := ht7
      clear ht7 D t0 t1 t2 t3 t4 t5
      simp only
      by_cases he0 : ec = 0
      · have he2 : (ec == 0) = true := by simp [he0]
        clear he0
        go_wp2_with fail
        refine (known_any _).mono ?_
        rintro e wz ⟨rfl, hb⟩
        go_wp2
        go_ret
        exact ⟨rfl, HT7.out.b.bl.trans (hb.mono HT7.out.b.bl.size)⟩
      · have he2 : (ec == 0) = false := by simp [he0]
        have hsc : sc = ss := HER.out he0
        subst hsc
        clear he0
        have D := ALX.out wn w7 ka xb rb _ HT7.out
        go_wp2_with fail
        refine D.mono ?_
        rintro e w8 ⟨rfl, hb⟩
        have HB8 := (show Hid _ from HT7.out.b.bl.trans (hb.mono HT7.out.b.bl.size))
        clear hb D
        go_wp2_with fail
        refine (known_any _).mono ?_
        rintro e wz ⟨rfl, hb⟩
        go_wp2
        go_ret
        exact ⟨rfl, HB8.out.trans (hb.mono HB8.out.size)⟩


theorem own : ownKnob Tryz.prog.godebug = none := by kernel_rfl
theorem u8x : U8Extra Tryz.prog Tryz.lays260_ren := ⟨by kernel_rfl, by kernel_rfl, by kernel_rfl, by kernel_rfl, by kernel_rfl, by kernel_rfl, by kernel_rfl⟩
theorem accept_eq : (Rows.laid_unicode_utf8_acceptRanges : DataW Unit) = Lib.acceptData := by kernel_rfl
theorem first_eq : Rows.laid_unicode_utf8_first = Lib.firstData := Pinned.utf8First_eq
theorem tabs_of {W : World} (hL : laidMet Tryz.prog Rows.lockErrsRow.laid W) : Lib.Utf8Tabs 0 1 W :=
  utf8Tabs_of_readsT (U8Types.of260 Tryz.lays260) u8x (first_eq ▸ Lib.laidMet.reads hL (.tail _ (.head _))) (accept_eq ▸ Lib.laidMet.reads hL (.head _))

set_option maxRecDepth 100000 in
theorem lifted (os : Os) (started : os.Started) (H : Type) (enc : TypeId × Value → H) :
    ReturnsInHanded {} Tryz.checked os 4 .any (fun w args => (Rows.lockErrsSpec.pre enc Tryz.prog Tryz.f4 [] false w args ∧ laidMetH Tryz.prog Rows.lockErrsRow.laid w) ∧ sizedMet enc Tryz.prog Tryz.f4 (OpenSpec.ofChange Rows.lockErrsSpec) false w args)
      (Rows.lockErrsSpec.post enc Tryz.prog Tryz.f4 false true false false) := by
  refine returnsInHanded_of_change_and (C := Tryz.checked) (X := fun w _ => laidMetH Tryz.prog Rows.lockErrsRow.laid w) (fun _ _ _ hh h => h.of_heap hh) own started (by kernel_rfl) Tryz.func4
    (ChangeSpec.witness_shaped (enc := enc) (C := Tryz.checked) (os := os) (X := fun w _ => laidMetH Tryz.prog Rows.lockErrsRow.laid w) false (World.laidAll Tryz.prog os Rows.lockErrsRow.laid) #[.agg #[.slice none 0 0, .slice none 0 0, .slice none 0 0, .slice none 0 0], .slice none 0 0, .agg #[.int .i64 0, .slice none 0 0, .slice none 0 0, .int .i64 0, .int .i64 0, .slice none 0 0]] 8 (World.laidAll_os _ _ _)
      (World.shaped_of_ZipB (by kernel_rfl) (by kernel_rfl)) (by kernel_rfl) (by kernel_rfl) (by kernel_rfl)
      (by rw [MakeChecks.laidMetH_plain _ _ _ (by kernel_rfl)]; exact laidMet_laidAll _ (by kernel_rfl) (by kernel_rfl))) ?_
  intro W base args ds gs before hval0 hW _ hsz0 hL _
  have hval : ∀ (j : Nat) t v, Tryz.f4.params[j]? = some t → args[j]? = some v → Value.okWide Tryz.prog W .any base t v := hval0
  have hsz : (DataW.weightsEach Tryz.prog (Tryz.f4.params.toList ++ Rows.lockErrsSpec.plain.varTypes Tryz.prog) (ds ++ gs)).all (· ≤ reachBytes) = true := hsz0
  have hW' := hW
  obtain ⟨p, q, hA0, hV, rfl, _, _⟩ := hW
  have hA : DataW.TrodAll enc Tryz.prog W 0 (fun _ => true) true Tryz.f4.params.toList args.toList ds p := hA0
  rw [Tryz.params4] at hA hval hsz
  obtain ⟨v0, vs0, d0, ds0, p0, q0, hargs, rfl, rfl, h0, r0⟩ := trodAll_cons hA
  obtain ⟨v1, vs1, d1, ds1, p1, q1, rfl, rfl, rfl, h1, r1⟩ := trodAll_cons r0
  obtain ⟨v2, vs2, d2, ds2, p2, q2, rfl, rfl, rfl, h2, r2⟩ := trodAll_cons r1
  obtain ⟨rfl, rfl, rfl⟩ := trodAll_nil r2
  obtain rfl : args = #[v0, v1, v2] := by cases args; simp_all
  obtain ⟨rfl, rfl⟩ := trodVars_none hV
  have k0 := h0
  have lt0 : ∀ x ∈ p0, x.block < W.heap.size := by obtain ⟨m, hm⟩ := k0; exact DataW.trod_lt m _ _ _ hm
  have g0 := weights_at hsz (j := 0) (t := 26) rfl rfl
  obtain ⟨u0, l0, s0, rfl, y0, b0, c0, x0⟩ := open_layout_c (hval 0 26 v0 rfl rfl) h0 g0
  obtain ⟨a1, len1, cap1, rfl⟩ := okWide_slice Tryz.underlying27 (hval 1 27 v1 rfl rfl)
  have k1 := h1
  have lt1 : ∀ x ∈ p1, x.block < W.heap.size := by obtain ⟨m, hm⟩ := k1; exact DataW.trod_lt m _ _ _ hm
  obtain ⟨z1, e1, m1, s1⟩ : ∃ l : List Ac5, l.length = len1 ∧ len1 ≤ maxLen ∧ hasActs5 W a1 l := by
    obtain ⟨fuel, hf⟩ := h1
    exact open_acts5 hf
  have k2 := h2
  have lt2 : ∀ x ∈ p2, x.block < W.heap.size := by obtain ⟨m, hm⟩ := k2; exact DataW.trod_lt m _ _ _ hm
  obtain ⟨t2, u2, rfl, r2, s2⟩ := open_ac1 (hval 2 43 v2 rfl rfl) h2
  clear hA0 hval0
  rw [MakeChecks.laidMetH_plain _ _ _ (by kernel_rfl)] at hL
  refine (walk W u0 l0 s0 y0 b0 c0 x0 a1 len1 cap1 z1 e1 m1 s1 t2 u2 r2 s2 (tabs_of hL)).mono fun e W' ⟨he, bel⟩ => ?_
  subst he
  exact ⟨_, rfl, _, _, _, [], _, [], hW', trodAll_mk1 (shut_bool Tryz.underlying4 _), (trodAll_cons_mk (Below.trod laidOut (by kernel_rfl) (of_decide_eq_true (by kernel_rfl)) k0 bel lt0) (trodAll_cons_mk (Below.trod laidOut (by kernel_rfl) (of_decide_eq_true (by kernel_rfl)) k1 bel lt1) (trodAll_cons_mk (Below.trod laidOut (by kernel_rfl) (of_decide_eq_true (by kernel_rfl)) k2 bel lt2) trodAll_mk0))), rfl, bel.frame _, fun h => by cases h⟩

theorem over : Rows.lockErrsRow.holds Tryz.pinned (OpenSpec.ofChange Rows.lockErrsSpec) :=
  OpenClaim.holds_of_wide 4 Tryz.f4 rfl rfl rfl rfl rfl rfl rfl ⟨rfl, rfl, rfl, rfl, rfl⟩ rfl rfl rfl rfl rfl (by kernel_rfl) Tryz.func4 (by kernel_rfl)
    (of_decide_eq_true (by kernel_rfl)) (by unfold Func.isWrapper; first | (rw [if_pos (by decide +kernel)]; kernel_rfl) | (rw [if_neg (by decide +kernel)]; exact ⟨rfl, rfl⟩))
    (fun os started H enc _ => lifted os started H enc)

theorem card : Rows.LockErrsCardSaid :=
  Claim7.holds_tied_plain_at .later [] _ _ _ _ over (fun _ h => by cases h) (by kernel_rfl) (fun _ h => by cases h) lockErrs_row_tie rfl ⟨rfl, rfl⟩ (by kernel_rfl) rfl
    (fun f fn hf hfn => by
      obtain rfl : f = 4 := Option.some.inj ((show Tryz.prog.funcNamed Rows.lockErrsRow.func = some 4 by kernel_rfl).symm.trans hf) |>.symm
      obtain rfl : fn = Tryz.f4 := (Option.some.inj (Tryz.func4.symm.trans hfn)).symm
      exact ⟨by kernel_rfl, fun j t ht => by
        rw [Tryz.params4] at ht
        have hm : t ∈ [26, 27, 43] := by simpa using Array.mem_of_getElem? ht
        have hall : ([26, 27, 43].all fun u => !Tryz.prog.wantsStandIn u) = true := by kernel_rfl
        exact (show Tryz.prog.wantsStandIn t = false by simpa using List.all_eq_true.1 hall t hm)⟩)
    (by kernel_rfl)

end Go.Proofs.YtceebimgfajbcaaGreatDoor.lockErrs
namespace Go.Proofs.YtceebimgfajbcaaGreatDoor
theorem lockErrs_holds : Rows.LockErrsCardSaid := lockErrs.card
#print axioms lockErrs_holds
end Go.Proofs.YtceebimgfajbcaaGreatDoor
