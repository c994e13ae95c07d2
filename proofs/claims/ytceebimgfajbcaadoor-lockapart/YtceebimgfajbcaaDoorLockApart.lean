/-
  Of every layout and a script: LockApart returns true. A tied card: what unicode/utf8's two tables hold is listed, tied by the given tie.
-/
import Derived.Test.YtceebimgfajbcaaDoorRows
import Derived.Test.YtceebimgfajbcaaDoorTie
import Derived.Test.YtceebimgfajbcaaDoorCards
import Derived.Test.YtceebimgfajbcaaDoorJoin1
import Derived.Test.YtceebimgfajbcaaDoorLkKnown
import Derived.Test.YtceebimgfajbcaaDoorLySz5
import Derived.Test.YtceebimgfajbcaaDoorLkLong
import Derived.Test.YtceebimgfajbcaaDoorLkCount
import Derived.WalkKit
import Derived.ProofKit
import Derived.OpenShut
import Derived.ShutString
import Derived.ChangeOld
import Derived.Below
import Derived.SizedLaws
import Derived.PinnedBridge
import Derived.Lib.LaidU8T
import Derived.Lay
import Derived.LaidOnce
import Derived.SevenTiedAt
import Derived.Deep.DeepHandedRow
namespace Go.Proofs.YtceebimgfajbcaaDoor.lockApart
open Go.ChangeShapes Go.WideShapes Go.ChangeAt Go.RowKit

abbrev id0 (rs : List RtV) : List St := List.replicate rs.length idleS
theorem count_take {α : Type} {p : α → Bool} {l : List α} {q : Nat} {x : α} (h : l[q]? = some x) : (l.take (q + 1)).countP p = (l.take q).countP p + if p x = true then 1 else 0 := by
  rw [List.take_add_one, h, List.countP_append]
  simp [List.countP_cons]

set_option maxRecDepth 1000000 in
set_option maxHeartbeats 64000000 in
theorem walk (w : World) (v : Nat → Value) (l : Lay) (rs : List RtV) (h : LayRd w v l rs) (hB : LayBig l) (hcap : ∀ x ∈ rs, capOk x.2.1) (hc3 : capOk (v 3) ∧ capOk (v 0) ∧ capOk (v 2)) (oa : Option Addr) (na ca : Nat) (za : List Ac5) (ea : za.length = na) (ma : na ≤ maxLen) (sa : hasActs5 w oa za) (hT : Lib.Utf8Tabs 0 1 w) :
    Calls Tryd.prog 4 #[.agg #[v 0, v 1, v 2, v 3], .slice oa na ca] w fun e w' => e = .returned (.bool true) ∧ Below w.heap.size w w' := by
  have hlr : rs.length = l.routes.length := by rw [← h.m, List.length_map]
  obtain ⟨o0, c0, e0, _⟩ := h.s
  obtain ⟨o1, c1, e1, _⟩ := h.p
  obtain ⟨o2, c2, e2, _⟩ := h.g
  obtain ⟨o3, c3, e3, r3⟩ := h.r
  have MID : LaySmall l → IsMid l rs v := fun hs => ⟨by have := hs.s.1; omega, by have := hs.p.1; omega, by have := hs.g.1; omega, by have := hs.r.1; omega, fun x hx => by
    have := hs.r.2 x.1 (by rw [← h.m]; exact List.mem_map.2 ⟨x, hx, rfl⟩)
    exact ⟨hcap x hx, by omega, by omega, by omega⟩, hc3.2.1, hc3.2.2⟩
  have SZ : Hid (∀ W, Below w.heap.size w W → Calls Tryd.prog 12 #[.agg #[v 0, v 1, v 2, v 3]] W fun e w' => ∃ n : Int, e = .returned (.int .i64 n) ∧ 0 ≤ n ∧ n ≤ 1125899906842624 ∧ (n < 3000 → LaySmall l) ∧ Below W.heap.size W w') := fun W hW => size5_any v l rs W (h.below hW) hB
  have IS : Hid (LaySmall l → ∀ W, Below w.heap.size w W → Calls Tryd.prog 14 #[.agg #[v 0, v 1, v 2, v 3]] W fun e w' => e = .returned (.bool (isB l)) ∧ Below W.heap.size W w') := fun hs W hW => is_any v l rs W (h.below hW) hcap (LayMid.of hs hB) (tabs_below hT hW)
  have NEW : Hid (LaySmall l → isB l = true → ∀ W, Below w.heap.size w W → Calls Tryd.prog 15 #[.agg #[v 0, v 1, v 2, v 3]] W fun e w' => ∃ kb, e = .returned (.tuple #[.pointer (some ⟨kb, 0, none⟩), .int .i64 0]) ∧ LkG w w' l rs kb (id0 rs) ∧ Below W.heap.size W w') := fun hs hi W hW => new_g w W v l rs (h.below hW) (MID hs) hi hs hW
  have LGA : Hid (∀ W, Below w.heap.size w W → Calls Tryd.prog 13 #[.slice oa na ca] W fun e w' => e = .returned (.bool (longB za)) ∧ Below W.heap.size W w') := fun W hW => by subst ea; exact long_any oa ca za W (sa.below hW) ma
  have CYC : Hid (∀ (W : World) (kb : Nat) (ss : List St) (u : Nat → Value) (occ : List Bool) (lies : List Int), LkG w W l rs kb ss → InRd w u occ lies → lies.length ≤ 4294967296 → Calls Tryd.prog 17 #[.pointer (some ⟨kb, 0, none⟩), .agg #[u 0, u 1]] W fun e w' => ∃ y, e = .returned y ∧ LkG w w' l rs kb (cycG l rs ss occ lies).1 ∧ TC W w') := fun W kb ss u occ lies hk hi hl => (cyc_o w W l rs kb ss u occ lies hk hi hl).mono fun e w' ⟨b1, b2, e1, _, e3, e4⟩ => ⟨_, e1, e3, e4⟩
  have MBE : Hid (∀ (W : World) (kb : Nat) (ss : List St), LkG w W l rs kb ss → ∀ (k : Nat) (x : RtV) (s : St), rs[k]? = some x → ss[k]? = some s → mayBeF s x.1.path.length = true) := fun W kb ss hk k x s hx hs => hk.ok.sts k _ s (ways_at rs rs 0 k x hx) hs
  have LEN : Hid (∀ (W : World) (kb : Nat) (ss : List St), LkG w W l rs kb ss → ss.length = rs.length ∧ rs.length ≤ 1000) := fun W kb ss hk => by have := hk.ok.len; have := hk.ok.few.2.2.2; rw [waysG_map] at *; exact ⟨‹_›, ‹_›⟩
  have SMR : LaySmall l → ∀ x ∈ rs, x.1.path.length ≤ 1000000 ∧ x.1.points.length + x.1.flank.length ≤ 1000000 := fun hs x hx => by
    have := hs.r.2 x.1 (by rw [← h.m]; exact List.mem_map.2 ⟨x, hx, rfl⟩)
    omega
  have MAY : Hid (LaySmall l → ∀ (W U : World) (kb : Nat) (ss : List St) (vr : Value), Below w.heap.size w U → LkG w W l rs kb ss → ApartS (waysG rs rs 0) ss → rowAt U vr 4 stC ss → Calls Tryd.prog 20 #[.agg #[v 0, v 1, v 2, v 3], vr] U fun e w' => e = .returned (.bool true) ∧ Below U.heap.size U w') := fun hs W U kb ss vr hU hk hap hv => rfMay_yes v l rs ss vr U (h.below hU) hv (LEN.out W kb ss hk).1 (LEN.out W kb ss hk).2 (MBE.out W kb ss hk) hap (SMR hs)
  have HLD : Hid (LaySmall l → ∀ (W U : World) (kb : Nat) (ss : List St) (q : Nat) (x : RtV) (m t g : Int) (b : Bool) (sec : Int), Below w.heap.size w U → LkG w W l rs kb ss → rs[q]? = some x → ss[q]? = some (m, t, g, b) → Calls Tryd.prog 21 #[.agg #[v 0, v 1, v 2, v 3], .int .i64 q, .agg #[.int .i64 m, .int .i64 t, .int .i64 g, .bool b], .int .i64 sec] U fun e w' => e = .returned (.bool (holdsB sec (wayF rs (0 + q) x.1, (m, t, g, b)))) ∧ Below U.heap.size U w') := fun hs W U kb ss q x m t g b sec hU hk hx hst => rfHolds_any v l rs q x m t g b sec U (h.below hU) hx (hcap x (List.mem_of_getElem? hx)) (MBE.out W kb ss hk q x _ hx hst) (hk.ok.ways _ (List.mem_of_getElem? (ways_at rs rs 0 q x hx))).some_ (SMR hs x (List.mem_of_getElem? hx)).1
  have HSA : Hid (hasActs5 w oa za) := sa
  have HNA : Hid (za.length = na) := ea
  have HLR : Hid (rs.length = l.routes.length) := hlr
  unfold maxLen at ma
  clear MID SMR sa ea
  rw [e0, e1, e2, e3] at SZ IS NEW MAY HLD ⊢
  clear h hB hcap hT hc3 e0 e1 e2 e3 r3 hlr
  have HG0 : Hid (l.sections.length = l.sections.length ∧ l.points.length = l.points.length) := ⟨rfl, rfl⟩
  generalize hs0 : l.sections.length = n0 at *
  generalize hs1 : l.points.length = n1 at *
  generalize hs2 : l.signals.length = n2 at *
  generalize hs3 : rs.length = n3 at *
  have HS : Hid (l.sections.length = n0 ∧ l.points.length = n1 ∧ rs.length = n3) := ⟨hs0, hs1, hs3⟩
  have HS2 : Hid (l.signals.length = n2) := hs2
  clear hs0 hs1 hs2 hs3 HG0
  generalize hch : w.alloc (.cells #[.slice o0 n0 c0, .slice o1 n1 c1, .slice o2 n2 c2, .slice o3 n3 c3] 26) = w1
  have HB01 : Hid (Below w.heap.size w w1) := by show Below _ _ _; rw [← hch]; exact (by repeat' (with_reducible first | exact Below.refl _ _ | refine Below.drew ?_ | refine _root_.Go.below_drewN ?_ _ | refine Below.alloc ?_ ?_ _ | refine Below.setCell ?_ ?_ _ | exact Nat.le_refl _ | (simp; done) | (simp; omega)))
  have H0 : Hid (w1.heap[w.heap.size]? = some (.cells #[.slice o0 n0 c0, .slice o1 n1 c1, .slice o2 n2 c2, .slice o3 n3 c3] 26 (0, 0))) := by show _ = _; rw [← hch]; exact blk_new _ _
  have HUP : Hid (∀ W, Below w1.heap.size w1 W → Below w.heap.size w W) := fun W hW => HB01.out.trans (hW.mono HB01.out.size)
  obtain ⟨⟨q0, q1, q2, q3⟩, _⟩ := cells4 H0.out
  go_enter Tryd.func4, Tryd.ntmps4
  go_wp2_with fail
  clear hch
  refine (SZ.out _ HB01.out).mono ?_
  rintro e w2 ⟨n, rfl, hn0, hn1, hsm, hb2⟩
  have HB2 : Hid (Below w1.heap.size w1 w2) := hb2
  clear q0 q1 q2 q3 hb2 SZ
  obtain ⟨⟨q0, q1, q2, q3⟩, _⟩ := cells4 (blk_below HB2.out H0.out)
  by_cases hbig : (3000 : Int) ≤ n
  · clear hsm
    go_wp2_with fail
    go_ret
    exact ⟨rfl, HUP.out _ HB2.out⟩
  have HSM : Hid (LaySmall l) := hsm (by omega)
  clear hsm
  have D := LGA.out w2 (HUP.out _ HB2.out)
  generalize hla : longB za = ba at D
  have HLA : Hid (longB za = ba) := hla
  go_wp2_with fail
  refine D.mono ?_
  rintro e w3 ⟨rfl, hb⟩
  have HB3 : Hid (Below w1.heap.size w1 w3) := HB2.out.trans (hb.mono HB2.out.size)
  clear q0 q1 q2 q3 D hb hla LGA
  obtain ⟨⟨q0, q1, q2, q3⟩, _⟩ := cells4 (blk_below HB3.out H0.out)
  cases ba
  case true =>
    go_wp2_with fail
    go_ret
    exact ⟨rfl, HUP.out _ HB3.out⟩
  have D := IS.out HSM.out w3 (HUP.out _ HB3.out)
  generalize hbl : isB l = b at D
  have HBL : Hid (isB l = b) := hbl
  clear hbl
  go_wp2_with fail
  refine D.mono ?_
  rintro e w5 ⟨rfl, hb⟩
  have HB5 : Hid (Below w1.heap.size w1 w5) := HB3.out.trans (hb.mono HB3.out.size)
  clear q0 q1 q2 q3 hb D IS
  obtain ⟨⟨q0, q1, q2, q3⟩, _⟩ := cells4 (blk_below HB5.out H0.out)
  cases b
  case false =>
    go_wp2_with fail
    go_ret
    exact ⟨rfl, HUP.out _ HB5.out⟩
  have D := NEW.out HSM.out HBL.out w5 (HUP.out _ HB5.out)
  have MAY2 := (show Hid _ from MAY.out HSM.out)
  have HLD2 := (show Hid _ from HLD.out HSM.out)
  go_wp2_with fail
  refine D.mono ?_
  rintro e wn ⟨ka, rfl, hk, hb⟩
  have HBN : Hid (wn.heap[w.heap.size]? = some (.cells #[.slice o0 n0 c0, .slice o1 n1 c1, .slice o2 n2 c2, .slice o3 n3 c3] 26 (0, 0))) := blk_below (HB5.out.trans (hb.mono HB5.out.size)) H0.out
  have HKN : Hid (LkG w wn l rs ka (id0 rs)) := hk
  clear q0 q1 q2 q3 hb hk D hbig hn0 hn1 MAY HLD
  have HN03 : Hid (n0 ≤ 1000 ∧ n3 ≤ 1000) := by have a := LayOk.of HBL.out; have b := a.sec; have c := a.rts; have d := HS.out; have e := HLR.out; show _ ∧ _; omega
  have hn03 := HN03.out
  go_wp2
  go_loopg [7] 60 (fun gk i wr => ∃ (k : Nat) (ss : List St), gk = 60 - k ∧ i = .int .i64 k ∧ k ≤ 60 ∧ k ≤ na ∧ LkG w wr l rs ka ss ∧ ApartS (waysG rs rs 0) ss ∧ wr.heap[w.heap.size]? = some (.cells #[.slice o0 n0 c0, .slice o1 n1 c1, .slice o2 n2 c2, .slice o3 n3 c3] 26 (0, 0)))
  case atStart => exact ⟨0, _, rfl, rfl, by omega, by omega, HKN.out, apart_idle _ _, HBN.out⟩
  case round =>
    obtain ⟨k, ss, rfl, rfl, hk, hkn, hlk, hap, hbx⟩ := hrel
    have HT1 : Hid (LkG w wr l rs ka ss) := hlk
    have HAP : Hid (ApartS (waysG rs rs 0) ss) := hap
    have HBX : Hid (wr.heap[w.heap.size]? = some (.cells #[.slice o0 n0 c0, .slice o1 n1 c1, .slice o2 n2 c2, .slice o3 n3 c3] 26 (0, 0))) := hbx
    clear hlk hap hbx HKN HBN
    by_cases hlt : k < na
    · by_cases h60 : k < 60
      · obtain ⟨x, hx⟩ := at_of (l := za) (k := k) (by rw [HNA.out]; exact hlt)
        obtain ⟨bo, off, rfl, vv, c0, c1, c2, c3, c4, c5, hin, hrr⟩ := HSA.out k x hx
        have hnl := not_long HLA.out h60 hx
        obtain ⟨kd, ⟨occ, lies⟩, ⟨ck, cr⟩, rr⟩ := x
        simp only at c0 c1 c2 c3 c4 c5 hin hnl hrr
        have HLN : Hid (lies.length ≤ 4294967296) := by show _ ≤ _; omega
        have HIN : Hid (InRd w vv occ lies) := hin
        have a0 := cell_kept HT1.out.bl c0
        have a5 := cell_kept HT1.out.bl c5
        have a1 := cell_kept HT1.out.bl c1
        have a2 : wr.cell? ⟨bo, off + k * 6 + 1 + 0, none⟩ = some (vv 0) := cell_kept HT1.out.bl c1
        have a3 : wr.cell? ⟨bo, off + k * 6 + 1 + 1, none⟩ = some (vv 1) := cell_kept HT1.out.bl c2
        have d1 : w.cell? ⟨bo, off + k * 6 + 1 + 0, none⟩ = some (vv 0) := c1
        have d2 : w.cell? ⟨bo, off + k * 6 + 1 + 1, none⟩ = some (vv 1) := c2
        have d3 : w.cell? ⟨bo, off + k * 6 + 3 + 0, none⟩ = some (.int .i64 ck) := c3
        have d4 : w.cell? ⟨bo, off + k * 6 + 3 + 1, none⟩ = some (.int .i64 cr) := c4
        have hki : (k : Int) < (na : Int) := by omega
        have hkj : (k : Int) < 60 := by omega
        have HRR : Hid (rowAt w (vv 2) 4 stC rr ∧ rr.length ≤ 50) := ⟨hrr, by omega⟩
        clear hx hin hnl hrr c5 c0
        by_cases hkd : kd = 1
        · subst hkd
          go_wp2_with fail
          have y1 := ext_cell c1
          have y2 := ext_cell d1
          have y3 := ext_cell d2
          have y4 := ext_cell c3
          have y5 := ext_cell d3
          have y6 := ext_cell d4
          haveI := ext_some w
          have HBQ : Hid (Below w.heap.size w wr.drew) := HT1.out.bl.drew
          have HTQ : Hid (LkG w wr.drew l rs ka ss) := HT1.out.step (Below.refl wr.heap.size wr).drew
          have HTC : Hid (TC wr wr.drew) := TC.of_below (Below.refl wr.heap.size wr).drew
          clear a5 c1 c2 c3 c4 d1 d2 d3 d4 a0 a1 a2 a3
          refine wp_region_mix_seq (C := fun W => ∃ y : Ext w, W = y.z) [0, 1, 2, 3, 4, 5, 6, 7, 8, 9, 10, 11] (by kernel_rfl) (by kernel_rfl) (by kernel_rfl) (by kernel_rfl) (by simp only [List.filterMap_cons, List.getElem?_toArray, List.getElem?_cons_zero, List.getElem?_cons_succ, List.filterMap_nil]; rfl) ⟨⟨_, HBQ.out⟩, rfl⟩ ?_
          generalize wr.drew = wd at *
          (repeat (first | (with_reducible refine mix_read (by kernel_rfl) ?_; go_big_quiet_want; go_big_quiet_op; go_big_quiet_on; with_reducible refine wpQuiet_nil ?_) | (with_reducible refine mix_pass (by kernel_rfl) ?_; go_big_quiet_skip; with_reducible refine wpQuiet_nil ?_)))
          with_reducible refine mix_call (by kernel_rfl) (by kernel_rfl) ((cmd_o w wd l rs ka ss vv occ lies ck cr HTQ.out HIN.out HLN.out).mono ?_) (by kernel_rfl)
          rintro e w2 ⟨rfl, hk2, hc2'⟩
          have hc2 : TC wr w2 := HTC.out.trans hc2'
          clear hc2'
          have HAP2 : Hid (ApartS (waysG rs rs 0) (cmdG l rs ss occ lies ck cr).2) := HAP.out.cmd (foeOk_ways rs) occ lies ck cr
          refine ⟨_, rfl, ⟨⟨_, hk2.bl⟩, rfl⟩, ?_⟩
          have HK2 : Hid (LkG w w2 l rs ka ((cmdG l rs ss occ lies ck cr).2)) := hk2
          have HBX2 : Hid (w2.heap[w.heap.size]? = some (.cells #[.slice o0 n0 c0, .slice o1 n1 c1, .slice o2 n2 c2, .slice o3 n3 c3] 26 (0, 0))) := hc2.blk HBX.out (by decide)
          clear hk2 hc2
          generalize (cmdG l rs ss occ lies ck cr).2 = ss2 at *
          simp only [Act.put, List.setIfInBounds_toArray, List.set_cons_zero, List.set_cons_succ]
          (repeat (first | (with_reducible refine mix_read (by kernel_rfl) ?_; go_big_quiet_want; go_big_quiet_op; go_big_quiet_on; with_reducible refine wpQuiet_nil ?_) | (with_reducible refine mix_pass (by kernel_rfl) ?_; go_big_quiet_skip; with_reducible refine wpQuiet_nil ?_)))
          with_reducible refine mix_end ?_
          intro _
          clear y1 y2 y3 y4 y5 y6
          go_wp2_with fail
          refine (routes_g w w2 l rs ka ss2 HK2.out).mono ?_
          rintro e w3 ⟨vr, rfl, ho, hb⟩
          have HK3 : Hid (LkG w w3 l rs ka ss2) := HK2.out.step hb
          have HBX3 : Hid (w3.heap[w.heap.size]? = some (.cells #[.slice o0 n0 c0, .slice o1 n1 c1, .slice o2 n2 c2, .slice o3 n3 c3] 26 (0, 0))) := blk_below hb HBX2.out
          have HRW : Hid (rowAt w3 vr 4 stC ss2) := rowAt_of_owns (cs := stC) (fun _ => rfl) ho
          clear ho hb
          have hl2 : ss2.length = n3 := (LEN.out w3 ka ss2 HK3.out).1
          obtain ⟨orr, crr, er, -⟩ := HRW.out
          rw [hl2] at er
          subst er
          have HL2 : Hid (ss2.length = n3) := hl2
          clear hl2
          have D := MAY2.out w3 w3 ka ss2 _ HK3.out.bl HK3.out HAP2.out HRW.out
          obtain ⟨⟨q0, q1, q2, q3⟩, _⟩ := cells4 HBX3.out
          go_wp2_with fail
          refine D.mono ?_
          rintro e w4 ⟨rfl, hb⟩
          have HK4 : Hid (LkG w w4 l rs ka ss2) := HK3.out.step hb
          have HBX4 : Hid (w4.heap[w.heap.size]? = some (.cells #[.slice o0 n0 c0, .slice o1 n1 c1, .slice o2 n2 c2, .slice o3 n3 c3] 26 (0, 0))) := blk_below hb HBX3.out
          have HRW4 : Hid (rowAt w4 (.slice orr n3 crr) 4 stC ss2) := HRW.out.below hb
          clear hb D q0 q1 q2 q3 HRW HK3 HBX3
          go_wp2
          go_loopg [9] n0 (fun gk i wr => ∃ s : Nat, gk = n0 - s ∧ i = .int .i64 s ∧ s ≤ n0 ∧ Below w4.heap.size w4 wr)
          case atStart => exact ⟨0, rfl, rfl, by omega, Below.refl _ _⟩
          case round =>
            obtain ⟨sec, rfl, rfl, hsn, hb⟩ := hrel
            have HB5 : Hid (Below w4.heap.size w4 wr) := hb
            clear hb
            obtain ⟨⟨q0, q1, q2, q3⟩, _⟩ := cells4 (blk_below HB5.out HBX4.out)
            by_cases hsl : sec < n0
            · have hsi : (sec : Int) < (n0 : Int) := by omega
              go_wp2_with fail
              clear q0 q1 q2 q3
              go_loopg [10, 11] n3 (fun gk c i wr => ∃ q d : Nat, gk = n3 - q ∧ c = .int .i64 d ∧ i = .int .i64 q ∧ q ≤ n3 ∧ d ≤ q ∧ d = (((waysG rs rs 0).zip ss2).take q).countP (holdsB (sec : Int)) ∧ Below w4.heap.size w4 wr)
              case atStart => exact ⟨0, 0, rfl, rfl, rfl, by omega, by omega, by simp, HB5.out⟩
              case round =>
                obtain ⟨q, d, rfl, rfl, rfl, hq, hdq, hd, hb⟩ := hrel
                have HD : Hid (d = (((waysG rs rs 0).zip ss2).take q).countP (holdsB (sec : Int))) := hd
                have HB6 : Hid (Below w4.heap.size w4 wr) := hb
                clear hb hd
                by_cases hqn : q < n3
                · have hqi : (q : Int) < (n3 : Int) := by omega
                  obtain ⟨x, hx⟩ := at_of (l := rs) (k := q) (by have := HS.out.2.2; omega)
                  obtain ⟨⟨m, t, g, b⟩, hst⟩ := at_of (l := ss2) (k := q) (by have := HL2.out; omega)
                  obtain ⟨gs, fs, rfl, s0, s1, s2, s3⟩ := row_st HRW4.out q _ hst
                  simp only at s0 s1 s2 s3
                  have CT : Hid ((((waysG rs rs 0).zip ss2).take (q + 1)).countP (holdsB (sec : Int)) = (((waysG rs rs 0).zip ss2).take q).countP (holdsB (sec : Int)) + if holdsB (sec : Int) (wayF rs (0 + q) x.1, (m, t, g, b)) = true then 1 else 0) := count_take (by rw [List.getElem?_zip_eq_some]; exact ⟨ways_at rs rs 0 q x hx, hst⟩)
                  have C : Hid (∀ U, Below w4.heap.size w4 U → Calls Tryd.prog 21 #[.agg #[.slice o0 n0 c0, .slice o1 n1 c1, .slice o2 n2 c2, .slice o3 n3 c3], .int .i64 q, .agg #[.int .i64 m, .int .i64 t, .int .i64 g, .bool b], .int .i64 sec] U fun e w' => e = .returned (.bool (holdsB (sec : Int) (wayF rs (0 + q) x.1, (m, t, g, b)))) ∧ Below U.heap.size U w') := fun U hU => HLD2.out w4 U ka ss2 q x m t g b sec (HK4.out.bl.trans (hU.mono HK4.out.bl.size)) HK4.out hx hst
                  generalize holdsB (sec : Int) (wayF rs (0 + q) x.1, (m, t, g, b)) = bh at *
                  obtain ⟨⟨q0, q1, q2, q3⟩, _⟩ := cells4 HBX4.out
                  have y0 := ext_cell q0
                  have y1 := ext_cell q1
                  have y2 := ext_cell q2
                  have y3 := ext_cell q3
                  have y4 := ext_cell s0
                  have y5 := ext_cell s1
                  have y6 := ext_cell s2
                  have y7 := ext_cell s3
                  haveI := ext_some w4
                  have HBQ : Hid (Below w4.heap.size w4 wr.drew) := HB6.out.drew
                  clear hx hst s0 s1 s2 s3 q0 q1 q2 q3
                  have hd1 : (d : Int) + 1 ≤ 1000 := by omega
                  cases bh
                  all_goals
                    go_wp2_with fail
                    refine wp_region_mix_seq (C := fun W => ∃ y : Ext w4, W = y.z) [0, 1, 2, 3, 4, 5, 6, 7] (by kernel_rfl) (by kernel_rfl) (by kernel_rfl) (by kernel_rfl) (by simp only [List.filterMap_cons, List.getElem?_toArray, List.getElem?_cons_zero, List.getElem?_cons_succ, List.filterMap_nil]; rfl) ⟨⟨_, HBQ.out⟩, rfl⟩ ?_
                    generalize wr.drew = wd at *
                    (repeat (first | (with_reducible refine mix_read (by kernel_rfl) ?_; go_big_quiet_want; go_big_quiet_op; go_big_quiet_on; with_reducible refine wpQuiet_nil ?_) | (with_reducible refine mix_pass (by kernel_rfl) ?_; go_big_quiet_skip; with_reducible refine wpQuiet_nil ?_)))
                    with_reducible refine mix_call (by kernel_rfl) (by kernel_rfl) ((C.out _ HBQ.out).mono ?_) (by kernel_rfl)
                    rintro e w6 ⟨rfl, hb⟩
                    have HB7 : Hid (Below w4.heap.size w4 w6) := HBQ.out.trans (hb.mono HBQ.out.size)
                    clear hb
                    refine ⟨_, rfl, ⟨⟨_, HB7.out⟩, rfl⟩, ?_⟩
                    simp only [Act.put, List.setIfInBounds_toArray, List.set_cons_zero, List.set_cons_succ]
                    (repeat (first | (with_reducible refine mix_read (by kernel_rfl) ?_; go_big_quiet_want; go_big_quiet_op; go_big_quiet_on; with_reducible refine wpQuiet_nil ?_) | (with_reducible refine mix_pass (by kernel_rfl) ?_; go_big_quiet_skip; with_reducible refine wpQuiet_nil ?_)))
                    with_reducible refine mix_end ?_
                    intro _
                    clear y0 y1 y2 y3 y4 y5 y6 y7
                    go_wp2
                    go_roundg (n3 - (q + 1))
                    case rel => first | exact ⟨q + 1, d, rfl, rfl, by go_num, by omega, by omega, by rw [CT.out, ← HD.out]; rfl, HB7.out⟩ | exact ⟨q + 1, d + 1, rfl, by go_num, by go_num, by omega, by omega, by rw [CT.out, ← HD.out]; rfl, HB7.out⟩
                    case measure => omega
                · have hqi : ¬ (q : Int) < (n3 : Int) := by omega
                  have hfull : d = ((waysG rs rs 0).zip ss2).countP (holdsB (sec : Int)) := by
                    have h0 := HD.out
                    rw [List.take_of_length_le (by rw [List.length_zip, waysG_map]; have := HS.out.2.2; omega)] at h0
                    exact h0
                  have h1 := hold_one HAP2.out (sec : Int)
                  have h2 := hold_some HAP2.out (sec : Int)
                  rw [← hfull] at h1 h2
                  have D := holder_g w wr l rs ka ss2 (sec : Int) (HK4.out.step HB6.out)
                  generalize holderF (waysG rs rs 0) ss2 (sec : Int) = hf at *
                  clear hfull HD
                  obtain rfl | rfl : d = 0 ∨ d = 1 := by omega
                  · have hneg : ¬ (0 : Int) ≤ hf := fun e => by have := h2.1 e; omega
                    clear h1 h2
                    go_wp2_with fail
                    refine D.mono ?_
                    rintro e w7 ⟨rfl, hb⟩
                    have HB8 : Hid (Below w4.heap.size w4 w7) := HB6.out.trans (hb.mono HB6.out.size)
                    clear hb D
                    go_wp2
                    go_roundg (n0 - (sec + 1))
                    case rel => exact ⟨sec + 1, rfl, by go_num, by omega, HB8.out⟩
                    case measure => omega
                  · have hpos : (0 : Int) ≤ hf := h2.2 rfl
                    clear h1 h2
                    go_wp2_with fail
                    refine D.mono ?_
                    rintro e w7 ⟨rfl, hb⟩
                    have HB8 : Hid (Below w4.heap.size w4 w7) := HB6.out.trans (hb.mono HB6.out.size)
                    clear hb D
                    go_wp2
                    go_roundg (n0 - (sec + 1))
                    case rel => exact ⟨sec + 1, rfl, by go_num, by omega, HB8.out⟩
                    case measure => omega
            · have hsi : ¬ (sec : Int) < (n0 : Int) := by omega
              go_wp2
              go_roundg (60 - (k + 1))
              case rel => exact ⟨k + 1, ss2, rfl, by go_num, by omega, by omega, HK4.out.step HB5.out, HAP2.out, blk_below HB5.out HBX4.out⟩
              case measure => omega
        by_cases hkd2 : kd = 2
        · subst hkd2
          clear hkd
          have D := CYC.out wr ka ss vv occ lies HT1.out HIN.out HLN.out
          clear c1 c2 c3 c4 d1 d2 d3 d4
          go_wp2_with fail
          refine D.mono ?_
          rintro e w2 ⟨yy, rfl, hk2, hc2⟩
          have HAP2 : Hid (ApartS (waysG rs rs 0) (cycG l rs ss occ lies).1) := HAP.out.cyc occ lies
          have HK2 : Hid (LkG w w2 l rs ka ((cycG l rs ss occ lies).1)) := hk2
          have HBX2 : Hid (w2.heap[w.heap.size]? = some (.cells #[.slice o0 n0 c0, .slice o1 n1 c1, .slice o2 n2 c2, .slice o3 n3 c3] 26 (0, 0))) := hc2.blk HBX.out (by decide)
          clear hk2 hc2
          generalize (cycG l rs ss occ lies).1 = ss2 at *
          clear D a0 a1 a2 a3 a5
          go_wp2_with fail
          refine (routes_g w w2 l rs ka ss2 HK2.out).mono ?_
          rintro e w3 ⟨vr, rfl, ho, hb⟩
          have HK3 : Hid (LkG w w3 l rs ka ss2) := HK2.out.step hb
          have HBX3 : Hid (w3.heap[w.heap.size]? = some (.cells #[.slice o0 n0 c0, .slice o1 n1 c1, .slice o2 n2 c2, .slice o3 n3 c3] 26 (0, 0))) := blk_below hb HBX2.out
          have HRW : Hid (rowAt w3 vr 4 stC ss2) := rowAt_of_owns (cs := stC) (fun _ => rfl) ho
          clear ho hb
          have hl2 : ss2.length = n3 := (LEN.out w3 ka ss2 HK3.out).1
          obtain ⟨orr, crr, er, -⟩ := HRW.out
          rw [hl2] at er
          subst er
          have HL2 : Hid (ss2.length = n3) := hl2
          clear hl2
          have D := MAY2.out w3 w3 ka ss2 _ HK3.out.bl HK3.out HAP2.out HRW.out
          obtain ⟨⟨q0, q1, q2, q3⟩, _⟩ := cells4 HBX3.out
          go_wp2_with fail
          refine D.mono ?_
          rintro e w4 ⟨rfl, hb⟩
          have HK4 : Hid (LkG w w4 l rs ka ss2) := HK3.out.step hb
          have HBX4 : Hid (w4.heap[w.heap.size]? = some (.cells #[.slice o0 n0 c0, .slice o1 n1 c1, .slice o2 n2 c2, .slice o3 n3 c3] 26 (0, 0))) := blk_below hb HBX3.out
          have HRW4 : Hid (rowAt w4 (.slice orr n3 crr) 4 stC ss2) := HRW.out.below hb
          clear hb D q0 q1 q2 q3 HRW HK3 HBX3
          go_wp2
          go_loopg [9] n0 (fun gk i wr => ∃ s : Nat, gk = n0 - s ∧ i = .int .i64 s ∧ s ≤ n0 ∧ Below w4.heap.size w4 wr)
          case atStart => exact ⟨0, rfl, rfl, by omega, Below.refl _ _⟩
          case round =>
            obtain ⟨sec, rfl, rfl, hsn, hb⟩ := hrel
            have HB5 : Hid (Below w4.heap.size w4 wr) := hb
            clear hb
            obtain ⟨⟨q0, q1, q2, q3⟩, _⟩ := cells4 (blk_below HB5.out HBX4.out)
            by_cases hsl : sec < n0
            · have hsi : (sec : Int) < (n0 : Int) := by omega
              go_wp2_with fail
              clear q0 q1 q2 q3
              go_loopg [10, 11] n3 (fun gk c i wr => ∃ q d : Nat, gk = n3 - q ∧ c = .int .i64 d ∧ i = .int .i64 q ∧ q ≤ n3 ∧ d ≤ q ∧ d = (((waysG rs rs 0).zip ss2).take q).countP (holdsB (sec : Int)) ∧ Below w4.heap.size w4 wr)
              case atStart => exact ⟨0, 0, rfl, rfl, rfl, by omega, by omega, by simp, HB5.out⟩
              case round =>
                obtain ⟨q, d, rfl, rfl, rfl, hq, hdq, hd, hb⟩ := hrel
                have HD : Hid (d = (((waysG rs rs 0).zip ss2).take q).countP (holdsB (sec : Int))) := hd
                have HB6 : Hid (Below w4.heap.size w4 wr) := hb
                clear hb hd
                by_cases hqn : q < n3
                · have hqi : (q : Int) < (n3 : Int) := by omega
                  obtain ⟨x, hx⟩ := at_of (l := rs) (k := q) (by have := HS.out.2.2; omega)
                  obtain ⟨⟨m, t, g, b⟩, hst⟩ := at_of (l := ss2) (k := q) (by have := HL2.out; omega)
                  obtain ⟨gs, fs, rfl, s0, s1, s2, s3⟩ := row_st HRW4.out q _ hst
                  simp only at s0 s1 s2 s3
                  have CT : Hid ((((waysG rs rs 0).zip ss2).take (q + 1)).countP (holdsB (sec : Int)) = (((waysG rs rs 0).zip ss2).take q).countP (holdsB (sec : Int)) + if holdsB (sec : Int) (wayF rs (0 + q) x.1, (m, t, g, b)) = true then 1 else 0) := count_take (by rw [List.getElem?_zip_eq_some]; exact ⟨ways_at rs rs 0 q x hx, hst⟩)
                  have C : Hid (∀ U, Below w4.heap.size w4 U → Calls Tryd.prog 21 #[.agg #[.slice o0 n0 c0, .slice o1 n1 c1, .slice o2 n2 c2, .slice o3 n3 c3], .int .i64 q, .agg #[.int .i64 m, .int .i64 t, .int .i64 g, .bool b], .int .i64 sec] U fun e w' => e = .returned (.bool (holdsB (sec : Int) (wayF rs (0 + q) x.1, (m, t, g, b)))) ∧ Below U.heap.size U w') := fun U hU => HLD2.out w4 U ka ss2 q x m t g b sec (HK4.out.bl.trans (hU.mono HK4.out.bl.size)) HK4.out hx hst
                  generalize holdsB (sec : Int) (wayF rs (0 + q) x.1, (m, t, g, b)) = bh at *
                  obtain ⟨⟨q0, q1, q2, q3⟩, _⟩ := cells4 HBX4.out
                  have y0 := ext_cell q0
                  have y1 := ext_cell q1
                  have y2 := ext_cell q2
                  have y3 := ext_cell q3
                  have y4 := ext_cell s0
                  have y5 := ext_cell s1
                  have y6 := ext_cell s2
                  have y7 := ext_cell s3
                  haveI := ext_some w4
                  have HBQ : Hid (Below w4.heap.size w4 wr.drew) := HB6.out.drew
                  clear hx hst s0 s1 s2 s3 q0 q1 q2 q3
                  have hd1 : (d : Int) + 1 ≤ 1000 := by omega
                  cases bh
                  all_goals
                    go_wp2_with fail
                    refine wp_region_mix_seq (C := fun W => ∃ y : Ext w4, W = y.z) [0, 1, 2, 3, 4, 5, 6, 7] (by kernel_rfl) (by kernel_rfl) (by kernel_rfl) (by kernel_rfl) (by simp only [List.filterMap_cons, List.getElem?_toArray, List.getElem?_cons_zero, List.getElem?_cons_succ, List.filterMap_nil]; rfl) ⟨⟨_, HBQ.out⟩, rfl⟩ ?_
                    generalize wr.drew = wd at *
                    (repeat (first | (with_reducible refine mix_read (by kernel_rfl) ?_; go_big_quiet_want; go_big_quiet_op; go_big_quiet_on; with_reducible refine wpQuiet_nil ?_) | (with_reducible refine mix_pass (by kernel_rfl) ?_; go_big_quiet_skip; with_reducible refine wpQuiet_nil ?_)))
                    with_reducible refine mix_call (by kernel_rfl) (by kernel_rfl) ((C.out _ HBQ.out).mono ?_) (by kernel_rfl)
                    rintro e w6 ⟨rfl, hb⟩
                    have HB7 : Hid (Below w4.heap.size w4 w6) := HBQ.out.trans (hb.mono HBQ.out.size)
                    clear hb
                    refine ⟨_, rfl, ⟨⟨_, HB7.out⟩, rfl⟩, ?_⟩
                    simp only [Act.put, List.setIfInBounds_toArray, List.set_cons_zero, List.set_cons_succ]
                    (repeat (first | (with_reducible refine mix_read (by kernel_rfl) ?_; go_big_quiet_want; go_big_quiet_op; go_big_quiet_on; with_reducible refine wpQuiet_nil ?_) | (with_reducible refine mix_pass (by kernel_rfl) ?_; go_big_quiet_skip; with_reducible refine wpQuiet_nil ?_)))
                    with_reducible refine mix_end ?_
                    intro _
                    clear y0 y1 y2 y3 y4 y5 y6 y7
                    go_wp2
                    go_roundg (n3 - (q + 1))
                    case rel => first | exact ⟨q + 1, d, rfl, rfl, by go_num, by omega, by omega, by rw [CT.out, ← HD.out]; rfl, HB7.out⟩ | exact ⟨q + 1, d + 1, rfl, by go_num, by go_num, by omega, by omega, by rw [CT.out, ← HD.out]; rfl, HB7.out⟩
                    case measure => omega
                · have hqi : ¬ (q : Int) < (n3 : Int) := by omega
                  have hfull : d = ((waysG rs rs 0).zip ss2).countP (holdsB (sec : Int)) := by
                    have h0 := HD.out
                    rw [List.take_of_length_le (by rw [List.length_zip, waysG_map]; have := HS.out.2.2; omega)] at h0
                    exact h0
                  have h1 := hold_one HAP2.out (sec : Int)
                  have h2 := hold_some HAP2.out (sec : Int)
                  rw [← hfull] at h1 h2
                  have D := holder_g w wr l rs ka ss2 (sec : Int) (HK4.out.step HB6.out)
                  generalize holderF (waysG rs rs 0) ss2 (sec : Int) = hf at *
                  clear hfull HD
                  obtain rfl | rfl : d = 0 ∨ d = 1 := by omega
                  · have hneg : ¬ (0 : Int) ≤ hf := fun e => by have := h2.1 e; omega
                    clear h1 h2
                    go_wp2_with fail
                    refine D.mono ?_
                    rintro e w7 ⟨rfl, hb⟩
                    have HB8 : Hid (Below w4.heap.size w4 w7) := HB6.out.trans (hb.mono HB6.out.size)
                    clear hb D
                    go_wp2
                    go_roundg (n0 - (sec + 1))
                    case rel => exact ⟨sec + 1, rfl, by go_num, by omega, HB8.out⟩
                    case measure => omega
                  · have hpos : (0 : Int) ≤ hf := h2.2 rfl
                    clear h1 h2
                    go_wp2_with fail
                    refine D.mono ?_
                    rintro e w7 ⟨rfl, hb⟩
                    have HB8 : Hid (Below w4.heap.size w4 w7) := HB6.out.trans (hb.mono HB6.out.size)
                    clear hb D
                    go_wp2
                    go_roundg (n0 - (sec + 1))
                    case rel => exact ⟨sec + 1, rfl, by go_num, by omega, HB8.out⟩
                    case measure => omega
            · have hsi : ¬ (sec : Int) < (n0 : Int) := by omega
              go_wp2
              go_roundg (60 - (k + 1))
              case rel => exact ⟨k + 1, ss2, rfl, by go_num, by omega, by omega, HK4.out.step HB5.out, HAP2.out, blk_below HB5.out HBX4.out⟩
              case measure => omega
        · have hkf : (kd == 1) = false := by simp [hkd]
          have hkf2 : (kd == 2) = false := by simp [hkd2]
          have D := set_g w wr l rs ka ss rr (vv 2) HT1.out (HRR.out.1.below HT1.out.bl) (by have := HRR.out.2; omega)
          clear c1 c2 c3 c4 d1 d2 d3 d4 hkd hkd2
          go_wp2_with fail
          refine D.mono ?_
          rintro e w2 ⟨bs, rfl, hk2, hc2⟩
          have HAP2 : Hid (ApartS (waysG rs rs 0) (setF rs ss rr)) := setF_apart HAP.out rr
          have HK2 : Hid (LkG w w2 l rs ka (setF rs ss rr)) := hk2
          have HBX2 : Hid (w2.heap[w.heap.size]? = some (.cells #[.slice o0 n0 c0, .slice o1 n1 c1, .slice o2 n2 c2, .slice o3 n3 c3] 26 (0, 0))) := hc2.blk HBX.out (by decide)
          clear hk2 hc2
          generalize setF rs ss rr = ss2 at *
          clear D a0 a1 a2 a3 a5
          go_wp2_with fail
          refine (routes_g w w2 l rs ka ss2 HK2.out).mono ?_
          rintro e w3 ⟨vr, rfl, ho, hb⟩
          have HK3 : Hid (LkG w w3 l rs ka ss2) := HK2.out.step hb
          have HBX3 : Hid (w3.heap[w.heap.size]? = some (.cells #[.slice o0 n0 c0, .slice o1 n1 c1, .slice o2 n2 c2, .slice o3 n3 c3] 26 (0, 0))) := blk_below hb HBX2.out
          have HRW : Hid (rowAt w3 vr 4 stC ss2) := rowAt_of_owns (cs := stC) (fun _ => rfl) ho
          clear ho hb
          have hl2 : ss2.length = n3 := (LEN.out w3 ka ss2 HK3.out).1
          obtain ⟨orr, crr, er, -⟩ := HRW.out
          rw [hl2] at er
          subst er
          have HL2 : Hid (ss2.length = n3) := hl2
          clear hl2
          have D := MAY2.out w3 w3 ka ss2 _ HK3.out.bl HK3.out HAP2.out HRW.out
          obtain ⟨⟨q0, q1, q2, q3⟩, _⟩ := cells4 HBX3.out
          go_wp2_with fail
          refine D.mono ?_
          rintro e w4 ⟨rfl, hb⟩
          have HK4 : Hid (LkG w w4 l rs ka ss2) := HK3.out.step hb
          have HBX4 : Hid (w4.heap[w.heap.size]? = some (.cells #[.slice o0 n0 c0, .slice o1 n1 c1, .slice o2 n2 c2, .slice o3 n3 c3] 26 (0, 0))) := blk_below hb HBX3.out
          have HRW4 : Hid (rowAt w4 (.slice orr n3 crr) 4 stC ss2) := HRW.out.below hb
          clear hb D q0 q1 q2 q3 HRW HK3 HBX3
          go_wp2
          go_loopg [9] n0 (fun gk i wr => ∃ s : Nat, gk = n0 - s ∧ i = .int .i64 s ∧ s ≤ n0 ∧ Below w4.heap.size w4 wr)
          case atStart => exact ⟨0, rfl, rfl, by omega, Below.refl _ _⟩
          case round =>
            obtain ⟨sec, rfl, rfl, hsn, hb⟩ := hrel
            have HB5 : Hid (Below w4.heap.size w4 wr) := hb
            clear hb
            obtain ⟨⟨q0, q1, q2, q3⟩, _⟩ := cells4 (blk_below HB5.out HBX4.out)
            by_cases hsl : sec < n0
            · have hsi : (sec : Int) < (n0 : Int) := by omega
              go_wp2_with fail
              clear q0 q1 q2 q3
              go_loopg [10, 11] n3 (fun gk c i wr => ∃ q d : Nat, gk = n3 - q ∧ c = .int .i64 d ∧ i = .int .i64 q ∧ q ≤ n3 ∧ d ≤ q ∧ d = (((waysG rs rs 0).zip ss2).take q).countP (holdsB (sec : Int)) ∧ Below w4.heap.size w4 wr)
              case atStart => exact ⟨0, 0, rfl, rfl, rfl, by omega, by omega, by simp, HB5.out⟩
              case round =>
                obtain ⟨q, d, rfl, rfl, rfl, hq, hdq, hd, hb⟩ := hrel
                have HD : Hid (d = (((waysG rs rs 0).zip ss2).take q).countP (holdsB (sec : Int))) := hd
                have HB6 : Hid (Below w4.heap.size w4 wr) := hb
                clear hb hd
                by_cases hqn : q < n3
                · have hqi : (q : Int) < (n3 : Int) := by omega
                  obtain ⟨x, hx⟩ := at_of (l := rs) (k := q) (by have := HS.out.2.2; omega)
                  obtain ⟨⟨m, t, g, b⟩, hst⟩ := at_of (l := ss2) (k := q) (by have := HL2.out; omega)
                  obtain ⟨gs, fs, rfl, s0, s1, s2, s3⟩ := row_st HRW4.out q _ hst
                  simp only at s0 s1 s2 s3
                  have CT : Hid ((((waysG rs rs 0).zip ss2).take (q + 1)).countP (holdsB (sec : Int)) = (((waysG rs rs 0).zip ss2).take q).countP (holdsB (sec : Int)) + if holdsB (sec : Int) (wayF rs (0 + q) x.1, (m, t, g, b)) = true then 1 else 0) := count_take (by rw [List.getElem?_zip_eq_some]; exact ⟨ways_at rs rs 0 q x hx, hst⟩)
                  have C : Hid (∀ U, Below w4.heap.size w4 U → Calls Tryd.prog 21 #[.agg #[.slice o0 n0 c0, .slice o1 n1 c1, .slice o2 n2 c2, .slice o3 n3 c3], .int .i64 q, .agg #[.int .i64 m, .int .i64 t, .int .i64 g, .bool b], .int .i64 sec] U fun e w' => e = .returned (.bool (holdsB (sec : Int) (wayF rs (0 + q) x.1, (m, t, g, b)))) ∧ Below U.heap.size U w') := fun U hU => HLD2.out w4 U ka ss2 q x m t g b sec (HK4.out.bl.trans (hU.mono HK4.out.bl.size)) HK4.out hx hst
                  generalize holdsB (sec : Int) (wayF rs (0 + q) x.1, (m, t, g, b)) = bh at *
                  obtain ⟨⟨q0, q1, q2, q3⟩, _⟩ := cells4 HBX4.out
                  have y0 := ext_cell q0
                  have y1 := ext_cell q1
                  have y2 := ext_cell q2
                  have y3 := ext_cell q3
                  have y4 := ext_cell s0
                  have y5 := ext_cell s1
                  have y6 := ext_cell s2
                  have y7 := ext_cell s3
                  haveI := ext_some w4
                  have HBQ : Hid (Below w4.heap.size w4 wr.drew) := HB6.out.drew
                  clear hx hst s0 s1 s2 s3 q0 q1 q2 q3
                  have hd1 : (d : Int) + 1 ≤ 1000 := by omega
                  cases bh
                  all_goals
                    go_wp2_with fail
                    refine wp_region_mix_seq (C := fun W => ∃ y : Ext w4, W = y.z) [0, 1, 2, 3, 4, 5, 6, 7] (by kernel_rfl) (by kernel_rfl) (by kernel_rfl) (by kernel_rfl) (by simp only [List.filterMap_cons, List.getElem?_toArray, List.getElem?_cons_zero, List.getElem?_cons_succ, List.filterMap_nil]; rfl) ⟨⟨_, HBQ.out⟩, rfl⟩ ?_
                    generalize wr.drew = wd at *
                    (repeat (first | (with_reducible refine mix_read (by kernel_rfl) ?_; go_big_quiet_want; go_big_quiet_op; go_big_quiet_on; with_reducible refine wpQuiet_nil ?_) | (with_reducible refine mix_pass (by kernel_rfl) ?_; go_big_quiet_skip; with_reducible refine wpQuiet_nil ?_)))
                    with_reducible refine mix_call (by kernel_rfl) (by kernel_rfl) ((C.out _ HBQ.out).mono ?_) (by kernel_rfl)
                    rintro e w6 ⟨rfl, hb⟩
                    have HB7 : Hid (Below w4.heap.size w4 w6) := HBQ.out.trans (hb.mono HBQ.out.size)
                    clear hb
                    refine ⟨_, rfl, ⟨⟨_, HB7.out⟩, rfl⟩, ?_⟩
                    simp only [Act.put, List.setIfInBounds_toArray, List.set_cons_zero, List.set_cons_succ]
                    (repeat (first | (with_reducible refine mix_read (by kernel_rfl) ?_; go_big_quiet_want; go_big_quiet_op; go_big_quiet_on; with_reducible refine wpQuiet_nil ?_) | (with_reducible refine mix_pass (by kernel_rfl) ?_; go_big_quiet_skip; with_reducible refine wpQuiet_nil ?_)))
                    with_reducible refine mix_end ?_
                    intro _
                    clear y0 y1 y2 y3 y4 y5 y6 y7
                    go_wp2
                    go_roundg (n3 - (q + 1))
                    case rel => first | exact ⟨q + 1, d, rfl, rfl, by go_num, by omega, by omega, by rw [CT.out, ← HD.out]; rfl, HB7.out⟩ | exact ⟨q + 1, d + 1, rfl, by go_num, by go_num, by omega, by omega, by rw [CT.out, ← HD.out]; rfl, HB7.out⟩
                    case measure => omega
                · have hqi : ¬ (q : Int) < (n3 : Int) := by omega
                  have hfull : d = ((waysG rs rs 0).zip ss2).countP (holdsB (sec : Int)) := by
                    have h0 := HD.out
                    rw [List.take_of_length_le (by rw [List.length_zip, waysG_map]; have := HS.out.2.2; omega)] at h0
                    exact h0
                  have h1 := hold_one HAP2.out (sec : Int)
                  have h2 := hold_some HAP2.out (sec : Int)
                  rw [← hfull] at h1 h2
                  have D := holder_g w wr l rs ka ss2 (sec : Int) (HK4.out.step HB6.out)
                  generalize holderF (waysG rs rs 0) ss2 (sec : Int) = hf at *
                  clear hfull HD
                  obtain rfl | rfl : d = 0 ∨ d = 1 := by omega
                  · have hneg : ¬ (0 : Int) ≤ hf := fun e => by have := h2.1 e; omega
                    clear h1 h2
                    go_wp2_with fail
                    refine D.mono ?_
                    rintro e w7 ⟨rfl, hb⟩
                    have HB8 : Hid (Below w4.heap.size w4 w7) := HB6.out.trans (hb.mono HB6.out.size)
                    clear hb D
                    go_wp2
                    go_roundg (n0 - (sec + 1))
                    case rel => exact ⟨sec + 1, rfl, by go_num, by omega, HB8.out⟩
                    case measure => omega
                  · have hpos : (0 : Int) ≤ hf := h2.2 rfl
                    clear h1 h2
                    go_wp2_with fail
                    refine D.mono ?_
                    rintro e w7 ⟨rfl, hb⟩
                    have HB8 : Hid (Below w4.heap.size w4 w7) := HB6.out.trans (hb.mono HB6.out.size)
                    clear hb D
                    go_wp2
                    go_roundg (n0 - (sec + 1))
                    case rel => exact ⟨sec + 1, rfl, by go_num, by omega, HB8.out⟩
                    case measure => omega
            · have hsi : ¬ (sec : Int) < (n0 : Int) := by omega
              go_wp2
              go_roundg (60 - (k + 1))
              case rel => exact ⟨k + 1, ss2, rfl, by go_num, by omega, by omega, HK4.out.step HB5.out, HAP2.out, blk_below HB5.out HBX4.out⟩
              case measure => omega
      · have hki : (k : Int) < (na : Int) := by omega
        have hkj : ¬ (k : Int) < 60 := by omega
        go_wp2_with fail
        refine (known_any _).mono ?_
        rintro e wz ⟨rfl, hb⟩
        go_wp2
        go_ret
        exact ⟨rfl, HT1.out.bl.trans (hb.mono HT1.out.bl.size)⟩
    · have hki : ¬ (k : Int) < (na : Int) := by omega
      go_wp2_with fail
      refine (known_any _).mono ?_
      rintro e wz ⟨rfl, hb⟩
      go_wp2
      go_ret
      exact ⟨rfl, HT1.out.bl.trans (hb.mono HT1.out.bl.size)⟩


theorem own : ownKnob Tryd.prog.godebug = none := by kernel_rfl
theorem u8x : U8Extra Tryd.prog Tryd.lays260_ren := ⟨by kernel_rfl, by kernel_rfl, by kernel_rfl, by kernel_rfl, by kernel_rfl, by kernel_rfl, by kernel_rfl⟩
theorem accept_eq : (Rows.laid_unicode_utf8_acceptRanges : DataW Unit) = Lib.acceptData := by kernel_rfl
theorem first_eq : Rows.laid_unicode_utf8_first = Lib.firstData := Pinned.utf8First_eq
theorem tabs_of {W : World} (hL : laidMet Tryd.prog Rows.lockApartRow.laid W) : Lib.Utf8Tabs 0 1 W :=
  utf8Tabs_of_readsT (U8Types.of260 Tryd.lays260) u8x (first_eq ▸ Lib.laidMet.reads hL (.tail _ (.head _))) (accept_eq ▸ Lib.laidMet.reads hL (.head _))

set_option maxRecDepth 100000 in
theorem lifted (os : Os) (started : os.Started) (H : Type) (enc : TypeId × Value → H) :
    ReturnsInHanded {} Tryd.checked os 4 .any (fun w args => (Rows.lockApartSpec.pre enc Tryd.prog Tryd.f4 [] false w args ∧ laidMetH Tryd.prog Rows.lockApartRow.laid w) ∧ sizedMet enc Tryd.prog Tryd.f4 (OpenSpec.ofChange Rows.lockApartSpec) false w args)
      (Rows.lockApartSpec.post enc Tryd.prog Tryd.f4 false true false false) := by
  refine returnsInHanded_of_change_and (C := Tryd.checked) (X := fun w _ => laidMetH Tryd.prog Rows.lockApartRow.laid w) (fun _ _ _ hh h => h.of_heap hh) own started (by kernel_rfl) Tryd.func4
    (ChangeSpec.witness_shaped (enc := enc) (C := Tryd.checked) (os := os) (X := fun w _ => laidMetH Tryd.prog Rows.lockApartRow.laid w) false (World.laidAll Tryd.prog os Rows.lockApartRow.laid) #[.agg #[.slice none 0 0, .slice none 0 0, .slice none 0 0, .slice none 0 0], .slice none 0 0] 8 (World.laidAll_os _ _ _)
      (World.shaped_of_ZipB (by kernel_rfl) (by kernel_rfl)) (by kernel_rfl) (by kernel_rfl) (by kernel_rfl)
      (by rw [MakeChecks.laidMetH_plain _ _ _ (by kernel_rfl)]; exact laidMet_laidAll _ (by kernel_rfl) (by kernel_rfl))) ?_
  intro W base args ds gs before hval0 hW _ hsz0 hL _
  have hval : ∀ (j : Nat) t v, Tryd.f4.params[j]? = some t → args[j]? = some v → Value.okWide Tryd.prog W .any base t v := hval0
  have hsz : (DataW.weightsEach Tryd.prog (Tryd.f4.params.toList ++ Rows.lockApartSpec.plain.varTypes Tryd.prog) (ds ++ gs)).all (· ≤ reachBytes) = true := hsz0
  have hW' := hW
  obtain ⟨p, q, hA0, hV, rfl, _, _⟩ := hW
  have hA : DataW.TrodAll enc Tryd.prog W 0 (fun _ => true) true Tryd.f4.params.toList args.toList ds p := hA0
  rw [Tryd.params4] at hA hval hsz
  obtain ⟨v0, vs0, d0, ds0, p0, q0, hargs, rfl, rfl, h0, r0⟩ := trodAll_cons hA
  obtain ⟨v1, vs1, d1, ds1, p1, q1, rfl, rfl, rfl, h1, r1⟩ := trodAll_cons r0
  obtain ⟨rfl, rfl, rfl⟩ := trodAll_nil r1
  obtain rfl : args = #[v0, v1] := by cases args; simp_all
  obtain ⟨rfl, rfl⟩ := trodVars_none hV
  have k0 := h0
  have lt0 : ∀ x ∈ p0, x.block < W.heap.size := by obtain ⟨m, hm⟩ := k0; exact DataW.trod_lt m _ _ _ hm
  have g0 := weights_at hsz (j := 0) (t := 26) rfl rfl
  obtain ⟨u0, l0, s0, rfl, y0, b0, c0, x0⟩ := open_layout_c (hval 0 26 v0 rfl rfl) h0 g0
  obtain ⟨a1, len1, cap1, rfl⟩ := okWide_slice Tryd.underlying32 (hval 1 32 v1 rfl rfl)
  have k1 := h1
  have lt1 : ∀ x ∈ p1, x.block < W.heap.size := by obtain ⟨m, hm⟩ := k1; exact DataW.trod_lt m _ _ _ hm
  obtain ⟨z1, e1, m1, s1⟩ : ∃ l : List Ac5, l.length = len1 ∧ len1 ≤ maxLen ∧ hasActs5 W a1 l := by
    obtain ⟨fuel, hf⟩ := h1
    exact open_acts5 hf
  clear hA0 hval0
  rw [MakeChecks.laidMetH_plain _ _ _ (by kernel_rfl)] at hL
  refine (walk W u0 l0 s0 y0 b0 c0 x0 a1 len1 cap1 z1 e1 m1 s1 (tabs_of hL)).mono fun e W' ⟨he, bel⟩ => ?_
  subst he
  exact ⟨_, rfl, _, _, _, [], _, [], hW', trodAll_mk1 (shut_bool Tryd.underlying4 _), (trodAll_cons_mk (Below.trod laidOut (by kernel_rfl) (of_decide_eq_true (by kernel_rfl)) k0 bel lt0) (trodAll_cons_mk (Below.trod laidOut (by kernel_rfl) (of_decide_eq_true (by kernel_rfl)) k1 bel lt1) trodAll_mk0)), rfl, bel.frame _, fun h => by cases h⟩

theorem over : Rows.lockApartRow.holds Tryd.pinned (OpenSpec.ofChange Rows.lockApartSpec) :=
  OpenClaim.holds_of_wide 4 Tryd.f4 rfl rfl rfl rfl rfl rfl rfl ⟨rfl, rfl, rfl, rfl, rfl⟩ rfl rfl rfl rfl rfl (by kernel_rfl) Tryd.func4 (by kernel_rfl)
    (of_decide_eq_true (by kernel_rfl)) (by unfold Func.isWrapper; first | (rw [if_pos (by decide +kernel)]; kernel_rfl) | (rw [if_neg (by decide +kernel)]; exact ⟨rfl, rfl⟩))
    (fun os started H enc _ => lifted os started H enc)

theorem card : Rows.LockApartCardSaid :=
  Claim7.holds_tied_plain_at .later [] _ _ _ _ over (fun _ h => by cases h) (by kernel_rfl) (fun _ h => by cases h) lockApart_row_tie rfl ⟨rfl, rfl⟩ (by kernel_rfl) rfl
    (fun f fn hf hfn => by
      obtain rfl : f = 4 := Option.some.inj ((show Tryd.prog.funcNamed Rows.lockApartRow.func = some 4 by kernel_rfl).symm.trans hf) |>.symm
      obtain rfl : fn = Tryd.f4 := (Option.some.inj (Tryd.func4.symm.trans hfn)).symm
      exact ⟨by kernel_rfl, fun j t ht => by
        rw [Tryd.params4] at ht
        have hm : t ∈ [26, 32] := by simpa using Array.mem_of_getElem? ht
        have hall : ([26, 32].all fun u => !Tryd.prog.wantsStandIn u) = true := by kernel_rfl
        exact (show Tryd.prog.wantsStandIn t = false by simpa using List.all_eq_true.1 hall t hm)⟩)
    (by kernel_rfl)

end Go.Proofs.YtceebimgfajbcaaDoor.lockApart
namespace Go.Proofs.YtceebimgfajbcaaDoor
theorem lockApart_holds : Rows.LockApartCardSaid := lockApart.card
#print axioms lockApart_holds
end Go.Proofs.YtceebimgfajbcaaDoor
