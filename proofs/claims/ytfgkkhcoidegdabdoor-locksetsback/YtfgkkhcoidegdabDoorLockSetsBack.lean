/-
  Of every layout and two scripts: LockSetsBack returns true. A tied card: what unicode/utf8's two tables hold is listed, tied by the given tie.
-/
import Derived.Test.YtfgkkhcoidegdabDoorRows
import Derived.Test.YtfgkkhcoidegdabDoorTie
import Derived.Test.YtfgkkhcoidegdabDoorCards
import Derived.Test.YtfgkkhcoidegdabDoorJoin1
import Derived.Test.YtfgkkhcoidegdabDoorLkKnown
import Derived.Test.YtfgkkhcoidegdabDoorLkInOut2
import Derived.Test.YtfgkkhcoidegdabDoorLkLong
import Derived.Test.YtfgkkhcoidegdabDoorLkTwo
import Derived.Test.YtfgkkhcoidegdabDoorLkRfSame
import Derived.WalkKit
import Derived.ProofKit
import Derived.OpenShut
import Derived.ShutString
import Derived.ChangeOld
import Derived.Below
import Derived.SizedLaws
import Derived.PinnedBridge
import Derived.Lib.LaidU8T
import Derived.Lay
import Derived.LaidOnce
import Derived.SevenTiedAt
import Derived.Deep.DeepHandedRow
namespace Go.Proofs.YtfgkkhcoidegdabDoor.lockSetsBack
open Go.ChangeShapes Go.WideShapes Go.ChangeAt Go.RowKit

abbrev id0 (rs : List RtV) : List St := List.replicate rs.length idleS
theorem flat_i (l : List Int) : l.flatMap iC = ((l.map (Value.int .i64)).toArray).toList := by
  induction l with
  | nil => rfl
  | cons x l ih => rw [List.flatMap_cons, ih]; rfl
theorem flat_b (l : List Bool) : l.flatMap bC = ((l.map Value.bool).toArray).toList := by
  induction l with
  | nil => rfl
  | cons x l ih => rw [List.flatMap_cons, ih]; rfl
theorem out_d {W : World} {B b1 b2 n : Nat} {dr : List Int} {pr : List Bool} (h : OutAt W B b1 b2 dr pr) (hn : dr.length = n) : rowAt W (.slice (some ⟨b1, 0, none⟩) n n) 1 iC dr := by
  subst hn
  exact row_blk (cs := iC) (fun _ => rfl) dr h.h1 (flat_i dr)
theorem out_p {W : World} {B b1 b2 n : Nat} {dr : List Int} {pr : List Bool} (h : OutAt W B b1 b2 dr pr) (hn : pr.length = n) : rowAt W (.slice (some ⟨b2, 0, none⟩) n n) 1 bC pr := by
  subst hn
  exact row_blk (cs := bC) (fun _ => rfl) pr h.h2 (flat_b pr)
theorem tellAll_len (pts : List Int) (ws : List Wy) (ss : List St) (occ : List Bool) (lies : List Int) : ∀ (qs : List (Wy × St)) (k : Nat) (o : List Int × List Bool), (tellAll pts ws ss occ lies qs k o).1.length = o.1.length ∧ (tellAll pts ws ss occ lies qs k o).2.length = o.2.length
  | [], _, _ => ⟨rfl, rfl⟩
  | q :: qs, k, o => by
    have h := tellAll_len pts ws ss occ lies qs (k + 1) (tellF pts ws ss occ lies k q.1 q.2 o)
    have g := tellF_len pts ws ss occ lies k q.1 q.2 o
    rw [tellAll]
    exact ⟨h.1.trans g.1, h.2.trans g.2⟩
theorem cycG_len (l : Lay) (rs : List RtV) (ss : List St) (occ : List Bool) (lies : List Int) : (cycG l rs ss occ lies).2.1.length = l.points.length ∧ (cycG l rs ss occ lies).2.2.length = l.signals.length := by
  rw [cycG, cycF]
  split
  · have := tellAll_len (l.points.map (·.2)) (waysG rs rs 0) (stepAll occ lies (waysG rs rs 0) ss) occ lies ((waysG rs rs 0).zip (stepAll occ lies (waysG rs rs 0) ss)) 0 (List.replicate (l.points.map (·.2)).length 0, List.replicate l.signals.length false)
    simpa using this
  · simp

set_option maxRecDepth 1000000 in
set_option maxHeartbeats 64000000 in
theorem walk (w : World) (v : Nat → Value) (l : Lay) (rs : List RtV) (h : LayRd w v l rs) (hB : LayBig l) (hcap : ∀ x ∈ rs, capOk x.2.1) (hc3 : capOk (v 3) ∧ capOk (v 0) ∧ capOk (v 2)) (oa : Option Addr) (na ca : Nat) (za : List Ac5) (ea : za.length = na) (ma : na ≤ maxLen) (sa : hasActs5 w oa za) (ob : Option Addr) (nb cb : Nat) (zb : List Ac5) (eb : zb.length = nb) (mb : nb ≤ maxLen) (sb : hasActs5 w ob zb) (hT : Lib.Utf8Tabs 0 1 w) :
    Calls Tryd.prog 4 #[.agg #[v 0, v 1, v 2, v 3], .slice oa na ca, .slice ob nb cb] w fun e w' => e = .returned (.bool true) ∧ Below w.heap.size w w' := by
  have hlr : rs.length = l.routes.length := by rw [← h.m, List.length_map]
  obtain ⟨o0, c0, e0, _⟩ := h.s
  obtain ⟨o1, c1, e1, _⟩ := h.p
  obtain ⟨o2, c2, e2, _⟩ := h.g
  obtain ⟨o3, c3, e3, r3⟩ := h.r
  have MID : LaySmall l → IsMid l rs v := fun hs => ⟨by have := hs.s.1; omega, by have := hs.p.1; omega, by have := hs.g.1; omega, by have := hs.r.1; omega, fun x hx => by
    have := hs.r.2 x.1 (by rw [← h.m]; exact List.mem_map.2 ⟨x, hx, rfl⟩)
    exact ⟨hcap x hx, by omega, by omega, by omega⟩, hc3.2.1, hc3.2.2⟩
  have SZ : Hid (∀ W, Below w.heap.size w W → Calls Tryd.prog 6 #[.agg #[v 0, v 1, v 2, v 3]] W fun e w' => ∃ n : Int, e = .returned (.int .i64 n) ∧ 0 ≤ n ∧ n ≤ 1125899906842624 ∧ (n < 3000 → LaySmall l) ∧ Below W.heap.size W w') := fun W hW => size_any v l rs W (h.below hW) hB
  have IS : Hid (LaySmall l → ∀ W, Below w.heap.size w W → Calls Tryd.prog 7 #[.agg #[v 0, v 1, v 2, v 3]] W fun e w' => e = .returned (.bool (isB l)) ∧ Below W.heap.size W w') := fun hs W hW => is_any v l rs W (h.below hW) hcap (LayMid.of hs hB) (tabs_below hT hW)
  have NEW : Hid (LaySmall l → isB l = true → ∀ U W, Below U.heap.size U W → Below w.heap.size w W → Calls Tryd.prog 8 #[.agg #[v 0, v 1, v 2, v 3]] W fun e w' => ∃ kb, e = .returned (.tuple #[.pointer (some ⟨kb, 0, none⟩), .int .i64 0]) ∧ LkG U w' l rs kb (id0 rs) ∧ Below W.heap.size W w') := fun hs hi U W hU hW => new_g U W v l rs (h.below hW) (MID hs) hi hs hU
  have LGA : Hid (∀ W, Below w.heap.size w W → Calls Tryd.prog 12 #[.slice oa na ca] W fun e w' => e = .returned (.bool (longB za)) ∧ Below W.heap.size W w') := fun W hW => by subst ea; exact long_any oa ca za W (sa.below hW) ma
  have LGB : Hid (∀ W, Below w.heap.size w W → Calls Tryd.prog 12 #[.slice ob nb cb] W fun e w' => e = .returned (.bool (longB zb)) ∧ Below W.heap.size W w') := fun W hW => by subst eb; exact long_any ob cb zb W (sb.below hW) mb
  have CYA : Hid (∀ (w1 W : World) (ka kb : Nat) (ss tt : List St) (u : Nat → Value) (occ : List Bool) (lies : List Int), Two w w1 W l rs ka kb ss tt → InRd w u occ lies → lies.length ≤ 4294967296 → Calls Tryd.prog 13 #[.pointer (some ⟨ka, 0, none⟩), .agg #[u 0, u 1]] W fun e w' => ∃ b1 b2, e = .returned (outV b1 b2 l.points.length l.signals.length) ∧ OutAt w' W.heap.size b1 b2 (cycG l rs ss occ lies).2.1 (cycG l rs ss occ lies).2.2 ∧ Two w w1 w' l rs ka kb (cycG l rs ss occ lies).1 tt ∧ TC W w') := fun w1 W ka kb ss tt u occ lies ht hi hl => cyc_a u occ lies ht hi hl
  have CYB : Hid (∀ (w1 W : World) (ka kb : Nat) (ss tt : List St) (u : Nat → Value) (occ : List Bool) (lies : List Int), Two w w1 W l rs ka kb ss tt → InRd w u occ lies → lies.length ≤ 4294967296 → Calls Tryd.prog 13 #[.pointer (some ⟨kb, 0, none⟩), .agg #[u 0, u 1]] W fun e w' => ∃ b1 b2, e = .returned (outV b1 b2 l.points.length l.signals.length) ∧ OutAt w' W.heap.size b1 b2 (cycG l rs tt occ lies).2.1 (cycG l rs tt occ lies).2.2 ∧ Two w w1 w' l rs ka kb ss (cycG l rs tt occ lies).1 ∧ TC W w') := fun w1 W ka kb ss tt u occ lies ht hi hl => cyc_b u occ lies ht hi hl
  have CLN : Hid (∀ (ss : List St) (occ : List Bool) (lies : List Int), (cycG l rs ss occ lies).2.1.length = l.points.length ∧ (cycG l rs ss occ lies).2.2.length = l.signals.length) := cycG_len l rs
  have HSA : Hid (hasActs5 w oa za) := sa
  have HSB : Hid (hasActs5 w ob zb) := sb
  have HNA : Hid (za.length = na) := ea
  have HNB : Hid (zb.length = nb) := eb
  have HLR : Hid (rs.length = l.routes.length) := hlr
  unfold maxLen at ma mb
  clear MID sa sb ea eb
  rw [e0, e1, e2, e3] at SZ IS NEW ⊢
  clear h hB hcap hT hc3 e0 e1 e2 e3 r3 hlr
  have HG0 : Hid (l.sections.length = l.sections.length ∧ l.points.length = l.points.length) := ⟨rfl, rfl⟩
  generalize hs0 : l.sections.length = n0 at *
  generalize hs1 : l.points.length = n1 at *
  generalize hs2 : l.signals.length = n2 at *
  generalize hs3 : rs.length = n3 at *
  have HS : Hid (l.sections.length = n0 ∧ l.points.length = n1 ∧ rs.length = n3) := ⟨hs0, hs1, hs3⟩
  have HS2 : Hid (l.signals.length = n2) := hs2
  clear hs0 hs1 hs2 hs3 HG0
  generalize hch : w.alloc (.cells #[.slice o0 n0 c0, .slice o1 n1 c1, .slice o2 n2 c2, .slice o3 n3 c3] 26) = w1
  have HB01 : Hid (Below w.heap.size w w1) := by show Below _ _ _; rw [← hch]; exact (by repeat' (with_reducible first | exact Below.refl _ _ | refine Below.drew ?_ | refine _root_.Go.below_drewN ?_ _ | refine Below.alloc ?_ ?_ _ | refine Below.setCell ?_ ?_ _ | exact Nat.le_refl _ | (simp; done) | (simp; omega)))
  have H0 : Hid (w1.heap[w.heap.size]? = some (.cells #[.slice o0 n0 c0, .slice o1 n1 c1, .slice o2 n2 c2, .slice o3 n3 c3] 26 (0, 0))) := by show _ = _; rw [← hch]; exact blk_new _ _
  have HUP : Hid (∀ W, Below w1.heap.size w1 W → Below w.heap.size w W) := fun W hW => HB01.out.trans (hW.mono HB01.out.size)
  obtain ⟨⟨q0, q1, q2, q3⟩, _⟩ := cells4 H0.out
  go_enter Tryd.func4, Tryd.ntmps4
  go_wp2_with fail
  clear hch
  refine (SZ.out _ HB01.out).mono ?_
  rintro e w2 ⟨n, rfl, hn0, hn1, hsm, hb2⟩
  have HB2 : Hid (Below w1.heap.size w1 w2) := hb2
  clear q0 q1 q2 q3 hb2 SZ
  obtain ⟨⟨q0, q1, q2, q3⟩, _⟩ := cells4 (blk_below HB2.out H0.out)
  by_cases hbig : (3000 : Int) ≤ n
  · clear hsm
    go_wp2_with fail
    go_ret
    exact ⟨rfl, HUP.out _ HB2.out⟩
  have HSM : Hid (LaySmall l) := hsm (by omega)
  clear hsm
  have D := LGA.out w2 (HUP.out _ HB2.out)
  generalize hla : longB za = ba at D
  have HLA : Hid (longB za = ba) := hla
  go_wp2_with fail
  refine D.mono ?_
  rintro e w3 ⟨rfl, hb⟩
  have HB3 : Hid (Below w1.heap.size w1 w3) := HB2.out.trans (hb.mono HB2.out.size)
  clear q0 q1 q2 q3 D hb hla LGA
  obtain ⟨⟨q0, q1, q2, q3⟩, _⟩ := cells4 (blk_below HB3.out H0.out)
  cases ba
  case true =>
    go_wp2_with fail
    go_ret
    exact ⟨rfl, HUP.out _ HB3.out⟩
  have D := LGB.out w3 (HUP.out _ HB3.out)
  generalize hlb : longB zb = bb at D
  have HLB : Hid (longB zb = bb) := hlb
  go_wp2_with fail
  refine D.mono ?_
  rintro e w4 ⟨rfl, hb⟩
  have HB4 : Hid (Below w1.heap.size w1 w4) := HB3.out.trans (hb.mono HB3.out.size)
  clear q0 q1 q2 q3 D hb hlb LGB
  obtain ⟨⟨q0, q1, q2, q3⟩, _⟩ := cells4 (blk_below HB4.out H0.out)
  cases bb
  case true =>
    go_wp2_with fail
    go_ret
    exact ⟨rfl, HUP.out _ HB4.out⟩
  have D := IS.out HSM.out w4 (HUP.out _ HB4.out)
  generalize hbl : isB l = b at D
  have HBL : Hid (isB l = b) := hbl
  clear hbl
  go_wp2_with fail
  refine D.mono ?_
  rintro e w5 ⟨rfl, hb⟩
  have HB5 : Hid (Below w1.heap.size w1 w5) := HB4.out.trans (hb.mono HB4.out.size)
  clear q0 q1 q2 q3 hb D IS
  obtain ⟨⟨q0, q1, q2, q3⟩, _⟩ := cells4 (blk_below HB5.out H0.out)
  cases b
  case false =>
    go_wp2_with fail
    go_ret
    exact ⟨rfl, HUP.out _ HB5.out⟩
  have D := NEW.out HSM.out HBL.out w w5 (HUP.out _ HB5.out) (HUP.out _ HB5.out)
  go_wp2_with fail
  refine D.mono ?_
  rintro e wn ⟨ka, rfl, hk, hb⟩
  have HBN : Hid (Below w1.heap.size w1 wn) := HB5.out.trans (hb.mono HB5.out.size)
  have HKN : Hid (LkG w wn l rs ka (id0 rs)) := hk
  clear q0 q1 q2 q3 hb hk D hbig hn0 hn1
  obtain ⟨⟨q0, q1, q2, q3⟩, _⟩ := cells4 (blk_below HBN.out H0.out)
  have D := NEW.out HSM.out HBL.out wn wn (Below.refl _ _) (HUP.out _ HBN.out)
  go_wp2_with fail
  refine D.mono ?_
  rintro e w6 ⟨kb, rfl, hk, hb⟩
  have HTW : Hid (Two w wn w6 l rs ka kb (id0 rs) (id0 rs)) := Two.of HKN.out hk hb
  clear q0 q1 q2 q3 hb hk D NEW
  have hnn : n1 ≤ 1000 ∧ n2 ≤ 1000 := by have a := LayOk.of HBL.out; have b := a.pts; have c := a.sig; have d := HS.out; have e := HS2.out; omega
  have HNN : Hid (n1 ≤ 1000 ∧ n2 ≤ 1000) := hnn
  clear hnn
  go_wp2
  go_loopg [11] 60 (fun gk i wr => ∃ (k : Nat) (ss : List St), gk = 60 - k ∧ i = .int .i64 k ∧ k ≤ 60 ∧ k ≤ na ∧ Two w wn wr l rs ka kb ss (id0 rs) ∧ ApartS (waysG rs rs 0) ss)
  case atStart => exact ⟨0, _, rfl, rfl, by omega, by omega, HTW.out, apart_idle _ _⟩
  case round =>
    obtain ⟨k, ss, rfl, rfl, hk, hkn, htw, hap⟩ := hrel
    have HT1 : Hid (Two w wn wr l rs ka kb ss (id0 rs)) := htw
    have HAP : Hid (ApartS (waysG rs rs 0) ss) := hap
    clear htw hap HTW
    by_cases hlt : k < na
    · by_cases h60 : k < 60
      · obtain ⟨x, hx⟩ := at_of (l := za) (k := k) (by rw [HNA.out]; exact hlt)
        obtain ⟨bo, off, rfl, vv, c0, c1, c2, c3, c4, c5, hin, -⟩ := HSA.out k x hx
        have hnl := not_long HLA.out h60 hx
        obtain ⟨kd, ⟨occ, lies⟩, ⟨ck, cr⟩, rr⟩ := x
        simp only at c0 c1 c2 c3 c4 c5 hin hnl
        have HLN : Hid (lies.length ≤ 4294967296) := by show _ ≤ _; omega
        have HIN : Hid (InRd w vv occ lies) := hin
        have a0 := cell_kept HT1.out.bl c0
        have a1 := cell_kept HT1.out.bl c1
        have a2 : wr.cell? ⟨bo, off + k * 6 + 1 + 0, none⟩ = some (vv 0) := cell_kept HT1.out.bl c1
        have a3 : wr.cell? ⟨bo, off + k * 6 + 1 + 1, none⟩ = some (vv 1) := cell_kept HT1.out.bl c2
        have d1 : w.cell? ⟨bo, off + k * 6 + 1 + 0, none⟩ = some (vv 0) := c1
        have d2 : w.cell? ⟨bo, off + k * 6 + 1 + 1, none⟩ = some (vv 1) := c2
        have d3 : w.cell? ⟨bo, off + k * 6 + 3 + 0, none⟩ = some (.int .i64 ck) := c3
        have d4 : w.cell? ⟨bo, off + k * 6 + 3 + 1, none⟩ = some (.int .i64 cr) := c4
        have hki : (k : Int) < (na : Int) := by omega
        have hkj : (k : Int) < 60 := by omega
        clear hx hin hnl c5 c0
        by_cases hkd : kd = 1
        · subst hkd
          go_wp2_with fail
          have y1 := ext_cell c1
          have y2 := ext_cell d1
          have y3 := ext_cell d2
          have y4 := ext_cell c3
          have y5 := ext_cell d3
          have y6 := ext_cell d4
          haveI := ext_some w
          have HBQ : Hid (Below w.heap.size w wr.drew) := HT1.out.bl.drew
          have HTQ : Hid (Two w wn wr.drew l rs ka kb ss (id0 rs)) := HT1.out.step (Below.refl wr.heap.size wr).drew
          clear c1 c2 c3 c4 d1 d2 d3 d4 a0 a1 a2 a3
          refine wp_region_mix_seq (C := fun W => ∃ y : Ext w, W = y.z) [0, 1, 2, 3, 4, 5, 6, 7, 8, 9, 10, 11] (by kernel_rfl) (by kernel_rfl) (by kernel_rfl) (by kernel_rfl) (by simp only [List.filterMap_cons, List.getElem?_toArray, List.getElem?_cons_zero, List.getElem?_cons_succ, List.filterMap_nil]; rfl) ⟨⟨_, HBQ.out⟩, rfl⟩ ?_
          generalize wr.drew = wd at *
          (repeat (first | (with_reducible refine mix_read (by kernel_rfl) ?_; go_big_quiet_want; go_big_quiet_op; go_big_quiet_on; with_reducible refine wpQuiet_nil ?_) | (with_reducible refine mix_pass (by kernel_rfl) ?_; go_big_quiet_skip; with_reducible refine wpQuiet_nil ?_)))
          with_reducible refine mix_call (by kernel_rfl) (by kernel_rfl) ((cmd_a vv occ lies ck cr HTQ.out HIN.out HLN.out).mono ?_) (by kernel_rfl)
          rintro e v2 ⟨rfl, ht, -⟩
          have HT2 : Hid (Two w wn v2 l rs ka kb (cmdG l rs ss occ lies ck cr).2 (id0 rs)) := ht
          clear ht
          refine ⟨_, rfl, ⟨⟨_, HT2.out.bl⟩, rfl⟩, ?_⟩
          simp only [Act.put, List.setIfInBounds_toArray, List.set_cons_zero, List.set_cons_succ]
          (repeat (first | (with_reducible refine mix_read (by kernel_rfl) ?_; go_big_quiet_want; go_big_quiet_op; go_big_quiet_on; with_reducible refine wpQuiet_nil ?_) | (with_reducible refine mix_pass (by kernel_rfl) ?_; go_big_quiet_skip; with_reducible refine wpQuiet_nil ?_)))
          with_reducible refine mix_end ?_
          intro _
          clear y1 y2 y3 y4 y5 y6
          go_wp2
          go_roundg (60 - (k + 1))
          case rel => exact ⟨k + 1, _, rfl, by go_num, by omega, by omega, HT2.out, HAP.out.cmd (foeOk_ways rs) occ lies ck cr⟩
          case measure => omega
        · have hkf : (kd == 1) = false := by simp [hkd]
          have D := CYA.out wn wr ka kb ss (id0 rs) vv occ lies HT1.out HIN.out HLN.out
          clear c1 c2 c3 c4 d1 d2 d3 d4
          go_wp2_with fail
          refine D.mono ?_
          rintro e v2 ⟨b1, b2, rfl, -, ht, -⟩
          have HT2 : Hid (Two w wn v2 l rs ka kb (cycG l rs ss occ lies).1 (id0 rs)) := ht
          clear ht D a0 a1 a2 a3
          go_wp2
          go_roundg (60 - (k + 1))
          case rel => exact ⟨k + 1, _, rfl, by go_num, by omega, by omega, HT2.out, HAP.out.cyc occ lies⟩
          case measure => omega
      · have hki : (k : Int) < (na : Int) := by omega
        have hkj : ¬ (k : Int) < 60 := by omega
        go_wp2_with fail
        refine (routes_a HT1.out).mono ?_
        rintro e w4' ⟨vr, rfl, hrow, hb⟩
        have HT4 : Hid (Two w wn w4' l rs ka kb ss (id0 rs)) := HT1.out.step hb
        have D := set_b vr HT4.out hrow HAP.out
        clear hrow hb
        go_wp2_with fail
        refine D.mono ?_
        rintro e w5' ⟨rfl, ht⟩
        have HT5 : Hid (Two w wn w5' l rs ka kb ss ss) := ht
        clear ht D
        go_wp2
        go_loopg [12] 60 (fun gk i wr => ∃ (k : Nat) (tt : List St), gk = 60 - k ∧ i = .int .i64 k ∧ k ≤ 60 ∧ k ≤ nb ∧ Two w wn wr l rs ka kb tt tt)
        case atStart => exact ⟨0, _, rfl, rfl, by omega, by omega, HT5.out⟩
        case round =>
          obtain ⟨k, tt, rfl, rfl, hk, hkn, htw⟩ := hrel
          have HT2 : Hid (Two w wn wr l rs ka kb tt tt) := htw
          clear htw HT5 HT4 HT1 HAP
          by_cases hlt : k < nb
          · by_cases h60 : k < 60
            · have HT1 : Hid (Two w wn wr l rs ka kb tt tt) := HT2.out
              obtain ⟨x, hx⟩ := at_of (l := zb) (k := k) (by rw [HNB.out]; exact hlt)
              obtain ⟨bo, off, rfl, vv, c0, c1, c2, c3, c4, c5, hin, -⟩ := HSB.out k x hx
              have hnl := not_long HLB.out h60 hx
              obtain ⟨kd, ⟨occ, lies⟩, ⟨ck, cr⟩, rr⟩ := x
              simp only at c0 c1 c2 c3 c4 c5 hin hnl
              have HLN : Hid (lies.length ≤ 4294967296) := by show _ ≤ _; omega
              have HIN : Hid (InRd w vv occ lies) := hin
              have a0 := cell_kept HT1.out.bl c0
              have a1 := cell_kept HT1.out.bl c1
              have a2 : wr.cell? ⟨bo, off + k * 6 + 1 + 0, none⟩ = some (vv 0) := cell_kept HT1.out.bl c1
              have a3 : wr.cell? ⟨bo, off + k * 6 + 1 + 1, none⟩ = some (vv 1) := cell_kept HT1.out.bl c2
              have d1 : w.cell? ⟨bo, off + k * 6 + 1 + 0, none⟩ = some (vv 0) := c1
              have d2 : w.cell? ⟨bo, off + k * 6 + 1 + 1, none⟩ = some (vv 1) := c2
              have d3 : w.cell? ⟨bo, off + k * 6 + 3 + 0, none⟩ = some (.int .i64 ck) := c3
              have d4 : w.cell? ⟨bo, off + k * 6 + 3 + 1, none⟩ = some (.int .i64 cr) := c4
              have hki : (k : Int) < (nb : Int) := by omega
              have hkj : (k : Int) < 60 := by omega
              clear hx hin hnl c5 c0
              by_cases hkd : kd = 1
              · subst hkd
                go_wp2_with fail
                have y1 := ext_cell c1
                have y2 := ext_cell d1
                have y3 := ext_cell d2
                have y4 := ext_cell c3
                have y5 := ext_cell d3
                have y6 := ext_cell d4
                haveI := ext_some w
                have HBQ : Hid (Below w.heap.size w wr.drew) := HT1.out.bl.drew
                have HTQ : Hid (Two w wn wr.drew l rs ka kb tt tt) := HT1.out.step (Below.refl wr.heap.size wr).drew
                clear c1 c2 c3 c4 d1 d2 d3 d4 a0 a1 a2 a3
                refine wp_region_mix_seq (C := fun W => ∃ y : Ext w, W = y.z) [0, 1, 2, 3, 4, 5, 6, 7, 8, 9, 10, 12, 13, 14, 15, 16, 17, 18, 19, 20, 21, 22, 11, 23, 24] (by kernel_rfl) (by kernel_rfl) (by kernel_rfl) (by kernel_rfl) (by simp only [List.filterMap_cons, List.getElem?_toArray, List.getElem?_cons_zero, List.getElem?_cons_succ, List.filterMap_nil]; rfl) ⟨⟨_, HBQ.out⟩, rfl⟩ ?_
                generalize wr.drew = wd at *
                (repeat (first | (with_reducible refine mix_read (by kernel_rfl) ?_; go_big_quiet_want; go_big_quiet_op; go_big_quiet_on; with_reducible refine wpQuiet_nil ?_) | (with_reducible refine mix_pass (by kernel_rfl) ?_; go_big_quiet_skip; with_reducible refine wpQuiet_nil ?_)))
                with_reducible refine mix_call (by kernel_rfl) (by kernel_rfl) ((cmd_a vv occ lies ck cr HTQ.out HIN.out HLN.out).mono ?_) (by kernel_rfl)
                rintro e v2 ⟨rfl, ht, -⟩
                have HT3 : Hid (Two w wn v2 l rs ka kb (cmdG l rs tt occ lies ck cr).2 tt) := ht
                clear ht
                refine ⟨_, rfl, ⟨⟨_, HT3.out.bl⟩, rfl⟩, ?_⟩
                simp only [Act.put, List.setIfInBounds_toArray, List.set_cons_zero, List.set_cons_succ]
                (repeat (first | (with_reducible refine mix_read (by kernel_rfl) ?_; go_big_quiet_want; go_big_quiet_op; go_big_quiet_on; with_reducible refine wpQuiet_nil ?_) | (with_reducible refine mix_pass (by kernel_rfl) ?_; go_big_quiet_skip; with_reducible refine wpQuiet_nil ?_)))
                with_reducible refine mix_call (by kernel_rfl) (by kernel_rfl) ((cmd_b vv occ lies ck cr HT3.out HIN.out HLN.out).mono ?_) (by kernel_rfl)
                rintro e v3 ⟨rfl, ht, -⟩
                have HT6 : Hid (Two w wn v3 l rs ka kb (cmdG l rs tt occ lies ck cr).2 (cmdG l rs tt occ lies ck cr).2) := ht
                clear ht
                refine ⟨_, rfl, ⟨⟨_, HT6.out.bl⟩, rfl⟩, ?_⟩
                generalize (cmdG l rs tt occ lies ck cr).1 = cc
                have hd : (cc != cc) = false := by simp
                simp only [Act.put, List.setIfInBounds_toArray, List.set_cons_zero, List.set_cons_succ]
                (repeat (first | (with_reducible refine mix_read (by kernel_rfl) ?_; go_big_quiet_want; go_big_quiet_op; go_big_quiet_on; with_reducible refine wpQuiet_nil ?_) | (with_reducible refine mix_pass (by kernel_rfl) ?_; go_big_quiet_skip; with_reducible refine wpQuiet_nil ?_)))
                with_reducible refine mix_end ?_
                intro _
                clear y1 y2 y3 y4 y5 y6
                go_wp2
                go_roundg (60 - (k + 1))
                case rel => exact ⟨k + 1, _, rfl, by go_num, by omega, by omega, HT6.out⟩
                case measure => omega
              · have hkf : (kd == 1) = false := by simp [hkd]
                go_wp2_with fail
                have y1 := ext_cell c1
                have y2 := ext_cell d1
                have y3 := ext_cell d2
                have y4 := ext_cell c3
                have y5 := ext_cell d3
                have y6 := ext_cell d4
                haveI := ext_some w
                have HBQ : Hid (Below w.heap.size w wr.drew) := HT1.out.bl.drew
                have HTQ : Hid (Two w wn wr.drew l rs ka kb tt tt) := HT1.out.step (Below.refl wr.heap.size wr).drew
                clear c1 c2 c3 c4 d1 d2 d3 d4 a0 a1 a2 a3
                refine wp_region_mix_seq (C := fun W => ∃ y : Ext w, W = y.z) [0, 1, 2, 3, 4, 5, 7, 8, 9, 10, 11, 12, 6, 13, 14, 15] (by kernel_rfl) (by kernel_rfl) (by kernel_rfl) (by kernel_rfl) (by simp only [List.filterMap_cons, List.getElem?_toArray, List.getElem?_cons_zero, List.getElem?_cons_succ, List.filterMap_nil]; rfl) ⟨⟨_, HBQ.out⟩, rfl⟩ ?_
                generalize wr.drew = wd at *
                (repeat (first | (with_reducible refine mix_read (by kernel_rfl) ?_; go_big_quiet_want; go_big_quiet_op; go_big_quiet_on; with_reducible refine wpQuiet_nil ?_) | (with_reducible refine mix_pass (by kernel_rfl) ?_; go_big_quiet_skip; with_reducible refine wpQuiet_nil ?_)))
                with_reducible refine mix_call (by kernel_rfl) (by kernel_rfl) ((CYA.out wn wd ka kb tt tt vv occ lies HTQ.out HIN.out HLN.out).mono ?_) (by kernel_rfl)
                rintro e v2 ⟨b1, b2, rfl, ho, ht, -⟩
                have HT3 : Hid (Two w wn v2 l rs ka kb (cycG l rs tt occ lies).1 tt) := ht
                have HO3 : Hid (OutAt v2 wd.heap.size b1 b2 (cycG l rs tt occ lies).2.1 (cycG l rs tt occ lies).2.2) := ho
                clear ht ho
                refine ⟨_, rfl, ⟨⟨_, HT3.out.bl⟩, rfl⟩, ?_⟩
                simp only [Act.put, List.setIfInBounds_toArray, List.set_cons_zero, List.set_cons_succ]
                simp only [outV]
                (repeat (first | (with_reducible refine mix_read (by kernel_rfl) ?_; go_big_quiet_want; go_big_quiet_op; go_big_quiet_on; with_reducible refine wpQuiet_nil ?_) | (with_reducible refine mix_pass (by kernel_rfl) ?_; go_big_quiet_skip; with_reducible refine wpQuiet_nil ?_)))
                with_reducible refine mix_call (by kernel_rfl) (by kernel_rfl) ((CYB.out wn v2 ka kb (cycG l rs tt occ lies).1 tt vv occ lies HT3.out HIN.out HLN.out).mono ?_) (by kernel_rfl)
                rintro e v3 ⟨b3, b4, rfl, ho, ht, hc⟩
                have HT6 : Hid (Two w wn v3 l rs ka kb (cycG l rs tt occ lies).1 (cycG l rs tt occ lies).1) := ht
                have HC := CLN.out tt occ lies
                have HO6 := HO3.out.tc hc
                have D := sameOut_eq (some ⟨b1, 0, none⟩) (some ⟨b2, 0, none⟩) (some ⟨b3, 0, none⟩) (some ⟨b4, 0, none⟩) n1 n2 n1 n2 n1 n2 _ _ v3 (out_d HO6 HC.1) (out_p HO6 HC.2) (out_d ho HC.1) (out_p ho HC.2) HNN.out
                clear ht ho hc HC HO6
                refine ⟨_, rfl, ⟨⟨_, HT6.out.bl⟩, rfl⟩, ?_⟩
                simp only [Act.put, List.setIfInBounds_toArray, List.set_cons_zero, List.set_cons_succ]
                simp only [outV]
                (repeat (first | (with_reducible refine mix_read (by kernel_rfl) ?_; go_big_quiet_want; go_big_quiet_op; go_big_quiet_on; with_reducible refine wpQuiet_nil ?_) | (with_reducible refine mix_pass (by kernel_rfl) ?_; go_big_quiet_skip; with_reducible refine wpQuiet_nil ?_)))
                with_reducible refine mix_call (by kernel_rfl) (by kernel_rfl) (D.mono ?_) (by kernel_rfl)
                rintro e v4 ⟨rfl, hb⟩
                have HT7 : Hid (Two w wn v4 l rs ka kb (cycG l rs tt occ lies).1 (cycG l rs tt occ lies).1) := HT6.out.step hb
                clear hb D
                refine ⟨_, rfl, ⟨⟨_, HT7.out.bl⟩, rfl⟩, ?_⟩
                simp only [Act.put, List.setIfInBounds_toArray, List.set_cons_zero, List.set_cons_succ]
                (repeat (first | (with_reducible refine mix_read (by kernel_rfl) ?_; go_big_quiet_want; go_big_quiet_op; go_big_quiet_on; with_reducible refine wpQuiet_nil ?_) | (with_reducible refine mix_pass (by kernel_rfl) ?_; go_big_quiet_skip; with_reducible refine wpQuiet_nil ?_)))
                with_reducible refine mix_end ?_
                intro _
                clear y1 y2 y3 y4 y5 y6
                go_wp2
                go_roundg (60 - (k + 1))
                case rel => exact ⟨k + 1, _, rfl, by go_num, by omega, by omega, HT7.out⟩
                case measure => omega
            · have hki : (k : Int) < (nb : Int) := by omega
              have hkj : ¬ (k : Int) < 60 := by omega
              go_wp2_with fail
              refine (routes_a HT2.out).mono ?_
              rintro e w7 ⟨va, rfl, hra, hb⟩
              have HT7 : Hid (Two w wn w7 l rs ka kb tt tt) := HT2.out.step hb
              have HRA : Hid (rowAt w7 va 4 stC tt) := hra
              clear hra hb
              go_wp2_with fail
              refine (routes_b HT7.out).mono ?_
              rintro e w8 ⟨vb, rfl, hrb, hb⟩
              have HT8 : Hid (Two w wn w8 l rs ka kb tt tt) := HT7.out.step hb
              have D := rfSame_eq va vb tt w8 (HRA.out.below hb) hrb (by have := HT8.out.oa.len; have := HT8.out.oa.few.2.2.2; omega)
              clear hrb hb
              go_wp2_with fail
              refine D.mono ?_
              rintro e w9 ⟨rfl, hb⟩
              have HT9 : Hid (Two w wn w9 l rs ka kb tt tt) := HT8.out.step hb
              clear hb D
              go_wp2_with fail
              refine (known_any _).mono ?_
              rintro e wz ⟨rfl, hb⟩
              go_wp2
              go_ret
              exact ⟨rfl, HT9.out.bl.trans (hb.mono HT9.out.bl.size)⟩
          · have hki : ¬ (k : Int) < (nb : Int) := by omega
            go_wp2_with fail
            refine (routes_a HT2.out).mono ?_
            rintro e w7 ⟨va, rfl, hra, hb⟩
            have HT7 : Hid (Two w wn w7 l rs ka kb tt tt) := HT2.out.step hb
            have HRA : Hid (rowAt w7 va 4 stC tt) := hra
            clear hra hb
            go_wp2_with fail
            refine (routes_b HT7.out).mono ?_
            rintro e w8 ⟨vb, rfl, hrb, hb⟩
            have HT8 : Hid (Two w wn w8 l rs ka kb tt tt) := HT7.out.step hb
            have D := rfSame_eq va vb tt w8 (HRA.out.below hb) hrb (by have := HT8.out.oa.len; have := HT8.out.oa.few.2.2.2; omega)
            clear hrb hb
            go_wp2_with fail
            refine D.mono ?_
            rintro e w9 ⟨rfl, hb⟩
            have HT9 : Hid (Two w wn w9 l rs ka kb tt tt) := HT8.out.step hb
            clear hb D
            go_wp2_with fail
            refine (known_any _).mono ?_
            rintro e wz ⟨rfl, hb⟩
            go_wp2
            go_ret
            exact ⟨rfl, HT9.out.bl.trans (hb.mono HT9.out.bl.size)⟩
    · have hki : ¬ (k : Int) < (na : Int) := by omega
      go_wp2_with fail
      refine (routes_a HT1.out).mono ?_
      rintro e w4' ⟨vr, rfl, hrow, hb⟩
      have HT4 : Hid (Two w wn w4' l rs ka kb ss (id0 rs)) := HT1.out.step hb
      have D := set_b vr HT4.out hrow HAP.out
      clear hrow hb
      go_wp2_with fail
      refine D.mono ?_
      rintro e w5' ⟨rfl, ht⟩
      have HT5 : Hid (Two w wn w5' l rs ka kb ss ss) := ht
      clear ht D
      go_wp2
      go_loopg [12] 60 (fun gk i wr => ∃ (k : Nat) (tt : List St), gk = 60 - k ∧ i = .int .i64 k ∧ k ≤ 60 ∧ k ≤ nb ∧ Two w wn wr l rs ka kb tt tt)
      case atStart => exact ⟨0, _, rfl, rfl, by omega, by omega, HT5.out⟩
      case round =>
        obtain ⟨k, tt, rfl, rfl, hk, hkn, htw⟩ := hrel
        have HT2 : Hid (Two w wn wr l rs ka kb tt tt) := htw
        clear htw HT5 HT4 HT1 HAP
        by_cases hlt : k < nb
        · by_cases h60 : k < 60
          · have HT1 : Hid (Two w wn wr l rs ka kb tt tt) := HT2.out
            obtain ⟨x, hx⟩ := at_of (l := zb) (k := k) (by rw [HNB.out]; exact hlt)
            obtain ⟨bo, off, rfl, vv, c0, c1, c2, c3, c4, c5, hin, -⟩ := HSB.out k x hx
            have hnl := not_long HLB.out h60 hx
            obtain ⟨kd, ⟨occ, lies⟩, ⟨ck, cr⟩, rr⟩ := x
            simp only at c0 c1 c2 c3 c4 c5 hin hnl
            have HLN : Hid (lies.length ≤ 4294967296) := by show _ ≤ _; omega
            have HIN : Hid (InRd w vv occ lies) := hin
            have a0 := cell_kept HT1.out.bl c0
            have a1 := cell_kept HT1.out.bl c1
            have a2 : wr.cell? ⟨bo, off + k * 6 + 1 + 0, none⟩ = some (vv 0) := cell_kept HT1.out.bl c1
            have a3 : wr.cell? ⟨bo, off + k * 6 + 1 + 1, none⟩ = some (vv 1) := cell_kept HT1.out.bl c2
            have d1 : w.cell? ⟨bo, off + k * 6 + 1 + 0, none⟩ = some (vv 0) := c1
            have d2 : w.cell? ⟨bo, off + k * 6 + 1 + 1, none⟩ = some (vv 1) := c2
            have d3 : w.cell? ⟨bo, off + k * 6 + 3 + 0, none⟩ = some (.int .i64 ck) := c3
            have d4 : w.cell? ⟨bo, off + k * 6 + 3 + 1, none⟩ = some (.int .i64 cr) := c4
            have hki : (k : Int) < (nb : Int) := by omega
            have hkj : (k : Int) < 60 := by omega
            clear hx hin hnl c5 c0
            by_cases hkd : kd = 1
            · subst hkd
              go_wp2_with fail
              have y1 := ext_cell c1
              have y2 := ext_cell d1
              have y3 := ext_cell d2
              have y4 := ext_cell c3
              have y5 := ext_cell d3
              have y6 := ext_cell d4
              haveI := ext_some w
              have HBQ : Hid (Below w.heap.size w wr.drew) := HT1.out.bl.drew
              have HTQ : Hid (Two w wn wr.drew l rs ka kb tt tt) := HT1.out.step (Below.refl wr.heap.size wr).drew
              clear c1 c2 c3 c4 d1 d2 d3 d4 a0 a1 a2 a3
              refine wp_region_mix_seq (C := fun W => ∃ y : Ext w, W = y.z) [0, 1, 2, 3, 4, 5, 6, 7, 8, 9, 10, 12, 13, 14, 15, 16, 17, 18, 19, 20, 21, 22, 11, 23, 24] (by kernel_rfl) (by kernel_rfl) (by kernel_rfl) (by kernel_rfl) (by simp only [List.filterMap_cons, List.getElem?_toArray, List.getElem?_cons_zero, List.getElem?_cons_succ, List.filterMap_nil]; rfl) ⟨⟨_, HBQ.out⟩, rfl⟩ ?_
              generalize wr.drew = wd at *
              (repeat (first | (with_reducible refine mix_read (by kernel_rfl) ?_; go_big_quiet_want; go_big_quiet_op; go_big_quiet_on; with_reducible refine wpQuiet_nil ?_) | (with_reducible refine mix_pass (by kernel_rfl) ?_; go_big_quiet_skip; with_reducible refine wpQuiet_nil ?_)))
              with_reducible refine mix_call (by kernel_rfl) (by kernel_rfl) ((cmd_a vv occ lies ck cr HTQ.out HIN.out HLN.out).mono ?_) (by kernel_rfl)
              rintro e v2 ⟨rfl, ht, -⟩
              have HT3 : Hid (Two w wn v2 l rs ka kb (cmdG l rs tt occ lies ck cr).2 tt) := ht
              clear ht
              refine ⟨_, rfl, ⟨⟨_, HT3.out.bl⟩, rfl⟩, ?_⟩
              simp only [Act.put, List.setIfInBounds_toArray, List.set_cons_zero, List.set_cons_succ]
              (repeat (first | (with_reducible refine mix_read (by kernel_rfl) ?_; go_big_quiet_want; go_big_quiet_op; go_big_quiet_on; with_reducible refine wpQuiet_nil ?_) | (with_reducible refine mix_pass (by kernel_rfl) ?_; go_big_quiet_skip; with_reducible refine wpQuiet_nil ?_)))
              with_reducible refine mix_call (by kernel_rfl) (by kernel_rfl) ((cmd_b vv occ lies ck cr HT3.out HIN.out HLN.out).mono ?_) (by kernel_rfl)
              rintro e v3 ⟨rfl, ht, -⟩
              have HT6 : Hid (Two w wn v3 l rs ka kb (cmdG l rs tt occ lies ck cr).2 (cmdG l rs tt occ lies ck cr).2) := ht
              clear ht
              refine ⟨_, rfl, ⟨⟨_, HT6.out.bl⟩, rfl⟩, ?_⟩
              generalize (cmdG l rs tt occ lies ck cr).1 = cc
              have hd : (cc != cc) = false := by simp
              simp only [Act.put, List.setIfInBounds_toArray, List.set_cons_zero, List.set_cons_succ]
              (repeat (first | (with_reducible refine mix_read (by kernel_rfl) ?_; go_big_quiet_want; go_big_quiet_op; go_big_quiet_on; with_reducible refine wpQuiet_nil ?_) | (with_reducible refine mix_pass (by kernel_rfl) ?_; go_big_quiet_skip; with_reducible refine wpQuiet_nil ?_)))
              with_reducible refine mix_end ?_
              intro _
              clear y1 y2 y3 y4 y5 y6
              go_wp2
              go_roundg (60 - (k + 1))
              case rel => exact ⟨k + 1, _, rfl, by go_num, by omega, by omega, HT6.out⟩
              case measure => omega
            · have hkf : (kd == 1) = false := by simp [hkd]
              go_wp2_with fail
              have y1 := ext_cell c1
              have y2 := ext_cell d1
              have y3 := ext_cell d2
              have y4 := ext_cell c3
              have y5 := ext_cell d3
              have y6 := ext_cell d4
              haveI := ext_some w
              have HBQ : Hid (Below w.heap.size w wr.drew) := HT1.out.bl.drew
              have HTQ : Hid (Two w wn wr.drew l rs ka kb tt tt) := HT1.out.step (Below.refl wr.heap.size wr).drew
              clear c1 c2 c3 c4 d1 d2 d3 d4 a0 a1 a2 a3
              refine wp_region_mix_seq (C := fun W => ∃ y : Ext w, W = y.z) [0, 1, 2, 3, 4, 5, 7, 8, 9, 10, 11, 12, 6, 13, 14, 15] (by kernel_rfl) (by kernel_rfl) (by kernel_rfl) (by kernel_rfl) (by simp only [List.filterMap_cons, List.getElem?_toArray, List.getElem?_cons_zero, List.getElem?_cons_succ, List.filterMap_nil]; rfl) ⟨⟨_, HBQ.out⟩, rfl⟩ ?_
              generalize wr.drew = wd at *
              (repeat (first | (with_reducible refine mix_read (by kernel_rfl) ?_; go_big_quiet_want; go_big_quiet_op; go_big_quiet_on; with_reducible refine wpQuiet_nil ?_) | (with_reducible refine mix_pass (by kernel_rfl) ?_; go_big_quiet_skip; with_reducible refine wpQuiet_nil ?_)))
              with_reducible refine mix_call (by kernel_rfl) (by kernel_rfl) ((CYA.out wn wd ka kb tt tt vv occ lies HTQ.out HIN.out HLN.out).mono ?_) (by kernel_rfl)
              rintro e v2 ⟨b1, b2, rfl, ho, ht, -⟩
              have HT3 : Hid (Two w wn v2 l rs ka kb (cycG l rs tt occ lies).1 tt) := ht
              have HO3 : Hid (OutAt v2 wd.heap.size b1 b2 (cycG l rs tt occ lies).2.1 (cycG l rs tt occ lies).2.2) := ho
              clear ht ho
              refine ⟨_, rfl, ⟨⟨_, HT3.out.bl⟩, rfl⟩, ?_⟩
              simp only [Act.put, List.setIfInBounds_toArray, List.set_cons_zero, List.set_cons_succ]
              simp only [outV]
              (repeat (first | (with_reducible refine mix_read (by kernel_rfl) ?_; go_big_quiet_want; go_big_quiet_op; go_big_quiet_on; with_reducible refine wpQuiet_nil ?_) | (with_reducible refine mix_pass (by kernel_rfl) ?_; go_big_quiet_skip; with_reducible refine wpQuiet_nil ?_)))
              with_reducible refine mix_call (by kernel_rfl) (by kernel_rfl) ((CYB.out wn v2 ka kb (cycG l rs tt occ lies).1 tt vv occ lies HT3.out HIN.out HLN.out).mono ?_) (by kernel_rfl)
              rintro e v3 ⟨b3, b4, rfl, ho, ht, hc⟩
              have HT6 : Hid (Two w wn v3 l rs ka kb (cycG l rs tt occ lies).1 (cycG l rs tt occ lies).1) := ht
              have HC := CLN.out tt occ lies
              have HO6 := HO3.out.tc hc
              have D := sameOut_eq (some ⟨b1, 0, none⟩) (some ⟨b2, 0, none⟩) (some ⟨b3, 0, none⟩) (some ⟨b4, 0, none⟩) n1 n2 n1 n2 n1 n2 _ _ v3 (out_d HO6 HC.1) (out_p HO6 HC.2) (out_d ho HC.1) (out_p ho HC.2) HNN.out
              clear ht ho hc HC HO6
              refine ⟨_, rfl, ⟨⟨_, HT6.out.bl⟩, rfl⟩, ?_⟩
              simp only [Act.put, List.setIfInBounds_toArray, List.set_cons_zero, List.set_cons_succ]
              simp only [outV]
              (repeat (first | (with_reducible refine mix_read (by kernel_rfl) ?_; go_big_quiet_want; go_big_quiet_op; go_big_quiet_on; with_reducible refine wpQuiet_nil ?_) | (with_reducible refine mix_pass (by kernel_rfl) ?_; go_big_quiet_skip; with_reducible refine wpQuiet_nil ?_)))
              with_reducible refine mix_call (by kernel_rfl) (by kernel_rfl) (D.mono ?_) (by kernel_rfl)
              rintro e v4 ⟨rfl, hb⟩
              have HT7 : Hid (Two w wn v4 l rs ka kb (cycG l rs tt occ lies).1 (cycG l rs tt occ lies).1) := HT6.out.step hb
              clear hb D
              refine ⟨_, rfl, ⟨⟨_, HT7.out.bl⟩, rfl⟩, ?_⟩
              simp only [Act.put, List.setIfInBounds_toArray, List.set_cons_zero, List.set_cons_succ]
              (repeat (first | (with_reducible refine mix_read (by kernel_rfl) ?_; go_big_quiet_want; go_big_quiet_op; go_big_quiet_on; with_reducible refine wpQuiet_nil ?_) | (with_reducible refine mix_pass (by kernel_rfl) ?_; go_big_quiet_skip; with_reducible refine wpQuiet_nil ?_)))
              with_reducible refine mix_end ?_
              intro _
              clear y1 y2 y3 y4 y5 y6
              go_wp2
              go_roundg (60 - (k + 1))
              case rel => exact ⟨k + 1, _, rfl, by go_num, by omega, by omega, HT7.out⟩
              case measure => omega
          · have hki : (k : Int) < (nb : Int) := by omega
            have hkj : ¬ (k : Int) < 60 := by omega
            go_wp2_with fail
            refine (routes_a HT2.out).mono ?_
            rintro e w7 ⟨va, rfl, hra, hb⟩
            have HT7 : Hid (Two w wn w7 l rs ka kb tt tt) := HT2.out.step hb
            have HRA : Hid (rowAt w7 va 4 stC tt) := hra
            clear hra hb
            go_wp2_with fail
            refine (routes_b HT7.out).mono ?_
            rintro e w8 ⟨vb, rfl, hrb, hb⟩
            have HT8 : Hid (Two w wn w8 l rs ka kb tt tt) := HT7.out.step hb
            have D := rfSame_eq va vb tt w8 (HRA.out.below hb) hrb (by have := HT8.out.oa.len; have := HT8.out.oa.few.2.2.2; omega)
            clear hrb hb
            go_wp2_with fail
            refine D.mono ?_
            rintro e w9 ⟨rfl, hb⟩
            have HT9 : Hid (Two w wn w9 l rs ka kb tt tt) := HT8.out.step hb
            clear hb D
            go_wp2_with fail
            refine (known_any _).mono ?_
            rintro e wz ⟨rfl, hb⟩
            go_wp2
            go_ret
            exact ⟨rfl, HT9.out.bl.trans (hb.mono HT9.out.bl.size)⟩
        · have hki : ¬ (k : Int) < (nb : Int) := by omega
          go_wp2_with fail
          refine (routes_a HT2.out).mono ?_
          rintro e w7 ⟨va, rfl, hra, hb⟩
          have HT7 : Hid (Two w wn w7 l rs ka kb tt tt) := HT2.out.step hb
          have HRA : Hid (rowAt w7 va 4 stC tt) := hra
          clear hra hb
          go_wp2_with fail
          refine (routes_b HT7.out).mono ?_
          rintro e w8 ⟨vb, rfl, hrb, hb⟩
          have HT8 : Hid (Two w wn w8 l rs ka kb tt tt) := HT7.out.step hb
          have D := rfSame_eq va vb tt w8 (HRA.out.below hb) hrb (by have := HT8.out.oa.len; have := HT8.out.oa.few.2.2.2; omega)
          clear hrb hb
          go_wp2_with fail
          refine D.mono ?_
          rintro e w9 ⟨rfl, hb⟩
          have HT9 : Hid (Two w wn w9 l rs ka kb tt tt) := HT8.out.step hb
          clear hb D
          go_wp2_with fail
          refine (known_any _).mono ?_
          rintro e wz ⟨rfl, hb⟩
          go_wp2
          go_ret
          exact ⟨rfl, HT9.out.bl.trans (hb.mono HT9.out.bl.size)⟩

theorem own : ownKnob Tryd.prog.godebug = none := by kernel_rfl
theorem u8x : U8Extra Tryd.prog Tryd.lays260_ren := ⟨by kernel_rfl, by kernel_rfl, by kernel_rfl, by kernel_rfl, by kernel_rfl, by kernel_rfl, by kernel_rfl⟩
theorem accept_eq : (Rows.laid_unicode_utf8_acceptRanges : DataW Unit) = Lib.acceptData := by kernel_rfl
theorem first_eq : Rows.laid_unicode_utf8_first = Lib.firstData := Pinned.utf8First_eq
theorem tabs_of {W : World} (hL : laidMet Tryd.prog Rows.lockSetsBackRow.laid W) : Lib.Utf8Tabs 0 1 W :=
  utf8Tabs_of_readsT (U8Types.of260 Tryd.lays260) u8x (first_eq ▸ Lib.laidMet.reads hL (.tail _ (.head _))) (accept_eq ▸ Lib.laidMet.reads hL (.head _))

set_option maxRecDepth 100000 in
theorem lifted (os : Os) (started : os.Started) (H : Type) (enc : TypeId × Value → H) :
    ReturnsInHanded {} Tryd.checked os 4 .any (fun w args => (Rows.lockSetsBackSpec.pre enc Tryd.prog Tryd.f4 [] false w args ∧ laidMetH Tryd.prog Rows.lockSetsBackRow.laid w) ∧ sizedMet enc Tryd.prog Tryd.f4 (OpenSpec.ofChange Rows.lockSetsBackSpec) false w args)
      (Rows.lockSetsBackSpec.post enc Tryd.prog Tryd.f4 false true false false) := by
  refine returnsInHanded_of_change_and (C := Tryd.checked) (X := fun w _ => laidMetH Tryd.prog Rows.lockSetsBackRow.laid w) (fun _ _ _ hh h => h.of_heap hh) own started (by kernel_rfl) Tryd.func4
    (ChangeSpec.witness_shaped (enc := enc) (C := Tryd.checked) (os := os) (X := fun w _ => laidMetH Tryd.prog Rows.lockSetsBackRow.laid w) false (World.laidAll Tryd.prog os Rows.lockSetsBackRow.laid) #[.agg #[.slice none 0 0, .slice none 0 0, .slice none 0 0, .slice none 0 0], .slice none 0 0, .slice none 0 0] 8 (World.laidAll_os _ _ _)
      (World.shaped_of_ZipB (by kernel_rfl) (by kernel_rfl)) (by kernel_rfl) (by kernel_rfl) (by kernel_rfl)
      (by rw [MakeChecks.laidMetH_plain _ _ _ (by kernel_rfl)]; exact laidMet_laidAll _ (by kernel_rfl) (by kernel_rfl))) ?_
  intro W base args ds gs before hval0 hW _ hsz0 hL _
  have hval : ∀ (j : Nat) t v, Tryd.f4.params[j]? = some t → args[j]? = some v → Value.okWide Tryd.prog W .any base t v := hval0
  have hsz : (DataW.weightsEach Tryd.prog (Tryd.f4.params.toList ++ Rows.lockSetsBackSpec.plain.varTypes Tryd.prog) (ds ++ gs)).all (· ≤ reachBytes) = true := hsz0
  have hW' := hW
  obtain ⟨p, q, hA0, hV, rfl, _, _⟩ := hW
  have hA : DataW.TrodAll enc Tryd.prog W 0 (fun _ => true) true Tryd.f4.params.toList args.toList ds p := hA0
  rw [Tryd.params4] at hA hval hsz
  obtain ⟨v0, vs0, d0, ds0, p0, q0, hargs, rfl, rfl, h0, r0⟩ := trodAll_cons hA
  obtain ⟨v1, vs1, d1, ds1, p1, q1, rfl, rfl, rfl, h1, r1⟩ := trodAll_cons r0
  obtain ⟨v2, vs2, d2, ds2, p2, q2, rfl, rfl, rfl, h2, r2⟩ := trodAll_cons r1
  obtain ⟨rfl, rfl, rfl⟩ := trodAll_nil r2
  obtain rfl : args = #[v0, v1, v2] := by cases args; simp_all
  obtain ⟨rfl, rfl⟩ := trodVars_none hV
  have k0 := h0
  have lt0 : ∀ x ∈ p0, x.block < W.heap.size := by obtain ⟨m, hm⟩ := k0; exact DataW.trod_lt m _ _ _ hm
  have g0 := weights_at hsz (j := 0) (t := 26) rfl rfl
  obtain ⟨u0, l0, s0, rfl, y0, b0, c0, x0⟩ := open_layout_c (hval 0 26 v0 rfl rfl) h0 g0
  obtain ⟨a1, len1, cap1, rfl⟩ := okWide_slice Tryd.underlying42 (hval 1 42 v1 rfl rfl)
  have k1 := h1
  have lt1 : ∀ x ∈ p1, x.block < W.heap.size := by obtain ⟨m, hm⟩ := k1; exact DataW.trod_lt m _ _ _ hm
  obtain ⟨z1, e1, m1, s1⟩ : ∃ l : List Ac5, l.length = len1 ∧ len1 ≤ maxLen ∧ hasActs5 W a1 l := by
    obtain ⟨fuel, hf⟩ := h1
    exact open_acts5 hf
  obtain ⟨a2, len2, cap2, rfl⟩ := okWide_slice Tryd.underlying42 (hval 2 42 v2 rfl rfl)
  have k2 := h2
  have lt2 : ∀ x ∈ p2, x.block < W.heap.size := by obtain ⟨m, hm⟩ := k2; exact DataW.trod_lt m _ _ _ hm
  obtain ⟨z2, e2, m2, s2⟩ : ∃ l : List Ac5, l.length = len2 ∧ len2 ≤ maxLen ∧ hasActs5 W a2 l := by
    obtain ⟨fuel, hf⟩ := h2
    exact open_acts5 hf
  clear hA0 hval0
  rw [MakeChecks.laidMetH_plain _ _ _ (by kernel_rfl)] at hL
  refine (walk W u0 l0 s0 y0 b0 c0 x0 a1 len1 cap1 z1 e1 m1 s1 a2 len2 cap2 z2 e2 m2 s2 (tabs_of hL)).mono fun e W' ⟨he, bel⟩ => ?_
  subst he
  exact ⟨_, rfl, _, _, _, [], _, [], hW', trodAll_mk1 (shut_bool Tryd.underlying4 _), (trodAll_cons_mk (Below.trod laidOut (by kernel_rfl) (of_decide_eq_true (by kernel_rfl)) k0 bel lt0) (trodAll_cons_mk (Below.trod laidOut (by kernel_rfl) (of_decide_eq_true (by kernel_rfl)) k1 bel lt1) (trodAll_cons_mk (Below.trod laidOut (by kernel_rfl) (of_decide_eq_true (by kernel_rfl)) k2 bel lt2) trodAll_mk0))), rfl, bel.frame _, fun h => by cases h⟩

theorem over : Rows.lockSetsBackRow.holds Tryd.pinned (OpenSpec.ofChange Rows.lockSetsBackSpec) :=
  OpenClaim.holds_of_wide 4 Tryd.f4 rfl rfl rfl rfl rfl rfl rfl ⟨rfl, rfl, rfl, rfl, rfl⟩ rfl rfl rfl rfl rfl (by kernel_rfl) Tryd.func4 (by kernel_rfl)
    (of_decide_eq_true (by kernel_rfl)) (by unfold Func.isWrapper; first | (rw [if_pos (by decide +kernel)]; kernel_rfl) | (rw [if_neg (by decide +kernel)]; exact ⟨rfl, rfl⟩))
    (fun os started H enc _ => lifted os started H enc)

theorem card : Rows.LockSetsBackCardSaid :=
  Claim7.holds_tied_plain_at .later [] _ _ _ _ over (fun _ h => by cases h) (by kernel_rfl) (fun _ h => by cases h) lockSetsBack_row_tie rfl ⟨rfl, rfl⟩ (by kernel_rfl) rfl
    (fun f fn hf hfn => by
      obtain rfl : f = 4 := Option.some.inj ((show Tryd.prog.funcNamed Rows.lockSetsBackRow.func = some 4 by kernel_rfl).symm.trans hf) |>.symm
      obtain rfl : fn = Tryd.f4 := (Option.some.inj (Tryd.func4.symm.trans hfn)).symm
      exact ⟨by kernel_rfl, fun j t ht => by
        rw [Tryd.params4] at ht
        have hm : t ∈ [26, 42, 42] := by simpa using Array.mem_of_getElem? ht
        have hall : ([26, 42, 42].all fun u => !Tryd.prog.wantsStandIn u) = true := by kernel_rfl
        exact (show Tryd.prog.wantsStandIn t = false by simpa using List.all_eq_true.1 hall t hm)⟩)
    (by kernel_rfl)

end Go.Proofs.YtfgkkhcoidegdabDoor.lockSetsBack
namespace Go.Proofs.YtfgkkhcoidegdabDoor
theorem lockSetsBack_holds : Rows.LockSetsBackCardSaid := lockSetsBack.card
#print axioms lockSetsBack_holds
end Go.Proofs.YtfgkkhcoidegdabDoor
