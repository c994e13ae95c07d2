/-
  Of every layout and whatever the field tells: LockIn returns true. A tied card: what unicode/utf8's two tables hold is listed, tied by the given tie.
-/
import Derived.Test.YtfgkkhcoidegdabDoorRows
import Derived.Test.YtfgkkhcoidegdabDoorTie
import Derived.Test.YtfgkkhcoidegdabDoorCards
import Derived.Test.YtfgkkhcoidegdabDoorJoin1
import Derived.Test.YtfgkkhcoidegdabDoorLkKnown
import Derived.Test.YtfgkkhcoidegdabDoorLkInOut2
import Derived.WalkKit
import Derived.ProofKit
import Derived.OpenShut
import Derived.ShutString
import Derived.ChangeOld
import Derived.Below
import Derived.SizedLaws
import Derived.PinnedBridge
import Derived.Lib.LaidU8T
import Derived.Lay
import Derived.LaidOnce
import Derived.SevenTiedAt
import Derived.Deep.DeepHandedRow
namespace Go.Proofs.YtfgkkhcoidegdabDoor.lockIn
open Go.ChangeShapes Go.WideShapes Go.ChangeAt Go.RowKit

abbrev id0 (rs : List RtV) : List St := List.replicate rs.length idleS
theorem flat_i (l : List Int) : l.flatMap iC = ((l.map (Value.int .i64)).toArray).toList := by
  induction l with
  | nil => rfl
  | cons x l ih => rw [List.flatMap_cons, ih]; rfl
theorem flat_b (l : List Bool) : l.flatMap bC = ((l.map Value.bool).toArray).toList := by
  induction l with
  | nil => rfl
  | cons x l ih => rw [List.flatMap_cons, ih]; rfl
theorem out_d {W : World} {B b1 b2 n : Nat} {dr : List Int} {pr : List Bool} (h : OutAt W B b1 b2 dr pr) (hn : dr.length = n) : rowAt W (.slice (some ⟨b1, 0, none⟩) n n) 1 iC dr := by
  subst hn
  exact row_blk (cs := iC) (fun _ => rfl) dr h.h1 (flat_i dr)
theorem out_p {W : World} {B b1 b2 n : Nat} {dr : List Int} {pr : List Bool} (h : OutAt W B b1 b2 dr pr) (hn : pr.length = n) : rowAt W (.slice (some ⟨b2, 0, none⟩) n n) 1 bC pr := by
  subst hn
  exact row_blk (cs := bC) (fun _ => rfl) pr h.h2 (flat_b pr)

set_option maxRecDepth 1000000 in
set_option maxHeartbeats 32000000 in
theorem walk (w : World) (v : Nat → Value) (l : Lay) (rs : List RtV) (h : LayRd w v l rs) (hB : LayBig l) (hcap : ∀ x ∈ rs, capOk x.2.1) (hc3 : capOk (v 3) ∧ capOk (v 0) ∧ capOk (v 2)) (u : Nat → Value) (oc : List Bool) (li : List Int) (hin : InRd w u oc li) (hT : Lib.Utf8Tabs 0 1 w) :
    Calls Tryd.prog 5 #[.agg #[v 0, v 1, v 2, v 3], .agg #[u 0, u 1]] w fun e w' => e = .returned (.bool true) ∧ Below w.heap.size w w' := by
  have hlr : rs.length = l.routes.length := by rw [← h.m, List.length_map]
  obtain ⟨o0, c0, e0, _⟩ := h.s
  obtain ⟨o1, c1, e1, _⟩ := h.p
  obtain ⟨o2, c2, e2, _⟩ := h.g
  obtain ⟨o3, c3, e3, r3⟩ := h.r
  have MID : LaySmall l → IsMid l rs v := fun hs => ⟨by have := hs.s.1; omega, by have := hs.p.1; omega, by have := hs.g.1; omega, by have := hs.r.1; omega, fun x hx => by
    have := hs.r.2 x.1 (by rw [← h.m]; exact List.mem_map.2 ⟨x, hx, rfl⟩)
    exact ⟨hcap x hx, by omega, by omega, by omega⟩, hc3.2.1, hc3.2.2⟩
  have SZ : Hid (∀ W, Below w.heap.size w W → Calls Tryd.prog 6 #[.agg #[v 0, v 1, v 2, v 3]] W fun e w' => ∃ n : Int, e = .returned (.int .i64 n) ∧ 0 ≤ n ∧ n ≤ 1125899906842624 ∧ (n < 3000 → LaySmall l) ∧ Below W.heap.size W w') := fun W hW => size_any v l rs W (h.below hW) hB
  have IS : Hid (LaySmall l → ∀ W, Below w.heap.size w W → Calls Tryd.prog 7 #[.agg #[v 0, v 1, v 2, v 3]] W fun e w' => e = .returned (.bool (isB l)) ∧ Below W.heap.size W w') := fun hs W hW => is_any v l rs W (h.below hW) hcap (LayMid.of hs hB) (tabs_below hT hW)
  have NEW : Hid (LaySmall l → isB l = true → ∀ W, Below w.heap.size w W → Calls Tryd.prog 8 #[.agg #[v 0, v 1, v 2, v 3]] W fun e w' => ∃ kb, e = .returned (.tuple #[.pointer (some ⟨kb, 0, none⟩), .int .i64 0]) ∧ LkG w w' l rs kb (id0 rs) ∧ Below W.heap.size W w') := fun hs hi W hW => new_g w W v l rs (h.below hW) (MID hs) hi hs hW
  have MAY : Hid (li.length ≤ 4294967296 → ∀ W, Below w.heap.size w W → Calls Tryd.prog 19 #[.agg #[v 0, v 1, v 2, v 3], .agg #[u 0, u 1]] W fun e w' => e = .returned (.bool (inB2 oc li l.sections.length l.points.length)) ∧ Below W.heap.size W w') := fun hl W hW => rfMayIn_any v l rs u oc li W (h.below hW) (hin.below hW) hl
  have MAK : Hid (li.length ≤ 4294967296 → ∀ W, Below w.heap.size w W → Calls Tryd.prog 20 #[.agg #[v 0, v 1, v 2, v 3], .agg #[u 0, u 1]] W fun e w' => e = .returned (.bool (inB2 oc li l.sections.length l.points.length)) ∧ Below W.heap.size W w') := fun hl W hW => lkMayIn_any v l rs u oc li W (h.below hW) (hin.below hW) hl
  have WID : Hid (∀ W, Below w.heap.size w W → Calls Tryd.prog 18 #[.agg #[u 0, u 1]] W fun e w' => e = .returned (.bool (decide (50 < oc.length) || decide (50 < li.length))) ∧ Below W.heap.size W w') := fun W hW => wide_any u oc li W (hin.below hW)
  have CMD : Hid (li.length ≤ 4294967296 → ∀ W kb ss kind r, LkG w W l rs kb ss → Calls Tryd.prog 9 #[.pointer (some ⟨kb, 0, none⟩), .agg #[u 0, u 1], .agg #[.int .i64 kind, .int .i64 r]] W fun e w' => e = .returned (.int .i64 (cmdG l rs ss oc li kind r).1) ∧ LkG w w' l rs kb (cmdG l rs ss oc li kind r).2 ∧ TC W w') := fun hl W kb ss kind r hk => cmd_o w W l rs kb ss u oc li kind r hk hin hl
  have CYC : Hid (li.length ≤ 4294967296 → ∀ W kb ss, LkG w W l rs kb ss → Calls Tryd.prog 13 #[.pointer (some ⟨kb, 0, none⟩), .agg #[u 0, u 1]] W fun e w' => ∃ b1 b2, e = .returned (outV b1 b2 l.points.length l.signals.length) ∧ OutAt w' W.heap.size b1 b2 (cycG l rs ss oc li).2.1 (cycG l rs ss oc li).2.2 ∧ LkG w w' l rs kb (cycG l rs ss oc li).1 ∧ TC W w') := fun hl W kb ss hk => cyc_o w W l rs kb ss u oc li hk hin hl
  have SAF : Hid (∀ W kb ss, LkG w W l rs kb ss → Calls Tryd.prog 21 #[.pointer (some ⟨kb, 0, none⟩)] W fun e w' => ∃ b1 b2, e = .returned (outV b1 b2 l.points.length l.signals.length) ∧ OutAt w' W.heap.size b1 b2 (List.replicate l.points.length 0) (List.replicate l.signals.length false) ∧ Below W.heap.size W w') := fun W kb ss hk => safe_g w W l rs kb ss hk
  have BAD : Hid (inB2 oc li l.sections.length l.points.length = false → ∀ ss kind r, cmdG l rs ss oc li kind r = (1, ss) ∧ cycG l rs ss oc li = (ss, (List.replicate l.points.length 0, List.replicate l.signals.length false))) := fun hb ss kind r => by
    have hb' : inB2 oc li l.sections.length (l.points.map (·.2)).length = false := by rw [List.length_map]; exact hb
    constructor
    · rw [cmdG, cmdF, hb']
      rfl
    · rw [cycG, cycF, hb', List.length_map]
      rfl
  obtain ⟨p0, d0, f0, _⟩ := hin.o
  obtain ⟨p1, d1, f1, _⟩ := hin.l
  have HLR : Hid (rs.length = l.routes.length) := hlr
  clear MID
  rw [e0, e1, e2, e3] at SZ IS NEW MAY MAK ⊢
  rw [f0, f1] at MAY MAK WID CMD CYC ⊢
  clear f0 f1 hin
  clear h hB hcap hT hc3 e0 e1 e2 e3 r3 hlr
  have HG0 : Hid (l.sections.length = l.sections.length ∧ l.points.length = l.points.length) := ⟨rfl, rfl⟩
  generalize hs0 : l.sections.length = n0 at *
  generalize hs1 : l.points.length = n1 at *
  generalize hs2 : l.signals.length = n2 at *
  generalize hs3 : rs.length = n3 at *
  have HS : Hid (l.sections.length = n0 ∧ l.points.length = n1 ∧ rs.length = n3) := ⟨hs0, hs1, hs3⟩
  have HS2 : Hid (l.signals.length = n2) := hs2
  clear hs0 hs1 hs2 hs3 HG0
  generalize hch : (w.alloc (.cells #[.slice o0 n0 c0, .slice o1 n1 c1, .slice o2 n2 c2, .slice o3 n3 c3] 26)).alloc (.cells #[.slice p0 oc.length d0, .slice p1 li.length d1] 36) = w1
  have HB01 : Hid (Below w.heap.size w w1) := by show Below _ _ _; rw [← hch]; exact (by repeat' (with_reducible first | exact Below.refl _ _ | refine Below.drew ?_ | refine _root_.Go.below_drewN ?_ _ | refine Below.alloc ?_ ?_ _ | refine Below.setCell ?_ ?_ _ | exact Nat.le_refl _ | (simp; done) | (simp; omega)))
  have H0 : Hid (w1.heap[w.heap.size]? = some (.cells #[.slice o0 n0 c0, .slice o1 n1 c1, .slice o2 n2 c2, .slice o3 n3 c3] 26 (0, 0))) := by show _ = _; rw [← hch]; exact blk_old (blk_new _ _)
  have H1 : Hid (w1.heap[w.heap.size + 1]? = some (.cells #[.slice p0 oc.length d0, .slice p1 li.length d1] 36 (0, 0))) := by show _ = _; rw [← hch]; exact blk_at1 _ _ _
  have HUP : Hid (∀ W, Below w1.heap.size w1 W → Below w.heap.size w W) := fun W hW => HB01.out.trans (hW.mono HB01.out.size)
  obtain ⟨⟨q0, q1, q2, q3⟩, _⟩ := cells4 H0.out
  go_enter Tryd.func5, Tryd.ntmps5
  go_wp2_with fail
  clear hch
  refine (SZ.out _ HB01.out).mono ?_
  rintro e w2 ⟨n, rfl, hn0, hn1, hsm, hb2⟩
  have HB2 : Hid (Below w1.heap.size w1 w2) := hb2
  clear q0 q1 q2 q3 hb2 SZ
  obtain ⟨⟨q0, q1, q2, q3⟩, _⟩ := cells4 (blk_below HB2.out H0.out)
  by_cases hbig : (3000 : Int) ≤ n
  · clear hsm
    go_wp2_with fail
    go_ret
    exact ⟨rfl, HUP.out _ HB2.out⟩
  have HSM : Hid (LaySmall l) := hsm (by omega)
  clear hsm
  have D := WID.out w2 (HUP.out _ HB2.out)
  obtain ⟨t0, t1⟩ := cells2 (blk_below HB2.out H1.out)
  by_cases hw : (decide (50 < oc.length) || decide (50 < li.length)) = true
  · rw [hw] at D
    clear hw
    go_wp2_with fail
    refine D.mono ?_
    rintro e w3 ⟨rfl, hb3⟩
    go_wp2
    go_ret
    exact ⟨rfl, HUP.out _ (HB2.out.trans (hb3.mono HB2.out.size))⟩
  have hwf : (decide (50 < oc.length) || decide (50 < li.length)) = false := by simpa using hw
  have HLI : Hid (li.length ≤ 4294967296) := by
    have h2 := (Bool.or_eq_false_iff.1 hwf).2
    have h3 := of_decide_eq_false h2
    show _ ≤ _
    omega
  rw [hwf] at D
  clear hw hwf
  go_wp2_with fail
  refine D.mono ?_
  rintro e w2' ⟨rfl, hb2⟩
  have HB2' : Hid (Below w1.heap.size w1 w2') := HB2.out.trans (hb2.mono HB2.out.size)
  clear q0 q1 q2 q3 t0 t1 hb2 D WID
  obtain ⟨⟨q0, q1, q2, q3⟩, _⟩ := cells4 (blk_below HB2'.out H0.out)
  have D := IS.out HSM.out w2' (HUP.out _ HB2'.out)
  have HBI : Hid (isB l = isB l) := rfl
  generalize hbl : isB l = b at D
  have HBL : Hid (isB l = b) := hbl
  clear hbl HBI
  go_wp2_with fail
  refine D.mono ?_
  rintro e w3 ⟨rfl, hb3⟩
  have HB3 : Hid (Below w1.heap.size w1 w3) := HB2'.out.trans (hb3.mono HB2'.out.size)
  clear q0 q1 q2 q3 hb3 D IS
  obtain ⟨⟨q0, q1, q2, q3⟩, _⟩ := cells4 (blk_below HB3.out H0.out)
  cases b
  · go_wp2
    go_ret
    exact ⟨rfl, HUP.out _ HB3.out⟩
  have D := NEW.out HSM.out HBL.out w3 (HUP.out _ HB3.out)
  go_wp2_with fail
  refine D.mono ?_
  rintro e wx ⟨kb, rfl, hk, hb4⟩
  have HBX : Hid (Below w1.heap.size w1 wx) := HB3.out.trans (hb4.mono HB3.out.size)
  have HKX : Hid (LkG w wx l rs kb (id0 rs)) := hk
  clear q0 q1 q2 q3 hb4 hk D NEW hbig hn0 hn1
  obtain ⟨⟨q0, q1, q2, q3⟩, _⟩ := cells4 (blk_below HBX.out H0.out)
  obtain ⟨t0, t1⟩ := cells2 (blk_below HBX.out H1.out)
  have D := MAY.out HLI.out wx (HUP.out _ HBX.out)
  go_wp2_with fail
  refine D.mono ?_
  rintro e v1 ⟨rfl, hb⟩
  have HB4 : Hid (Below w1.heap.size w1 v1) := HBX.out.trans (hb.mono HBX.out.size)
  have HK4 : Hid (LkG w v1 l rs kb (id0 rs)) := HKX.out.step hb
  clear q0 q1 q2 q3 t0 t1 D hb MAY
  obtain ⟨⟨q0, q1, q2, q3⟩, _⟩ := cells4 (blk_below HB4.out H0.out)
  obtain ⟨t0, t1⟩ := cells2 (blk_below HB4.out H1.out)
  have D := MAK.out HLI.out v1 (HUP.out _ HB4.out)
  go_wp2_with fail
  refine D.mono ?_
  rintro e v2 ⟨rfl, hb⟩
  have HB5 : Hid (Below w1.heap.size w1 v2) := HB4.out.trans (hb.mono HB4.out.size)
  have HK5 : Hid (LkG w v2 l rs kb (id0 rs)) := HK4.out.step hb
  clear q0 q1 q2 q3 t0 t1 D hb MAK HBX HKX HB4 HK4
  obtain ⟨⟨q0, q1, q2, q3⟩, _⟩ := cells4 (blk_below HB5.out H0.out)
  obtain ⟨t0, t1⟩ := cells2 (blk_below HB5.out H1.out)
  have hnn : n1 ≤ 1000 ∧ n2 ≤ 1000 := by have a := LayOk.of HBL.out; have b := a.pts; have c := a.sig; have d := HS.out; have e := HS2.out; omega
  have HNN : Hid (n1 ≤ 1000 ∧ n2 ≤ 1000) := hnn
  clear hnn
  cases hin : inB2 oc li n0 n1
  · have HBD : Hid (∀ ss kind r, cmdG l rs ss oc li kind r = (1, ss) ∧ cycG l rs ss oc li = (ss, (List.replicate n1 0, List.replicate n2 false))) := BAD.out hin
    clear hin BAD
    have D := CMD.out HLI.out v2 kb (id0 rs) 1 0 HK5.out
    rw [(HBD.out (id0 rs) 1 0).1] at D
    clear q0 q1 q2 q3
    go_wp2_with fail
    refine D.mono ?_
    rintro e v3 ⟨rfl, hk, hc⟩
    have HK6 : Hid (LkG w v3 l rs kb (id0 rs)) := hk
    have H16 : Hid (v3.heap[w.heap.size + 1]? = some (.cells #[.slice p0 oc.length d0, .slice p1 li.length d1] 36 (0, 0))) := hc.blk (blk_below HB5.out H1.out) (by decide)
    clear hk hc D t0 t1
    obtain ⟨t0, t1⟩ := cells2 H16.out
    have D := CYC.out HLI.out v3 kb (id0 rs) HK6.out
    rw [(HBD.out (id0 rs) 1 0).2] at D
    go_wp2_with fail
    refine D.mono ?_
    rintro e v4 ⟨b1, b2, rfl, ho, hk, hc⟩
    have HK7 : Hid (LkG w v4 l rs kb (id0 rs)) := hk
    have HO7 : Hid (OutAt v4 v3.heap.size b1 b2 (List.replicate n1 0) (List.replicate n2 false)) := ho
    clear hk hc ho D t0 t1
    have D := SAF.out v4 kb (id0 rs) HK7.out
    go_wp2_with fail
    refine D.mono ?_
    rintro e v5 ⟨b3, b4, rfl, ho, hb⟩
    have HK8 : Hid (LkG w v5 l rs kb (id0 rs)) := HK7.out.step hb
    have HO8 : Hid (OutAt v5 v3.heap.size b1 b2 (List.replicate n1 0) (List.replicate n2 false) ∧ OutAt v5 v4.heap.size b3 b4 (List.replicate n1 0) (List.replicate n2 false)) := ⟨HO7.out.below hb, ho⟩
    clear hb ho D
    have D := sameOut_eq (some ⟨b1, 0, none⟩) (some ⟨b2, 0, none⟩) (some ⟨b3, 0, none⟩) (some ⟨b4, 0, none⟩) n1 n2 n1 n2 n1 n2 (List.replicate n1 0) (List.replicate n2 false) v5 (out_d HO8.out.1 (by simp)) (out_p HO8.out.1 (by simp)) (out_d HO8.out.2 (by simp)) (out_p HO8.out.2 (by simp)) HNN.out
    go_wp2_with fail
    refine D.mono ?_
    rintro e v6 ⟨rfl, hb⟩
    have HK9 : Hid (LkG w v6 l rs kb (id0 rs)) := HK8.out.step hb
    clear hb D
    go_wp2_with fail
    refine (known_any _).mono ?_
    rintro e v7 ⟨rfl, hb⟩
    go_wp2
    go_ret
    exact ⟨rfl, HK9.out.bl.trans (hb.mono HK9.out.bl.size)⟩
  · clear hin BAD
    have hd1 : ((n1 : Int) == (n1 : Int)) = true := by simp
    have hd2 : ((n2 : Int) == (n2 : Int)) = true := by simp
    have hf0 : ∀ (a b : Value) W, (Instr.field 48 (.agg #[a, b]) 0).run Tryd.prog W = .ok a W := fun a b W => by kernel_rfl
    have hf1 : ∀ (a b : Value) W, (Instr.field 48 (.agg #[a, b]) 1).run Tryd.prog W = .ok b W := fun a b W => by kernel_rfl
    go_upto_region 11 with fail
    have y1 := ext_cell q1
    have y2 := ext_cell q2
    haveI := ext_some v2
    have HT : Hid (Below v2.heap.size v2 v2.drew) := (Below.refl _ _).drew
    clear q0 q1 q2 q3 t0 t1
    refine wp_region_mix_seq (C := fun W => ∃ y : Ext v2, W = y.z) [0, 4, 5, 6, 1, 2, 3, 7, 8, 9, 13, 14, 15, 10, 11, 12, 16, 17, 18, 19, 20, 21] (by kernel_rfl) (by kernel_rfl) (by kernel_rfl) (by kernel_rfl) (by simp only [List.filterMap_cons, List.getElem?_toArray, List.getElem?_cons_zero, List.getElem?_cons_succ, List.filterMap_nil]; rfl) ⟨⟨_, (Below.refl _ _).drew⟩, rfl⟩ ?_
    generalize v2.drew = wd at *
    (repeat (first | (with_reducible refine mix_read (by kernel_rfl) ?_; go_big_quiet_want; go_big_quiet_op; go_big_quiet_on; with_reducible refine wpQuiet_nil ?_) | (with_reducible refine mix_pass (by kernel_rfl) ?_; go_big_quiet_skip; with_reducible refine wpQuiet_nil ?_)))
    with_reducible refine mix_call (by kernel_rfl) (by kernel_rfl) ((SAF.out wd kb (id0 rs) (HK5.out.step HT.out)).mono ?_) (by kernel_rfl)
    rintro e v3 ⟨b1, b2, rfl, -, hb⟩
    have HT1 : Hid (Below v2.heap.size v2 v3) := HT.out.trans (hb.mono HT.out.size)
    clear hb
    refine ⟨_, rfl, ⟨⟨_, HT1.out⟩, rfl⟩, ?_⟩
    simp only [Act.put, List.setIfInBounds_toArray, List.set_cons_zero, List.set_cons_succ]
    simp only [outV]
    (repeat (first | (with_reducible refine mix_read (by kernel_rfl) ?_; go_big_quiet_want; go_big_quiet_op; go_big_quiet_on; with_reducible refine wpQuiet_nil ?_) | (with_reducible refine mix_pass (by kernel_rfl) ?_; go_big_quiet_skip; with_reducible refine wpQuiet_nil ?_)))
    with_reducible refine mix_call (by kernel_rfl) (by kernel_rfl) ((SAF.out v3 kb (id0 rs) (HK5.out.step HT1.out)).mono ?_) (by kernel_rfl)
    rintro e v4 ⟨b3, b4, rfl, -, hb⟩
    have HT2 : Hid (Below v2.heap.size v2 v4) := HT1.out.trans (hb.mono HT1.out.size)
    clear hb
    refine ⟨_, rfl, ⟨⟨_, HT2.out⟩, rfl⟩, ?_⟩
    simp only [Act.put, List.setIfInBounds_toArray, List.set_cons_zero, List.set_cons_succ]
    simp only [outV]
    (repeat (first | (with_reducible refine mix_read (by kernel_rfl) ?_; go_big_quiet_want; go_big_quiet_op; go_big_quiet_on; with_reducible refine wpQuiet_nil ?_) | (with_reducible refine mix_pass (by kernel_rfl) ?_; go_big_quiet_skip; with_reducible refine wpQuiet_nil ?_)))
    with_reducible refine mix_call (by kernel_rfl) (by kernel_rfl) ((known_any v4).mono ?_) (by kernel_rfl)
    rintro e v5 ⟨rfl, hb⟩
    have HT3 : Hid (Below v2.heap.size v2 v5) := HT2.out.trans (hb.mono HT2.out.size)
    clear hb
    refine ⟨_, rfl, ⟨⟨_, HT3.out⟩, rfl⟩, ?_⟩
    simp only [Act.put, List.setIfInBounds_toArray, List.set_cons_zero, List.set_cons_succ]
    (repeat (first | (with_reducible refine mix_read (by kernel_rfl) ?_; go_big_quiet_want; go_big_quiet_op; go_big_quiet_on; with_reducible refine wpQuiet_nil ?_) | (with_reducible refine mix_pass (by kernel_rfl) ?_; go_big_quiet_skip; with_reducible refine wpQuiet_nil ?_)))
    with_reducible refine mix_end ?_
    intro _
    clear y1 y2
    go_wp2
    go_ret
    exact ⟨rfl, (HK5.out.step HT3.out).bl⟩

theorem own : ownKnob Tryd.prog.godebug = none := by kernel_rfl
theorem u8x : U8Extra Tryd.prog Tryd.lays260_ren := ⟨by kernel_rfl, by kernel_rfl, by kernel_rfl, by kernel_rfl, by kernel_rfl, by kernel_rfl, by kernel_rfl⟩
theorem accept_eq : (Rows.laid_unicode_utf8_acceptRanges : DataW Unit) = Lib.acceptData := by kernel_rfl
theorem first_eq : Rows.laid_unicode_utf8_first = Lib.firstData := Pinned.utf8First_eq
theorem tabs_of {W : World} (hL : laidMet Tryd.prog Rows.lockInRow.laid W) : Lib.Utf8Tabs 0 1 W :=
  utf8Tabs_of_readsT (U8Types.of260 Tryd.lays260) u8x (first_eq ▸ Lib.laidMet.reads hL (.tail _ (.head _))) (accept_eq ▸ Lib.laidMet.reads hL (.head _))

set_option maxRecDepth 100000 in
theorem lifted (os : Os) (started : os.Started) (H : Type) (enc : TypeId × Value → H) :
    ReturnsInHanded {} Tryd.checked os 5 .any (fun w args => (Rows.lockInSpec.pre enc Tryd.prog Tryd.f5 [] false w args ∧ laidMetH Tryd.prog Rows.lockInRow.laid w) ∧ sizedMet enc Tryd.prog Tryd.f5 (OpenSpec.ofChange Rows.lockInSpec) false w args)
      (Rows.lockInSpec.post enc Tryd.prog Tryd.f5 false true false false) := by
  refine returnsInHanded_of_change_and (C := Tryd.checked) (X := fun w _ => laidMetH Tryd.prog Rows.lockInRow.laid w) (fun _ _ _ hh h => h.of_heap hh) own started (by kernel_rfl) Tryd.func5
    (ChangeSpec.witness_shaped (enc := enc) (C := Tryd.checked) (os := os) (X := fun w _ => laidMetH Tryd.prog Rows.lockInRow.laid w) false (World.laidAll Tryd.prog os Rows.lockInRow.laid) #[.agg #[.slice none 0 0, .slice none 0 0, .slice none 0 0, .slice none 0 0], .agg #[.slice none 0 0, .slice none 0 0]] 8 (World.laidAll_os _ _ _)
      (World.shaped_of_ZipB (by kernel_rfl) (by kernel_rfl)) (by kernel_rfl) (by kernel_rfl) (by kernel_rfl)
      (by rw [MakeChecks.laidMetH_plain _ _ _ (by kernel_rfl)]; exact laidMet_laidAll _ (by kernel_rfl) (by kernel_rfl))) ?_
  intro W base args ds gs before hval0 hW _ hsz0 hL _
  have hval : ∀ (j : Nat) t v, Tryd.f5.params[j]? = some t → args[j]? = some v → Value.okWide Tryd.prog W .any base t v := hval0
  have hsz : (DataW.weightsEach Tryd.prog (Tryd.f5.params.toList ++ Rows.lockInSpec.plain.varTypes Tryd.prog) (ds ++ gs)).all (· ≤ reachBytes) = true := hsz0
  have hW' := hW
  obtain ⟨p, q, hA0, hV, rfl, _, _⟩ := hW
  have hA : DataW.TrodAll enc Tryd.prog W 0 (fun _ => true) true Tryd.f5.params.toList args.toList ds p := hA0
  rw [Tryd.params5] at hA hval hsz
  obtain ⟨v0, vs0, d0, ds0, p0, q0, hargs, rfl, rfl, h0, r0⟩ := trodAll_cons hA
  obtain ⟨v1, vs1, d1, ds1, p1, q1, rfl, rfl, rfl, h1, r1⟩ := trodAll_cons r0
  obtain ⟨rfl, rfl, rfl⟩ := trodAll_nil r1
  obtain rfl : args = #[v0, v1] := by cases args; simp_all
  obtain ⟨rfl, rfl⟩ := trodVars_none hV
  have k0 := h0
  have lt0 : ∀ x ∈ p0, x.block < W.heap.size := by obtain ⟨m, hm⟩ := k0; exact DataW.trod_lt m _ _ _ hm
  have g0 := weights_at hsz (j := 0) (t := 26) rfl rfl
  obtain ⟨u0, l0, s0, rfl, y0, b0, c0, x0⟩ := open_layout_c (hval 0 26 v0 rfl rfl) h0 g0
  have k1 := h1
  have lt1 : ∀ x ∈ p1, x.block < W.heap.size := by obtain ⟨m, hm⟩ := k1; exact DataW.trod_lt m _ _ _ hm
  obtain ⟨u1, oc1, li1, rfl, s1⟩ := open_in (hval 1 36 v1 rfl rfl) h1
  clear hA0 hval0
  rw [MakeChecks.laidMetH_plain _ _ _ (by kernel_rfl)] at hL
  refine (walk W u0 l0 s0 y0 b0 c0 x0 u1 oc1 li1 s1 (tabs_of hL)).mono fun e W' ⟨he, bel⟩ => ?_
  subst he
  exact ⟨_, rfl, _, _, _, [], _, [], hW', trodAll_mk1 (shut_bool Tryd.underlying4 _), (trodAll_cons_mk (Below.trod laidOut (by kernel_rfl) (of_decide_eq_true (by kernel_rfl)) k0 bel lt0) (trodAll_cons_mk (Below.trod laidOut (by kernel_rfl) (of_decide_eq_true (by kernel_rfl)) k1 bel lt1) trodAll_mk0)), rfl, bel.frame _, fun h => by cases h⟩

theorem over : Rows.lockInRow.holds Tryd.pinned (OpenSpec.ofChange Rows.lockInSpec) :=
  OpenClaim.holds_of_wide 5 Tryd.f5 rfl rfl rfl rfl rfl rfl rfl ⟨rfl, rfl, rfl, rfl, rfl⟩ rfl rfl rfl rfl rfl (by kernel_rfl) Tryd.func5 (by kernel_rfl)
    (of_decide_eq_true (by kernel_rfl)) (by unfold Func.isWrapper; first | (rw [if_pos (by decide +kernel)]; kernel_rfl) | (rw [if_neg (by decide +kernel)]; exact ⟨rfl, rfl⟩))
    (fun os started H enc _ => lifted os started H enc)

theorem card : Rows.LockInCardSaid :=
  Claim7.holds_tied_plain_at .later [] _ _ _ _ over (fun _ h => by cases h) (by kernel_rfl) (fun _ h => by cases h) lockIn_row_tie rfl ⟨rfl, rfl⟩ (by kernel_rfl) rfl
    (fun f fn hf hfn => by
      obtain rfl : f = 5 := Option.some.inj ((show Tryd.prog.funcNamed Rows.lockInRow.func = some 5 by kernel_rfl).symm.trans hf) |>.symm
      obtain rfl : fn = Tryd.f5 := (Option.some.inj (Tryd.func5.symm.trans hfn)).symm
      exact ⟨by kernel_rfl, fun j t ht => by
        rw [Tryd.params5] at ht
        have hm : t ∈ [26, 36] := by simpa using Array.mem_of_getElem? ht
        have hall : ([26, 36].all fun u => !Tryd.prog.wantsStandIn u) = true := by kernel_rfl
        exact (show Tryd.prog.wantsStandIn t = false by simpa using List.all_eq_true.1 hall t hm)⟩)
    (by kernel_rfl)

end Go.Proofs.YtfgkkhcoidegdabDoor.lockIn
namespace Go.Proofs.YtfgkkhcoidegdabDoor
theorem lockIn_holds : Rows.LockInCardSaid := lockIn.card
#print axioms lockIn_holds
end Go.Proofs.YtfgkkhcoidegdabDoor
