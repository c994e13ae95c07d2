/-
  Of every layout and a script: LockTells returns true. A tied card: what unicode/utf8's two tables hold is listed, tied by the given tie.
-/
import Derived.Test.YtceebimgfajbcaaGreatDoorRows
import Derived.Test.YtceebimgfajbcaaGreatDoorTie
import Derived.Test.YtceebimgfajbcaaGreatDoorCards
import Derived.Test.YtceebimgfajbcaaGreatDoorJoin1
import Derived.Test.YtceebimgfajbcaaGreatDoorLkKnown
import Derived.Test.YtceebimgfajbcaaGreatDoorLySz5
import Derived.Test.YtceebimgfajbcaaGreatDoorLkLong
import Derived.Test.YtceebimgfajbcaaGreatDoorLkTellR
import Derived.WalkKit
import Derived.ProofKit
import Derived.OpenShut
import Derived.ShutString
import Derived.ChangeOld
import Derived.Below
import Derived.SizedLaws
import Derived.PinnedBridge
import Derived.Lib.LaidU8T
import Derived.Lay
import Derived.LaidOnce
import Derived.SevenTiedAt
import Derived.Deep.DeepHandedRow
namespace Go.Proofs.YtceebimgfajbcaaGreatDoor.lockTells
open Go.ChangeShapes Go.WideShapes Go.ChangeAt Go.RowKit

abbrev id0 (rs : List RtV) : List St := List.replicate rs.length idleS
theorem flat_i (l : List Int) : l.flatMap iC = ((l.map (Value.int .i64)).toArray).toList := by
  induction l with
  | nil => rfl
  | cons x l ih => rw [List.flatMap_cons, ih]; rfl
theorem flat_b (l : List Bool) : l.flatMap bC = ((l.map Value.bool).toArray).toList := by
  induction l with
  | nil => rfl
  | cons x l ih => rw [List.flatMap_cons, ih]; rfl
theorem out_d {W : World} {B b1 b2 n : Nat} {dr : List Int} {pr : List Bool} (h : OutAt W B b1 b2 dr pr) (hn : dr.length = n) : rowAt W (.slice (some ⟨b1, 0, none⟩) n n) 1 iC dr := by
  subst hn
  exact row_blk (cs := iC) (fun _ => rfl) dr h.h1 (flat_i dr)
theorem out_p {W : World} {B b1 b2 n : Nat} {dr : List Int} {pr : List Bool} (h : OutAt W B b1 b2 dr pr) (hn : pr.length = n) : rowAt W (.slice (some ⟨b2, 0, none⟩) n n) 1 bC pr := by
  subst hn
  exact row_blk (cs := bC) (fun _ => rfl) pr h.h2 (flat_b pr)
theorem tellAll_len (pts : List Int) (ws : List Wy) (ss : List St) (occ : List Bool) (lies : List Int) : ∀ (qs : List (Wy × St)) (k : Nat) (o : List Int × List Bool), (tellAll pts ws ss occ lies qs k o).1.length = o.1.length ∧ (tellAll pts ws ss occ lies qs k o).2.length = o.2.length
  | [], _, _ => ⟨rfl, rfl⟩
  | q :: qs, k, o => by
    have h := tellAll_len pts ws ss occ lies qs (k + 1) (tellF pts ws ss occ lies k q.1 q.2 o)
    have g := tellF_len pts ws ss occ lies k q.1 q.2 o
    rw [tellAll]
    exact ⟨h.1.trans g.1, h.2.trans g.2⟩
theorem cycG_len (l : Lay) (rs : List RtV) (ss : List St) (occ : List Bool) (lies : List Int) : (cycG l rs ss occ lies).2.1.length = l.points.length ∧ (cycG l rs ss occ lies).2.2.length = l.signals.length := by
  rw [cycG, cycF]
  split
  · have := tellAll_len (l.points.map (·.2)) (waysG rs rs 0) (stepAll occ lies (waysG rs rs 0) ss) occ lies ((waysG rs rs 0).zip (stepAll occ lies (waysG rs rs 0) ss)) 0 (List.replicate (l.points.map (·.2)).length 0, List.replicate l.signals.length false)
    simpa using this
  · simp
theorem cycG_bad {l : Lay} {rs : List RtV} {ss : List St} {occ : List Bool} {lies : List Int} (h : inB2 occ lies l.sections.length l.points.length = false) : (cycG l rs ss occ lies).2 = (List.replicate l.points.length 0, List.replicate l.signals.length false) := by
  have hb' : inB2 occ lies l.sections.length (l.points.map (·.2)).length = false := by rw [List.length_map]; exact h
  rw [cycG, cycF, hb', List.length_map]
  rfl
/-- The worlds above one, where a block holds this. -/
structure ExB (w : World) (b : Nat) (o : Obj) where
  z : World
  h : Below w.heap.size w z
  hb : z.heap[b]? = some o
theorem exb_cell {w : World} {b : Nat} {o : Obj} {p : Addr} {v : Value} (h : w.cell? p = some v) (y : ExB w b o) : y.z.cell? p = some v := ext_cell h ⟨y.z, y.h⟩
theorem exb_0 {w : World} {b : Nat} {a0 a1 : Value} {t : TypeId} (y : ExB w b (.cells #[a0, a1] t (0, 0))) : y.z.cell? ⟨b, 0, none⟩ = some a0 := (cells2 y.hb).1
theorem exb_1 {w : World} {b : Nat} {a0 a1 : Value} {t : TypeId} (y : ExB w b (.cells #[a0, a1] t (0, 0))) : y.z.cell? ⟨b, 1, none⟩ = some a1 := (cells2 y.hb).2
theorem in_len {occ : List Bool} {lies : List Int} {n m : Nat} (h : inB2 occ lies n m = true) : occ.length = n ∧ lies.length = m := by
  rw [inB2, Bool.and_eq_true, Bool.and_eq_true, decide_eq_true_eq, decide_eq_true_eq] at h
  omega

set_option maxRecDepth 1000000 in
set_option maxHeartbeats 64000000 in
theorem walk (w : World) (v : Nat → Value) (l : Lay) (rs : List RtV) (h : LayRd w v l rs) (hB : LayBig l) (hcap : ∀ x ∈ rs, capOk x.2.1) (hc3 : capOk (v 3) ∧ capOk (v 0) ∧ capOk (v 2)) (oa : Option Addr) (na ca : Nat) (za : List Ac5) (ea : za.length = na) (ma : na ≤ maxLen) (sa : hasActs5 w oa za) (hT : Lib.Utf8Tabs 0 1 w) :
    Calls Tryz.prog 3 #[.agg #[v 0, v 1, v 2, v 3], .slice oa na ca] w fun e w' => e = .returned (.bool true) ∧ Below w.heap.size w w' := by
  have hlr : rs.length = l.routes.length := by rw [← h.m, List.length_map]
  obtain ⟨o0, c0, e0, _⟩ := h.s
  obtain ⟨o1, c1, e1, _⟩ := h.p
  obtain ⟨o2, c2, e2, _⟩ := h.g
  obtain ⟨o3, c3, e3, r3⟩ := h.r
  have MID : LaySmall l → IsMid l rs v := fun hs => ⟨by have := hs.s.1; omega, by have := hs.p.1; omega, by have := hs.g.1; omega, by have := hs.r.1; omega, fun x hx => by
    have := hs.r.2 x.1 (by rw [← h.m]; exact List.mem_map.2 ⟨x, hx, rfl⟩)
    exact ⟨hcap x hx, by omega, by omega, by omega⟩, hc3.2.1, hc3.2.2⟩
  have SZ : Hid (∀ W, Below w.heap.size w W → Calls Tryz.prog 5 #[.agg #[v 0, v 1, v 2, v 3]] W fun e w' => ∃ n : Int, e = .returned (.int .i64 n) ∧ 0 ≤ n ∧ n ≤ 1125899906842624 ∧ (n < 3000 → LaySmall l) ∧ Below W.heap.size W w') := fun W hW => size5_any v l rs W (h.below hW) hB
  have IS : Hid (LaySmall l → ∀ W, Below w.heap.size w W → Calls Tryz.prog 7 #[.agg #[v 0, v 1, v 2, v 3]] W fun e w' => e = .returned (.bool (isB l)) ∧ Below W.heap.size W w') := fun hs W hW => is_any v l rs W (h.below hW) hcap (LayMid.of hs hB) (tabs_below hT hW)
  have NEW : Hid (LaySmall l → isB l = true → ∀ W, Below w.heap.size w W → Calls Tryz.prog 8 #[.agg #[v 0, v 1, v 2, v 3]] W fun e w' => ∃ kb, e = .returned (.tuple #[.pointer (some ⟨kb, 0, none⟩), .int .i64 0]) ∧ LkG w w' l rs kb (id0 rs) ∧ Below W.heap.size W w') := fun hs hi W hW => new_g w W v l rs (h.below hW) (MID hs) hi hs hW
  have LGA : Hid (∀ W, Below w.heap.size w W → Calls Tryz.prog 6 #[.slice oa na ca] W fun e w' => e = .returned (.bool (longB za)) ∧ Below W.heap.size W w') := fun W hW => by subst ea; exact long_any oa ca za W (sa.below hW) ma
  have CYC : Hid (∀ (W : World) (kb : Nat) (ss : List St) (u : Nat → Value) (occ : List Bool) (lies : List Int), LkG w W l rs kb ss → InRd w u occ lies → lies.length ≤ 4294967296 → Calls Tryz.prog 10 #[.pointer (some ⟨kb, 0, none⟩), .agg #[u 0, u 1]] W fun e w' => ∃ b1 b2, e = .returned (outV b1 b2 l.points.length l.signals.length) ∧ OutAt w' W.heap.size b1 b2 (cycG l rs ss occ lies).2.1 (cycG l rs ss occ lies).2.2 ∧ LkG w w' l rs kb (cycG l rs ss occ lies).1 ∧ TC W w') := fun W kb ss u occ lies hk hi hl => cyc_o w W l rs kb ss u occ lies hk hi hl
  have SAF : Hid (∀ W kb ss, LkG w W l rs kb ss → Calls Tryz.prog 14 #[.pointer (some ⟨kb, 0, none⟩)] W fun e w' => ∃ b1 b2, e = .returned (outV b1 b2 l.points.length l.signals.length) ∧ OutAt w' W.heap.size b1 b2 (List.replicate l.points.length 0) (List.replicate l.signals.length false) ∧ Below W.heap.size W w') := fun W kb ss hk => safe_g w W l rs kb ss hk
  have MBE : Hid (∀ (W : World) (kb : Nat) (ss : List St), LkG w W l rs kb ss → ∀ (k : Nat) (x : RtV) (s : St), rs[k]? = some x → ss[k]? = some s → mayBeF s x.1.path.length = true) := fun W kb ss hk k x s hx hs => hk.ok.sts k _ s (ways_at rs rs 0 k x hx) hs
  have LEN : Hid (∀ (W : World) (kb : Nat) (ss : List St), LkG w W l rs kb ss → ss.length = rs.length ∧ rs.length ≤ 1000) := fun W kb ss hk => by have := hk.ok.len; have := hk.ok.few.2.2.2; rw [waysG_map] at *; exact ⟨‹_›, ‹_›⟩
  have SMR : LaySmall l → ∀ x ∈ rs, x.1.path.length ≤ 1000000 ∧ x.1.points.length + x.1.flank.length ≤ 1000000 := fun hs x hx => by
    have := hs.r.2 x.1 (by rw [← h.m]; exact List.mem_map.2 ⟨x, hx, rfl⟩)
    omega
  have MAY : Hid (LaySmall l → ∀ (W U : World) (kb : Nat) (ss : List St) (vr : Value), Below w.heap.size w U → LkG w W l rs kb ss → ApartS (waysG rs rs 0) ss → rowAt U vr 4 stC ss → Calls Tryz.prog 15 #[.agg #[v 0, v 1, v 2, v 3], vr] U fun e w' => e = .returned (.bool true) ∧ Below U.heap.size U w') := fun hs W U kb ss vr hU hk hap hv => rfMay_yes v l rs ss vr U (h.below hU) hv (LEN.out W kb ss hk).1 (LEN.out W kb ss hk).2 (MBE.out W kb ss hk) hap (SMR hs)
  have MYI : Hid (∀ (u : Nat → Value) (occ : List Bool) (lies : List Int) (W : World), Below w.heap.size w W → InRd w u occ lies → lies.length ≤ 4294967296 → Calls Tryz.prog 12 #[.agg #[v 0, v 1, v 2, v 3], .agg #[u 0, u 1]] W fun e w' => e = .returned (.bool (inB2 occ lies l.sections.length l.points.length)) ∧ Below W.heap.size W w') := fun u occ lies W hW hi hl => rfMayIn_any v l rs u occ lies W (h.below hW) (hi.below hW) hl
  have RIG : Hid (∀ (W U : World) (kb : Nat) (ss st : List St) (u : Nat → Value) (occ : List Bool) (lies : List Int) (y : Nat → Value) (dr : List Int) (pr : List Bool) (vr : Value), Below w.heap.size w U → LkG w W l rs kb ss → ApartS (waysG rs rs 0) ss → InRd w u occ lies → inB2 occ lies l.sections.length l.points.length = true → (cycG l rs ss occ lies).1 = st → (cycG l rs ss occ lies).2.1 = dr → (cycG l rs ss occ lies).2.2 = pr → rowAt U (y 0) 1 iC dr → rowAt U (y 1) 1 bC pr → rowAt U vr 4 stC st → Calls Tryz.prog 16 #[.agg #[v 0, v 1, v 2, v 3], .agg #[u 0, u 1], .agg #[y 0, y 1], vr] U fun e w' => e = .returned (.bool true) ∧ Below U.heap.size U w') := fun W U kb ss st u occ lies y dr pr vr hU hk hap hi hin e1 e2 e3 hd hp hv => by
    subst e1 e2 e3
    have hl := cycG_len l rs ss occ lies
    have hn := in_len hin
    exact right_any v l rs u occ lies y _ _ vr _ U (h.below hU) (hi.below hU) hd hp hv (hk.ok.cyc occ lies) hcap ⟨hl.1, hl.2, hn.1, hn.2⟩ (tell_ok hk.ok hap hin)
  have CLN : Hid (∀ (ss : List St) (occ : List Bool) (lies : List Int), (cycG l rs ss occ lies).2.1.length = l.points.length ∧ (cycG l rs ss occ lies).2.2.length = l.signals.length) := cycG_len l rs
  have CBD : Hid (∀ (ss : List St) (occ : List Bool) (lies : List Int), inB2 occ lies l.sections.length l.points.length = false → (cycG l rs ss occ lies).2 = (List.replicate l.points.length 0, List.replicate l.signals.length false)) := fun ss occ lies hb => cycG_bad hb
  have HSA : Hid (hasActs5 w oa za) := sa
  have HNA : Hid (za.length = na) := ea
  have HLR : Hid (rs.length = l.routes.length) := hlr
  unfold maxLen at ma
  clear MID SMR sa ea
  rw [e0, e1, e2, e3] at SZ IS NEW MAY MYI RIG ⊢
  clear h hB hcap hT hc3 e0 e1 e2 e3 r3 hlr
  have HG0 : Hid (l.sections.length = l.sections.length ∧ l.points.length = l.points.length) := ⟨rfl, rfl⟩
  generalize hs0 : l.sections.length = n0 at *
  generalize hs1 : l.points.length = n1 at *
  generalize hs2 : l.signals.length = n2 at *
  generalize hs3 : rs.length = n3 at *
  have HS : Hid (l.sections.length = n0 ∧ l.points.length = n1 ∧ rs.length = n3) := ⟨hs0, hs1, hs3⟩
  have HS2 : Hid (l.signals.length = n2) := hs2
  clear hs0 hs1 hs2 hs3 HG0
  generalize hch : w.alloc (.cells #[.slice o0 n0 c0, .slice o1 n1 c1, .slice o2 n2 c2, .slice o3 n3 c3] 26) = w1
  have HB01 : Hid (Below w.heap.size w w1) := by show Below _ _ _; rw [← hch]; exact (by repeat' (with_reducible first | exact Below.refl _ _ | refine Below.drew ?_ | refine _root_.Go.below_drewN ?_ _ | refine Below.alloc ?_ ?_ _ | refine Below.setCell ?_ ?_ _ | exact Nat.le_refl _ | (simp; done) | (simp; omega)))
  have H0 : Hid (w1.heap[w.heap.size]? = some (.cells #[.slice o0 n0 c0, .slice o1 n1 c1, .slice o2 n2 c2, .slice o3 n3 c3] 26 (0, 0))) := by show _ = _; rw [← hch]; exact blk_new _ _
  have HUP : Hid (∀ W, Below w1.heap.size w1 W → Below w.heap.size w W) := fun W hW => HB01.out.trans (hW.mono HB01.out.size)
  obtain ⟨⟨q0, q1, q2, q3⟩, _⟩ := cells4 H0.out
  go_enter Tryz.func3, Tryz.ntmps3
  go_wp2_with fail
  clear hch
  refine (SZ.out _ HB01.out).mono ?_
  rintro e w2 ⟨n, rfl, hn0, hn1, hsm, hb2⟩
  have HB2 : Hid (Below w1.heap.size w1 w2) := hb2
  clear q0 q1 q2 q3 hb2 SZ
  obtain ⟨⟨q0, q1, q2, q3⟩, _⟩ := cells4 (blk_below HB2.out H0.out)
  by_cases hbig : (3000 : Int) ≤ n
  · clear hsm
    go_wp2_with fail
    go_ret
    exact ⟨rfl, HUP.out _ HB2.out⟩
  have HSM : Hid (LaySmall l) := hsm (by omega)
  clear hsm
  have D := LGA.out w2 (HUP.out _ HB2.out)
  generalize hla : longB za = ba at D
  have HLA : Hid (longB za = ba) := hla
  go_wp2_with fail
  refine D.mono ?_
  rintro e w3 ⟨rfl, hb⟩
  have HB3 : Hid (Below w1.heap.size w1 w3) := HB2.out.trans (hb.mono HB2.out.size)
  clear q0 q1 q2 q3 D hb hla LGA
  obtain ⟨⟨q0, q1, q2, q3⟩, _⟩ := cells4 (blk_below HB3.out H0.out)
  cases ba
  case true =>
    go_wp2_with fail
    go_ret
    exact ⟨rfl, HUP.out _ HB3.out⟩
  have D := IS.out HSM.out w3 (HUP.out _ HB3.out)
  generalize hbl : isB l = b at D
  have HBL : Hid (isB l = b) := hbl
  clear hbl
  go_wp2_with fail
  refine D.mono ?_
  rintro e w5 ⟨rfl, hb⟩
  have HB5 : Hid (Below w1.heap.size w1 w5) := HB3.out.trans (hb.mono HB3.out.size)
  clear q0 q1 q2 q3 hb D IS
  obtain ⟨⟨q0, q1, q2, q3⟩, _⟩ := cells4 (blk_below HB5.out H0.out)
  cases b
  case false =>
    go_wp2_with fail
    go_ret
    exact ⟨rfl, HUP.out _ HB5.out⟩
  have D := NEW.out HSM.out HBL.out w5 (HUP.out _ HB5.out)
  have MAY2 := (show Hid _ from MAY.out HSM.out)
  go_wp2_with fail
  refine D.mono ?_
  rintro e wn ⟨ka, rfl, hk, hb⟩
  have HBN : Hid (wn.heap[w.heap.size]? = some (.cells #[.slice o0 n0 c0, .slice o1 n1 c1, .slice o2 n2 c2, .slice o3 n3 c3] 26 (0, 0))) := blk_below (HB5.out.trans (hb.mono HB5.out.size)) H0.out
  have HKN : Hid (LkG w wn l rs ka (id0 rs)) := hk
  clear q0 q1 q2 q3 hb hk D hbig hn0 hn1 MAY
  have HN03 : Hid (n1 ≤ 1000 ∧ n2 ≤ 1000 ∧ n3 ≤ 1000) := by have a := LayOk.of HBL.out; have b := a.pts; have c := a.rts; have c2 := a.sig; have d := HS.out; have d2 := HS2.out; have e := HLR.out; show _ ∧ _ ∧ _; omega
  have hn03 := HN03.out
  go_wp2
  go_loopg [7] 60 (fun gk i wr => ∃ (k : Nat) (ss : List St), gk = 60 - k ∧ i = .int .i64 k ∧ k ≤ 60 ∧ k ≤ na ∧ LkG w wr l rs ka ss ∧ ApartS (waysG rs rs 0) ss ∧ wr.heap[w.heap.size]? = some (.cells #[.slice o0 n0 c0, .slice o1 n1 c1, .slice o2 n2 c2, .slice o3 n3 c3] 26 (0, 0)))
  case atStart => exact ⟨0, _, rfl, rfl, by omega, by omega, HKN.out, apart_idle _ _, HBN.out⟩
  case round =>
    obtain ⟨k, ss, rfl, rfl, hk, hkn, hlk, hap, hbx⟩ := hrel
    have HT1 : Hid (LkG w wr l rs ka ss) := hlk
    have HAP : Hid (ApartS (waysG rs rs 0) ss) := hap
    have HBX : Hid (wr.heap[w.heap.size]? = some (.cells #[.slice o0 n0 c0, .slice o1 n1 c1, .slice o2 n2 c2, .slice o3 n3 c3] 26 (0, 0))) := hbx
    clear hlk hap hbx HKN HBN
    by_cases hlt : k < na
    · by_cases h60 : k < 60
      · obtain ⟨x, hx⟩ := at_of (l := za) (k := k) (by rw [HNA.out]; exact hlt)
        obtain ⟨bo, off, rfl, vv, k0, k1, k2, k3, k4, k5, hin, hrr⟩ := HSA.out k x hx
        have hnl := not_long HLA.out h60 hx
        obtain ⟨kd, ⟨occ, lies⟩, ⟨ck, cr⟩, rr⟩ := x
        simp only at k0 k1 k2 k3 k4 k5 hin hnl hrr
        have HLN : Hid (lies.length ≤ 4294967296) := by show _ ≤ _; omega
        have HIN : Hid (InRd w vv occ lies) := hin
        obtain ⟨p0, g0, f0, _⟩ := hin.o
        obtain ⟨p1, g1, f1, _⟩ := hin.l
        obtain ⟨m0, hm0⟩ : ∃ m, occ.length = m := ⟨_, rfl⟩
        obtain ⟨m1, hm1⟩ : ∃ m, lies.length = m := ⟨_, rfl⟩
        have HM : Hid (occ.length = m0 ∧ lies.length = m1) := ⟨hm0, hm1⟩
        rw [f0, hm0] at k1
        rw [f1, hm1] at k2
        have a0 := cell_kept HT1.out.bl k0
        have a1 := cell_kept HT1.out.bl k1
        have a2 : wr.cell? ⟨bo, off + k * 6 + 1 + 0, none⟩ = some (.slice p0 m0 g0) := cell_kept HT1.out.bl k1
        have a3 : wr.cell? ⟨bo, off + k * 6 + 1 + 1, none⟩ = some (.slice p1 m1 g1) := cell_kept HT1.out.bl k2
        have hki : (k : Int) < (na : Int) := by omega
        have hkj : (k : Int) < 60 := by omega
        clear hx hin hnl hrr k5 k1 k2 hm0 hm1
        go_upto_region 10 with fail
        generalize hci : wr.alloc (.cells #[.slice p0 m0 g0, .slice p1 m1 g1] 38) = wi
        have HBI : Hid (Below wr.heap.size wr wi) := by show Below _ _ _; rw [← hci]; exact (Below.refl _ _).alloc (Nat.le_refl _) _
        have HIBi : Hid (wi.heap[wr.heap.size]? = some (.cells #[.slice p0 m0 g0, .slice p1 m1 g1] 38 (0, 0))) := by show _ = _; rw [← hci]; exact blk_new _ _
        clear hci
        have HKi : Hid (LkG w wi l rs ka ss) := HT1.out.step HBI.out
        have HBXi : Hid (wi.heap[w.heap.size]? = some (.cells #[.slice o0 n0 c0, .slice o1 n1 c1, .slice o2 n2 c2, .slice o3 n3 c3] 26 (0, 0))) := blk_below HBI.out HBX.out
        clear HT1 HBX HBI a0 a1 a2 a3
        generalize wr.heap.size = ib at *
        have a0 := cell_kept HKi.out.bl k0
        by_cases hkd : kd = 1
        · subst hkd
          have d3 : w.cell? ⟨bo, off + k * 6 + 3 + 0, none⟩ = some (.int .i64 ck) := k3
          have d4 : w.cell? ⟨bo, off + k * 6 + 3 + 1, none⟩ = some (.int .i64 cr) := k4
          go_wp2_with fail
          have y1 : ∀ y : ExB w ib (.cells #[.slice p0 m0 g0, .slice p1 m1 g1] 38 (0, 0)), y.z.cell? ⟨bo, off + k * 6 + 3, none⟩ = some (.int .i64 ck) := fun y => exb_cell k3 y
          have y2 : ∀ y : ExB w ib (.cells #[.slice p0 m0 g0, .slice p1 m1 g1] 38 (0, 0)), y.z.cell? ⟨bo, off + k * 6 + 3 + 0, none⟩ = some (.int .i64 ck) := fun y => exb_cell d3 y
          have y3 : ∀ y : ExB w ib (.cells #[.slice p0 m0 g0, .slice p1 m1 g1] 38 (0, 0)), y.z.cell? ⟨bo, off + k * 6 + 3 + 1, none⟩ = some (.int .i64 cr) := fun y => exb_cell d4 y
          have y4 : ∀ y : ExB w ib (.cells #[.slice p0 m0 g0, .slice p1 m1 g1] 38 (0, 0)), y.z.cell? ⟨ib, 0, none⟩ = some (.slice p0 m0 g0) := fun y => exb_0 y
          have y5 : ∀ y : ExB w ib (.cells #[.slice p0 m0 g0, .slice p1 m1 g1] 38 (0, 0)), y.z.cell? ⟨ib, 1, none⟩ = some (.slice p1 m1 g1) := fun y => exb_1 y
          haveI : Nonempty (ExB w ib (.cells #[.slice p0 m0 g0, .slice p1 m1 g1] 38 (0, 0))) := ⟨⟨wi, HKi.out.bl, HIBi.out⟩⟩
          have HBQ : Hid (Below wi.heap.size wi wi.drew) := (Below.refl _ _).drew
          have HTC : Hid (TC wi wi.drew) := TC.of_below HBQ.out
          have HKQ : Hid (LkG w wi.drew l rs ka ss) := HKi.out.step HBQ.out
          have HIQ : Hid (wi.drew.heap[ib]? = some (.cells #[.slice p0 m0 g0, .slice p1 m1 g1] 38 (0, 0))) := blk_below HBQ.out HIBi.out
          have HXQ : Hid (wi.drew.heap[w.heap.size]? = some (.cells #[.slice o0 n0 c0, .slice o1 n1 c1, .slice o2 n2 c2, .slice o3 n3 c3] 26 (0, 0))) := blk_below HBQ.out HBXi.out
          clear a0 d3 d4 k0 k3 k4
          refine wp_region_mix_seq (C := fun W => ∃ y : ExB w ib (.cells #[.slice p0 m0 g0, .slice p1 m1 g1] 38 (0, 0)), W = y.z) [0, 1, 2, 3, 4, 5, 6, 7] (by kernel_rfl) (by kernel_rfl) (by kernel_rfl) (by kernel_rfl) (by simp only [List.filterMap_cons, List.getElem?_toArray, List.getElem?_cons_zero, List.getElem?_cons_succ, List.filterMap_nil]; rfl) ⟨⟨_, HKQ.out.bl, HIQ.out⟩, rfl⟩ ?_
          generalize wi.drew = wd at *
          (repeat (first | (with_reducible refine mix_read (by kernel_rfl) ?_; go_big_quiet_want; go_big_quiet_op; go_big_quiet_on; with_reducible refine wpQuiet_nil ?_) | (with_reducible refine mix_pass (by kernel_rfl) ?_; go_big_quiet_skip; with_reducible refine wpQuiet_nil ?_)))
          have D := cmd_o w wd l rs ka ss vv occ lies ck cr HKQ.out HIN.out HLN.out
          rw [f0, f1, HM.out.1, HM.out.2] at D
          with_reducible refine mix_call (by kernel_rfl) (by kernel_rfl) (D.mono ?_) (by kernel_rfl)
          rintro e w2 ⟨rfl, hk2, hc2⟩
          refine ⟨_, rfl, ⟨⟨_, hk2.bl, hc2.blk HIQ.out (by decide)⟩, rfl⟩, ?_⟩
          have HK2 : Hid (LkG w w2 l rs ka (cmdG l rs ss occ lies ck cr).2) := hk2
          have HAP2 : Hid (ApartS (waysG rs rs 0) (cmdG l rs ss occ lies ck cr).2) := HAP.out.cmd (foeOk_ways rs) occ lies ck cr
          have HBX2 : Hid (w2.heap[w.heap.size]? = some (.cells #[.slice o0 n0 c0, .slice o1 n1 c1, .slice o2 n2 c2, .slice o3 n3 c3] 26 (0, 0))) := hc2.blk HXQ.out (by decide)
          have HIB2 : Hid (w2.heap[ib]? = some (.cells #[.slice p0 m0 g0, .slice p1 m1 g1] 38 (0, 0))) := hc2.blk HIQ.out (by decide)
          clear hk2 hc2 D HBQ HKi HBXi HIBi HAP HKQ HIQ HXQ HTC
          generalize (cmdG l rs ss occ lies ck cr).2 = ss2 at *
          simp only [Act.put, List.setIfInBounds_toArray, List.set_cons_zero, List.set_cons_succ]
          (repeat (first | (with_reducible refine mix_read (by kernel_rfl) ?_; go_big_quiet_want; go_big_quiet_op; go_big_quiet_on; with_reducible refine wpQuiet_nil ?_) | (with_reducible refine mix_pass (by kernel_rfl) ?_; go_big_quiet_skip; with_reducible refine wpQuiet_nil ?_)))
          with_reducible refine mix_end ?_
          intro _
          clear y1 y2 y3 y4 y5
          have D := CYC.out w2 ka ss2 vv occ lies HK2.out HIN.out HLN.out
          rw [f0, f1, HM.out.1, HM.out.2] at D
          obtain ⟨i0, i1⟩ := cells2 HIB2.out
          go_wp2_with fail
          refine D.mono ?_
          rintro e w3 ⟨b1, b2, rfl, ho, hk3, hc3⟩
          have HK3 : Hid (LkG w w3 l rs ka (cycG l rs ss2 occ lies).1) := hk3
          have HAP3 : Hid (ApartS (waysG rs rs 0) (cycG l rs ss2 occ lies).1) := HAP2.out.cyc occ lies
          have HBX3 : Hid (w3.heap[w.heap.size]? = some (.cells #[.slice o0 n0 c0, .slice o1 n1 c1, .slice o2 n2 c2, .slice o3 n3 c3] 26 (0, 0))) := hc3.blk HBX2.out (by decide)
          have HIB3 : Hid (w3.heap[ib]? = some (.cells #[.slice p0 m0 g0, .slice p1 m1 g1] 38 (0, 0))) := hc3.blk HIB2.out (by decide)
          have HOA3 : Hid (OutAt w3 w2.heap.size b1 b2 (cycG l rs ss2 occ lies).2.1 (cycG l rs ss2 occ lies).2.2) := ho
          have HLC : Hid ((cycG l rs ss2 occ lies).2.1.length = n1 ∧ (cycG l rs ss2 occ lies).2.2.length = n2) := CLN.out ss2 occ lies
          have HBAD : Hid (inB2 occ lies n0 n1 = false → (cycG l rs ss2 occ lies).2.1 = List.replicate n1 0 ∧ (cycG l rs ss2 occ lies).2.2 = List.replicate n2 false) := fun hb => by rw [CBD.out ss2 occ lies hb]; exact ⟨rfl, rfl⟩
          have HRG : Hid (∀ (U : World) (y : Nat → Value) (vr : Value), Below w.heap.size w U → inB2 occ lies n0 n1 = true → rowAt U (y 0) 1 iC (cycG l rs ss2 occ lies).2.1 → rowAt U (y 1) 1 bC (cycG l rs ss2 occ lies).2.2 → rowAt U vr 4 stC (cycG l rs ss2 occ lies).1 → Calls Tryz.prog 16 #[.agg #[.slice o0 n0 c0, .slice o1 n1 c1, .slice o2 n2 c2, .slice o3 n3 c3], .agg #[.slice p0 m0 g0, .slice p1 m1 g1], .agg #[y 0, y 1], vr] U fun e w' => e = .returned (.bool true) ∧ Below U.heap.size U w') := fun U y vr hU hb hd hp hv => by
            have D := RIG.out w2 U ka ss2 _ vv occ lies y _ _ vr hU HK2.out HAP2.out HIN.out hb rfl rfl rfl hd hp hv
            rw [f0, f1, HM.out.1, HM.out.2] at D
            exact D
          clear ho hk3 hc3 D i0 i1
          generalize hcg : cycG l rs ss2 occ lies = cg at *
          obtain ⟨ss3, dr, pr⟩ := cg
          have HK3' : Hid (LkG w w3 l rs ka ss3) := HK3.out
          have HAP3' : Hid (ApartS (waysG rs rs 0) ss3) := HAP3.out
          have HOA3' : Hid (OutAt w3 w2.heap.size b1 b2 dr pr) := HOA3.out
          have HLC' : Hid (dr.length = n1 ∧ pr.length = n2) := HLC.out
          have HBAD' : Hid (inB2 occ lies n0 n1 = false → dr = List.replicate n1 0 ∧ pr = List.replicate n2 false) := HBAD.out
          have HRG' : Hid (∀ (U : World) (y : Nat → Value) (vr : Value), Below w.heap.size w U → inB2 occ lies n0 n1 = true → rowAt U (y 0) 1 iC dr → rowAt U (y 1) 1 bC pr → rowAt U vr 4 stC ss3 → Calls Tryz.prog 16 #[.agg #[.slice o0 n0 c0, .slice o1 n1 c1, .slice o2 n2 c2, .slice o3 n3 c3], .agg #[.slice p0 m0 g0, .slice p1 m1 g1], .agg #[y 0, y 1], vr] U fun e w' => e = .returned (.bool true) ∧ Below U.heap.size U w') := HRG.out
          clear HK3 HAP3 HOA3 HLC HBAD HRG hcg
          generalize w2.heap.size = bs3 at *
          simp only [outV]
          go_upto_region 13 with fail
          generalize hco : w3.alloc (.cells #[.slice (some ⟨b1, 0, none⟩) n1 n1, .slice (some ⟨b2, 0, none⟩) n2 n2] 46) = w4
          have HBO : Hid (Below w3.heap.size w3 w4) := by show Below _ _ _; rw [← hco]; exact (Below.refl _ _).alloc (Nat.le_refl _) _
          have HOB4 : Hid (w4.heap[w3.heap.size]? = some (.cells #[.slice (some ⟨b1, 0, none⟩) n1 n1, .slice (some ⟨b2, 0, none⟩) n2 n2] 46 (0, 0))) := by show _ = _; rw [← hco]; exact blk_new _ _
          clear hco
          have HK4 : Hid (LkG w w4 l rs ka ss3) := HK3'.out.step HBO.out
          have HBX4 : Hid (w4.heap[w.heap.size]? = some (.cells #[.slice o0 n0 c0, .slice o1 n1 c1, .slice o2 n2 c2, .slice o3 n3 c3] 26 (0, 0))) := blk_below HBO.out HBX3.out
          have HIB4 : Hid (w4.heap[ib]? = some (.cells #[.slice p0 m0 g0, .slice p1 m1 g1] 38 (0, 0))) := blk_below HBO.out HIB3.out
          have HOA4 : Hid (OutAt w4 bs3 b1 b2 dr pr) := HOA3'.out.below HBO.out
          clear HK3' HBX3 HIB3 HOA3' HBO
          generalize w3.heap.size = ob at *
          go_wp2_with fail
          refine (routes_g w w4 l rs ka ss3 HK4.out).mono ?_
          rintro e w5 ⟨vr, rfl, ho, hb⟩
          have HK5 : Hid (LkG w w5 l rs ka ss3) := HK4.out.step hb
          have HBX5 : Hid (w5.heap[w.heap.size]? = some (.cells #[.slice o0 n0 c0, .slice o1 n1 c1, .slice o2 n2 c2, .slice o3 n3 c3] 26 (0, 0))) := blk_below hb HBX4.out
          have HIB5 : Hid (w5.heap[ib]? = some (.cells #[.slice p0 m0 g0, .slice p1 m1 g1] 38 (0, 0))) := blk_below hb HIB4.out
          have HOB5 : Hid (w5.heap[ob]? = some (.cells #[.slice (some ⟨b1, 0, none⟩) n1 n1, .slice (some ⟨b2, 0, none⟩) n2 n2] 46 (0, 0))) := blk_below hb HOB4.out
          have HOA5 : Hid (OutAt w5 bs3 b1 b2 dr pr) := HOA4.out.below hb
          have HRW5 : Hid (rowAt w5 vr 4 stC ss3) := rowAt_of_owns (cs := stC) (fun _ => rfl) ho
          clear ho hb HK4 HBX4 HIB4 HOB4 HOA4
          have hl3 : ss3.length = n3 := (LEN.out w5 ka ss3 HK5.out).1
          obtain ⟨orr, crr, er, -⟩ := HRW5.out
          rw [hl3] at er
          subst er
          have hd1 : ((n1 : Int) != (n1 : Int)) = false := by simp
          have hd2 : ((n2 : Int) != (n2 : Int)) = false := by simp
          have hd3 : ((n3 : Int) != (n3 : Int)) = false := by simp
          have D := MYI.out vv occ lies w5 HK5.out.bl HIN.out HLN.out
          rw [f0, f1, HM.out.1, HM.out.2] at D
          obtain ⟨⟨q0, q1, q2, q3⟩, _⟩ := cells4 HBX5.out
          obtain ⟨i0, i1⟩ := cells2 HIB5.out
          obtain ⟨z0, z1⟩ := cells2 HOB5.out
          clear hl3
          cases hin : inB2 occ lies n0 n1
          · rw [hin] at D
            have HBZ9 : Hid (dr = List.replicate n1 0 ∧ pr = List.replicate n2 false) := HBAD'.out hin
            clear hin HRG' HBAD'
            go_wp2_with fail
            refine D.mono ?_
            rintro e w6 ⟨rfl, hb⟩
            have HK6 : Hid (LkG w w6 l rs ka ss3) := HK5.out.step hb
            have HBX6 : Hid (w6.heap[w.heap.size]? = some (.cells #[.slice o0 n0 c0, .slice o1 n1 c1, .slice o2 n2 c2, .slice o3 n3 c3] 26 (0, 0))) := blk_below hb HBX5.out
            have HOB6 : Hid (w6.heap[ob]? = some (.cells #[.slice (some ⟨b1, 0, none⟩) n1 n1, .slice (some ⟨b2, 0, none⟩) n2 n2] 46 (0, 0))) := blk_below hb HOB5.out
            have HOA6 : Hid (OutAt w6 bs3 b1 b2 dr pr) := HOA5.out.below hb
            clear hb D q0 q1 q2 q3 i0 i1 z0 z1 HK5 HBX5 HIB5 HOB5 HOA5 HRW5
            obtain ⟨z0, z1⟩ := cells2 HOB6.out
            have y0 := ext_cell z0
            have y1 := ext_cell z1
            haveI := ext_some w6
            have HBQ : Hid (Below w6.heap.size w6 w6.drew) := (Below.refl _ _).drew
            clear z0 z1 hd1 hd2 hd3
            go_wp2_with fail
            refine wp_region_mix_seq (C := fun W => ∃ y : Ext w6, W = y.z) [0, 1, 2, 3, 4] (by kernel_rfl) (by kernel_rfl) (by kernel_rfl) (by kernel_rfl) (by simp only [List.filterMap_cons, List.getElem?_toArray, List.getElem?_cons_zero, List.getElem?_cons_succ, List.filterMap_nil]; rfl) ⟨⟨_, HBQ.out⟩, rfl⟩ ?_
            generalize w6.drew = wd at *
            (repeat (first | (with_reducible refine mix_read (by kernel_rfl) ?_; go_big_quiet_want; go_big_quiet_op; go_big_quiet_on; with_reducible refine wpQuiet_nil ?_) | (with_reducible refine mix_pass (by kernel_rfl) ?_; go_big_quiet_skip; with_reducible refine wpQuiet_nil ?_)))
            with_reducible refine mix_call (by kernel_rfl) (by kernel_rfl) ((SAF.out wd ka ss3 (HK6.out.step HBQ.out)).mono ?_) (by kernel_rfl)
            rintro e w7 ⟨b3, b4, rfl, ho, hb⟩
            have HB7 : Hid (Below w6.heap.size w6 w7) := HBQ.out.trans (hb.mono HBQ.out.size)
            have HO7 : Hid (OutAt w7 wd.heap.size b3 b4 (List.replicate n1 0) (List.replicate n2 false)) := ho
            clear hb ho
            refine ⟨_, rfl, ⟨⟨_, HB7.out⟩, rfl⟩, ?_⟩
            simp only [Act.put, List.setIfInBounds_toArray, List.set_cons_zero, List.set_cons_succ]
            simp only [outV]
            (repeat (first | (with_reducible refine mix_read (by kernel_rfl) ?_; go_big_quiet_want; go_big_quiet_op; go_big_quiet_on; with_reducible refine wpQuiet_nil ?_) | (with_reducible refine mix_pass (by kernel_rfl) ?_; go_big_quiet_skip; with_reducible refine wpQuiet_nil ?_)))
            have HS7 : Hid (OutAt w7 bs3 b1 b2 (List.replicate n1 0) (List.replicate n2 false)) := by have h9 := HOA6.out.below HB7.out; rw [HBZ9.out.1, HBZ9.out.2] at h9; exact h9
            with_reducible refine mix_call (by kernel_rfl) (by kernel_rfl) ((sameOut_eq (some ⟨b1, 0, none⟩) (some ⟨b2, 0, none⟩) (some ⟨b3, 0, none⟩) (some ⟨b4, 0, none⟩) n1 n2 n1 n2 n1 n2 (List.replicate n1 0) (List.replicate n2 false) w7 (out_d HS7.out (by simp)) (out_p HS7.out (by simp)) (out_d HO7.out (by simp)) (out_p HO7.out (by simp)) ⟨HN03.out.1, HN03.out.2.1⟩).mono ?_) (by kernel_rfl)
            rintro e w8 ⟨rfl, hb⟩
            have HB8 : Hid (Below w6.heap.size w6 w8) := HB7.out.trans (hb.mono HB7.out.size)
            clear hb
            refine ⟨_, rfl, ⟨⟨_, HB8.out⟩, rfl⟩, ?_⟩
            simp only [Act.put, List.setIfInBounds_toArray, List.set_cons_zero, List.set_cons_succ]
            (repeat (first | (with_reducible refine mix_read (by kernel_rfl) ?_; go_big_quiet_want; go_big_quiet_op; go_big_quiet_on; with_reducible refine wpQuiet_nil ?_) | (with_reducible refine mix_pass (by kernel_rfl) ?_; go_big_quiet_skip; with_reducible refine wpQuiet_nil ?_)))
            with_reducible refine mix_end ?_
            intro _
            clear y0 y1
            go_wp2
            go_roundg (60 - (k + 1))
            case rel => exact ⟨k + 1, ss3, rfl, by go_num, by omega, by omega, HK6.out.step HB8.out, HAP3'.out, blk_below HB8.out HBX6.out⟩
            case measure => omega
          · rw [hin] at D
            have HIT : Hid (inB2 occ lies n0 n1 = true) := hin
            clear hin HBAD'
            go_wp2_with fail
            refine D.mono ?_
            rintro e w6 ⟨rfl, hb⟩
            have HK6 : Hid (LkG w w6 l rs ka ss3) := HK5.out.step hb
            have HBX6 : Hid (w6.heap[w.heap.size]? = some (.cells #[.slice o0 n0 c0, .slice o1 n1 c1, .slice o2 n2 c2, .slice o3 n3 c3] 26 (0, 0))) := blk_below hb HBX5.out
            have HIB6 : Hid (w6.heap[ib]? = some (.cells #[.slice p0 m0 g0, .slice p1 m1 g1] 38 (0, 0))) := blk_below hb HIB5.out
            have HOB6 : Hid (w6.heap[ob]? = some (.cells #[.slice (some ⟨b1, 0, none⟩) n1 n1, .slice (some ⟨b2, 0, none⟩) n2 n2] 46 (0, 0))) := blk_below hb HOB5.out
            have HOA6 : Hid (OutAt w6 bs3 b1 b2 dr pr) := HOA5.out.below hb
            have HRW6 : Hid (rowAt w6 (.slice orr n3 crr) 4 stC ss3) := HRW5.out.below hb
            clear hb D q0 q1 q2 q3 i0 i1 z0 z1 HK5 HBX5 HIB5 HOB5 HOA5 HRW5 hd1 hd2 hd3
            obtain ⟨⟨q0, q1, q2, q3⟩, _⟩ := cells4 HBX6.out
            have D := MAY2.out w6 w6 ka ss3 _ HK6.out.bl HK6.out HAP3'.out HRW6.out
            go_wp2_with fail
            refine D.mono ?_
            rintro e w7 ⟨rfl, hb⟩
            have HK7 : Hid (LkG w w7 l rs ka ss3) := HK6.out.step hb
            have HBX7 : Hid (w7.heap[w.heap.size]? = some (.cells #[.slice o0 n0 c0, .slice o1 n1 c1, .slice o2 n2 c2, .slice o3 n3 c3] 26 (0, 0))) := blk_below hb HBX6.out
            have HIB7 : Hid (w7.heap[ib]? = some (.cells #[.slice p0 m0 g0, .slice p1 m1 g1] 38 (0, 0))) := blk_below hb HIB6.out
            have HOB7 : Hid (w7.heap[ob]? = some (.cells #[.slice (some ⟨b1, 0, none⟩) n1 n1, .slice (some ⟨b2, 0, none⟩) n2 n2] 46 (0, 0))) := blk_below hb HOB6.out
            have HOA7 : Hid (OutAt w7 bs3 b1 b2 dr pr) := HOA6.out.below hb
            have HRW7 : Hid (rowAt w7 (.slice orr n3 crr) 4 stC ss3) := HRW6.out.below hb
            clear hb D q0 q1 q2 q3 HK6 HBX6 HIB6 HOB6 HOA6 HRW6
            obtain ⟨⟨q0, q1, q2, q3⟩, _⟩ := cells4 HBX7.out
            obtain ⟨i0, i1⟩ := cells2 HIB7.out
            obtain ⟨z0, z1⟩ := cells2 HOB7.out
            have D := HRG'.out w7 (v4 (.slice (some ⟨b1, 0, none⟩) n1 n1) (.slice (some ⟨b2, 0, none⟩) n2 n2) .nilIface .nilIface) _ HK7.out.bl HIT.out (out_d HOA7.out HLC'.out.1) (out_p HOA7.out HLC'.out.2) HRW7.out
            go_wp2_with fail
            refine D.mono ?_
            rintro e w8 ⟨rfl, hb⟩
            have HK8 : Hid (LkG w w8 l rs ka ss3) := HK7.out.step hb
            have HBX8 : Hid (w8.heap[w.heap.size]? = some (.cells #[.slice o0 n0 c0, .slice o1 n1 c1, .slice o2 n2 c2, .slice o3 n3 c3] 26 (0, 0))) := blk_below hb HBX7.out
            clear hb D q0 q1 q2 q3 i0 i1 z0 z1
            go_wp2
            go_roundg (60 - (k + 1))
            case rel => exact ⟨k + 1, ss3, rfl, by go_num, by omega, by omega, HK8.out, HAP3'.out, HBX8.out⟩
            case measure => omega
        · have hkf : (kd == 1) = false := by simp [hkd]
          clear hkd k0 k3 k4
          have D := CYC.out wi ka ss vv occ lies HKi.out HIN.out HLN.out
          rw [f0, f1, HM.out.1, HM.out.2] at D
          obtain ⟨i0, i1⟩ := cells2 HIBi.out
          go_wp2_with fail
          refine D.mono ?_
          rintro e w3 ⟨b1, b2, rfl, ho, hk3, hc3⟩
          have HK3 : Hid (LkG w w3 l rs ka (cycG l rs ss occ lies).1) := hk3
          have HAP3 : Hid (ApartS (waysG rs rs 0) (cycG l rs ss occ lies).1) := HAP.out.cyc occ lies
          have HBX3 : Hid (w3.heap[w.heap.size]? = some (.cells #[.slice o0 n0 c0, .slice o1 n1 c1, .slice o2 n2 c2, .slice o3 n3 c3] 26 (0, 0))) := hc3.blk HBXi.out (by decide)
          have HIB3 : Hid (w3.heap[ib]? = some (.cells #[.slice p0 m0 g0, .slice p1 m1 g1] 38 (0, 0))) := hc3.blk HIBi.out (by decide)
          have HOA3 : Hid (OutAt w3 wi.heap.size b1 b2 (cycG l rs ss occ lies).2.1 (cycG l rs ss occ lies).2.2) := ho
          have HLC : Hid ((cycG l rs ss occ lies).2.1.length = n1 ∧ (cycG l rs ss occ lies).2.2.length = n2) := CLN.out ss occ lies
          have HBAD : Hid (inB2 occ lies n0 n1 = false → (cycG l rs ss occ lies).2.1 = List.replicate n1 0 ∧ (cycG l rs ss occ lies).2.2 = List.replicate n2 false) := fun hb => by rw [CBD.out ss occ lies hb]; exact ⟨rfl, rfl⟩
          have HRG : Hid (∀ (U : World) (y : Nat → Value) (vr : Value), Below w.heap.size w U → inB2 occ lies n0 n1 = true → rowAt U (y 0) 1 iC (cycG l rs ss occ lies).2.1 → rowAt U (y 1) 1 bC (cycG l rs ss occ lies).2.2 → rowAt U vr 4 stC (cycG l rs ss occ lies).1 → Calls Tryz.prog 16 #[.agg #[.slice o0 n0 c0, .slice o1 n1 c1, .slice o2 n2 c2, .slice o3 n3 c3], .agg #[.slice p0 m0 g0, .slice p1 m1 g1], .agg #[y 0, y 1], vr] U fun e w' => e = .returned (.bool true) ∧ Below U.heap.size U w') := fun U y vr hU hb hd hp hv => by
            have D := RIG.out wi U ka ss _ vv occ lies y _ _ vr hU HKi.out HAP.out HIN.out hb rfl rfl rfl hd hp hv
            rw [f0, f1, HM.out.1, HM.out.2] at D
            exact D
          clear ho hk3 hc3 D i0 i1
          generalize hcg : cycG l rs ss occ lies = cg at *
          obtain ⟨ss3, dr, pr⟩ := cg
          have HK3' : Hid (LkG w w3 l rs ka ss3) := HK3.out
          have HAP3' : Hid (ApartS (waysG rs rs 0) ss3) := HAP3.out
          have HOA3' : Hid (OutAt w3 wi.heap.size b1 b2 dr pr) := HOA3.out
          have HLC' : Hid (dr.length = n1 ∧ pr.length = n2) := HLC.out
          have HBAD' : Hid (inB2 occ lies n0 n1 = false → dr = List.replicate n1 0 ∧ pr = List.replicate n2 false) := HBAD.out
          have HRG' : Hid (∀ (U : World) (y : Nat → Value) (vr : Value), Below w.heap.size w U → inB2 occ lies n0 n1 = true → rowAt U (y 0) 1 iC dr → rowAt U (y 1) 1 bC pr → rowAt U vr 4 stC ss3 → Calls Tryz.prog 16 #[.agg #[.slice o0 n0 c0, .slice o1 n1 c1, .slice o2 n2 c2, .slice o3 n3 c3], .agg #[.slice p0 m0 g0, .slice p1 m1 g1], .agg #[y 0, y 1], vr] U fun e w' => e = .returned (.bool true) ∧ Below U.heap.size U w') := HRG.out
          clear HK3 HAP3 HOA3 HLC HBAD HRG hcg
          generalize wi.heap.size = bs3 at *
          simp only [outV]
          go_upto_region 13 with fail
          generalize hco : w3.alloc (.cells #[.slice (some ⟨b1, 0, none⟩) n1 n1, .slice (some ⟨b2, 0, none⟩) n2 n2] 46) = w4
          have HBO : Hid (Below w3.heap.size w3 w4) := by show Below _ _ _; rw [← hco]; exact (Below.refl _ _).alloc (Nat.le_refl _) _
          have HOB4 : Hid (w4.heap[w3.heap.size]? = some (.cells #[.slice (some ⟨b1, 0, none⟩) n1 n1, .slice (some ⟨b2, 0, none⟩) n2 n2] 46 (0, 0))) := by show _ = _; rw [← hco]; exact blk_new _ _
          clear hco
          have HK4 : Hid (LkG w w4 l rs ka ss3) := HK3'.out.step HBO.out
          have HBX4 : Hid (w4.heap[w.heap.size]? = some (.cells #[.slice o0 n0 c0, .slice o1 n1 c1, .slice o2 n2 c2, .slice o3 n3 c3] 26 (0, 0))) := blk_below HBO.out HBX3.out
          have HIB4 : Hid (w4.heap[ib]? = some (.cells #[.slice p0 m0 g0, .slice p1 m1 g1] 38 (0, 0))) := blk_below HBO.out HIB3.out
          have HOA4 : Hid (OutAt w4 bs3 b1 b2 dr pr) := HOA3'.out.below HBO.out
          clear HK3' HBX3 HIB3 HOA3' HBO
          generalize w3.heap.size = ob at *
          go_wp2_with fail
          refine (routes_g w w4 l rs ka ss3 HK4.out).mono ?_
          rintro e w5 ⟨vr, rfl, ho, hb⟩
          have HK5 : Hid (LkG w w5 l rs ka ss3) := HK4.out.step hb
          have HBX5 : Hid (w5.heap[w.heap.size]? = some (.cells #[.slice o0 n0 c0, .slice o1 n1 c1, .slice o2 n2 c2, .slice o3 n3 c3] 26 (0, 0))) := blk_below hb HBX4.out
          have HIB5 : Hid (w5.heap[ib]? = some (.cells #[.slice p0 m0 g0, .slice p1 m1 g1] 38 (0, 0))) := blk_below hb HIB4.out
          have HOB5 : Hid (w5.heap[ob]? = some (.cells #[.slice (some ⟨b1, 0, none⟩) n1 n1, .slice (some ⟨b2, 0, none⟩) n2 n2] 46 (0, 0))) := blk_below hb HOB4.out
          have HOA5 : Hid (OutAt w5 bs3 b1 b2 dr pr) := HOA4.out.below hb
          have HRW5 : Hid (rowAt w5 vr 4 stC ss3) := rowAt_of_owns (cs := stC) (fun _ => rfl) ho
          clear ho hb HK4 HBX4 HIB4 HOB4 HOA4
          have hl3 : ss3.length = n3 := (LEN.out w5 ka ss3 HK5.out).1
          obtain ⟨orr, crr, er, -⟩ := HRW5.out
          rw [hl3] at er
          subst er
          have hd1 : ((n1 : Int) != (n1 : Int)) = false := by simp
          have hd2 : ((n2 : Int) != (n2 : Int)) = false := by simp
          have hd3 : ((n3 : Int) != (n3 : Int)) = false := by simp
          have D := MYI.out vv occ lies w5 HK5.out.bl HIN.out HLN.out
          rw [f0, f1, HM.out.1, HM.out.2] at D
          obtain ⟨⟨q0, q1, q2, q3⟩, _⟩ := cells4 HBX5.out
          obtain ⟨i0, i1⟩ := cells2 HIB5.out
          obtain ⟨z0, z1⟩ := cells2 HOB5.out
          clear hl3
          cases hin : inB2 occ lies n0 n1
          · rw [hin] at D
            have HBZ9 : Hid (dr = List.replicate n1 0 ∧ pr = List.replicate n2 false) := HBAD'.out hin
            clear hin HRG' HBAD'
            go_wp2_with fail
            refine D.mono ?_
            rintro e w6 ⟨rfl, hb⟩
            have HK6 : Hid (LkG w w6 l rs ka ss3) := HK5.out.step hb
            have HBX6 : Hid (w6.heap[w.heap.size]? = some (.cells #[.slice o0 n0 c0, .slice o1 n1 c1, .slice o2 n2 c2, .slice o3 n3 c3] 26 (0, 0))) := blk_below hb HBX5.out
            have HOB6 : Hid (w6.heap[ob]? = some (.cells #[.slice (some ⟨b1, 0, none⟩) n1 n1, .slice (some ⟨b2, 0, none⟩) n2 n2] 46 (0, 0))) := blk_below hb HOB5.out
            have HOA6 : Hid (OutAt w6 bs3 b1 b2 dr pr) := HOA5.out.below hb
            clear hb D q0 q1 q2 q3 i0 i1 z0 z1 HK5 HBX5 HIB5 HOB5 HOA5 HRW5
            obtain ⟨z0, z1⟩ := cells2 HOB6.out
            have y0 := ext_cell z0
            have y1 := ext_cell z1
            haveI := ext_some w6
            have HBQ : Hid (Below w6.heap.size w6 w6.drew) := (Below.refl _ _).drew
            clear z0 z1 hd1 hd2 hd3
            go_wp2_with fail
            refine wp_region_mix_seq (C := fun W => ∃ y : Ext w6, W = y.z) [0, 1, 2, 3, 4] (by kernel_rfl) (by kernel_rfl) (by kernel_rfl) (by kernel_rfl) (by simp only [List.filterMap_cons, List.getElem?_toArray, List.getElem?_cons_zero, List.getElem?_cons_succ, List.filterMap_nil]; rfl) ⟨⟨_, HBQ.out⟩, rfl⟩ ?_
            generalize w6.drew = wd at *
            (repeat (first | (with_reducible refine mix_read (by kernel_rfl) ?_; go_big_quiet_want; go_big_quiet_op; go_big_quiet_on; with_reducible refine wpQuiet_nil ?_) | (with_reducible refine mix_pass (by kernel_rfl) ?_; go_big_quiet_skip; with_reducible refine wpQuiet_nil ?_)))
            with_reducible refine mix_call (by kernel_rfl) (by kernel_rfl) ((SAF.out wd ka ss3 (HK6.out.step HBQ.out)).mono ?_) (by kernel_rfl)
            rintro e w7 ⟨b3, b4, rfl, ho, hb⟩
            have HB7 : Hid (Below w6.heap.size w6 w7) := HBQ.out.trans (hb.mono HBQ.out.size)
            have HO7 : Hid (OutAt w7 wd.heap.size b3 b4 (List.replicate n1 0) (List.replicate n2 false)) := ho
            clear hb ho
            refine ⟨_, rfl, ⟨⟨_, HB7.out⟩, rfl⟩, ?_⟩
            simp only [Act.put, List.setIfInBounds_toArray, List.set_cons_zero, List.set_cons_succ]
            simp only [outV]
            (repeat (first | (with_reducible refine mix_read (by kernel_rfl) ?_; go_big_quiet_want; go_big_quiet_op; go_big_quiet_on; with_reducible refine wpQuiet_nil ?_) | (with_reducible refine mix_pass (by kernel_rfl) ?_; go_big_quiet_skip; with_reducible refine wpQuiet_nil ?_)))
            have HS7 : Hid (OutAt w7 bs3 b1 b2 (List.replicate n1 0) (List.replicate n2 false)) := by have h9 := HOA6.out.below HB7.out; rw [HBZ9.out.1, HBZ9.out.2] at h9; exact h9
            with_reducible refine mix_call (by kernel_rfl) (by kernel_rfl) ((sameOut_eq (some ⟨b1, 0, none⟩) (some ⟨b2, 0, none⟩) (some ⟨b3, 0, none⟩) (some ⟨b4, 0, none⟩) n1 n2 n1 n2 n1 n2 (List.replicate n1 0) (List.replicate n2 false) w7 (out_d HS7.out (by simp)) (out_p HS7.out (by simp)) (out_d HO7.out (by simp)) (out_p HO7.out (by simp)) ⟨HN03.out.1, HN03.out.2.1⟩).mono ?_) (by kernel_rfl)
            rintro e w8 ⟨rfl, hb⟩
            have HB8 : Hid (Below w6.heap.size w6 w8) := HB7.out.trans (hb.mono HB7.out.size)
            clear hb
            refine ⟨_, rfl, ⟨⟨_, HB8.out⟩, rfl⟩, ?_⟩
            simp only [Act.put, List.setIfInBounds_toArray, List.set_cons_zero, List.set_cons_succ]
            (repeat (first | (with_reducible refine mix_read (by kernel_rfl) ?_; go_big_quiet_want; go_big_quiet_op; go_big_quiet_on; with_reducible refine wpQuiet_nil ?_) | (with_reducible refine mix_pass (by kernel_rfl) ?_; go_big_quiet_skip; with_reducible refine wpQuiet_nil ?_)))
            with_reducible refine mix_end ?_
            intro _
            clear y0 y1
            go_wp2
            go_roundg (60 - (k + 1))
            case rel => exact ⟨k + 1, ss3, rfl, by go_num, by omega, by omega, HK6.out.step HB8.out, HAP3'.out, blk_below HB8.out HBX6.out⟩
            case measure => omega
          · rw [hin] at D
            have HIT : Hid (inB2 occ lies n0 n1 = true) := hin
            clear hin HBAD'
            go_wp2_with fail
            refine D.mono ?_
            rintro e w6 ⟨rfl, hb⟩
            have HK6 : Hid (LkG w w6 l rs ka ss3) := HK5.out.step hb
            have HBX6 : Hid (w6.heap[w.heap.size]? = some (.cells #[.slice o0 n0 c0, .slice o1 n1 c1, .slice o2 n2 c2, .slice o3 n3 c3] 26 (0, 0))) := blk_below hb HBX5.out
            have HIB6 : Hid (w6.heap[ib]? = some (.cells #[.slice p0 m0 g0, .slice p1 m1 g1] 38 (0, 0))) := blk_below hb HIB5.out
            have HOB6 : Hid (w6.heap[ob]? = some (.cells #[.slice (some ⟨b1, 0, none⟩) n1 n1, .slice (some ⟨b2, 0, none⟩) n2 n2] 46 (0, 0))) := blk_below hb HOB5.out
            have HOA6 : Hid (OutAt w6 bs3 b1 b2 dr pr) := HOA5.out.below hb
            have HRW6 : Hid (rowAt w6 (.slice orr n3 crr) 4 stC ss3) := HRW5.out.below hb
            clear hb D q0 q1 q2 q3 i0 i1 z0 z1 HK5 HBX5 HIB5 HOB5 HOA5 HRW5 hd1 hd2 hd3
            obtain ⟨⟨q0, q1, q2, q3⟩, _⟩ := cells4 HBX6.out
            have D := MAY2.out w6 w6 ka ss3 _ HK6.out.bl HK6.out HAP3'.out HRW6.out
            go_wp2_with fail
            refine D.mono ?_
            rintro e w7 ⟨rfl, hb⟩
            have HK7 : Hid (LkG w w7 l rs ka ss3) := HK6.out.step hb
            have HBX7 : Hid (w7.heap[w.heap.size]? = some (.cells #[.slice o0 n0 c0, .slice o1 n1 c1, .slice o2 n2 c2, .slice o3 n3 c3] 26 (0, 0))) := blk_below hb HBX6.out
            have HIB7 : Hid (w7.heap[ib]? = some (.cells #[.slice p0 m0 g0, .slice p1 m1 g1] 38 (0, 0))) := blk_below hb HIB6.out
            have HOB7 : Hid (w7.heap[ob]? = some (.cells #[.slice (some ⟨b1, 0, none⟩) n1 n1, .slice (some ⟨b2, 0, none⟩) n2 n2] 46 (0, 0))) := blk_below hb HOB6.out
            have HOA7 : Hid (OutAt w7 bs3 b1 b2 dr pr) := HOA6.out.below hb
            have HRW7 : Hid (rowAt w7 (.slice orr n3 crr) 4 stC ss3) := HRW6.out.below hb
            clear hb D q0 q1 q2 q3 HK6 HBX6 HIB6 HOB6 HOA6 HRW6
            obtain ⟨⟨q0, q1, q2, q3⟩, _⟩ := cells4 HBX7.out
            obtain ⟨i0, i1⟩ := cells2 HIB7.out
            obtain ⟨z0, z1⟩ := cells2 HOB7.out
            have D := HRG'.out w7 (v4 (.slice (some ⟨b1, 0, none⟩) n1 n1) (.slice (some ⟨b2, 0, none⟩) n2 n2) .nilIface .nilIface) _ HK7.out.bl HIT.out (out_d HOA7.out HLC'.out.1) (out_p HOA7.out HLC'.out.2) HRW7.out
            go_wp2_with fail
            refine D.mono ?_
            rintro e w8 ⟨rfl, hb⟩
            have HK8 : Hid (LkG w w8 l rs ka ss3) := HK7.out.step hb
            have HBX8 : Hid (w8.heap[w.heap.size]? = some (.cells #[.slice o0 n0 c0, .slice o1 n1 c1, .slice o2 n2 c2, .slice o3 n3 c3] 26 (0, 0))) := blk_below hb HBX7.out
            clear hb D q0 q1 q2 q3 i0 i1 z0 z1
            go_wp2
            go_roundg (60 - (k + 1))
            case rel => exact ⟨k + 1, ss3, rfl, by go_num, by omega, by omega, HK8.out, HAP3'.out, HBX8.out⟩
            case measure => omega
      · have hki : (k : Int) < (na : Int) := by omega
        have hkj : ¬ (k : Int) < 60 := by omega
        go_wp2_with fail
        refine (known_any _).mono ?_
        rintro e wz ⟨rfl, hb⟩
        go_wp2
        go_ret
        exact ⟨rfl, HT1.out.bl.trans (hb.mono HT1.out.bl.size)⟩
    · have hki : ¬ (k : Int) < (na : Int) := by omega
      go_wp2_with fail
      refine (known_any _).mono ?_
      rintro e wz ⟨rfl, hb⟩
      go_wp2
      go_ret
      exact ⟨rfl, HT1.out.bl.trans (hb.mono HT1.out.bl.size)⟩


theorem own : ownKnob Tryz.prog.godebug = none := by kernel_rfl
theorem u8x : U8Extra Tryz.prog Tryz.lays260_ren := ⟨by kernel_rfl, by kernel_rfl, by kernel_rfl, by kernel_rfl, by kernel_rfl, by kernel_rfl, by kernel_rfl⟩
theorem accept_eq : (Rows.laid_unicode_utf8_acceptRanges : DataW Unit) = Lib.acceptData := by kernel_rfl
theorem first_eq : Rows.laid_unicode_utf8_first = Lib.firstData := Pinned.utf8First_eq
theorem tabs_of {W : World} (hL : laidMet Tryz.prog Rows.lockTellsRow.laid W) : Lib.Utf8Tabs 0 1 W :=
  utf8Tabs_of_readsT (U8Types.of260 Tryz.lays260) u8x (first_eq ▸ Lib.laidMet.reads hL (.tail _ (.head _))) (accept_eq ▸ Lib.laidMet.reads hL (.head _))

set_option maxRecDepth 100000 in
theorem lifted (os : Os) (started : os.Started) (H : Type) (enc : TypeId × Value → H) :
    ReturnsInHanded {} Tryz.checked os 3 .any (fun w args => (Rows.lockTellsSpec.pre enc Tryz.prog Tryz.f3 [] false w args ∧ laidMetH Tryz.prog Rows.lockTellsRow.laid w) ∧ sizedMet enc Tryz.prog Tryz.f3 (OpenSpec.ofChange Rows.lockTellsSpec) false w args)
      (Rows.lockTellsSpec.post enc Tryz.prog Tryz.f3 false true false false) := by
  refine returnsInHanded_of_change_and (C := Tryz.checked) (X := fun w _ => laidMetH Tryz.prog Rows.lockTellsRow.laid w) (fun _ _ _ hh h => h.of_heap hh) own started (by kernel_rfl) Tryz.func3
    (ChangeSpec.witness_shaped (enc := enc) (C := Tryz.checked) (os := os) (X := fun w _ => laidMetH Tryz.prog Rows.lockTellsRow.laid w) false (World.laidAll Tryz.prog os Rows.lockTellsRow.laid) #[.agg #[.slice none 0 0, .slice none 0 0, .slice none 0 0, .slice none 0 0], .slice none 0 0] 8 (World.laidAll_os _ _ _)
      (World.shaped_of_ZipB (by kernel_rfl) (by kernel_rfl)) (by kernel_rfl) (by kernel_rfl) (by kernel_rfl)
      (by rw [MakeChecks.laidMetH_plain _ _ _ (by kernel_rfl)]; exact laidMet_laidAll _ (by kernel_rfl) (by kernel_rfl))) ?_
  intro W base args ds gs before hval0 hW _ hsz0 hL _
  have hval : ∀ (j : Nat) t v, Tryz.f3.params[j]? = some t → args[j]? = some v → Value.okWide Tryz.prog W .any base t v := hval0
  have hsz : (DataW.weightsEach Tryz.prog (Tryz.f3.params.toList ++ Rows.lockTellsSpec.plain.varTypes Tryz.prog) (ds ++ gs)).all (· ≤ reachBytes) = true := hsz0
  have hW' := hW
  obtain ⟨p, q, hA0, hV, rfl, _, _⟩ := hW
  have hA : DataW.TrodAll enc Tryz.prog W 0 (fun _ => true) true Tryz.f3.params.toList args.toList ds p := hA0
  rw [Tryz.params3] at hA hval hsz
  obtain ⟨v0, vs0, d0, ds0, p0, q0, hargs, rfl, rfl, h0, r0⟩ := trodAll_cons hA
  obtain ⟨v1, vs1, d1, ds1, p1, q1, rfl, rfl, rfl, h1, r1⟩ := trodAll_cons r0
  obtain ⟨rfl, rfl, rfl⟩ := trodAll_nil r1
  obtain rfl : args = #[v0, v1] := by cases args; simp_all
  obtain ⟨rfl, rfl⟩ := trodVars_none hV
  have k0 := h0
  have lt0 : ∀ x ∈ p0, x.block < W.heap.size := by obtain ⟨m, hm⟩ := k0; exact DataW.trod_lt m _ _ _ hm
  have g0 := weights_at hsz (j := 0) (t := 26) rfl rfl
  obtain ⟨u0, l0, s0, rfl, y0, b0, c0, x0⟩ := open_layout_c (hval 0 26 v0 rfl rfl) h0 g0
  obtain ⟨a1, len1, cap1, rfl⟩ := okWide_slice Tryz.underlying27 (hval 1 27 v1 rfl rfl)
  have k1 := h1
  have lt1 : ∀ x ∈ p1, x.block < W.heap.size := by obtain ⟨m, hm⟩ := k1; exact DataW.trod_lt m _ _ _ hm
  obtain ⟨z1, e1, m1, s1⟩ : ∃ l : List Ac5, l.length = len1 ∧ len1 ≤ maxLen ∧ hasActs5 W a1 l := by
    obtain ⟨fuel, hf⟩ := h1
    exact open_acts5 hf
  clear hA0 hval0
  rw [MakeChecks.laidMetH_plain _ _ _ (by kernel_rfl)] at hL
  refine (walk W u0 l0 s0 y0 b0 c0 x0 a1 len1 cap1 z1 e1 m1 s1 (tabs_of hL)).mono fun e W' ⟨he, bel⟩ => ?_
  subst he
  exact ⟨_, rfl, _, _, _, [], _, [], hW', trodAll_mk1 (shut_bool Tryz.underlying4 _), (trodAll_cons_mk (Below.trod laidOut (by kernel_rfl) (of_decide_eq_true (by kernel_rfl)) k0 bel lt0) (trodAll_cons_mk (Below.trod laidOut (by kernel_rfl) (of_decide_eq_true (by kernel_rfl)) k1 bel lt1) trodAll_mk0)), rfl, bel.frame _, fun h => by cases h⟩

theorem over : Rows.lockTellsRow.holds Tryz.pinned (OpenSpec.ofChange Rows.lockTellsSpec) :=
  OpenClaim.holds_of_wide 3 Tryz.f3 rfl rfl rfl rfl rfl rfl rfl ⟨rfl, rfl, rfl, rfl, rfl⟩ rfl rfl rfl rfl rfl (by kernel_rfl) Tryz.func3 (by kernel_rfl)
    (of_decide_eq_true (by kernel_rfl)) (by unfold Func.isWrapper; first | (rw [if_pos (by decide +kernel)]; kernel_rfl) | (rw [if_neg (by decide +kernel)]; exact ⟨rfl, rfl⟩))
    (fun os started H enc _ => lifted os started H enc)

theorem card : Rows.LockTellsCardSaid :=
  Claim7.holds_tied_plain_at .later [] _ _ _ _ over (fun _ h => by cases h) (by kernel_rfl) (fun _ h => by cases h) lockTells_row_tie rfl ⟨rfl, rfl⟩ (by kernel_rfl) rfl
    (fun f fn hf hfn => by
      obtain rfl : f = 3 := Option.some.inj ((show Tryz.prog.funcNamed Rows.lockTellsRow.func = some 3 by kernel_rfl).symm.trans hf) |>.symm
      obtain rfl : fn = Tryz.f3 := (Option.some.inj (Tryz.func3.symm.trans hfn)).symm
      exact ⟨by kernel_rfl, fun j t ht => by
        rw [Tryz.params3] at ht
        have hm : t ∈ [26, 27] := by simpa using Array.mem_of_getElem? ht
        have hall : ([26, 27].all fun u => !Tryz.prog.wantsStandIn u) = true := by kernel_rfl
        exact (show Tryz.prog.wantsStandIn t = false by simpa using List.all_eq_true.1 hall t hm)⟩)
    (by kernel_rfl)

end Go.Proofs.YtceebimgfajbcaaGreatDoor.lockTells
namespace Go.Proofs.YtceebimgfajbcaaGreatDoor
theorem lockTells_holds : Rows.LockTellsCardSaid := lockTells.card
#print axioms lockTells_holds
end Go.Proofs.YtceebimgfajbcaaGreatDoor
