/-
  Of every layout and every row of acts: FieldPlays returns true. A tied card: what unicode/utf8's two tables hold is listed, tied by the given tie.
-/
import Derived.Test.YthmbpohebcnehaaDoorRows
import Derived.Test.YthmbpohebcnehaaDoorTie
import Derived.Test.YthmbpohebcnehaaDoorCards
import Derived.Test.YthmbpohebcnehaaDoorFdDrive
import Derived.Test.YthmbpohebcnehaaDoorRfSame
import Derived.Test.YthmbpohebcnehaaDoorLawActs
import Derived.Test.YthmbpohebcnehaaDoorLySize
import Derived.Test.YthmbpohebcnehaaDoorTbOpen
import Derived.WalkKit
import Derived.ProofKit
import Derived.OpenShut
import Derived.ShutString
import Derived.ChangeOld
import Derived.Below
import Derived.SizedLaws
import Derived.PinnedBridge
import Derived.Lib.LaidU8T
import Derived.Lay
import Derived.LaidOnce
import Derived.SevenTiedAt
import Derived.Deep.DeepHandedRow
namespace Go.Proofs.YthmbpohebcnehaaDoor.fieldPlays
open Go.ChangeShapes Go.WideShapes Go.ChangeAt Go.RowKit

theorem bounds_of {l : Lay} (h : isB l = true) : 1 ≤ l.sections.length ∧ l.sections.length ≤ 10 ∧ l.points.length ≤ 5 := by
  rw [isB, Bool.and_eq_true] at h
  have := of_decide_eq_true h.1
  omega
/-- The program's field and the reference's stand alike, apart from one another. -/
structure Both (w wr : World) (S fb bo bp xb br bt bd : Nat) (vl : Value) (occ : List Bool) (pts : List Pt) : Prop where
  f : FdAt wr w.heap.size fb bo bp occ pts
  r : RfAt wr S xb br bt bd vl occ (liesF pts) (towF pts) (drvF pts)
  lt : fb < S ∧ bo < S ∧ bp < S
  b : Below w.heap.size w wr
  ws : w.heap.size ≤ S
section
variable {w wr W : World} {S fb bo bp xb br bt bd : Nat} {vl : Value} {occ occ' : List Bool} {pts pts' : List Pt}
theorem Both.below (h : Both w wr S fb bo bp xb br bt bd vl occ pts) (hb : Below wr.heap.size wr W) : Both w W S fb bo bp xb br bt bd vl occ pts :=
  ⟨h.f.below hb, h.r.below hb, h.lt, h.b.trans (hb.mono h.b.size), h.ws⟩
/-- The program's field has turned. -/
theorem Both.fd (h : Both w wr S fb bo bp xb br bt bd vl occ pts) (hf : FdAt W w.heap.size fb bo bp occ' pts') (hc : Chg (fdFoot bo bp) wr W) : FdAt W w.heap.size fb bo bp occ' pts' ∧ RfAt W S xb br bt bd vl occ (liesF pts) (towF pts) (drvF pts) ∧ Below w.heap.size w W := by
  refine ⟨hf, h.r.keep fun k hk hh => hc.block k hk fun hs => ?_, h.b.trans (hc.below (fun k hk => foot_B h.f hk) h.b.size)⟩
  have h1 : S ≤ k := by
    rcases hh with rfl | hh
    · exact h.r.base.1
    · exact h.r.foot hh
  have := h.lt
  rcases hs with rfl | rfl <;> omega
/-- The reference's has turned, too. -/
theorem Both.rf (hlt : fb < S ∧ bo < S ∧ bp < S) (hws : w.heap.size ≤ S) (hf : FdAt wr w.heap.size fb bo bp occ' pts') (hr : RfAt wr S xb br bt bd vl occ (liesF pts) (towF pts) (drvF pts)) (hb : Below w.heap.size w wr) (hr' : RfAt W S xb br bt bd vl occ' (liesF pts') (towF pts') (drvF pts')) (hc : Chg (rfFoot br bt bd vl) wr W) : Both w W S fb bo bp xb br bt bd vl occ' pts' := by
  refine ⟨hf.keep fun k hk hh => hc.block k hk fun hs => ?_, hr', hlt, hb.trans (hc.below (fun k hk => Nat.le_trans hws (hr.foot hk)) hb.size), hws⟩
  have := hr.foot hs
  rcases hh with rfl | rfl | rfl <;> omega
end
theorem train_len (occ : List Bool) (i : Int) : (trainF occ i).2.length = occ.length := by unfold trainF; split <;> simp
theorem stick_len (pts : List Pt) (i : Int) : (stickF pts i).2.length = pts.length := by unfold stickF; split <;> simp

set_option maxRecDepth 1000000 in
set_option maxHeartbeats 32000000 in
theorem walk (w : World) (v : Nat → Value) (l : Lay) (rs : List RtV) (h : LayRd w v l rs) (hB : LayBig l) (hcap : ∀ x ∈ rs, capOk x.2.1) (hcp : capOk (v 3) ∧ capOk (v 0) ∧ capOk (v 2)) (oa : Option Addr) (len cap : Nat) (ls : List (Int × Int × Int)) (e1' : ls.length = len) (m1 : len ≤ maxLen) (hI : hasActs w oa ls) (hT : Lib.Utf8Tabs 0 1 w) :
    Calls Tryd.prog 3 #[.agg #[v 0, v 1, v 2, v 3], .slice oa len cap] w fun e w' => e = .returned (.bool true) ∧ Below w.heap.size w w' := by
  unfold maxLen at m1
  obtain ⟨o0, c0, e0, _⟩ := h.s
  obtain ⟨o1, c1, e1, _⟩ := h.p
  obtain ⟨o2, c2, e2, _⟩ := h.g
  obtain ⟨o3, c3, e3, _⟩ := h.r
  have SZ : Hid (∀ W, Below w.heap.size w W → Calls Tryd.prog 5 #[.agg #[v 0, v 1, v 2, v 3]] W fun e w' => ∃ n : Int, e = .returned (.int .i64 n) ∧ 0 ≤ n ∧ n ≤ 1125899906842624 ∧ (n < 3000 → LaySmall l) ∧ Below W.heap.size W w') := fun W hW => size_any v l rs W (h.below hW) hB
  have MID : LaySmall l → IsMid l rs v := fun hs => ⟨by have := hs.s.1; omega, by have := hs.p.1; omega, by have := hs.g.1; omega, by have := hs.r.1; omega, fun x hx => by
    have := hs.r.2 x.1 (by rw [← h.m]; exact List.mem_map.2 ⟨x, hx, rfl⟩)
    exact ⟨hcap x hx, by omega, by omega, by omega⟩, hcp.2.1, hcp.2.2⟩
  have NW : Hid (LaySmall l → isB l = true → ∀ W, Below w.heap.size w W → Calls Tryd.prog 6 #[.agg #[v 0, v 1, v 2, v 3]] W fun e w' => ∃ fb bo bp, e = .returned (.tuple #[.pointer (some ⟨fb, 0, none⟩), .int .i64 0]) ∧ FdAt w' W.heap.size fb bo bp (List.replicate l.sections.length false) (List.replicate l.points.length (restF 1)) ∧ Below W.heap.size W w') := fun hs hi W hW => fdNew_ok v l rs W (h.below hW) (MID hs) hi (by have := bounds_of hi; omega)
  have NN : Hid (LaySmall l → isB l = false → ∀ W, Below w.heap.size w W → Calls Tryd.prog 6 #[.agg #[v 0, v 1, v 2, v 3]] W fun e w' => e = .returned (.tuple #[.pointer none, .int .i64 9]) ∧ Below W.heap.size W w') := fun hs hi W hW => fdNew_no v l rs W (h.below hW) (MID hs) hi
  have RW : Hid (LaySmall l → isB l = true → ∀ W, Below w.heap.size w W → Calls Tryd.prog 7 #[.agg #[v 0, v 1, v 2, v 3]] W fun e w' => ∃ xb br bt bd vl, e = .returned (.tuple #[.pointer (some ⟨xb, 0, none⟩), .int .i64 0]) ∧ RfAt w' W.heap.size xb br bt bd vl (List.replicate l.sections.length false) (liesF (List.replicate l.points.length (restF 1))) (towF (List.replicate l.points.length (restF 1))) (drvF (List.replicate l.points.length (restF 1))) ∧ Below W.heap.size W w') := fun hs hi W hW => rfNew_ok v l rs W (h.below hW) hcap (LayMid.of hs hB) (tabs_below hT hW) hi (by have := bounds_of hi; omega)
  have RN : Hid (LaySmall l → isB l = false → ∀ W, Below w.heap.size w W → Calls Tryd.prog 7 #[.agg #[v 0, v 1, v 2, v 3]] W fun e w' => e = .returned (.tuple #[.pointer none, .int .i64 9]) ∧ Below W.heap.size W w') := fun hs hi W hW => rfNew_no v l rs W (h.below hW) hcap (LayMid.of hs hB) (tabs_below hT hW) hi
  have BD := fun hi => bounds_of (l := l) hi
  rw [e0, e1, e2, e3] at SZ NW NN RW RN ⊢
  have HE : Hid (ls.length = len) := e1'
  have HI : Hid (hasActs w oa ls) := hI
  clear h hB hcap hT e0 e1 e2 e3 hcp e1' hI MID
  generalize hs0 : l.sections.length = n0 at *
  generalize hs1 : l.points.length = n1 at *
  generalize hs2 : l.signals.length = n2 at *
  generalize hs3 : rs.length = n3 at *
  have HBQ := (show Hid _ from BD)
  clear hs0 hs1 hs2 hs3 BD
  generalize hch : w.alloc (.cells #[.slice o0 n0 c0, .slice o1 n1 c1, .slice o2 n2 c2, .slice o3 n3 c3] 26) = w1
  have HB01 : Hid (Below w.heap.size w w1) := by show Below _ _ _; rw [← hch]; exact (Below.refl _ _).alloc (Nat.le_refl _) _
  have H0 : Hid (w1.heap[w.heap.size]? = some (.cells #[.slice o0 n0 c0, .slice o1 n1 c1, .slice o2 n2 c2, .slice o3 n3 c3] 26 (0, 0))) := by show _ = _; rw [← hch]; exact blk_new _ _
  have HUP : Hid (∀ W, Below w1.heap.size w1 W → Below w.heap.size w W) := fun W hW => HB01.out.trans (hW.mono HB01.out.size)
  obtain ⟨⟨q0, q1, q2, q3⟩, _⟩ := cells4 H0.out
  go_enter Tryd.func3, Tryd.ntmps3
  go_wp2_with fail
  clear hch
  refine (SZ.out _ HB01.out).mono ?_
  rintro e w2 ⟨n, rfl, hn0, hn1, hsm, hb2⟩
  have HB2 : Hid (Below w1.heap.size w1 w2) := hb2
  clear q0 q1 q2 q3 hb2 SZ
  obtain ⟨⟨q0, q1, q2, q3⟩, _⟩ := cells4 (blk_below HB2.out H0.out)
  by_cases hbig : (3000 : Int) ≤ n
  · clear hsm
    go_wp2_with fail
    go_ret
    exact ⟨rfl, HUP.out _ HB2.out⟩
  have HSM : Hid (LaySmall l) := hsm (by omega)
  clear hsm
  by_cases hlong : 10000 < len
  · have hq : (10000 : Int) < (len : Int) := by omega
    go_wp2_with fail
    go_ret
    exact ⟨rfl, HUP.out _ HB2.out⟩
  have hq : ¬ (10000 : Int) < (len : Int) := by omega
  have HLL : Hid (len ≤ 10000) := (by show len ≤ 10000; omega)
  clear hlong m1
  have NW1 := NW.out HSM.out
  have NN1 := NN.out HSM.out
  have RW1 := RW.out HSM.out
  have RN1 := RN.out HSM.out
  generalize isB l = b at *
  clear NW NN RW RN
  cases b
  · have D := NN1 rfl w2 (HUP.out _ HB2.out)
    have R0 := (show Hid _ from RN1 rfl)
    clear NN1 NW1 RN1 RW1
    go_wp2_with fail
    refine D.mono ?_
    rintro e w3 ⟨rfl, hb3⟩
    have HB3 : Hid (Below w1.heap.size w1 w3) := HB2.out.trans (hb3.mono HB2.out.size)
    clear D hb3 q0 q1 q2 q3
    obtain ⟨⟨q0, q1, q2, q3⟩, _⟩ := cells4 (blk_below HB3.out H0.out)
    go_wp2_with fail
    refine (R0.out w3 (HUP.out _ HB3.out)).mono ?_
    rintro e w4 ⟨rfl, hb4⟩
    have HB4 : Hid (Below w1.heap.size w1 w4) := HB3.out.trans (hb4.mono HB3.out.size)
    clear hb4 q0 q1 q2 q3 R0
    go_wp2
    go_loopg [9] 0 (fun gk i wr => gk = 0 ∧ Below w1.heap.size w1 wr ∧ ∃ k : Nat, i = .int .i64 k)
    case atStart => exact ⟨rfl, HB4.out, 0, rfl⟩
    case round =>
      obtain ⟨rfl, hb, k, rfl⟩ := hrel
      have HBR := (show Hid _ from hb)
      clear hb
      go_wp2_with fail
      refine (fdKnown_any _).mono ?_
      rintro e wk ⟨rfl, hbk⟩
      go_wp2
      go_ret
      exact ⟨rfl, HUP.out _ (HBR.out.trans (hbk.mono HBR.out.size))⟩
  have D := NW1 rfl w2 (HUP.out _ HB2.out)
  have R0 := (show Hid _ from RW1 rfl)
  have HBN : Hid (1 ≤ n0 ∧ n0 ≤ 10 ∧ n1 ≤ 5) := HBQ.out rfl
  clear NN1 NW1 RN1 RW1
  go_wp2_with fail
  refine D.mono ?_
  rintro e w3 ⟨fb, bo, bp, rfl, hf, hb3⟩
  have HB3 : Hid (Below w1.heap.size w1 w3) := HB2.out.trans (hb3.mono HB2.out.size)
  have HF3 := (show Hid _ from hf.lower HB2.out.size)
  clear D hb3 q0 q1 q2 q3 hf
  obtain ⟨⟨q0, q1, q2, q3⟩, _⟩ := cells4 (blk_below HB3.out H0.out)
  go_wp2_with fail
  refine (R0.out w3 (HUP.out _ HB3.out)).mono ?_
  rintro e w4 ⟨xb, br, bt, bd, vl, rfl, hr, hb4⟩
  have HBO4 : Hid (Both w1 w4 w3.heap.size fb bo bp xb br bt bd vl (List.replicate n0 false) (List.replicate n1 (restF 1))) := ⟨HF3.out.below hb4, hr, HF3.out.lt, HB3.out.trans (hb4.mono HB3.out.size), HB3.out.size⟩
  clear hr hb4 q0 q1 q2 q3 R0 HF3
  generalize w3.heap.size = S at *
  go_wp2
  clear hq
  go_loopg [9, 10, 73, 90] len (fun gk i a1 a2 a3 wr => ∃ (k : Nat) (occ : List Bool) (pts : List Pt), gk = len - k ∧ i = .int .i64 k ∧ k ≤ len ∧ k ≤ 60 ∧ occ.length = n0 ∧ pts.length = n1 ∧ Both w1 wr S fb bo bp xb br bt bd vl occ pts)
  case atStart => exact ⟨0, _, _, rfl, rfl, by omega, by omega, by simp, by simp, HBO4.out⟩
  case round =>
    clear HBO4
    obtain ⟨k, occ, pts, rfl, rfl, hk, hk60, ho, hp, hbo⟩ := hrel
    have HLN : Hid (occ.length = n0 ∧ pts.length = n1) := ⟨ho, hp⟩
    have HBO : Hid (Both w1 wr S fb bo bp xb br bt bd vl occ pts) := hbo
    have hLL := HLL.out
    clear ho hp hbo
    by_cases hlt : k < len
    · have hki : (k : Int) < (len : Int) := by omega
      by_cases h60 : k < 60
      · have hk6 : (k : Int) < 60 := by omega
        have HKI : Hid ((k : Int) < (len : Int)) := hki
        have H60 : Hid ((k : Int) < 60) := hk6
        obtain ⟨⟨x, y, z⟩, hxk⟩ : ∃ x, ls[k]? = some x := ⟨ls[k]'(by rw [HE.out]; exact hlt), List.getElem?_eq_getElem _⟩
        obtain ⟨b0, off, rfl, c0', c1', c2'⟩ := HI.out k _ hxk
        have c0 := up_cell HB01.out c0'
        have c1 := up_cell HB01.out c1'
        have c2 := up_cell HB01.out c2'
        have d0 := up_cell HBO.out.b c0
        have d2 := up_cell HBO.out.b c2
        clear hxk c0' c1' c2' c0
        by_cases hx1 : x = 1
        · subst hx1
          clear c2
          go_wp2_with fail
          clear d0 d2
          have y1 := ext_cell c1
          haveI := ext_some w1
          have HBQ1 : Hid (Below w1.heap.size w1 wr.drew) := HBO.out.b.drew
          have HBO1 := (show Hid _ from HBO.out.below ((Below.refl wr.heap.size wr).drew))
          refine wp_region_mix_seq (C := fun W => ∃ y : Ext w1, W = y.z) [0, 1, 2, 3, 4, 5, 7, 8, 9, 10, 11, 12, 6, 13, 14] (by kernel_rfl) (by kernel_rfl) (by kernel_rfl) (by kernel_rfl) (by simp only [List.filterMap_cons, List.getElem?_toArray, List.getElem?_cons_zero, List.getElem?_cons_succ, List.filterMap_nil]; rfl) ⟨⟨_, HBO.out.b.drew⟩, rfl⟩ ?_
          generalize wr.drew = w2 at *
          (repeat (first | (with_reducible refine mix_read (by kernel_rfl) ?_; go_big_quiet_want; go_big_quiet_op; go_big_quiet_on; with_reducible refine wpQuiet_nil ?_) | (with_reducible refine mix_pass (by kernel_rfl) ?_; go_big_quiet_skip; with_reducible refine wpQuiet_nil ?_)))
          with_reducible refine mix_call (by kernel_rfl) (by kernel_rfl) ((train_any w1.heap.size fb bo bp occ pts y w2 HBO1.out.f).mono ?_) (by kernel_rfl)
          rintro e w5 ⟨rfl, hf, hcg⟩
          have HA := (show Hid _ from HBO1.out.fd hf hcg)
          clear hf hcg
          refine ⟨_, rfl, ⟨⟨_, HA.out.2.2⟩, rfl⟩, ?_⟩
          simp only [Act.put, List.setIfInBounds_toArray, List.set_cons_zero, List.set_cons_succ]
          (repeat (first | (with_reducible refine mix_read (by kernel_rfl) ?_; go_big_quiet_want; go_big_quiet_op; go_big_quiet_on; with_reducible refine wpQuiet_nil ?_) | (with_reducible refine mix_pass (by kernel_rfl) ?_; go_big_quiet_skip; with_reducible refine wpQuiet_nil ?_)))
          with_reducible refine mix_call (by kernel_rfl) (by kernel_rfl) ((rfTrain_any S xb br bt bd vl occ (liesF pts) (towF pts) (drvF pts) y w5 HA.out.2.1).mono ?_) (by kernel_rfl)
          rintro e w6 ⟨rfl, hr, hcg⟩
          have HB6 : Hid (Both w1 w6 S fb bo bp xb br bt bd vl ((trainF occ y).2) (pts)) := Both.rf HBO1.out.lt HBO1.out.ws HA.out.1 HA.out.2.1 HA.out.2.2 hr hcg
          clear hr hcg HA
          refine ⟨_, rfl, ⟨⟨_, HB6.out.b⟩, rfl⟩, ?_⟩
          simp only [Act.put, List.setIfInBounds_toArray, List.set_cons_zero, List.set_cons_succ]
          (repeat (first | (with_reducible refine mix_read (by kernel_rfl) ?_; go_big_quiet_want; go_big_quiet_op; go_big_quiet_on; with_reducible refine wpQuiet_nil ?_) | (with_reducible refine mix_pass (by kernel_rfl) ?_; go_big_quiet_skip; with_reducible refine wpQuiet_nil ?_)))
          with_reducible refine mix_end ?_
          intro _
          clear y1
          have HLN6 : Hid (((trainF occ y).2).length = n0 ∧ (pts).length = n1) := ⟨(train_len occ y).trans HLN.out.1, HLN.out.2⟩
          generalize (trainF occ y).2 = occ' at *
          generalize pts = pts' at *
          have hki' := HKI.out
          have h60' := H60.out
          have D := fdIn_any w1.heap.size fb bo bp occ' pts' w6 HB6.out.f
          obtain ⟨z0, z1, -, -⟩ := HB6.out.r.cells
          obtain ⟨ol, clx, hvl⟩ := owns_slice HB6.out.r.hl
          rw [hvl] at z1
          have HVL := (show Hid _ from hvl)
          rw [liesF_len, HLN6.out.2] at HVL z1
          rw [HLN6.out.1] at z0
          rw [HLN6.out.2] at D
          clear hvl D
          go_wp2_with fail
          have f0 := ext_cell z0
          have f1 := ext_cell z1
          haveI := ext_some w6
          have HB67 : Hid (Below w6.heap.size w6 w6.drew) := (Below.refl _ _).drew
          clear z0 z1
          refine wp_region_mix_seq (C := fun W => ∃ y : Ext w6, W = y.z) [0, 2, 3, 4, 5, 1, 6, 7] (by kernel_rfl) (by kernel_rfl) (by kernel_rfl) (by kernel_rfl) (by simp only [List.filterMap_cons, List.getElem?_toArray, List.getElem?_cons_zero, List.getElem?_cons_succ, List.filterMap_nil]; rfl) ⟨⟨_, (Below.refl _ _).drew⟩, rfl⟩ ?_
          have HB7 := (show Hid _ from HB6.out.below HB67.out)
          generalize w6.drew = w7 at *
          (repeat (first | (with_reducible refine mix_read (by kernel_rfl) ?_; go_big_quiet_want; go_big_quiet_op; go_big_quiet_on; with_reducible refine wpQuiet_nil ?_) | (with_reducible refine mix_pass (by kernel_rfl) ?_; go_big_quiet_skip; with_reducible refine wpQuiet_nil ?_)))
          have D := fdIn_any w1.heap.size fb bo bp occ' pts' w7 HB7.out.f
          rw [HLN6.out.2] at D
          with_reducible refine mix_call (by kernel_rfl) (by kernel_rfl) (D.mono ?_) (by kernel_rfl)
          rintro e w8 ⟨u0, b, rfl, hu, hbb, hli, hb8⟩
          clear D
          obtain ⟨ou, cu, hue⟩ := owns_slice hu
          subst hue
          have HB68 : Hid (Below w6.heap.size w6 w8) := HB67.out.trans (hb8.mono HB67.out.size)
          have HB8 := (show Hid _ from HB7.out.below hb8)
          have h0 : rowAt w8 (.slice ou n0 cu) 1 bC occ' := by
            have := rowAt_of_owns (cs := bC) (fun _ => rfl) hu
            rwa [HLN6.out.1] at this
          have h1 : rowAt w8 (.slice (some ⟨b, 0, none⟩) n1 n1) 1 iC (liesF pts') := by
            have := row_blk (cs := iC) (cap := n1) (fun _ => rfl) (liesF pts') hli (by rw [← map_flat_i])
            rwa [liesF_len, HLN6.out.2] at this
          have h2 : rowAt w8 (.slice (some ⟨br, 0, none⟩) n0 n0) 1 bC occ' := by
            have := row_blk (cs := bC) (cap := n0) (fun _ => rfl) occ' HB8.out.r.ho (by rw [← map_flat_b])
            rwa [HLN6.out.1] at this
          have h3 : rowAt w8 (.slice ol n1 clx) 1 iC (liesF pts') := by
            have := rowAt_of_owns (cs := iC) (fun _ => rfl) HB8.out.r.hl
            rwa [HVL.out] at this
          have DS := sameIn_eq _ _ _ _ n0 n1 _ _ _ _ occ' (liesF pts') w8 h0 h1 h2 h3 ⟨by have := HBN.out; omega, by have := HBN.out; omega⟩
          rw [HLN6.out.1]
          clear h0 h1 h2 h3 hu hbb hli hb8
          refine ⟨_, rfl, ⟨⟨_, HB68.out⟩, rfl⟩, ?_⟩
          simp only [Act.put, List.setIfInBounds_toArray, List.set_cons_zero, List.set_cons_succ]
          (repeat (first | (with_reducible refine mix_read (by kernel_rfl) ?_; go_big_quiet_want; go_big_quiet_op; go_big_quiet_on; with_reducible refine wpQuiet_nil ?_) | (with_reducible refine mix_pass (by kernel_rfl) ?_; go_big_quiet_skip; with_reducible refine wpQuiet_nil ?_)))
          with_reducible refine mix_call (by kernel_rfl) (by kernel_rfl) (DS.mono ?_) (by kernel_rfl)
          clear DS
          rintro e w9 ⟨rfl, hb9⟩
          have HB9 := (show Hid _ from HB8.out.below hb9)
          have HB69 : Hid (Below w6.heap.size w6 w9) := HB68.out.trans (hb9.mono HB68.out.size)
          clear hb9
          refine ⟨_, rfl, ⟨⟨_, HB69.out⟩, rfl⟩, ?_⟩
          simp only [Act.put, List.setIfInBounds_toArray, List.set_cons_zero, List.set_cons_succ]
          (repeat (first | (with_reducible refine mix_read (by kernel_rfl) ?_; go_big_quiet_want; go_big_quiet_op; go_big_quiet_on; with_reducible refine wpQuiet_nil ?_) | (with_reducible refine mix_pass (by kernel_rfl) ?_; go_big_quiet_skip; with_reducible refine wpQuiet_nil ?_)))
          with_reducible refine mix_end ?_
          intro _
          clear f0 f1
          go_wp2
          go_roundg (len - (k + 1))
          case rel => exact ⟨k + 1, occ', pts', rfl, by go_num, by omega, by omega, HLN6.out.1, HLN6.out.2, HB9.out⟩
          case measure => omega
        have qx1 : (x == 1) = false := by simp [hx1]
        by_cases hx2 : x = 2
        · subst hx2
          clear c2
          go_wp2_with fail
          clear d0 d2
          have y1 := ext_cell c1
          haveI := ext_some w1
          have HBQ1 : Hid (Below w1.heap.size w1 wr.drew) := HBO.out.b.drew
          have HBO1 := (show Hid _ from HBO.out.below ((Below.refl wr.heap.size wr).drew))
          refine wp_region_mix_seq (C := fun W => ∃ y : Ext w1, W = y.z) [0, 1, 2, 3, 4, 5, 7, 8, 9, 10, 11, 12, 6, 13, 14] (by kernel_rfl) (by kernel_rfl) (by kernel_rfl) (by kernel_rfl) (by simp only [List.filterMap_cons, List.getElem?_toArray, List.getElem?_cons_zero, List.getElem?_cons_succ, List.filterMap_nil]; rfl) ⟨⟨_, HBO.out.b.drew⟩, rfl⟩ ?_
          generalize wr.drew = w2 at *
          (repeat (first | (with_reducible refine mix_read (by kernel_rfl) ?_; go_big_quiet_want; go_big_quiet_op; go_big_quiet_on; with_reducible refine wpQuiet_nil ?_) | (with_reducible refine mix_pass (by kernel_rfl) ?_; go_big_quiet_skip; with_reducible refine wpQuiet_nil ?_)))
          with_reducible refine mix_call (by kernel_rfl) (by kernel_rfl) ((stick_any w1.heap.size fb bo bp occ pts y w2 HBO1.out.f).mono ?_) (by kernel_rfl)
          rintro e w5 ⟨rfl, hf, hcg⟩
          have HA := (show Hid _ from HBO1.out.fd hf hcg)
          clear hf hcg
          refine ⟨_, rfl, ⟨⟨_, HA.out.2.2⟩, rfl⟩, ?_⟩
          simp only [Act.put, List.setIfInBounds_toArray, List.set_cons_zero, List.set_cons_succ]
          (repeat (first | (with_reducible refine mix_read (by kernel_rfl) ?_; go_big_quiet_want; go_big_quiet_op; go_big_quiet_on; with_reducible refine wpQuiet_nil ?_) | (with_reducible refine mix_pass (by kernel_rfl) ?_; go_big_quiet_skip; with_reducible refine wpQuiet_nil ?_)))
          with_reducible refine mix_call (by kernel_rfl) (by kernel_rfl) ((rfStick_any S xb br bt bd vl occ pts y w5 HA.out.2.1).mono ?_) (by kernel_rfl)
          rintro e w6 ⟨rfl, hr, hcg⟩
          have HB6 : Hid (Both w1 w6 S fb bo bp xb br bt bd vl (occ) ((stickF pts y).2)) := Both.rf HBO1.out.lt HBO1.out.ws HA.out.1 HA.out.2.1 HA.out.2.2 hr hcg
          clear hr hcg HA
          refine ⟨_, rfl, ⟨⟨_, HB6.out.b⟩, rfl⟩, ?_⟩
          simp only [Act.put, List.setIfInBounds_toArray, List.set_cons_zero, List.set_cons_succ]
          (repeat (first | (with_reducible refine mix_read (by kernel_rfl) ?_; go_big_quiet_want; go_big_quiet_op; go_big_quiet_on; with_reducible refine wpQuiet_nil ?_) | (with_reducible refine mix_pass (by kernel_rfl) ?_; go_big_quiet_skip; with_reducible refine wpQuiet_nil ?_)))
          with_reducible refine mix_end ?_
          intro _
          clear y1
          have HLN6 : Hid ((occ).length = n0 ∧ ((stickF pts y).2).length = n1) := ⟨HLN.out.1, (stick_len pts y).trans HLN.out.2⟩
          generalize occ = occ' at *
          generalize (stickF pts y).2 = pts' at *
          have hki' := HKI.out
          have h60' := H60.out
          have D := fdIn_any w1.heap.size fb bo bp occ' pts' w6 HB6.out.f
          obtain ⟨z0, z1, -, -⟩ := HB6.out.r.cells
          obtain ⟨ol, clx, hvl⟩ := owns_slice HB6.out.r.hl
          rw [hvl] at z1
          have HVL := (show Hid _ from hvl)
          rw [liesF_len, HLN6.out.2] at HVL z1
          rw [HLN6.out.1] at z0
          rw [HLN6.out.2] at D
          clear hvl D
          go_wp2_with fail
          have f0 := ext_cell z0
          have f1 := ext_cell z1
          haveI := ext_some w6
          have HB67 : Hid (Below w6.heap.size w6 w6.drew) := (Below.refl _ _).drew
          clear z0 z1
          refine wp_region_mix_seq (C := fun W => ∃ y : Ext w6, W = y.z) [0, 2, 3, 4, 5, 1, 6, 7] (by kernel_rfl) (by kernel_rfl) (by kernel_rfl) (by kernel_rfl) (by simp only [List.filterMap_cons, List.getElem?_toArray, List.getElem?_cons_zero, List.getElem?_cons_succ, List.filterMap_nil]; rfl) ⟨⟨_, (Below.refl _ _).drew⟩, rfl⟩ ?_
          have HB7 := (show Hid _ from HB6.out.below HB67.out)
          generalize w6.drew = w7 at *
          (repeat (first | (with_reducible refine mix_read (by kernel_rfl) ?_; go_big_quiet_want; go_big_quiet_op; go_big_quiet_on; with_reducible refine wpQuiet_nil ?_) | (with_reducible refine mix_pass (by kernel_rfl) ?_; go_big_quiet_skip; with_reducible refine wpQuiet_nil ?_)))
          have D := fdIn_any w1.heap.size fb bo bp occ' pts' w7 HB7.out.f
          rw [HLN6.out.2] at D
          with_reducible refine mix_call (by kernel_rfl) (by kernel_rfl) (D.mono ?_) (by kernel_rfl)
          rintro e w8 ⟨u0, b, rfl, hu, hbb, hli, hb8⟩
          clear D
          obtain ⟨ou, cu, hue⟩ := owns_slice hu
          subst hue
          have HB68 : Hid (Below w6.heap.size w6 w8) := HB67.out.trans (hb8.mono HB67.out.size)
          have HB8 := (show Hid _ from HB7.out.below hb8)
          have h0 : rowAt w8 (.slice ou n0 cu) 1 bC occ' := by
            have := rowAt_of_owns (cs := bC) (fun _ => rfl) hu
            rwa [HLN6.out.1] at this
          have h1 : rowAt w8 (.slice (some ⟨b, 0, none⟩) n1 n1) 1 iC (liesF pts') := by
            have := row_blk (cs := iC) (cap := n1) (fun _ => rfl) (liesF pts') hli (by rw [← map_flat_i])
            rwa [liesF_len, HLN6.out.2] at this
          have h2 : rowAt w8 (.slice (some ⟨br, 0, none⟩) n0 n0) 1 bC occ' := by
            have := row_blk (cs := bC) (cap := n0) (fun _ => rfl) occ' HB8.out.r.ho (by rw [← map_flat_b])
            rwa [HLN6.out.1] at this
          have h3 : rowAt w8 (.slice ol n1 clx) 1 iC (liesF pts') := by
            have := rowAt_of_owns (cs := iC) (fun _ => rfl) HB8.out.r.hl
            rwa [HVL.out] at this
          have DS := sameIn_eq _ _ _ _ n0 n1 _ _ _ _ occ' (liesF pts') w8 h0 h1 h2 h3 ⟨by have := HBN.out; omega, by have := HBN.out; omega⟩
          rw [HLN6.out.1]
          clear h0 h1 h2 h3 hu hbb hli hb8
          refine ⟨_, rfl, ⟨⟨_, HB68.out⟩, rfl⟩, ?_⟩
          simp only [Act.put, List.setIfInBounds_toArray, List.set_cons_zero, List.set_cons_succ]
          (repeat (first | (with_reducible refine mix_read (by kernel_rfl) ?_; go_big_quiet_want; go_big_quiet_op; go_big_quiet_on; with_reducible refine wpQuiet_nil ?_) | (with_reducible refine mix_pass (by kernel_rfl) ?_; go_big_quiet_skip; with_reducible refine wpQuiet_nil ?_)))
          with_reducible refine mix_call (by kernel_rfl) (by kernel_rfl) (DS.mono ?_) (by kernel_rfl)
          clear DS
          rintro e w9 ⟨rfl, hb9⟩
          have HB9 := (show Hid _ from HB8.out.below hb9)
          have HB69 : Hid (Below w6.heap.size w6 w9) := HB68.out.trans (hb9.mono HB68.out.size)
          clear hb9
          refine ⟨_, rfl, ⟨⟨_, HB69.out⟩, rfl⟩, ?_⟩
          simp only [Act.put, List.setIfInBounds_toArray, List.set_cons_zero, List.set_cons_succ]
          (repeat (first | (with_reducible refine mix_read (by kernel_rfl) ?_; go_big_quiet_want; go_big_quiet_op; go_big_quiet_on; with_reducible refine wpQuiet_nil ?_) | (with_reducible refine mix_pass (by kernel_rfl) ?_; go_big_quiet_skip; with_reducible refine wpQuiet_nil ?_)))
          with_reducible refine mix_end ?_
          intro _
          clear f0 f1
          go_wp2
          go_roundg (len - (k + 1))
          case rel => exact ⟨k + 1, occ', pts', rfl, by go_num, by omega, by omega, HLN6.out.1, HLN6.out.2, HB9.out⟩
          case measure => omega
        have qx2 : (x == 2) = false := by simp [hx2]
        obtain ⟨⟨q0, q1, q2, q3⟩, _⟩ := cells4 H0.out
        clear c1
        go_wp2_with fail
        clear d0 d2
        have y1 := ext_cell c2
        have y2 := ext_cell q1
        haveI := ext_some w1
        have HBO1 := (show Hid _ from HBO.out.below ((Below.refl wr.heap.size wr).drew))
        refine wp_region_mix_seq (C := fun W => ∃ y : Ext w1, W = y.z) [0, 1, 2, 3, 4, 5, 6, 7, 8, 9] (by kernel_rfl) (by kernel_rfl) (by kernel_rfl) (by kernel_rfl) (by simp only [List.filterMap_cons, List.getElem?_toArray, List.getElem?_cons_zero, List.getElem?_cons_succ, List.filterMap_nil]; rfl) ⟨⟨_, HBO.out.b.drew⟩, rfl⟩ ?_
        generalize wr.drew = w2' at *
        clear q0 q1 q2 q3 c2
        (repeat (first | (with_reducible refine mix_read (by kernel_rfl) ?_; go_big_quiet_want; go_big_quiet_op; go_big_quiet_on; with_reducible refine wpQuiet_nil ?_) | (with_reducible refine mix_pass (by kernel_rfl) ?_; go_big_quiet_skip; with_reducible refine wpQuiet_nil ?_)))
        with_reducible refine mix_call (by kernel_rfl) (by kernel_rfl) ((drive_any z n1 w2' (by have := HBN.out; omega)).mono ?_) (by kernel_rfl)
        rintro e w3' ⟨vd, rfl, hd, hb3⟩
        have HBO3 := (show Hid _ from HBO1.out.below hb3)
        have HD : Hid (w3'.ownsRow w2'.heap.size 3 1 vd n1 ((driveF z n1).flatMap iC)) := hd
        have HSZ : Hid (w2'.heap.size ≤ w3'.heap.size) := hb3.size
        clear hd hb3
        refine ⟨_, rfl, ⟨⟨_, HBO3.out.b⟩, rfl⟩, ?_⟩
        simp only [Act.put, List.setIfInBounds_toArray, List.set_cons_zero, List.set_cons_succ]
        (repeat (first | (with_reducible refine mix_read (by kernel_rfl) ?_; go_big_quiet_want; go_big_quiet_op; go_big_quiet_on; with_reducible refine wpQuiet_nil ?_) | (with_reducible refine mix_pass (by kernel_rfl) ?_; go_big_quiet_skip; with_reducible refine wpQuiet_nil ?_)))
        with_reducible refine mix_end ?_
        intro _
        clear y1 y2
        have HDL : Hid ((driveF z n1).length = n1) := driveF_len z n1
        have rowD : ∀ (Sf : Nat → Prop) (W : World), (∀ j, Sf j → j < w2'.heap.size) → Chg Sf w3' W → W.ownsRow w2'.heap.size 3 1 vd n1 ((driveF z n1).flatMap iC) := fun Sf W hS hc => owns_keep HD.out fun j e => hc.block j (HD.out.lt j e).2 fun hs => by
          have h1 := hS j hs
          have h2 := (HD.out.lt j e).1
          omega
        have ROW := (show Hid _ from rowD)
        have hmay : mayDrB pts.length (driveF z n1) = true := by
          unfold mayDrB
          rw [driveF_pos, driveF_len, HLN.out.2]
          simp
        have hst : stepF6 pts (driveF z n1) = stepAll pts (driveF z n1) := if_pos hmay
        have D := fdStep_any w1.heap.size fb bo bp occ pts vd (driveF z n1) w3' HBO3.out.f (fun W hW => by
          have h1 := ROW.out _ W (fun j hj => by
            have h2 := HBO1.out.f.lt
            rcases hj with rfl | rfl
            · exact h2.2.1
            · exact h2.2.2) hW
          have h3 := rowAt_of_owns (l := driveF z n1) (cs := iC) (fun _ => rfl) (by rw [HDL.out]; exact h1)
          exact h3) (by rw [HDL.out]; have := HBN.out; omega)
        rw [hst] at D
        obtain ⟨od, cd, hvd⟩ := owns_slice HD.out
        subst hvd
        clear rowD hmay hst
        go_wp2_with fail
        refine D.mono ?_
        rintro e w5 ⟨rfl, hf, hcg⟩
        have HA := (show Hid _ from HBO3.out.fd hf hcg)
        have HD5 : Hid (w5.ownsRow w2'.heap.size 3 1 (.slice od n1 cd) n1 ((driveF z n1).flatMap iC)) := ROW.out _ w5 (fun j hj => by
          have h2 := HBO1.out.f.lt
          rcases hj with rfl | rfl
          · exact h2.2.1
          · exact h2.2.2) hcg
        clear hf hcg D
        have R := rfStep_any S xb br bt bd vl occ pts (.slice od n1 cd) (driveF z n1) w5 HA.out.2.1 (fun W hW => by
          have h1 : W.ownsRow w2'.heap.size 3 1 (.slice od n1 cd) n1 ((driveF z n1).flatMap iC) := owns_keep HD5.out fun j e => hW.block j (HD5.out.lt j e).2 fun hs => by
            have h1 := (HD5.out.lt j e).1
            have hr := HBO1.out.r
            have h2 : j < w2'.heap.size := by
              rcases hs with rfl | rfl | rfl | hs
              · exact (Array.getElem?_eq_some_iff.1 hr.ho).1
              · exact (Array.getElem?_eq_some_iff.1 hr.ht).1
              · exact (Array.getElem?_eq_some_iff.1 hr.hd).1
              · exact (hr.hl.lt j hs).2
            omega
          have h3 := rowAt_of_owns (l := driveF z n1) (cs := iC) (fun _ => rfl) (by rw [HDL.out]; exact h1)
          exact h3) (by rw [HDL.out, HLN.out.2]) HBO3.out.f.ok
        go_wp2_with fail
        refine R.mono ?_
        rintro e w6 ⟨rfl, hr, hcg⟩
        have HB6 : Hid (Both w1 w6 S fb bo bp xb br bt bd vl occ (stepAll pts (driveF z n1))) := Both.rf HBO3.out.lt HBO3.out.ws HA.out.1 HA.out.2.1 HA.out.2.2 hr hcg
        clear hr hcg HA R
        have HLN6 : Hid (occ.length = n0 ∧ (stepAll pts (driveF z n1)).length = n1) := ⟨HLN.out.1, (stepAll_len (by rw [HDL.out, HLN.out.2])).trans HLN.out.2⟩
        generalize hoc : occ = occ' at *
        clear hoc
        generalize stepAll pts (driveF z n1) = pts' at *
        have hki' := HKI.out
        have h60' := H60.out
        have D := fdIn_any w1.heap.size fb bo bp occ' pts' w6 HB6.out.f
        obtain ⟨z0, z1, -, -⟩ := HB6.out.r.cells
        obtain ⟨ol, clx, hvl⟩ := owns_slice HB6.out.r.hl
        rw [hvl] at z1
        have HVL := (show Hid _ from hvl)
        rw [liesF_len, HLN6.out.2] at HVL z1
        rw [HLN6.out.1] at z0
        rw [HLN6.out.2] at D
        clear hvl D
        go_wp2_with fail
        have f0 := ext_cell z0
        have f1 := ext_cell z1
        haveI := ext_some w6
        have HB67 : Hid (Below w6.heap.size w6 w6.drew) := (Below.refl _ _).drew
        clear z0 z1
        refine wp_region_mix_seq (C := fun W => ∃ y : Ext w6, W = y.z) [0, 2, 3, 4, 5, 1, 6, 7] (by kernel_rfl) (by kernel_rfl) (by kernel_rfl) (by kernel_rfl) (by simp only [List.filterMap_cons, List.getElem?_toArray, List.getElem?_cons_zero, List.getElem?_cons_succ, List.filterMap_nil]; rfl) ⟨⟨_, (Below.refl _ _).drew⟩, rfl⟩ ?_
        have HB7 := (show Hid _ from HB6.out.below HB67.out)
        generalize w6.drew = w7 at *
        (repeat (first | (with_reducible refine mix_read (by kernel_rfl) ?_; go_big_quiet_want; go_big_quiet_op; go_big_quiet_on; with_reducible refine wpQuiet_nil ?_) | (with_reducible refine mix_pass (by kernel_rfl) ?_; go_big_quiet_skip; with_reducible refine wpQuiet_nil ?_)))
        have D := fdIn_any w1.heap.size fb bo bp occ' pts' w7 HB7.out.f
        rw [HLN6.out.2] at D
        with_reducible refine mix_call (by kernel_rfl) (by kernel_rfl) (D.mono ?_) (by kernel_rfl)
        rintro e w8 ⟨u0, b, rfl, hu, hbb, hli, hb8⟩
        clear D
        obtain ⟨ou, cu, hue⟩ := owns_slice hu
        subst hue
        have HB68 : Hid (Below w6.heap.size w6 w8) := HB67.out.trans (hb8.mono HB67.out.size)
        have HB8 := (show Hid _ from HB7.out.below hb8)
        have h0 : rowAt w8 (.slice ou n0 cu) 1 bC occ' := by
          have := rowAt_of_owns (cs := bC) (fun _ => rfl) hu
          rwa [HLN6.out.1] at this
        have h1 : rowAt w8 (.slice (some ⟨b, 0, none⟩) n1 n1) 1 iC (liesF pts') := by
          have := row_blk (cs := iC) (cap := n1) (fun _ => rfl) (liesF pts') hli (by rw [← map_flat_i])
          rwa [liesF_len, HLN6.out.2] at this
        have h2 : rowAt w8 (.slice (some ⟨br, 0, none⟩) n0 n0) 1 bC occ' := by
          have := row_blk (cs := bC) (cap := n0) (fun _ => rfl) occ' HB8.out.r.ho (by rw [← map_flat_b])
          rwa [HLN6.out.1] at this
        have h3 : rowAt w8 (.slice ol n1 clx) 1 iC (liesF pts') := by
          have := rowAt_of_owns (cs := iC) (fun _ => rfl) HB8.out.r.hl
          rwa [HVL.out] at this
        have DS := sameIn_eq _ _ _ _ n0 n1 _ _ _ _ occ' (liesF pts') w8 h0 h1 h2 h3 ⟨by have := HBN.out; omega, by have := HBN.out; omega⟩
        rw [HLN6.out.1]
        clear h0 h1 h2 h3 hu hbb hli hb8
        refine ⟨_, rfl, ⟨⟨_, HB68.out⟩, rfl⟩, ?_⟩
        simp only [Act.put, List.setIfInBounds_toArray, List.set_cons_zero, List.set_cons_succ]
        (repeat (first | (with_reducible refine mix_read (by kernel_rfl) ?_; go_big_quiet_want; go_big_quiet_op; go_big_quiet_on; with_reducible refine wpQuiet_nil ?_) | (with_reducible refine mix_pass (by kernel_rfl) ?_; go_big_quiet_skip; with_reducible refine wpQuiet_nil ?_)))
        with_reducible refine mix_call (by kernel_rfl) (by kernel_rfl) (DS.mono ?_) (by kernel_rfl)
        clear DS
        rintro e w9 ⟨rfl, hb9⟩
        have HB9 := (show Hid _ from HB8.out.below hb9)
        have HB69 : Hid (Below w6.heap.size w6 w9) := HB68.out.trans (hb9.mono HB68.out.size)
        clear hb9
        refine ⟨_, rfl, ⟨⟨_, HB69.out⟩, rfl⟩, ?_⟩
        simp only [Act.put, List.setIfInBounds_toArray, List.set_cons_zero, List.set_cons_succ]
        (repeat (first | (with_reducible refine mix_read (by kernel_rfl) ?_; go_big_quiet_want; go_big_quiet_op; go_big_quiet_on; with_reducible refine wpQuiet_nil ?_) | (with_reducible refine mix_pass (by kernel_rfl) ?_; go_big_quiet_skip; with_reducible refine wpQuiet_nil ?_)))
        with_reducible refine mix_end ?_
        intro _
        clear f0 f1
        go_wp2
        go_roundg (len - (k + 1))
        case rel => exact ⟨k + 1, occ', pts', rfl, by go_num, by omega, by omega, HLN6.out.1, HLN6.out.2, HB9.out⟩
        case measure => omega
      · have hk6 : ¬ (k : Int) < 60 := by omega
        go_wp2_with fail
        refine (fdKnown_any _).mono ?_
        rintro e wk ⟨rfl, hbk⟩
        go_wp2
        go_ret
        exact ⟨rfl, HUP.out _ (HBO.out.b.trans (hbk.mono HBO.out.b.size))⟩
    · have hki : ¬ (k : Int) < (len : Int) := by omega
      go_wp2_with fail
      refine (fdKnown_any _).mono ?_
      rintro e wk ⟨rfl, hbk⟩
      go_wp2
      go_ret
      exact ⟨rfl, HUP.out _ (HBO.out.b.trans (hbk.mono HBO.out.b.size))⟩

theorem own : ownKnob Tryd.prog.godebug = none := by kernel_rfl
theorem u8x : U8Extra Tryd.prog Tryd.lays260_ren := ⟨by kernel_rfl, by kernel_rfl, by kernel_rfl, by kernel_rfl, by kernel_rfl, by kernel_rfl, by kernel_rfl⟩
theorem accept_eq : (Rows.laid_unicode_utf8_acceptRanges : DataW Unit) = Lib.acceptData := by kernel_rfl
theorem first_eq : Rows.laid_unicode_utf8_first = Lib.firstData := Pinned.utf8First_eq
theorem tabs_of {W : World} (hL : laidMet Tryd.prog Rows.fieldPlaysRow.laid W) : Lib.Utf8Tabs 0 1 W :=
  utf8Tabs_of_readsT (U8Types.of260 Tryd.lays260) u8x (first_eq ▸ Lib.laidMet.reads hL (.tail _ (.head _))) (accept_eq ▸ Lib.laidMet.reads hL (.head _))

set_option maxRecDepth 100000 in
theorem lifted (os : Os) (started : os.Started) (H : Type) (enc : TypeId × Value → H) :
    ReturnsInHanded {} Tryd.checked os 3 .any (fun w args => (Rows.fieldPlaysSpec.pre enc Tryd.prog Tryd.f3 [] false w args ∧ laidMetH Tryd.prog Rows.fieldPlaysRow.laid w) ∧ sizedMet enc Tryd.prog Tryd.f3 (OpenSpec.ofChange Rows.fieldPlaysSpec) false w args)
      (Rows.fieldPlaysSpec.post enc Tryd.prog Tryd.f3 false true false false) := by
  refine returnsInHanded_of_change_and (C := Tryd.checked) (X := fun w _ => laidMetH Tryd.prog Rows.fieldPlaysRow.laid w) (fun _ _ _ hh h => h.of_heap hh) own started (by kernel_rfl) Tryd.func3
    (ChangeSpec.witness_shaped (enc := enc) (C := Tryd.checked) (os := os) (X := fun w _ => laidMetH Tryd.prog Rows.fieldPlaysRow.laid w) false (World.laidAll Tryd.prog os Rows.fieldPlaysRow.laid) #[.agg #[.slice none 0 0, .slice none 0 0, .slice none 0 0, .slice none 0 0], .slice none 0 0] 8 (World.laidAll_os _ _ _)
      (World.shaped_of_ZipB (by kernel_rfl) (by kernel_rfl)) (by kernel_rfl) (by kernel_rfl) (by kernel_rfl)
      (by rw [MakeChecks.laidMetH_plain _ _ _ (by kernel_rfl)]; exact laidMet_laidAll _ (by kernel_rfl) (by kernel_rfl))) ?_
  intro W base args ds gs before hval0 hW _ hsz0 hL _
  have hval : ∀ (j : Nat) t v, Tryd.f3.params[j]? = some t → args[j]? = some v → Value.okWide Tryd.prog W .any base t v := hval0
  have hsz : (DataW.weightsEach Tryd.prog (Tryd.f3.params.toList ++ Rows.fieldPlaysSpec.plain.varTypes Tryd.prog) (ds ++ gs)).all (· ≤ reachBytes) = true := hsz0
  have hW' := hW
  obtain ⟨p, q, hA0, hV, rfl, _, _⟩ := hW
  have hA : DataW.TrodAll enc Tryd.prog W 0 (fun _ => true) true Tryd.f3.params.toList args.toList ds p := hA0
  rw [Tryd.params3] at hA hval hsz
  obtain ⟨v0, vs0, d0, ds0, p0, q0, hargs, rfl, rfl, h0, r0⟩ := trodAll_cons hA
  obtain ⟨v1, vs1, d1, ds1, p1, q1, rfl, rfl, rfl, h1, r1⟩ := trodAll_cons r0
  obtain ⟨rfl, rfl, rfl⟩ := trodAll_nil r1
  obtain rfl : args = #[v0, v1] := by cases args; simp_all
  obtain ⟨rfl, rfl⟩ := trodVars_none hV
  have k0 := h0
  have lt0 : ∀ x ∈ p0, x.block < W.heap.size := by obtain ⟨m, hm⟩ := k0; exact DataW.trod_lt m _ _ _ hm
  have g0 := weights_at hsz (j := 0) (t := 26) rfl rfl
  obtain ⟨u0, l0, s0, rfl, y0, b0, c0, x0⟩ := open_layout_c (hval 0 26 v0 rfl rfl) h0 g0
  obtain ⟨a1, len1, cap1, rfl⟩ := okWide_slice Tryd.underlying27 (hval 1 27 v1 rfl rfl)
  have k1 := h1
  have lt1 : ∀ x ∈ p1, x.block < W.heap.size := by obtain ⟨m, hm⟩ := k1; exact DataW.trod_lt m _ _ _ hm
  obtain ⟨z1, e1, m1, s1⟩ : ∃ l : List (Int × Int × Int), l.length = len1 ∧ len1 ≤ maxLen ∧ hasActs W a1 l := by
    obtain ⟨fuel, hf⟩ := h1
    exact open_acts hf
  clear hA0 hval0
  rw [MakeChecks.laidMetH_plain _ _ _ (by kernel_rfl)] at hL
  refine (walk W u0 l0 s0 y0 b0 c0 x0 a1 len1 cap1 z1 e1 m1 s1 (tabs_of hL)).mono fun e W' ⟨he, bel⟩ => ?_
  subst he
  exact ⟨_, rfl, _, _, _, [], _, [], hW', trodAll_mk1 (shut_bool Tryd.underlying4 _), (trodAll_cons_mk (Below.trod laidOut (by kernel_rfl) (of_decide_eq_true (by kernel_rfl)) k0 bel lt0) (trodAll_cons_mk (Below.trod laidOut (by kernel_rfl) (of_decide_eq_true (by kernel_rfl)) k1 bel lt1) trodAll_mk0)), rfl, bel.frame _, fun h => by cases h⟩

theorem over : Rows.fieldPlaysRow.holds Tryd.pinned (OpenSpec.ofChange Rows.fieldPlaysSpec) :=
  OpenClaim.holds_of_wide 3 Tryd.f3 rfl rfl rfl rfl rfl rfl rfl ⟨rfl, rfl, rfl, rfl, rfl⟩ rfl rfl rfl rfl rfl (by kernel_rfl) Tryd.func3 (by kernel_rfl)
    (of_decide_eq_true (by kernel_rfl)) (by unfold Func.isWrapper; first | (rw [if_pos (by decide +kernel)]; kernel_rfl) | (rw [if_neg (by decide +kernel)]; exact ⟨rfl, rfl⟩))
    (fun os started H enc _ => lifted os started H enc)

theorem card : Rows.FieldPlaysCardSaid :=
  Claim7.holds_tied_plain_at .later [] _ _ _ _ over (fun _ h => by cases h) (by kernel_rfl) (fun _ h => by cases h) fieldPlays_row_tie rfl ⟨rfl, rfl⟩ (by kernel_rfl) rfl
    (fun f fn hf hfn => by
      obtain rfl : f = 3 := Option.some.inj ((show Tryd.prog.funcNamed Rows.fieldPlaysRow.func = some 3 by kernel_rfl).symm.trans hf) |>.symm
      obtain rfl : fn = Tryd.f3 := (Option.some.inj (Tryd.func3.symm.trans hfn)).symm
      exact ⟨by kernel_rfl, fun j t ht => by
        rw [Tryd.params3] at ht
        have hm : t ∈ [26, 27] := by simpa using Array.mem_of_getElem? ht
        have hall : ([26, 27].all fun u => !Tryd.prog.wantsStandIn u) = true := by kernel_rfl
        exact (show Tryd.prog.wantsStandIn t = false by simpa using List.all_eq_true.1 hall t hm)⟩)
    (by kernel_rfl)

end Go.Proofs.YthmbpohebcnehaaDoor.fieldPlays
namespace Go.Proofs.YthmbpohebcnehaaDoor
theorem fieldPlays_holds : Rows.FieldPlaysCardSaid := fieldPlays.card
#print axioms fieldPlays_holds
end Go.Proofs.YthmbpohebcnehaaDoor
