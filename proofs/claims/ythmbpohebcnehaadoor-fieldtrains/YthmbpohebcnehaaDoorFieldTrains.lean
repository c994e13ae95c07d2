/-
  Of every layout and every row of numbers: FieldTrains returns true. A tied card: what unicode/utf8's two tables hold is listed, tied by the given tie.
-/
import Derived.Test.YthmbpohebcnehaaDoorRows
import Derived.Test.YthmbpohebcnehaaDoorTie
import Derived.Test.YthmbpohebcnehaaDoorCards
import Derived.Test.YthmbpohebcnehaaDoorFdKnown
import Derived.Test.YthmbpohebcnehaaDoorLawInts
import Derived.Test.YthmbpohebcnehaaDoorLySize
import Derived.Test.YthmbpohebcnehaaDoorTbOpen
import Derived.WalkKit
import Derived.ProofKit
import Derived.OpenShut
import Derived.ShutString
import Derived.ChangeOld
import Derived.Below
import Derived.SizedLaws
import Derived.PinnedBridge
import Derived.Lib.LaidU8T
import Derived.Lay
import Derived.LaidOnce
import Derived.SevenTiedAt
import Derived.Deep.DeepHandedRow
namespace Go.Proofs.YthmbpohebcnehaaDoor.fieldTrains
open Go.ChangeShapes Go.WideShapes Go.ChangeAt Go.RowKit

theorem bounds_of {l : Lay} (h : isB l = true) : 1 ≤ l.sections.length ∧ l.sections.length ≤ 10 ∧ l.points.length ≤ 5 := by
  rw [isB, Bool.and_eq_true] at h
  have := of_decide_eq_true h.1
  omega
/-- The law's own row, and the field, stand alike. -/
structure Inv (w wr : World) (fb bo bp wb : Nat) (occ : List Bool) (np : Nat) : Prop where
  f : FdAt wr w.heap.size fb bo bp occ (List.replicate np (restF 1))
  r : wr.heap[wb]? = some (.cells (occ.map Value.bool).toArray 4 (0, 0))
  b : Below w.heap.size w wr
  n : fb ≠ wb ∧ bo ≠ wb ∧ bp ≠ wb ∧ w.heap.size ≤ wb
theorem Inv.below {w wr W : World} {fb bo bp wb : Nat} {occ : List Bool} {np : Nat} (h : Inv w wr fb bo bp wb occ np) (hb : Below wr.heap.size wr W) : Inv w W fb bo bp wb occ np :=
  ⟨h.f.below hb, blk_below hb h.r, h.b.trans (hb.mono h.b.size), h.n⟩
theorem Inv.put {w wr : World} {fb bo bp wb : Nat} {occ occ' : List Bool} {np : Nat} (hf : FdAt wr w.heap.size fb bo bp occ' (List.replicate np (restF 1))) (hr : wr.heap[wb]? = some (.cells (occ.map Value.bool).toArray 4 (0, 0))) (hb : Below w.heap.size w wr) (hn : fb ≠ wb ∧ bo ≠ wb ∧ bp ≠ wb ∧ w.heap.size ≤ wb) (k : Nat) (x : Bool) (ho : occ' = occ.set k x) : Inv w (wr.setCell ⟨wb, k, none⟩ (.bool x)) fb bo bp wb occ' np := by
  have oth : ∀ j, j ≠ wb → (wr.setCell ⟨wb, k, none⟩ (.bool x)).heap[j]? = wr.heap[j]? := fun j hj => Below.heap_setCell _ _ _ _ (by exact hj)
  refine ⟨hf.keep fun j _ hj => oth j ?_, ?_, hb.setCell hn.2.2.2 _, hn⟩
  · rcases hj with rfl | rfl | rfl
    · exact hn.1
    · exact hn.2.1
    · exact hn.2.2.1
  · rw [heap_put hr, ho]
    congr 2
    apply Array.ext'
    simp
theorem bool_cell {W : World} {b : Nat} {l : List Bool} (h : W.heap[b]? = some (.cells (l.map Value.bool).toArray 4 (0, 0))) {k : Nat} {x : Bool} (hx : l[k]? = some x) : W.cell? ⟨b, k, none⟩ = some (.bool x) := by
  simp only [World.cell?, h]
  simp [hx]

set_option maxRecDepth 1000000 in
set_option maxHeartbeats 32000000 in
theorem walk (w : World) (v : Nat → Value) (l : Lay) (rs : List RtV) (h : LayRd w v l rs) (hB : LayBig l) (hcap : ∀ x ∈ rs, capOk x.2.1) (hcp : capOk (v 3) ∧ capOk (v 0) ∧ capOk (v 2)) (oa : Option Addr) (len cap : Nat) (ls : List Int) (e1' : ls.length = len) (m1 : len ≤ maxLen) (hI : hasInts w oa ls) (hT : Lib.Utf8Tabs 0 1 w) :
    Calls Tryd.prog 4 #[.agg #[v 0, v 1, v 2, v 3], .slice oa len cap] w fun e w' => e = .returned (.bool true) ∧ Below w.heap.size w w' := by
  unfold maxLen at m1
  obtain ⟨o0, c0, e0, _⟩ := h.s
  obtain ⟨o1, c1, e1, _⟩ := h.p
  obtain ⟨o2, c2, e2, _⟩ := h.g
  obtain ⟨o3, c3, e3, _⟩ := h.r
  have S := BoxAt.start w v
  have SZ : Hid (∀ W, Below w.heap.size w W → Calls Tryd.prog 5 #[.agg #[v 0, v 1, v 2, v 3]] W fun e w' => ∃ n : Int, e = .returned (.int .i64 n) ∧ 0 ≤ n ∧ n ≤ 1125899906842624 ∧ (n < 3000 → LaySmall l) ∧ Below W.heap.size W w') := fun W hW => size_any v l rs W (h.below hW) hB
  have IS : Hid (LaySmall l → ∀ W, Below w.heap.size w W → Calls Tryd.prog 18 #[.agg #[v 0, v 1, v 2, v 3]] W fun e w' => e = .returned (.bool (isB l)) ∧ Below W.heap.size W w') := fun hs W hW => is_any v l rs W (h.below hW) hcap (LayMid.of hs hB) (tabs_below hT hW)
  have NW : Hid (LaySmall l → isB l = true → ∀ W, Below w.heap.size w W → Calls Tryd.prog 6 #[.agg #[v 0, v 1, v 2, v 3]] W fun e w' => ∃ fb bo bp, e = .returned (.tuple #[.pointer (some ⟨fb, 0, none⟩), .int .i64 0]) ∧ FdAt w' W.heap.size fb bo bp (List.replicate l.sections.length false) (List.replicate l.points.length (restF 1)) ∧ Below W.heap.size W w') := fun hs hi W hW => fdNew_ok v l rs W (h.below hW) ⟨by have := hs.s.1; omega, by have := hs.p.1; omega, by have := hs.g.1; omega, by have := hs.r.1; omega, fun x hx => by
    have := hs.r.2 x.1 (by rw [← h.m]; exact List.mem_map.2 ⟨x, hx, rfl⟩)
    exact ⟨hcap x hx, by omega, by omega, by omega⟩, hcp.2.1, hcp.2.2⟩ hi (by have := bounds_of hi; omega)
  have BD := fun hi => bounds_of (l := l) hi
  have HV : Hid (v 0 = .slice o0 l.sections.length c0 ∧ v 1 = .slice o1 l.points.length c1 ∧ v 2 = .slice o2 l.signals.length c2 ∧ v 3 = .slice o3 rs.length c3) := ⟨e0, e1, e2, e3⟩
  rw [e0, e1, e2, e3] at S SZ IS NW ⊢
  have HE : Hid (ls.length = len) := e1'
  have HI : Hid (hasInts w oa ls) := hI
  clear h hB hcap hT e0 e1 e2 e3 hcp e1' hI
  generalize hs0 : l.sections.length = n0 at *
  generalize hs1 : l.points.length = n1 at *
  generalize hs2 : l.signals.length = n2 at *
  generalize hs3 : rs.length = n3 at *
  have HBD := (show Hid _ from BD)
  clear hs0 hs1 hs2 hs3 BD
  have hcc := S.cells
  rw [HV.out.1, HV.out.2.1, HV.out.2.2.1, HV.out.2.2.2] at hcc
  obtain ⟨q0, q1, q2, q3⟩ := hcc
  have HB0 : Hid (BoxAt w v (w.alloc (.cells #[.slice o0 n0 c0, .slice o1 n1 c1, .slice o2 n2 c2, .slice o3 n3 c3] 26))) := S
  have D0 := SZ.out _ S.1
  clear S
  go_enter Tryd.func4, Tryd.ntmps4
  go_wp2_with fail
  refine D0.mono ?_
  rintro e w1 ⟨n, rfl, hn0, hn1, hsm, hb1⟩
  have HB1 : Hid (BoxAt w v w1) := HB0.out.step hb1
  have hcc := HB1.out.cells
  rw [HV.out.1, HV.out.2.1, HV.out.2.2.1, HV.out.2.2.2] at hcc
  clear q0 q1 q2 q3 hb1 D0 HB0
  obtain ⟨q0, q1, q2, q3⟩ := hcc
  by_cases hbig : (3000 : Int) ≤ n
  · clear hsm
    go_wp2_with fail
    go_ret
    exact ⟨rfl, HB1.out.1⟩
  have HSM : Hid (LaySmall l) := hsm (by omega)
  clear hsm SZ
  have D := IS.out HSM.out w1 HB1.out.1
  generalize hib : isB l = b at *
  go_wp2_with fail
  refine D.mono ?_
  rintro e w2 ⟨rfl, hb2⟩
  have HB2 : Hid (BoxAt w v w2) := HB1.out.step hb2
  have hcc := HB2.out.cells
  rw [HV.out.1, HV.out.2.1, HV.out.2.2.1, HV.out.2.2.2] at hcc
  clear q0 q1 q2 q3 hb2 D HB1 IS
  obtain ⟨q0, q1, q2, q3⟩ := hcc
  cases b
  · go_wp2
    go_ret
    exact ⟨rfl, HB2.out.1⟩
  by_cases h60 : 60 < len
  · have hq : (60 : Int) < (len : Int) := by omega
    go_wp2
    go_ret
    exact ⟨rfl, HB2.out.1⟩
  have hq : ¬ (60 : Int) < (len : Int) := by omega
  have HL60 : Hid (len ≤ 60) := (by show len ≤ 60; omega)
  have HBN : Hid (1 ≤ n0 ∧ n0 ≤ 10 ∧ n1 ≤ 5) := HBD.out rfl
  have D := NW.out HSM.out rfl w2 HB2.out.1
  clear h60 m1
  go_wp2_with fail
  refine D.mono ?_
  rintro e w3 ⟨fb, bo, bp, rfl, hf, hb3⟩
  have HB3 : Hid (BoxAt w v w3) := HB2.out.step hb3
  have HF3 : Hid (FdAt w3 w.heap.size fb bo bp (List.replicate n0 false) (List.replicate n1 (restF 1))) := hf.lower HB2.out.1.size
  have hcc := HB3.out.cells
  rw [HV.out.1, HV.out.2.1, HV.out.2.2.1, HV.out.2.2.2] at hcc
  clear q0 q1 q2 q3 hb3 D hf NW
  obtain ⟨q0, q1, q2, q3⟩ := hcc
  have hmk := mk_bool n0 (by have := HBN.out; omega) w3
  generalize hch : w3.alloc (.cells ((List.replicate n0 false).map Value.bool).toArray 4) = w4 at hmk
  have HB34 : Hid (Below w3.heap.size w3 w4) := by show Below _ _ _; rw [← hch]; exact (Below.refl _ _).alloc (Nat.le_refl _) _
  have HR4 : Hid (w4.heap[w3.heap.size]? = some (.cells ((List.replicate n0 false).map Value.bool).toArray 4 (0, 0))) := by show _ = _; rw [← hch]; exact blk_new _ _
  have hlt3 := HF3.out.lt
  have HIN : Hid (Inv w w4 fb bo bp w3.heap.size (List.replicate n0 false) n1) := ⟨HF3.out.below HB34.out, HR4.out, HB3.out.1.trans (HB34.out.mono HB3.out.1.size), by omega, by omega, by omega, HB3.out.1.size⟩
  clear hlt3 hch
  have hn0i : n0 ≤ 10 := HBN.out.2.1
  go_wp2
  clear hmk q0 q1 q2 q3 hq
  generalize w3.heap.size = wb at *
  go_loopg [8, 9, 10, 11, 12] len (fun gk i a1 a2 a3 a4 wr => ∃ (k : Nat) (occ : List Bool), gk = len - k ∧ i = .int .i64 k ∧ k ≤ len ∧ occ.length = n0 ∧ Inv w wr fb bo bp wb occ n1)
  case atStart => exact ⟨0, List.replicate n0 false, rfl, rfl, by omega, by simp, HIN.out⟩
  case round =>
    obtain ⟨k, occ, rfl, rfl, hk, ho, hin⟩ := hrel
    have HO : Hid (occ.length = n0) := ho
    have HIV : Hid (Inv w wr fb bo bp wb occ n1) := hin
    have hL60 := HL60.out
    clear ho hin
    by_cases hlt : k < len
    · have hki : (k : Int) < (len : Int) := by omega
      obtain ⟨x, hxk⟩ : ∃ x, ls[k]? = some x := ⟨ls[k]'(by rw [HE.out]; exact hlt), List.getElem?_eq_getElem _⟩
      obtain ⟨b0, off, rfl, a0⟩ := HI.out k x hxk
      have d0 := (HIV.out.b.cell (p := ⟨b0, off + k, none⟩) (World.block_lt_of_cell? w _ a0)).trans a0
      clear hxk a0
      have D := train_any w.heap.size fb bo bp occ (List.replicate n1 (restF 1)) x wr HIV.out.f
      by_cases hx : 0 ≤ x ∧ x < (n0 : Nat)
      · obtain ⟨kx, rfl, hkx⟩ := nat_of hx
        obtain ⟨y, hy⟩ : ∃ y, occ[kx]? = some y := at_of (by rw [HO.out]; exact hkx)
        have HY : Hid (occ[kx]? = some y) := hy
        have hT : trainF occ (kx : Int) = (0, occ.set kx (!y)) := by
          rw [trainF, if_pos (by rw [HO.out]; exact hx), Int.toNat_natCast, getD_at hy]
        rw [hT] at D
        have hkxi : (kx : Int) < (n0 : Int) := by omega
        clear hT hx hy
        go_wp2_with fail
        clear d0
        refine D.mono ?_
        rintro e w5 ⟨rfl, hf, hcg⟩
        have HF5 : Hid (FdAt w5 w.heap.size fb bo bp (occ.set kx (!y)) (List.replicate n1 (restF 1))) := hf
        have HR5 : Hid (w5.heap[wb]? = some (.cells (occ.map Value.bool).toArray 4 (0, 0))) := hcg.blk HIV.out.r (fun hh => by rcases hh with e | e; exact HIV.out.n.2.1 e.symm; exact HIV.out.n.2.2.1 e.symm)
        have HB5 : Hid (Below w.heap.size w w5) := HIV.out.b.trans (hcg.below (fun j hj => foot_B HIV.out.f hj) HIV.out.b.size)
        clear D hf hcg
        have x0 := bool_cell HR5.out HY.out
        have x1 := froz2 HR5.out kx
        have HI6 : Hid (Inv w (w5.setCell ⟨wb, kx, none⟩ (.bool (!y))) fb bo bp wb (occ.set kx (!y)) n1) := Inv.put HF5.out HR5.out HB5.out HIV.out.n kx (!y) rfl
        have HOO : Hid ((occ.set kx (!y)).length = n0) := (List.length_set ..).trans HO.out
        generalize hch : w5.setCell ⟨wb, kx, none⟩ (.bool (!y)) = w6 at *
        generalize occ.set kx (!y) = occ' at *
        have D := fdIn_any w.heap.size fb bo bp occ' (List.replicate n1 (restF 1)) w6 HI6.out.f
        go_wp2_with fail
        clear x0 x1 hch
        refine D.mono ?_
        rintro e w7 ⟨u0, b, rfl, hu, -, -, hb7⟩
        rcases hu.2 with ⟨_, e0⟩ | ⟨g, cap', cur, rfl, _⟩
        · exact absurd e0 (by rw [HOO.out]; have := HBN.out; omega)
        have HU := (show Hid _ from hu)
        have HI7 : Hid (Inv w w7 fb bo bp wb occ' n1) := HI6.out.below hb7
        rw [HOO.out] at HU
        rw [List.length_replicate, HOO.out]
        clear D hu hb7
        generalize hch : w7.alloc (.cells #[.slice (some ⟨g, 0, none⟩) n0 cap', .slice (some ⟨b, 0, none⟩) n1 n1] 46) = w8
        have HB8 : Hid (Below w7.heap.size w7 w8) := by show Below _ _ _; rw [← hch]; exact (Below.refl _ _).alloc (Nat.le_refl _) _
        have HX8 : Hid (w8.heap[w7.heap.size]? = some (.cells #[.slice (some ⟨g, 0, none⟩) n0 cap', .slice (some ⟨b, 0, none⟩) n1 n1] 46 (0, 0))) := by show _ = _; rw [← hch]; exact blk_new _ _
        have HI8 : Hid (Inv w w8 fb bo bp wb occ' n1) := HI7.out.below HB8.out
        have HU8 := (show Hid _ from owns_below HU.out HB8.out)
        obtain ⟨y0, y1⟩ := cells2 HX8.out
        have HKI : Hid ((k : Int) < (len : Int)) := hki
        go_wp2
        clear hch y0 y1
        generalize w7.heap.size = bx at *
        go_loopg [12] n0 (fun gk i wr' => ∃ j : Nat, gk = n0 - j ∧ i = .int .i64 j ∧ j ≤ n0 ∧ Below w8.heap.size w8 wr')
        case atStart => exact ⟨0, rfl, rfl, by omega, Below.refl _ _⟩
        case round =>
          obtain ⟨j, rfl, rfl, hj, hbj⟩ := hrel
          have HBJ : Hid (Below w8.heap.size w8 wr) := hbj
          clear hbj
          by_cases hjl : j < n0
          · have hji : (j : Int) < (n0 : Int) := by omega
            obtain ⟨z, hz⟩ : ∃ z, occ'[j]? = some z := at_of (by rw [HOO.out]; exact hjl)
            obtain ⟨y0, y1⟩ := cells2 (blk_below HBJ.out HX8.out)
            have z0 := occ_cell (owns_below HU8.out HBJ.out) hz
            have z1 := bool_cell (blk_below HBJ.out HI8.out.r) hz
            clear hz
            have f0 := ext_cell y0
            have f2 := ext_cell z0
            have f3 := ext_cell z1
            haveI := ext_some wr
            have HBD : Hid (Below w8.heap.size w8 wr.drew) := HBJ.out.drew
            clear y0 y1 z0 z1
            cases z
            all_goals
              go_wp2_with fail
              refine wp_region_mix_seq (C := fun W => ∃ y : Ext wr, W = y.z) [0, 1, 2, 3, 4, 5, 6, 7, 8, 9] (by kernel_rfl) (by kernel_rfl) (by kernel_rfl) (by kernel_rfl) (by simp only [List.filterMap_cons, List.getElem?_toArray, List.getElem?_cons_zero, List.getElem?_cons_succ, List.filterMap_nil]; rfl) ⟨⟨_, (Below.refl _ _).drew⟩, rfl⟩ ?_
              (repeat (first | (with_reducible refine mix_read (by kernel_rfl) ?_; go_big_quiet_want; go_big_quiet_op; go_big_quiet_on; with_reducible refine wpQuiet_nil ?_) | (with_reducible refine mix_pass (by kernel_rfl) ?_; go_big_quiet_skip; with_reducible refine wpQuiet_nil ?_)))
              with_reducible refine mix_end ?_
              intro _
              clear f0 f2 f3
              go_wp2
              go_roundg (n0 - (j + 1))
              case rel => exact ⟨j + 1, rfl, by go_num, by omega, HBD.out⟩
              case measure => omega
          · have hji : ¬ (j : Int) < (n0 : Int) := by omega
            have hki' := HKI.out
            go_wp2
            go_roundg (len - (k + 1))
            case rel => exact ⟨k + 1, occ', rfl, by go_num, by omega, HOO.out, HI8.out.below HBJ.out⟩
            case measure => omega
      · have hT : trainF occ x = (5, occ) := by rw [trainF, if_neg (by rw [HO.out]; exact hx)]
        rw [hT] at D
        clear hT
        by_cases hx0 : x < 0
        · go_wp2_with fail
          clear d0
          refine D.mono ?_
          rintro e w5 ⟨rfl, hf, hcg⟩
          have HI5 : Hid (Inv w w5 fb bo bp wb occ n1) := ⟨hf, hcg.blk HIV.out.r (fun hh => by rcases hh with e | e; exact HIV.out.n.2.1 e.symm; exact HIV.out.n.2.2.1 e.symm), HIV.out.b.trans (hcg.below (fun j hj => foot_B HIV.out.f hj) HIV.out.b.size), HIV.out.n⟩
          clear D hf hcg
          go_wp2
          go_roundg (len - (k + 1))
          case rel => exact ⟨k + 1, occ, rfl, by go_num, by omega, HO.out, HI5.out⟩
          case measure => omega
        · have hx1 : (n0 : Int) ≤ x := by omega
          go_wp2_with fail
          clear d0
          refine D.mono ?_
          rintro e w5 ⟨rfl, hf, hcg⟩
          have HI5 : Hid (Inv w w5 fb bo bp wb occ n1) := ⟨hf, hcg.blk HIV.out.r (fun hh => by rcases hh with e | e; exact HIV.out.n.2.1 e.symm; exact HIV.out.n.2.2.1 e.symm), HIV.out.b.trans (hcg.below (fun j hj => foot_B HIV.out.f hj) HIV.out.b.size), HIV.out.n⟩
          clear D hf hcg
          go_wp2
          go_roundg (len - (k + 1))
          case rel => exact ⟨k + 1, occ, rfl, by go_num, by omega, HO.out, HI5.out⟩
          case measure => omega
    · have hki : ¬ (k : Int) < (len : Int) := by omega
      go_wp2_with fail
      refine (fdKnown_any _).mono ?_
      rintro e wk ⟨rfl, hbk⟩
      go_wp2
      go_ret
      exact ⟨rfl, HIV.out.b.trans (hbk.mono HIV.out.b.size)⟩

theorem own : ownKnob Tryd.prog.godebug = none := by kernel_rfl
theorem u8x : U8Extra Tryd.prog Tryd.lays260_ren := ⟨by kernel_rfl, by kernel_rfl, by kernel_rfl, by kernel_rfl, by kernel_rfl, by kernel_rfl, by kernel_rfl⟩
theorem accept_eq : (Rows.laid_unicode_utf8_acceptRanges : DataW Unit) = Lib.acceptData := by kernel_rfl
theorem first_eq : Rows.laid_unicode_utf8_first = Lib.firstData := Pinned.utf8First_eq
theorem tabs_of {W : World} (hL : laidMet Tryd.prog Rows.fieldTrainsRow.laid W) : Lib.Utf8Tabs 0 1 W :=
  utf8Tabs_of_readsT (U8Types.of260 Tryd.lays260) u8x (first_eq ▸ Lib.laidMet.reads hL (.tail _ (.head _))) (accept_eq ▸ Lib.laidMet.reads hL (.head _))

set_option maxRecDepth 100000 in
theorem lifted (os : Os) (started : os.Started) (H : Type) (enc : TypeId × Value → H) :
    ReturnsInHanded {} Tryd.checked os 4 .any (fun w args => (Rows.fieldTrainsSpec.pre enc Tryd.prog Tryd.f4 [] false w args ∧ laidMetH Tryd.prog Rows.fieldTrainsRow.laid w) ∧ sizedMet enc Tryd.prog Tryd.f4 (OpenSpec.ofChange Rows.fieldTrainsSpec) false w args)
      (Rows.fieldTrainsSpec.post enc Tryd.prog Tryd.f4 false true false false) := by
  refine returnsInHanded_of_change_and (C := Tryd.checked) (X := fun w _ => laidMetH Tryd.prog Rows.fieldTrainsRow.laid w) (fun _ _ _ hh h => h.of_heap hh) own started (by kernel_rfl) Tryd.func4
    (ChangeSpec.witness_shaped (enc := enc) (C := Tryd.checked) (os := os) (X := fun w _ => laidMetH Tryd.prog Rows.fieldTrainsRow.laid w) false (World.laidAll Tryd.prog os Rows.fieldTrainsRow.laid) #[.agg #[.slice none 0 0, .slice none 0 0, .slice none 0 0, .slice none 0 0], .slice none 0 0] 8 (World.laidAll_os _ _ _)
      (World.shaped_of_ZipB (by kernel_rfl) (by kernel_rfl)) (by kernel_rfl) (by kernel_rfl) (by kernel_rfl)
      (by rw [MakeChecks.laidMetH_plain _ _ _ (by kernel_rfl)]; exact laidMet_laidAll _ (by kernel_rfl) (by kernel_rfl))) ?_
  intro W base args ds gs before hval0 hW _ hsz0 hL _
  have hval : ∀ (j : Nat) t v, Tryd.f4.params[j]? = some t → args[j]? = some v → Value.okWide Tryd.prog W .any base t v := hval0
  have hsz : (DataW.weightsEach Tryd.prog (Tryd.f4.params.toList ++ Rows.fieldTrainsSpec.plain.varTypes Tryd.prog) (ds ++ gs)).all (· ≤ reachBytes) = true := hsz0
  have hW' := hW
  obtain ⟨p, q, hA0, hV, rfl, _, _⟩ := hW
  have hA : DataW.TrodAll enc Tryd.prog W 0 (fun _ => true) true Tryd.f4.params.toList args.toList ds p := hA0
  rw [Tryd.params4] at hA hval hsz
  obtain ⟨v0, vs0, d0, ds0, p0, q0, hargs, rfl, rfl, h0, r0⟩ := trodAll_cons hA
  obtain ⟨v1, vs1, d1, ds1, p1, q1, rfl, rfl, rfl, h1, r1⟩ := trodAll_cons r0
  obtain ⟨rfl, rfl, rfl⟩ := trodAll_nil r1
  obtain rfl : args = #[v0, v1] := by cases args; simp_all
  obtain ⟨rfl, rfl⟩ := trodVars_none hV
  have k0 := h0
  have lt0 : ∀ x ∈ p0, x.block < W.heap.size := by obtain ⟨m, hm⟩ := k0; exact DataW.trod_lt m _ _ _ hm
  have g0 := weights_at hsz (j := 0) (t := 26) rfl rfl
  obtain ⟨u0, l0, s0, rfl, y0, b0, c0, x0⟩ := open_layout_c (hval 0 26 v0 rfl rfl) h0 g0
  obtain ⟨a1, len1, cap1, rfl⟩ := okWide_slice Tryd.underlying40 (hval 1 40 v1 rfl rfl)
  have k1 := h1
  have lt1 : ∀ x ∈ p1, x.block < W.heap.size := by obtain ⟨m, hm⟩ := k1; exact DataW.trod_lt m _ _ _ hm
  obtain ⟨z1, e1, m1, s1⟩ : ∃ l : List Int, l.length = len1 ∧ len1 ≤ maxLen ∧ hasInts W a1 l := by
    obtain ⟨fuel, hf⟩ := h1
    rcases open_ints Tryd.underlying40 Tryd.underlying3 (by kernel_rfl) hf with ⟨hcs, _⟩ | ⟨x, l, c, ss, hcs, _, hl, hm, hz, _, hcell, _⟩
    · simp [Value.cells] at hcs
      obtain ⟨rfl, rfl, rfl⟩ := hcs
      exact ⟨[], rfl, by unfold maxLen; omega, fun j x hj => by simp at hj⟩
    · simp [Value.cells] at hcs
      obtain ⟨rfl, rfl, rfl⟩ := hcs
      have hz' : ss.length = cap1 := by simpa using hz
      have q := ints_of (len := len1) (by omega) hcell
      exact ⟨ss.take len1, q.1, by omega, q.2⟩
  clear hA0 hval0
  rw [MakeChecks.laidMetH_plain _ _ _ (by kernel_rfl)] at hL
  refine (walk W u0 l0 s0 y0 b0 c0 x0 a1 len1 cap1 z1 e1 m1 s1 (tabs_of hL)).mono fun e W' ⟨he, bel⟩ => ?_
  subst he
  exact ⟨_, rfl, _, _, _, [], _, [], hW', trodAll_mk1 (shut_bool Tryd.underlying4 _), (trodAll_cons_mk (Below.trod laidOut (by kernel_rfl) (of_decide_eq_true (by kernel_rfl)) k0 bel lt0) (trodAll_cons_mk (Below.trod laidOut (by kernel_rfl) (of_decide_eq_true (by kernel_rfl)) k1 bel lt1) trodAll_mk0)), rfl, bel.frame _, fun h => by cases h⟩

theorem over : Rows.fieldTrainsRow.holds Tryd.pinned (OpenSpec.ofChange Rows.fieldTrainsSpec) :=
  OpenClaim.holds_of_wide 4 Tryd.f4 rfl rfl rfl rfl rfl rfl rfl ⟨rfl, rfl, rfl, rfl, rfl⟩ rfl rfl rfl rfl rfl (by kernel_rfl) Tryd.func4 (by kernel_rfl)
    (of_decide_eq_true (by kernel_rfl)) (by unfold Func.isWrapper; first | (rw [if_pos (by decide +kernel)]; kernel_rfl) | (rw [if_neg (by decide +kernel)]; exact ⟨rfl, rfl⟩))
    (fun os started H enc _ => lifted os started H enc)

theorem card : Rows.FieldTrainsCardSaid :=
  Claim7.holds_tied_plain_at .later [] _ _ _ _ over (fun _ h => by cases h) (by kernel_rfl) (fun _ h => by cases h) fieldTrains_row_tie rfl ⟨rfl, rfl⟩ (by kernel_rfl) rfl
    (fun f fn hf hfn => by
      obtain rfl : f = 4 := Option.some.inj ((show Tryd.prog.funcNamed Rows.fieldTrainsRow.func = some 4 by kernel_rfl).symm.trans hf) |>.symm
      obtain rfl : fn = Tryd.f4 := (Option.some.inj (Tryd.func4.symm.trans hfn)).symm
      exact ⟨by kernel_rfl, fun j t ht => by
        rw [Tryd.params4] at ht
        have hm : t ∈ [26, 40] := by simpa using Array.mem_of_getElem? ht
        have hall : ([26, 40].all fun u => !Tryd.prog.wantsStandIn u) = true := by kernel_rfl
        exact (show Tryd.prog.wantsStandIn t = false by simpa using List.all_eq_true.1 hall t hm)⟩)
    (by kernel_rfl)

end Go.Proofs.YthmbpohebcnehaaDoor.fieldTrains
namespace Go.Proofs.YthmbpohebcnehaaDoor
theorem fieldTrains_holds : Rows.FieldTrainsCardSaid := fieldTrains.card
#print axioms fieldTrains_holds
end Go.Proofs.YthmbpohebcnehaaDoor
