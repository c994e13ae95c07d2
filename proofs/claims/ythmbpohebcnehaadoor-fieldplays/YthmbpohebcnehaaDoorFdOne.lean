/-
  The law's layout of a section and some points in it: by a contract.
-/
import Derived.Test.YthmbpohebcnehaaDoorOwBase
namespace Go.Proofs.YthmbpohebcnehaaDoor
open Go.RowKit

def nmP (i : Nat) : ByteArray := ⟨([UInt8.ofNat (112 + i)] : List UInt8).toArray⟩
def onePts (n : Nat) : List (ByteArray × Int) := (List.range n).map fun i => (nmP i, 0)
def oneLay (n : Nat) : Lay := ⟨[⟨#[97]⟩], onePts n, [⟨#[115]⟩], []⟩
theorem onePts_len (n : Nat) : (onePts n).length = n := by simp [onePts]
theorem onePts_next (k : Nat) : (onePts (k + 1)).flatMap pC = (onePts k).flatMap pC ++ [.string (nmP k), .int .i64 0] := by
  simp [onePts, List.range_succ, pC]
theorem infoPnt : (Tryd.prog.info? 55).map (fun i => (i.zero, i.size, i.bytes)) = some (some (.agg #[.string ⟨#[]⟩, .int .i64 0]), 2, 24) := by kernel_rfl
theorem conv_p (w : World) (k : Nat) (hk : k < 100) : (convert 74 9 (.slice (some ⟨w.heap.size, 0, none⟩) 1 1)).run Tryd.prog (w.alloc (.cells #[.int .u8 (112 + (k : Int))] 5)) = .ok (.string (nmP k)) (w.alloc (.cells #[.int .u8 (112 + (k : Int))] 5)) := by
  have hb := cells1 (blk_new w (.cells #[.int .u8 (112 + (k : Int))] 5))
  have e0 : ((UInt8.ofNat (112 + k)).toNat : Int) = 112 + (k : Int) := by rw [UInt8.toNat_ofNat']; omega
  refine run_convert_bytes_back _ 74 9 5 ⟨w.heap.size, 0, none⟩ 1 [UInt8.ofNat (112 + k)] Tryd.underlying74 Tryd.underlying5 Tryd.underlying9 (fun j hj => ?_)
  rw [addr_add]
  match j, hj with
  | 0, _ =>
    rw [hb]
    exact congrArg (fun z => some (Value.int .u8 z)) e0.symm
  | j + 1, hj => exact absurd hj (by show ¬ j + 1 < 1; omega)
theorem two_pnt (a : ByteArray) (b : Int) : ∀ u ∈ [Value.string a, .int .i64 b], u.oneCell' = true := by
  intro u hu
  simp at hu
  rcases hu with rfl | rfl <;> rfl

set_option maxRecDepth 1000000 in
set_option maxHeartbeats 8000000 in
theorem one_any (n : Nat) (w : World) (hn : n ≤ 50) : Calls Tryd.prog 25 #[.int .i64 (n : Int)] w fun e w' => ∃ v, e = .returned (.agg #[v 0, v 1, v 2, v 3]) ∧ LayRd w' v (oneLay n) [] ∧ Few (oneLay n) [] v ∧ Below w.heap.size w w' := by
  obtain ⟨i0, hii, hz0, hz1, hz2⟩ := info_parts infoPnt
  generalize hch : (((w.alloc (.cells #[.slice none 0 0, .slice none 0 0, .slice none 0 0, .slice none 0 0] 26)).alloc (.cells #[.string ⟨#[97]⟩] 9)).alloc (.cells #[.string ⟨#[115]⟩] 9)).alloc (.cells #[.slice (some ⟨w.heap.size + 1, 0, none⟩) 1 1, .slice none 0 0, .slice (some ⟨w.heap.size + 1 + 1, 0, none⟩) 1 1, .slice none 0 0] 26) = w1
  have HB1 : Hid (Below w.heap.size w w1) := by show Below _ _ _; rw [← hch]; exact (by repeat' (with_reducible first | exact Below.refl _ _ | refine Below.drew ?_ | refine _root_.Go.below_drewN ?_ _ | refine Below.alloc ?_ ?_ _ | refine Below.setCell ?_ ?_ _ | exact Nat.le_refl _ | (simp; done) | (simp; omega)))
  have H0 : Hid (w1.heap[w.heap.size]? = some (.cells #[.slice none 0 0, .slice none 0 0, .slice none 0 0, .slice none 0 0] 26 (0, 0))) := by show _ = _; rw [← hch]; exact blk_old (blk_old (blk_old (blk_new _ _)))
  have H1 : Hid (w1.heap[w.heap.size + 1]? = some (.cells #[.string ⟨#[97]⟩] 9 (0, 0))) := by show _ = _; rw [← hch]; exact blk_old (blk_old (blk_at1 _ _ _))
  have H2 : Hid (w1.heap[w.heap.size + 1 + 1]? = some (.cells #[.string ⟨#[115]⟩] 9 (0, 0))) := by show _ = _; rw [← hch]; exact blk_old (blk_at2 _ _ _ _)
  have H3 : Hid (w1.heap[w.heap.size + 1 + 1 + 1]? = some (.cells #[.slice (some ⟨w.heap.size + 1, 0, none⟩) 1 1, .slice none 0 0, .slice (some ⟨w.heap.size + 1 + 1, 0, none⟩) 1 1, .slice none 0 0] 26 (0, 0))) := by show _ = _; rw [← hch]; exact blk_at3 _ _ _ _ _
  have HC := (show Hid (_ = w1) from hch)
  clear hch
  go_enter Tryd.func25, Tryd.ntmps25
  go_wp2
  rw [HC.out]
  clear HC
  go_loopg [4] n (fun gk i wr => ∃ (k : Nat) (vo : Value), gk = n - k ∧ i = .int .i64 k ∧ k ≤ n ∧ wr.ownsRow w1.heap.size 55 2 vo k ((onePts k).flatMap pC) ∧ wr.heap[w.heap.size + 1 + 1 + 1]? = some (.cells #[.slice (some ⟨w.heap.size + 1, 0, none⟩) 1 1, vo, .slice (some ⟨w.heap.size + 1 + 1, 0, none⟩) 1 1, .slice none 0 0] 26 (0, 0)) ∧ Chg (fun k => k = w.heap.size + 1 + 1 + 1) w1 wr)
  case atStart => exact ⟨0, _, rfl, rfl, by omega, World.ownsRow_nil _ _ _ _, H3.out, Chg.refl _ _⟩
  case round =>
    obtain ⟨k, vo, rfl, rfl, hk, hown, hbox, hcg⟩ := hrel
    have HOW : Hid (wr.ownsRow w1.heap.size 55 2 vo k ((onePts k).flatMap pC)) := hown
    have HBX : Hid (wr.heap[w.heap.size + 1 + 1 + 1]? = some (.cells #[.slice (some ⟨w.heap.size + 1, 0, none⟩) 1 1, vo, .slice (some ⟨w.heap.size + 1 + 1, 0, none⟩) 1 1, .slice none 0 0] 26 (0, 0))) := hbox
    have HCG : Hid (Chg (fun k => k = w.heap.size + 1 + 1 + 1) w1 wr) := hcg
    obtain ⟨ov, cv, hvo⟩ := owns_slice HOW.out
    subst hvo
    clear hown hbox hcg
    by_cases hlt : k < n
    · have hki : (k : Int) < (n : Int) := by omega
      obtain ⟨⟨q0, q1, q2, q3⟩, _⟩ := cells4 HBX.out
      have HTKH : Hid ((onePts (k + 1)).flatMap pC = (onePts k).flatMap pC ++ [.string (nmP k), .int .i64 0]) := onePts_next k
      have hown5 := HOW.out
      have hsz5 : w1.heap.size ≤ wr.heap.size := HCG.out.size
      have HSZ5 : Hid (w1.heap.size ≤ wr.heap.size) := hsz5
      have HQL : Hid (w.heap.size + 1 + 1 + 1 < w1.heap.size) := (Array.getElem?_eq_some_iff.1 H3.out).1
      have hcv := conv_p wr k (by omega)
      generalize nmP k = nm at *
      generalize (onePts k).flatMap pC = cells at *
      go_wp2_with (at_builtin; refine wpList_append_own _ rfl _ _ 23 rfl w1.heap.size 55 i0 (.agg #[.string ⟨#[]⟩, .int .i64 0]) 2 24 Tryd.underlying23 hii hz0 hz1 hz2 rfl (by decide) _ _ _ rfl ((hown5.alloc _).alloc _) ⟨wr.heap.size + 1, 0, none⟩ 1 1 [.string nm, .int .i64 0] rfl rfl (by intro j u hj; match j, hj with | 0, hj => (simp at hj; subst hj; simp [addr_add]) | 1, hj => (simp at hj; subst hj; simp [addr_add]) | j + 2, hj => simp at hj) (two_pnt _ _) (by unfold maxLen; omega) (by omega) (by simp; omega) ?_)
      intro v' w6 hown6 hgrow _
      obtain ⟨ow, cw, rfl⟩ := owns_slice hown6
      have hsz6 := hgrow.size
      rw [World.size_alloc, World.size_alloc] at hsz6
      have keep6 : ∀ i, i < w1.heap.size → w6.heap[i]? = wr.heap[i]? := fun i hi => by
        rw [hgrow.block i (by simp; have := HSZ5.out; omega) (fun e => by have := (HOW.out.lt i e.symm).1; omega), Below.heap_alloc _ _ _ (by have := HSZ5.out; simp; omega), Below.heap_alloc _ _ _ (by have := HSZ5.out; omega)]
      have HQ6 : Hid (w6.heap[w.heap.size + 1 + 1 + 1]? = some (.cells #[.slice (some ⟨w.heap.size + 1, 0, none⟩) 1 1, .slice ov k cv, .slice (some ⟨w.heap.size + 1 + 1, 0, none⟩) 1 1, .slice none 0 0] 26 (0, 0))) := (keep6 _ HQL.out).trans HBX.out
      obtain ⟨⟨s0, s1, s2, s3⟩, _⟩ := cells4 HQ6.out
      have s4 := froz2 HQ6.out 1
      have HO6 : Hid (w6.ownsRow w1.heap.size 55 2 (.slice ow (k + 1) cw) (k + 1) (cells ++ [.string nm, .int .i64 0])) := hown6
      have HR6 : Hid ((w6.setCell ⟨w.heap.size + 1 + 1 + 1, 1, none⟩ (.slice ow (k + 1) cw)).ownsRow w1.heap.size 55 2 (.slice ow (k + 1) cw) (k + 1) (cells ++ [.string nm, .int .i64 0]) ∧ (w6.setCell ⟨w.heap.size + 1 + 1 + 1, 1, none⟩ (.slice ow (k + 1) cw)).heap[w.heap.size + 1 + 1 + 1]? = some (.cells #[.slice (some ⟨w.heap.size + 1, 0, none⟩) 1 1, .slice ow (k + 1) cw, .slice (some ⟨w.heap.size + 1 + 1, 0, none⟩) 1 1, .slice none 0 0] 26 (0, 0)) ∧ Chg (fun k => k = w.heap.size + 1 + 1 + 1) w1 (w6.setCell ⟨w.heap.size + 1 + 1 + 1, 1, none⟩ (.slice ow (k + 1) cw))) := by
        refine ⟨owns_keep HO6.out fun i hi => Below.heap_setCell _ _ _ _ (by have := (HO6.out.lt i hi).1; have := HQL.out; show i ≠ w.heap.size + 1 + 1 + 1; omega), ?_, ?_⟩
        · rw [heap_put HQ6.out]
          rfl
        · have h5 := HCG.out
          refine ⟨hgrow.os.trans h5.os, hgrow.tape.trans h5.tape, hgrow.output.trans h5.output, ?_, fun i hi hf => ?_⟩
          · have := HSZ5.out
            simp only [World.setCell, Array.size_modify]
            omega
          · rw [Below.heap_setCell _ _ _ _ (by exact hf), keep6 i hi]
            exact h5.block i hi hf
      clear hown5 hown6 hgrow keep6 hsz5 hsz6 q0 q1 q2 q3 hcv
      go_wp2
      go_roundg (n - (k + 1))
      case rel => exact ⟨k + 1, _, rfl, by go_num, by omega, by rw [HTKH.out]; exact HR6.out.1, HR6.out.2.1, HR6.out.2.2⟩
      case measure => omega
    · have hkn : k = n := by omega
      subst hkn
      have HQL : Hid (w.heap.size + 1 + 1 + 1 < w1.heap.size) := (Array.getElem?_eq_some_iff.1 H3.out).1
      obtain ⟨⟨q0, q1, q2, q3⟩, _⟩ := cells4 HBX.out
      have HM0 := HCG.out.blk H0.out (by show ¬ w.heap.size = w.heap.size + 1 + 1 + 1; omega)
      have HM1 : Hid (wr.heap[w.heap.size + 1]? = some (.cells #[.string ⟨#[97]⟩] 9 (0, 0))) := HCG.out.blk H1.out (by show ¬ w.heap.size + 1 = w.heap.size + 1 + 1 + 1; omega)
      have HM2 : Hid (wr.heap[w.heap.size + 1 + 1]? = some (.cells #[.string ⟨#[115]⟩] 9 (0, 0))) := HCG.out.blk H2.out (by show ¬ w.heap.size + 1 + 1 = w.heap.size + 1 + 1 + 1; omega)
      obtain ⟨⟨r0, r1, r2, r3⟩, _⟩ := cells4 HM0
      have t0 := froz2 HM0 0
      have t1 := froz2 HM0 1
      have t2 := froz2 HM0 2
      have t3 := froz2 HM0 3
      go_wp2
      refine bodyPost_ret (v := .agg #[.slice (some ⟨w.heap.size + 1, 0, none⟩) 1 1, .slice ov k cv, .slice (some ⟨w.heap.size + 1 + 1, 0, none⟩) 1 1, .slice none 0 0]) (by simp [results, Tryd.results25, go_sem, r0, r1, r2, r3]) rfl ⟨v4 (.slice (some ⟨w.heap.size + 1, 0, none⟩) 1 1) (.slice ov k cv) (.slice (some ⟨w.heap.size + 1 + 1, 0, none⟩) 1 1) (.slice none 0 0), rfl, ?_, ?_, ?_⟩
      · have oth : ∀ i, i ≠ w.heap.size → ((((wr.setCell ⟨w.heap.size, 0, none⟩ (.slice (some ⟨w.heap.size + 1, 0, none⟩) 1 1)).setCell ⟨w.heap.size, 1, none⟩ (.slice ov k cv)).setCell ⟨w.heap.size, 2, none⟩ (.slice (some ⟨w.heap.size + 1 + 1, 0, none⟩) 1 1)).setCell ⟨w.heap.size, 3, none⟩ (.slice none 0 0)).heap[i]? = wr.heap[i]? := fun i hi => by
          rw [Below.heap_setCell _ _ _ _ (by exact hi), Below.heap_setCell _ _ _ _ (by exact hi), Below.heap_setCell _ _ _ _ (by exact hi), Below.heap_setCell _ _ _ _ (by exact hi)]
        have ho2 := owns_keep (w' := (((wr.setCell ⟨w.heap.size, 0, none⟩ (.slice (some ⟨w.heap.size + 1, 0, none⟩) 1 1)).setCell ⟨w.heap.size, 1, none⟩ (.slice ov k cv)).setCell ⟨w.heap.size, 2, none⟩ (.slice (some ⟨w.heap.size + 1 + 1, 0, none⟩) 1 1)).setCell ⟨w.heap.size, 3, none⟩ (.slice none 0 0)) HOW.out fun i hi => oth i (by have := (HOW.out.lt i hi).1; have := HQL.out; omega)
        refine ⟨row_blk (cs := sC) (fun _ => rfl) [⟨#[97]⟩] ((oth _ (by omega)).trans HM1.out) rfl, ?_, row_blk (cs := sC) (fun _ => rfl) [⟨#[115]⟩] ((oth _ (by omega)).trans HM2.out) rfl, rowAt.nil _ _ _, rfl, fun x hx => by simp at hx⟩
        refine rowAt_of_owns (e := 55) (base := w1.heap.size) (l := onePts k) (fun _ => rfl) ?_
        rw [onePts_len]
        exact ho2
      · exact ⟨by simp [oneLay, onePts_len]; omega, fun x hx => by simp at hx, cap_of (Nat.le_refl _), cap_of (Nat.le_refl _)⟩
      · have hbl := HB1.out.trans (HCG.out.below (fun k (hk : k = w.heap.size + 1 + 1 + 1) => by omega) HB1.out.size)
        exact (((hbl.setCell (Nat.le_refl _) _).setCell (Nat.le_refl _) _).setCell (Nat.le_refl _) _).setCell (Nat.le_refl _) _
end Go.Proofs.YthmbpohebcnehaaDoor
