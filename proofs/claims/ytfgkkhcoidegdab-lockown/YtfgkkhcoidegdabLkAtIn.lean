/-
  What the field tells, by the law's numbers: by a contract.
-/
import Derived.Test.YtfgkkhcoidegdabLkLine2
namespace Go.Proofs.Ytfgkkhcoidegdab
open Go.RowKit

def bitsF (n : Int) : List Bool := [decide (n % 2 = 1), decide (n / 2 % 2 = 1), decide (n / 4 % 2 = 1)]
theorem infoB : (Try.prog.info? 4).map (fun i => (i.zero, i.size, i.bytes)) = some (some (.bool false), 1, 1) := by kernel_rfl
theorem bit_all : ∀ (m : Fin 8) (k : Fin 3), (bitsF (m.1 : Int))[k.1]? = some (bits BinOp.and IntKind.i64 ((m.1 : Int) / 2 ^ k.1) 1 == 1) := by decide +kernel
theorem bit_at {n : Int} {k : Nat} (hn : 0 ≤ n ∧ n ≤ 7) (hk : k < 3) : ((bitsF n).take (k + 1)).flatMap bC = ((bitsF n).take k).flatMap bC ++ [.bool (bits BinOp.and IntKind.i64 (n / 2 ^ k) 1 == 1)] := by
  obtain ⟨m, rfl, hm⟩ := nat_of (n := 8) (i := n) ⟨hn.1, by omega⟩
  have := bit_all ⟨m, hm⟩ ⟨k, hk⟩
  simp only at this
  rw [List.take_add_one, this, List.flatMap_append]
  rfl

set_option maxRecDepth 1000000 in
set_option maxHeartbeats 8000000 in
theorem at_any (n m : Int) (w : World) (hn : 0 ≤ n ∧ n ≤ 7) : Calls Try.prog 7 #[.int .i64 n, .int .i64 m] w fun e w' => ∃ v, e = .returned (.agg #[v 0, v 1]) ∧ InNew w' v (bitsF n) [m] ∧ Below w.heap.size w w' := by
  obtain ⟨i0, hii, hz0, hz1, hz2⟩ := info_parts infoB
  generalize hch : ((w.alloc (.cells #[.slice none 0 0, .slice none 0 0] 36)).alloc (.cells #[.int .i64 m] 3)).alloc (.cells #[.slice none 0 0, .slice (some ⟨w.heap.size + 1, 0, none⟩) 1 1] 36) = w1
  have HB1 : Hid (Below w.heap.size w w1) := by show Below _ _ _; rw [← hch]; exact (by repeat' (with_reducible first | exact Below.refl _ _ | refine Below.drew ?_ | refine _root_.Go.below_drewN ?_ _ | refine Below.alloc ?_ ?_ _ | refine Below.setCell ?_ ?_ _ | exact Nat.le_refl _ | (simp; done) | (simp; omega)))
  have H0 : Hid (w1.heap[w.heap.size]? = some (.cells #[.slice none 0 0, .slice none 0 0] 36 (0, 0))) := by show _ = _; rw [← hch]; exact blk_old (blk_old (blk_new _ _))
  have H1 : Hid (w1.heap[w.heap.size + 1]? = some (.cells #[.int .i64 m] 3 (0, 0))) := by show _ = _; rw [← hch]; exact blk_old (blk_at1 _ _ _)
  have H2 : Hid (w1.heap[w.heap.size + 1 + 1]? = some (.cells #[.slice none 0 0, .slice (some ⟨w.heap.size + 1, 0, none⟩) 1 1] 36 (0, 0))) := by show _ = _; rw [← hch]; exact blk_at2 _ _ _ _
  have HN : Hid (0 ≤ n ∧ n ≤ 7) := hn
  go_enter Try.func7, Try.ntmps7
  go_wp2
  clear hch
  go_loopg [6] 3 (fun gk i wr => ∃ (k : Nat) (vo : Value), gk = 3 - k ∧ i = .int .i64 k ∧ k ≤ 3 ∧ wr.ownsRow w1.heap.size 4 1 vo k (((bitsF n).take k).flatMap bC) ∧ wr.heap[w.heap.size + 1 + 1]? = some (.cells #[vo, .slice (some ⟨w.heap.size + 1, 0, none⟩) 1 1] 36 (0, 0)) ∧ Chg (fun k => k = w.heap.size + 1 + 1) w1 wr)
  case atStart => exact ⟨0, _, rfl, rfl, by omega, World.ownsRow_nil _ _ _ _, H2.out, Chg.refl _ _⟩
  case round =>
    obtain ⟨k, vo, rfl, rfl, hk, hown, hbox, hcg⟩ := hrel
    have HOW : Hid (wr.ownsRow w1.heap.size 4 1 vo k (((bitsF n).take k).flatMap bC)) := hown
    have HBX : Hid (wr.heap[w.heap.size + 1 + 1]? = some (.cells #[vo, .slice (some ⟨w.heap.size + 1, 0, none⟩) 1 1] 36 (0, 0))) := hbox
    have HCG : Hid (Chg (fun k => k = w.heap.size + 1 + 1) w1 wr) := hcg
    obtain ⟨ov, cv, hvo⟩ := owns_slice HOW.out
    subst hvo
    clear hown hbox hcg
    by_cases hlt : k < 3
    · have hki : (k : Int) < 3 := by omega
      obtain ⟨⟨q0, q1⟩⟩ : (wr.cell? ⟨w.heap.size + 1 + 1, 0, none⟩ = some (.slice ov k cv) ∧ wr.cell? ⟨w.heap.size + 1 + 1, 1, none⟩ = some (.slice (some ⟨w.heap.size + 1, 0, none⟩) 1 1)) ∧ True := ⟨cells2 HBX.out, trivial⟩
      have HTK := bit_at HN.out hlt
      have HTKH : Hid (((bitsF n).take (k + 1)).flatMap bC = ((bitsF n).take k).flatMap bC ++ [.bool (bits BinOp.and IntKind.i64 (n / 2 ^ k) 1 == 1)]) := HTK
      have hown5 := HOW.out
      have hsz5 : w1.heap.size ≤ wr.heap.size := HCG.out.size
      have HSZ5 : Hid (w1.heap.size ≤ wr.heap.size) := hsz5
      have HQL : Hid (w.heap.size + 1 + 1 < w1.heap.size) := (Array.getElem?_eq_some_iff.1 H2.out).1
      clear HTK
      generalize ((bitsF n).take k).flatMap bC = cells at *
      go_wp2_with (at_builtin; refine wpList_append_own _ rfl _ _ 33 rfl w1.heap.size 4 i0 (.bool false) 1 1 Try.underlying33 hii hz0 hz1 hz2 rfl (by decide) _ _ _ rfl (hown5.alloc _) ⟨wr.heap.size, 0, none⟩ 1 1 [.bool (bits BinOp.and IntKind.i64 (n / 2 ^ k) 1 == 1)] rfl rfl (by intro j u hj; match j, hj with | 0, hj => (simp at hj; subst hj; simp [addr_add]) | j + 1, hj => simp at hj) (one_bool _) (by unfold maxLen; omega) (by omega) (by simp; omega) ?_)
      intro v' w6 hown6 hgrow _
      obtain ⟨ow, cw, rfl⟩ := owns_slice hown6
      have hsz6 := hgrow.size
      rw [World.size_alloc] at hsz6
      have keep6 : ∀ i, i < w1.heap.size → w6.heap[i]? = wr.heap[i]? := fun i hi => by
        rw [hgrow.block i (by simp; have := HSZ5.out; omega) (fun e => by have := (HOW.out.lt i e.symm).1; omega), Below.heap_alloc _ _ _ (by have := HSZ5.out; omega)]
      have HQ6 : Hid (w6.heap[w.heap.size + 1 + 1]? = some (.cells #[.slice ov k cv, .slice (some ⟨w.heap.size + 1, 0, none⟩) 1 1] 36 (0, 0))) := (keep6 _ HQL.out).trans HBX.out
      obtain ⟨s0, s1⟩ := cells2 HQ6.out
      have s2 := froz2 HQ6.out 0
      have HO6 : Hid (w6.ownsRow w1.heap.size 4 1 (.slice ow (k + 1) cw) (k + 1) (cells ++ [.bool (bits BinOp.and IntKind.i64 (n / 2 ^ k) 1 == 1)])) := hown6
      have HR6 : Hid ((w6.setCell ⟨w.heap.size + 1 + 1, 0, none⟩ (.slice ow (k + 1) cw)).ownsRow w1.heap.size 4 1 (.slice ow (k + 1) cw) (k + 1) (cells ++ [.bool (bits BinOp.and IntKind.i64 (n / 2 ^ k) 1 == 1)]) ∧ (w6.setCell ⟨w.heap.size + 1 + 1, 0, none⟩ (.slice ow (k + 1) cw)).heap[w.heap.size + 1 + 1]? = some (.cells #[.slice ow (k + 1) cw, .slice (some ⟨w.heap.size + 1, 0, none⟩) 1 1] 36 (0, 0)) ∧ Chg (fun k => k = w.heap.size + 1 + 1) w1 (w6.setCell ⟨w.heap.size + 1 + 1, 0, none⟩ (.slice ow (k + 1) cw))) := by
        refine ⟨owns_keep HO6.out fun i hi => Below.heap_setCell _ _ _ _ (by have := (HO6.out.lt i hi).1; have := HQL.out; show i ≠ w.heap.size + 1 + 1; omega), ?_, ?_⟩
        · rw [heap_put HQ6.out]
          rfl
        · have h5 := HCG.out
          refine ⟨hgrow.os.trans h5.os, hgrow.tape.trans h5.tape, hgrow.output.trans h5.output, ?_, fun i hi hf => ?_⟩
          · have := HSZ5.out
            simp only [World.setCell, Array.size_modify]
            omega
          · rw [Below.heap_setCell _ _ _ _ (by exact hf), keep6 i hi]
            exact h5.block i hi hf
      clear hown5 hown6 hgrow keep6 hsz5 hsz6 q0 q1
      go_wp2
      go_roundg (3 - (k + 1))
      case rel => exact ⟨k + 1, _, rfl, by go_num, by omega, by rw [HTKH.out]; exact HR6.out.1, HR6.out.2.1, HR6.out.2.2⟩
      case measure => omega
    · have hkn : k = 3 := by omega
      subst hkn
      have HQL : Hid (w.heap.size + 1 + 1 < w1.heap.size) := (Array.getElem?_eq_some_iff.1 H2.out).1
      obtain ⟨q0, q1⟩ := cells2 HBX.out
      have HM0 := HCG.out.blk H0.out (by show ¬ w.heap.size = w.heap.size + 1 + 1; omega)
      have HM1 : Hid (wr.heap[w.heap.size + 1]? = some (.cells #[.int .i64 m] 3 (0, 0))) := HCG.out.blk H1.out (by show ¬ w.heap.size + 1 = w.heap.size + 1 + 1; omega)
      obtain ⟨r0, r1⟩ := cells2 HM0
      have r2 := froz2 HM0 0
      have r3 := froz2 HM0 1
      go_wp2
      refine bodyPost_ret (v := .agg #[.slice ov 3 cv, .slice (some ⟨w.heap.size + 1, 0, none⟩) 1 1]) (by simp [results, Try.results7, go_sem, r0, r1]) rfl ⟨(fun i => match i with | 0 => .slice ov 3 cv | _ => .slice (some ⟨w.heap.size + 1, 0, none⟩) 1 1), rfl, ?_, ?_⟩
      · have oth : ∀ k, k ≠ w.heap.size → ((wr.setCell ⟨w.heap.size, 0, none⟩ (.slice ov 3 cv)).setCell ⟨w.heap.size, 1, none⟩ (.slice (some ⟨w.heap.size + 1, 0, none⟩) 1 1)).heap[k]? = wr.heap[k]? := fun k hk => by
          rw [Below.heap_setCell _ _ _ _ (by exact hk), Below.heap_setCell _ _ _ _ (by exact hk)]
        have ho := HOW.out
        rw [List.take_of_length_le (by simp [bitsF])] at ho
        have ho2 := owns_keep (w' := (wr.setCell ⟨w.heap.size, 0, none⟩ (.slice ov 3 cv)).setCell ⟨w.heap.size, 1, none⟩ (.slice (some ⟨w.heap.size + 1, 0, none⟩) 1 1)) ho fun k hk => oth k (by have := (ho.lt k hk).1; have := HQL.out; omega)
        have hm2 := (oth (w.heap.size + 1) (by omega)).trans HM1.out
        intro W' hW
        refine ⟨?_, ?_⟩
        · exact rowAt_of_owns (l := bitsF n) (fun _ => rfl) (hW.owns ho2 (by decide))
        · exact row_blk (cs := iC) (fun _ => rfl) [m] (hW.blk hm2 (by decide)) rfl
      · have hbl := HB1.out.trans (HCG.out.below (fun k (hk : k = w.heap.size + 1 + 1) => by omega) HB1.out.size)
        exact (hbl.setCell (Nat.le_refl _) _).setCell (Nat.le_refl _) _
end Go.Proofs.Ytfgkkhcoidegdab
