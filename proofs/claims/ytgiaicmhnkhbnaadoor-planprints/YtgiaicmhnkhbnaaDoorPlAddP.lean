/-
  addPoint (package plan), by a contract.
-/
import Derived.Test.YtgiaicmhnkhbnaaDoorPlAdd
import Derived.Deep.RegionWith
namespace Go.Proofs.YtgiaicmhnkhbnaaDoor
open Go.RowKit

theorem infoP : (Tryd.prog.info? 33).map (fun i => (i.zero, i.size, i.bytes)) = some (some (.agg #[.string ⟨#[]⟩, .int .i64 0]), 2, 24) := by kernel_rfl
theorem RdIn.drew {w : World} {R : Nat} {r : Rd} (h : RdIn w R r) : RdIn w.drew R r := h.keep fun _ _ => rfl

set_option maxRecDepth 1000000 in
set_option maxHeartbeats 4000000 in
theorem addPoint_any {B L : Nat} (R : Nat) (r : Rd) (l : Lay) (w0 w : World) (h : LayIn w0 B L l) (hb : Below w0.heap.size w0 w) (hR : w0.heap.size ≤ R) (hrd : RdIn w R r) :
    Calls Tryd.prog 47 #[.pointer (some ⟨L, 0, none⟩), .pointer (some ⟨R, 0, none⟩)] w fun e w' => e = .returned (.int .i64 (addPointP l r).1) ∧
      ((addPointP l r).1 = 0 → LayIn w' B L (addPointP l r).2) ∧ Below B w0 w' := by
  obtain ⟨ok, v, rs, hm, h⟩ := h
  have hs10 := ok.s
  have hp5 := ok.p
  have HOK : Hid (LayOk l) := ok
  obtain ⟨i0, hii, hz0, hz1, hz2⟩ := info_parts infoP
  have HL4 : Hid (L4 w0 B L v (nOf l) (csOf l rs) (fun W => ∀ x ∈ rs, RtAt W x)) := h
  have HM : Hid (rs.map (·.1) = l.routes) := hm
  have hB : B ≤ w0.heap.size := by have := h.base; have := h.lt; omega
  obtain ⟨oa, cap, hv0⟩ := own_slice (h.own 0 (by omega))
  obtain ⟨ob, capb, hv1⟩ := own_slice (h.own 1 (by omega))
  have HCI : Hid (∀ W, Below w0.heap.size w0 W → (W.cell? ⟨L, 0, none⟩ = some (.slice oa l.sections.length cap) ∧ W.cell? ⟨L, 1, none⟩ = some (.slice ob l.points.length capb)) ∧ W.frozen? ⟨L, 1, none⟩ = false) := fun W hW => by
    have q := (h.below hW).cells
    rw [hv0, hv1] at q
    exact ⟨⟨q.1.1, q.1.2.1⟩, q.2.2.1⟩
  have HRW : Hid (∀ W, Below w0.heap.size w0 W → rowAt W (.slice oa l.sections.length cap) 1 sC l.sections ∧ rowAt W (.slice ob l.points.length capb) 2 pC l.points) := fun W hW => by
    have q := (h.below hW).rd hm
    have q1 := q.s
    have q2 := q.p
    rw [hv0] at q1
    rw [hv1] at q2
    exact ⟨q1, q2⟩
  have HV1 : Hid (v 1 = .slice ob l.points.length capb) := hv1
  have HRD : Hid (RdIn w R r) := hrd
  have HB : Hid (Below w0.heap.size w0 w) := hb
  have HU : Hid (addPointP l r = if (rEnd (rName (rWord kIn (rName r).2)).2).2 ≠ 0 then ((rEnd (rName (rWord kIn (rName r).2)).2).2, l) else if pointAt l (rName r).1 ≠ -1 then (4, l) else if idx l.sections (rName (rWord kIn (rName r).2)).1 = -1 then (5, l) else if 5 ≤ l.points.length then (6, l)
      else (0, { l with points := l.points ++ [((rName r).1, idx l.sections (rName (rWord kIn (rName r).2)).1)] })) := rfl
  clear h hrd hb hv0 hv1 hm ok
  generalize addPointP l r = ans at *
  have N1 := fun W => name_any R r W
  generalize rName r = q1 at *
  obtain ⟨x, q1⟩ := q1
  simp only at *
  have D1 : Hid (∀ W, RdIn W R r → Calls Tryd.prog 56 #[.pointer (some ⟨R, 0, none⟩)] W fun en w' => en = .returned (.string x) ∧ RdIn w' R q1 ∧ W.grownBy w' (some R)) := N1
  have N2 := fun W => word_any R kIn q1 W
  generalize rWord kIn q1 = q2 at *
  have D2 : Hid (∀ W, RdIn W R q1 → Calls Tryd.prog 59 #[.pointer (some ⟨R, 0, none⟩), .string ⟨#[105, 110]⟩] W fun en w' => en = .returned (.tuple #[]) ∧ RdIn w' R q2 ∧ W.grownBy w' (some R)) := N2
  have N3 := fun W => name_any R q2 W
  generalize rName q2 = q3 at *
  obtain ⟨y, q3⟩ := q3
  simp only at *
  have D3 : Hid (∀ W, RdIn W R q2 → Calls Tryd.prog 56 #[.pointer (some ⟨R, 0, none⟩)] W fun en w' => en = .returned (.string y) ∧ RdIn w' R q3 ∧ W.grownBy w' (some R)) := N3
  have N4 := fun W => end_any R q3 W
  generalize rEnd q3 = q4 at *
  obtain ⟨ws4, f4⟩ := q4
  simp only at *
  have D4 : Hid (∀ W, RdIn W R q3 → Calls Tryd.prog 57 #[.pointer (some ⟨R, 0, none⟩)] W fun en w' => en = .returned (.tuple #[]) ∧ RdIn w' R (ws4, f4) ∧ W.grownBy w' (some R)) := N4
  have N5 := fun W h => index_any (.slice oa l.sections.length cap) l.sections y W h (by omega)
  have N6 := fun W hL h => pointAt_any L (.slice ob l.points.length capb) l.points x W hL h (by omega)
  have HSG := idx_ge l.sections y
  have HPG := idx_ge (l.points.map (·.1)) x
  have HPA : Hid (pointAt l x = idx (l.points.map (·.1)) x) := rfl
  rw [HPA.out] at HU
  clear HPA
  generalize idx l.sections y = si at *
  generalize idx (l.points.map (·.1)) x = pi at *
  have HNS : Hid (∃ a, a = l.sections.length) := ⟨_, rfl⟩
  generalize hns : l.sections.length = ns at *
  generalize hnp : l.points.length = np at *
  have HNP : Hid (l.points.length = np) := hnp
  have D5 : Hid (∀ W, rowAt W (.slice oa ns cap) 1 sC l.sections → Calls Tryd.prog 60 #[.slice oa ns cap, .string y] W fun e w' => e = .returned (.int .i64 si) ∧ w' = W) := N5
  have D6 : Hid (∀ W, W.cell? ⟨L, 1, none⟩ = some (.slice ob np capb) → rowAt W (.slice ob np capb) 2 pC l.points → Calls Tryd.prog 61 #[.pointer (some ⟨L, 0, none⟩), .string x] W fun e w' => e = .returned (.int .i64 pi) ∧ Below W.heap.size W w') := N6
  clear N1 N2 N3 N4 N5 N6 hns hnp HNS
  go_enter Tryd.func47, Tryd.ntmps47
  go_wp2_with fail
  refine (D1.out _ HRD.out).mono ?_
  rintro e w1 ⟨rfl, h1, g1⟩
  go_wp2_with fail
  refine (D2.out _ h1).mono ?_
  rintro e w2 ⟨rfl, h2, g2⟩
  have HB2 : Hid (Below w0.heap.size w0 w2) := below_read (below_read HB.out g1 hR) g2 hR
  have HR2 : Hid (RdIn w2.drew R q2) := h2.drew
  obtain ⟨⟨c0, c1⟩, k1⟩ := HCI.out _ HB2.out
  clear h1 h2 g1 g2
  go_wp2_with fail
  go_region_with (first
    | (go_at_call 56; refine (D3.out _ HR2.out).mono ?_; rintro e w3 ⟨rfl, h3, g3⟩; have HB3 : Hid (Below w0.heap.size w0 w3) := below_read HB2.out.drew g3 hR; obtain ⟨⟨m0, m1⟩, m2⟩ := HCI.out _ HB3.out)
    | (go_at_call 60; refine (D5.out _ (HRW.out _ HB3.out).1).mono ?_; rintro e w4 ⟨rfl, hw4⟩; obtain rfl := hw4.symm))
  all_goals
    go_wp2_with fail
    refine (D4.out _ h3).mono ?_
    rintro e w5 ⟨rfl, h5, g5⟩
    have HB5 : Hid (Below w0.heap.size w0 w5) := below_read HB3.out g5 hR
    obtain ⟨n1, n2⟩ := h5.fault
    simp only at n1
    clear h3 g3 g5 h5 m0 m1 m2 c0 c1 k1
    obtain ⟨⟨m0, m1⟩, m2⟩ := HCI.out _ HB5.out
    by_cases hf : f4 = 0
    · subst hf
      rw [if_neg (by simp)] at HU
      go_wp2_with fail
      refine (D6.out _ m1 (HRW.out _ HB5.out).2).mono ?_
      rintro e w6 ⟨rfl, hb6⟩
      have HB6 : Hid (Below w0.heap.size w0 w6) := HB5.out.trans (hb6.mono HB5.out.size)
      clear hb6 m0 m1 m2 n1 n2
      obtain ⟨⟨m0, m1⟩, m2⟩ := HCI.out _ HB6.out
      by_cases hpi : pi = -1
      · have ep : (pi != -1) = false := by rw [bne, hpi]; rfl
        rw [if_neg (by simp [hpi])] at HU
        clear hpi HPG
        by_cases hsi : si = -1
        · have es : (si == -1) = true := by rw [hsi]; rfl
          rw [if_pos hsi] at HU
          clear hsi HSG
          go_wp2
          go_ret
          exact ⟨by rw [HU.out]; rfl, fun e => by rw [HU.out] at e; simp at e, HB6.out.mono hB⟩
        · have es : (si == -1) = false := by simpa using hsi
          rw [if_neg hsi] at HU
          clear hsi
          by_cases h5 : 5 ≤ np
          · have e5 : (5 : Int) ≤ (np : Int) := by omega
            rw [if_pos h5] at HU
            go_wp2
            go_ret
            exact ⟨by rw [HU.out]; rfl, fun e => by rw [HU.out] at e; simp at e, HB6.out.mono hB⟩
          · have e5 : ¬ (5 : Int) ≤ (np : Int) := by omega
            rw [if_neg h5] at HU
            have hsz6 := HB6.out.size
            have hown : w6.ownsRow B 33 2 (.slice ob np capb) np (l.points.flatMap pC) := by
              have q := (HL4.out.below HB6.out).own 1 (by omega)
              rw [HV1.out, show nOf l 1 = np from HNP.out] at q
              exact q
            have HOWN : Hid (w6.ownsRow B 33 2 (.slice ob np capb) np (l.points.flatMap pC)) := hown
            go_wp2_with (at_builtin; refine wpList_append_own_at _ rfl _ _ 23 rfl B 33 i0 (.agg #[.string ⟨#[]⟩, .int .i64 0]) 2 24 Tryd.underlying23 hii hz0 hz1 hz2 rfl (by decide) _ _ _ rfl (hown.alloc _) ⟨w6.heap.size, 0, none⟩ 1 1 [.string x, .int .i64 si] rfl rfl (cell_two_new _ _ _ _) (two_one _ _) (by unfold maxLen; omega) (by omega) (by simp; omega) ?_)
            intro v' w7 hown7 hgrow _ hat
            have hL4 := HL4.out.below HB6.out
            have hown8 : w7.ownsRow B (eOf 1) (szOf 1) v' (np + 1) (l.points.flatMap pC ++ [.string x, .int .i64 si]) := hown7
            have hne : (v 1).ownBlock ≠ some L := HL4.out.noL 1 (by omega)
            rw [← HV1.out] at hgrow hat
            have HP : Hid (L4 (w7.setCell ⟨L, 1, none⟩ v') B L (upd v 1 v') (upd (nOf l) 1 (np + 1)) (upd (csOf l rs) 1 (l.points.flatMap pC ++ [.string x, .int .i64 si])) (fun W => ∀ x ∈ rs, RtAt W x) ∧ Below B w6 (w7.setCell ⟨L, 1, none⟩ v')) := hL4.put (by omega) hown8 hgrow hat hL4.inn
            have hblk : w7.heap[L]? = w6.heap[L]? := (hgrow.block L (by simp; have := hL4.lt; omega) (fun e => hne e.symm)).trans (Below.heap_alloc _ _ _ hL4.lt)
            have d1 := (World.cell?_of_block (w := w6) (a := ⟨L, 1, none⟩) hblk).trans m1
            have d2 := (World.frozen?_of_block (w := w6) (a := ⟨L, 1, none⟩) hblk).trans m2
            obtain ⟨oa', cap', rfl⟩ := own_slice hown7
            clear hown hown7 hgrow hat hL4 hown8 m0 m1 m2 hblk hne
            go_wp2
            go_ret
            refine ⟨by rw [HU.out]; rfl, fun _ => ?_, (HB6.out.mono hB).trans HP.out.2⟩
            rw [HU.out]
            refine ⟨⟨HOK.out.s, ?_, HOK.out.g, HOK.out.r⟩, upd v 1 (.slice oa' (np + 1) cap'), rs, HM.out, ?_⟩
            · show (l.points ++ [(x, si)]).length ≤ 5
              rw [List.length_append, HNP.out]
              simp
              omega
            · have q := HP.out.1
              rw [show upd (nOf l) 1 (np + 1) = nOf { l with points := l.points ++ [(x, si)] } from by
                funext j
                match j with
                | 0 => rfl
                | 1 => show np + 1 = (l.points ++ [(x, si)]).length; rw [List.length_append, HNP.out]; rfl
                | 2 => rfl
                | k + 3 => rfl] at q
              rw [show upd (csOf l rs) 1 (l.points.flatMap pC ++ [.string x, .int .i64 si]) = csOf { l with points := l.points ++ [(x, si)] } rs from by
                funext j
                match j with
                | 0 => rfl
                | 1 => show l.points.flatMap pC ++ [.string x, .int .i64 si] = (l.points ++ [(x, si)]).flatMap pC; simp [pC]
                | 2 => rfl
                | k + 3 => rfl] at q
              exact q
      · have ep : (pi != -1) = true := by simpa using hpi
        rw [if_pos (by simpa using hpi)] at HU
        clear hpi
        go_wp2
        go_ret
        exact ⟨by rw [HU.out]; rfl, fun e => by rw [HU.out] at e; simp at e, HB6.out.mono hB⟩
    · rw [if_pos (by simpa using hf)] at HU
      have hf' : ((f4 : Int) == 0) = false := by simp; omega
      have HF : Hid (¬ f4 = 0) := hf
      clear hf
      go_wp2
      go_ret
      exact ⟨by rw [HU.out]; rfl, fun e => by rw [HU.out] at e; exact absurd e HF.out, HB5.out.mono hB⟩

end Go.Proofs.YtgiaicmhnkhbnaaDoor
