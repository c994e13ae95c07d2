/-
  addName, addPoint (package plan), each by a contract.
-/
import Derived.Test.YtgiaicmhnkhbnaaDoorJoin3
namespace Go.Proofs.YtgiaicmhnkhbnaaDoor
open Go.RowKit

theorem below_read {w0 w w' : World} {R : Nat} (hb : Below w0.heap.size w0 w) (hg : w.grownBy w' (some R)) (hR : w0.heap.size ≤ R) : Below w0.heap.size w0 w' :=
  hb.grown hg hb.size (fun k e => by cases e; exact hR)

set_option maxRecDepth 1000000 in
set_option maxHeartbeats 2000000 in
theorem addName_any {B L : Nat} {v : Nat → Value} {n : Nat → Nat} {cs : Nat → List Value} {X : World → Prop} (R i most : Nat) (r : Rd) (names : List ByteArray) (w0 w : World) (h : L4 w0 B L v n cs X) (hi : i = 0 ∨ i = 2) (hn : n i = names.length) (hc : cs i = names.flatMap sC)
    (hb : Below w0.heap.size w0 w) (hR : w0.heap.size ≤ R) (hrd : RdIn w R r) (hl : names.length ≤ 10) :
    Calls Tryd.prog 46 #[.pointer (some ⟨L, i, none⟩), .int .i64 most, .pointer (some ⟨R, 0, none⟩)] w fun e w' => e = .returned (.int .i64 (addNameP names most r).1) ∧
      ((addNameP names most r).1 = 0 → ∃ v', L4 w' B L (upd v i v') (upd n i (addNameP names most r).2.length) (upd cs i ((addNameP names most r).2.flatMap sC)) X) ∧ Below B w0 w' := by
  have hi4 : i < 4 := by omega
  have he : eOf i = 9 := by rcases hi with rfl | rfl <;> rfl
  have hz : szOf i = 1 := by rcases hi with rfl | rfl <;> rfl
  obtain ⟨i0, hii, hz0, hz1, hz2⟩ := info_parts infoS
  have HL4 : Hid (L4 w0 B L v n cs X) := h
  have hB : B ≤ w0.heap.size := by have := h.base; have := h.lt; omega
  have HCI : Hid (∀ W, Below w0.heap.size w0 W → W.cell? ⟨L, i, none⟩ = some (v i) ∧ W.frozen? ⟨L, i, none⟩ = false) := fun W hW => by
    have q := (h.below hW).cells
    rcases hi with rfl | rfl
    · exact ⟨q.1.1, q.2.1⟩
    · exact ⟨q.1.2.2.1, q.2.2.2.1⟩
  have HOW : Hid (∀ W, Below w0.heap.size w0 W → W.ownsRow B 9 1 (v i) names.length (names.flatMap sC)) := fun W hW => by
    have q := (h.below hW).own i hi4
    rw [he, hz, hn, hc] at q
    exact q
  have HRW : Hid (∀ W, Below w0.heap.size w0 W → rowAt W (v i) 1 sC names) := fun W hW => rowAt_of_owns (fun _ => rfl) (HOW.out W hW)
  obtain ⟨oa, cap, hvi⟩ := own_slice (HOW.out w0 (Below.refl _ _))
  have HE : Hid (eOf i = 9 ∧ szOf i = 1) := ⟨he, hz⟩
  have HNC : Hid (n i = names.length ∧ cs i = names.flatMap sC) := ⟨hn, hc⟩
  have HRD : Hid (RdIn w R r) := hrd
  have HB : Hid (Below w0.heap.size w0 w) := hb
  have HU : Hid (addNameP names most r = if (rEnd (rName r).2).2 ≠ 0 then ((rEnd (rName r).2).2, names) else if idx names (rName r).1 ≠ -1 then (4, names) else if most ≤ names.length then (6, names) else (0, names ++ [(rName r).1])) := rfl
  clear h hrd hb he hz hn hc hi
  generalize addNameP names most r = ans at *
  have N1 := fun W => name_any R r W
  generalize rName r = q1 at *
  obtain ⟨x, q1⟩ := q1
  simp only at *
  have D1 : Hid (∀ W, RdIn W R r → Calls Tryd.prog 56 #[.pointer (some ⟨R, 0, none⟩)] W fun en w' => en = .returned (.string x) ∧ RdIn w' R q1 ∧ W.grownBy w' (some R)) := N1
  have N2 := fun W => end_any R q1 W
  generalize rEnd q1 = q2 at *
  have D2 : Hid (∀ W, RdIn W R q1 → Calls Tryd.prog 57 #[.pointer (some ⟨R, 0, none⟩)] W fun en w' => en = .returned (.tuple #[]) ∧ RdIn w' R q2 ∧ W.grownBy w' (some R)) := N2
  have N3 := fun W => contains_any (v i) names x W
  clear N1 N2
  generalize hm : names.length = m at *
  have HM : Hid (names.length = m) := hm
  clear hm
  obtain ⟨ws2, f2⟩ := q2
  simp only at *
  by_cases hf : f2 = 0
  · subst hf
    rw [if_neg (by simp)] at HU
    by_cases hx : idx names x = -1
    · rw [if_neg (by simp [hx])] at HU
      rw [decide_eq_false (by simp [hx])] at N3
      have D3 : Hid (∀ W, rowAt W (v i) 1 sC names → m ≤ 4294967296 → Calls Tryd.prog 58 #[v i, .string x] W fun e w' => e = .returned (.bool false) ∧ w' = W) := N3
      clear N3 hx
      by_cases hfull : most ≤ m
      · rw [if_pos hfull] at HU
        have hge : (most : Int) ≤ (m : Int) := by omega
        go_enter Tryd.func46, Tryd.ntmps46
        go_wp2_with fail
        refine (D1.out _ HRD.out).mono ?_
        rintro e w1 ⟨rfl, h1, g1⟩
        go_wp2_with fail
        refine (D2.out _ h1).mono ?_
        rintro e w2 ⟨rfl, h2, g2⟩
        have hb2 := below_read (below_read HB.out g1 hR) g2 hR
        obtain ⟨c1, c2⟩ := HCI.out _ hb2
        rw [hvi] at c1
        obtain ⟨f1, f2⟩ := h2.fault
        simp only at f1
        have HB2 : Hid (Below w0.heap.size w0 w2) := hb2
        clear hb2 h1 h2 g1 g2
        go_wp2_with fail
        have q := D3.out _ (HRW.out _ HB2.out) (by omega)
        rw [hvi] at q
        refine q.mono ?_
        rintro e w3 ⟨rfl, hw3⟩
        obtain rfl := hw3.symm
        clear q
        go_wp2
        go_ret
        exact ⟨by rw [HU.out]; rfl, fun e => by rw [HU.out] at e; simp at e, HB2.out.mono hB⟩
      · rw [if_neg hfull] at HU
        have hge : ¬ (most : Int) ≤ (m : Int) := by omega
        go_enter Tryd.func46, Tryd.ntmps46
        go_wp2_with fail
        refine (D1.out _ HRD.out).mono ?_
        rintro e w1 ⟨rfl, h1, g1⟩
        go_wp2_with fail
        refine (D2.out _ h1).mono ?_
        rintro e w2 ⟨rfl, h2, g2⟩
        have hb2 := below_read (below_read HB.out g1 hR) g2 hR
        obtain ⟨c1, c2⟩ := HCI.out _ hb2
        rw [hvi] at c1
        obtain ⟨f1, f2⟩ := h2.fault
        simp only at f1
        have HB2 : Hid (Below w0.heap.size w0 w2) := hb2
        have hsz2 := hb2.size
        clear hb2 h1 h2 g1 g2
        go_wp2_with fail
        have q := D3.out _ (HRW.out _ HB2.out) (by omega)
        rw [hvi] at q
        refine q.mono ?_
        rintro e w3 ⟨rfl, hw3⟩
        obtain rfl := hw3.symm
        clear q
        have hown := HOW.out _ HB2.out
        rw [hvi] at hown
        go_wp2_with (at_builtin; refine wpList_append_own_at _ rfl _ _ 22 rfl B 9 i0 (.string ⟨#[]⟩) 1 16 Tryd.underlying22 hii hz0 hz1 hz2 rfl (by decide) _ _ _ rfl (hown.alloc _) ⟨w2.heap.size, 0, none⟩ 1 1 [.string x] rfl rfl (cell_one_new _ _ _) (one_str _) (by unfold maxLen; omega) (by omega) (by simp; omega) ?_)
        intro v' w4 hown4 hgrow _ hat
        have hL4 := HL4.out.below HB2.out
        have hown5 : w4.ownsRow B (eOf i) (szOf i) v' (m + 1) (names.flatMap sC ++ [.string x]) := by rw [HE.out.1, HE.out.2]; exact hown4
        rw [← hvi] at hgrow hat
        have HP : Hid (L4 (w4.setCell ⟨L, i, none⟩ v') B L (upd v i v') (upd n i (m + 1)) (upd cs i (names.flatMap sC ++ [.string x])) X ∧ Below B w2 (w4.setCell ⟨L, i, none⟩ v')) := hL4.put hi4 hown5 hgrow hat hL4.inn
        have hlt4 : w4.cell? ⟨L, i, none⟩ = some (.slice oa m cap) ∧ w4.frozen? ⟨L, i, none⟩ = false := by
          have hne : (v i).ownBlock ≠ some L := HL4.out.noL i hi4
          have hblk : w4.heap[L]? = w2.heap[L]? := (hgrow.block L (by simp; have := hL4.lt; omega) (fun e => hne e.symm)).trans (Below.heap_alloc _ _ _ hL4.lt)
          exact ⟨(World.cell?_of_block (w := w2) (a := ⟨L, i, none⟩) hblk).trans c1, (World.frozen?_of_block (w := w2) (a := ⟨L, i, none⟩) hblk).trans c2⟩
        obtain ⟨d1, d2⟩ := hlt4
        obtain ⟨oa', cap', rfl⟩ := own_slice hown4
        clear hown hown4 hgrow hat hL4 hown5 c1 c2
        go_wp2
        go_ret
        refine ⟨by rw [HU.out]; rfl, fun _ => ⟨.slice oa' (m + 1) cap', ?_⟩, (HB2.out.mono hB).trans HP.out.2⟩
        rw [HU.out]
        rw [show (names ++ [x]).length = m + 1 by simp [HM.out], show (names ++ [x]).flatMap sC = names.flatMap sC ++ [.string x] by simp [sC]]
        exact HP.out.1
    · rw [if_pos (by simp [hx])] at HU
      rw [decide_eq_true (by simp [hx])] at N3
      have D3 : Hid (∀ W, rowAt W (v i) 1 sC names → m ≤ 4294967296 → Calls Tryd.prog 58 #[v i, .string x] W fun e w' => e = .returned (.bool true) ∧ w' = W) := N3
      clear N3 hx
      go_enter Tryd.func46, Tryd.ntmps46
      go_wp2_with fail
      refine (D1.out _ HRD.out).mono ?_
      rintro e w1 ⟨rfl, h1, g1⟩
      go_wp2_with fail
      refine (D2.out _ h1).mono ?_
      rintro e w2 ⟨rfl, h2, g2⟩
      have hb2 := below_read (below_read HB.out g1 hR) g2 hR
      obtain ⟨c1, c2⟩ := HCI.out _ hb2
      rw [hvi] at c1
      obtain ⟨f1, f2⟩ := h2.fault
      simp only at f1
      have HB2 : Hid (Below w0.heap.size w0 w2) := hb2
      clear hb2 h1 h2 g1 g2
      go_wp2_with fail
      have q := D3.out _ (HRW.out _ HB2.out) (by omega)
      rw [hvi] at q
      refine q.mono ?_
      rintro e w3 ⟨rfl, hw3⟩
      obtain rfl := hw3.symm
      clear q
      go_wp2
      go_ret
      exact ⟨by rw [HU.out]; rfl, fun e => by rw [HU.out] at e; simp at e, HB2.out.mono hB⟩
  · rw [if_pos (by simpa using hf)] at HU
    have hf' : ((f2 : Int) == 0) = false := by simp; omega
    have HF : Hid (¬ f2 = 0) := hf
    clear hf N3
    go_enter Tryd.func46, Tryd.ntmps46
    go_wp2_with fail
    refine (D1.out _ HRD.out).mono ?_
    rintro e w1 ⟨rfl, h1, g1⟩
    go_wp2_with fail
    refine (D2.out _ h1).mono ?_
    rintro e w2 ⟨rfl, h2, g2⟩
    have hb2 := below_read (below_read HB.out g1 hR) g2 hR
    obtain ⟨f1, f2'⟩ := h2.fault
    simp only at f1
    have HB2 : Hid (Below w0.heap.size w0 w2) := hb2
    clear hb2 h1 h2 g1 g2
    go_wp2
    go_ret
    exact ⟨by rw [HU.out]; rfl, fun e => by rw [HU.out] at e; exact absurd e HF.out, HB2.out.mono hB⟩

end Go.Proofs.YtgiaicmhnkhbnaaDoor
