/-
  Package flat: Read: by a contract.
-/
import Derived.Test.YtelmjkjbbbgmpaaFlNums
namespace Go.Proofs.Ytelmjkjbbbgmpaa
open Go.RowKit

def RdAns (w : World) (B : Nat) (o : Option (Int × Int × List Rs)) (e : Ending) : Prop :=
  (∃ a b r v, o = some (a, b, r) ∧ e = .returned (.tuple #[.int .i64 a, .int .i64 b, v, .bool true]) ∧ SRow w B v r) ∨ (o = none ∧ e = .returned (.tuple #[.int .i64 0, .int .i64 0, .slice none 0 0, .bool false]))
theorem row_drop {α : Type} {cs : α → List Value} {size : Nat} {w : World} {g off n c c' : Nat} {l : List α} (h : rowAt w (.slice (some ⟨g, off, none⟩) n c) size cs l) (k : Nat) : rowAt w (.slice (some ⟨g, off + k * size, none⟩) (n - k) c') size cs (l.drop k) := by
  have hn := row_len h
  obtain ⟨oa, cap, e, h2⟩ := h
  injection e with e1 e2 e3
  refine ⟨_, c', by rw [List.length_drop, ← hn], fun j x hj => ?_⟩
  rw [List.getElem?_drop] at hj
  obtain ⟨g', off', e4, hc⟩ := h2 _ _ hj
  rw [← e1] at e4
  injection e4 with e4
  injection e4 with e5 e6
  subst e5 e6
  refine ⟨g, off + k * size, rfl, fun i u hu => ?_⟩
  have := hc i u hu
  rw [show off + k * size + j * size + i = off + (k + j) * size + i by rw [Nat.add_mul]; omega]
  exact this
theorem irow_room {w : World} {B : Nat} {v : Value} {l : List Int} (h : IRow w B v l) (h0 : 0 < l.length) : ∃ g c, v = .slice (some ⟨g, 0, none⟩) l.length c ∧ l.length ≤ c ∧ B ≤ g ∧ g < w.heap.size := by
  rcases h.2 with ⟨_, e⟩ | ⟨g, c, cur, e, hB, hg, hc, _⟩
  · omega
  · exact ⟨g, c, e, hc, hB, (Array.getElem?_eq_some_iff.1 hg).1⟩

theorem intCells : (Try.prog.info? 3).map (·.size) = some 1 := by kernel_rfl
theorem run_sizeI (w : World) : (sizeOf (Try.prog.elem 23)).run Try.prog w = .ok 1 w := by
  obtain ⟨i, hi, hs⟩ := Option.map_eq_some_iff.1 intCells
  have he : Try.prog.elem 23 = 3 := by kernel_rfl
  rw [he]
  simp [sizeOf, typeInfo, hi, hs]
/-- n[3:] of a row. -/
theorem slice_3 (g k d : Nat) (hk : k ≤ d) : ∃ o, (∀ W, (Instr.sliceAt 23 (.slice (some ⟨g, 0, none⟩) (k + 3) (d + 3)) (some (.int .i64 3)) none none).run Try.prog W = .ok (.slice o k d) W) ∧
    (∀ w (n : List Int), rowAt w (.slice (some ⟨g, 0, none⟩) (k + 3) (d + 3)) 1 iC n → rowAt w (.slice o k d) 1 iC (n.drop 3)) := by
  have ht : Try.prog.underlying 23 = some (.slice (Try.prog.elem 23)) := by kernel_rfl
  by_cases hd : d = 0
  · subst hd
    obtain rfl : k = 0 := by omega
    refine ⟨some ⟨g, 0, none⟩, fun W => ?_, fun w n h => ?_⟩
    · rw [run_sliceAt_slice (h := ht), show (3 : Int) = ((3 : Nat) : Int) from rfl, run_slice_l (w := W) _ (some ⟨g, 0, none⟩) (0 + 3) _ ht .i64 ((3 : Nat) : Int) (by omega) (by omega), run_sizeI]
      simp [Result.andThen, sliced]
    · have := row_len h
      rw [show n.drop 3 = [] from List.drop_eq_nil_of_le (by omega)]
      exact ⟨_, _, rfl, fun j x hj => by simp at hj⟩
  · refine ⟨some ⟨g, 3, none⟩, fun W => ?_, fun w n h => ?_⟩
    · rw [run_sliceAt_slice (h := ht), show (3 : Int) = ((3 : Nat) : Int) from rfl, run_slice_l (w := W) _ (some ⟨g, 0, none⟩) (k + 3) _ ht .i64 ((3 : Nat) : Int) (by omega) (by omega), run_sizeI]
      simp [Result.andThen, sliced, hd, Addr.add]
    · have := row_drop (c' := d) h 3
      rw [show k + 3 - 3 = k by omega, show 0 + 3 * 1 = 3 by omega] at this
      exact this

set_option maxRecDepth 1000000 in
set_option maxHeartbeats 4000000 in
theorem read_any (p : Value) (l : List It) (w : World) (h : Reads w p l) (hz : (textOf (itAt l 0)).1.size ≤ 281474976710656) :
    Calls Try.prog 24 #[p] w fun e w' => RdAns w' w.heap.size (readV l) e ∧ Below w.heap.size w w' := by
  have hl := h.len
  have N := numbers_any p l w h hz
  have HV : Hid (readV l = (numV l).bind readN) := rfl
  have hnl : ∀ n, numV l = some n → n.length ≤ 1000 := fun n hn => by
    unfold numV at hn
    split at hn
    · rw [nuT_len hn]; omega
    · cases hn
  clear h hz hl
  generalize numV l = on at *
  generalize readV l = ov at *
  cases on with
  | none =>
    have HX : Hid (ov = none) := HV.out
    go_enter Try.func24, Try.ntmps24
    go_wp2_with fail
    refine N.mono ?_
    rintro e w1 ⟨he, hb1⟩
    rcases he with ⟨n, v, hd, rfl, hi⟩ | ⟨-, rfl⟩
    · cases hd
    have H1 : Hid (Below w.heap.size w w1) := hb1
    clear hb1 N hnl
    go_wp2
    refine bodyPost_ret (v := .tuple #[.int .i64 0, .int .i64 0, .slice none 0 0, .bool false]) (by simp [results, Try.results24, go_sem]) rfl ?_
    exact ⟨.inr ⟨HX.out, rfl⟩, H1.out⟩
  | some n =>
    have hn1 := hnl n rfl
    have HX : Hid (ov = readN n) := HV.out
    clear hnl HV
    go_enter Try.func24, Try.ntmps24
    go_wp2_with fail
    refine N.mono ?_
    rintro e w1 ⟨he, hb1⟩
    rcases he with ⟨n', v, hd, rfl, hi⟩ | ⟨hd, -⟩
    rotate_left
    · cases hd
    injection hd with hd
    subst hd
    have H1 : Hid (IRow w1 w.heap.size v n ∧ Below w.heap.size w w1) := ⟨hi, hb1⟩
    clear hb1 hi N
    by_cases h3 : n.length < 3
    · have HY : Hid (ov = none) := by
        show ov = none
        rw [HX.out, readN, if_pos h3]
      obtain ⟨o, c, rfl⟩ := owns_slice H1.out.1
      have h3i : (n.length : Int) < 3 := by omega
      generalize n.length = k at *
      go_wp2
      refine bodyPost_ret (v := .tuple #[.int .i64 0, .int .i64 0, .slice none 0 0, .bool false]) (by simp [results, Try.results24, go_sem]) rfl ?_
      exact ⟨.inr ⟨HY.out, rfl⟩, H1.out.2⟩
    · obtain ⟨g, c, rfl, hgc, hg1, hg2⟩ := irow_room H1.out.1 (by omega)
      have HY : Hid (ov = (takeV (n.drop 3)).bind fun r => if n.getD 2 0 = (r.length : Int) then some (n.getD 0 0, n.getD 1 0, r) else none) := by
        show ov = _
        rw [HX.out, readN, if_neg h3]
      obtain ⟨k, hk⟩ : ∃ k, n.length = k + 3 := ⟨n.length - 3, by omega⟩
      obtain ⟨x0, e0⟩ := at_of (l := n) (k := 0) (by omega)
      obtain ⟨x1, e1⟩ := at_of (l := n) (k := 1) (by omega)
      obtain ⟨x2, e2⟩ := at_of (l := n) (k := 2) (by omega)
      rw [getD_at e0, getD_at e1, getD_at e2] at HY
      obtain ⟨d, hd⟩ : ∃ d, c = d + 3 := ⟨c - 3, by omega⟩
      subst hd
      rw [hk] at H1 ⊢
      obtain ⟨so, hsl, hsr⟩ := slice_3 g k d (by omega)
      have T := take_any so k d (n.drop 3) w1 (hsr _ _ H1.out.1.row) (by omega) (by omega)
      have HC : Hid (∀ W, Below w1.heap.size w1 W → W.cell? ⟨g, 0, none⟩ = some (.int .i64 x0) ∧ W.cell? ⟨g, 1, none⟩ = some (.int .i64 x1) ∧ W.cell? ⟨g, 2, none⟩ = some (.int .i64 x2)) := fun W hW =>
        ⟨up_cell hW (H1.out.1.cell e0), up_cell hW (H1.out.1.cell e1), up_cell hW (H1.out.1.cell e2)⟩
      have hk3 : ¬ ((k + 3 : Nat) : Int) < 3 := by omega
      clear hsr e0 e1 e2 hk hgc
      go_wp2_with fail
      refine T.mono ?_
      rintro e w2 ⟨he, hb2⟩
      obtain ⟨c0, c1, c2⟩ := HC.out w2 hb2
      rcases he with ⟨r, v, hd, rfl, hi⟩ | ⟨hd, rfl⟩
      · rw [hd] at HY
        have H2 : Hid (SRow w2 w.heap.size v r ∧ Below w.heap.size w w2) := ⟨owns_mono hi H1.out.2.size, H1.out.2.trans (hb2.mono H1.out.2.size)⟩
        obtain ⟨ov2, cv, rfl⟩ := owns_slice hi
        clear T hsl hi hb2 hd
        by_cases hx2 : x2 = (r.length : Int)
        · have HZ : Hid (ov = some (x0, x1, r)) := by
            show ov = _
            rw [HY.out]
            show (if x2 = (r.length : Int) then some (x0, x1, r) else none) = _
            rw [if_pos hx2]
          have hne : (x2 != (r.length : Int)) = false := by simp [hx2]
          clear hx2
          generalize r.length = rn at *
          go_wp2_with fail
          go_quiet (fail)
          go_wp2
          refine bodyPost_ret (v := .tuple #[.int .i64 x0, .int .i64 x1, .slice ov2 rn cv, .bool true]) (by simp [results, Try.results24, go_sem]) rfl ?_
          exact ⟨.inl ⟨x0, x1, r, _, HZ.out, rfl, H2.out.1.below (_root_.Go.below_drewN (Below.refl _ w2) nq)⟩, H2.out.2.trans ((_root_.Go.below_drewN (Below.refl _ w2) nq).mono H2.out.2.size)⟩
        · have HZ : Hid (ov = none) := by
            show ov = _
            rw [HY.out]
            show (if x2 = (r.length : Int) then some (x0, x1, r) else none) = _
            rw [if_neg hx2]
          have hne : (x2 != (r.length : Int)) = true := by rw [bne_iff_ne]; exact hx2
          clear hx2
          generalize r.length = rn at *
          go_wp2
          refine bodyPost_ret (v := .tuple #[.int .i64 0, .int .i64 0, .slice none 0 0, .bool false]) (by simp [results, Try.results24, go_sem]) rfl ?_
          exact ⟨.inr ⟨HZ.out, rfl⟩, H2.out.2⟩
      · rw [hd] at HY
        have H2 : Hid (Below w.heap.size w w2) := H1.out.2.trans (hb2.mono H1.out.2.size)
        have HZ : Hid (ov = none) := HY.out
        clear T hsl hb2 hd
        go_wp2
        refine bodyPost_ret (v := .tuple #[.int .i64 0, .int .i64 0, .slice none 0 0, .bool false]) (by simp [results, Try.results24, go_sem]) rfl ?_
        exact ⟨.inr ⟨HZ.out, rfl⟩, H2.out⟩
end Go.Proofs.Ytelmjkjbbbgmpaa
