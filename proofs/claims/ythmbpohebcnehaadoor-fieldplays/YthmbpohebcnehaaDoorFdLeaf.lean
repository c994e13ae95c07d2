/-
  Package field: resting, driven, isPlace, isNoPosition, and is there what is no position? by contracts.
-/
import Derived.Test.YthmbpohebcnehaaDoorFdP
namespace Go.Proofs.YthmbpohebcnehaaDoor
open Go.RowKit

set_option maxRecDepth 1000000 in
theorem isNoPos_any (n : Int) (w : World) :
    Calls Tryd.prog 33 #[.int .i64 n] w fun e w' => e = .returned (.bool (noPos n)) ∧ Below w.heap.size w w' := by
  by_cases h0 : n = 0
  · subst h0
    go_enter Tryd.func33, Tryd.ntmps33
    go_wp2
    go_ret
    exact ⟨rfl, Below.refl _ _⟩
  by_cases h1 : n = 1
  · subst h1
    go_enter Tryd.func33, Tryd.ntmps33
    go_wp2
    go_ret
    exact ⟨rfl, Below.refl _ _⟩
  · have q0 : (n == 0) = false := by simp [h0]
    have q1 : (n == 1) = false := by simp [h1]
    go_enter Tryd.func33, Tryd.ntmps33
    go_wp2
    go_ret
    exact ⟨ret_bool (by rw [noPos, Bool.eq_iff_iff]; simp [h0, h1]), Below.refl _ _⟩

theorem isPlaceF_any (i : Int) (n : Nat) (w : World) :
    Calls Tryd.prog 21 #[.int .i64 i, .int .i64 (n : Nat)] w fun e w' => e = .returned (.bool (decide (0 ≤ i ∧ i < (n : Nat)))) ∧ w' = w := by
  by_cases h : 0 ≤ i
  · go_enter Tryd.func21, Tryd.ntmps21
    go_wp2
    go_ret
    exact ⟨ret_bool (by rw [Bool.eq_iff_iff]; simp [h]), rfl⟩
  · have hd : decide (0 ≤ i) = false := decide_eq_false h
    go_enter Tryd.func21, Tryd.ntmps21
    go_wp2
    go_ret
    exact ⟨ret_bool (by simp), rfl⟩

theorem resting_any (n : Int) (w : World) :
    Calls Tryd.prog 20 #[.int .i64 n] w fun e w' => e = .returned (ptV (restF n)) ∧ Below w.heap.size w w' := by
  go_enter Tryd.func20, Tryd.ntmps20
  go_wp2
  exact bodyPost_ret (v := ptV (restF n)) (by simp [results, Tryd.results20, go_sem, ptV, restF]) rfl ⟨rfl, (by repeat' (with_reducible first | exact Below.refl _ _ | refine Below.drew ?_ | refine _root_.Go.below_drewN ?_ _ | refine Below.alloc ?_ ?_ _ | refine Below.setCell ?_ ?_ _ | exact Nat.le_refl _ | (simp; done) | (simp; omega)))⟩

set_option maxRecDepth 1000000 in
set_option maxHeartbeats 4000000 in
theorem driven_any (a b c tw : Int) (w : World) (h : ptOk (a, b, c)) :
    Calls Tryd.prog 23 #[.agg #[.int .i64 a, .int .i64 b, .int .i64 c], .int .i64 tw] w fun e w' => e = .returned (ptV (drivenF (a, b, c) tw)) ∧ Below w.heap.size w w' := by
  obtain ⟨hc0, hc2⟩ := h
  simp only at hc0 hc2
  have R : Hid (∀ n W, Calls Tryd.prog 20 #[.int .i64 n] W fun e w' => e = .returned (ptV (restF n)) ∧ Below W.heap.size W w') := resting_any
  generalize hch : (w.alloc (.cells #[.int .i64 a, .int .i64 b, .int .i64 c] 63)).alloc (.cells #[.int .i64 0, .int .i64 0, .int .i64 0] 63) = w1
  have HB1 : Hid (Below w.heap.size w w1) := by show Below _ _ _; rw [← hch]; exact (by repeat' (with_reducible first | exact Below.refl _ _ | refine Below.drew ?_ | refine _root_.Go.below_drewN ?_ _ | refine Below.alloc ?_ ?_ _ | refine Below.setCell ?_ ?_ _ | exact Nat.le_refl _ | (simp; done) | (simp; omega)))
  have H0 : Hid (w1.heap[w.heap.size]? = some (.cells #[.int .i64 a, .int .i64 b, .int .i64 c] 63 (0, 0))) := by show _ = _; rw [← hch]; exact blk_old (blk_new _ _)
  have H1 : Hid (w1.heap[w.heap.size + 1]? = some (.cells #[.int .i64 0, .int .i64 0, .int .i64 0] 63 (0, 0))) := by show _ = _; rw [← hch]; exact blk_at1 _ _ _
  have HRA : Hid (∀ u0 u1 u2 W, Below w1.heap.size w1 W → Below w.heap.size w (((W.setCell ⟨w.heap.size + 1, 0, none⟩ u0).setCell ⟨w.heap.size + 1, 1, none⟩ u1).setCell ⟨w.heap.size + 1, 2, none⟩ u2)) := fun u0 u1 u2 W hW => (((HB1.out.trans (hW.mono HB1.out.size)).setCell (by show w.heap.size ≤ w.heap.size + 1; omega) u0).setCell (by show w.heap.size ≤ w.heap.size + 1; omega) u1).setCell (by show w.heap.size ≤ w.heap.size + 1; omega) u2
  obtain ⟨x0, x1, x2⟩ := cells3 H0.out
  by_cases h0 : tw = 0
  · have hF : drivenF (a, b, c) tw = restF a := by rw [drivenF, if_pos (.inl h0)]
    rw [hF]
    subst h0
    clear hF
    go_enter Tryd.func23, Tryd.ntmps23
    go_wp2_with fail
    clear hch x0 x1 x2
    refine (R.out a _).mono ?_
    rintro e w2 ⟨rfl, hb2⟩
    have G := blk_below hb2 H1.out
    obtain ⟨y0, y1, y2⟩ := cells3 G
    have f0 := froz2 G 0
    have f1 := froz2 G 1
    have f2 := froz2 G 2
    have HA := HRA.out (.int .i64 a) (.int .i64 0) (.int .i64 0) w2 hb2
    clear G hb2
    simp only [ptV, restF]
    go_wp2
    exact bodyPost_ret (v := ptV (restF a)) (by simp [results, Tryd.results23, go_sem, ptV, restF, y0, y1, y2]) rfl ⟨rfl, HA⟩
  have q0 : (tw == 0) = false := by simp [h0]
  by_cases ha : tw = a
  · have hF : drivenF (a, b, c) tw = restF a := by rw [drivenF, if_pos (.inr ha)]
    rw [hF]
    subst ha
    clear hF h0
    go_enter Tryd.func23, Tryd.ntmps23
    go_wp2_with fail
    clear hch x0 x1 x2
    refine (R.out tw _).mono ?_
    rintro e w2 ⟨rfl, hb2⟩
    have G := blk_below hb2 H1.out
    obtain ⟨y0, y1, y2⟩ := cells3 G
    have f0 := froz2 G 0
    have f1 := froz2 G 1
    have f2 := froz2 G 2
    have HA := HRA.out (.int .i64 tw) (.int .i64 0) (.int .i64 0) w2 hb2
    clear G hb2
    simp only [ptV, restF]
    go_wp2
    exact bodyPost_ret (v := ptV (restF tw)) (by simp [results, Tryd.results23, go_sem, ptV, restF, y0, y1, y2]) rfl ⟨rfl, HA⟩
  have qa : (tw == a) = false := by simp [ha]
  by_cases hb : tw = b
  · have hS : stepsF (a, b, c) tw = 1 + c := by rw [stepsF, if_pos hb]
    have qb : (tw == b) = true := by simp [hb]
    by_cases h3 : 1 + c = 3
    · have hF : drivenF (a, b, c) tw = restF tw := by rw [drivenF, if_neg (by simp [h0, ha]), if_pos (by rw [hS]; exact h3)]
      rw [hF]
      clear hF hS h0 ha hb
      go_enter Tryd.func23, Tryd.ntmps23
      go_wp2_with fail
      clear hch x0 x1 x2
      refine (R.out tw _).mono ?_
      rintro e w2 ⟨rfl, hb2⟩
      have G := blk_below hb2 H1.out
      obtain ⟨y0, y1, y2⟩ := cells3 G
      have f0 := froz2 G 0
      have f1 := froz2 G 1
      have f2 := froz2 G 2
      have HA := HRA.out (.int .i64 tw) (.int .i64 0) (.int .i64 0) w2 hb2
      clear G hb2
      simp only [ptV, restF]
      go_wp2
      exact bodyPost_ret (v := ptV (restF tw)) (by simp [results, Tryd.results23, go_sem, ptV, restF, y0, y1, y2]) rfl ⟨rfl, HA⟩
    · have hF : drivenF (a, b, c) tw = (0, tw, 1 + c) := by rw [drivenF, if_neg (by simp [h0, ha]), if_neg (by rw [hS]; exact h3), hS]
      rw [hF]
      have q3 : (1 + c == 3) = false := by simp [h3]
      clear hF hS h0 ha hb
      go_enter Tryd.func23, Tryd.ntmps23
      obtain ⟨y0, y1, y2⟩ := cells3 H1.out
      have f0 := froz2 H1.out 0
      have f1 := froz2 H1.out 1
      have f2 := froz2 H1.out 2
      have HA := HRA.out (.int .i64 0) (.int .i64 tw) (.int .i64 (1 + c)) w1 (Below.refl _ _)
      go_wp2
      exact bodyPost_ret (v := ptV (0, tw, (1 + c))) (by simp [results, Tryd.results23, go_sem, ptV, y0, y1, y2]) rfl ⟨rfl, HA⟩
  · have hS : stepsF (a, b, c) tw = 1 := by rw [stepsF, if_neg hb]
    have qb : (tw == b) = false := by simp [hb]
    have hF : drivenF (a, b, c) tw = (0, tw, 1) := by rw [drivenF, if_neg (by simp [h0, ha]), if_neg (by rw [hS]; decide), hS]
    rw [hF]
    clear hF hS h0 ha hb
    go_enter Tryd.func23, Tryd.ntmps23
    obtain ⟨y0, y1, y2⟩ := cells3 H1.out
    have f0 := froz2 H1.out 0
    have f1 := froz2 H1.out 1
    have f2 := froz2 H1.out 2
    have HA := HRA.out (.int .i64 0) (.int .i64 tw) (.int .i64 1) w1 (Below.refl _ _)
    go_wp2
    exact bodyPost_ret (v := ptV (0, tw, 1)) (by simp [results, Tryd.results23, go_sem, ptV, y0, y1, y2]) rfl ⟨rfl, HA⟩

set_option maxRecDepth 1000000 in
set_option maxHeartbeats 2000000 in
theorem indexFdPos_any (v : Value) (l : List Int) (p : Int → Bool) (w : World) (h : rowAt w v 1 iC l) (hl : l.length ≤ 4294967296)
    (CL : ∀ x W, x ∈ l → Below w.heap.size w W → Calls Tryd.prog 33 #[.int .i64 x] W fun e w' => e = .returned (.bool (p x)) ∧ Below W.heap.size W w') :
    Calls Tryd.prog 45 #[v, .func (.func 33) #[] #[]] w fun e w' => e = .returned (.int .i64 (atF p l 0)) ∧ Below w.heap.size w w' := by
  obtain ⟨oa, cap, rfl, h2⟩ := h
  have H2 : Hid (∀ j y, l[j]? = some y → ∃ g off, oa = some ⟨g, off, none⟩ ∧ ∀ i u, (iC y)[i]? = some u → w.cell? ⟨g, off + j * 1 + i, none⟩ = some u) := h2
  clear h2
  have CLH : Hid (∀ x W, x ∈ l → Below w.heap.size w W → Calls Tryd.prog 33 #[.int .i64 x] W fun e w' => e = .returned (.bool (p x)) ∧ Below W.heap.size W w') := CL
  clear CL
  generalize hA : atF p l 0 = ans at *
  have HI : Hid (atF p l 0 = ans) := hA
  clear hA
  generalize hn : l.length = n at *
  have HN : Hid (l.length = n) := hn
  clear hn
  go_enter Tryd.func45, Tryd.ntmps45
  go_wp2
  go_loopg [5, 8] n (fun gk _ i wr => ∃ k : Nat, gk = n - k ∧ i = .int .i64 k ∧ k ≤ n ∧ atF p (l.drop k) k = atF p l 0 ∧ Below w.heap.size w wr)
  case atStart => exact ⟨0, rfl, rfl, by omega, by simp, Below.refl _ _⟩
  case round =>
    obtain ⟨k, rfl, rfl, hk, hc, hbl⟩ := hrel
    have HC : Hid (atF p (l.drop k) k = atF p l 0) := hc
    clear hc
    by_cases hlt : k < n
    · obtain ⟨y, hy⟩ : ∃ y, l[k]? = some y := ⟨l[k]'(by rw [HN.out]; exact hlt), List.getElem?_eq_getElem _⟩
      obtain ⟨g, off, rfl, hcell⟩ := H2.out k y hy
      have hki : (k : Int) < (n : Int) := by omega
      rw [drop_at hy, atF] at HC
      have CY : Hid (∀ W, Below w.heap.size w W → Calls Tryd.prog 33 #[.int .i64 y] W fun e w' => e = .returned (.bool (p y)) ∧ Below W.heap.size W w') := fun W hW => CLH.out y W (List.mem_of_getElem? hy) hW
      have a0 := hcell 0 _ rfl
      simp only [Nat.mul_one, Nat.add_zero] at a0
      have d0 := (hbl.cell (World.block_lt_of_cell? _ _ a0)).trans a0
      clear hcell hy a0
      generalize hpy : p y = py at *
      clear hpy
      cases py
      · rw [if_neg (by simp)] at HC
        go_wp2_with fail
        refine (CY.out _ hbl).mono ?_
        rintro e w1 ⟨rfl, hb1⟩
        have hb2 := hbl.trans (hb1.mono hbl.size)
        clear hb1
        go_wp2
        go_roundg (n - (k + 1))
        case rel => exact ⟨k + 1, rfl, by go_num, by omega, HC.out, hb2⟩
        case measure => omega
      · rw [if_pos rfl] at HC
        go_wp2_with fail
        refine (CY.out _ hbl).mono ?_
        rintro e w1 ⟨rfl, hb1⟩
        have hb2 := hbl.trans (hb1.mono hbl.size)
        clear hb1
        go_wp2
        go_ret
        exact ⟨by rw [← HI.out, ← HC.out]; rfl, hb2⟩
    · have h1 := HC.out
      rw [List.drop_of_length_le (by rw [HN.out]; omega), atF] at h1
      have H1 : Hid (-1 = atF p l 0) := h1
      clear h1
      go_wp2
      go_ret
      exact ⟨by rw [← HI.out, ← H1.out]; rfl, hbl⟩

theorem containsFdPos_any (v : Value) (l : List Int) (p : Int → Bool) (w : World) (h : rowAt w v 1 iC l) (hl : l.length ≤ 4294967296)
    (CL : ∀ x W, x ∈ l → Below w.heap.size w W → Calls Tryd.prog 33 #[.int .i64 x] W fun e w' => e = .returned (.bool (p x)) ∧ Below W.heap.size W w') :
    Calls Tryd.prog 32 #[v, .func (.func 33) #[] #[]] w fun e w' => e = .returned (.bool (l.any p)) ∧ Below w.heap.size w w' := by
  have HI : decide (0 ≤ atF p l 0) = l.any p := atF_ge _ _ _
  have C := indexFdPos_any v l p w h hl CL
  rw [← HI]
  generalize atF p l 0 = n at *
  clear h HI CL
  go_enter Tryd.func32, Tryd.ntmps32
  go_wp2_with fail
  refine C.mono ?_
  rintro e w1 ⟨rfl, hb⟩
  go_wp2
  go_ret
  exact ⟨rfl, hb⟩

end Go.Proofs.YthmbpohebcnehaaDoor
