/-
  Texts of this proof, joined: PlCut, PlRow, PlRoute, PlHas.
-/
import Derived.Test.YtgiaicmhnkhbnaaDoorJoin1
import Derived.Deep.LoopGhost
namespace Go.Proofs.YtgiaicmhnkhbnaaDoor
open Go.RowKit

theorem findF_next (c : Nat) (s : ByteArray) (pos : Nat) (h : pos < s.size) : findF c (runesAt s pos) pos = if (Utf8.decode s pos).1 = c then some pos else findF c (runesAt s (pos + (Utf8.decode s pos).2)) (pos + (Utf8.decode s pos).2) := by
  rw [runesAt_next s pos h]; rfl
theorem cutF_next (s : ByteArray) (pos a l : Nat) (h : pos < s.size) : cutF (runesAt s pos) pos a l = cutF (runesAt s (pos + (Utf8.decode s pos).2)) (pos + (Utf8.decode s pos).2) pos (Utf8.decode s pos).1 := by
  rw [runesAt_next s pos h]; rfl

set_option maxRecDepth 1000000 in
set_option maxHeartbeats 1000000 in
theorem noRemark_any (s : ByteArray) (w : World) (hs : s.size ≤ maxLen) :
    Calls Tryd.prog 44 #[.string s] w fun e w' => e = .returned (.string (noRemark s)) ∧ Below w.heap.size w w' := by
  unfold maxLen at hs
  go_enter Tryd.func44, Tryd.ntmps44
  go_wp2
  go_loopw [3, 4] (fun _ _ w' => ∃ pos : Nat, w' = w.iter s pos ∧ findF 35 (runesAt s pos) pos = findF 35 (runesAt s 0) 0 ∧ pos ≤ s.size) (fun _ _ w' => s.size - w'.iterPos w.heap.size)
  case atStart => exact ⟨0, rfl, rfl, by omega⟩
  case round =>
    obtain ⟨pos, rfl, hc, hps⟩ := hrel
    have HC : Hid (findF 35 (runesAt s pos) pos = findF 35 (runesAt s 0) 0) := hc
    clear hc
    by_cases hp : pos < s.size
    · have hnx : ∀ ty, (Instr.next (.pointer (some ⟨w.heap.size, 0, none⟩)) true ty).run Tryd.prog (w.iter s pos) = _ := fun ty => run_next_any w s pos ty hp
      have hwd := width_at s pos hp
      have hn := findF_next 35 s pos hp
      have HN : Hid (findF 35 (runesAt s pos) pos = _) := hn
      clear hn
      generalize hr : Utf8.decode s pos = dd at *
      obtain ⟨r, wd⟩ := dd
      simp only at *
      clear hr
      by_cases h35 : r = 35
      · subst h35
        go_wp2
        go_ret
        refine ⟨?_, (Below.refl _ _).alloc (Nat.le_refl _) _⟩
        have h1 := HC.out
        rw [HN.out, if_pos trivial] at h1
        rw [noRemark, ← h1]
        rfl
      · have h35' : ((r : Int) == 35) = false := by simp; omega
        rw [if_neg h35] at HN
        clear h35
        go_wp2
        go_roundw
        case rel => exact ⟨pos + wd, rfl, by rw [← HN.out]; exact HC.out, by omega⟩
        case measure =>
          simp
          omega
    · have hnx : ∀ ty, (Instr.next (.pointer (some ⟨w.heap.size, 0, none⟩)) true ty).run Tryd.prog (w.iter s pos) = _ := fun ty => run_next_end w s pos ty hp
      go_wp2
      go_ret
      refine ⟨?_, (Below.refl _ _).alloc (Nat.le_refl _) _⟩
      have h1 := HC.out
      rw [runesAt_end s pos hp] at h1
      rw [noRemark, ← h1]
      rfl

set_option maxRecDepth 1000000 in
set_option maxHeartbeats 1000000 in
theorem cutLine_any (s : ByteArray) (w : World) (hs : s.size ≤ maxLen) :
    Calls Tryd.prog 34 #[.string s] w fun e w' => e = .returned (.tuple #[.string (cutLine s).1, .string (cutLine s).2]) ∧ Below w.heap.size w w' := by
  unfold maxLen at hs
  go_enter Tryd.func34, Tryd.ntmps34
  go_wp2
  go_loopw [4, 5] (fun _ _ w' => ∃ pos : Nat, w' = w.iter s pos ∧ findF 10 (runesAt s pos) pos = findF 10 (runesAt s 0) 0 ∧ pos ≤ s.size) (fun _ _ w' => s.size - w'.iterPos w.heap.size)
  case atStart => exact ⟨0, rfl, rfl, by omega⟩
  case round =>
    obtain ⟨pos, rfl, hc, hps⟩ := hrel
    have HC : Hid (findF 10 (runesAt s pos) pos = findF 10 (runesAt s 0) 0) := hc
    clear hc
    by_cases hp : pos < s.size
    · have hnx : ∀ ty, (Instr.next (.pointer (some ⟨w.heap.size, 0, none⟩)) true ty).run Tryd.prog (w.iter s pos) = _ := fun ty => run_next_any w s pos ty hp
      have hwd := width_at s pos hp
      have hn := findF_next 10 s pos hp
      have HN : Hid (findF 10 (runesAt s pos) pos = _) := hn
      clear hn
      generalize hr : Utf8.decode s pos = dd at *
      obtain ⟨r, wd⟩ := dd
      simp only at *
      clear hr
      by_cases h35 : r = 10
      · subst h35
        have b1 : (pos : Int) ≤ (s.size : Int) := by omega
        have b2 : (pos : Int) + 1 ≤ (s.size : Int) := by omega
        go_wp2
        go_quiet (fail)
        go_wp2
        go_ret2
        refine ⟨?_, below_drewN (show Below w.heap.size w (w.iter s (pos + wd)) from (Below.refl _ _).alloc (Nat.le_refl _) _) _⟩
        have h1 := HC.out
        rw [HN.out, if_pos trivial] at h1
        rw [cutLine, ← h1]
        rfl
      · have h35' : ((r : Int) == 10) = false := by simp; omega
        rw [if_neg h35] at HN
        clear h35
        go_wp2
        go_roundw
        case rel => exact ⟨pos + wd, rfl, by rw [← HN.out]; exact HC.out, by omega⟩
        case measure =>
          simp
          omega
    · have hnx : ∀ ty, (Instr.next (.pointer (some ⟨w.heap.size, 0, none⟩)) true ty).run Tryd.prog (w.iter s pos) = _ := fun ty => run_next_end w s pos ty hp
      go_wp2
      go_ret2
      refine ⟨?_, (Below.refl _ _).alloc (Nat.le_refl _) _⟩
      have h1 := HC.out
      rw [runesAt_end s pos hp] at h1
      rw [cutLine, ← h1]
      rfl

theorem cutLast_def (s : ByteArray) (a l : Nat) (h : cutF (runesAt s 0) 0 0 0 = (a, l)) : cutLast s = (s.extract 0 a, l) := by
  rw [cutLast, h]

set_option maxRecDepth 1000000 in
set_option maxHeartbeats 1000000 in
theorem cutLast_any (s : ByteArray) (w : World) :
    Calls Tryd.prog 96 #[.string s] w fun e w' => e = .returned (.tuple #[.string (cutLast s).1, .int .i32 (cutLast s).2]) ∧ Below w.heap.size w w' := by
  go_enter Tryd.func96, Tryd.ntmps96
  go_wp2
  go_loopw [3, 4, 5, 6] (fun l a _ _ w' => ∃ pos a0 l0 : Nat, w' = w.iter s pos ∧ l = .int .i32 l0 ∧ a = .int .i64 a0 ∧ cutF (runesAt s pos) pos a0 l0 = cutF (runesAt s 0) 0 0 0 ∧ pos ≤ s.size ∧ a0 ≤ s.size) (fun _ _ _ _ w' => s.size - w'.iterPos w.heap.size)
  case atStart => exact ⟨0, 0, 0, rfl, rfl, rfl, rfl, by omega, by omega⟩
  case round =>
    obtain ⟨pos, a0, l0, rfl, rfl, rfl, hc, hps, ha⟩ := hrel
    have HC : Hid (cutF (runesAt s pos) pos a0 l0 = cutF (runesAt s 0) 0 0 0) := hc
    clear hc
    by_cases hp : pos < s.size
    · have hnx : ∀ ty, (Instr.next (.pointer (some ⟨w.heap.size, 0, none⟩)) true ty).run Tryd.prog (w.iter s pos) = _ := fun ty => run_next_any w s pos ty hp
      have hwd := width_at s pos hp
      have hn := cutF_next s pos a0 l0 hp
      have HN : Hid (cutF (runesAt s pos) pos a0 l0 = _) := hn
      clear hn
      generalize hr : Utf8.decode s pos = dd at *
      obtain ⟨r, wd⟩ := dd
      simp only at *
      clear hr
      go_wp2
      go_roundw
      case rel => exact ⟨pos + wd, pos, r, rfl, rfl, rfl, by rw [← HN.out]; exact HC.out, by omega, by omega⟩
      case measure =>
        simp
        omega
    · have hnx : ∀ ty, (Instr.next (.pointer (some ⟨w.heap.size, 0, none⟩)) true ty).run Tryd.prog (w.iter s pos) = _ := fun ty => run_next_end w s pos ty hp
      go_wp2
      go_ret2
      refine ⟨?_, (Below.refl _ _).alloc (Nat.le_refl _) _⟩
      have h1 := HC.out
      rw [runesAt_end s pos hp] at h1
      rw [cutLast_def s a0 l0 h1.symm]
      rfl

theorem blk_grown {w w' : World} {R c : Nat} {o : Obj} (hg : w.grownBy w' (some R)) (h : w.heap[c]? = some o) (hne : c ≠ R) : w'.heap[c]? = some o :=
  (hg.block c (Array.getElem?_eq_some_iff.1 h).1 (fun e => hne (Option.some.inj e))).trans h
theorem blk_below {w w' : World} {c : Nat} {o : Obj} (hb : Below w.heap.size w w') (h : w.heap[c]? = some o) : w'.heap[c]? = some o :=
  (hb.block c (Array.getElem?_eq_some_iff.1 h).1).trans h
theorem blk_new (w : World) (o : Obj) : (w.alloc o).heap[w.heap.size]? = some o := by
  show (w.heap.push o)[w.heap.size]? = some o
  simp
theorem blk_old {w : World} {c : Nat} {o o' : Obj} (h : w.heap[c]? = some o) : (w.alloc o').heap[c]? = some o :=
  (Below.heap_alloc _ _ _ (Array.getElem?_eq_some_iff.1 h).1).trans h
theorem grown_new {a b : World} {R c : Nat} (h : a.grownBy b (some R)) (hc : a.heap.size ≤ c) (o : Nat) (u : Value) : a.grownBy (b.setCell ⟨c, o, none⟩ u) (some R) :=
  h.andThen (grown_set b c o u) (fun j e => .inl (by cases e; exact hc))
theorem RdIn.far {w : World} {R c : Nat} {r : Rd} (h : RdIn w R r) (hc : R < c) (o : Nat) (u : Value) : RdIn (w.setCell ⟨c, o, none⟩ u) R r :=
  h.keep fun k hk => Below.heap_setCell _ _ _ _ (by show k ≠ c; omega)
theorem grown_size {a b : World} {row : Option Nat} (h : a.grownBy b row) : a.heap.size ≤ b.heap.size := h.size

theorem wantE_true {f : Nat} {x : ByteArray} (h : capB x = true) : wantE f x = f := by simp [wantE, h]
theorem wantE_false {f : Nat} {x : ByteArray} (h : capB x = false) : wantE f x = failE f 3 := by simp [wantE, h]

set_option maxRecDepth 1000000 in
set_option maxHeartbeats 1000000 in
theorem want_any (R : Nat) (r : Rd) (w : World) (h : RdIn w R r) :
    Calls Tryd.prog 90 #[.pointer (some ⟨R, 0, none⟩)] w fun en w' => en = .returned (.agg #[.string (rWant r).1.1, .bool (rWant r).1.2]) ∧ RdIn w' R (rWant r).2 ∧ w.grownBy w' (some R) := by
  have H : Hid (RdIn w R r) := h
  have hR := h.lt
  clear h
  have HU : Hid (rWant r = (((cutLast (rNext r).1).1, decide ((cutLast (rNext r).1).2 = 45)), ((rNext r).2.1, wantE (signE (rNext r).2.2 (cutLast (rNext r).1).2) (cutLast (rNext r).1).1))) := rfl
  have HX := fun W => next_any R r W
  generalize hx : rNext r = q at *
  obtain ⟨x, q⟩ := q
  simp only at *
  have HY : Hid (∀ W, RdIn W R r → Calls Tryd.prog 45 #[.pointer (some ⟨R, 0, none⟩)] W fun en w' => en = .returned (.string x) ∧ RdIn w' R q ∧ W.grownBy w' (some R)) := HX
  have HL := fun W => cutLast_any x W
  generalize cutLast x = y at *
  obtain ⟨nm, l⟩ := y
  simp only at *
  clear HX hx
  have C := fun W => isNAME_any nm W
  have HA : Hid (RdIn (w.alloc (.cells #[.string ⟨#[]⟩, .bool false] 132)) R r) := H.out.below ((Below.refl _ _).alloc (Nat.le_refl _) _)
  have HG : Hid (w.grownBy (w.alloc (.cells #[.string ⟨#[]⟩, .bool false] 132)) (some R)) := World.grownBy_alloc _ _ _
  clear H
  have HU2 : Hid ((rWant r).1 = (nm, decide (l = 45))) := by rw [Hid, HU.out]
  have HU3 : Hid ((rWant r).2 = (q.1, wantE (signE q.2 l) nm)) := by rw [Hid, HU.out]
  clear HU
  have HC : Hid ((w.alloc (.cells #[.string ⟨#[]⟩, .bool false] 132)).heap[w.heap.size]? = some (.cells #[.string ⟨#[]⟩, .bool false] 132 (0, 0))) := blk_new _ _
  have hsg : (l = 43 ∧ decide (l = 45) = false ∧ signE q.2 l = q.2) ∨ (l = 45 ∧ decide (l = 45) = true ∧ signE q.2 l = q.2) ∨ (l ≠ 43 ∧ l ≠ 45 ∧ decide (l = 45) = false ∧ signE q.2 l = failE q.2 2) := by
    by_cases h43 : l = 43
    · subst h43; exact .inl ⟨rfl, rfl, by simp [signE]⟩
    · by_cases h45 : l = 45
      · subst h45; exact .inr (.inl ⟨rfl, rfl, by simp [signE]⟩)
      · exact .inr (.inr ⟨h43, h45, decide_eq_false h45, by simp [signE, h43, h45]⟩)
  cases hb : capB nm <;> rcases hsg with ⟨rfl, hd, hs⟩ | ⟨rfl, hd, hs⟩ | ⟨h43, h45, hd, hs⟩
  all_goals
    first | rw [hs, wantE_true hb] at HU3 | rw [hs, wantE_false hb] at HU3
    rw [hd] at HU2
    rw [hb] at C
    clear hd hs hb
    try have e43 : ((l : Int) != 43) = true := by rw [bne_iff_ne]; omega
    try have e45 : ((l : Int) != 45) = true := by rw [bne_iff_ne]; omega
    try have e45' : ((l : Int) == 45) = false := by simp; omega
    try clear h43 h45
    go_enter Tryd.func90, Tryd.ntmps90
    go_wp2_with fail
    refine (HY.out _ HA.out).mono ?_
    rintro e w1 ⟨rfl, h1, h2⟩
    go_wp2_with fail
    refine (HL _).mono ?_
    rintro e w2 ⟨rfl, hb2⟩
    go_wp2_with fail
  · refine (C _).mono ?_
    rintro e w3 ⟨rfl, hb3⟩
    go_wp2_with fail
    refine (fail_any R q 3 _ ((h1.below hb2).below hb3)).mono ?_
    rintro e w4 ⟨rfl, hrd, h6⟩
    have hblk := blk_grown h6 (blk_below hb3 (blk_below hb2 (blk_grown h2 HC.out (by omega)))) (by omega)
    have hgr := (grown_below (grown_below (HG.out.trans h2) hb2) hb3).trans h6
    obtain ⟨c0, c1, f0, f1⟩ := two_cells hblk
    go_wp2
    refine bodyPost_ret (v := .agg #[.string nm, .bool false]) (by simp [results, Tryd.results90, go_sem, c0, c1]) rfl ⟨by rw [HU2.out], by rw [HU3.out]; exact (hrd.far (by omega) _ _).far (by omega) _ _, grown_new (grown_new hgr (Nat.le_refl _) _ _) (Nat.le_refl _) _ _⟩
  · refine (C _).mono ?_
    rintro e w3 ⟨rfl, hb3⟩
    go_wp2_with fail
    refine (fail_any R q 3 _ ((h1.below hb2).below hb3)).mono ?_
    rintro e w4 ⟨rfl, hrd, h6⟩
    have hblk := blk_grown h6 (blk_below hb3 (blk_below hb2 (blk_grown h2 HC.out (by omega)))) (by omega)
    have hgr := (grown_below (grown_below (HG.out.trans h2) hb2) hb3).trans h6
    obtain ⟨c0, c1, f0, f1⟩ := two_cells hblk
    go_wp2
    refine bodyPost_ret (v := .agg #[.string nm, .bool true]) (by simp [results, Tryd.results90, go_sem, c0, c1]) rfl ⟨by rw [HU2.out], by rw [HU3.out]; exact (hrd.far (by omega) _ _).far (by omega) _ _, grown_new (grown_new hgr (Nat.le_refl _) _ _) (Nat.le_refl _) _ _⟩
  · refine (fail_any R q 2 _ (h1.below hb2)).mono ?_
    rintro e w3 ⟨rfl, h3, h4⟩
    go_wp2_with fail
    refine (C _).mono ?_
    rintro e w4 ⟨rfl, hb4⟩
    go_wp2_with fail
    refine (fail_any R (q.1, failE q.2 2) 3 _ (h3.below hb4)).mono ?_
    rintro e w5 ⟨rfl, hrd, h6⟩
    have hblk := blk_grown h6 (blk_below hb4 (blk_grown h4 (blk_below hb2 (blk_grown h2 HC.out (by omega))) (by omega))) (by omega)
    have hgr := (grown_below ((grown_below (HG.out.trans h2) hb2).trans h4) hb4).trans h6
    obtain ⟨c0, c1, f0, f1⟩ := two_cells hblk
    go_wp2
    refine bodyPost_ret (v := .agg #[.string nm, .bool false]) (by simp [results, Tryd.results90, go_sem, c0, c1]) rfl ⟨by rw [HU2.out], by rw [HU3.out]; exact (hrd.far (by omega) _ _).far (by omega) _ _, grown_new (grown_new hgr (Nat.le_refl _) _ _) (Nat.le_refl _) _ _⟩
  · refine (C _).mono ?_
    rintro e w3 ⟨rfl, hb3⟩
    have hrd := (h1.below hb2).below hb3
    have hblk := blk_below hb3 (blk_below hb2 (blk_grown h2 HC.out (by omega)))
    have hgr := grown_below (grown_below (HG.out.trans h2) hb2) hb3
    obtain ⟨c0, c1, f0, f1⟩ := two_cells hblk
    go_wp2
    refine bodyPost_ret (v := .agg #[.string nm, .bool false]) (by simp [results, Tryd.results90, go_sem, c0, c1]) rfl ⟨by rw [HU2.out], by rw [HU3.out]; exact (hrd.far (by omega) _ _).far (by omega) _ _, grown_new (grown_new hgr (Nat.le_refl _) _ _) (Nat.le_refl _) _ _⟩
  · refine (C _).mono ?_
    rintro e w3 ⟨rfl, hb3⟩
    have hrd := (h1.below hb2).below hb3
    have hblk := blk_below hb3 (blk_below hb2 (blk_grown h2 HC.out (by omega)))
    have hgr := grown_below (grown_below (HG.out.trans h2) hb2) hb3
    obtain ⟨c0, c1, f0, f1⟩ := two_cells hblk
    go_wp2
    refine bodyPost_ret (v := .agg #[.string nm, .bool true]) (by simp [results, Tryd.results90, go_sem, c0, c1]) rfl ⟨by rw [HU2.out], by rw [HU3.out]; exact (hrd.far (by omega) _ _).far (by omega) _ _, grown_new (grown_new hgr (Nat.le_refl _) _ _) (Nat.le_refl _) _ _⟩
  · refine (fail_any R q 2 _ (h1.below hb2)).mono ?_
    rintro e w3 ⟨rfl, h3, h4⟩
    go_wp2_with fail
    refine (C _).mono ?_
    rintro e w4 ⟨rfl, hb4⟩
    have hrd := h3.below hb4
    have hblk := blk_below hb4 (blk_grown h4 (blk_below hb2 (blk_grown h2 HC.out (by omega))) (by omega))
    have hgr := grown_below ((grown_below (HG.out.trans h2) hb2).trans h4) hb4
    obtain ⟨c0, c1, f0, f1⟩ := two_cells hblk
    go_wp2
    refine bodyPost_ret (v := .agg #[.string nm, .bool false]) (by simp [results, Tryd.results90, go_sem, c0, c1]) rfl ⟨by rw [HU2.out], by rw [HU3.out]; exact (hrd.far (by omega) _ _).far (by omega) _ _, grown_new (grown_new hgr (Nat.le_refl _) _ _) (Nat.le_refl _) _ _⟩

end Go.Proofs.YtgiaicmhnkhbnaaDoor

namespace Go.Proofs.YtgiaicmhnkhbnaaDoor
open Go.RowKit

theorem rNext_tail (r : Rd) : (rNext r).2.1 = r.1.tail := by
  obtain ⟨ws, f⟩ := r
  cases ws <;> rfl
theorem rName_tail (r : Rd) : (rName r).2.1 = r.1.tail := by
  rw [← rNext_tail, rName]
  cases capB (rNext r).1 <;> rfl
theorem rWant_tail (r : Rd) : (rWant r).2.1 = r.1.tail := by
  rw [← rNext_tail, rWant]

theorem rowF_on {α : Type} {one : Rd → α × Rd} (ht : ∀ r, (one r).2.1 = r.1.tail) (r : Rd) (h : rGoes r = true) :
    rowF one r.1.length r = ((one r).1 :: (rowF one (one r).2.1.length (one r).2).1, (rowF one (one r).2.1.length (one r).2).2) := by
  obtain ⟨ws, f⟩ := r
  cases ws with
  | nil => simp [rGoes] at h
  | cons x ws =>
    have e := ht (x :: ws, f)
    rw [show (x :: ws, f).1.tail = ws from rfl] at e
    rw [show (x :: ws, f).1.length = ws.length + 1 from rfl, rowF, if_pos h, e]
theorem rowF_off {α : Type} {one : Rd → α × Rd} (r : Rd) (h : rGoes r = false) : rowF one r.1.length r = ([], r) := by
  cases hl : r.1.length with
  | zero => rfl
  | succ n => rw [rowF, h]; rfl

theorem owns_lit {w : World} {B g n size : Nat} {e : TypeId} {cur : Array Value} (h : w.heap[g]? = some (.cells cur e (0, 0))) (hB : B ≤ g) (hs : cur.size = n * size) (hn : n ≤ maxLen) :
    w.ownsRow B e size (.slice (some ⟨g, 0, none⟩) n n) n cur.toList :=
  ⟨by simpa using hs, .inr ⟨g, n, cur, rfl, hB, h, Nat.le_refl _, hn, hs, by rw [List.take_of_length_le (by simp [hs])]⟩⟩

theorem infoS : (Tryd.prog.info? 9).map (fun i => (i.zero, i.size, i.bytes)) = some (some (.string ⟨#[]⟩), 1, 16) := by kernel_rfl
theorem infoWt : (Tryd.prog.info? 132).map (fun i => (i.zero, i.size, i.bytes)) = some (some (.agg #[.string ⟨#[]⟩, .bool false]), 2, 24) := by kernel_rfl

def strCells (l : List ByteArray) : List Value := l.map .string
def wtCells (l : List Wt) : List Value := l.flatMap fun x => [.string x.1, .bool x.2]

theorem own_ne {w : World} {base : Nat} {e : TypeId} {size : Nat} {v : Value} {n : Nat} {xs : List Value} {R : Nat} (h : w.ownsRow base e size v n xs) (hR : R < base) : v.ownBlock ≠ some R := fun e => by
  have := (h.lt R e).1
  omega
/-- An append to a row of the call's own leaves the reader. -/
theorem RdIn.app {w w' : World} {R : Nat} {r : Rd} {o : Obj} {base : Nat} {e : TypeId} {size : Nat} {v : Value} {n : Nat} {xs : List Value} (h : RdIn w R r) (ho : w.ownsRow base e size v n xs) (hR : R < base) (hg : (w.alloc o).grownBy w' v.ownBlock) : RdIn w' R r :=
  h.keep fun k hk => (hg.block k (by have := h.lt; simp; omega) (fun e => by have := (ho.lt k e.symm).1; omega)).trans (Below.heap_alloc _ _ _ (by have := h.lt; omega))
theorem grown_app {a w w' : World} {R : Nat} {o : Obj} {base : Nat} {e : TypeId} {size : Nat} {v : Value} {n : Nat} {xs : List Value} (h : a.grownBy w (some R)) (ho : w.ownsRow base e size v n xs) (hb : a.heap.size ≤ base) (hg : (w.alloc o).grownBy w' v.ownBlock) : a.grownBy w' (some R) :=
  (h.andThen (World.grownBy_alloc w o none) (fun j e => by cases e)).andThen hg (fun j e => .inl (by have := (ho.lt j e).1; omega))

theorem strCells_snoc (l : List ByteArray) (x : ByteArray) : strCells (l ++ [x]) = strCells l ++ [.string x] := by simp [strCells]
theorem wtCells_snoc (l : List Wt) (x : Wt) : wtCells (l ++ [x]) = wtCells l ++ [.string x.1, .bool x.2] := by simp [wtCells]
theorem one_str (a : ByteArray) : ∀ u ∈ [Value.string a], u.oneCell' = true := by
  intro u hu
  rw [List.mem_singleton.1 hu]
  rfl
theorem two_wt (a : ByteArray) (b : Bool) : ∀ u ∈ [Value.string a, Value.bool b], u.oneCell' = true := by
  intro u hu
  simp at hu
  rcases hu with rfl | rfl <;> rfl

set_option maxRecDepth 1000000 in
set_option maxHeartbeats 2000000 in
theorem rowS_any (R : Nat) (r : Rd) (w : World) (h : RdIn w R r) :
    Calls Tryd.prog 75 #[.pointer (some ⟨R, 0, none⟩), .func (.func 56) #[.pointer (some ⟨R, 0, none⟩)] #[]] w fun en w' => ∃ v, en = .returned v ∧ w'.ownsRow w.heap.size 9 1 v (rRow rName r).1.length (strCells (rRow rName r).1) ∧ RdIn w' R (rRow rName r).2 ∧ w.grownBy w' (some R) := by
  have hR := h.lt
  have hlen := h.len
  have H : Hid (RdIn w R r) := h
  clear h
  obtain ⟨i0, hi, hz0, hz1, hz2⟩ := info_parts infoS
  have N0 := name_any R r w H.out
  have HT : Hid ((rName r).2.1.length ≤ r.1.length) := by rw [Hid, rName_tail r, List.length_tail]; omega
  have HRR : Hid (rRow rName r = ((rName r).1 :: (rowF rName (rName r).2.1.length (rName r).2).1, (rowF rName (rName r).2.1.length (rName r).2).2)) := rfl
  generalize rRow rName r = full at *
  generalize rName r = q at *
  obtain ⟨x, q⟩ := q
  simp only at *
  have hql : q.1.length ≤ 4294967296 := by have := HT.out; omega
  have HN0 : Hid (Calls Tryd.prog 56 #[.pointer (some ⟨R, 0, none⟩)] w fun en w' => en = .returned (.string x) ∧ RdIn w' R q ∧ w.grownBy w' (some R)) := N0
  clear N0 H HT
  go_enter Tryd.func75, Tryd.ntmps75
  go_wp2_with fail
  refine HN0.out.mono ?_
  rintro e w1 ⟨rfl, h1, h2⟩
  have hw1 := h2.size
  have hown1 : (w1.alloc (.cells #[.string x] 9)).ownsRow w.heap.size 9 1 (.slice (some ⟨w1.heap.size, 0, none⟩) 1 1) 1 (strCells [x]) := owns_lit (blk_new _ _) hw1 rfl (by decide)
  have hrd1 : RdIn (w1.alloc (.cells #[.string x] 9)) R q := h1.below ((Below.refl _ _).alloc (Nat.le_refl _) _)
  have hgr1 : w.grownBy (w1.alloc (.cells #[.string x] 9)) (some R) := grown_below h2 ((Below.refl _ _).alloc (Nat.le_refl _) _)
  have HF1 : Hid ([x] ++ (rowF rName q.1.length q).1 = full.1) := by rw [Hid, HRR.out]; rfl
  have HF2 : Hid ((rowF rName q.1.length q).2 = full.2) := by rw [Hid, HRR.out]
  clear h1 h2 HN0 HRR
  go_wp2
  go_loopg [5] (q.1.length) (fun gg v wr => ∃ (acc : List ByteArray) (q' : Rd), gg = q'.1.length ∧ wr.ownsRow w.heap.size 9 1 v acc.length (strCells acc) ∧ RdIn wr R q' ∧ w.grownBy wr (some R) ∧ acc ++ (rowF rName q'.1.length q').1 = full.1 ∧ (rowF rName q'.1.length q').2 = full.2 ∧ acc.length + q'.1.length ≤ q.1.length + 1)
  case atStart => exact ⟨[x], q, rfl, hown1, hrd1, hgr1, HF1.out, HF2.out, by simp; omega⟩
  case round =>
    obtain ⟨acc, q', rfl, hown, hrd, hgr, hf1, hf2, hal⟩ := hrel
    have HG1 : Hid (acc ++ (rowF rName q'.1.length q').1 = full.1) := hf1
    have HG2 : Hid ((rowF rName q'.1.length q').2 = full.2) := hf2
    have HRD : Hid (RdIn wr R q') := hrd
    clear hf1 hf2 hown1 hrd1 hgr1 HF1 HF2
    have G := fun W => goes_any R q' W
    cases hg : rGoes q'
    · rw [hg] at G
      rw [rowF_off q' hg] at HG1 HG2
      go_wp2_with fail
      refine (G _ hrd).mono ?_
      rintro e w2 ⟨rfl, rfl⟩
      go_wp2
      go_ret
      have e1 := HG1.out
      simp only [List.append_nil] at e1
      exact ⟨_, rfl, by rw [← e1]; exact hown, by rw [← HG2.out]; exact hrd, hgr⟩
    · rw [hg] at G
      rw [rowF_on rName_tail q' hg] at HG1 HG2
      have hql' : 1 ≤ q'.1.length := by
        obtain ⟨ws, f⟩ := q'
        cases ws with
        | nil => simp [rGoes] at hg
        | cons y ws => simp
      have HT2 : Hid ((rName q').2.1.length + 1 = q'.1.length) := by rw [Hid, rName_tail q', List.length_tail]; omega
      have N1 := fun W => name_any R q' W
      generalize rName q' = p at *
      obtain ⟨y, p⟩ := p
      simp only at *
      have HN1 : Hid (∀ W, RdIn W R q' → Calls Tryd.prog 56 #[.pointer (some ⟨R, 0, none⟩)] W fun en w' => en = .returned (.string y) ∧ RdIn w' R p ∧ W.grownBy w' (some R)) := N1
      clear N1
      go_wp2_with fail
      refine (G _ HRD.out).mono ?_
      rintro e w2 ⟨rfl, hw⟩
      obtain rfl := hw
      go_wp2_with fail
      refine (HN1.out _ HRD.out).mono ?_
      rintro e w3 ⟨rfl, h3, h4⟩
      have hown3 := hown.kept h4 (.inr (own_ne hown hR))
      have hgr3 := hgr.trans h4
      have hsz3 := hgr3.size
      clear h4 hown HRD hrd hgr G
      go_wp2_with (at_builtin; refine wpList_append_own _ rfl _ _ 22 rfl w.heap.size 9 i0 (.string ⟨#[]⟩) 1 16 Tryd.underlying22 hi hz0 hz1 hz2 rfl (by decide) _ _ _ rfl (hown3.alloc _) ⟨w3.heap.size, 0, none⟩ 1 1 [.string y] rfl rfl (cell_one_new _ _ _) (one_str _) (by unfold maxLen; omega) (by omega) (by simp; omega) ?_)
      intro v' w4 hown4 hgrow _
      have hrd4 := h3.app hown3 hR hgrow
      have hgr4 := grown_app hgr3 hown3 (Nat.le_refl _) hgrow
      clear hown3 hgrow hgr3 h3
      go_wp2
      go_roundg (p.1.length)
      case rel => exact ⟨acc ++ [y], p, rfl, by rw [List.length_append, strCells_snoc]; exact hown4, hrd4, hgr4, by rw [← HG1.out]; simp, HG2.out, by have := HT2.out; simp; omega⟩
      case measure => have := HT2.out; omega

set_option maxRecDepth 1000000 in
set_option maxHeartbeats 2000000 in
theorem rowW_any (R : Nat) (r : Rd) (w : World) (h : RdIn w R r) :
    Calls Tryd.prog 89 #[.pointer (some ⟨R, 0, none⟩), .func (.func 90) #[.pointer (some ⟨R, 0, none⟩)] #[]] w fun en w' => ∃ v, en = .returned v ∧ w'.ownsRow w.heap.size 132 2 v (rRow rWant r).1.length (wtCells (rRow rWant r).1) ∧ RdIn w' R (rRow rWant r).2 ∧ w.grownBy w' (some R) := by
  have hR := h.lt
  have hlen := h.len
  have H : Hid (RdIn w R r) := h
  clear h
  obtain ⟨i0, hi, hz0, hz1, hz2⟩ := info_parts infoWt
  have N0 := want_any R r w H.out
  have HT : Hid ((rWant r).2.1.length ≤ r.1.length) := by rw [Hid, rWant_tail r, List.length_tail]; omega
  have HRR : Hid (rRow rWant r = ((rWant r).1 :: (rowF rWant (rWant r).2.1.length (rWant r).2).1, (rowF rWant (rWant r).2.1.length (rWant r).2).2)) := rfl
  generalize rRow rWant r = full at *
  generalize rWant r = q at *
  obtain ⟨x, q⟩ := q
  simp only at *
  have hql : q.1.length ≤ 4294967296 := by have := HT.out; omega
  have HN0 : Hid (Calls Tryd.prog 90 #[.pointer (some ⟨R, 0, none⟩)] w fun en w' => en = .returned (.agg #[.string x.1, .bool x.2]) ∧ RdIn w' R q ∧ w.grownBy w' (some R)) := N0
  clear N0 H HT
  go_enter Tryd.func89, Tryd.ntmps89
  go_wp2_with fail
  refine HN0.out.mono ?_
  rintro e w1 ⟨rfl, h1, h2⟩
  have hw1 := h2.size
  have hown1 : (w1.alloc (.cells #[.string x.1, .bool x.2] 132)).ownsRow w.heap.size 132 2 (.slice (some ⟨w1.heap.size, 0, none⟩) 1 1) 1 (wtCells [x]) := owns_lit (blk_new _ _) hw1 rfl (by decide)
  have hrd1 : RdIn (w1.alloc (.cells #[.string x.1, .bool x.2] 132)) R q := h1.below ((Below.refl _ _).alloc (Nat.le_refl _) _)
  have hgr1 : w.grownBy (w1.alloc (.cells #[.string x.1, .bool x.2] 132)) (some R) := grown_below h2 ((Below.refl _ _).alloc (Nat.le_refl _) _)
  have HF1 : Hid ([x] ++ (rowF rWant q.1.length q).1 = full.1) := by rw [Hid, HRR.out]; rfl
  have HF2 : Hid ((rowF rWant q.1.length q).2 = full.2) := by rw [Hid, HRR.out]
  clear h1 h2 HN0 HRR
  go_wp2
  go_loopg [5] (q.1.length) (fun gg v wr => ∃ (acc : List Wt) (q' : Rd), gg = q'.1.length ∧ wr.ownsRow w.heap.size 132 2 v acc.length (wtCells acc) ∧ RdIn wr R q' ∧ w.grownBy wr (some R) ∧ acc ++ (rowF rWant q'.1.length q').1 = full.1 ∧ (rowF rWant q'.1.length q').2 = full.2 ∧ acc.length + q'.1.length ≤ q.1.length + 1)
  case atStart => exact ⟨[x], q, rfl, hown1, hrd1, hgr1, HF1.out, HF2.out, by simp; omega⟩
  case round =>
    obtain ⟨acc, q', rfl, hown, hrd, hgr, hf1, hf2, hal⟩ := hrel
    have HG1 : Hid (acc ++ (rowF rWant q'.1.length q').1 = full.1) := hf1
    have HG2 : Hid ((rowF rWant q'.1.length q').2 = full.2) := hf2
    have HRD : Hid (RdIn wr R q') := hrd
    clear hf1 hf2 hown1 hrd1 hgr1 HF1 HF2
    have G := fun W => goes_any R q' W
    cases hg : rGoes q'
    · rw [hg] at G
      rw [rowF_off q' hg] at HG1 HG2
      go_wp2_with fail
      refine (G _ hrd).mono ?_
      rintro e w2 ⟨rfl, rfl⟩
      go_wp2
      go_ret
      have e1 := HG1.out
      simp only [List.append_nil] at e1
      exact ⟨_, rfl, by rw [← e1]; exact hown, by rw [← HG2.out]; exact hrd, hgr⟩
    · rw [hg] at G
      rw [rowF_on rWant_tail q' hg] at HG1 HG2
      have hql' : 1 ≤ q'.1.length := by
        obtain ⟨ws, f⟩ := q'
        cases ws with
        | nil => simp [rGoes] at hg
        | cons y ws => simp
      have HT2 : Hid ((rWant q').2.1.length + 1 = q'.1.length) := by rw [Hid, rWant_tail q', List.length_tail]; omega
      have N1 := fun W => want_any R q' W
      generalize rWant q' = p at *
      obtain ⟨y, p⟩ := p
      simp only at *
      have HN1 : Hid (∀ W, RdIn W R q' → Calls Tryd.prog 90 #[.pointer (some ⟨R, 0, none⟩)] W fun en w' => en = .returned (.agg #[.string y.1, .bool y.2]) ∧ RdIn w' R p ∧ W.grownBy w' (some R)) := N1
      clear N1
      go_wp2_with fail
      refine (G _ HRD.out).mono ?_
      rintro e w2 ⟨rfl, hw⟩
      obtain rfl := hw
      go_wp2_with fail
      refine (HN1.out _ HRD.out).mono ?_
      rintro e w3 ⟨rfl, h3, h4⟩
      have hown3 := hown.kept h4 (.inr (own_ne hown hR))
      have hgr3 := hgr.trans h4
      have hsz3 := hgr3.size
      clear h4 hown HRD hrd hgr G
      go_wp2_with (at_builtin; refine wpList_append_own _ rfl _ _ 107 rfl w.heap.size 132 i0 (.agg #[.string ⟨#[]⟩, .bool false]) 2 24 Tryd.underlying107 hi hz0 hz1 hz2 rfl (by decide) _ _ _ rfl (hown3.alloc _) ⟨w3.heap.size, 0, none⟩ 1 1 [.string y.1, .bool y.2] rfl rfl (cell_two_new _ _ _ _) (two_wt _ _) (by unfold maxLen; omega) (by omega) (by simp; omega) ?_)
      intro v' w4 hown4 hgrow _
      have hrd4 := h3.app hown3 hR hgrow
      have hgr4 := grown_app hgr3 hown3 (Nat.le_refl _) hgrow
      clear hown3 hgrow hgr3 h3
      go_wp2
      go_roundg (p.1.length)
      case rel => exact ⟨acc ++ [y], p, rfl, by rw [List.length_append, wtCells_snoc]; exact hown4, hrd4, hgr4, by rw [← HG1.out]; simp, HG2.out, by have := HT2.out; simp; omega⟩
      case measure => have := HT2.out; omega

end Go.Proofs.YtgiaicmhnkhbnaaDoor

namespace Go.Proofs.YtgiaicmhnkhbnaaDoor
open Go.RowKit

set_option maxHeartbeats 1000000 in
theorem wants_any (R : Nat) (t : ByteArray) (r : Rd) (w : World) (h : RdIn w R r) :
    Calls Tryd.prog 76 #[.pointer (some ⟨R, 0, none⟩), .string t] w fun en w' => ∃ v, en = .returned v ∧ w'.ownsRow w.heap.size 132 2 v (rWants t r).1.length (wtCells (rWants t r).1) ∧ RdIn w' R (rWants t r).2 ∧ w.grownBy w' (some R) := by
  have H : Hid (RdIn w R r) := h
  clear h
  have C := fun W => ahead_any R t r W
  have HU : Hid (rWants t r = if rAhead t r = true then rRow rWant (rWord t r) else ([], r)) := rfl
  generalize rWants t r = full at *
  cases ha : rAhead t r
  · rw [ha] at C HU
    go_enter Tryd.func76, Tryd.ntmps76
    go_wp2_with fail
    refine (C _ H.out).mono ?_
    rintro e w1 ⟨rfl, rfl⟩
    go_wp2
    go_ret
    exact ⟨_, rfl, by rw [HU.out]; exact World.ownsRow_nil _ _ _ _, by rw [HU.out]; exact H.out, World.grownBy.refl _ _⟩
  · rw [ha] at C HU
    go_enter Tryd.func76, Tryd.ntmps76
    go_wp2_with fail
    refine (C _ H.out).mono ?_
    rintro e w1 ⟨rfl, hw⟩
    obtain rfl := hw.symm
    go_wp2_with fail
    refine (word_any R t r _ H.out).mono ?_
    rintro e w1 ⟨rfl, h1, h2⟩
    go_wp2_with fail
    refine (rowW_any R _ _ h1).mono ?_
    rintro e w2 ⟨v, rfl, hown, h3, h4⟩
    go_wp2
    go_ret
    exact ⟨v, rfl, by rw [HU.out]; exact owns_mono hown h2.size, by rw [HU.out]; exact h3, h2.trans h4⟩

theorem own_slice {w : World} {base : Nat} {e : TypeId} {size : Nat} {v : Value} {n : Nat} {xs : List Value} (h : w.ownsRow base e size v n xs) : ∃ oa cap, v = .slice oa n cap := by
  rcases h.2 with ⟨h1, h2⟩ | ⟨g, cap, cur, h1, _⟩
  · exact ⟨none, 0, by rw [h1, h2]⟩
  · exact ⟨_, _, h1⟩

/-- A block of six cells. -/
theorem six_cells {w : World} {c : Nat} {a b d e f g : Value} {t : TypeId} (h : w.heap[c]? = some (.cells #[a, b, d, e, f, g] t (0, 0))) :
    (w.cell? ⟨c, 0, none⟩ = some a ∧ w.cell? ⟨c, 1, none⟩ = some b ∧ w.cell? ⟨c, 2, none⟩ = some d ∧ w.cell? ⟨c, 3, none⟩ = some e ∧ w.cell? ⟨c, 4, none⟩ = some f ∧ w.cell? ⟨c, 5, none⟩ = some g) ∧
    w.frozen? ⟨c, 0, none⟩ = false ∧ w.frozen? ⟨c, 1, none⟩ = false ∧ w.frozen? ⟨c, 2, none⟩ = false ∧ w.frozen? ⟨c, 3, none⟩ = false ∧ w.frozen? ⟨c, 4, none⟩ = false ∧ w.frozen? ⟨c, 5, none⟩ = false := by
  refine ⟨⟨?_, ?_, ?_, ?_, ?_, ?_⟩, ?_, ?_, ?_, ?_, ?_, ?_⟩ <;> simp [World.cell?, World.frozen?, h]
theorem heap_put {w : World} {c j : Nat} {cs : Array Value} {u : Value} {t : TypeId} (h : w.heap[c]? = some (.cells cs t (0, 0))) : (w.setCell ⟨c, j, none⟩ u).heap[c]? = some (.cells (cs.setIfInBounds j u) t (0, 0)) := by
  simp [World.setCell, Array.getElem?_modify, h]

/-- How reader.route stands: its result's block, its variable's block, the reader. -/
structure RSt (w W : World) (R : Nat) (r : Rd) (a b d e f g : Value) : Prop where
  res : W.heap[w.heap.size]? = some (.cells #[.string ⟨#[]⟩, .string ⟨#[]⟩, .string ⟨#[]⟩, .slice none 0 0, .slice none 0 0, .slice none 0 0] 109 (0, 0))
  var : W.heap[w.heap.size + 1]? = some (.cells #[a, b, d, e, f, g] 109 (0, 0))
  rd : RdIn W R r
  gr : w.grownBy W (some R)
  lt : R < w.heap.size
theorem RSt.size {w W : World} {R : Nat} {r : Rd} {a b d e f g : Value} (h : RSt w W R r a b d e f g) : w.heap.size + 2 ≤ W.heap.size := (Array.getElem?_eq_some_iff.1 h.var).1
theorem RSt.call {w W W' : World} {R : Nat} {r r' : Rd} {a b d e f g : Value} (h : RSt w W R r a b d e f g) (hr : RdIn W' R r') (hg : W.grownBy W' (some R)) : RSt w W' R r' a b d e f g :=
  have := h.lt
  ⟨blk_grown hg h.res (by omega), blk_grown hg h.var (by omega), hr, h.gr.trans hg, h.lt⟩
theorem RSt.put {w W : World} {R : Nat} {r : Rd} {a b d e f g : Value} (h : RSt w W R r a b d e f g) (j : Nat) (u : Value) {a' b' d' e' f' g' : Value} (hu : #[a, b, d, e, f, g].setIfInBounds j u = #[a', b', d', e', f', g']) :
    RSt w (W.setCell ⟨w.heap.size + 1, j, none⟩ u) R r a' b' d' e' f' g' :=
  have := h.lt
  ⟨(Below.heap_setCell _ _ _ _ (by show w.heap.size ≠ w.heap.size + 1; omega)).trans h.res, by rw [← hu]; exact heap_put h.var, h.rd.far (by omega) _ _, grown_new h.gr (by omega) _ _, h.lt⟩

set_option maxRecDepth 1000000 in
set_option maxHeartbeats 4000000 in
theorem route_any (R : Nat) (r : Rd) (w : World) (h : RdIn w R r) :
    Calls Tryd.prog 62 #[.pointer (some ⟨R, 0, none⟩)] w fun en w' => ∃ v0 v1 v2, en = .returned (.agg #[.string (rRoute r).1.name, .string (rRoute r).1.frm, .string (rRoute r).1.to, v0, v1, v2]) ∧
      w'.ownsRow w.heap.size 9 1 v0 (rRoute r).1.via.length (strCells (rRoute r).1.via) ∧ w'.ownsRow w.heap.size 132 2 v1 (rRoute r).1.set.length (wtCells (rRoute r).1.set) ∧
      w'.ownsRow w.heap.size 132 2 v2 (rRoute r).1.flank.length (wtCells (rRoute r).1.flank) ∧ RdIn w' R (rRoute r).2 ∧ w.grownBy w' (some R) := by
  have hR := h.lt
  have S0 : Hid (RSt w ((w.alloc (.cells #[.string ⟨#[]⟩, .string ⟨#[]⟩, .string ⟨#[]⟩, .slice none 0 0, .slice none 0 0, .slice none 0 0] 109)).alloc (.cells #[.string ⟨#[]⟩, .string ⟨#[]⟩, .string ⟨#[]⟩, .slice none 0 0, .slice none 0 0, .slice none 0 0] 109)) R r
      (.string ⟨#[]⟩) (.string ⟨#[]⟩) (.string ⟨#[]⟩) (.slice none 0 0) (.slice none 0 0) (.slice none 0 0)) := by
    have hb : Below w.heap.size w ((w.alloc (.cells #[.string ⟨#[]⟩, .string ⟨#[]⟩, .string ⟨#[]⟩, .slice none 0 0, .slice none 0 0, .slice none 0 0] 109)).alloc (.cells #[.string ⟨#[]⟩, .string ⟨#[]⟩, .string ⟨#[]⟩, .slice none 0 0, .slice none 0 0, .slice none 0 0] 109)) := ((Below.refl _ _).alloc (Nat.le_refl _) _).alloc (by simp) _
    exact ⟨blk_old (blk_new _ _), by have := blk_new (w.alloc (.cells #[.string ⟨#[]⟩, .string ⟨#[]⟩, .string ⟨#[]⟩, .slice none 0 0, .slice none 0 0, .slice none 0 0] 109)) (.cells #[.string ⟨#[]⟩, .string ⟨#[]⟩, .string ⟨#[]⟩, .slice none 0 0, .slice none 0 0, .slice none 0 0] 109); rw [World.size_alloc] at this; exact this, h.below hb, grown_below (World.grownBy.refl _ _) hb, hR⟩
  clear h
  have HU : Hid (rRoute r = (⟨(rName r).1, (rName (rWord kFrom (rName r).2)).1, (rName (rWord kTo (rName (rWord kFrom (rName r).2)).2)).1, (rRow rName (rWord kVia (rName (rWord kTo (rName (rWord kFrom (rName r).2)).2)).2)).1,
      (rWants kSet (rRow rName (rWord kVia (rName (rWord kTo (rName (rWord kFrom (rName r).2)).2)).2)).2).1, (rWants kFlank (rWants kSet (rRow rName (rWord kVia (rName (rWord kTo (rName (rWord kFrom (rName r).2)).2)).2)).2).2).1⟩,
      rEnd (rWants kFlank (rWants kSet (rRow rName (rWord kVia (rName (rWord kTo (rName (rWord kFrom (rName r).2)).2)).2)).2).2).2)) := rfl
  generalize rRoute r = full at *
  have N1 := fun W => name_any R r W
  generalize rName r = q1 at *
  obtain ⟨x1, q1⟩ := q1
  simp only at *
  have D1 : Hid (∀ W, RdIn W R r → Calls Tryd.prog 56 #[.pointer (some ⟨R, 0, none⟩)] W fun en w' => en = .returned (.string x1) ∧ RdIn w' R q1 ∧ W.grownBy w' (some R)) := N1
  clear N1
  have N2 := fun W => word_any R kFrom q1 W
  generalize rWord kFrom q1 = q2 at *
  have D2 : Hid (∀ W, RdIn W R q1 → Calls Tryd.prog 59 #[.pointer (some ⟨R, 0, none⟩), .string ⟨#[102, 114, 111, 109]⟩] W fun en w' => en = .returned (.tuple #[]) ∧ RdIn w' R q2 ∧ W.grownBy w' (some R)) := N2
  clear N2
  have N3 := fun W => name_any R q2 W
  generalize rName q2 = q3 at *
  obtain ⟨x3, q3⟩ := q3
  simp only at *
  have D3 : Hid (∀ W, RdIn W R q2 → Calls Tryd.prog 56 #[.pointer (some ⟨R, 0, none⟩)] W fun en w' => en = .returned (.string x3) ∧ RdIn w' R q3 ∧ W.grownBy w' (some R)) := N3
  clear N3
  have N4 := fun W => word_any R kTo q3 W
  generalize rWord kTo q3 = q4 at *
  have D4 : Hid (∀ W, RdIn W R q3 → Calls Tryd.prog 59 #[.pointer (some ⟨R, 0, none⟩), .string ⟨#[116, 111]⟩] W fun en w' => en = .returned (.tuple #[]) ∧ RdIn w' R q4 ∧ W.grownBy w' (some R)) := N4
  clear N4
  have N5 := fun W => name_any R q4 W
  generalize rName q4 = q5 at *
  obtain ⟨x5, q5⟩ := q5
  simp only at *
  have D5 : Hid (∀ W, RdIn W R q4 → Calls Tryd.prog 56 #[.pointer (some ⟨R, 0, none⟩)] W fun en w' => en = .returned (.string x5) ∧ RdIn w' R q5 ∧ W.grownBy w' (some R)) := N5
  clear N5
  have N6 := fun W => word_any R kVia q5 W
  generalize rWord kVia q5 = q6 at *
  have D6 : Hid (∀ W, RdIn W R q5 → Calls Tryd.prog 59 #[.pointer (some ⟨R, 0, none⟩), .string ⟨#[118, 105, 97]⟩] W fun en w' => en = .returned (.tuple #[]) ∧ RdIn w' R q6 ∧ W.grownBy w' (some R)) := N6
  clear N6
  have N7 := fun W => rowS_any R q6 W
  generalize rRow rName q6 = q7 at *
  obtain ⟨x7, q7⟩ := q7
  simp only at *
  have D7 : Hid (∀ W, RdIn W R q6 → Calls Tryd.prog 75 #[.pointer (some ⟨R, 0, none⟩), .func (.func 56) #[.pointer (some ⟨R, 0, none⟩)] #[]] W fun en w' => ∃ v, en = .returned v ∧ w'.ownsRow W.heap.size 9 1 v x7.length (strCells x7) ∧ RdIn w' R q7 ∧ W.grownBy w' (some R)) := N7
  clear N7
  have N8 := fun W => wants_any R kSet q7 W
  generalize rWants kSet q7 = q8 at *
  obtain ⟨x8, q8⟩ := q8
  simp only at *
  have D8 : Hid (∀ W, RdIn W R q7 → Calls Tryd.prog 76 #[.pointer (some ⟨R, 0, none⟩), .string ⟨#[115, 101, 116]⟩] W fun en w' => ∃ v, en = .returned v ∧ w'.ownsRow W.heap.size 132 2 v x8.length (wtCells x8) ∧ RdIn w' R q8 ∧ W.grownBy w' (some R)) := N8
  clear N8
  have N9 := fun W => wants_any R kFlank q8 W
  generalize rWants kFlank q8 = q9 at *
  obtain ⟨x9, q9⟩ := q9
  simp only at *
  have D9 : Hid (∀ W, RdIn W R q8 → Calls Tryd.prog 76 #[.pointer (some ⟨R, 0, none⟩), .string ⟨#[102, 108, 97, 110, 107]⟩] W fun en w' => ∃ v, en = .returned v ∧ w'.ownsRow W.heap.size 132 2 v x9.length (wtCells x9) ∧ RdIn w' R q9 ∧ W.grownBy w' (some R)) := N9
  clear N9
  have D10 : Hid (∀ W, RdIn W R q9 → Calls Tryd.prog 57 #[.pointer (some ⟨R, 0, none⟩)] W fun en w' => en = .returned (.tuple #[]) ∧ RdIn w' R (rEnd q9) ∧ W.grownBy w' (some R)) := fun W => end_any R q9 W
  generalize rEnd q9 = q10 at *
  go_enter Tryd.func62, Tryd.ntmps62
  go_wp2_with fail
  refine (D1.out _ S0.out.rd).mono ?_
  rintro e w1 ⟨rfl, h1, h2⟩
  have S1 : Hid (RSt w w1 R q1 _ _ _ _ _ _) := S0.out.call h1 h2
  obtain ⟨⟨a0, a1, a2, a3, a4, a5⟩, b0, b1, b2, b3, b4, b5⟩ := six_cells S1.out.var
  clear h1 h2 S0 D1
  have P1 : Hid (RSt w (w1.setCell ⟨w.heap.size + 1, 0, none⟩ (.string x1)) R _ _ _ _ _ _ _) := S1.out.put 0 (.string x1) rfl
  clear S1
  go_wp2_with fail
  refine (D2.out _ P1.out.rd).mono ?_
  rintro e w2 ⟨rfl, h1, h2⟩
  have S2 : Hid (RSt w w2 R q2 _ _ _ _ _ _) := P1.out.call h1 h2
  obtain ⟨⟨a0, a1, a2, a3, a4, a5⟩, b0, b1, b2, b3, b4, b5⟩ := six_cells S2.out.var
  clear h1 h2 P1 D2
  go_wp2_with fail
  refine (D3.out _ S2.out.rd).mono ?_
  rintro e w3 ⟨rfl, h1, h2⟩
  have S3 : Hid (RSt w w3 R q3 _ _ _ _ _ _) := S2.out.call h1 h2
  obtain ⟨⟨a0, a1, a2, a3, a4, a5⟩, b0, b1, b2, b3, b4, b5⟩ := six_cells S3.out.var
  clear h1 h2 S2 D3
  have P3 : Hid (RSt w (w3.setCell ⟨w.heap.size + 1, 1, none⟩ (.string x3)) R _ _ _ _ _ _ _) := S3.out.put 1 (.string x3) rfl
  clear S3
  go_wp2_with fail
  refine (D4.out _ P3.out.rd).mono ?_
  rintro e w4 ⟨rfl, h1, h2⟩
  have S4 : Hid (RSt w w4 R q4 _ _ _ _ _ _) := P3.out.call h1 h2
  obtain ⟨⟨a0, a1, a2, a3, a4, a5⟩, b0, b1, b2, b3, b4, b5⟩ := six_cells S4.out.var
  clear h1 h2 P3 D4
  go_wp2_with fail
  refine (D5.out _ S4.out.rd).mono ?_
  rintro e w5 ⟨rfl, h1, h2⟩
  have S5 : Hid (RSt w w5 R q5 _ _ _ _ _ _) := S4.out.call h1 h2
  obtain ⟨⟨a0, a1, a2, a3, a4, a5⟩, b0, b1, b2, b3, b4, b5⟩ := six_cells S5.out.var
  clear h1 h2 S4 D5
  have P5 : Hid (RSt w (w5.setCell ⟨w.heap.size + 1, 2, none⟩ (.string x5)) R _ _ _ _ _ _ _) := S5.out.put 2 (.string x5) rfl
  clear S5
  go_wp2_with fail
  refine (D6.out _ P5.out.rd).mono ?_
  rintro e w6 ⟨rfl, h1, h2⟩
  have S6 : Hid (RSt w w6 R q6 _ _ _ _ _ _) := P5.out.call h1 h2
  obtain ⟨⟨a0, a1, a2, a3, a4, a5⟩, b0, b1, b2, b3, b4, b5⟩ := six_cells S6.out.var
  clear h1 h2 P5 D6
  have sz := S6.out.size
  go_wp2_with fail
  refine (D7.out _ S6.out.rd).mono ?_
  rintro e w7 ⟨v7, rfl, hown, h1, h2⟩
  obtain ⟨p7, k7, rfl⟩ := own_slice hown
  have S7 : Hid (RSt w w7 R q7 _ _ _ _ _ _) := S6.out.call h1 h2
  obtain ⟨⟨a0, a1, a2, a3, a4, a5⟩, b0, b1, b2, b3, b4, b5⟩ := six_cells S7.out.var
  clear h1 h2 S6 D7
  have v7_7 : Hid (w7.ownsRow (w.heap.size + 2) 9 1 (.slice p7 x7.length k7) x7.length (strCells x7)) := owns_mono hown (by have := sz; omega)
  clear hown sz
  have P7 : Hid (RSt w (w7.setCell ⟨w.heap.size + 1, 3, none⟩ (.slice p7 x7.length k7)) R _ _ _ _ _ _ _) := S7.out.put 3 (.slice p7 x7.length k7) rfl
  have v7_p7 : Hid ((w7.setCell ⟨w.heap.size + 1, 3, none⟩ (.slice p7 x7.length k7)).ownsRow (w.heap.size + 2) 9 1 (.slice p7 x7.length k7) x7.length (strCells x7)) := v7_7.out.kept (grown_set _ _ _ _) (.inr (own_ne v7_7.out (by omega)))
  clear v7_7
  clear S7
  have sz := P7.out.size
  go_wp2_with fail
  refine (D8.out _ P7.out.rd).mono ?_
  rintro e w8 ⟨v8, rfl, hown, h1, h2⟩
  obtain ⟨p8, k8, rfl⟩ := own_slice hown
  have S8 : Hid (RSt w w8 R q8 _ _ _ _ _ _) := P7.out.call h1 h2
  have v7_8 : Hid (w8.ownsRow (w.heap.size + 2) 9 1 (.slice p7 x7.length k7) x7.length (strCells x7)) := v7_p7.out.kept h2 (.inr (own_ne v7_p7.out (by omega)))
  clear v7_p7
  obtain ⟨⟨a0, a1, a2, a3, a4, a5⟩, b0, b1, b2, b3, b4, b5⟩ := six_cells S8.out.var
  clear h1 h2 P7 D8
  have v8_8 : Hid (w8.ownsRow (w.heap.size + 2) 132 2 (.slice p8 x8.length k8) x8.length (wtCells x8)) := owns_mono hown (by have := sz; omega)
  clear hown sz
  have P8 : Hid (RSt w (w8.setCell ⟨w.heap.size + 1, 4, none⟩ (.slice p8 x8.length k8)) R _ _ _ _ _ _ _) := S8.out.put 4 (.slice p8 x8.length k8) rfl
  have v7_p8 : Hid ((w8.setCell ⟨w.heap.size + 1, 4, none⟩ (.slice p8 x8.length k8)).ownsRow (w.heap.size + 2) 9 1 (.slice p7 x7.length k7) x7.length (strCells x7)) := v7_8.out.kept (grown_set _ _ _ _) (.inr (own_ne v7_8.out (by omega)))
  clear v7_8
  have v8_p8 : Hid ((w8.setCell ⟨w.heap.size + 1, 4, none⟩ (.slice p8 x8.length k8)).ownsRow (w.heap.size + 2) 132 2 (.slice p8 x8.length k8) x8.length (wtCells x8)) := v8_8.out.kept (grown_set _ _ _ _) (.inr (own_ne v8_8.out (by omega)))
  clear v8_8
  clear S8
  have sz := P8.out.size
  go_wp2_with fail
  refine (D9.out _ P8.out.rd).mono ?_
  rintro e w9 ⟨v9, rfl, hown, h1, h2⟩
  obtain ⟨p9, k9, rfl⟩ := own_slice hown
  have S9 : Hid (RSt w w9 R q9 _ _ _ _ _ _) := P8.out.call h1 h2
  have v7_9 : Hid (w9.ownsRow (w.heap.size + 2) 9 1 (.slice p7 x7.length k7) x7.length (strCells x7)) := v7_p8.out.kept h2 (.inr (own_ne v7_p8.out (by omega)))
  clear v7_p8
  have v8_9 : Hid (w9.ownsRow (w.heap.size + 2) 132 2 (.slice p8 x8.length k8) x8.length (wtCells x8)) := v8_p8.out.kept h2 (.inr (own_ne v8_p8.out (by omega)))
  clear v8_p8
  obtain ⟨⟨a0, a1, a2, a3, a4, a5⟩, b0, b1, b2, b3, b4, b5⟩ := six_cells S9.out.var
  clear h1 h2 P8 D9
  have v9_9 : Hid (w9.ownsRow (w.heap.size + 2) 132 2 (.slice p9 x9.length k9) x9.length (wtCells x9)) := owns_mono hown (by have := sz; omega)
  clear hown sz
  have P9 : Hid (RSt w (w9.setCell ⟨w.heap.size + 1, 5, none⟩ (.slice p9 x9.length k9)) R _ _ _ _ _ _ _) := S9.out.put 5 (.slice p9 x9.length k9) rfl
  have v7_p9 : Hid ((w9.setCell ⟨w.heap.size + 1, 5, none⟩ (.slice p9 x9.length k9)).ownsRow (w.heap.size + 2) 9 1 (.slice p7 x7.length k7) x7.length (strCells x7)) := v7_9.out.kept (grown_set _ _ _ _) (.inr (own_ne v7_9.out (by omega)))
  clear v7_9
  have v8_p9 : Hid ((w9.setCell ⟨w.heap.size + 1, 5, none⟩ (.slice p9 x9.length k9)).ownsRow (w.heap.size + 2) 132 2 (.slice p8 x8.length k8) x8.length (wtCells x8)) := v8_9.out.kept (grown_set _ _ _ _) (.inr (own_ne v8_9.out (by omega)))
  clear v8_9
  have v9_p9 : Hid ((w9.setCell ⟨w.heap.size + 1, 5, none⟩ (.slice p9 x9.length k9)).ownsRow (w.heap.size + 2) 132 2 (.slice p9 x9.length k9) x9.length (wtCells x9)) := v9_9.out.kept (grown_set _ _ _ _) (.inr (own_ne v9_9.out (by omega)))
  clear v9_9
  clear S9
  go_wp2_with fail
  refine (D10.out _ P9.out.rd).mono ?_
  rintro e w10 ⟨rfl, h1, h2⟩
  have S10 : Hid (RSt w w10 R q10 _ _ _ _ _ _) := P9.out.call h1 h2
  have v7_10 : Hid (w10.ownsRow (w.heap.size + 2) 9 1 (.slice p7 x7.length k7) x7.length (strCells x7)) := v7_p9.out.kept h2 (.inr (own_ne v7_p9.out (by omega)))
  clear v7_p9
  have v8_10 : Hid (w10.ownsRow (w.heap.size + 2) 132 2 (.slice p8 x8.length k8) x8.length (wtCells x8)) := v8_p9.out.kept h2 (.inr (own_ne v8_p9.out (by omega)))
  clear v8_p9
  have v9_10 : Hid (w10.ownsRow (w.heap.size + 2) 132 2 (.slice p9 x9.length k9) x9.length (wtCells x9)) := v9_p9.out.kept h2 (.inr (own_ne v9_p9.out (by omega)))
  clear v9_p9
  obtain ⟨⟨a0, a1, a2, a3, a4, a5⟩, b0, b1, b2, b3, b4, b5⟩ := six_cells S10.out.var
  clear h1 h2 P9 D10
  obtain ⟨⟨c0, c1, c2, c3, c4, c5⟩, d0, d1, d2, d3, d4, d5⟩ := six_cells S10.out.res
  go_wp2
  refine bodyPost_ret (v := .agg #[.string x1, .string x3, .string x5, (.slice p7 x7.length k7), (.slice p8 x8.length k8), (.slice p9 x9.length k9)]) (by simp [results, Tryd.results62, go_sem, c0, c1, c2, c3, c4, c5]) rfl ⟨(.slice p7 x7.length k7), (.slice p8 x8.length k8), (.slice p9 x9.length k9), by rw [HU.out], ?_, ?_, ?_, ?_, ?_⟩
  · rw [HU.out]
    have q := v7_10.out
    replace q := q.kept (grown_set _ w.heap.size 0 (.string x1)) (.inr (own_ne q (by omega)))
    replace q := q.kept (grown_set _ w.heap.size 1 (.string x3)) (.inr (own_ne q (by omega)))
    replace q := q.kept (grown_set _ w.heap.size 2 (.string x5)) (.inr (own_ne q (by omega)))
    replace q := q.kept (grown_set _ w.heap.size 3 ((.slice p7 x7.length k7))) (.inr (own_ne q (by omega)))
    replace q := q.kept (grown_set _ w.heap.size 4 ((.slice p8 x8.length k8))) (.inr (own_ne q (by omega)))
    replace q := q.kept (grown_set _ w.heap.size 5 ((.slice p9 x9.length k9))) (.inr (own_ne q (by omega)))
    exact owns_mono q (by omega)
  · rw [HU.out]
    have q := v8_10.out
    replace q := q.kept (grown_set _ w.heap.size 0 (.string x1)) (.inr (own_ne q (by omega)))
    replace q := q.kept (grown_set _ w.heap.size 1 (.string x3)) (.inr (own_ne q (by omega)))
    replace q := q.kept (grown_set _ w.heap.size 2 (.string x5)) (.inr (own_ne q (by omega)))
    replace q := q.kept (grown_set _ w.heap.size 3 ((.slice p7 x7.length k7))) (.inr (own_ne q (by omega)))
    replace q := q.kept (grown_set _ w.heap.size 4 ((.slice p8 x8.length k8))) (.inr (own_ne q (by omega)))
    replace q := q.kept (grown_set _ w.heap.size 5 ((.slice p9 x9.length k9))) (.inr (own_ne q (by omega)))
    exact owns_mono q (by omega)
  · rw [HU.out]
    have q := v9_10.out
    replace q := q.kept (grown_set _ w.heap.size 0 (.string x1)) (.inr (own_ne q (by omega)))
    replace q := q.kept (grown_set _ w.heap.size 1 (.string x3)) (.inr (own_ne q (by omega)))
    replace q := q.kept (grown_set _ w.heap.size 2 (.string x5)) (.inr (own_ne q (by omega)))
    replace q := q.kept (grown_set _ w.heap.size 3 ((.slice p7 x7.length k7))) (.inr (own_ne q (by omega)))
    replace q := q.kept (grown_set _ w.heap.size 4 ((.slice p8 x8.length k8))) (.inr (own_ne q (by omega)))
    replace q := q.kept (grown_set _ w.heap.size 5 ((.slice p9 x9.length k9))) (.inr (own_ne q (by omega)))
    exact owns_mono q (by omega)
  · rw [HU.out]
    have q := S10.out.rd
    replace q := q.far hR 0 (.string x1)
    replace q := q.far hR 1 (.string x3)
    replace q := q.far hR 2 (.string x5)
    replace q := q.far hR 3 ((.slice p7 x7.length k7))
    replace q := q.far hR 4 ((.slice p8 x8.length k8))
    replace q := q.far hR 5 ((.slice p9 x9.length k9))
    exact q
  · have q := S10.out.gr
    replace q := grown_new q (Nat.le_refl _) 0 (.string x1)
    replace q := grown_new q (Nat.le_refl _) 1 (.string x3)
    replace q := grown_new q (Nat.le_refl _) 2 (.string x5)
    replace q := grown_new q (Nat.le_refl _) 3 ((.slice p7 x7.length k7))
    replace q := grown_new q (Nat.le_refl _) 4 ((.slice p8 x8.length k8))
    replace q := grown_new q (Nat.le_refl _) 5 ((.slice p9 x9.length k9))
    exact q

end Go.Proofs.YtgiaicmhnkhbnaaDoor

namespace Go.Proofs.YtgiaicmhnkhbnaaDoor
open Go.RowKit

/-- A slice value whose elements read so, each so many cells. -/
def rowAt {α : Type} (w : World) (v : Value) (size : Nat) (cs : α → List Value) (l : List α) : Prop :=
  ∃ oa cap, v = .slice oa l.length cap ∧ ∀ j x, l[j]? = some x → ∃ g off, oa = some ⟨g, off, none⟩ ∧ ∀ i u, (cs x)[i]? = some u → w.cell? ⟨g, off + j * size + i, none⟩ = some u

theorem rowAt.below {α : Type} {w w' : World} {v : Value} {size : Nat} {cs : α → List Value} {l : List α} (h : rowAt w v size cs l) (hb : Below w.heap.size w w') : rowAt w' v size cs l := by
  obtain ⟨oa, cap, h1, h2⟩ := h
  refine ⟨oa, cap, h1, fun j x hj => ?_⟩
  obtain ⟨g, off, e, hc⟩ := h2 j x hj
  exact ⟨g, off, e, fun i u hu => (hb.cell (p := ⟨g, off + j * size + i, none⟩) (World.block_lt_of_cell? w _ (hc i u hu))).trans (hc i u hu)⟩
theorem rowAt.drewN {α : Type} {w : World} {v : Value} {size : Nat} {cs : α → List Value} {l : List α} (h : rowAt w v size cs l) (n : Nat) : rowAt (w.drewN n) v size cs l :=
  h.below (below_drewN (Below.refl _ _) n)
theorem rowAt.nil {α : Type} (w : World) (size : Nat) (cs : α → List Value) : rowAt w (.slice none 0 0) size cs [] := ⟨none, 0, rfl, fun j x hj => by simp at hj⟩

theorem flat_get {α : Type} {cs : α → List Value} {size : Nat} (hs : ∀ x, (cs x).length = size) : ∀ (l : List α) (j : Nat) (x : α) (i : Nat) (u : Value), l[j]? = some x → (cs x)[i]? = some u → (l.flatMap cs)[j * size + i]? = some u
  | y :: l, 0, x, i, u, h, hu => by
    simp at h
    subst h
    rw [List.flatMap_cons, Nat.zero_mul, Nat.zero_add, List.getElem?_append_left (List.getElem?_eq_some_iff.1 hu).1, hu]
  | y :: l, j + 1, x, i, u, h, hu => by
    rw [List.flatMap_cons, List.getElem?_append_right (by rw [hs, Nat.add_mul, Nat.one_mul]; omega), hs, show (j + 1) * size + i - size = j * size + i by rw [Nat.add_mul, Nat.one_mul]; omega]
    exact flat_get hs l j x i u (by simpa using h) hu

theorem addr_add (g j : Nat) : (⟨g, 0, none⟩ : Addr).add j = ⟨g, j, none⟩ := by unfold Addr.add; split <;> simp_all

theorem rowAt_of_owns {α : Type} {w : World} {base : Nat} {e : TypeId} {v : Value} {size : Nat} {cs : α → List Value} {l : List α} (hs : ∀ x, (cs x).length = size) (h : w.ownsRow base e size v l.length (l.flatMap cs)) : rowAt w v size cs l := by
  rcases h.2 with ⟨h1, h2⟩ | ⟨g, cap, cur, h1, _, _, h2, _⟩
  · have e := List.eq_nil_of_length_eq_zero h2
    subst e
    rw [h1]
    exact rowAt.nil _ _ _
  · refine ⟨some ⟨g, 0, none⟩, cap, h1, fun j x hj => ⟨g, 0, rfl, fun i u hu => ?_⟩⟩
    have hc := h.cells (g := g) (by rw [h1]; rfl) _ _ (flat_get hs l j x i u hj hu)
    rw [addr_add] at hc
    rw [Nat.zero_add]
    exact hc

def sC (x : ByteArray) : List Value := [.string x]
def iC (x : Int) : List Value := [.int .i64 x]
def wC (x : Wt) : List Value := [.string x.1, .bool x.2]
def nC (x : Int × Bool) : List Value := [.int .i64 x.1, .bool x.2]
def pC (x : ByteArray × Int) : List Value := [.string x.1, .int .i64 x.2]
/-- A route and the slices that it holds. -/
abbrev RtV := Rt × (Value × Value × Value)
def rC (x : RtV) : List Value := [.string x.1.name, .int .i64 x.1.frm, .int .i64 x.1.to, x.2.1, x.2.2.1, x.2.2.2]
theorem strCells_flat (l : List ByteArray) : strCells l = l.flatMap sC := by
  induction l with
  | nil => rfl
  | cons x l ih => rw [strCells, List.map_cons, List.flatMap_cons, ← ih]; rfl
theorem wtCells_flat (l : List Wt) : wtCells l = l.flatMap wC := rfl

theorem drop_at {α : Type} {l : List α} {k : Nat} {x : α} (h : l[k]? = some x) : l.drop k = x :: l.drop (k + 1) := by
  obtain ⟨hl, rfl⟩ := List.getElem?_eq_some_iff.1 h
  exact List.drop_eq_getElem_cons hl

set_option maxRecDepth 1000000 in
set_option maxHeartbeats 1000000 in
theorem index_any (v : Value) (l : List ByteArray) (x : ByteArray) (w : World) (h : rowAt w v 1 sC l) (hl : l.length ≤ 4294967296) :
    Calls Tryd.prog 60 #[v, .string x] w fun e w' => e = .returned (.int .i64 (idx l x)) ∧ w' = w := by
  obtain ⟨oa, cap, rfl, h2⟩ := h
  have H2 : Hid (∀ j y, l[j]? = some y → ∃ g off, oa = some ⟨g, off, none⟩ ∧ ∀ i u, (sC y)[i]? = some u → w.cell? ⟨g, off + j * 1 + i, none⟩ = some u) := h2
  clear h2
  have HI : Hid (idx l x = idxF x l 0) := rfl
  generalize idx l x = ans at *
  generalize hn : l.length = n at *
  have HN : Hid (l.length = n) := hn
  clear hn
  go_enter Tryd.func60, Tryd.ntmps60
  go_wp2
  go_loop [5, 8] (fun _ i => ∃ k : Nat, i = .int .i64 k ∧ k ≤ n ∧ idxF x (l.drop k) k = idxF x l 0) (fun _ i => n - (intOf i).toNat)
  case atStart => exact ⟨0, rfl, by omega, by simp⟩
  case round =>
    obtain ⟨k, rfl, hk, hc⟩ := hrel
    have HC : Hid (idxF x (l.drop k) k = idxF x l 0) := hc
    clear hc
    by_cases hlt : k < n
    · obtain ⟨y, hy⟩ : ∃ y, l[k]? = some y := ⟨l[k]'(by rw [HN.out]; exact hlt), List.getElem?_eq_getElem _⟩
      obtain ⟨g, off, rfl, hcell⟩ := H2.out k y hy
      have c0 := hcell 0 _ rfl
      simp only [Nat.mul_one, Nat.add_zero] at c0
      rw [drop_at hy, idxF] at HC
      clear hcell hy
      by_cases hxy : x = y
      · have hb : (x.toList == y.toList) = true := by rw [toList_eq, decide_eq_true hxy]
        rw [if_pos hxy] at HC
        clear hxy
        go_wp2
        go_ret
        exact ⟨by rw [HI.out, ← HC.out]; rfl, rfl⟩
      · have hb : (x.toList == y.toList) = false := by rw [toList_eq, decide_eq_false hxy]
        rw [if_neg hxy] at HC
        clear hxy
        go_wp2
        go_round
        case rel => exact ⟨k + 1, by go_num, by omega, HC.out⟩
        case measure => simp [intOf]; omega
    · have h1 := HC.out
      rw [List.drop_of_length_le (by rw [HN.out]; omega), idxF] at h1
      have H1 : Hid (-1 = idxF x l 0) := h1
      clear h1
      go_wp2
      go_ret
      exact ⟨by rw [HI.out, ← H1.out]; rfl, rfl⟩

theorem idxF_ge (x : ByteArray) : ∀ (l : List ByteArray) (k : Nat), idxF x l k = -1 ∨ 0 ≤ idxF x l k
  | [], _ => .inl rfl
  | y :: l, k => by
    rw [idxF]
    split
    · right; omega
    · exact idxF_ge x l (k + 1)
theorem idx_ge (l : List ByteArray) (x : ByteArray) : idx l x = -1 ∨ 0 ≤ idx l x := idxF_ge x l 0
theorem geq_zero {n : Int} (h : n = -1 ∨ 0 ≤ n) : decide (0 ≤ n) = decide (n ≠ -1) := by
  rw [Bool.eq_iff_iff]; simp; omega

theorem contains_any (v : Value) (l : List ByteArray) (x : ByteArray) (w : World) (h : rowAt w v 1 sC l) (hl : l.length ≤ 4294967296) :
    Calls Tryd.prog 58 #[v, .string x] w fun e w' => e = .returned (.bool (decide (idx l x ≠ -1))) ∧ w' = w := by
  have HI := geq_zero (idx_ge l x)
  have C := fun W => index_any v l x W
  have H : Hid (rowAt w v 1 sC l) := h
  clear h
  rw [← HI]
  generalize idx l x = n at *
  have D : Hid (∀ W, rowAt W v 1 sC l → l.length ≤ 4294967296 → Calls Tryd.prog 60 #[v, .string x] W fun e w' => e = .returned (.int .i64 n) ∧ w' = W) := C
  clear C HI
  go_enter Tryd.func58, Tryd.ntmps58
  go_wp2_with fail
  refine (D.out _ H.out hl).mono ?_
  rintro e w1 ⟨rfl, rfl⟩
  go_wp2
  go_ret
  exact ⟨rfl, rfl⟩

end Go.Proofs.YtgiaicmhnkhbnaaDoor
