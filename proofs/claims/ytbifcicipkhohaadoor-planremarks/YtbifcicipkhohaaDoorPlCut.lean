/-
  cutLine, withoutRemark, cutLast, reader.want (package plan), each by a contract.
-/
import Derived.Test.YtbifcicipkhohaaDoorPlRd
namespace Go.Proofs.YtbifcicipkhohaaDoor
open Go.RowKit

theorem findF_next (c : Nat) (s : ByteArray) (pos : Nat) (h : pos < s.size) : findF c (runesAt s pos) pos = if (Utf8.decode s pos).1 = c then some pos else findF c (runesAt s (pos + (Utf8.decode s pos).2)) (pos + (Utf8.decode s pos).2) := by
  rw [runesAt_next s pos h]; rfl
theorem cutF_next (s : ByteArray) (pos a l : Nat) (h : pos < s.size) : cutF (runesAt s pos) pos a l = cutF (runesAt s (pos + (Utf8.decode s pos).2)) (pos + (Utf8.decode s pos).2) pos (Utf8.decode s pos).1 := by
  rw [runesAt_next s pos h]; rfl

set_option maxRecDepth 1000000 in
set_option maxHeartbeats 1000000 in
theorem noRemark_any (s : ByteArray) (w : World) (hs : s.size ≤ maxLen) :
    Calls Tryd.prog 47 #[.string s] w fun e w' => e = .returned (.string (noRemark s)) ∧ Below w.heap.size w w' := by
  unfold maxLen at hs
  go_enter Tryd.func47, Tryd.ntmps47
  go_wp2
  go_loopw [3, 4] (fun _ _ w' => ∃ pos : Nat, w' = w.iter s pos ∧ findF 35 (runesAt s pos) pos = findF 35 (runesAt s 0) 0 ∧ pos ≤ s.size) (fun _ _ w' => s.size - w'.iterPos w.heap.size)
  case atStart => exact ⟨0, rfl, rfl, by omega⟩
  case round =>
    obtain ⟨pos, rfl, hc, hps⟩ := hrel
    have HC : Hid (findF 35 (runesAt s pos) pos = findF 35 (runesAt s 0) 0) := hc
    clear hc
    by_cases hp : pos < s.size
    · have hnx : ∀ ty, (Instr.next (.pointer (some ⟨w.heap.size, 0, none⟩)) true ty).run Tryd.prog (w.iter s pos) = _ := fun ty => run_next_any w s pos ty hp
      have hwd := width_at s pos hp
      have hn := findF_next 35 s pos hp
      have HN : Hid (findF 35 (runesAt s pos) pos = _) := hn
      clear hn
      generalize hr : Utf8.decode s pos = dd at *
      obtain ⟨r, wd⟩ := dd
      simp only at *
      clear hr
      by_cases h35 : r = 35
      · subst h35
        go_wp2
        go_ret
        refine ⟨?_, (Below.refl _ _).alloc (Nat.le_refl _) _⟩
        have h1 := HC.out
        rw [HN.out, if_pos trivial] at h1
        rw [noRemark, ← h1]
        rfl
      · have h35' : ((r : Int) == 35) = false := by simp; omega
        rw [if_neg h35] at HN
        clear h35
        go_wp2
        go_roundw
        case rel => exact ⟨pos + wd, rfl, by rw [← HN.out]; exact HC.out, by omega⟩
        case measure =>
          simp
          omega
    · have hnx : ∀ ty, (Instr.next (.pointer (some ⟨w.heap.size, 0, none⟩)) true ty).run Tryd.prog (w.iter s pos) = _ := fun ty => run_next_end w s pos ty hp
      go_wp2
      go_ret
      refine ⟨?_, (Below.refl _ _).alloc (Nat.le_refl _) _⟩
      have h1 := HC.out
      rw [runesAt_end s pos hp] at h1
      rw [noRemark, ← h1]
      rfl

set_option maxRecDepth 1000000 in
set_option maxHeartbeats 1000000 in
theorem cutLine_any (s : ByteArray) (w : World) (hs : s.size ≤ maxLen) :
    Calls Tryd.prog 34 #[.string s] w fun e w' => e = .returned (.tuple #[.string (cutLine s).1, .string (cutLine s).2]) ∧ Below w.heap.size w w' := by
  unfold maxLen at hs
  go_enter Tryd.func34, Tryd.ntmps34
  go_wp2
  go_loopw [4, 5] (fun _ _ w' => ∃ pos : Nat, w' = w.iter s pos ∧ findF 10 (runesAt s pos) pos = findF 10 (runesAt s 0) 0 ∧ pos ≤ s.size) (fun _ _ w' => s.size - w'.iterPos w.heap.size)
  case atStart => exact ⟨0, rfl, rfl, by omega⟩
  case round =>
    obtain ⟨pos, rfl, hc, hps⟩ := hrel
    have HC : Hid (findF 10 (runesAt s pos) pos = findF 10 (runesAt s 0) 0) := hc
    clear hc
    by_cases hp : pos < s.size
    · have hnx : ∀ ty, (Instr.next (.pointer (some ⟨w.heap.size, 0, none⟩)) true ty).run Tryd.prog (w.iter s pos) = _ := fun ty => run_next_any w s pos ty hp
      have hwd := width_at s pos hp
      have hn := findF_next 10 s pos hp
      have HN : Hid (findF 10 (runesAt s pos) pos = _) := hn
      clear hn
      generalize hr : Utf8.decode s pos = dd at *
      obtain ⟨r, wd⟩ := dd
      simp only at *
      clear hr
      by_cases h35 : r = 10
      · subst h35
        have b1 : (pos : Int) ≤ (s.size : Int) := by omega
        have b2 : (pos : Int) + 1 ≤ (s.size : Int) := by omega
        go_wp2
        go_quiet (fail)
        go_wp2
        go_ret2
        refine ⟨?_, below_drewN (show Below w.heap.size w (w.iter s (pos + wd)) from (Below.refl _ _).alloc (Nat.le_refl _) _) _⟩
        have h1 := HC.out
        rw [HN.out, if_pos trivial] at h1
        rw [cutLine, ← h1]
        rfl
      · have h35' : ((r : Int) == 10) = false := by simp; omega
        rw [if_neg h35] at HN
        clear h35
        go_wp2
        go_roundw
        case rel => exact ⟨pos + wd, rfl, by rw [← HN.out]; exact HC.out, by omega⟩
        case measure =>
          simp
          omega
    · have hnx : ∀ ty, (Instr.next (.pointer (some ⟨w.heap.size, 0, none⟩)) true ty).run Tryd.prog (w.iter s pos) = _ := fun ty => run_next_end w s pos ty hp
      go_wp2
      go_ret2
      refine ⟨?_, (Below.refl _ _).alloc (Nat.le_refl _) _⟩
      have h1 := HC.out
      rw [runesAt_end s pos hp] at h1
      rw [cutLine, ← h1]
      rfl

theorem cutLast_def (s : ByteArray) (a l : Nat) (h : cutF (runesAt s 0) 0 0 0 = (a, l)) : cutLast s = (s.extract 0 a, l) := by
  rw [cutLast, h]

set_option maxRecDepth 1000000 in
set_option maxHeartbeats 1000000 in
theorem cutLast_any (s : ByteArray) (w : World) :
    Calls Tryd.prog 104 #[.string s] w fun e w' => e = .returned (.tuple #[.string (cutLast s).1, .int .i32 (cutLast s).2]) ∧ Below w.heap.size w w' := by
  go_enter Tryd.func104, Tryd.ntmps104
  go_wp2
  go_loopw [3, 4, 5, 6] (fun l a _ _ w' => ∃ pos a0 l0 : Nat, w' = w.iter s pos ∧ l = .int .i32 l0 ∧ a = .int .i64 a0 ∧ cutF (runesAt s pos) pos a0 l0 = cutF (runesAt s 0) 0 0 0 ∧ pos ≤ s.size ∧ a0 ≤ s.size) (fun _ _ _ _ w' => s.size - w'.iterPos w.heap.size)
  case atStart => exact ⟨0, 0, 0, rfl, rfl, rfl, rfl, by omega, by omega⟩
  case round =>
    obtain ⟨pos, a0, l0, rfl, rfl, rfl, hc, hps, ha⟩ := hrel
    have HC : Hid (cutF (runesAt s pos) pos a0 l0 = cutF (runesAt s 0) 0 0 0) := hc
    clear hc
    by_cases hp : pos < s.size
    · have hnx : ∀ ty, (Instr.next (.pointer (some ⟨w.heap.size, 0, none⟩)) true ty).run Tryd.prog (w.iter s pos) = _ := fun ty => run_next_any w s pos ty hp
      have hwd := width_at s pos hp
      have hn := cutF_next s pos a0 l0 hp
      have HN : Hid (cutF (runesAt s pos) pos a0 l0 = _) := hn
      clear hn
      generalize hr : Utf8.decode s pos = dd at *
      obtain ⟨r, wd⟩ := dd
      simp only at *
      clear hr
      go_wp2
      go_roundw
      case rel => exact ⟨pos + wd, pos, r, rfl, rfl, rfl, by rw [← HN.out]; exact HC.out, by omega, by omega⟩
      case measure =>
        simp
        omega
    · have hnx : ∀ ty, (Instr.next (.pointer (some ⟨w.heap.size, 0, none⟩)) true ty).run Tryd.prog (w.iter s pos) = _ := fun ty => run_next_end w s pos ty hp
      go_wp2
      go_ret2
      refine ⟨?_, (Below.refl _ _).alloc (Nat.le_refl _) _⟩
      have h1 := HC.out
      rw [runesAt_end s pos hp] at h1
      rw [cutLast_def s a0 l0 h1.symm]
      rfl

theorem blk_grown {w w' : World} {R c : Nat} {o : Obj} (hg : w.grownBy w' (some R)) (h : w.heap[c]? = some o) (hne : c ≠ R) : w'.heap[c]? = some o :=
  (hg.block c (Array.getElem?_eq_some_iff.1 h).1 (fun e => hne (Option.some.inj e))).trans h
theorem blk_below {w w' : World} {c : Nat} {o : Obj} (hb : Below w.heap.size w w') (h : w.heap[c]? = some o) : w'.heap[c]? = some o :=
  (hb.block c (Array.getElem?_eq_some_iff.1 h).1).trans h
theorem blk_new (w : World) (o : Obj) : (w.alloc o).heap[w.heap.size]? = some o := by
  show (w.heap.push o)[w.heap.size]? = some o
  simp
theorem blk_old {w : World} {c : Nat} {o o' : Obj} (h : w.heap[c]? = some o) : (w.alloc o').heap[c]? = some o :=
  (Below.heap_alloc _ _ _ (Array.getElem?_eq_some_iff.1 h).1).trans h
theorem grown_new {a b : World} {R c : Nat} (h : a.grownBy b (some R)) (hc : a.heap.size ≤ c) (o : Nat) (u : Value) : a.grownBy (b.setCell ⟨c, o, none⟩ u) (some R) :=
  h.andThen (grown_set b c o u) (fun j e => .inl (by cases e; exact hc))
theorem RdIn.far {w : World} {R c : Nat} {r : Rd} (h : RdIn w R r) (hc : R < c) (o : Nat) (u : Value) : RdIn (w.setCell ⟨c, o, none⟩ u) R r :=
  h.keep fun k hk => Below.heap_setCell _ _ _ _ (by show k ≠ c; omega)
theorem grown_size {a b : World} {row : Option Nat} (h : a.grownBy b row) : a.heap.size ≤ b.heap.size := h.size

theorem wantE_true {f : Nat} {x : ByteArray} (h : capB x = true) : wantE f x = f := by simp [wantE, h]
theorem wantE_false {f : Nat} {x : ByteArray} (h : capB x = false) : wantE f x = failE f 3 := by simp [wantE, h]

set_option maxRecDepth 1000000 in
set_option maxHeartbeats 1000000 in
theorem want_any (R : Nat) (r : Rd) (w : World) (h : RdIn w R r) :
    Calls Tryd.prog 98 #[.pointer (some ⟨R, 0, none⟩)] w fun en w' => en = .returned (.agg #[.string (rWant r).1.1, .bool (rWant r).1.2]) ∧ RdIn w' R (rWant r).2 ∧ w.grownBy w' (some R) := by
  have H : Hid (RdIn w R r) := h
  have hR := h.lt
  clear h
  have HU : Hid (rWant r = (((cutLast (rNext r).1).1, decide ((cutLast (rNext r).1).2 = 45)), ((rNext r).2.1, wantE (signE (rNext r).2.2 (cutLast (rNext r).1).2) (cutLast (rNext r).1).1))) := rfl
  have HX := fun W => next_any R r W
  generalize hx : rNext r = q at *
  obtain ⟨x, q⟩ := q
  simp only at *
  have HY : Hid (∀ W, RdIn W R r → Calls Tryd.prog 48 #[.pointer (some ⟨R, 0, none⟩)] W fun en w' => en = .returned (.string x) ∧ RdIn w' R q ∧ W.grownBy w' (some R)) := HX
  have HL := fun W => cutLast_any x W
  generalize cutLast x = y at *
  obtain ⟨nm, l⟩ := y
  simp only at *
  clear HX hx
  have C := fun W => isNAME_any nm W
  have HA : Hid (RdIn (w.alloc (.cells #[.string ⟨#[]⟩, .bool false] 136)) R r) := H.out.below ((Below.refl _ _).alloc (Nat.le_refl _) _)
  have HG : Hid (w.grownBy (w.alloc (.cells #[.string ⟨#[]⟩, .bool false] 136)) (some R)) := World.grownBy_alloc _ _ _
  clear H
  have HU2 : Hid ((rWant r).1 = (nm, decide (l = 45))) := by rw [Hid, HU.out]
  have HU3 : Hid ((rWant r).2 = (q.1, wantE (signE q.2 l) nm)) := by rw [Hid, HU.out]
  clear HU
  have HC : Hid ((w.alloc (.cells #[.string ⟨#[]⟩, .bool false] 136)).heap[w.heap.size]? = some (.cells #[.string ⟨#[]⟩, .bool false] 136 (0, 0))) := blk_new _ _
  have hsg : (l = 43 ∧ decide (l = 45) = false ∧ signE q.2 l = q.2) ∨ (l = 45 ∧ decide (l = 45) = true ∧ signE q.2 l = q.2) ∨ (l ≠ 43 ∧ l ≠ 45 ∧ decide (l = 45) = false ∧ signE q.2 l = failE q.2 2) := by
    by_cases h43 : l = 43
    · subst h43; exact .inl ⟨rfl, rfl, by simp [signE]⟩
    · by_cases h45 : l = 45
      · subst h45; exact .inr (.inl ⟨rfl, rfl, by simp [signE]⟩)
      · exact .inr (.inr ⟨h43, h45, decide_eq_false h45, by simp [signE, h43, h45]⟩)
  cases hb : capB nm <;> rcases hsg with ⟨rfl, hd, hs⟩ | ⟨rfl, hd, hs⟩ | ⟨h43, h45, hd, hs⟩
  all_goals
    first | rw [hs, wantE_true hb] at HU3 | rw [hs, wantE_false hb] at HU3
    rw [hd] at HU2
    rw [hb] at C
    clear hd hs hb
    try have e43 : ((l : Int) != 43) = true := by rw [bne_iff_ne]; omega
    try have e45 : ((l : Int) != 45) = true := by rw [bne_iff_ne]; omega
    try have e45' : ((l : Int) == 45) = false := by simp; omega
    try clear h43 h45
    go_enter Tryd.func98, Tryd.ntmps98
    go_wp2_with fail
    refine (HY.out _ HA.out).mono ?_
    rintro e w1 ⟨rfl, h1, h2⟩
    go_wp2_with fail
    refine (HL _).mono ?_
    rintro e w2 ⟨rfl, hb2⟩
    go_wp2_with fail
  · refine (C _).mono ?_
    rintro e w3 ⟨rfl, hb3⟩
    go_wp2_with fail
    refine (fail_any R q 3 _ ((h1.below hb2).below hb3)).mono ?_
    rintro e w4 ⟨rfl, hrd, h6⟩
    have hblk := blk_grown h6 (blk_below hb3 (blk_below hb2 (blk_grown h2 HC.out (by omega)))) (by omega)
    have hgr := (grown_below (grown_below (HG.out.trans h2) hb2) hb3).trans h6
    obtain ⟨c0, c1, f0, f1⟩ := two_cells hblk
    go_wp2
    refine bodyPost_ret (v := .agg #[.string nm, .bool false]) (by simp [results, Tryd.results98, go_sem, c0, c1]) rfl ⟨by rw [HU2.out], by rw [HU3.out]; exact (hrd.far (by omega) _ _).far (by omega) _ _, grown_new (grown_new hgr (Nat.le_refl _) _ _) (Nat.le_refl _) _ _⟩
  · refine (C _).mono ?_
    rintro e w3 ⟨rfl, hb3⟩
    go_wp2_with fail
    refine (fail_any R q 3 _ ((h1.below hb2).below hb3)).mono ?_
    rintro e w4 ⟨rfl, hrd, h6⟩
    have hblk := blk_grown h6 (blk_below hb3 (blk_below hb2 (blk_grown h2 HC.out (by omega)))) (by omega)
    have hgr := (grown_below (grown_below (HG.out.trans h2) hb2) hb3).trans h6
    obtain ⟨c0, c1, f0, f1⟩ := two_cells hblk
    go_wp2
    refine bodyPost_ret (v := .agg #[.string nm, .bool true]) (by simp [results, Tryd.results98, go_sem, c0, c1]) rfl ⟨by rw [HU2.out], by rw [HU3.out]; exact (hrd.far (by omega) _ _).far (by omega) _ _, grown_new (grown_new hgr (Nat.le_refl _) _ _) (Nat.le_refl _) _ _⟩
  · refine (fail_any R q 2 _ (h1.below hb2)).mono ?_
    rintro e w3 ⟨rfl, h3, h4⟩
    go_wp2_with fail
    refine (C _).mono ?_
    rintro e w4 ⟨rfl, hb4⟩
    go_wp2_with fail
    refine (fail_any R (q.1, failE q.2 2) 3 _ (h3.below hb4)).mono ?_
    rintro e w5 ⟨rfl, hrd, h6⟩
    have hblk := blk_grown h6 (blk_below hb4 (blk_grown h4 (blk_below hb2 (blk_grown h2 HC.out (by omega))) (by omega))) (by omega)
    have hgr := (grown_below ((grown_below (HG.out.trans h2) hb2).trans h4) hb4).trans h6
    obtain ⟨c0, c1, f0, f1⟩ := two_cells hblk
    go_wp2
    refine bodyPost_ret (v := .agg #[.string nm, .bool false]) (by simp [results, Tryd.results98, go_sem, c0, c1]) rfl ⟨by rw [HU2.out], by rw [HU3.out]; exact (hrd.far (by omega) _ _).far (by omega) _ _, grown_new (grown_new hgr (Nat.le_refl _) _ _) (Nat.le_refl _) _ _⟩
  · refine (C _).mono ?_
    rintro e w3 ⟨rfl, hb3⟩
    have hrd := (h1.below hb2).below hb3
    have hblk := blk_below hb3 (blk_below hb2 (blk_grown h2 HC.out (by omega)))
    have hgr := grown_below (grown_below (HG.out.trans h2) hb2) hb3
    obtain ⟨c0, c1, f0, f1⟩ := two_cells hblk
    go_wp2
    refine bodyPost_ret (v := .agg #[.string nm, .bool false]) (by simp [results, Tryd.results98, go_sem, c0, c1]) rfl ⟨by rw [HU2.out], by rw [HU3.out]; exact (hrd.far (by omega) _ _).far (by omega) _ _, grown_new (grown_new hgr (Nat.le_refl _) _ _) (Nat.le_refl _) _ _⟩
  · refine (C _).mono ?_
    rintro e w3 ⟨rfl, hb3⟩
    have hrd := (h1.below hb2).below hb3
    have hblk := blk_below hb3 (blk_below hb2 (blk_grown h2 HC.out (by omega)))
    have hgr := grown_below (grown_below (HG.out.trans h2) hb2) hb3
    obtain ⟨c0, c1, f0, f1⟩ := two_cells hblk
    go_wp2
    refine bodyPost_ret (v := .agg #[.string nm, .bool true]) (by simp [results, Tryd.results98, go_sem, c0, c1]) rfl ⟨by rw [HU2.out], by rw [HU3.out]; exact (hrd.far (by omega) _ _).far (by omega) _ _, grown_new (grown_new hgr (Nat.le_refl _) _ _) (Nat.le_refl _) _ _⟩
  · refine (fail_any R q 2 _ (h1.below hb2)).mono ?_
    rintro e w3 ⟨rfl, h3, h4⟩
    go_wp2_with fail
    refine (C _).mono ?_
    rintro e w4 ⟨rfl, hb4⟩
    have hrd := h3.below hb4
    have hblk := blk_below hb4 (blk_grown h4 (blk_below hb2 (blk_grown h2 HC.out (by omega))) (by omega))
    have hgr := grown_below ((grown_below (HG.out.trans h2) hb2).trans h4) hb4
    obtain ⟨c0, c1, f0, f1⟩ := two_cells hblk
    go_wp2
    refine bodyPost_ret (v := .agg #[.string nm, .bool false]) (by simp [results, Tryd.results98, go_sem, c0, c1]) rfl ⟨by rw [HU2.out], by rw [HU3.out]; exact (hrd.far (by omega) _ _).far (by omega) _ _, grown_new (grown_new hgr (Nat.le_refl _) _ _) (Nat.le_refl _) _ _⟩

end Go.Proofs.YtbifcicipkhohaaDoor
