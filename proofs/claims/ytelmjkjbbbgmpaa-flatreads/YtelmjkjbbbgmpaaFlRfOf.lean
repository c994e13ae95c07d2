/-
  The reference's Bool, Of: by contracts.
-/
import Derived.Test.YtelmjkjbbbgmpaaFlOf
namespace Go.Proofs.Ytelmjkjbbbgmpaa
open Go.RowKit

theorem rfBool_any (b : Bool) (w : World) : Calls Try.prog 32 #[.bool b] w fun e w' => e = .returned (.int .i64 (seenI b)) ∧ w' = w := by
  cases b
  all_goals
    go_enter Try.func32, Try.ntmps32
    go_wp2
    go_ret
    exact ⟨rfl, rfl⟩

set_option maxRecDepth 1000000 in
set_option maxHeartbeats 4000000 in
theorem rfOf_any (v : Value) (l : List Rs) (w : World) (h : rowAt w v 4 rsC l) (hl : l.length ≤ 1000) :
    Calls Try.prog 13 #[v] w fun e w' => ∃ u, e = .returned u ∧ IRow w' w.heap.size u (ofV l) ∧ Below w.heap.size w w' := by
  have HL : Hid (rowAt w v 4 rsC l) := h
  obtain ⟨ol, cl, rfl, -⟩ := h
  obtain ⟨n, hn⟩ : ∃ n, n = l.length := ⟨_, rfl⟩
  have HN : Hid (l.length = n) := hn.symm
  rw [← hn] at HL hl ⊢
  clear hn
  go_enter Try.func13, Try.ntmps13
  go_wp2
  go_loopg [3, 4] n (fun gk v i wr => ∃ k : Nat, gk = n - k ∧ i = .int .i64 k ∧ k ≤ n ∧ IRow wr w.heap.size v (ofV (l.take k)) ∧ Below w.heap.size w wr)
  case atStart => exact ⟨0, rfl, rfl, by omega, World.ownsRow_nil _ _ _ _, Below.refl _ _⟩
  case round =>
    obtain ⟨k, rfl, rfl, hk, h1, h2⟩ := hrel
    have HR : Hid (IRow wr w.heap.size u3 (ofV (l.take k)) ∧ Below w.heap.size w wr) := ⟨h1, h2⟩
    clear h1 h2
    by_cases hlt : k < n
    · have hki : (k : Int) < (n : Int) := by omega
      obtain ⟨⟨y1, y2, y3, y4⟩, hy⟩ := at_of (l := l) (k := k) (by rw [HN.out]; exact hlt)
      obtain ⟨g, off, rfl, hc0, hc1, hc2, hc3⟩ := row_rs HL.out k _ hy
      have HT : Hid (ofV (l.take (k + 1)) = ofV (l.take k) ++ ofS (y1, y2, y3, y4)) := by
        show ofV (l.take (k + 1)) = _
        rw [take_next hy, of_snoc]
      have HTL : Hid ((ofV (l.take k)).length ≤ 4 * k) := by show _ ≤ _; rw [of_len, List.length_take]; omega
      have hbd : Below wr.heap.size wr wr.drew := (Below.refl _ _).drew
      have hb2 : Below wr.heap.size wr (wr.drew.alloc (.cells #[.int .i64 y1, .int .i64 y2, .int .i64 y3, .int .i64 (seenI y4)] 3)) := hbd.alloc (Nat.le_refl _) _
      have hbw := HR.out.2.trans (hb2.mono HR.out.2.size)
      obtain ⟨v3, w3, r3, i3, b3⟩ := app_int _ w.heap.size u3 (.slice (some ⟨wr.drew.heap.size, 0, none⟩) 4 4) (ofV (l.take k)) (ofS (y1, y2, y3, y4)) (HR.out.1.below hb2) hbw.size
        (row_blk (cs := iC) (fun _ => rfl) (ofS (y1, y2, y3, y4)) (blk_new _ _) rfl) (by have := HTL.out; show _ + 4 ≤ _; omega)
      have H3 : Hid (IRow w3 w.heap.size v3 (ofV (l.take (k + 1))) ∧ Below w.heap.size w w3) := ⟨by rw [HT.out]; exact i3, hbw.trans b3⟩
      have f0 := ext_cell hc0
      have f1 := ext_cell hc1
      have f2 := ext_cell hc2
      have f3 := ext_cell hc3
      haveI := ext_some w
      have HBD0 : Hid (Below w.heap.size w wr.drew) := HR.out.2.drew
      have HB2 : Hid (Below w.heap.size w (wr.drew.alloc (.cells #[.int .i64 y1, .int .i64 y2, .int .i64 y3, .int .i64 (seenI y4)] 3))) := hbw
      clear hy hb2 hbw i3 b3 hc0 hc1 hc2 hc3 hbd
      go_wp2_with fail
      refine wp_region_mix_lex (C := fun W => ∃ y : Ext w, W = y.z) (by kernel_rfl) (by kernel_rfl) (by kernel_rfl) (by kernel_rfl) ⟨⟨_, HBD0.out⟩, rfl⟩ ?_
      (repeat (first | (with_reducible refine mix_read (by kernel_rfl) ?_; go_big_quiet_want; go_big_quiet_op; go_big_quiet_on; with_reducible refine wpQuiet_nil ?_) | (with_reducible refine mix_pass (by kernel_rfl) ?_; go_big_quiet_skip; with_reducible refine wpQuiet_nil ?_)))
      with_reducible refine mix_call (by kernel_rfl) (by kernel_rfl) ((rfBool_any y4 _).mono ?_) (by kernel_rfl)
      rintro e wz ⟨rfl, hw⟩
      obtain rfl := hw.symm
      refine ⟨_, rfl, ⟨⟨_, HBD0.out⟩, rfl⟩, ?_⟩
      simp only [Act.put, List.setIfInBounds_toArray, List.set_cons_zero, List.set_cons_succ]
      refine mix_does (v := .slice (some ⟨wr.drew.heap.size, 0, none⟩) 4 4) (w' := wr.drew.alloc (.cells #[.int .i64 y1, .int .i64 y2, .int .i64 y3, .int .i64 (seenI y4)] 3)) (by kernel_rfl) (by kernel_rfl) (by kernel_rfl) ⟨⟨_, HB2.out⟩, rfl⟩ ?_
      simp only [Act.put, List.setIfInBounds_toArray, List.set_cons_zero, List.set_cons_succ]
      refine mix_does (v := v3) (w' := w3) (by kernel_rfl) (by kernel_rfl) (append_op _ _ 23 23 rfl u3 (.slice (some ⟨wr.drew.heap.size, 0, none⟩) 4 4) rfl rfl v3 r3) ⟨⟨_, H3.out.2⟩, rfl⟩ ?_
      simp only [Act.put, List.setIfInBounds_toArray, List.set_cons_zero, List.set_cons_succ]
      (repeat (first | (with_reducible refine mix_read (by kernel_rfl) ?_; go_big_quiet_want; go_big_quiet_op; go_big_quiet_on; with_reducible refine wpQuiet_nil ?_) | (with_reducible refine mix_pass (by kernel_rfl) ?_; go_big_quiet_skip; with_reducible refine wpQuiet_nil ?_)))
      with_reducible refine mix_end ?_
      intro _
      clear f0 f1 f2 f3 HB2 HBD0
      go_wp2
      go_roundg (n - (k + 1))
      case rel => exact ⟨k + 1, rfl, by go_num, by omega, H3.out⟩
      case measure => omega
    · have hke : k = n := by omega
      subst hke
      rw [List.take_of_length_le (by rw [HN.out]; exact Nat.le_refl _)] at HR
      go_wp2
      go_ret
      exact ⟨_, rfl, HR.out⟩
end Go.Proofs.Ytelmjkjbbbgmpaa
