/-
  Package flat: Of; the reference's Of: by contracts.
-/
import Derived.Test.YtelmjkjbbbgmpaaFlTP
import Derived.Test.YtelmjkjbbbgmpaaFlApp
import Derived.Test.YtelmjkjbbbgmpaaFlExt
import Derived.Test.YtelmjkjbbbgmpaaLyFork
import Derived.Laws.MakeOwn
namespace Go.Proofs.Ytelmjkjbbbgmpaa
open Go.RowKit

theorem mk_room (n : Nat) (hn : n ≤ 4000) (w : World) : ∃ w1, (Instr.makeSlice 23 (.int .i64 0) (.int .i64 (n : Int))).run Try.prog w = .ok (.slice (some ⟨w.heap.size, 0, none⟩) 0 n) w1 ∧ IRow w1 w.heap.size (.slice (some ⟨w.heap.size, 0, none⟩) 0 n) [] ∧ Below w.heap.size w w1 := by
  obtain ⟨i0, hii, hz0, hz1, hz2⟩ := info_parts infoInt
  obtain ⟨w1, h1, h2, h3⟩ := run_make_own (P := Try.prog) w w.heap.size 23 3 i0 (.int .i64 0) 1 Try.underlying23 hii hz0 hz1 .i64 .i64 n (by rw [hz2]; omega) (by unfold maxLen; omega) (Nat.le_refl _)
  exact ⟨w1, h1, h2, (Below.refl _ _).grown h3 (Nat.le_refl _) (fun k e => by cases e)⟩
set_option maxRecDepth 1000000 in
set_option maxHeartbeats 4000000 in
theorem of_any (v : Value) (l : List Rs) (w : World) (h : rowAt w v 4 rsC l) (hl : l.length ≤ 1000) :
    Calls Try.prog 12 #[v] w fun e w' => ∃ u, e = .returned u ∧ IRow w' w.heap.size u (ofV l) ∧ Below w.heap.size w w' := by
  obtain ⟨i0, hii, hz0, hz1, hz2⟩ := info_parts infoInt
  have HL : Hid (rowAt w v 4 rsC l) := h
  obtain ⟨ol, cl, rfl, -⟩ := h
  obtain ⟨n, hn⟩ : ∃ n, n = l.length := ⟨_, rfl⟩
  have HN : Hid (l.length = n) := hn.symm
  rw [← hn] at HL hl ⊢
  clear hn
  obtain ⟨w1, hmk, m1, m2⟩ := mk_room (4 * n) (by omega) w
  have H1 : Hid (IRow w1 w.heap.size (.slice (some ⟨w.heap.size, 0, none⟩) 0 (4 * n)) [] ∧ Below w.heap.size w w1) := ⟨m1, m2⟩
  clear m1 m2
  rw [show ((4 * n : Nat) : Int) = 4 * (n : Int) by omega] at hmk
  go_enter Try.func12, Try.ntmps12
  go_wp2
  go_loopg [3, 13] n (fun gk v i wr => ∃ k : Nat, gk = n - k ∧ i = .int .i64 k ∧ k ≤ n ∧ IRow wr w.heap.size v (ofV (l.take k)) ∧ Below w.heap.size w wr)
  case atStart => exact ⟨0, rfl, rfl, by omega, H1.out⟩
  case round =>
    obtain ⟨k, rfl, rfl, hk, h1, h2⟩ := hrel
    have HR : Hid (IRow wr w.heap.size u3 (ofV (l.take k)) ∧ Below w.heap.size w wr) := ⟨h1, h2⟩
    clear h1 h2
    by_cases hlt : k < n
    · have hki : (k : Int) < (n : Int) := by omega
      obtain ⟨⟨y1, y2, y3, y4⟩, hy⟩ := at_of (l := l) (k := k) (by rw [HN.out]; exact hlt)
      obtain ⟨g, off, rfl, hc0, hc1, hc2, hc3⟩ := row_rs (HL.out.below HR.out.2) k _ hy
      have HT : Hid (ofV (l.take (k + 1)) = ofV (l.take k) ++ ofS (y1, y2, y3, y4)) := by
        show ofV (l.take (k + 1)) = _
        rw [take_next hy, of_snoc]
      have HTL : Hid ((ofV (l.take k)).length ≤ 4 * k) := by show _ ≤ _; rw [of_len, List.length_take]; omega
      have hba : Below wr.heap.size wr (wr.alloc (.cells #[.int .i64 y1, .int .i64 y2, .int .i64 y3, .bool y4] 62)) := (Below.refl _ _).alloc (Nat.le_refl _) _
      have H2 : Hid (IRow (wr.alloc (.cells #[.int .i64 y1, .int .i64 y2, .int .i64 y3, .bool y4] 62)) w.heap.size u3 (ofV (l.take k)) ∧ Below w.heap.size w (wr.alloc (.cells #[.int .i64 y1, .int .i64 y2, .int .i64 y3, .bool y4] 62))) :=
        ⟨HR.out.1.below hba, HR.out.2.trans (hba.mono HR.out.2.size)⟩
      clear hy hba
      have news : ∀ (s : Int) (y4 : Bool), seenI y4 = s → ∃ v3 w3, (Builtin.append_ #[23, 23] 23 #[u3, .slice (some ⟨wr.heap.size + 1, 0, none⟩) 4 4]).run Try.prog ((wr.alloc (.cells #[.int .i64 y1, .int .i64 y2, .int .i64 y3, .bool y4] 62)).alloc (.cells #[.int .i64 y1, .int .i64 y2, .int .i64 y3, .int .i64 s] 3)) = .ok v3 w3 ∧ IRow w3 w.heap.size v3 (ofV (l.take k) ++ ofS (y1, y2, y3, y4)) ∧ Below w.heap.size w w3 := fun s y4 hs => by
        have hb2 : Below wr.heap.size wr ((wr.alloc (.cells #[.int .i64 y1, .int .i64 y2, .int .i64 y3, .bool y4] 62)).alloc (.cells #[.int .i64 y1, .int .i64 y2, .int .i64 y3, .int .i64 s] 3)) := (by repeat' (with_reducible first | exact Below.refl _ _ | refine Below.drew ?_ | refine _root_.Go.below_drewN ?_ _ | refine Below.alloc ?_ ?_ _ | refine Below.setCell ?_ ?_ _ | exact Nat.le_refl _ | (simp; done) | (simp; omega)))
        have hbw := HR.out.2.trans (hb2.mono HR.out.2.size)
        obtain ⟨v3, w3, r3, i3, b3⟩ := app_int _ w.heap.size u3 (.slice (some ⟨wr.heap.size + 1, 0, none⟩) 4 4) (ofV (l.take k)) (ofS (y1, y2, y3, y4)) (HR.out.1.below hb2) hbw.size
          (row_blk (cs := iC) (fun _ => rfl) (ofS (y1, y2, y3, y4)) (blk_at1 _ _ _) (by subst hs; rfl)) (by have := HTL.out; show _ + 4 ≤ _; omega)
        exact ⟨v3, w3, r3, i3, hbw.trans b3⟩
      cases y4
      all_goals
        obtain ⟨v3, w3, r3, i3, b3⟩ := news _ _ rfl
        have H3 : Hid (IRow w3 w.heap.size v3 (ofV (l.take (k + 1))) ∧ Below w.heap.size w w3) := ⟨by rw [HT.out]; exact i3, b3⟩
        clear news i3 b3
        simp only [seenI, if_true, Bool.false_eq_true, if_false] at r3
        go_wp2_with (at_builtin; refine wpList_app_run rfl _ _ 23 rfl _ _ rfl rfl v3 w3 r3 ?_)
        go_roundg (n - (k + 1))
        case rel => exact ⟨k + 1, rfl, by go_num, by omega, H3.out⟩
        case measure => omega
    · have hke : k = n := by omega
      subst hke
      rw [List.take_of_length_le (by rw [HN.out]; exact Nat.le_refl _)] at HR
      go_wp2
      go_ret
      exact ⟨_, rfl, HR.out⟩
end Go.Proofs.Ytelmjkjbbbgmpaa
