/-
  The reference's Take: by a contract.
-/
import Derived.Test.YtelmjkjbbbgmpaaFlRfOf
namespace Go.Proofs.Ytelmjkjbbbgmpaa
open Go.RowKit

def TkAns (w : World) (B : Nat) (o : Option (List Rs)) (e : Ending) : Prop :=
  (∃ l v, o = some l ∧ e = .returned (.tuple #[v, .bool true]) ∧ SRow w B v l) ∨ (o = none ∧ e = .returned (.tuple #[.slice none 0 0, .bool false]))
theorem app_rs (w : World) (B : Nat) (v u : Value) (q p : List Rs) (h : SRow w B v q) (hB : B ≤ w.heap.size) (hu : rowAt w u 4 rsC p) (h5 : q.length + p.length ≤ 1000000) :
    ∃ v1 w1, (Builtin.append_ #[22, 22] 22 #[v, u]).run Try.prog w = .ok v1 w1 ∧ SRow w1 B v1 (q ++ p) ∧ Below B w w1 := by
  obtain ⟨i0, hii, hz0, hz1, hz2⟩ := info_parts infoRs
  have hu' := hu
  obtain ⟨oa, c, rfl, -⟩ := hu
  cases oa with
  | none =>
    obtain ⟨rfl, -⟩ := row_none hu'
    exact ⟨v, w, append_none_c B 22 22 62 i0 4 Try.underlying22 hii v q.length _ h c, by rw [List.append_nil]; exact h, Below.refl _ _⟩
  | some a =>
    obtain ⟨v1, w1, r1, r2, r3, _, _⟩ := run_append_own_at (P := Try.prog) w B 22 22 62 i0 (.agg #[.int .i64 0, .int .i64 0, .int .i64 0, .bool false]) 4 32 Try.underlying22 hii hz0 hz1 hz2 rfl (by decide) v q.length _ h a p.length c (p.flatMap rsC)
      (flat_lenG (cs := rsC) (size := 4) (fun _ => rfl) p) (row_some (cs := rsC) (size := 4) (fun _ => rfl) (by omega) hu') (cells_rs p) (by unfold maxLen; omega) (by omega) hB
    refine ⟨v1, w1, r1, ?_, (Below.refl _ _).grown r3 hB fun g e => (h.lt g e).1⟩
    unfold SRow
    rw [List.length_append, List.flatMap_append]
    exact r2

set_option maxRecDepth 1000000 in
set_option maxHeartbeats 4000000 in
theorem rfTake_any (v : Value) (a : List Int) (w : World) (h : rowAt w v 1 iC a) (hl : a.length ≤ 1000) :
    Calls Try.prog 10 #[v] w fun e w' => TkAns w' w.heap.size (takeV a) e ∧ Below w.heap.size w w' := by
  have HA : Hid (rowAt w v 1 iC a) := h
  obtain ⟨oa, ca, rfl, -⟩ := h
  obtain ⟨n, hn⟩ : ∃ n, n = a.length := ⟨_, rfl⟩
  have HN : Hid (a.length = n) := hn.symm
  rw [← hn] at HA hl ⊢
  by_cases h4 : n % 4 = 0
  · obtain ⟨m, hm⟩ : ∃ m, n = 4 * m := ⟨n / 4, by omega⟩
    have HM : Hid (n = 4 * m) := hm
    have HT : Hid (takeV a = tkT a m) := by
      show takeV a = _
      rw [takeV, if_pos (by rw [← hn]; exact h4), ← hn, show n / 4 = m by omega]
    have h4i : ((n : Int) % 4 != 0) = false := by simp; omega
    clear hn hm
    go_enter Try.func10, Try.ntmps10
    go_wp2
    go_loopg [4, 5] m (fun gk v i wr => ∃ k q : Nat, ∃ acc, gk = m - k ∧ i = .int .i64 (q : Int) ∧ q = 4 * k ∧ k ≤ m ∧ tkT a k = some acc ∧ SRow wr w.heap.size v acc ∧ Below w.heap.size w wr)
    case atStart => exact ⟨0, 0, [], rfl, rfl, rfl, by omega, rfl, World.ownsRow_nil _ _ _ _, Below.refl _ _⟩
    case round =>
      obtain ⟨k, q, acc, rfl, rfl, hq, hk, h1, h2, h3⟩ := hrel
      have HQ : Hid (q = 4 * k ∧ n = 4 * m) := ⟨hq, HM.out⟩
      have HR : Hid (tkT a k = some acc ∧ SRow wr w.heap.size u4 acc ∧ Below w.heap.size w wr) := ⟨h1, h2, h3⟩
      have HAL : Hid (acc.length = k) := tkT_len h1
      clear h1 h2 h3
      have hlm : k < m → q + 3 < n := fun h => by have := HQ.out; omega
      have hge : ¬ k < m → ¬ q < n := fun h => by have := HQ.out; omega
      by_cases hlt : k < m
      · have hqi : (q : Int) < (n : Int) := by omega
        have hqi1 : (q : Int) + 1 < (n : Int) := by omega
        have hqi2 : (q : Int) + 2 < (n : Int) := by omega
        have hqi3 : (q : Int) + 3 < (n : Int) := by omega
        obtain ⟨y1, e0⟩ := at_of (l := a) (k := q) (by rw [HN.out]; omega)
        obtain ⟨y2, e1⟩ := at_of (l := a) (k := q + 1) (by rw [HN.out]; omega)
        obtain ⟨y3, e2⟩ := at_of (l := a) (k := q + 2) (by rw [HN.out]; omega)
        obtain ⟨y4, e3⟩ := at_of (l := a) (k := q + 3) (by rw [HN.out]; omega)
        obtain ⟨g, off, rfl, d0⟩ := row_int HA.out q _ e0
        obtain ⟨_, _, e', d1⟩ := row_int HA.out (q + 1) _ e1
        injection e' with e'
        injection e' with e1' e2'
        subst e1' e2'
        obtain ⟨_, _, e', d2⟩ := row_int HA.out (q + 2) _ e2
        injection e' with e'
        injection e' with e1' e2'
        subst e1' e2'
        obtain ⟨_, _, e', d3⟩ := row_int HA.out (q + 3) _ e3
        injection e' with e'
        injection e' with e1' e2'
        subst e1' e2'
        have HE : Hid (a[4 * k]? = some y1 ∧ a[4 * k + 1]? = some y2 ∧ a[4 * k + 2]? = some y3 ∧ a[4 * k + 3]? = some y4) := by rw [hq] at e0 e1 e2 e3; exact ⟨e0, e1, e2, e3⟩
        clear e0 e1 e2 e3 hq
        have c3 := up_cell (HR.out.2.2.mono (Nat.le_refl _)) d3
        by_cases hs0 : y4 < 0
        · have HX : Hid (takeV a = none) := by rw [Hid, HT.out]; exact tkT_stop (tkAt_none HE.out.2.2.2 (by omega)) m hlt
          go_wp2
          go_ret2
          exact ⟨.inr ⟨HX.out, rfl⟩, HR.out.2.2⟩
        · by_cases hs1 : 1 < y4
          · have HX : Hid (takeV a = none) := by rw [Hid, HT.out]; exact tkT_stop (tkAt_none HE.out.2.2.2 (by omega)) m hlt
            go_wp2
            go_ret2
            exact ⟨.inr ⟨HX.out, rfl⟩, HR.out.2.2⟩
          · have HK : Hid (tkT a (k + 1) = some (acc ++ [(y1, y2, y3, decide (y4 = 1))])) := tkT_next HR.out.1 (tkAt_some HE.out.1 HE.out.2.1 HE.out.2.2.1 HE.out.2.2.2 (by omega))
            have hdec : ((y4 : Int) == 1) = decide (y4 = 1) := by rw [Bool.eq_iff_iff]; simp
            have hbd : Below wr.heap.size wr wr.drew := (Below.refl _ _).drew
            have hb2 : Below wr.heap.size wr (wr.drew.alloc (.cells #[.int .i64 y1, .int .i64 y2, .int .i64 y3, .bool (decide (y4 = 1))] 62)) := hbd.alloc (Nat.le_refl _) _
            have hbw := HR.out.2.2.trans (hb2.mono HR.out.2.2.size)
            obtain ⟨v3, w3, r3, i3, b3⟩ := app_rs _ w.heap.size u4 (.slice (some ⟨wr.drew.heap.size, 0, none⟩) 1 1) acc [(y1, y2, y3, decide (y4 = 1))] (HR.out.2.1.below hb2) hbw.size
              (row_blk (cs := rsC) (fun _ => rfl) [(y1, y2, y3, decide (y4 = 1))] (blk_new _ _) rfl) (by have := HQ.out; rw [HAL.out]; show k + 1 ≤ _; omega)
            have H3 : Hid (SRow w3 w.heap.size v3 (acc ++ [(y1, y2, y3, decide (y4 = 1))]) ∧ Below w.heap.size w w3) := ⟨i3, hbw.trans b3⟩
            have f0 := ext_cell d0
            have f1 := ext_cell d1
            have f2 := ext_cell d2
            have f3 := ext_cell d3
            haveI := ext_some w
            have HBD0 : Hid (Below w.heap.size w wr.drew) := HR.out.2.2.drew
            have HB2 : Hid (Below w.heap.size w (wr.drew.alloc (.cells #[.int .i64 y1, .int .i64 y2, .int .i64 y3, .bool (decide (y4 = 1))] 62))) := hbw
            clear hb2 hbw i3 b3 hbd d0 d1 d2 d3
            go_wp2_with fail
            refine wp_region_mix_lex (C := fun W => ∃ y : Ext w, W = y.z) (by kernel_rfl) (by kernel_rfl) (by kernel_rfl) (by kernel_rfl) ⟨⟨_, HBD0.out⟩, rfl⟩ ?_
            (repeat (first | (with_reducible refine mix_read (by kernel_rfl) ?_; go_big_quiet_want; go_big_quiet_op; go_big_quiet_on; with_reducible refine wpQuiet_nil ?_) | (with_reducible refine mix_pass (by kernel_rfl) ?_; go_big_quiet_skip; with_reducible refine wpQuiet_nil ?_)))
            refine mix_does (v := .slice (some ⟨wr.drew.heap.size, 0, none⟩) 1 1) (w' := wr.drew.alloc (.cells #[.int .i64 y1, .int .i64 y2, .int .i64 y3, .bool (decide (y4 = 1))] 62)) (by kernel_rfl) (by kernel_rfl) (by kernel_rfl) ⟨⟨_, HB2.out⟩, rfl⟩ ?_
            simp only [Act.put, List.setIfInBounds_toArray, List.set_cons_zero, List.set_cons_succ]
            refine mix_does (v := v3) (w' := w3) (by kernel_rfl) (by kernel_rfl) (append_op _ _ 22 22 rfl u4 (.slice (some ⟨wr.drew.heap.size, 0, none⟩) 1 1) rfl rfl v3 r3) ⟨⟨_, H3.out.2⟩, rfl⟩ ?_
            simp only [Act.put, List.setIfInBounds_toArray, List.set_cons_zero, List.set_cons_succ]
            (repeat (first | (with_reducible refine mix_read (by kernel_rfl) ?_; go_big_quiet_want; go_big_quiet_op; go_big_quiet_on; with_reducible refine wpQuiet_nil ?_) | (with_reducible refine mix_pass (by kernel_rfl) ?_; go_big_quiet_skip; with_reducible refine wpQuiet_nil ?_)))
            with_reducible refine mix_end ?_
            intro _
            clear f0 f1 f2 f3 HB2 HBD0
            go_wp2
            go_roundg (m - (k + 1))
            case rel => exact ⟨k + 1, q + 4, _, rfl, by go_num, by have := HQ.out; omega, by omega, HK.out, H3.out⟩
            case measure => omega
      · have hke : k = m := by omega
        have hqn := hge hlt
        have hqi : ¬ (q : Int) < (n : Int) := by omega
        subst hke
        clear hq
        rw [← HT.out] at HR
        go_wp2
        go_ret2
        exact ⟨.inl ⟨acc, _, HR.out.1, rfl, HR.out.2.1⟩, HR.out.2.2⟩
  · have HT : Hid (takeV a = none) := by
      show takeV a = none
      rw [takeV, if_neg (by rw [← hn]; exact h4)]
    have h4i : ((n : Int) % 4 != 0) = true := by rw [bne_iff_ne]; omega
    clear hn
    go_enter Try.func10, Try.ntmps10
    go_wp2
    go_ret2
    exact ⟨.inr ⟨HT.out, rfl⟩, Below.refl _ _⟩
end Go.Proofs.Ytelmjkjbbbgmpaa
