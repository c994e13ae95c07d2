/-
  Of any row of acts: RelayOne returns true. No condition.
-/
import Derived.Test.YtmnhlnhocnchpaaRows
import Derived.Test.YtmnhlnhocnchpaaRlKnown
import Derived.Test.YtmnhlnhocnchpaaRlArgs
import Derived.Test.YtmnhlnhocnchpaaLyMix
import Derived.Test.YtmnhlnhocnchpaaFlExt
import Derived.ShutString
namespace Go.Proofs.Ytmnhlnhocnchpaa.relayOne
open Go.ChangeShapes Go.WideShapes Go.ChangeAt Go.RowKit

set_option maxRecDepth 1000000 in
set_option maxHeartbeats 8000000 in
theorem walk (w : World) (oa : Option Addr) (n ca : Nat) (a : List Ac) (ea : a.length = n) (_ : OkSl oa n ca) (sa : rowAt w (.slice oa n ca) 3 acC a ∧ ∀ y ∈ a, wfI y.1 ∧ wfI y.2.1 ∧ wfI y.2.2) :
    Calls Try.prog 4 #[.slice oa n ca] w fun e w' => e = .returned (.bool true) ∧ Below w.heap.size w w' := by
  have HA : Hid (rowAt w (.slice oa n ca) 3 acC a ∧ a.length = n ∧ ∀ y ∈ a, wfI y.1 ∧ wfI y.2.1 ∧ wfI y.2.2) := ⟨sa.1, ea, sa.2⟩
  clear sa ea
  by_cases h2 : 10000 < n
  · have h2i : (10000 : Int) < (n : Int) := by omega
    go_enter Try.func4, Try.ntmps4
    go_wp2
    go_ret
    exact ⟨rfl, Below.refl _ _⟩
  have h2i : ¬ (10000 : Int) < (n : Int) := by omega
  go_enter Try.func4, Try.ntmps4
  go_wp2_with fail
  refine (new_l w _ (Below.refl _ _)).mono ?_
  rintro e w1 ⟨b, rfl, h, -, -⟩
  have H1 : Hid (RlL w w1 b newR 0) := h
  clear h
  go_wp2
  go_loopg [4, 5, 6, 7] n (fun gk tn ov ev i wr => ∃ (k : Nat) (nv : Int) (s : Rl) (c : Int), gk = n - k ∧ tn = .int .i64 nv ∧ ov = .int .i64 s.own ∧ ev = .int .i64 s.epoch ∧ i = .int .i64 k ∧ k ≤ n ∧ k ≤ 80 ∧ (0 ≤ nv ∧ nv ≤ 15 * k) ∧ c ≤ k ∧ RlL w wr b s c)
  case atStart => exact ⟨0, 0, newR, 0, rfl, rfl, rfl, rfl, rfl, by omega, by omega, by omega, by omega, H1.out⟩
  case round =>
    obtain ⟨k, nv, s, c, rfl, rfl, rfl, rfl, rfl, hk, hk80, ⟨hnv0, hnv1⟩, hc, hs⟩ := hrel
    have HC : Hid (c ≤ (k : Int)) := hc
    obtain ⟨nw, own, con, ep, la, ask, fr⟩ := s
    have H10 : Hid (RlL w wr b ⟨nw, own, con, ep, la, ask, fr⟩ c) := hs
    clear hs hc H1
    dsimp only
    by_cases hlt : k < n
    · have hki : (k : Int) < (n : Int) := by omega
      by_cases hlt80 : k < 80
      · have hk8 : (k : Int) < 80 := by omega
        have ⟨hep0, hep1⟩ := H10.out.at_.ok.epoch
        dsimp only at hep0 hep1
        have hep2 : ep ≤ 80 := by have := HC.out; omega
        clear hep1
        obtain ⟨⟨x0, x1, x2⟩, hx⟩ : ∃ x, a[k]? = some x := at_of (by rw [HA.out.2.1]; exact hlt)
        obtain ⟨g, off, rfl, a0, a1, a2⟩ := row_act (HA.out.1.below H10.out.bl) k _ hx
        obtain ⟨g', off', e', b0, b1, b2⟩ := row_act HA.out.1 k _ hx
        injection e' with e'
        injection e' with e1 e2
        subst e1 e2
        dsimp only at a0 a1 a2 b0 b1 b2
        have HBQ : Hid (Below w.heap.size w wr) := H10.out.bl
        clear hx
        by_cases hx0 : x0 = 1
        · subst hx0
          have hx2 := i64_and15 x2
          obtain ⟨u, hu, hu2⟩ : ∃ u, u = x2 % 16 ∧ 0 ≤ u ∧ u < 16 := ⟨x2 % 16, rfl, by omega, by omega⟩
          rw [← hu] at hx2
          clear hu b0 b1 b2
          obtain ⟨s', hs'⟩ : ∃ s', beginR ⟨nw, own, con, ep, la, ask, fr⟩ (nv + u) = s' := ⟨_, rfl⟩
          have HN : Hid (OneR ⟨nw, own, con, ep, la, ask, fr⟩ s') := hs' ▸ one_begin _ _
          have D := begin_l w wr b _ _ (nv + u) H10.out s' hs'
          go_wp2_with fail
          refine D.mono ?_
          rintro e w20 ⟨rfl, h, -⟩
          have H20 : Hid (RlL w w20 b s' (c)) := h
          clear D h H10
          clear a0 a1 a2 hx2 hs'
          obtain ⟨nw', o, cn, ep', la', as', fr'⟩ := s'
          obtain ⟨hN1, hN2, hN3, hN4⟩ := HN.out
          have hr := H20.out.at_.ok.own
          have hcn := H20.out.at_.ok.con
          dsimp only at hN1 hN2 hN3 hN4 hr hcn
          rcases (show o = -1 ∨ o = 0 ∨ o = 1 by omega) with rfl | rfl | rfl
          · have he : ep' = ep := hN2 (by decide)
            subst he
            obtain rfl : cn = -1 := by omega
            have hl1 : ¬ ep' < ep' := by omega
            clear hN1 hN2 hN3 hN4 hcn hr HN
            have D := own_l H20.out (-1) rfl
            go_wp2_with fail
            refine D.mono ?_
            rintro e w9 ⟨rfl, hw⟩
            rw [hw]
            clear hw w9 D
            have D := con_l H20.out (-1) rfl
            go_wp2_with fail
            refine D.mono ?_
            rintro e w9 ⟨rfl, hw⟩
            rw [hw]
            clear hw w9 D
            have D := epoch_l H20.out ep' rfl
            go_wp2_with fail
            refine D.mono ?_
            rintro e w9 ⟨rfl, hw⟩
            rw [hw]
            clear hw w9 D
            go_wp2
            go_roundg (n - (k + 1))
            case rel => exact ⟨k + 1, nv + u, _, _, rfl, rfl, rfl, rfl, by go_num, by omega, by omega, by omega, by have := HC.out; omega, H20.out⟩
            case measure => omega
          · by_cases hoo : own = 0
            · subst hoo
              have he : ep' = ep := hN4 rfl
              subst he
              have hl1 : ¬ ep' < ep' := by omega
              rcases hcn with rfl | rfl
              · skip
                have D := own_l H20.out 0 rfl
                go_wp2_with fail
                refine D.mono ?_
                rintro e w9 ⟨rfl, hw⟩
                rw [hw]
                clear hw w9 D
                have D := con_l H20.out (-1) rfl
                go_wp2_with fail
                refine D.mono ?_
                rintro e w9 ⟨rfl, hw⟩
                rw [hw]
                clear hw w9 D
                have D := epoch_l H20.out ep' rfl
                go_wp2_with fail
                refine D.mono ?_
                rintro e w9 ⟨rfl, hw⟩
                rw [hw]
                clear hw w9 D
                go_wp2
                go_roundg (n - (k + 1))
                case rel => exact ⟨k + 1, nv + u, _, _, rfl, rfl, rfl, rfl, by go_num, by omega, by omega, by omega, by have := HC.out; omega, H20.out⟩
                case measure => omega
              · skip
                have D := own_l H20.out 0 rfl
                go_wp2_with fail
                refine D.mono ?_
                rintro e w9 ⟨rfl, hw⟩
                rw [hw]
                clear hw w9 D
                have D := con_l H20.out 0 rfl
                go_wp2_with fail
                refine D.mono ?_
                rintro e w9 ⟨rfl, hw⟩
                rw [hw]
                clear hw w9 D
                have D := epoch_l H20.out ep' rfl
                go_wp2_with fail
                refine D.mono ?_
                rintro e w9 ⟨rfl, hw⟩
                rw [hw]
                clear hw w9 D
                go_wp2
                go_roundg (n - (k + 1))
                case rel => exact ⟨k + 1, nv + u, _, _, rfl, rfl, rfl, rfl, by go_num, by omega, by omega, by omega, by have := HC.out; omega, H20.out⟩
                case measure => omega
            · skip
              have he : ep' = ep + 1 := hN3 ⟨by decide, fun e => hoo e.symm⟩
              subst he
              have hl1 : ¬ ep + 1 < ep := by omega
              have hl2 : ep < ep + 1 := by omega
              have hq1 : ((0 : Int) == own) = false := by simp; exact fun e => hoo e.symm
              have hq2 : ((0 : Int) != own) = true := by simp; exact fun e => hoo e.symm
              rcases hcn with rfl | rfl
              · skip
                have D := own_l H20.out 0 rfl
                go_wp2_with fail
                refine D.mono ?_
                rintro e w9 ⟨rfl, hw⟩
                rw [hw]
                clear hw w9 D
                have D := con_l H20.out (-1) rfl
                go_wp2_with fail
                refine D.mono ?_
                rintro e w9 ⟨rfl, hw⟩
                rw [hw]
                clear hw w9 D
                have D := epoch_l H20.out (ep + 1) rfl
                go_wp2_with fail
                refine D.mono ?_
                rintro e w9 ⟨rfl, hw⟩
                rw [hw]
                clear hw w9 D
                go_wp2
                go_roundg (n - (k + 1))
                case rel => exact ⟨k + 1, nv + u, _, _, rfl, rfl, rfl, rfl, by go_num, by omega, by omega, by omega, by have := HC.out; omega, H20.out⟩
                case measure => omega
              · skip
                have D := own_l H20.out 0 rfl
                go_wp2_with fail
                refine D.mono ?_
                rintro e w9 ⟨rfl, hw⟩
                rw [hw]
                clear hw w9 D
                have D := con_l H20.out 0 rfl
                go_wp2_with fail
                refine D.mono ?_
                rintro e w9 ⟨rfl, hw⟩
                rw [hw]
                clear hw w9 D
                have D := epoch_l H20.out (ep + 1) rfl
                go_wp2_with fail
                refine D.mono ?_
                rintro e w9 ⟨rfl, hw⟩
                rw [hw]
                clear hw w9 D
                go_wp2
                go_roundg (n - (k + 1))
                case rel => exact ⟨k + 1, nv + u, _, _, rfl, rfl, rfl, rfl, by go_num, by omega, by omega, by omega, by have := HC.out; omega, H20.out⟩
                case measure => omega
          · by_cases hoo : own = 1
            · subst hoo
              have he : ep' = ep := hN4 rfl
              subst he
              have hl1 : ¬ ep' < ep' := by omega
              rcases hcn with rfl | rfl
              · skip
                have D := own_l H20.out 1 rfl
                go_wp2_with fail
                refine D.mono ?_
                rintro e w9 ⟨rfl, hw⟩
                rw [hw]
                clear hw w9 D
                have D := con_l H20.out (-1) rfl
                go_wp2_with fail
                refine D.mono ?_
                rintro e w9 ⟨rfl, hw⟩
                rw [hw]
                clear hw w9 D
                have D := epoch_l H20.out ep' rfl
                go_wp2_with fail
                refine D.mono ?_
                rintro e w9 ⟨rfl, hw⟩
                rw [hw]
                clear hw w9 D
                go_wp2
                go_roundg (n - (k + 1))
                case rel => exact ⟨k + 1, nv + u, _, _, rfl, rfl, rfl, rfl, by go_num, by omega, by omega, by omega, by have := HC.out; omega, H20.out⟩
                case measure => omega
              · skip
                have D := own_l H20.out 1 rfl
                go_wp2_with fail
                refine D.mono ?_
                rintro e w9 ⟨rfl, hw⟩
                rw [hw]
                clear hw w9 D
                have D := con_l H20.out 1 rfl
                go_wp2_with fail
                refine D.mono ?_
                rintro e w9 ⟨rfl, hw⟩
                rw [hw]
                clear hw w9 D
                have D := epoch_l H20.out ep' rfl
                go_wp2_with fail
                refine D.mono ?_
                rintro e w9 ⟨rfl, hw⟩
                rw [hw]
                clear hw w9 D
                go_wp2
                go_roundg (n - (k + 1))
                case rel => exact ⟨k + 1, nv + u, _, _, rfl, rfl, rfl, rfl, by go_num, by omega, by omega, by omega, by have := HC.out; omega, H20.out⟩
                case measure => omega
            · skip
              have he : ep' = ep + 1 := hN3 ⟨by decide, fun e => hoo e.symm⟩
              subst he
              have hl1 : ¬ ep + 1 < ep := by omega
              have hl2 : ep < ep + 1 := by omega
              have hq1 : ((1 : Int) == own) = false := by simp; exact fun e => hoo e.symm
              have hq2 : ((1 : Int) != own) = true := by simp; exact fun e => hoo e.symm
              rcases hcn with rfl | rfl
              · skip
                have D := own_l H20.out 1 rfl
                go_wp2_with fail
                refine D.mono ?_
                rintro e w9 ⟨rfl, hw⟩
                rw [hw]
                clear hw w9 D
                have D := con_l H20.out (-1) rfl
                go_wp2_with fail
                refine D.mono ?_
                rintro e w9 ⟨rfl, hw⟩
                rw [hw]
                clear hw w9 D
                have D := epoch_l H20.out (ep + 1) rfl
                go_wp2_with fail
                refine D.mono ?_
                rintro e w9 ⟨rfl, hw⟩
                rw [hw]
                clear hw w9 D
                go_wp2
                go_roundg (n - (k + 1))
                case rel => exact ⟨k + 1, nv + u, _, _, rfl, rfl, rfl, rfl, by go_num, by omega, by omega, by omega, by have := HC.out; omega, H20.out⟩
                case measure => omega
              · skip
                have D := own_l H20.out 1 rfl
                go_wp2_with fail
                refine D.mono ?_
                rintro e w9 ⟨rfl, hw⟩
                rw [hw]
                clear hw w9 D
                have D := con_l H20.out 1 rfl
                go_wp2_with fail
                refine D.mono ?_
                rintro e w9 ⟨rfl, hw⟩
                rw [hw]
                clear hw w9 D
                have D := epoch_l H20.out (ep + 1) rfl
                go_wp2_with fail
                refine D.mono ?_
                rintro e w9 ⟨rfl, hw⟩
                rw [hw]
                clear hw w9 D
                go_wp2
                go_roundg (n - (k + 1))
                case rel => exact ⟨k + 1, nv + u, _, _, rfl, rfl, rfl, rfl, by go_num, by omega, by omega, by omega, by have := HC.out; omega, H20.out⟩
                case measure => omega
        have hx0q : (x0 == 1) = false := by simp [hx0]
        by_cases hx1 : x0 = 2
        · subst hx1
          obtain ⟨s', hs'⟩ : ∃ s', askR ⟨nw, own, con, ep, la, ask, fr⟩ x1 x2 = s' := ⟨_, rfl⟩
          have HN : Hid (OneR ⟨nw, own, con, ep, la, ask, fr⟩ s') := hs' ▸ one_ask _ _
          have D := fun W (hb : Below wr.heap.size wr W) => ask_l w W b _ _ x1 x2 (H10.out.below hb) (by have := HC.out; omega) _ _ _ s' ⟨rfl, hs'⟩
          have HD : Hid (∀ W, Below wr.heap.size wr W → Calls Try.prog 13 #[.pointer (some ⟨b, 0, none⟩), .int .i64 x1, .int .i64 x2] W fun e' w' => e' = .returned (.tuple #[.int .i64 (askA ⟨nw, own, con, ep, la, ask, fr⟩ x1 x2).1, .int .i64 (askA ⟨nw, own, con, ep, la, ask, fr⟩ x1 x2).2.1, .int .i64 (askA ⟨nw, own, con, ep, la, ask, fr⟩ x1 x2).2.2]) ∧ RlL w w' b s' (c + 1) ∧ Chg (is_ b) W w') := D
          clear D hs'
          go_wp2_with fail
          clear a0 a1 a2 b0
          have y1 := ext_cell b1
          have y2 := ext_cell b2
          haveI := ext_some w
          clear b1 b2
          refine wp_region_mix_seq (C := fun W => ∃ y : Ext w, W = y.z) [0, 1, 2, 3, 4, 5, 6, 7, 8, 9, 10, 11] (by kernel_rfl) (by kernel_rfl) (by kernel_rfl) (by kernel_rfl) (by simp only [List.filterMap_cons, List.getElem?_toArray, List.getElem?_cons_zero, List.getElem?_cons_succ, List.filterMap_nil]; rfl) ⟨⟨_, HBQ.out.drew⟩, rfl⟩ ?_
          (repeat (first | (with_reducible refine mix_read (by kernel_rfl) ?_; go_big_quiet_want; go_big_quiet_op; go_big_quiet_on; with_reducible refine wpQuiet_nil ?_) | (with_reducible refine mix_pass (by kernel_rfl) ?_; go_big_quiet_skip; with_reducible refine wpQuiet_nil ?_)))
          with_reducible refine mix_call (by kernel_rfl) (by kernel_rfl) ((HD.out _ ((Below.refl _ _).drew)).mono ?_) (by kernel_rfl)
          rintro e w20 ⟨rfl, h, -⟩
          have H20 : Hid (RlL w w20 b s' (c + 1)) := h
          clear h H10 HD
          refine ⟨_, rfl, ⟨⟨_, H20.out.bl⟩, rfl⟩, ?_⟩
          simp only [Act.put, List.setIfInBounds_toArray, List.set_cons_zero, List.set_cons_succ]
          with_reducible refine mix_end ?_
          intro _
          clear y1 y2
          obtain ⟨nw', o, cn, ep', la', as', fr'⟩ := s'
          obtain ⟨hN1, hN2, hN3, hN4⟩ := HN.out
          have hr := H20.out.at_.ok.own
          have hcn := H20.out.at_.ok.con
          dsimp only at hN1 hN2 hN3 hN4 hr hcn
          rcases (show o = -1 ∨ o = 0 ∨ o = 1 by omega) with rfl | rfl | rfl
          · have he : ep' = ep := hN2 (by decide)
            subst he
            obtain rfl : cn = -1 := by omega
            have hl1 : ¬ ep' < ep' := by omega
            clear hN1 hN2 hN3 hN4 hcn hr HN
            have D := own_l H20.out (-1) rfl
            go_wp2_with fail
            refine D.mono ?_
            rintro e w9 ⟨rfl, hw⟩
            rw [hw]
            clear hw w9 D
            have D := con_l H20.out (-1) rfl
            go_wp2_with fail
            refine D.mono ?_
            rintro e w9 ⟨rfl, hw⟩
            rw [hw]
            clear hw w9 D
            have D := epoch_l H20.out ep' rfl
            go_wp2_with fail
            refine D.mono ?_
            rintro e w9 ⟨rfl, hw⟩
            rw [hw]
            clear hw w9 D
            go_wp2
            go_roundg (n - (k + 1))
            case rel => exact ⟨k + 1, nv, _, _, rfl, rfl, rfl, rfl, by go_num, by omega, by omega, by omega, by have := HC.out; omega, H20.out⟩
            case measure => omega
          · by_cases hoo : own = 0
            · subst hoo
              have he : ep' = ep := hN4 rfl
              subst he
              have hl1 : ¬ ep' < ep' := by omega
              rcases hcn with rfl | rfl
              · skip
                have D := own_l H20.out 0 rfl
                go_wp2_with fail
                refine D.mono ?_
                rintro e w9 ⟨rfl, hw⟩
                rw [hw]
                clear hw w9 D
                have D := con_l H20.out (-1) rfl
                go_wp2_with fail
                refine D.mono ?_
                rintro e w9 ⟨rfl, hw⟩
                rw [hw]
                clear hw w9 D
                have D := epoch_l H20.out ep' rfl
                go_wp2_with fail
                refine D.mono ?_
                rintro e w9 ⟨rfl, hw⟩
                rw [hw]
                clear hw w9 D
                go_wp2
                go_roundg (n - (k + 1))
                case rel => exact ⟨k + 1, nv, _, _, rfl, rfl, rfl, rfl, by go_num, by omega, by omega, by omega, by have := HC.out; omega, H20.out⟩
                case measure => omega
              · skip
                have D := own_l H20.out 0 rfl
                go_wp2_with fail
                refine D.mono ?_
                rintro e w9 ⟨rfl, hw⟩
                rw [hw]
                clear hw w9 D
                have D := con_l H20.out 0 rfl
                go_wp2_with fail
                refine D.mono ?_
                rintro e w9 ⟨rfl, hw⟩
                rw [hw]
                clear hw w9 D
                have D := epoch_l H20.out ep' rfl
                go_wp2_with fail
                refine D.mono ?_
                rintro e w9 ⟨rfl, hw⟩
                rw [hw]
                clear hw w9 D
                go_wp2
                go_roundg (n - (k + 1))
                case rel => exact ⟨k + 1, nv, _, _, rfl, rfl, rfl, rfl, by go_num, by omega, by omega, by omega, by have := HC.out; omega, H20.out⟩
                case measure => omega
            · skip
              have he : ep' = ep + 1 := hN3 ⟨by decide, fun e => hoo e.symm⟩
              subst he
              have hl1 : ¬ ep + 1 < ep := by omega
              have hl2 : ep < ep + 1 := by omega
              have hq1 : ((0 : Int) == own) = false := by simp; exact fun e => hoo e.symm
              have hq2 : ((0 : Int) != own) = true := by simp; exact fun e => hoo e.symm
              rcases hcn with rfl | rfl
              · skip
                have D := own_l H20.out 0 rfl
                go_wp2_with fail
                refine D.mono ?_
                rintro e w9 ⟨rfl, hw⟩
                rw [hw]
                clear hw w9 D
                have D := con_l H20.out (-1) rfl
                go_wp2_with fail
                refine D.mono ?_
                rintro e w9 ⟨rfl, hw⟩
                rw [hw]
                clear hw w9 D
                have D := epoch_l H20.out (ep + 1) rfl
                go_wp2_with fail
                refine D.mono ?_
                rintro e w9 ⟨rfl, hw⟩
                rw [hw]
                clear hw w9 D
                go_wp2
                go_roundg (n - (k + 1))
                case rel => exact ⟨k + 1, nv, _, _, rfl, rfl, rfl, rfl, by go_num, by omega, by omega, by omega, by have := HC.out; omega, H20.out⟩
                case measure => omega
              · skip
                have D := own_l H20.out 0 rfl
                go_wp2_with fail
                refine D.mono ?_
                rintro e w9 ⟨rfl, hw⟩
                rw [hw]
                clear hw w9 D
                have D := con_l H20.out 0 rfl
                go_wp2_with fail
                refine D.mono ?_
                rintro e w9 ⟨rfl, hw⟩
                rw [hw]
                clear hw w9 D
                have D := epoch_l H20.out (ep + 1) rfl
                go_wp2_with fail
                refine D.mono ?_
                rintro e w9 ⟨rfl, hw⟩
                rw [hw]
                clear hw w9 D
                go_wp2
                go_roundg (n - (k + 1))
                case rel => exact ⟨k + 1, nv, _, _, rfl, rfl, rfl, rfl, by go_num, by omega, by omega, by omega, by have := HC.out; omega, H20.out⟩
                case measure => omega
          · by_cases hoo : own = 1
            · subst hoo
              have he : ep' = ep := hN4 rfl
              subst he
              have hl1 : ¬ ep' < ep' := by omega
              rcases hcn with rfl | rfl
              · skip
                have D := own_l H20.out 1 rfl
                go_wp2_with fail
                refine D.mono ?_
                rintro e w9 ⟨rfl, hw⟩
                rw [hw]
                clear hw w9 D
                have D := con_l H20.out (-1) rfl
                go_wp2_with fail
                refine D.mono ?_
                rintro e w9 ⟨rfl, hw⟩
                rw [hw]
                clear hw w9 D
                have D := epoch_l H20.out ep' rfl
                go_wp2_with fail
                refine D.mono ?_
                rintro e w9 ⟨rfl, hw⟩
                rw [hw]
                clear hw w9 D
                go_wp2
                go_roundg (n - (k + 1))
                case rel => exact ⟨k + 1, nv, _, _, rfl, rfl, rfl, rfl, by go_num, by omega, by omega, by omega, by have := HC.out; omega, H20.out⟩
                case measure => omega
              · skip
                have D := own_l H20.out 1 rfl
                go_wp2_with fail
                refine D.mono ?_
                rintro e w9 ⟨rfl, hw⟩
                rw [hw]
                clear hw w9 D
                have D := con_l H20.out 1 rfl
                go_wp2_with fail
                refine D.mono ?_
                rintro e w9 ⟨rfl, hw⟩
                rw [hw]
                clear hw w9 D
                have D := epoch_l H20.out ep' rfl
                go_wp2_with fail
                refine D.mono ?_
                rintro e w9 ⟨rfl, hw⟩
                rw [hw]
                clear hw w9 D
                go_wp2
                go_roundg (n - (k + 1))
                case rel => exact ⟨k + 1, nv, _, _, rfl, rfl, rfl, rfl, by go_num, by omega, by omega, by omega, by have := HC.out; omega, H20.out⟩
                case measure => omega
            · skip
              have he : ep' = ep + 1 := hN3 ⟨by decide, fun e => hoo e.symm⟩
              subst he
              have hl1 : ¬ ep + 1 < ep := by omega
              have hl2 : ep < ep + 1 := by omega
              have hq1 : ((1 : Int) == own) = false := by simp; exact fun e => hoo e.symm
              have hq2 : ((1 : Int) != own) = true := by simp; exact fun e => hoo e.symm
              rcases hcn with rfl | rfl
              · skip
                have D := own_l H20.out 1 rfl
                go_wp2_with fail
                refine D.mono ?_
                rintro e w9 ⟨rfl, hw⟩
                rw [hw]
                clear hw w9 D
                have D := con_l H20.out (-1) rfl
                go_wp2_with fail
                refine D.mono ?_
                rintro e w9 ⟨rfl, hw⟩
                rw [hw]
                clear hw w9 D
                have D := epoch_l H20.out (ep + 1) rfl
                go_wp2_with fail
                refine D.mono ?_
                rintro e w9 ⟨rfl, hw⟩
                rw [hw]
                clear hw w9 D
                go_wp2
                go_roundg (n - (k + 1))
                case rel => exact ⟨k + 1, nv, _, _, rfl, rfl, rfl, rfl, by go_num, by omega, by omega, by omega, by have := HC.out; omega, H20.out⟩
                case measure => omega
              · skip
                have D := own_l H20.out 1 rfl
                go_wp2_with fail
                refine D.mono ?_
                rintro e w9 ⟨rfl, hw⟩
                rw [hw]
                clear hw w9 D
                have D := con_l H20.out 1 rfl
                go_wp2_with fail
                refine D.mono ?_
                rintro e w9 ⟨rfl, hw⟩
                rw [hw]
                clear hw w9 D
                have D := epoch_l H20.out (ep + 1) rfl
                go_wp2_with fail
                refine D.mono ?_
                rintro e w9 ⟨rfl, hw⟩
                rw [hw]
                clear hw w9 D
                go_wp2
                go_roundg (n - (k + 1))
                case rel => exact ⟨k + 1, nv, _, _, rfl, rfl, rfl, rfl, by go_num, by omega, by omega, by omega, by have := HC.out; omega, H20.out⟩
                case measure => omega
        have hx1q : (x0 == 2) = false := by simp [hx1]
        obtain ⟨s', hs'⟩ : ∃ s', yieldR ⟨nw, own, con, ep, la, ask, fr⟩ x1 = s' := ⟨_, rfl⟩
        have HN : Hid (OneR ⟨nw, own, con, ep, la, ask, fr⟩ s') := hs' ▸ one_yield _ _
        clear b0 b1 b2
        have D := yield_l w wr b _ _ x1 H10.out _ s' ⟨rfl, hs'⟩
        go_wp2_with fail
        refine D.mono ?_
        rintro e w20 ⟨rfl, h, -⟩
        have H20 : Hid (RlL w w20 b s' (c)) := h
        clear D h H10
        clear a0 a1 a2 hs'
        obtain ⟨nw', o, cn, ep', la', as', fr'⟩ := s'
        obtain ⟨hN1, hN2, hN3, hN4⟩ := HN.out
        have hr := H20.out.at_.ok.own
        have hcn := H20.out.at_.ok.con
        dsimp only at hN1 hN2 hN3 hN4 hr hcn
        rcases (show o = -1 ∨ o = 0 ∨ o = 1 by omega) with rfl | rfl | rfl
        · have he : ep' = ep := hN2 (by decide)
          subst he
          obtain rfl : cn = -1 := by omega
          have hl1 : ¬ ep' < ep' := by omega
          clear hN1 hN2 hN3 hN4 hcn hr HN
          have D := own_l H20.out (-1) rfl
          go_wp2_with fail
          refine D.mono ?_
          rintro e w9 ⟨rfl, hw⟩
          rw [hw]
          clear hw w9 D
          have D := con_l H20.out (-1) rfl
          go_wp2_with fail
          refine D.mono ?_
          rintro e w9 ⟨rfl, hw⟩
          rw [hw]
          clear hw w9 D
          have D := epoch_l H20.out ep' rfl
          go_wp2_with fail
          refine D.mono ?_
          rintro e w9 ⟨rfl, hw⟩
          rw [hw]
          clear hw w9 D
          go_wp2
          go_roundg (n - (k + 1))
          case rel => exact ⟨k + 1, nv, _, _, rfl, rfl, rfl, rfl, by go_num, by omega, by omega, by omega, by have := HC.out; omega, H20.out⟩
          case measure => omega
        · by_cases hoo : own = 0
          · subst hoo
            have he : ep' = ep := hN4 rfl
            subst he
            have hl1 : ¬ ep' < ep' := by omega
            rcases hcn with rfl | rfl
            · skip
              have D := own_l H20.out 0 rfl
              go_wp2_with fail
              refine D.mono ?_
              rintro e w9 ⟨rfl, hw⟩
              rw [hw]
              clear hw w9 D
              have D := con_l H20.out (-1) rfl
              go_wp2_with fail
              refine D.mono ?_
              rintro e w9 ⟨rfl, hw⟩
              rw [hw]
              clear hw w9 D
              have D := epoch_l H20.out ep' rfl
              go_wp2_with fail
              refine D.mono ?_
              rintro e w9 ⟨rfl, hw⟩
              rw [hw]
              clear hw w9 D
              go_wp2
              go_roundg (n - (k + 1))
              case rel => exact ⟨k + 1, nv, _, _, rfl, rfl, rfl, rfl, by go_num, by omega, by omega, by omega, by have := HC.out; omega, H20.out⟩
              case measure => omega
            · skip
              have D := own_l H20.out 0 rfl
              go_wp2_with fail
              refine D.mono ?_
              rintro e w9 ⟨rfl, hw⟩
              rw [hw]
              clear hw w9 D
              have D := con_l H20.out 0 rfl
              go_wp2_with fail
              refine D.mono ?_
              rintro e w9 ⟨rfl, hw⟩
              rw [hw]
              clear hw w9 D
              have D := epoch_l H20.out ep' rfl
              go_wp2_with fail
              refine D.mono ?_
              rintro e w9 ⟨rfl, hw⟩
              rw [hw]
              clear hw w9 D
              go_wp2
              go_roundg (n - (k + 1))
              case rel => exact ⟨k + 1, nv, _, _, rfl, rfl, rfl, rfl, by go_num, by omega, by omega, by omega, by have := HC.out; omega, H20.out⟩
              case measure => omega
          · skip
            have he : ep' = ep + 1 := hN3 ⟨by decide, fun e => hoo e.symm⟩
            subst he
            have hl1 : ¬ ep + 1 < ep := by omega
            have hl2 : ep < ep + 1 := by omega
            have hq1 : ((0 : Int) == own) = false := by simp; exact fun e => hoo e.symm
            have hq2 : ((0 : Int) != own) = true := by simp; exact fun e => hoo e.symm
            rcases hcn with rfl | rfl
            · skip
              have D := own_l H20.out 0 rfl
              go_wp2_with fail
              refine D.mono ?_
              rintro e w9 ⟨rfl, hw⟩
              rw [hw]
              clear hw w9 D
              have D := con_l H20.out (-1) rfl
              go_wp2_with fail
              refine D.mono ?_
              rintro e w9 ⟨rfl, hw⟩
              rw [hw]
              clear hw w9 D
              have D := epoch_l H20.out (ep + 1) rfl
              go_wp2_with fail
              refine D.mono ?_
              rintro e w9 ⟨rfl, hw⟩
              rw [hw]
              clear hw w9 D
              go_wp2
              go_roundg (n - (k + 1))
              case rel => exact ⟨k + 1, nv, _, _, rfl, rfl, rfl, rfl, by go_num, by omega, by omega, by omega, by have := HC.out; omega, H20.out⟩
              case measure => omega
            · skip
              have D := own_l H20.out 0 rfl
              go_wp2_with fail
              refine D.mono ?_
              rintro e w9 ⟨rfl, hw⟩
              rw [hw]
              clear hw w9 D
              have D := con_l H20.out 0 rfl
              go_wp2_with fail
              refine D.mono ?_
              rintro e w9 ⟨rfl, hw⟩
              rw [hw]
              clear hw w9 D
              have D := epoch_l H20.out (ep + 1) rfl
              go_wp2_with fail
              refine D.mono ?_
              rintro e w9 ⟨rfl, hw⟩
              rw [hw]
              clear hw w9 D
              go_wp2
              go_roundg (n - (k + 1))
              case rel => exact ⟨k + 1, nv, _, _, rfl, rfl, rfl, rfl, by go_num, by omega, by omega, by omega, by have := HC.out; omega, H20.out⟩
              case measure => omega
        · by_cases hoo : own = 1
          · subst hoo
            have he : ep' = ep := hN4 rfl
            subst he
            have hl1 : ¬ ep' < ep' := by omega
            rcases hcn with rfl | rfl
            · skip
              have D := own_l H20.out 1 rfl
              go_wp2_with fail
              refine D.mono ?_
              rintro e w9 ⟨rfl, hw⟩
              rw [hw]
              clear hw w9 D
              have D := con_l H20.out (-1) rfl
              go_wp2_with fail
              refine D.mono ?_
              rintro e w9 ⟨rfl, hw⟩
              rw [hw]
              clear hw w9 D
              have D := epoch_l H20.out ep' rfl
              go_wp2_with fail
              refine D.mono ?_
              rintro e w9 ⟨rfl, hw⟩
              rw [hw]
              clear hw w9 D
              go_wp2
              go_roundg (n - (k + 1))
              case rel => exact ⟨k + 1, nv, _, _, rfl, rfl, rfl, rfl, by go_num, by omega, by omega, by omega, by have := HC.out; omega, H20.out⟩
              case measure => omega
            · skip
              have D := own_l H20.out 1 rfl
              go_wp2_with fail
              refine D.mono ?_
              rintro e w9 ⟨rfl, hw⟩
              rw [hw]
              clear hw w9 D
              have D := con_l H20.out 1 rfl
              go_wp2_with fail
              refine D.mono ?_
              rintro e w9 ⟨rfl, hw⟩
              rw [hw]
              clear hw w9 D
              have D := epoch_l H20.out ep' rfl
              go_wp2_with fail
              refine D.mono ?_
              rintro e w9 ⟨rfl, hw⟩
              rw [hw]
              clear hw w9 D
              go_wp2
              go_roundg (n - (k + 1))
              case rel => exact ⟨k + 1, nv, _, _, rfl, rfl, rfl, rfl, by go_num, by omega, by omega, by omega, by have := HC.out; omega, H20.out⟩
              case measure => omega
          · skip
            have he : ep' = ep + 1 := hN3 ⟨by decide, fun e => hoo e.symm⟩
            subst he
            have hl1 : ¬ ep + 1 < ep := by omega
            have hl2 : ep < ep + 1 := by omega
            have hq1 : ((1 : Int) == own) = false := by simp; exact fun e => hoo e.symm
            have hq2 : ((1 : Int) != own) = true := by simp; exact fun e => hoo e.symm
            rcases hcn with rfl | rfl
            · skip
              have D := own_l H20.out 1 rfl
              go_wp2_with fail
              refine D.mono ?_
              rintro e w9 ⟨rfl, hw⟩
              rw [hw]
              clear hw w9 D
              have D := con_l H20.out (-1) rfl
              go_wp2_with fail
              refine D.mono ?_
              rintro e w9 ⟨rfl, hw⟩
              rw [hw]
              clear hw w9 D
              have D := epoch_l H20.out (ep + 1) rfl
              go_wp2_with fail
              refine D.mono ?_
              rintro e w9 ⟨rfl, hw⟩
              rw [hw]
              clear hw w9 D
              go_wp2
              go_roundg (n - (k + 1))
              case rel => exact ⟨k + 1, nv, _, _, rfl, rfl, rfl, rfl, by go_num, by omega, by omega, by omega, by have := HC.out; omega, H20.out⟩
              case measure => omega
            · skip
              have D := own_l H20.out 1 rfl
              go_wp2_with fail
              refine D.mono ?_
              rintro e w9 ⟨rfl, hw⟩
              rw [hw]
              clear hw w9 D
              have D := con_l H20.out 1 rfl
              go_wp2_with fail
              refine D.mono ?_
              rintro e w9 ⟨rfl, hw⟩
              rw [hw]
              clear hw w9 D
              have D := epoch_l H20.out (ep + 1) rfl
              go_wp2_with fail
              refine D.mono ?_
              rintro e w9 ⟨rfl, hw⟩
              rw [hw]
              clear hw w9 D
              go_wp2
              go_roundg (n - (k + 1))
              case rel => exact ⟨k + 1, nv, _, _, rfl, rfl, rfl, rfl, by go_num, by omega, by omega, by omega, by have := HC.out; omega, H20.out⟩
              case measure => omega
      · have hk8 : ¬ (k : Int) < 80 := by omega
        have HB : Hid (Below w.heap.size w wr) := H10.out.bl
        clear H10
        go_wp2_with fail
        refine (known_any _).mono ?_
        rintro e wk ⟨rfl, hb⟩
        have HBK : Hid (Below w.heap.size w wk) := HB.out.trans (hb.mono HB.out.size)
        clear hb HB
        go_wp2
        go_ret
        exact ⟨rfl, HBK.out⟩
    · have hki : ¬ (k : Int) < (n : Int) := by omega
      have HB : Hid (Below w.heap.size w wr) := H10.out.bl
      clear H10
      go_wp2_with fail
      refine (known_any _).mono ?_
      rintro e wk ⟨rfl, hb⟩
      have HBK : Hid (Below w.heap.size w wk) := HB.out.trans (hb.mono HB.out.size)
      clear hb HB
      go_wp2
      go_ret
      exact ⟨rfl, HBK.out⟩

theorem own : ownKnob Try.prog.godebug = none := by kernel_rfl

set_option maxRecDepth 100000 in
theorem lifted (os : Os) (started : os.Started) (H : Type) (enc : TypeId × Value → H) :
    ReturnsInHanded {} Try.checked os 4 .any (Rows.relayOneSpec.pre6 enc Try.prog Try.f4 Rows.relayOneRow.domain false) (Rows.relayOneSpec.post enc Try.prog Try.f4 false true false false) := by
  refine returnsInHanded_of_change (C := Try.checked) own started (by kernel_rfl) Try.func4
    (ChangeSpec.witness6 (enc := enc) (C := Try.checked) false ⟨#[], #[.slice none 0 0], []⟩ 8 (by kernel_rfl) (by kernel_rfl) (by kernel_rfl) (by kernel_rfl)) ?_
  intro W base args ds gs before hval0 hW _ _
  have hval : ∀ (j : Nat) t v, Try.f4.params[j]? = some t → args[j]? = some v → Value.okWide Try.prog W .any base t v := hval0
  have hW' := hW
  obtain ⟨p, q, hA0, hV, rfl, _, _⟩ := hW
  have hA : DataW.TrodAll enc Try.prog W 0 (fun _ => true) true Try.f4.params.toList args.toList ds p := hA0
  rw [Try.params4] at hA hval
  obtain ⟨v0, vs0, d0, ds0, p0, q0, hargs, rfl, rfl, h0, r0⟩ := trodAll_cons hA
  obtain ⟨rfl, rfl, rfl⟩ := trodAll_nil r0
  obtain rfl : args = #[v0] := by cases args; simp_all
  obtain ⟨rfl, rfl⟩ := trodVars_none hV
  obtain ⟨a0, len0, cap0, rfl⟩ := okWide_slice Try.underlying22 (hval 0 22 v0 rfl rfl)
  have k0 := h0
  have lt0 : ∀ x ∈ p0, x.block < W.heap.size := by obtain ⟨m, hm⟩ := k0; exact DataW.trod_lt m _ _ _ hm
  obtain ⟨z0, e0, m0, s0⟩ : ∃ l : List Ac, l.length = len0 ∧ OkSl a0 len0 cap0 ∧ (rowAt W (.slice a0 len0 cap0) 3 acC l ∧ ∀ y ∈ l, wfI y.1 ∧ wfI y.2.1 ∧ wfI y.2.2) := by
    obtain ⟨fuel, hf⟩ := h0
    exact open_actr hf
  clear hA0 hval0
  refine (walk W a0 len0 cap0 z0 e0 m0 s0 ).mono fun e W' ⟨he, bel⟩ => ?_
  subst he
  exact ⟨_, rfl, _, _, _, [], _, [], hW', trodAll_mk1 (shut_bool Try.underlying4 _), (trodAll_cons_mk (Below.trod flaidOut (by kernel_rfl) (of_decide_eq_true (by kernel_rfl)) k0 bel lt0) trodAll_mk0), rfl, bel.frame _, fun h => by cases h⟩

theorem over : Rows.relayOneRow.holds Try.pinned (OpenSpec.ofChange Rows.relayOneSpec) :=
  OpenClaim.holds_of_wide 4 Try.f4 rfl rfl rfl rfl rfl rfl rfl ⟨rfl, rfl, rfl, rfl, rfl⟩ rfl rfl rfl rfl rfl (by kernel_rfl) Try.func4 (by kernel_rfl)
    (of_decide_eq_true (by kernel_rfl)) (by unfold Func.isWrapper; first | (rw [if_pos (by decide +kernel)]; kernel_rfl) | (rw [if_neg (by decide +kernel)]; exact ⟨rfl, rfl⟩))
    (fun os started H enc _ => lifted os started H enc)

end Go.Proofs.Ytmnhlnhocnchpaa.relayOne
namespace Go.Proofs.Ytmnhlnhocnchpaa
theorem relayOne_holds : Rows.RelayOneSaid := relayOne.over
#print axioms relayOne_holds
end Go.Proofs.Ytmnhlnhocnchpaa
