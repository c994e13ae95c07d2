/-
  The reference's Lay: by contracts.
-/
import Derived.Test.YtelmjkjbbbgmpaaFlLay
import Derived.Test.YtelmjkjbbbgmpaaFlRfOf
namespace Go.Proofs.Ytelmjkjbbbgmpaa
open Go.RowKit

theorem putT_lay (s : ByteArray) (n : List Int) (k : Nat) (x : Int) (hx : n[k]? = some x) (h : k + 1 < 100) : putT ((.inr (.inl s) :: ((n.take k).map .inl : List It)).map It.th) ⟨1, x, ⟨#[]⟩, false⟩ = (.inr (.inl s) :: ((n.take (k + 1)).map .inl : List It)).map It.th := by
  have hk := (List.getElem?_eq_some_iff.1 hx).1
  rw [putT, if_pos (by rw [List.length_map, List.length_cons, List.length_map, List.length_take]; omega), take_next hx, List.map_append, ← List.cons_append, List.map_append]
  rfl
theorem its_len (s : ByteArray) (n : List Int) (k : Nat) (hk : k ≤ n.length) : ((.inr (.inl s) :: ((n.take k).map .inl : List It)).map It.th).length = k + 1 := by
  rw [List.length_map, List.length_cons, List.length_map, List.length_take]
  omega

set_option maxRecDepth 1000000 in
set_option maxHeartbeats 4000000 in
theorem rfLay_any (ep ct : Int) (v : Value) (l : List Rs) (w : World) (h : rowAt w v 4 rsC l) (hl : l.length ≤ 100) :
    Calls Try.prog 22 #[.int .i64 ep, .int .i64 ct, v] w fun e w' => ((l.length ≤ 24 ∧ ∃ c u, e = .returned (.pointer (some ⟨c, 0, none⟩)) ∧ RefC w' w.heap.size c u ((layV ep ct l).map It.th)) ∨ (24 < l.length ∧ e = .returned (.pointer none))) ∧ Below w.heap.size w w' := by
  have HL : Hid (rowAt w v 4 rsC l) := h
  obtain ⟨ol, cl, rfl, -⟩ := h
  have HNV : Hid (numsV ep ct l = [ep, ct, (l.length : Int)] ++ ofV l ∧ layV ep ct l = .inr (.inl stateS) :: (numsV ep ct l).map .inl) := ⟨rfl, rfl⟩
  obtain ⟨n, hn⟩ : ∃ n, n = l.length := ⟨_, rfl⟩
  have HN : Hid (l.length = n) := hn.symm
  have HOL : Hid ((ofV l).length = 4 * n ∧ (numsV ep ct l).length = 3 + 4 * n) := ⟨by rw [of_len, hn], by rw [nums_len, hn]⟩
  rw [← hn] at HL HNV hl ⊢
  clear hn
  generalize hnums : numsV ep ct l = ns at *
  clear hnums
  have hb1 : Below w.heap.size w (w.alloc (.cells #[.int .i64 ep, .int .i64 ct, .int .i64 (n : Int)] 3)) := (Below.refl _ _).alloc (Nat.le_refl _) _
  have O := rfOf_any (.slice ol n cl) l (w.alloc (.cells #[.int .i64 ep, .int .i64 ct, .int .i64 (n : Int)] 3)) (HL.out.below hb1) (by rw [HN.out]; omega)
  have C1 : Hid (IRow (w.alloc (.cells #[.int .i64 ep, .int .i64 ct, .int .i64 (n : Int)] 3)) w.heap.size (.slice (some ⟨w.heap.size, 0, none⟩) 3 3) [ep, ct, (n : Int)] ∧ Below w.heap.size w (w.alloc (.cells #[.int .i64 ep, .int .i64 ct, .int .i64 (n : Int)] 3))) :=
    ⟨⟨rfl, .inr ⟨w.heap.size, 3, _, rfl, Nat.le_refl _, blk_new _ _, Nat.le_refl _, by decide, rfl, rfl⟩⟩, hb1⟩
  clear hb1
  go_enter Try.func22, Try.ntmps22
  go_wp2_with fail
  generalize w.alloc (.cells #[.int .i64 ep, .int .i64 ct, .int .i64 (n : Int)] 3) = w1 at *
  refine O.mono ?_
  rintro e w2 ⟨u, rfl, hu, hb2⟩
  obtain ⟨x, w3, r3, i3, b3⟩ := app_int w2 w.heap.size _ u [ep, ct, (n : Int)] (ofV l) (C1.out.1.below hb2) (Nat.le_trans C1.out.2.size hb2.size) hu.row (by rw [HOL.out.1]; show 3 + _ ≤ _; omega)
  rw [← HNV.out.1] at i3
  have hbw : Below w.heap.size w w3 := (C1.out.2.trans (hb2.mono C1.out.2.size)).trans b3
  obtain ⟨o, c, rfl⟩ := owns_slice i3
  have hbx : Below w3.heap.size w3 ((w3.alloc (.cells #[.int .i64 2, .int .i64 0, .string ⟨#[115, 116, 97, 116, 101]⟩, .bool false] 53)).alloc (.cells #[.slice (some ⟨w3.heap.size, 0, none⟩) 1 1] 49)) := (by repeat' (with_reducible first | exact Below.refl _ _ | refine Below.drew ?_ | refine _root_.Go.below_drewN ?_ _ | refine Below.alloc ?_ ?_ _ | refine Below.setCell ?_ ?_ _ | exact Nat.le_refl _ | (simp; done) | (simp; omega)))
  have C4 : Hid (RefC ((w3.alloc (.cells #[.int .i64 2, .int .i64 0, .string ⟨#[115, 116, 97, 116, 101]⟩, .bool false] 53)).alloc (.cells #[.slice (some ⟨w3.heap.size, 0, none⟩) 1 1] 49)) w.heap.size (w3.heap.size + 1) (.slice (some ⟨w3.heap.size, 0, none⟩) 1 1) ((.inr (.inl stateS) :: ((ns.take 0).map .inl : List It)).map It.th) ∧ Below w.heap.size w ((w3.alloc (.cells #[.int .i64 2, .int .i64 0, .string ⟨#[115, 116, 97, 116, 101]⟩, .bool false] 53)).alloc (.cells #[.slice (some ⟨w3.heap.size, 0, none⟩) 1 1] 49)) ∧ IRow ((w3.alloc (.cells #[.int .i64 2, .int .i64 0, .string ⟨#[115, 116, 97, 116, 101]⟩, .bool false] 53)).alloc (.cells #[.slice (some ⟨w3.heap.size, 0, none⟩) 1 1] 49)) w.heap.size (.slice o ns.length c) ns ∧ ∀ g, (Value.slice o ns.length c).ownBlock = some g → ¬ foot (w3.heap.size + 1) (.slice (some ⟨w3.heap.size, 0, none⟩) 1 1) g) := by
    refine ⟨⟨⟨blk_at1 _ _ _, ⟨rfl, .inr ⟨w3.heap.size, 1, _, rfl, hbw.size, blk_old (blk_new _ _), Nat.le_refl _, by decide, rfl, rfl⟩⟩, by have := hbw.size; omega, fun e => by simp [Value.ownBlock] at e⟩, by rw [its_len _ _ 0 (Nat.zero_le _)]; omega⟩, hbw.trans (hbx.mono hbw.size), i3.below hbx, fun g hg hf => ?_⟩
    have h1 := (World.ownsRow.lt i3 g hg).2
    rcases hf with rfl | hf
    · omega
    · have : w3.heap.size = g := Option.some.inj hf
      omega
  have HNL : Hid (ns.length = 3 + 4 * n) := HOL.out.2
  clear hu hb2 i3 b3 hbw hbx O
  generalize hk : ns.length = m at *
  have HM : Hid (ns.length = m) := hk
  clear hk
  go_wp2_with (at_builtin; refine wpList_app_run rfl _ _ 23 rfl _ _ rfl rfl _ w3 r3 ?_)
  clear r3
  generalize (w3.alloc (.cells #[.int .i64 2, .int .i64 0, .string ⟨#[115, 116, 97, 116, 101]⟩, .bool false] 53)).alloc (.cells #[.slice (some ⟨w3.heap.size, 0, none⟩) 1 1] 49) = w4 at *
  generalize w3.heap.size + 1 = cb at *
  go_loopg [9] m (fun gk i wr => ∃ k : Nat, ∃ v', gk = m - k ∧ i = .int .i64 (k : Int) ∧ k ≤ m ∧ k ≤ 99 ∧ RefC wr w.heap.size cb v' ((.inr (.inl stateS) :: ((ns.take k).map .inl : List It)).map It.th) ∧ Below w.heap.size w wr ∧ IRow wr w.heap.size (.slice o m c) ns ∧ ∀ g, (Value.slice o m c).ownBlock = some g → ¬ foot cb v' g)
  case atStart => exact ⟨0, _, rfl, rfl, by omega, by omega, C4.out⟩
  case round =>
    obtain ⟨k, v', rfl, rfl, hk, hk9, k1, k2, k3, k4⟩ := hrel
    have HK : Hid (RefC wr w.heap.size cb v' ((.inr (.inl stateS) :: ((ns.take k).map .inl : List It)).map It.th) ∧ Below w.heap.size w wr ∧ IRow wr w.heap.size (.slice o m c) ns ∧ ∀ g, (Value.slice o m c).ownBlock = some g → ¬ foot cb v' g) := ⟨k1, k2, k3, k4⟩
    have HNM : Hid (m = 3 + 4 * n) := HNL.out
    by_cases hlt : k < m
    · have hki : (k : Int) < (m : Int) := by omega
      obtain ⟨y, hy⟩ := at_of (l := ns) (k := k) (by rw [HM.out]; exact hlt)
      obtain ⟨g, off, rfl, hc⟩ := row_int k3.row k y hy
      have A := refAdd_any ⟨1, y, ⟨#[]⟩, false⟩ _ wr _ _ _ k1
      rw [its_len _ _ k (by rw [HM.out]; exact hk)] at A
      by_cases hf : k < 99
      · rw [decide_eq_true (show k + 1 < 100 by omega), putT_lay stateS ns k y hy (by omega)] at A
        clear k1 k2 k3 k4 hy
        go_wp2_with fail
        refine A.mono ?_
        rintro e w7 ⟨v7, rfl, c7, t7⟩
        have H7 : Hid (RefC w7 w.heap.size cb v7 ((.inr (.inl stateS) :: ((ns.take (k + 1)).map .inl : List It)).map It.th) ∧ Below w.heap.size w w7 ∧ IRow w7 w.heap.size (.slice (some ⟨g, off, none⟩) m c) ns ∧ ∀ j, (Value.slice (some ⟨g, off, none⟩) m c).ownBlock = some j → ¬ foot cb v7 j) :=
          ⟨c7, HK.out.2.1.trans (HK.out.1.1.turnBelow t7), row_turn HK.out.2.2.1 t7 HK.out.2.2.2⟩
        clear c7 t7 A
        go_wp2
        go_roundg (m - (k + 1))
        case rel => exact ⟨k + 1, v7, rfl, by go_num, by omega, by omega, H7.out⟩
        case measure => omega
      · rw [decide_eq_false (show ¬ k + 1 < 100 by omega)] at A
        have hn24 : Hid (24 < n) := by have := HNM.out; show 24 < n; omega
        clear k1 k2 k3 k4 hy
        go_wp2_with fail
        refine A.mono ?_
        rintro e w7 ⟨v7, rfl, c7, t7⟩
        have H7 : Hid (Below w.heap.size w w7) := HK.out.2.1.trans (HK.out.1.1.turnBelow t7)
        clear c7 t7 A
        go_wp2
        go_ret
        exact ⟨.inr ⟨hn24.out, rfl⟩, H7.out⟩
    · have hke : k = m := by omega
      subst hke
      have hn24 : Hid (n ≤ 24) := by have := HNM.out; show n ≤ 24; omega
      rw [List.take_of_length_le (by rw [HM.out]; exact Nat.le_refl _), ← HNV.out.2] at HK
      clear k1 k2 k3 k4
      go_wp2
      go_ret
      exact ⟨.inl ⟨hn24.out, _, _, rfl, HK.out.1⟩, HK.out.2.1⟩
end Go.Proofs.Ytelmjkjbbbgmpaa
