/-
  The law's things: has a crate these things? where it has: by a contract.
-/
import Derived.Test.YtelmjkjbbbgmpaaFlRfRd
namespace Go.Proofs.Ytelmjkjbbbgmpaa
open Go.RowKit

theorem things_nil (w : World) : Calls Try.prog 23 #[.pointer none, .pointer none] w fun e w' => e = .returned (.bool true) ∧ w' = w := by
  go_enter Try.func23, Try.ntmps23
  go_wp2
  go_ret
  exact ⟨rfl, rfl⟩

set_option maxRecDepth 1000000 in
set_option maxHeartbeats 4000000 in
theorem things_any (a c : Nat) (l : List It) (w : World) (hp : Reads w (.pointer (some ⟨a, 0, none⟩)) l) (hq : ReadsT w (.pointer (some ⟨c, 0, none⟩)) (l.map It.th)) (hz : ∀ j : Nat, (textOf (itAt l (j : Int))).1.size ≤ 281474976710656) :
    Calls Try.prog 23 #[.pointer (some ⟨a, 0, none⟩), .pointer (some ⟨c, 0, none⟩)] w fun e w' => e = .returned (.bool true) ∧ Below w.heap.size w w' := by
  have HP : Hid (Reads w (.pointer (some ⟨a, 0, none⟩)) l) := hp
  have HZ : Hid (∀ j : Nat, (textOf (itAt l (j : Int))).1.size ≤ 281474976710656) := hz
  have hl := hp.len
  obtain ⟨c', oa, cap, e, hc, -, -, hx⟩ := hq
  injection e with e
  injection e with e
  injection e with e
  subst e
  rw [List.length_map] at hc
  obtain ⟨n, hn⟩ : ∃ n, n = l.length := ⟨_, rfl⟩
  have HN : Hid (l.length = n) := hn.symm
  have L := len_any _ l w hp
  rw [← hn] at hc hl L
  have HX : Hid (∀ (j : Nat) x, l[j]? = some x → ∃ g, oa = some ⟨g, 0, none⟩ ∧ ∀ W, Below w.heap.size w W → W.cell? ⟨g, j * 4, none⟩ = some (.int .i64 x.th.k) ∧ W.cell? ⟨g, j * 4 + 1, none⟩ = some (.int .i64 x.th.n) ∧ W.cell? ⟨g, j * 4 + 2, none⟩ = some (.string x.th.s)) := fun j x hj => by
    obtain ⟨g, e, k1, k2, k3, -⟩ := hx j x.th (by rw [List.getElem?_map, hj]; rfl)
    exact ⟨g, e, fun W hW => ⟨up_cell hW k1, up_cell hW k2, up_cell hW k3⟩⟩
  have HC : Hid (∀ W, Below w.heap.size w W → W.cell? ⟨c, 0, none⟩ = some (.slice oa n cap)) := fun W hW => up_cell hW hc
  have L2 : Hid (∀ y : Ext w, Calls Try.prog 35 #[.pointer (some ⟨a, 0, none⟩)] y.z fun e w' => e = .returned (.int .i64 (n : Int)) ∧ w' = y.z) := fun y => by
    have := len_any _ l y.z (HP.out.below y.h)
    rw [HN.out] at this
    exact this
  have f0 := ext_cell hc
  have hbn : ((n : Int) != (n : Int)) = false := by simp
  haveI := ext_some w
  clear hp hz hx hc hn L
  go_enter Try.func23, Try.ntmps23
  go_wp2_with fail
  refine wp_region_mix_seq (C := fun W => ∃ y : Ext w, W = y.z) [0, 2, 3, 4, 5, 6, 1, 7] (by kernel_rfl) (by kernel_rfl) (by kernel_rfl) (by kernel_rfl) (by simp only [List.filterMap_cons, List.getElem?_toArray, List.getElem?_cons_zero, List.getElem?_cons_succ, List.filterMap_nil]; rfl) ⟨⟨_, (Below.refl _ _).drew⟩, rfl⟩ ?_
  (repeat (first | (with_reducible refine mix_read (by kernel_rfl) ?_; go_big_quiet_want; go_big_quiet_op; go_big_quiet_on; with_reducible refine wpQuiet_nil ?_) | (with_reducible refine mix_pass (by kernel_rfl) ?_; go_big_quiet_skip; with_reducible refine wpQuiet_nil ?_)))
  with_reducible refine mix_call (by kernel_rfl) (by kernel_rfl) ((L2.out ⟨_, (Below.refl _ _).drew⟩).mono ?_) (by kernel_rfl)
  rintro e w1 ⟨rfl, hw⟩
  obtain rfl := hw.symm
  refine ⟨_, rfl, ⟨⟨_, (Below.refl _ _).drew⟩, rfl⟩, ?_⟩
  simp only [Act.put, List.setIfInBounds_toArray, List.set_cons_zero, List.set_cons_succ]
  (repeat (first | (with_reducible refine mix_read (by kernel_rfl) ?_; go_big_quiet_want; go_big_quiet_op; go_big_quiet_on; with_reducible refine wpQuiet_nil ?_) | (with_reducible refine mix_pass (by kernel_rfl) ?_; go_big_quiet_skip; with_reducible refine wpQuiet_nil ?_)))
  with_reducible refine mix_end ?_
  intro _
  have HD : Hid (Below w.heap.size w w.drew) := (Below.refl _ _).drew
  clear f0 L2
  show Exit.then _ _ _ _ w.drew
  generalize w.drew = w1 at HD ⊢
  go_wp2
  go_loopg [5] n (fun gk i wr => ∃ k : Nat, gk = n - k ∧ i = .int .i64 (k : Int) ∧ k ≤ n ∧ Below w.heap.size w wr)
  case atStart => exact ⟨0, rfl, rfl, by omega, HD.out⟩
  case round =>
    obtain ⟨k, rfl, rfl, hk, k1⟩ := hrel
    have HB : Hid (Below w.heap.size w wr) := k1
    have cw := HC.out wr k1
    by_cases hlt : k < n
    · have hki : (k : Int) < (n : Int) := by omega
      obtain ⟨x, hx⟩ := at_of (l := l) (k := k) (by rw [HN.out]; exact hlt)
      have I := int_any _ l (k : Int) wr (HP.out.below k1)
      obtain ⟨g, rfl, hxc⟩ := HX.out k x hx
      have hzk := HZ.out k
      have T : ∀ W, Below w.heap.size w W → _ := fun W hW => text_any (.pointer (some ⟨a, 0, none⟩)) l (k : Int) W (HP.out.below hW) hzk
      rw [itAt_nat, hx] at I hzk
      simp only [itAt_nat, hx] at T
      clear k1 hx
      rcases x with q | s | b
      all_goals
        simp only [numOf, textOf] at I T
        simp only [It.th] at hxc
        go_wp2_with fail
        refine I.mono ?_
        rintro e w2 ⟨rfl, hw⟩
        obtain rfl := hw.symm
        go_wp2_with fail
        refine (T _ HB.out).mono ?_
        rintro e w3 ⟨rfl, hb3⟩
        have H3 : Hid (Below w.heap.size w w3) := HB.out.trans (hb3.mono HB.out.size)
        obtain ⟨d0, d1, d2⟩ := hxc w3 H3.out
        have c3 := HC.out w3 H3.out
        clear I T hxc hb3
        go_wp2
        go_roundg (n - (k + 1))
        case rel => exact ⟨k + 1, rfl, by go_num, by omega, H3.out⟩
        case measure => omega
    · have hke : k = n := by omega
      subst hke
      clear k1
      go_wp2
      go_ret
      exact ⟨rfl, HB.out⟩
end Go.Proofs.Ytelmjkjbbbgmpaa
