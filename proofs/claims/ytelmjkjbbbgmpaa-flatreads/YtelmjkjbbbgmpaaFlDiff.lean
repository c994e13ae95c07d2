/-
  Package flat: Diff, by contracts.
-/
import Derived.Test.YtelmjkjbbbgmpaaFlP
namespace Go.Proofs.Ytelmjkjbbbgmpaa
open Go.RowKit

set_option maxRecDepth 1000000 in
set_option maxHeartbeats 2000000 in
theorem diff_no (va vb : Value) (a b : List Int) (w : World) (ha : rowAt w va 1 iC a) (hb : rowAt w vb 1 iC b) (hl : a.length ≠ b.length) :
    Calls Try.prog 16 #[va, vb] w fun e w' => e = .returned (.tuple #[.slice none 0 0, .bool false]) ∧ w' = w := by
  obtain ⟨oa, ca, rfl, -⟩ := ha
  obtain ⟨ob, cb, rfl, -⟩ := hb
  generalize a.length = n at *
  generalize b.length = m at *
  have hbl : ((n : Int) != (m : Int)) = true := by rw [bne_iff_ne]; omega
  go_enter Try.func16, Try.ntmps16
  go_wp2
  go_ret2
  exact ⟨rfl, rfl⟩

set_option maxRecDepth 1000000 in
set_option maxHeartbeats 4000000 in
theorem diff_any (va vb : Value) (a b : List Int) (w : World) (ha : rowAt w va 1 iC a) (hb : rowAt w vb 1 iC b) (hl : a.length = b.length) (h5 : a.length ≤ 1000) :
    Calls Try.prog 16 #[va, vb] w fun e w' => ∃ v, e = .returned (.tuple #[v, .bool true]) ∧ w'.ownsRow w.heap.size 65 2 v (diffV a b).length ((diffV a b).flatMap chC) ∧ Below w.heap.size w w' := by
  obtain ⟨i0, hii, hz0, hz1, hz2⟩ := info_parts infoCh
  have HA : Hid (rowAt w va 1 iC a) := ha
  have HB : Hid (rowAt w vb 1 iC b) := hb
  obtain ⟨oa, ca, rfl, -⟩ := ha
  obtain ⟨ob, cb, rfl, -⟩ := hb
  rw [← hl] at HB ⊢
  have HD : Hid (diffV a b = diffT a b a.length) := rfl
  generalize diffV a b = d at *
  obtain ⟨n, hn⟩ : ∃ n, n = a.length := ⟨_, rfl⟩
  have HN : Hid (a.length = n ∧ b.length = n) := ⟨hn.symm, by omega⟩
  rw [← hn] at HA HB HD h5 ⊢
  clear hl hn
  have hbl : ((n : Int) != (n : Int)) = false := by simp
  go_enter Try.func16, Try.ntmps16
  go_wp2
  go_loopg [6, 15] n (fun gk v i wr => ∃ k : Nat, gk = n - k ∧ i = .int .i64 k ∧ k ≤ n ∧ wr.ownsRow w.heap.size 65 2 v (diffT a b k).length ((diffT a b k).flatMap chC) ∧ Below w.heap.size w wr)
  case atStart => exact ⟨0, rfl, rfl, by omega, World.ownsRow_nil _ _ _ _, Below.refl _ _⟩
  case round =>
    obtain ⟨k, rfl, rfl, hk, ho, hbw⟩ := hrel
    have HO : Hid (wr.ownsRow w.heap.size 65 2 u6 (diffT a b k).length ((diffT a b k).flatMap chC) ∧ Below w.heap.size w wr) := ⟨ho, hbw⟩
    clear ho hbw
    by_cases hlt : k < n
    · have hki : (k : Int) < (n : Int) := by omega
      obtain ⟨x, hx⟩ := at_of (l := a) (k := k) (by rw [HN.out.1]; exact hlt)
      obtain ⟨y, hy⟩ := at_of (l := b) (k := k) (by rw [HN.out.2]; exact hlt)
      obtain ⟨g, off, rfl, hcx⟩ := row_int (HA.out.below (HO.out.2.mono (Nat.le_refl _))) k x hx
      obtain ⟨g', off', rfl, hcy⟩ := row_int (HB.out.below (HO.out.2.mono (Nat.le_refl _))) k y hy
      by_cases hxy : x = y
      · have HK : Hid (diffT a b (k + 1) = diffT a b k) := diffT_eq hx (hxy ▸ hy)
        have hb : ((x : Int) != y) = false := by simp [hxy]
        clear hx hy hxy
        go_wp2_with fail
        go_quiet (fail)
        go_wp2
        go_roundg (n - (k + 1))
        case rel =>
          have hbd : Below wr.heap.size wr (wr.drewN nq) := _root_.Go.below_drewN (Below.refl _ wr) nq
          exact ⟨k + 1, rfl, by go_num, by omega, by rw [HK.out]; exact owns_below HO.out.1 hbd, HO.out.2.trans (hbd.mono HO.out.2.size)⟩
        case measure => omega
      · have HK : Hid (diffT a b (k + 1) = diffT a b k ++ [((k : Int), y)]) := diffT_ne hx hy hxy
        have hb : ((x : Int) != y) = true := by rw [bne_iff_ne]; exact hxy
        have HL : Hid ((diffT a b k).length ≤ k) := diffT_len a b k
        clear hx hy hxy
        go_wp2_with fail
        go_quiet (fail)
        have hbd : Below w.heap.size w (wr.drewN nq) := HO.out.2.trans ((_root_.Go.below_drewN (Below.refl _ wr) nq).mono HO.out.2.size)
        have hod := owns_below HO.out.1 (_root_.Go.below_drewN (Below.refl _ wr) nq)
        have hcy' : (wr.drewN nq).cell? ⟨g', off' + k, none⟩ = some (.int .i64 y) := up_cell (_root_.Go.below_drewN (Below.refl _ wr) nq) hcy
        clear hcx hcy HO
        generalize wr.drewN nq = w1 at *
        generalize diffT a b k = dk at *
        have HO1 : Hid (w1.ownsRow w.heap.size 65 2 u6 dk.length (dk.flatMap chC) ∧ Below w.heap.size w w1) := ⟨hod, hbd⟩
        clear hod hbd
        go_wp2_with (at_builtin; refine wpList_append_own _ rfl _ _ 31 rfl w.heap.size 65 i0 (.agg #[.int .i64 0, .int .i64 0]) 2 16 Try.underlying31 hii hz0 hz1 hz2 rfl (by decide) _ _ _ rfl (HO1.out.1.alloc _) ⟨w1.heap.size, 0, none⟩ 1 1 (chC ((k : Int), y)) rfl rfl (cell_two_new w1 _ _ _) (one_ch _) (by have := HL.out; unfold maxLen; omega) (by have := HL.out; omega) (by have := HO1.out.2.size; simp; omega) ?_)
        intro v' w4 hown4 hgrow _
        have hb4 : Below w.heap.size w w4 := by
          have h1 := HO1.out.2
          have h2 : Below w.heap.size w (w1.alloc (.cells #[.int .i64 (k : Int), .int .i64 y] 65)) := h1.alloc h1.size _
          exact h2.grown hgrow h2.size (fun q e => (HO1.out.1.lt q e).1)
        have HO4 : Hid (w4.ownsRow w.heap.size 65 2 v' (dk.length + 1) (dk.flatMap chC ++ chC ((k : Int), y)) ∧ Below w.heap.size w w4) := ⟨hown4, hb4⟩
        clear hown4 hb4 hgrow
        go_wp2
        go_roundg (n - (k + 1))
        case rel => exact ⟨k + 1, rfl, by go_num, by omega, by rw [HK.out, List.length_append, flat_snoc]; exact HO4.out.1, HO4.out.2⟩
        case measure => omega
    · have hke : k = n := by omega
      subst hke
      rw [← HD.out] at HO
      go_wp2
      go_ret2
      exact ⟨_, rfl, HO.out⟩
end Go.Proofs.Ytelmjkjbbbgmpaa
