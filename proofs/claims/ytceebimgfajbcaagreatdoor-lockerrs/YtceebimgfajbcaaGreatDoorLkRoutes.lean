/-
  Package slices: Clone of numbers and of routes' states; package lock: Routes: by contracts.
-/
import Derived.Test.YtceebimgfajbcaaGreatDoorLkCycle
namespace Go.Proofs.YtceebimgfajbcaaGreatDoor
open Go.RowKit

theorem infoSt : (Tryz.prog.info? 80).map (fun i => (i.zero, i.size, i.bytes)) = some (some (.agg #[.int .i64 0, .int .i64 0, .int .i64 0, .bool false]), 4, 32) := by kernel_rfl
theorem cells_st : ∀ (l : List St), ∀ u ∈ l.flatMap stC, u.oneCell' = true := by
  intro l u hu
  obtain ⟨x, _, h⟩ := List.mem_flatMap.1 hu
  simp [stC] at h
  rcases h with h | h | h | h <;> subst h <;> rfl
set_option maxRecDepth 1000000 in
set_option maxHeartbeats 4000000 in
theorem cloneSt_any (v : Value) (ss : List St) (w : World) (h : rowAt w v 4 stC ss) (hl : ss.length ≤ 1000000) :
    Calls Tryz.prog 33 #[v] w fun e w' => ∃ u, e = .returned u ∧ w'.ownsRow w.heap.size 80 4 u ss.length (ss.flatMap stC) ∧ Below w.heap.size w w' := by
  obtain ⟨i0, hii, hz0, hz1, hz2⟩ := info_parts infoSt
  obtain ⟨o, c, rfl, q⟩ := h
  cases o with
  | none =>
    obtain ⟨rfl, hn⟩ := row_none (w := w) (cap := c) (n := ss.length) ⟨none, c, rfl, q⟩
    clear q
    have heq : ∀ (n : Nat) W, (binOp .eql 41 (.slice none n c) (.slice none 0 0)).run Tryz.prog W = .ok (.bool true) W := fun n W => by kernel_rfl
    go_enter Tryz.func33, Tryz.ntmps33
    go_wp2
    go_ret
    exact ⟨_, rfl, World.ownsRow_nil _ _ _ _, Below.refl _ _⟩
  | some a =>
    have hc := row_some (cs := stC) (size := 4) (fun _ => rfl) (by omega) (w := w) (cap := c) (n := ss.length) ⟨some a, c, rfl, q⟩
    have HFL : Hid ((ss.flatMap stC).length = ss.length * 4) := flat_st_len ss
    have H1 : Hid (∀ u ∈ ss.flatMap stC, u.oneCell' = true) := cells_st ss
    clear q
    generalize ss.flatMap stC = cs at *
    generalize ss.length = n at *
    have hba : Below w.heap.size w (w.alloc (.cells #[] 80)) := (Below.refl _ _).alloc (Nat.le_refl _) _
    have hown : (w.alloc (.cells #[] 80)).ownsRow w.heap.size 80 4 (.slice (some ⟨w.heap.size, 0, none⟩) 0 0) 0 [] := ⟨rfl, .inr ⟨w.heap.size, 0, #[], rfl, Nat.le_refl _, blk_new _ _, Nat.le_refl _, by unfold maxLen; omega, rfl, rfl⟩⟩
    have HC : Hid (∀ j u, cs[j]? = some u → (w.alloc (.cells #[] 80)).cell? (a.add j) = some u) := fun j u hj => up_cell hba (hc j u hj)
    have HB : Hid (Below w.heap.size w (w.alloc (.cells #[] 80))) := hba
    clear hc hba
    have heq : ∀ W, (binOp .eql 41 (.slice (some a) n c) (.slice none 0 0)).run Tryz.prog W = .ok (.bool false) W := fun W => by kernel_rfl
    go_enter Tryz.func33, Tryz.ntmps33
    go_wp2_with (at_builtin; refine wpList_append_own _ rfl _ _ 41 rfl w.heap.size 80 i0 (.agg #[.int .i64 0, .int .i64 0, .int .i64 0, .bool false]) 4 32 Tryz.underlying41 hii hz0 hz1 hz2 rfl (by decide) _ _ _ rfl hown a n c cs rfl HFL.out HC.out H1.out (by unfold maxLen; omega) (by omega) (by simp) ?_)
    intro v' w3 hown3 hgrow _
    have HO3 : Hid (w3.ownsRow w.heap.size 80 4 v' n cs) := by
      show World.ownsRow _ _ _ _ _ _ _
      simpa using hown3
    have HB3 : Hid (Below w.heap.size w w3) := HB.out.grown hgrow (by simp) (by simp [Value.ownBlock])
    clear hown hown3 hgrow
    go_wp2
    go_ret
    exact ⟨_, rfl, HO3.out, HB3.out⟩
set_option maxRecDepth 1000000 in
set_option maxHeartbeats 4000000 in
theorem cloneI_any (v : Value) (ss : List Int) (w : World) (h : rowAt w v 1 iC ss) (hl : ss.length ≤ 1000000) :
    Calls Tryz.prog 55 #[v] w fun e w' => ∃ u, e = .returned u ∧ w'.ownsRow w.heap.size 3 1 u ss.length (ss.flatMap iC) ∧ Below w.heap.size w w' := by
  obtain ⟨i0, hii, hz0, hz1, hz2⟩ := info_parts infoInt
  obtain ⟨o, c, rfl, q⟩ := h
  cases o with
  | none =>
    obtain ⟨rfl, hn⟩ := row_none (w := w) (cap := c) (n := ss.length) ⟨none, c, rfl, q⟩
    clear q
    have heq : ∀ (n : Nat) W, (binOp .eql 36 (.slice none n c) (.slice none 0 0)).run Tryz.prog W = .ok (.bool true) W := fun n W => by kernel_rfl
    go_enter Tryz.func55, Tryz.ntmps55
    go_wp2
    go_ret
    exact ⟨_, rfl, World.ownsRow_nil _ _ _ _, Below.refl _ _⟩
  | some a =>
    have hc := row_some (cs := iC) (size := 1) (fun _ => rfl) (by omega) (w := w) (cap := c) (n := ss.length) ⟨some a, c, rfl, q⟩
    have HFL : Hid ((ss.flatMap iC).length = ss.length * 1) := flat_lenG (cs := iC) (size := 1) (fun _ => rfl) ss
    have H1 : Hid (∀ u ∈ ss.flatMap iC, u.oneCell' = true) := cells_int ss
    clear q
    generalize ss.flatMap iC = cs at *
    generalize ss.length = n at *
    have hba : Below w.heap.size w (w.alloc (.cells #[] 3)) := (Below.refl _ _).alloc (Nat.le_refl _) _
    have hown : (w.alloc (.cells #[] 3)).ownsRow w.heap.size 3 1 (.slice (some ⟨w.heap.size, 0, none⟩) 0 0) 0 [] := ⟨rfl, .inr ⟨w.heap.size, 0, #[], rfl, Nat.le_refl _, blk_new _ _, Nat.le_refl _, by unfold maxLen; omega, rfl, rfl⟩⟩
    have HC : Hid (∀ j u, cs[j]? = some u → (w.alloc (.cells #[] 3)).cell? (a.add j) = some u) := fun j u hj => up_cell hba (hc j u hj)
    have HB : Hid (Below w.heap.size w (w.alloc (.cells #[] 3))) := hba
    clear hc hba
    have heq : ∀ W, (binOp .eql 36 (.slice (some a) n c) (.slice none 0 0)).run Tryz.prog W = .ok (.bool false) W := fun W => by kernel_rfl
    go_enter Tryz.func55, Tryz.ntmps55
    go_wp2_with (at_builtin; refine wpList_append_own _ rfl _ _ 36 rfl w.heap.size 3 i0 (.int .i64 0) 1 8 Tryz.underlying36 hii hz0 hz1 hz2 rfl (by decide) _ _ _ rfl hown a n c cs rfl HFL.out HC.out H1.out (by unfold maxLen; omega) (by omega) (by simp) ?_)
    intro v' w3 hown3 hgrow _
    have HO3 : Hid (w3.ownsRow w.heap.size 3 1 v' n cs) := by
      show World.ownsRow _ _ _ _ _ _ _
      simpa using hown3
    have HB3 : Hid (Below w.heap.size w w3) := HB.out.grown hgrow (by simp) (by simp [Value.ownBlock])
    clear hown hown3 hgrow
    go_wp2
    go_ret
    exact ⟨_, rfl, HO3.out, HB3.out⟩
theorem owns_ne {W : World} {base size n q : Nat} {e t : TypeId} {v : Value} {xs : List Value} {c : Array Value} {z : Nat × Nat} (h : W.ownsRow base e size v n xs) (hq : W.heap[q]? = some (.cells c t z)) (he : e ≠ t) : ∀ k, v.ownBlock = some k → k ≠ q := fun k hk e' => by
  rcases h.2 with ⟨e1, _⟩ | ⟨g', cap, cur, e1, _, hg', _⟩
  · rw [e1] at hk; cases hk
  · rw [e1] at hk
    have := Option.some.inj hk
    simp only at this
    rw [this, e', hq] at hg'
    injection hg' with hg'
    injection hg' with hg1 hg2 hg3
    exact he hg2.symm

set_option maxRecDepth 1000000 in
set_option maxHeartbeats 4000000 in
theorem routes_any (kb : Nat) (u : Nat → Value) (ns ng : Nat) (pts : List Int) (ws : List WyV) (ss : List St) (w : World) (h : LkRd w kb u ns ng pts ws ss) (hl : ss.length ≤ 1000000) :
    Calls Tryz.prog 11 #[.pointer (some ⟨kb, 0, none⟩)] w fun e w' => ∃ v, e = .returned v ∧ w'.ownsRow w.heap.size 80 4 v ss.length (ss.flatMap stC) ∧ Below w.heap.size w w' := by
  have D := cloneSt_any (u 2) ss w h.s hl
  have h4 := h.c4
  obtain ⟨o, c, e, _⟩ := h.s
  rw [e] at D h4
  clear h e hl
  go_enter Tryz.func11, Tryz.ntmps11
  go_wp2_with fail
  refine D.mono ?_
  rintro e w2 ⟨v, rfl, ho, hb⟩
  have HO : Hid (w2.ownsRow w.heap.size 80 4 v ss.length (ss.flatMap stC) ∧ Below w.heap.size w w2) := ⟨ho, hb⟩
  clear ho hb
  go_wp2
  go_ret
  exact ⟨_, rfl, HO.out.1, HO.out.2⟩
end Go.Proofs.YtceebimgfajbcaaGreatDoor
