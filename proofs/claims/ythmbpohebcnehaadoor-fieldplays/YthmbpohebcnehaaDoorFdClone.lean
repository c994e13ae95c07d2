/-
  Package slices: Clone of bools, by a contract.
-/
import Derived.Test.YthmbpohebcnehaaDoorOwBase
namespace Go.Proofs.YthmbpohebcnehaaDoor
open Go.RowKit

theorem cells_bool : ∀ (l : List Bool), ∀ u ∈ l.flatMap bC, u.oneCell' = true := by
  intro l u hu
  obtain ⟨x, _, h⟩ := List.mem_flatMap.1 hu
  simp [bC] at h
  rcases h with ⟨_, rfl⟩ | ⟨_, rfl⟩ <;> rfl

set_option maxRecDepth 1000000 in
set_option maxHeartbeats 4000000 in
theorem cloneB_any (v : Value) (ss : List Bool) (w : World) (h : rowAt w v 1 bC ss) (hl : ss.length ≤ 1000000) :
    Calls Tryd.prog 24 #[v] w fun e w' => ∃ u, e = .returned u ∧ w'.ownsRow w.heap.size 4 1 u ss.length (ss.flatMap bC) ∧ Below w.heap.size w w' := by
  obtain ⟨i0, hii, hz0, hz1, hz2⟩ := info_parts infoBool
  obtain ⟨o, c, rfl, q⟩ := h
  cases o with
  | none =>
    obtain ⟨rfl, hn⟩ := row_none (w := w) (cap := c) (n := ss.length) ⟨none, c, rfl, q⟩
    clear q
    have heq : ∀ (n : Nat) W, (binOp .eql 44 (.slice none n c) (.slice none 0 0)).run Tryd.prog W = .ok (.bool true) W := fun n W => by kernel_rfl
    go_enter Tryd.func24, Tryd.ntmps24
    go_wp2
    go_ret
    exact ⟨_, rfl, World.ownsRow_nil _ _ _ _, Below.refl _ _⟩
  | some a =>
    have hc := row_some (cs := bC) (size := 1) (fun _ => rfl) (by omega) (w := w) (cap := c) (n := ss.length) ⟨some a, c, rfl, q⟩
    have HFL : Hid ((ss.flatMap bC).length = ss.length * 1) := flat_lenG (cs := bC) (size := 1) (fun _ => rfl) ss
    have H1 : Hid (∀ u ∈ ss.flatMap bC, u.oneCell' = true) := cells_bool ss
    clear q
    generalize ss.flatMap bC = cs at *
    generalize ss.length = n at *
    have hba : Below w.heap.size w (w.alloc (.cells #[] 4)) := (Below.refl _ _).alloc (Nat.le_refl _) _
    have hown : (w.alloc (.cells #[] 4)).ownsRow w.heap.size 4 1 (.slice (some ⟨w.heap.size, 0, none⟩) 0 0) 0 [] := ⟨rfl, .inr ⟨w.heap.size, 0, #[], rfl, Nat.le_refl _, blk_new _ _, Nat.le_refl _, by unfold maxLen; omega, rfl, rfl⟩⟩
    have HC : Hid (∀ j u, cs[j]? = some u → (w.alloc (.cells #[] 4)).cell? (a.add j) = some u) := fun j u hj => up_cell hba (hc j u hj)
    have HB : Hid (Below w.heap.size w (w.alloc (.cells #[] 4))) := hba
    clear hc hba
    have heq : ∀ W, (binOp .eql 44 (.slice (some a) n c) (.slice none 0 0)).run Tryd.prog W = .ok (.bool false) W := fun W => by kernel_rfl
    go_enter Tryd.func24, Tryd.ntmps24
    go_wp2_with (at_builtin; refine wpList_append_own _ rfl _ _ 44 rfl w.heap.size 4 i0 (.bool false) 1 1 Tryd.underlying44 hii hz0 hz1 hz2 rfl (by decide) _ _ _ rfl hown a n c cs rfl HFL.out HC.out H1.out (by unfold maxLen; omega) (by omega) (by simp) ?_)
    intro v' w3 hown3 hgrow _
    have HO3 : Hid (w3.ownsRow w.heap.size 4 1 v' n cs) := by
      show World.ownsRow _ _ _ _ _ _ _
      simpa using hown3
    have HB3 : Hid (Below w.heap.size w w3) := HB.out.grown hgrow (by simp) (by simp [Value.ownBlock])
    clear hown hown3 hgrow
    go_wp2
    go_ret
    exact ⟨_, rfl, HO3.out, HB3.out⟩
theorem owns_ne {W : World} {base size n q : Nat} {e t : TypeId} {v : Value} {xs : List Value} {c : Array Value} {z : Nat × Nat} (h : W.ownsRow base e size v n xs) (hq : W.heap[q]? = some (.cells c t z)) (he : e ≠ t) : ∀ k, v.ownBlock = some k → k ≠ q := fun k hk e' => by
  rcases h.2 with ⟨e1, _⟩ | ⟨g', cap, cur, e1, _, hg', _⟩
  · rw [e1] at hk; cases hk
  · rw [e1] at hk
    have := Option.some.inj hk
    simp only at this
    rw [this, e', hq] at hg'
    injection hg' with hg'
    injection hg' with hg1 hg2 hg3
    exact he hg2.symm

end Go.Proofs.YthmbpohebcnehaaDoor
