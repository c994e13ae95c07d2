/-
  Slices of rows of bytes: heads, tails, what is between.
-/
import Derived.Test.YtfcoanlegjddpabSmOf
import Derived.Lib.MinMax
namespace Go.Proofs.Ytfcoanlegjddpab
open Go.RowKit

theorem bytesCells : (Try.prog.info? 5).map (·.size) = some 1 := by kernel_rfl
theorem waddr_at (b off j : Nat) : (⟨b, off, none⟩ : Addr).add j = ⟨b, off + j, none⟩ := by unfold Addr.add; split <;> simp_all
theorem has_drop {w : World} {oa : Option Addr} {p : List (BitVec 8)} (h : hasBytes w oa p) (l : Nat) : hasBytes w (oa.map (·.add l)) (p.drop l) := fun j x hj => by
  rw [List.getElem?_drop] at hj
  obtain ⟨b, off, rfl, hc⟩ := h _ x hj
  refine ⟨b, off + l, by rw [Option.map_some, waddr_at], ?_⟩
  rw [Nat.add_assoc]
  exact hc
theorem has_take {w : World} {oa : Option Addr} {p : List (BitVec 8)} (h : hasBytes w oa p) (s : Nat) : hasBytes w oa (p.take s) := fun j x hj => by
  rw [List.getElem?_take] at hj
  split at hj
  · exact h j x hj
  · cases hj
theorem has_nil (w : World) (oa : Option Addr) : hasBytes w oa [] := fun j x hj => by simp at hj
theorem add_block (x : Addr) (j : Nat) : (x.add j).block = x.block := by unfold Addr.add; split <;> rfl
theorem not_block {oa : Option Addr} {l : Nat} {c : Prop} [Decidable c] {r : Nat → Prop} (h : ∀ g, oa = some g → r g.block) : ∀ g, (if c then oa else oa.map (·.add l)) = some g → r g.block := fun g hg => by
  split at hg
  · exact h g hg
  · obtain ⟨x, hx, rfl⟩ := Option.map_eq_some_iff.1 hg
    rw [add_block]
    exact h x hx
theorem run_size8 (w : World) : (sizeOf (Try.prog.elem 22)).run Try.prog w = .ok 1 w := by
  obtain ⟨i, hi, hs⟩ := Option.map_eq_some_iff.1 bytesCells
  have he : Try.prog.elem 22 = 5 := by kernel_rfl
  rw [he]
  simp [sizeOf, typeInfo, hi, hs]
/-- b[l:h]. -/
theorem slice_lh (oa : Option Addr) (n cap l h : Nat) (h1 : l ≤ h) (h2 : h ≤ cap) : ∃ o, (∀ W, (Instr.sliceAt 22 (.slice oa n cap) (some (.int .i64 (l : Int))) (some (.int .i64 (h : Int))) none).run Try.prog W = .ok (.slice o (h - l) (cap - l)) W) ∧
    (∀ w p, hasBytes w oa p → hasBytes w o ((p.take h).drop l)) ∧ ∀ r : Nat → Prop, (∀ g, oa = some g → r g.block) → ∀ g, o = some g → r g.block := by
  have ht : Try.prog.underlying 22 = some (.slice (Try.prog.elem 22)) := by kernel_rfl
  refine ⟨if cap = l then oa else oa.map (·.add l), fun W => ?_, fun w p hp => ?_, fun r hr => not_block hr⟩
  · rw [run_sliceAt_slice (h := ht), run_slice_lh (w := W) _ oa n cap ht .i64 .i64 l h (by omega) (by omega) (by omega), run_size8]
    simp [Result.andThen, sliced]
  · split
    · have : (p.take h).drop l = [] := List.drop_eq_nil_of_le (by rw [List.length_take]; omega)
      rw [this]
      exact has_nil _ _
    · exact has_drop (has_take hp h) l
/-- b[:h]. -/
theorem slice_h (oa : Option Addr) (n cap h : Nat) (h2 : h ≤ cap) : ∃ o, (∀ W, (Instr.sliceAt 22 (.slice oa n cap) none (some (.int .i64 (h : Int))) none).run Try.prog W = .ok (.slice o h cap) W) ∧
    (∀ w p, hasBytes w oa p → hasBytes w o (p.take h)) ∧ ∀ r : Nat → Prop, (∀ g, oa = some g → r g.block) → ∀ g, o = some g → r g.block := by
  have ht : Try.prog.underlying 22 = some (.slice (Try.prog.elem 22)) := by kernel_rfl
  refine ⟨if cap = 0 then oa else oa.map (·.add 0), fun W => ?_, fun w p hp => ?_, fun r hr => not_block hr⟩
  · rw [run_sliceAt_slice (h := ht), run_slice_h (w := W) _ oa n cap ht .i64 h (by omega) (by omega), run_size8]
    simp [Result.andThen, sliced]
  · split
    · exact has_take hp h
    · have := has_drop (has_take hp h) 0
      rw [List.drop_zero] at this
      exact this
/-- b[l:]. -/
theorem slice_l (oa : Option Addr) (n cap l : Nat) (h1 : l ≤ n) (h2 : n ≤ cap) : ∃ o, (∀ W, (Instr.sliceAt 22 (.slice oa n cap) (some (.int .i64 (l : Int))) none none).run Try.prog W = .ok (.slice o (n - l) (cap - l)) W) ∧
    (∀ w p, hasBytes w oa p → p.length = n → hasBytes w o (p.drop l)) ∧ ∀ r : Nat → Prop, (∀ g, oa = some g → r g.block) → ∀ g, o = some g → r g.block := by
  have ht : Try.prog.underlying 22 = some (.slice (Try.prog.elem 22)) := by kernel_rfl
  refine ⟨if cap = l then oa else oa.map (·.add l), fun W => ?_, fun w p hp hn => ?_, fun r hr => not_block hr⟩
  · rw [run_sliceAt_slice (h := ht), run_slice_l (w := W) _ oa n cap ht .i64 l (by omega) (by omega), run_size8]
    simp [Result.andThen, sliced]
  · split
    · have : p.drop l = [] := List.drop_eq_nil_of_le (by omega)
      rw [this]
      exact has_nil _ _
    · exact has_drop hp l
end Go.Proofs.Ytfcoanlegjddpab
