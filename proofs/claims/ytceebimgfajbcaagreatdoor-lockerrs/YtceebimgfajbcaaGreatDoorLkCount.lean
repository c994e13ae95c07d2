/-
  Of a section at most one route holds it (plain); Holder over a lock of any layout.
-/
import Derived.Test.YtceebimgfajbcaaGreatDoorRfHolds
namespace Go.Proofs.YtceebimgfajbcaaGreatDoor
open Go.RowKit

theorem count_one {α : Type} {p : α → Bool} : ∀ (l : List α), (∀ (i j : Nat) (x y : α), l[i]? = some x → l[j]? = some y → p x = true → p y = true → i = j) → l.countP p ≤ 1
  | [], _ => by simp
  | x :: l, h => by
    rw [List.countP_cons]
    by_cases hx : p x = true
    · have h0 : l.countP p = 0 := by
        rw [List.countP_eq_zero]
        intro y hy hp
        obtain ⟨j, hj⟩ := List.getElem?_of_mem hy
        have := h 0 (j + 1) x y rfl (by simpa using hj) hx hp
        omega
      rw [h0]
      split <;> omega
    · rw [if_neg hx]
      have := count_one l fun i j y z hi hj h1 h2 => by
        have := h (i + 1) (j + 1) y z (by simpa using hi) (by simpa using hj) h1 h2
        omega
      omega
theorem at_pos {α : Type} {p : α → Bool} : ∀ (l : List α) (k : Nat), (0 ≤ atF p l k ↔ ∃ x ∈ l, p x = true)
  | [], k => by
    rw [atF]
    simp
  | x :: l, k => by
    rw [atF]
    split
    · rename_i h
      constructor
      · exact fun _ => ⟨x, List.mem_cons_self .., h⟩
      · exact fun _ => by omega
    · rename_i h
      rw [at_pos l (k + 1)]
      constructor
      · rintro ⟨y, hy, hp⟩
        exact ⟨y, List.mem_cons_of_mem _ hy, hp⟩
      · rintro ⟨y, hy, hp⟩
        rcases List.mem_cons.1 hy with rfl | hy
        · exact absurd hp h
        · exact ⟨y, hy, hp⟩
theorem held_in {x : Wy} {s : St} {sec : Int} (h : inB (heldF x s) sec = true) : s.1 ≠ 0 ∧ sec ∈ x.path := by
  rw [in_mem, heldF] at h
  split at h
  · cases h
  · rename_i hs
    exact ⟨hs, List.mem_of_mem_drop h⟩
theorem hold_one {rs : List RtV} {ss : List St} (h : ApartS (waysG rs rs 0) ss) (sec : Int) : ((waysG rs rs 0).zip ss).countP (holdsB sec) ≤ 1 := by
  refine count_one _ fun i j p q hi hj hp hq => ?_
  rw [List.getElem?_zip_eq_some] at hi hj
  obtain ⟨a, ha⟩ := at_of (l := rs) (k := i) (by rw [← waysG_map rs rs 0]; exact (List.getElem?_eq_some_iff.1 hi.1).1)
  obtain ⟨b, hb⟩ := at_of (l := rs) (k := j) (by rw [← waysG_map rs rs 0]; exact (List.getElem?_eq_some_iff.1 hj.1).1)
  have e1 := Option.some.inj ((ways_at rs rs 0 i a ha).symm.trans hi.1)
  have e2 := Option.some.inj ((ways_at rs rs 0 j b hb).symm.trans hj.1)
  have h1 := held_in hp
  have h2 := held_in hq
  rw [← e1] at h1
  rw [← e2] at h2
  by_cases hne : i = j
  · exact hne
  · have hc := apart_conf h ha hb hi.2 hj.2 hne h1.1 h2.1
    have hs : shareB a.1.path b.1.path = true := by
      rw [shareB, List.any_eq_true]
      exact ⟨sec, h1.2, (in_mem _ _).2 h2.2⟩
    rw [confB, hs] at hc
    simp at hc
theorem hold_some {rs : List RtV} {ss : List St} (h : ApartS (waysG rs rs 0) ss) (sec : Int) : (0 ≤ holderF (waysG rs rs 0) ss sec ↔ ((waysG rs rs 0).zip ss).countP (holdsB sec) = 1) := by
  have h1 := hold_one h sec
  rw [holderF, at_pos, ← List.countP_pos_iff]
  omega
theorem holder_g (w0 W : World) (l : Lay) (rs : List RtV) (kb : Nat) (ss : List St) (sec : Int) (h : LkG w0 W l rs kb ss) :
    Calls Tryz.prog 40 #[.pointer (some ⟨kb, 0, none⟩), .int .i64 sec] W fun e w' => e = .returned (.int .i64 (holderF (waysG rs rs 0) ss sec)) ∧ Below W.heap.size W w' := by
  obtain ⟨u, ws, h1, h2⟩ := h.ex
  have D := holder_any kb u _ _ _ ws ss sec W h1.rd (by rw [h2]; exact h.ok)
  rw [h2] at D
  exact D
end Go.Proofs.YtceebimgfajbcaaGreatDoor
