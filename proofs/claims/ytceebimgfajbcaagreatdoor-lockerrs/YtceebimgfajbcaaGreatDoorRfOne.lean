/-
  The reference: may a route stand so? where it may: by a contract.
-/
import Derived.Test.YtceebimgfajbcaaGreatDoorLkSet
namespace Go.Proofs.YtceebimgfajbcaaGreatDoor
open Go.RowKit

set_option maxRecDepth 1000000 in
set_option maxHeartbeats 8000000 in
theorem rfOne_yes (m t g : Int) (b : Bool) (o : Option Addr) (n c : Nat) (w : World) (h : mayBeF (m, t, g, b) n = true) :
    Calls Tryz.prog 34 #[.agg #[.int .i64 m, .int .i64 t, .int .i64 g, .bool b], .slice o n c] w fun e w' => e = .returned (.bool true) ∧ Below w.heap.size w w' := by
  unfold mayBeF at h
  simp only at h
  split at h
  · rename_i hm
    obtain ⟨rfl, rfl, rfl⟩ : t = 0 ∧ g = 0 ∧ b = false := by simpa using h
    clear h
    rcases hm with rfl | rfl
    all_goals
      go_enter Tryz.func34, Tryz.ntmps34
      go_wp2
      go_ret
      exact ⟨rfl, (by repeat' (with_reducible first | exact Below.refl _ _ | refine Below.drew ?_ | refine _root_.Go.below_drewN ?_ _ | refine Below.alloc ?_ ?_ _ | refine Below.setCell ?_ ?_ _ | exact Nat.le_refl _ | (simp; done) | (simp; omega)))⟩
  split at h
  · rename_i hm
    subst hm
    obtain ⟨⟨rfl, rfl⟩, h0, h8⟩ : (g = 0 ∧ b = false) ∧ 0 ≤ t ∧ t ≤ 8 := by simpa using h
    clear h
    go_enter Tryz.func34, Tryz.ntmps34
    go_wp2
    go_ret
    exact ⟨rfl, (by repeat' (with_reducible first | exact Below.refl _ _ | refine Below.drew ?_ | refine _root_.Go.below_drewN ?_ _ | refine Below.alloc ?_ ?_ _ | refine Below.setCell ?_ ?_ _ | exact Nat.le_refl _ | (simp; done) | (simp; omega)))⟩
  split at h
  · rename_i hm
    subst hm
    obtain ⟨⟨rfl, rfl⟩, h0, h8⟩ : (g = 0 ∧ b = false) ∧ 0 ≤ t ∧ t ≤ 5 := by simpa using h
    have h6 : t < 6 := by omega
    clear h
    go_enter Tryz.func34, Tryz.ntmps34
    go_wp2
    go_ret
    exact ⟨rfl, (by repeat' (with_reducible first | exact Below.refl _ _ | refine Below.drew ?_ | refine _root_.Go.below_drewN ?_ _ | refine Below.alloc ?_ ?_ _ | refine Below.setCell ?_ ?_ _ | exact Nat.le_refl _ | (simp; done) | (simp; omega)))⟩
  split at h
  · rename_i hm
    subst hm
    obtain ⟨rfl, h0, h8⟩ : t = 0 ∧ 0 ≤ g ∧ g < n := by simpa using h
    clear h
    go_enter Tryz.func34, Tryz.ntmps34
    go_wp2
    go_ret
    exact ⟨rfl, (by repeat' (with_reducible first | exact Below.refl _ _ | refine Below.drew ?_ | refine _root_.Go.below_drewN ?_ _ | refine Below.alloc ?_ ?_ _ | refine Below.setCell ?_ ?_ _ | exact Nat.le_refl _ | (simp; done) | (simp; omega)))⟩
  · cases h
end Go.Proofs.YtceebimgfajbcaaGreatDoor
