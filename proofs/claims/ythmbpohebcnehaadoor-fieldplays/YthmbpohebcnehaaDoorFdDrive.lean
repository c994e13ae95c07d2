/-
  The law's drive: of each point a position, by digits of a number: by a contract.
-/
import Derived.Test.YthmbpohebcnehaaDoorFdKnown
import Derived.Test.YthmbpohebcnehaaDoorLawInts
namespace Go.Proofs.YthmbpohebcnehaaDoor
open Go.RowKit

def driveF (n : Int) (m : Nat) : List Int := (List.range m).map fun i => n / 2 ^ (2 * i) % 4 % 3
theorem driveF_len (n : Int) (m : Nat) : (driveF n m).length = m := by simp [driveF]
theorem driveF_next (n : Int) (k : Nat) : (driveF n (k + 1)).flatMap iC = (driveF n k).flatMap iC ++ [.int .i64 (n / 2 ^ (2 * k) % 4 % 3)] := by
  simp [driveF, List.range_succ, iC]
theorem driveF_pos (n : Int) (m : Nat) : (driveF n m).any noPos = false := by
  rw [List.any_eq_false]
  intro x hx
  simp only [driveF, List.mem_map] at hx
  obtain ⟨i, _, rfl⟩ := hx
  generalize n / 2 ^ (2 * i) % 4 = q
  have h3 : q % 3 = 0 ∨ q % 3 = 1 ∨ q % 3 = 2 := by omega
  rcases h3 with h | h | h <;> rw [h] <;> decide

set_option maxRecDepth 1000000 in
set_option maxHeartbeats 8000000 in
theorem drive_any (n : Int) (m : Nat) (w : World) (hm : m ≤ 20) : Calls Tryd.prog 12 #[.int .i64 n, .int .i64 (m : Int)] w fun e w' => ∃ v, e = .returned v ∧ w'.ownsRow w.heap.size 3 1 v m ((driveF n m).flatMap iC) ∧ Below w.heap.size w w' := by
  obtain ⟨i0, hii, hz0, hz1, hz2⟩ := info_parts infoInt
  go_enter Tryd.func12, Tryd.ntmps12
  go_wp2
  go_loopg [5, 6] m (fun gk vo i wr => ∃ k : Nat, gk = m - k ∧ i = .int .i64 k ∧ k ≤ m ∧ wr.ownsRow w.heap.size 3 1 vo k ((driveF n k).flatMap iC) ∧ Below w.heap.size w wr)
  case atStart => exact ⟨0, rfl, rfl, by omega, World.ownsRow_nil _ _ _ _, Below.refl _ _⟩
  case round =>
    obtain ⟨k, rfl, rfl, hk, hown, hb⟩ := hrel
    obtain ⟨ov, cv, hvo⟩ := owns_slice hown
    subst hvo
    have HOW : Hid (wr.ownsRow w.heap.size 3 1 (.slice ov k cv) k ((driveF n k).flatMap iC)) := hown
    have HB : Hid (Below w.heap.size w wr) := hb
    clear hown hb
    by_cases hlt : k < m
    · have hki : (k : Int) < (m : Int) := by omega
      have hx := driveF_next n k
      have HX := (show Hid _ from hx)
      have hown5 := HOW.out
      have hsz5 := HB.out.size
      have hand := i64_and3 (n / 2 ^ (2 * k))
      have hq : 0 ≤ n / 2 ^ (2 * k) % 4 ∧ n / 2 ^ (2 * k) % 4 ≤ 3 := by omega
      obtain ⟨hq0, hq1⟩ := hq
      generalize (driveF n k).flatMap iC = cells at *
      clear hx
      go_wp2_with (at_builtin; refine wpList_append_own _ rfl _ _ 40 rfl w.heap.size 3 i0 (.int .i64 0) 1 8 Tryd.underlying40 hii hz0 hz1 hz2 rfl (by decide) _ _ _ rfl (hown5.alloc _) ⟨wr.heap.size, 0, none⟩ 1 1 [.int .i64 (n / 2 ^ (2 * k) % 4 % 3)] rfl rfl (by intro j u hj; match j, hj with | 0, hj => (simp at hj; subst hj; simp [addr_add]) | j + 1, hj => simp at hj) (one_int _) (by unfold maxLen; omega) (by omega) (by simp; omega) ?_)
      intro v' w6 hown6 hgrow _
      have HO6 := (show Hid _ from hown6)
      have HB6 : Hid (Below w.heap.size w w6) := (HB.out.alloc HB.out.size _).grown hgrow (by simp; omega) (fun j e => (HOW.out.lt j e).1)
      clear hown5 hown6 hgrow hand
      go_wp2
      go_roundg (m - (k + 1))
      case rel => exact ⟨k + 1, rfl, by go_num, by omega, by rw [HX.out]; exact HO6.out, HB6.out⟩
      case measure => omega
    · have hkn : k = m := by omega
      subst hkn
      go_wp2
      go_ret
      exact ⟨_, rfl, HOW.out, HB.out⟩
end Go.Proofs.YthmbpohebcnehaaDoor
