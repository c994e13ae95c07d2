/-
  Plain: what a layout that may be is, as the reference asks it. The reference's In, by a contract.
-/
import Derived.Test.YtfgkkhcoidegdabDoorTbBase
import Derived.Deep.LoopGhost
namespace Go.Proofs.YtfgkkhcoidegdabDoor
open Go.RowKit

def inB (l : List Int) (n : Int) : Bool := l.any fun x => decide (x = n)
theorem inB_cons (x : Int) (l : List Int) (n : Int) : inB (x :: l) n = (decide (x = n) || inB l n) := rfl

set_option maxRecDepth 1000000 in
set_option maxHeartbeats 1000000 in
theorem in_any (v : Value) (l : List Int) (x : Int) (w : World) (h : rowAt w v 1 iC l) (hl : l.length ≤ 4294967296) :
    Calls Tryd.prog 30 #[v, .int .i64 x] w fun e w' => e = .returned (.bool (inB l x)) ∧ w' = w := by
  obtain ⟨oa, cap, rfl, h2⟩ := h
  have H2 : Hid (∀ j y, l[j]? = some y → ∃ g off, oa = some ⟨g, off, none⟩ ∧ ∀ i u, (iC y)[i]? = some u → w.cell? ⟨g, off + j * 1 + i, none⟩ = some u) := h2
  clear h2
  have HI : Hid (inB l x = inB l x) := rfl
  generalize hans : inB l x = ans at *
  have HA : Hid (inB l x = ans) := hans
  generalize hn : l.length = n at *
  have HN : Hid (l.length = n) := hn
  clear hn hans HI
  go_enter Tryd.func30, Tryd.ntmps30
  go_wp2
  go_loop [5] (fun i => ∃ k : Nat, i = .int .i64 k ∧ k ≤ n ∧ inB (l.drop k) x = inB l x) (fun i => n - (intOf i).toNat)
  case atStart => exact ⟨0, rfl, by omega, by simp⟩
  case round =>
    obtain ⟨k, rfl, hk, hc⟩ := hrel
    have HC : Hid (inB (l.drop k) x = inB l x) := hc
    clear hc
    by_cases hlt : k < n
    · obtain ⟨y, hy⟩ : ∃ y, l[k]? = some y := ⟨l[k]'(by rw [HN.out]; exact hlt), List.getElem?_eq_getElem _⟩
      obtain ⟨g, off, rfl, hcell⟩ := H2.out k y hy
      have c0 := hcell 0 _ rfl
      simp only [Nat.mul_one, Nat.add_zero] at c0
      rw [drop_at hy, inB_cons] at HC
      clear hcell hy
      by_cases hxy : y = x
      · have hb : ((y : Int) == x) = true := by simp [hxy]
        rw [decide_eq_true hxy, Bool.true_or] at HC
        clear hxy
        go_wp2
        go_ret
        exact ⟨ret_bool (by rw [← HA.out, ← HC.out]), rfl⟩
      · have hb : ((y : Int) == x) = false := by simp [hxy]
        rw [decide_eq_false hxy, Bool.false_or] at HC
        clear hxy
        go_wp2
        go_round
        case rel => exact ⟨k + 1, by go_num, by omega, HC.out⟩
        case measure => simp [intOf]; omega
    · have h1 := HC.out
      rw [List.drop_of_length_le (by rw [HN.out]; omega)] at h1
      have H1 : Hid (false = inB l x) := h1
      clear h1
      go_wp2
      go_ret
      exact ⟨ret_bool (by rw [← HA.out, ← H1.out]), rfl⟩
end Go.Proofs.YtfgkkhcoidegdabDoor
