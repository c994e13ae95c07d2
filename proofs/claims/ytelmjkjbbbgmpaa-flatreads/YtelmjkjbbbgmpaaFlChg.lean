/-
  The law's changes: are two rows of changes one? where they are: by a contract.
-/
import Derived.Test.YtelmjkjbbbgmpaaFlApply
namespace Go.Proofs.Ytelmjkjbbbgmpaa
open Go.RowKit

set_option maxRecDepth 1000000 in
set_option maxHeartbeats 2000000 in
theorem changes_eq (va vb : Value) (l : List Ch) (w : World) (h : rowAt w va 2 chC l) (hb : rowAt w vb 2 chC l) (hl : l.length ≤ 4294967296) :
    Calls Try.prog 18 #[va, vb] w fun e w' => e = .returned (.bool true) ∧ ∃ q, w' = w.drewN q := by
  obtain ⟨oa, ca, rfl, h2⟩ := h
  obtain ⟨ob, cb, rfl, h3⟩ := hb
  have H2 : Hid (∀ j y, l[j]? = some y → ∃ g off, oa = some ⟨g, off, none⟩ ∧ ∀ i u, (chC y)[i]? = some u → w.cell? ⟨g, off + j * 2 + i, none⟩ = some u) := h2
  have H3 : Hid (∀ j y, l[j]? = some y → ∃ g off, ob = some ⟨g, off, none⟩ ∧ ∀ i u, (chC y)[i]? = some u → w.cell? ⟨g, off + j * 2 + i, none⟩ = some u) := h3
  clear h2 h3
  generalize hn : l.length = n at *
  have HN : Hid (l.length = n) := hn
  clear hn
  go_enter Try.func18, Try.ntmps18
  go_wp2
  go_loopg [5] n (fun gk i wr => ∃ k q : Nat, gk = n - k ∧ i = .int .i64 k ∧ k ≤ n ∧ wr = w.drewN q)
  case atStart => exact ⟨0, 0, rfl, rfl, by omega, rfl⟩
  case round =>
    obtain ⟨k, q, rfl, rfl, hk, rfl⟩ := hrel
    by_cases hlt : k < n
    · obtain ⟨⟨y1, y2⟩, hy⟩ := at_of (l := l) (k := k) (by rw [HN.out]; exact hlt)
      obtain ⟨g, off, rfl, hcell⟩ := H2.out k _ hy
      obtain ⟨g', off', rfl, hcell'⟩ := H3.out k _ hy
      have hki : (k : Int) < (n : Int) := by omega
      have a0 := hcell 0 _ rfl
      have a1 := hcell 1 _ rfl
      have b0 := hcell' 0 _ rfl
      have b1 := hcell' 1 _ rfl
      rw [Nat.add_zero] at a0 b0
      clear hcell hcell' hy
      have hEQ := run_neqCh y1 y2 y1 y2
      rw [decide_eq_true ⟨rfl, rfl⟩] at hEQ
      have hgd := eqGuardCh
      go_wp2_with fail
      go_quiet (fail)
      go_wp2
      go_roundg (n - (k + 1))
      case rel => exact ⟨k + 1, q + nq, rfl, by go_num, by omega, rfl⟩
      case measure => omega
    · go_wp2
      go_ret
      exact ⟨rfl, _, rfl⟩
/-- The law's end: two rows of numbers that are one, and known. -/
theorem below_drew_known {w w3 w4 : World} (n : Nat) (h : Below w.heap.size w w3) (hk : Below (w3.drewN n).heap.size (w3.drewN n) w4) : Below w.heap.size w w4 := by
  have h4 := h.trans ((_root_.Go.below_drewN (Below.refl _ w3) n).mono h.size)
  exact h4.trans (hk.mono h4.size)
theorem ints_same (va vb : Value) (xs : List Int) (w : World) (ha : rowAt w va 1 iC xs) (hb : rowAt w vb 1 iC xs) (hn : xs.length ≤ 4294967296) :
    Calls Try.prog 11 #[va, vb] w fun e w' => e = .returned (.bool true) ∧ ∃ n, w' = w.drewN n := by
  have := refInts_any va vb xs xs w ha hb hn
  rw [decide_eq_true rfl] at this
  exact this
end Go.Proofs.Ytelmjkjbbbgmpaa
