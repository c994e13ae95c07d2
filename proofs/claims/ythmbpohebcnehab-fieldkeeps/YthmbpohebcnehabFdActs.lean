/-
  Package field: Train, Stick, mayDrive, Step, by contracts.
-/
import Derived.Test.YthmbpohebcnehabFdLeaf
namespace Go.Proofs.Ythmbpohebcnehab
open Go.RowKit

def trainF (occ : List Bool) (i : Int) : Int × List Bool := if 0 ≤ i ∧ i < (occ.length : Nat) then (0, occ.set i.toNat (!(occ.getD i.toNat false))) else (5, occ)
def stickF (pts : List Pt) (i : Int) : Int × List Pt := if 0 ≤ i ∧ i < (pts.length : Nat) then (0, pts.set i.toNat (restF 0)) else (5, pts)


/-- Are these as many positions? -/
def mayDrB (n : Nat) (d : List Int) : Bool := decide (d.length = n) && !(d.any noPos)

set_option maxRecDepth 1000000 in
set_option maxHeartbeats 8000000 in
theorem mayDrive_any (B fb bo bp : Nat) (occ : List Bool) (pts : List Pt) (v : Value) (d : List Int) (w : World) (h : FdAt w B fb bo bp occ pts) (hd : rowAt w v 1 iC d) (hl : d.length ≤ 4294967296) :
    Calls Try.prog 12 #[.pointer (some ⟨fb, 0, none⟩), v] w fun e w' => e = .returned (.bool (mayDrB pts.length d)) ∧ Below w.heap.size w w' := by
  have C := containsFdPos_any v d noPos w hd hl fun x W _ _ => isNoPos_any x W
  obtain ⟨x0, x1⟩ := h.cells
  obtain ⟨o, c, rfl, _⟩ := hd
  have hfew := h.few.2
  unfold mayDrB
  clear h
  generalize d.any noPos = an at *
  generalize hm : d.length = m at *
  generalize hn : pts.length = n at *
  clear hm hn
  by_cases hmn : m = n
  · subst hmn
    go_enter Try.func12, Try.ntmps12
    go_wp2_with fail
    refine C.mono ?_
    rintro e w1 ⟨rfl, hb⟩
    go_wp2
    go_ret
    exact ⟨ret_bool (by simp), hb⟩
  · have hq : ((m : Int) == (n : Int)) = false := by simp; omega
    have hq2 : decide (m = n) = false := decide_eq_false hmn
    rw [hq2]
    clear hmn hq2
    go_enter Try.func12, Try.ntmps12
    go_wp2
    go_ret
    exact ⟨rfl, Below.refl _ _⟩
end Go.Proofs.Ythmbpohebcnehab
