/-
  A law's rows of numbers and bools, opened; two bits of a number.
-/
import Derived.Test.YtceebimgfajbcaaGreatDoorOwBase
import Derived.Deep.Grids
import Derived.ChangeOld
namespace Go.Proofs.YtceebimgfajbcaaGreatDoor
open Go.RowKit

theorem i64_and3 (n : Int) : bits .and .i64 n 3 = n % 4 := by
  have h3 : (BitVec.ofInt 64 3).toNat = 2 ^ 2 - 1 := by decide
  have key : (BitVec.ofInt 64 n &&& BitVec.ofInt 64 3).toNat = (n % ((2 ^ 64 : Nat) : Int)).toNat % 2 ^ 2 := by
    rw [BitVec.toNat_and, BitVec.toNat_ofInt, h3, Nat.and_two_pow_sub_one_eq_mod]
  show IntKind.i64.wrap ((BitVec.ofInt 64 n &&& BitVec.ofInt 64 3).toNat : Nat) = n % 4
  rw [key, IntKind.wrap_i64]
  omega
theorem i64_and1 (n : Int) : bits .and .i64 n 1 = n % 2 := by
  have h1 : (BitVec.ofInt 64 1).toNat = 2 ^ 1 - 1 := by decide
  have key : (BitVec.ofInt 64 n &&& BitVec.ofInt 64 1).toNat = (n % ((2 ^ 64 : Nat) : Int)).toNat % 2 ^ 1 := by
    rw [BitVec.toNat_and, BitVec.toNat_ofInt, h1, Nat.and_two_pow_sub_one_eq_mod]
  show IntKind.i64.wrap ((BitVec.ofInt 64 n &&& BitVec.ofInt 64 1).toNat : Nat) = n % 2
  rw [key, IntKind.wrap_i64]
  omega
def hasInts (w : World) (oa : Option Addr) (ls : List Int) : Prop := ∀ j x, ls[j]? = some x → ∃ b off, oa = some ⟨b, off, none⟩ ∧ w.cell? ⟨b, off + j, none⟩ = some (.int .i64 x)
/-- The address of a row one cell of which is there. -/
theorem addr_plain {W : World} {x : Addr} {v : Value} (h : W.cell? (x.add 0) = some v) : ∃ b off, x = ⟨b, off, none⟩ := by
  obtain ⟨b, off, spot⟩ := x
  have hs : spot = none := by simpa [Addr.add] using World.cell?_spot h
  subst hs
  exact ⟨b, off, rfl⟩
theorem addr_at (b off j : Nat) : (⟨b, off, none⟩ : Addr).add j = ⟨b, off + j, none⟩ := by unfold Addr.add; split <;> simp_all
theorem ints_of {W : World} {x : Addr} {len : Nat} {ss : List Int} (hl : len ≤ ss.length) (hcell : ∀ i, i < ss.length → W.cell? (x.add i) = some (.int .i64 (ss.getD i 0))) : (ss.take len).length = len ∧ hasInts W (some x) (ss.take len) := by
  refine ⟨by rw [List.length_take]; omega, fun j y hj => ?_⟩
  obtain ⟨h1, h2⟩ := List.getElem?_eq_some_iff.1 hj
  rw [List.length_take] at h1
  obtain ⟨b, off, rfl⟩ := addr_plain (hcell 0 (by omega))
  refine ⟨b, off, rfl, ?_⟩
  have := hcell j (by omega)
  rw [addr_at] at this
  rw [this, ← h2, List.getElem_take, List.getD_eq_getElem?_getD, List.getElem?_eq_getElem (by omega)]
  rfl
def hasBools (w : World) (oa : Option Addr) (ls : List Bool) : Prop := ∀ j x, ls[j]? = some x → ∃ b off, oa = some ⟨b, off, none⟩ ∧ w.cell? ⟨b, off + j, none⟩ = some (.bool x)
theorem bools_of {W : World} {x : Addr} {len cap : Nat} {B : Nat → Bool} (hl : len ≤ cap) (hcell : ∀ i, i < cap → W.cell? (x.add i) = some (.bool (B i))) : ((List.range len).map B).length = len ∧ hasBools W (some x) ((List.range len).map B) := by
  refine ⟨by simp, fun j y hj => ?_⟩
  obtain ⟨h1, h2⟩ := List.getElem?_eq_some_iff.1 hj
  have h1' : j < len := by simpa using h1
  obtain ⟨b, off, rfl⟩ := addr_plain (hcell 0 (by omega))
  refine ⟨b, off, rfl, ?_⟩
  have := hcell j (by omega)
  rw [addr_at] at this
  rw [this, ← h2]
  simp
end Go.Proofs.YtceebimgfajbcaaGreatDoor
