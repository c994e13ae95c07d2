/-
  Rows of numbers, of bools, of acts of three numbers among the arguments of a law.
-/
import Derived.Test.YtfllogbpbldibaaFlBase
import Derived.ProofKit
import Derived.OpenShut
import Derived.ChangeOld
import Derived.SizedLaws
import Derived.Carry
import Derived.Deep.Slices
import Derived.Deep.Strs
import Derived.Lib.SmallJoins
namespace Go.Proofs.Ytfllogbpbldibaa
open Go.ChangeShapes Go.WideShapes Go.ChangeAt Go.RowKit

theorem flaidOut : laidOutB Try.prog = true := by kernel_rfl
theorem fmaps_three {α β : Type} (g : α → β) : ∀ (l : List α) (a b c : β), l.map g = [a, b, c] → ∃ p q r, l = [p, q, r] ∧ g p = a ∧ g q = b ∧ g r = c
  | [p, q, r], a, b, c, h => by simp at h; exact ⟨p, q, r, rfl, h⟩
theorem flist_3 {α : Type} : ∀ (l : List α), l.length = 3 → ∃ a b c, l = [a, b, c]
  | [a, b, c], _ => ⟨a, b, c, rfl⟩
theorem cells_of_int : Try.prog.cellsOf 3 = 1 := by kernel_rfl
theorem cells_of_bool : Try.prog.cellsOf 4 = 1 := by kernel_rfl
/-- A slice of so many, with so much room. -/
def OkSl (oa : Option Addr) (n c : Nat) : Prop := n ≤ maxLen ∧ n ≤ c ∧ (oa = none → c = 0)
def wfI (n : Int) : Prop := (Lit.int .i64 n).wf = true
def bC (x : Bool) : List Value := [.bool x]
/-- An act: kind, unit, number. -/
abbrev Ac := Int × Int × Int
def acC (x : Ac) : List Value := [.int .i64 x.1, .int .i64 x.2.1, .int .i64 x.2.2]
theorem i64_and15 (n : Int) : bits .and .i64 n 15 = n % 16 := by
  have h1 : (BitVec.ofInt 64 15).toNat = 2 ^ 4 - 1 := by decide
  have key : (BitVec.ofInt 64 n &&& BitVec.ofInt 64 15).toNat = (n % ((2 ^ 64 : Nat) : Int)).toNat % 2 ^ 4 := by
    rw [BitVec.toNat_and, BitVec.toNat_ofInt, h1, Nat.and_two_pow_sub_one_eq_mod]
  show IntKind.i64.wrap ((BitVec.ofInt 64 n &&& BitVec.ofInt 64 15).toNat : Nat) = n % 16
  rw [key, IntKind.wrap_i64]
  omega
theorem i64_and65535 (n : Int) : bits .and .i64 n 65535 = n % 65536 := by
  have h1 : (BitVec.ofInt 64 65535).toNat = 2 ^ 16 - 1 := by decide
  have key : (BitVec.ofInt 64 n &&& BitVec.ofInt 64 65535).toNat = (n % ((2 ^ 64 : Nat) : Int)).toNat % 2 ^ 16 := by
    rw [BitVec.toNat_and, BitVec.toNat_ofInt, h1, Nat.and_two_pow_sub_one_eq_mod]
  show IntKind.i64.wrap ((BitVec.ofInt 64 n &&& BitVec.ofInt 64 65535).toNat : Nat) = n % 65536
  rw [key, IntKind.wrap_i64]
  omega
theorem i64_and1 (n : Int) : bits .and .i64 n 1 = n % 2 := by
  have h1 : (BitVec.ofInt 64 1).toNat = 2 ^ 1 - 1 := by decide
  have key : (BitVec.ofInt 64 n &&& BitVec.ofInt 64 1).toNat = (n % ((2 ^ 64 : Nat) : Int)).toNat % 2 ^ 1 := by
    rw [BitVec.toNat_and, BitVec.toNat_ofInt, h1, Nat.and_two_pow_sub_one_eq_mod]
  show IntKind.i64.wrap ((BitVec.ofInt 64 n &&& BitVec.ofInt 64 1).toNat : Nat) = n % 2
  rw [key, IntKind.wrap_i64]
  omega
section
variable {H : Type} {enc : TypeId × Value → H} {W : World}
set_option maxRecDepth 100000 in
theorem open_rowG {α : Type} [Inhabited α] (cs : α → List Value) (c : Nat) (Q : α → Prop) {ts te : TypeId} (hu : Try.prog.underlying ts = some (.slice te)) (hc : Try.prog.cellsOf te = c) (hs : ∀ x, (cs x).length = c) (h1 : 0 < c)
    (one : ∀ (fuel : Nat) (l : List Value) (x : DataW H × List MemPlace), DataW.trod enc Try.prog W 0 (fun _ => true) true fuel te l = some x → ∃ t, l = cs t ∧ Q t)
    {fuel : Nat} {oa : Option Addr} {len cap : Nat} {x : DataW H × List MemPlace} (h : DataW.trod enc Try.prog W 0 (fun _ => true) true fuel ts [.slice oa len cap] = some x) :
    ∃ l : List α, l.length = len ∧ OkSl oa len cap ∧ rowAt W (.slice oa len cap) c cs l ∧ ∀ y ∈ l, Q y := by
  rcases Deep.open_slice hu h with ⟨hcs, _⟩ | ⟨a, len', cap', m, n, D, Pl, hcs, _, hl, hm, hmm, rfl, hx⟩
  · simp at hcs
    obtain ⟨rfl, rfl, rfl⟩ := hcs
    exact ⟨[], rfl, ⟨by unfold maxLen; omega, Nat.le_refl _, fun _ => rfl⟩, rowAt.nil _ _ _, fun y hy => by cases hy⟩
  · simp at hcs
    obtain ⟨rfl, rfl, rfl⟩ := hcs
    simp only [if_true] at hmm
    subst hmm
    rw [hc] at hx
    have each : ∀ i, i < m → ∃ t : α, (∀ k u, (cs t)[k]? = some u → W.cell? (a.add (i * c + k)) = some u) ∧ Q t := by
      intro i hi
      obtain ⟨cs', h1, h2⟩ := hx i hi
      obtain ⟨t, rfl, hq⟩ := one _ _ _ h2
      obtain ⟨_, hlen, hcell⟩ := World.cells?_some h1
      refine ⟨t, fun k u hk => ?_, hq⟩
      have hlt : k < (cs t).length := (List.getElem?_eq_some_iff.1 hk).1
      have e0 := hcell k (by rw [hs] at hlt; exact hlt)
      rw [Deep.add_add] at e0
      exact e0.trans hk
    obtain ⟨T, hT⟩ := Deep.choose_lt each
    refine ⟨(List.range len).map T, by simp, ⟨by omega, by omega, fun e => by cases e⟩, ⟨some a, _, by rw [List.length_map, List.length_range], fun j y hj => ?_⟩, fun y hy => ?_⟩
    · have hj' : j < len := by
        have := (List.getElem?_eq_some_iff.1 hj).1
        simpa using this
      have ey : T j = y := by simpa [List.getElem?_range hj'] using hj
      subst ey
      obtain ⟨blk, off, spot⟩ := a
      have hspot : spot = none := by
        have hlt : 0 < (cs (T 0)).length := by rw [hs]; exact h1
        have z1 := (hT 0 (by omega)).1 0 _ (List.getElem?_eq_getElem hlt)
        simpa [Addr.add] using World.cell?_spot z1
      subst hspot
      refine ⟨blk, off, rfl, fun i u hu => ?_⟩
      have ea : ∀ o, (⟨blk, off, none⟩ : Addr).add o = ⟨blk, off + o, none⟩ := fun o => by unfold Addr.add; split <;> simp_all
      have := (hT j (by omega)).1 i u hu
      rw [ea] at this
      rw [Nat.add_assoc]
      exact this
    · obtain ⟨i, hi, rfl⟩ := List.mem_map.1 hy
      exact (hT i (by have := List.mem_range.1 hi; omega)).2
theorem open_intr {fuel : Nat} {oa : Option Addr} {len cap : Nat} {x : DataW H × List MemPlace} (h : DataW.trod enc Try.prog W 0 (fun _ => true) true fuel 23 [.slice oa len cap] = some x) :
    ∃ l : List Int, l.length = len ∧ OkSl oa len cap ∧ rowAt W (.slice oa len cap) 1 iC l ∧ ∀ y ∈ l, wfI y :=
  open_rowG iC 1 wfI Try.underlying23 cells_of_int (fun _ => rfl) (by omega) (fun fuel l x hx => by
    obtain ⟨k, e, rfl, hw⟩ := DataW.trod_int Try.underlying3 hx
    exact ⟨k, e, hw⟩) h
theorem open_boolr {fuel : Nat} {oa : Option Addr} {len cap : Nat} {x : DataW H × List MemPlace} (h : DataW.trod enc Try.prog W 0 (fun _ => true) true fuel 37 [.slice oa len cap] = some x) :
    ∃ l : List Bool, l.length = len ∧ OkSl oa len cap ∧ rowAt W (.slice oa len cap) 1 bC l ∧ ∀ y ∈ l, y = y :=
  open_rowG bC 1 (fun y => y = y) Try.underlying37 cells_of_bool (fun _ => rfl) (by omega) (fun fuel l x hx => by
    obtain ⟨k, e, _⟩ := DataW.trod_bool Try.underlying4 hx
    exact ⟨k, e, rfl⟩) h
end
theorem row_bool {w : World} {o : Option Addr} {n c : Nat} {l : List Bool} (h : rowAt w (.slice o n c) 1 bC l) : ∀ j x, l[j]? = some x → ∃ g off, o = some ⟨g, off, none⟩ ∧ w.cell? ⟨g, off + j, none⟩ = some (.bool x) := fun j x hj => by
  obtain ⟨o', c', e, h2⟩ := h
  injection e with e1 e2 e3
  obtain ⟨g, off, e4, hc⟩ := h2 j x hj
  exact ⟨g, off, e1.trans e4, by simpa using hc 0 _ rfl⟩
end Go.Proofs.Ytfllogbpbldibaa
