/-
  Rows of numbers, of bools, of acts of three numbers among the arguments of a law.
-/
import Derived.Test.YtmnhlnhocnchpaaFlBase
import Derived.ProofKit
import Derived.OpenShut
import Derived.ChangeOld
import Derived.SizedLaws
import Derived.Carry
import Derived.Deep.Slices
import Derived.Deep.Strs
import Derived.Lib.SmallJoins
namespace Go.Proofs.Ytmnhlnhocnchpaa
open Go.ChangeShapes Go.WideShapes Go.ChangeAt Go.RowKit

theorem flaidOut : laidOutB Try.prog = true := by kernel_rfl
theorem fmaps_three {α β : Type} (g : α → β) : ∀ (l : List α) (a b c : β), l.map g = [a, b, c] → ∃ p q r, l = [p, q, r] ∧ g p = a ∧ g q = b ∧ g r = c
  | [p, q, r], a, b, c, h => by simp at h; exact ⟨p, q, r, rfl, h⟩
theorem flist_3 {α : Type} : ∀ (l : List α), l.length = 3 → ∃ a b c, l = [a, b, c]
  | [a, b, c], _ => ⟨a, b, c, rfl⟩
theorem cells_of_int : Try.prog.cellsOf 3 = 1 := by kernel_rfl
theorem cells_of_bool : Try.prog.cellsOf 4 = 1 := by kernel_rfl
/-- A slice of so many, with so much room. -/
def OkSl (oa : Option Addr) (n c : Nat) : Prop := n ≤ maxLen ∧ n ≤ c ∧ (oa = none → c = 0)
def wfI (n : Int) : Prop := (Lit.int .i64 n).wf = true
def bC (x : Bool) : List Value := [.bool x]
/-- An act: kind, unit, number. -/
abbrev Ac := Int × Int × Int
def acC (x : Ac) : List Value := [.int .i64 x.1, .int .i64 x.2.1, .int .i64 x.2.2]
theorem i64_and15 (n : Int) : bits .and .i64 n 15 = n % 16 := by
  have h1 : (BitVec.ofInt 64 15).toNat = 2 ^ 4 - 1 := by decide
  have key : (BitVec.ofInt 64 n &&& BitVec.ofInt 64 15).toNat = (n % ((2 ^ 64 : Nat) : Int)).toNat % 2 ^ 4 := by
    rw [BitVec.toNat_and, BitVec.toNat_ofInt, h1, Nat.and_two_pow_sub_one_eq_mod]
  show IntKind.i64.wrap ((BitVec.ofInt 64 n &&& BitVec.ofInt 64 15).toNat : Nat) = n % 16
  rw [key, IntKind.wrap_i64]
  omega
theorem i64_and65535 (n : Int) : bits .and .i64 n 65535 = n % 65536 := by
  have h1 : (BitVec.ofInt 64 65535).toNat = 2 ^ 16 - 1 := by decide
  have key : (BitVec.ofInt 64 n &&& BitVec.ofInt 64 65535).toNat = (n % ((2 ^ 64 : Nat) : Int)).toNat % 2 ^ 16 := by
    rw [BitVec.toNat_and, BitVec.toNat_ofInt, h1, Nat.and_two_pow_sub_one_eq_mod]
  show IntKind.i64.wrap ((BitVec.ofInt 64 n &&& BitVec.ofInt 64 65535).toNat : Nat) = n % 65536
  rw [key, IntKind.wrap_i64]
  omega
theorem i64_and1 (n : Int) : bits .and .i64 n 1 = n % 2 := by
  have h1 : (BitVec.ofInt 64 1).toNat = 2 ^ 1 - 1 := by decide
  have key : (BitVec.ofInt 64 n &&& BitVec.ofInt 64 1).toNat = (n % ((2 ^ 64 : Nat) : Int)).toNat % 2 ^ 1 := by
    rw [BitVec.toNat_and, BitVec.toNat_ofInt, h1, Nat.and_two_pow_sub_one_eq_mod]
  show IntKind.i64.wrap ((BitVec.ofInt 64 n &&& BitVec.ofInt 64 1).toNat : Nat) = n % 2
  rw [key, IntKind.wrap_i64]
  omega
section
variable {H : Type} {enc : TypeId × Value → H} {W : World}
set_option maxRecDepth 100000 in
theorem open_rowG {α : Type} [Inhabited α] (cs : α → List Value) (c : Nat) (Q : α → Prop) {ts te : TypeId} (hu : Try.prog.underlying ts = some (.slice te)) (hc : Try.prog.cellsOf te = c) (hs : ∀ x, (cs x).length = c) (h1 : 0 < c)
    (one : ∀ (fuel : Nat) (l : List Value) (x : DataW H × List MemPlace), DataW.trod enc Try.prog W 0 (fun _ => true) true fuel te l = some x → ∃ t, l = cs t ∧ Q t)
    {fuel : Nat} {oa : Option Addr} {len cap : Nat} {x : DataW H × List MemPlace} (h : DataW.trod enc Try.prog W 0 (fun _ => true) true fuel ts [.slice oa len cap] = some x) :
    ∃ l : List α, l.length = len ∧ OkSl oa len cap ∧ rowAt W (.slice oa len cap) c cs l ∧ ∀ y ∈ l, Q y := by
  rcases Deep.open_slice hu h with ⟨hcs, _⟩ | ⟨a, len', cap', m, n, D, Pl, hcs, _, hl, hm, hmm, rfl, hx⟩
  · simp at hcs
    obtain ⟨rfl, rfl, rfl⟩ := hcs
    exact ⟨[], rfl, ⟨by unfold maxLen; omega, Nat.le_refl _, fun _ => rfl⟩, rowAt.nil _ _ _, fun y hy => by cases hy⟩
  · simp at hcs
    obtain ⟨rfl, rfl, rfl⟩ := hcs
    simp only [if_true] at hmm
    subst hmm
    rw [hc] at hx
    have each : ∀ i, i < m → ∃ t : α, (∀ k u, (cs t)[k]? = some u → W.cell? (a.add (i * c + k)) = some u) ∧ Q t := by
      intro i hi
      obtain ⟨cs', h1, h2⟩ := hx i hi
      obtain ⟨t, rfl, hq⟩ := one _ _ _ h2
      obtain ⟨_, hlen, hcell⟩ := World.cells?_some h1
      refine ⟨t, fun k u hk => ?_, hq⟩
      have hlt : k < (cs t).length := (List.getElem?_eq_some_iff.1 hk).1
      have e0 := hcell k (by rw [hs] at hlt; exact hlt)
      rw [Deep.add_add] at e0
      exact e0.trans hk
    obtain ⟨T, hT⟩ := Deep.choose_lt each
    refine ⟨(List.range len).map T, by simp, ⟨by omega, by omega, fun e => by cases e⟩, ⟨some a, _, by rw [List.length_map, List.length_range], fun j y hj => ?_⟩, fun y hy => ?_⟩
    · have hj' : j < len := by
        have := (List.getElem?_eq_some_iff.1 hj).1
        simpa using this
      have ey : T j = y := by simpa [List.getElem?_range hj'] using hj
      subst ey
      obtain ⟨blk, off, spot⟩ := a
      have hspot : spot = none := by
        have hlt : 0 < (cs (T 0)).length := by rw [hs]; exact h1
        have z1 := (hT 0 (by omega)).1 0 _ (List.getElem?_eq_getElem hlt)
        simpa [Addr.add] using World.cell?_spot z1
      subst hspot
      refine ⟨blk, off, rfl, fun i u hu => ?_⟩
      have ea : ∀ o, (⟨blk, off, none⟩ : Addr).add o = ⟨blk, off + o, none⟩ := fun o => by unfold Addr.add; split <;> simp_all
      have := (hT j (by omega)).1 i u hu
      rw [ea] at this
      rw [Nat.add_assoc]
      exact this
    · obtain ⟨i, hi, rfl⟩ := List.mem_map.1 hy
      exact (hT i (by have := List.mem_range.1 hi; omega)).2
theorem open_intr {fuel : Nat} {oa : Option Addr} {len cap : Nat} {x : DataW H × List MemPlace} (h : DataW.trod enc Try.prog W 0 (fun _ => true) true fuel 43 [.slice oa len cap] = some x) :
    ∃ l : List Int, l.length = len ∧ OkSl oa len cap ∧ rowAt W (.slice oa len cap) 1 iC l ∧ ∀ y ∈ l, wfI y :=
  open_rowG iC 1 wfI Try.underlying43 cells_of_int (fun _ => rfl) (by omega) (fun fuel l x hx => by
    obtain ⟨k, e, rfl, hw⟩ := DataW.trod_int Try.underlying3 hx
    exact ⟨k, e, hw⟩) h
theorem fieldsAcO : (Try.prog.fieldsOf 28).toList.map (fun f => (f.type, f.offset)) = [(3, 0), (3, 1), (3, 2)] := by kernel_rfl
theorem underAcO : Try.prog.underlying 28 = some (.struct (Try.prog.fieldsOf 28)) := by kernel_rfl
theorem cells_of_ac : Try.prog.cellsOf 28 = 3 := by kernel_rfl
set_option maxRecDepth 100000 in
theorem open_ac {base : Nat} {spare : Nat → Bool} {held : Bool} (fuel : Nat) (cs : List Value) (x : DataW H × List MemPlace)
    (h : DataW.trod enc Try.prog W base spare held fuel 28 cs = some x) : ∃ s : Ac, cs = acC s ∧ (wfI s.1 ∧ wfI s.2.1 ∧ wfI s.2.2) := by
  obtain ⟨f0, f1, f2, hfs, h0, h1, h2⟩ := fmaps_three _ _ _ _ _ fieldsAcO
  have hu : Try.prog.underlying 28 = some (.struct #[f0, f1, f2]) := by
    rw [underAcO]
    congr 2
    exact Array.ext' hfs
  simp only [Prod.mk.injEq] at h0 h1 h2
  obtain ⟨y0, y1, y2, n, rfl, hl, g0, g1, g2⟩ := Deep.trod_struct3 hu h
  rw [cells_of_ac] at hl
  obtain ⟨a, b, c, rfl⟩ := flist_3 cs hl
  rw [h0.1, h0.2, cells_of_int] at g0
  rw [h1.1, h1.2, cells_of_int] at g1
  rw [h2.1, h2.2, cells_of_int] at g2
  simp only [List.drop_zero, List.drop_succ_cons, List.take_succ_cons, List.take_zero] at g0 g1 g2
  obtain ⟨k, e0, rfl, w0⟩ := DataW.trod_int Try.underlying3 g0
  obtain ⟨q, e1, rfl, w1⟩ := DataW.trod_int Try.underlying3 g1
  obtain ⟨r, e2, rfl, w2⟩ := DataW.trod_int Try.underlying3 g2
  rw [List.singleton_inj] at e0 e1 e2
  exact ⟨(k, q, r), by rw [e0, e1, e2]; rfl, w0, w1, w2⟩
theorem open_actr {fuel : Nat} {oa : Option Addr} {len cap : Nat} {x : DataW H × List MemPlace} (h : DataW.trod enc Try.prog W 0 (fun _ => true) true fuel 22 [.slice oa len cap] = some x) :
    ∃ l : List Ac, l.length = len ∧ OkSl oa len cap ∧ rowAt W (.slice oa len cap) 3 acC l ∧ ∀ y ∈ l, wfI y.1 ∧ wfI y.2.1 ∧ wfI y.2.2 :=
  open_rowG acC 3 (fun y => wfI y.1 ∧ wfI y.2.1 ∧ wfI y.2.2) Try.underlying22 cells_of_ac (fun _ => rfl) (by omega) (fun fuel l x hx => open_ac fuel l x hx) h
theorem row_act {w : World} {o : Option Addr} {n c : Nat} {l : List Ac} (h : rowAt w (.slice o n c) 3 acC l) : ∀ j x, l[j]? = some x → ∃ g off, o = some ⟨g, off, none⟩ ∧ w.cell? ⟨g, off + j * 3, none⟩ = some (.int .i64 x.1) ∧ w.cell? ⟨g, off + j * 3 + 1, none⟩ = some (.int .i64 x.2.1) ∧ w.cell? ⟨g, off + j * 3 + 2, none⟩ = some (.int .i64 x.2.2) := fun j x hj => by
  obtain ⟨o', c', e, h2⟩ := h
  injection e with e1 e2 e3
  obtain ⟨g, off, e4, hc⟩ := h2 j x hj
  exact ⟨g, off, e1.trans e4, by simpa using hc 0 _ rfl, hc 1 _ rfl, hc 2 _ rfl⟩
end
theorem row_bool {w : World} {o : Option Addr} {n c : Nat} {l : List Bool} (h : rowAt w (.slice o n c) 1 bC l) : ∀ j x, l[j]? = some x → ∃ g off, o = some ⟨g, off, none⟩ ∧ w.cell? ⟨g, off + j, none⟩ = some (.bool x) := fun j x hj => by
  obtain ⟨o', c', e, h2⟩ := h
  injection e with e1 e2 e3
  obtain ⟨g, off, e4, hc⟩ := h2 j x hj
  exact ⟨g, off, e1.trans e4, by simpa using hc 0 _ rfl⟩
end Go.Proofs.Ytmnhlnhocnchpaa
