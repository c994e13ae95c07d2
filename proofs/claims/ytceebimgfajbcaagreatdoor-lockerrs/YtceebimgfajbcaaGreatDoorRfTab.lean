/-
  The reference's Entry, Needs, by contracts; what is appended onto a row of the call's own, read.
-/
import Derived.Test.YtceebimgfajbcaaGreatDoorJoin5
import Derived.Test.YtceebimgfajbcaaGreatDoorTbEntry
import Derived.Test.YtceebimgfajbcaaGreatDoorJoin3
import Derived.Test.YtceebimgfajbcaaGreatDoorLyFork
import Derived.Test.YtceebimgfajbcaaGreatDoorOwBase
import Derived.Laws.OwnMore
namespace Go.Proofs.YtceebimgfajbcaaGreatDoor
open Go.RowKit

theorem infoND : (Tryz.prog.info? 96).map (fun i => (i.zero, i.size, i.bytes)) = some (some (.agg #[.int .i64 0, .bool false]), 2, 16) := by kernel_rfl
theorem cells_nd (l : List (Int × Bool)) : ∀ u ∈ l.flatMap nC, u.oneCell' = true := by
  intro u hu
  obtain ⟨x, _, h⟩ := List.mem_flatMap.1 hu
  simp [nC] at h
  rcases h with h | h <;> subst h <;> rfl
/-- A row that is read, appended onto one of the call's own. -/
theorem append_rd {P : Program} {w : World} (base : Nat) (t ty e : TypeId) (i : TypeInfo) (z : Value) (size bytes : Nat) (ht : P.underlying t = some (.slice e)) (hi : P.info? e = some i) (hz : i.zero = some z) (hsize : i.size = size) (hby : i.bytes = bytes) (hzs : z.cells.size = size) (hsz : 0 < size)
    {α : Type} {cs : α → List Value} (hcs : ∀ x, (cs x).length = size) (h1 : ∀ (l : List α), ∀ u ∈ l.flatMap cs, u.oneCell' = true) (v : Value) (n : Nat) (xs : List Value) (hown : w.ownsRow base e size v n xs) (o : Option Addr) (m c : Nat) (l : List α) (hr : rowAt w (.slice o m c) size cs l)
    (h63 : n + m ≤ maxLen) (hbytes : (n + m) * bytes ≤ 140737488355328) (hbase : base ≤ w.heap.size) :
    ∃ v' w', (Builtin.append_ #[t, t] ty #[v, .slice o m c]).run P w = .ok v' w' ∧ w'.ownsRow base e size v' (n + m) (xs ++ l.flatMap cs) ∧ Below base w w' := by
  have hm := row_len hr
  have hlt : ∀ g, v.ownBlock = some g → base ≤ g := fun g hg => (hown.lt g hg).1
  cases o with
  | none =>
    obtain ⟨rfl, hn⟩ := row_none (by rw [hm] at hr; exact hr)
    obtain rfl : m = 0 := by rw [hm]; rfl
    refine ⟨v, w, ?_, by simpa using hown, Below.refl _ _⟩
    rcases hown.2 with ⟨rfl, rfl⟩ | ⟨g, cap, cur, rfl, _, _, hnc, _⟩
    · simp [Builtin.append_, run_underlying ht, sizeOf, typeInfo, hi, Builtin.lenOf, Builtin.firstCells]
    · simp [Builtin.append_, run_underlying ht, sizeOf, typeInfo, hi, Builtin.lenOf, Builtin.firstCells, hnc, storeCells]
  | some a =>
    have hc := row_some hcs hsz hr
    obtain ⟨v', w', e1, e2, e3, _, _⟩ := run_append_own_at (P := P) (w := w) base t ty e i z size bytes ht hi hz hsize hby hzs hsz v n xs hown a m c (l.flatMap cs) (by rw [flat_lenG hcs, hm]) hc (h1 l) h63 hbytes hbase
    exact ⟨v', w', e1, e2, (Below.refl base w).grown e3 hbase hlt⟩

end Go.Proofs.YtceebimgfajbcaaGreatDoor
