/-
  A law's row of acts, three numbers each, opened.
-/
import Derived.Test.YthmbpohebcnehaaDoorLawInts
import Derived.Deep.Slices
import Derived.Deep.Strs
namespace Go.Proofs.YthmbpohebcnehaaDoor
open Go.ChangeShapes Go.WideShapes Go.ChangeAt Go.RowKit

theorem map_three {α β : Type} (g : α → β) : ∀ (l : List α) (a b c : β), l.map g = [a, b, c] → ∃ p q r, l = [p, q, r] ∧ g p = a ∧ g q = b ∧ g r = c
  | [p, q, r], a, b, c, h => by simp at h; exact ⟨p, q, r, rfl, h⟩
theorem fieldsAct : (Tryd.prog.fieldsOf 37).toList.map (fun f => (f.name, f.type, f.offset)) = [("Kind", 3, 0), ("N", 3, 1), ("Drive", 3, 2)] := by kernel_rfl
theorem underAct : Tryd.prog.underlying 37 = some (.struct (Tryd.prog.fieldsOf 37)) := by kernel_rfl
set_option maxRecDepth 100000 in
theorem fieldsAct3 : ∃ f0 f1 f2 : Field, Tryd.prog.underlying 37 = some (.struct #[f0, f1, f2]) ∧ f0.type = 3 ∧ f1.type = 3 ∧ f2.type = 3 ∧ f0.offset = 0 ∧ f1.offset = 1 ∧ f2.offset = 2 := by
  obtain ⟨f0, f1, f2, hfs, h0, h1, h2⟩ := map_three _ _ _ _ _ fieldsAct
  simp only [Prod.mk.injEq] at h0 h1 h2
  refine ⟨f0, f1, f2, ?_, h0.2.1, h1.2.1, h2.2.1, h0.2.2, h1.2.2, h2.2.2⟩
  rw [underAct]
  congr 2
  exact Array.ext' hfs
theorem cellsOfInt : Tryd.prog.cellsOf 3 = 1 := by kernel_rfl
theorem cellsOfAct : Tryd.prog.cellsOf 37 = 3 := by kernel_rfl
theorem list_three {α : Type} : ∀ (l : List α), l.length = 3 → ∃ a b c, l = [a, b, c]
  | [a, b, c], _ => ⟨a, b, c, rfl⟩
set_option maxRecDepth 100000 in
theorem open_act {H : Type} {enc : TypeId × Value → H} {W : World} {base : Nat} {spare : Nat → Bool} {held : Bool} {fuel : Nat} {cs : List Value} {x : DataW H × List MemPlace}
    (h : DataW.trod enc Tryd.prog W base spare held fuel 37 cs = some x) : ∃ t : Int × Int × Int, cs = [.int .i64 t.1, .int .i64 t.2.1, .int .i64 t.2.2] := by
  obtain ⟨f0, f1, f2, hu, t0, t1, t2, o0, o1, o2⟩ := fieldsAct3
  obtain ⟨y0, y1, y2, n, rfl, hl, h0, h1, h2⟩ := Deep.trod_struct3 hu h
  rw [cellsOfAct] at hl
  obtain ⟨a, b, c, rfl⟩ := list_three cs hl
  rw [t0, o0, cellsOfInt] at h0
  rw [t1, o1, cellsOfInt] at h1
  rw [t2, o2, cellsOfInt] at h2
  simp only [List.drop_zero, List.drop_succ_cons, List.take_succ_cons, List.take_zero] at h0 h1 h2
  obtain ⟨k, e0, rfl, _⟩ := DataW.trod_int Tryd.underlying3 h0
  obtain ⟨q, e1, rfl, _⟩ := DataW.trod_int Tryd.underlying3 h1
  obtain ⟨s, e2, rfl, _⟩ := DataW.trod_int Tryd.underlying3 h2
  refine ⟨(k, q, s), ?_⟩
  rw [List.singleton_inj] at e0 e1 e2
  rw [e0, e1, e2]
def hasActs (w : World) (oa : Option Addr) (ls : List (Int × Int × Int)) : Prop := ∀ j x, ls[j]? = some x → ∃ b off, oa = some ⟨b, off, none⟩ ∧ w.cell? ⟨b, off + j * 3, none⟩ = some (.int .i64 x.1) ∧ w.cell? ⟨b, off + j * 3 + 1, none⟩ = some (.int .i64 x.2.1) ∧ w.cell? ⟨b, off + j * 3 + 2, none⟩ = some (.int .i64 x.2.2)
set_option maxRecDepth 100000 in
theorem open_acts {H : Type} {enc : TypeId × Value → H} {W : World} {fuel : Nat} {oa : Option Addr} {len cap : Nat} {x : DataW H × List MemPlace}
    (h : DataW.trod enc Tryd.prog W 0 (fun _ => true) true fuel 27 [.slice oa len cap] = some x) :
    ∃ l : List (Int × Int × Int), l.length = len ∧ len ≤ maxLen ∧ hasActs W oa l := by
  rcases Deep.open_slice Tryd.underlying27 h with ⟨hcs, _⟩ | ⟨a, len', cap', m, n, D, Pl, hcs, _, hl, hm, hmm, rfl, hx⟩
  · simp at hcs
    obtain ⟨rfl, rfl, rfl⟩ := hcs
    exact ⟨[], rfl, by unfold maxLen; omega, fun j y hj => by simp at hj⟩
  · simp at hcs
    obtain ⟨rfl, rfl, rfl⟩ := hcs
    simp only [if_true] at hmm
    subst hmm
    rw [cellsOfAct] at hx
    have each : ∀ i, i < m → ∃ t : Int × Int × Int, W.cell? (a.add (i * 3)) = some (.int .i64 t.1) ∧ W.cell? (a.add (i * 3 + 1)) = some (.int .i64 t.2.1) ∧ W.cell? (a.add (i * 3 + 2)) = some (.int .i64 t.2.2) := by
      intro i hi
      obtain ⟨cs', h1, h2⟩ := hx i hi
      obtain ⟨t, rfl⟩ := open_act h2
      obtain ⟨_, hlen, hcell⟩ := World.cells?_some h1
      have e0 := hcell 0 (by omega)
      have e1 := hcell 1 (by omega)
      have e2 := hcell 2 (by omega)
      rw [Deep.add_add] at e0 e1 e2
      exact ⟨t, by simpa using e0, by simpa using e1, by simpa using e2⟩
    obtain ⟨T, hT⟩ := Deep.choose_lt each
    refine ⟨(List.range len).map T, by simp, by omega, fun j y hj => ?_⟩
    have hj' : j < len := by
      have := (List.getElem?_eq_some_iff.1 hj).1
      simpa using this
    have ey : T j = y := by simpa [List.getElem?_range hj'] using hj
    subst ey
    obtain ⟨k1, k2, k3⟩ := hT j (by omega)
    obtain ⟨blk, off, spot⟩ := a
    have hspot : spot = none := by
      obtain ⟨z1, _⟩ := hT 0 (by omega)
      simpa [Addr.add] using World.cell?_spot z1
    subst hspot
    have ea : ∀ o, (⟨blk, off, none⟩ : Addr).add o = ⟨blk, off + o, none⟩ := fun o => by unfold Addr.add; split <;> simp_all
    rw [ea] at k1 k2 k3
    exact ⟨blk, off, rfl, k1, k2, k3⟩
end Go.Proofs.YthmbpohebcnehaaDoor
