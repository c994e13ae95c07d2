/-
  Rows of numbers, of changes, of routes' states among the arguments of a law.
-/
import Derived.Test.YtelmjkjbbbgmpaaFlP
import Derived.ProofKit
import Derived.OpenShut
import Derived.ChangeOld
import Derived.SizedLaws
import Derived.Carry
import Derived.Deep.Slices
import Derived.Deep.Strs
import Derived.Lib.SmallJoins
namespace Go.Proofs.Ytelmjkjbbbgmpaa
open Go.ChangeShapes Go.WideShapes Go.ChangeAt Go.RowKit

theorem flaidOut : laidOutB Try.prog = true := by kernel_rfl
theorem fmaps_four {α β : Type} (g : α → β) : ∀ (l : List α) (a b c d : β), l.map g = [a, b, c, d] → ∃ p q r s, l = [p, q, r, s] ∧ g p = a ∧ g q = b ∧ g r = c ∧ g s = d
  | [p, q, r, s], a, b, c, d, h => by simp at h; exact ⟨p, q, r, s, rfl, h⟩
theorem fmaps_two {α β : Type} (g : α → β) : ∀ (l : List α) (a b : β), l.map g = [a, b] → ∃ p q, l = [p, q] ∧ g p = a ∧ g q = b
  | [p, q], a, b, h => by simp at h; exact ⟨p, q, rfl, h⟩
theorem flist_2 {α : Type} : ∀ (l : List α), l.length = 2 → ∃ a b, l = [a, b]
  | [a, b], _ => ⟨a, b, rfl⟩
theorem flist_4 {α : Type} : ∀ (l : List α), l.length = 4 → ∃ a b c d, l = [a, b, c, d]
  | [a, b, c, d], _ => ⟨a, b, c, d, rfl⟩
theorem cells_of_int : Try.prog.cellsOf 3 = 1 := by kernel_rfl
theorem cells_of_bool : Try.prog.cellsOf 4 = 1 := by kernel_rfl
/-- A slice of so many, with so much room. -/
def OkSl (oa : Option Addr) (n c : Nat) : Prop := n ≤ maxLen ∧ n ≤ c ∧ (oa = none → c = 0)
def wfI (n : Int) : Prop := (Lit.int .i64 n).wf = true
/-- How a route stands: its mode, its timer, how many sections are gone, whether the train was seen. -/
abbrev Rs := Int × Int × Int × Bool
def rsC (x : Rs) : List Value := [.int .i64 x.1, .int .i64 x.2.1, .int .i64 x.2.2.1, .bool x.2.2.2]
section
variable {H : Type} {enc : TypeId × Value → H} {W : World}
set_option maxRecDepth 100000 in
theorem open_rowG {α : Type} [Inhabited α] (cs : α → List Value) (c : Nat) (Q : α → Prop) {ts te : TypeId} (hu : Try.prog.underlying ts = some (.slice te)) (hc : Try.prog.cellsOf te = c) (hs : ∀ x, (cs x).length = c) (h1 : 0 < c)
    (one : ∀ (fuel : Nat) (l : List Value) (x : DataW H × List MemPlace), DataW.trod enc Try.prog W 0 (fun _ => true) true fuel te l = some x → ∃ t, l = cs t ∧ Q t)
    {fuel : Nat} {oa : Option Addr} {len cap : Nat} {x : DataW H × List MemPlace} (h : DataW.trod enc Try.prog W 0 (fun _ => true) true fuel ts [.slice oa len cap] = some x) :
    ∃ l : List α, l.length = len ∧ OkSl oa len cap ∧ rowAt W (.slice oa len cap) c cs l ∧ ∀ y ∈ l, Q y := by
  rcases Deep.open_slice hu h with ⟨hcs, _⟩ | ⟨a, len', cap', m, n, D, Pl, hcs, _, hl, hm, hmm, rfl, hx⟩
  · simp at hcs
    obtain ⟨rfl, rfl, rfl⟩ := hcs
    exact ⟨[], rfl, ⟨by unfold maxLen; omega, Nat.le_refl _, fun _ => rfl⟩, rowAt.nil _ _ _, fun y hy => by cases hy⟩
  · simp at hcs
    obtain ⟨rfl, rfl, rfl⟩ := hcs
    simp only [if_true] at hmm
    subst hmm
    rw [hc] at hx
    have each : ∀ i, i < m → ∃ t : α, (∀ k u, (cs t)[k]? = some u → W.cell? (a.add (i * c + k)) = some u) ∧ Q t := by
      intro i hi
      obtain ⟨cs', h1, h2⟩ := hx i hi
      obtain ⟨t, rfl, hq⟩ := one _ _ _ h2
      obtain ⟨_, hlen, hcell⟩ := World.cells?_some h1
      refine ⟨t, fun k u hk => ?_, hq⟩
      have hlt : k < (cs t).length := (List.getElem?_eq_some_iff.1 hk).1
      have e0 := hcell k (by rw [hs] at hlt; exact hlt)
      rw [Deep.add_add] at e0
      exact e0.trans hk
    obtain ⟨T, hT⟩ := Deep.choose_lt each
    refine ⟨(List.range len).map T, by simp, ⟨by omega, by omega, fun e => by cases e⟩, ⟨some a, _, by rw [List.length_map, List.length_range], fun j y hj => ?_⟩, fun y hy => ?_⟩
    · have hj' : j < len := by
        have := (List.getElem?_eq_some_iff.1 hj).1
        simpa using this
      have ey : T j = y := by simpa [List.getElem?_range hj'] using hj
      subst ey
      obtain ⟨blk, off, spot⟩ := a
      have hspot : spot = none := by
        have hlt : 0 < (cs (T 0)).length := by rw [hs]; exact h1
        have z1 := (hT 0 (by omega)).1 0 _ (List.getElem?_eq_getElem hlt)
        simpa [Addr.add] using World.cell?_spot z1
      subst hspot
      refine ⟨blk, off, rfl, fun i u hu => ?_⟩
      have ea : ∀ o, (⟨blk, off, none⟩ : Addr).add o = ⟨blk, off + o, none⟩ := fun o => by unfold Addr.add; split <;> simp_all
      have := (hT j (by omega)).1 i u hu
      rw [ea] at this
      rw [Nat.add_assoc]
      exact this
    · obtain ⟨i, hi, rfl⟩ := List.mem_map.1 hy
      exact (hT i (by have := List.mem_range.1 hi; omega)).2
theorem open_intr {fuel : Nat} {oa : Option Addr} {len cap : Nat} {x : DataW H × List MemPlace} (h : DataW.trod enc Try.prog W 0 (fun _ => true) true fuel 23 [.slice oa len cap] = some x) :
    ∃ l : List Int, l.length = len ∧ OkSl oa len cap ∧ rowAt W (.slice oa len cap) 1 iC l ∧ ∀ y ∈ l, wfI y :=
  open_rowG iC 1 wfI Try.underlying23 cells_of_int (fun _ => rfl) (by omega) (fun fuel l x hx => by
    obtain ⟨k, e, rfl, hw⟩ := DataW.trod_int Try.underlying3 hx
    exact ⟨k, e, hw⟩) h
theorem fieldsChO : (Try.prog.fieldsOf 65).toList.map (fun f => (f.type, f.offset)) = [(3, 0), (3, 1)] := by kernel_rfl
theorem underChO : Try.prog.underlying 65 = some (.struct (Try.prog.fieldsOf 65)) := by kernel_rfl
theorem cells_of_ch : Try.prog.cellsOf 65 = 2 := by kernel_rfl
set_option maxRecDepth 100000 in
theorem open_ch {base : Nat} {spare : Nat → Bool} {held : Bool} (fuel : Nat) (cs : List Value) (x : DataW H × List MemPlace)
    (h : DataW.trod enc Try.prog W base spare held fuel 65 cs = some x) : ∃ s : Ch, cs = chC s ∧ (wfI s.1 ∧ wfI s.2) := by
  obtain ⟨f0, f1, hfs, h0, h1⟩ := fmaps_two _ _ _ _ fieldsChO
  have hu : Try.prog.underlying 65 = some (.struct #[f0, f1]) := by
    rw [underChO]
    congr 2
    exact Array.ext' hfs
  simp only [Prod.mk.injEq] at h0 h1
  obtain ⟨y0, y1, n, rfl, hl, g0, g1⟩ := trod_struct2 hu h
  rw [cells_of_ch] at hl
  obtain ⟨a, b, rfl⟩ := flist_2 cs hl
  rw [h0.1, h0.2, cells_of_int] at g0
  rw [h1.1, h1.2, cells_of_int] at g1
  simp only [List.drop_zero, List.drop_succ_cons, List.take_succ_cons, List.take_zero] at g0 g1
  obtain ⟨k, e0, rfl, w0⟩ := DataW.trod_int Try.underlying3 g0
  obtain ⟨q, e1, rfl, w1⟩ := DataW.trod_int Try.underlying3 g1
  rw [List.singleton_inj] at e0 e1
  exact ⟨(k, q), by rw [e0, e1]; rfl, w0, w1⟩
theorem open_chsr {fuel : Nat} {oa : Option Addr} {len cap : Nat} {x : DataW H × List MemPlace} (h : DataW.trod enc Try.prog W 0 (fun _ => true) true fuel 31 [.slice oa len cap] = some x) :
    ∃ l : List Ch, l.length = len ∧ OkSl oa len cap ∧ rowAt W (.slice oa len cap) 2 chC l ∧ ∀ y ∈ l, wfI y.1 ∧ wfI y.2 :=
  open_rowG chC 2 (fun y => wfI y.1 ∧ wfI y.2) Try.underlying31 cells_of_ch (fun _ => rfl) (by omega) (fun fuel l x hx => open_ch fuel l x hx) h
theorem fieldsRsO : (Try.prog.fieldsOf 62).toList.map (fun f => (f.type, f.offset)) = [(3, 0), (3, 1), (3, 2), (4, 3)] := by kernel_rfl
theorem underRsO : Try.prog.underlying 62 = some (.struct (Try.prog.fieldsOf 62)) := by kernel_rfl
theorem cells_of_rs : Try.prog.cellsOf 62 = 4 := by kernel_rfl
set_option maxRecDepth 100000 in
theorem open_rso {base : Nat} {spare : Nat → Bool} {held : Bool} (fuel : Nat) (cs : List Value) (x : DataW H × List MemPlace)
    (h : DataW.trod enc Try.prog W base spare held fuel 62 cs = some x) : ∃ s : Rs, cs = rsC s ∧ (wfI s.1 ∧ wfI s.2.1 ∧ wfI s.2.2.1) := by
  obtain ⟨f0, f1, f2, f3, hfs, h0, h1, h2, h3⟩ := fmaps_four _ _ _ _ _ _ fieldsRsO
  have hu : Try.prog.underlying 62 = some (.struct #[f0, f1, f2, f3]) := by
    rw [underRsO]
    congr 2
    exact Array.ext' hfs
  simp only [Prod.mk.injEq] at h0 h1 h2 h3
  obtain ⟨y0, y1, y2, y3, n, rfl, hl, g0, g1, g2, g3⟩ := Go.Joins.trod_struct4 hu h
  rw [cells_of_rs] at hl
  obtain ⟨a, b, c, d, rfl⟩ := flist_4 cs hl
  rw [h0.1, h0.2, cells_of_int] at g0
  rw [h1.1, h1.2, cells_of_int] at g1
  rw [h2.1, h2.2, cells_of_int] at g2
  rw [h3.1, h3.2, cells_of_bool] at g3
  simp only [List.drop_zero, List.drop_succ_cons, List.take_succ_cons, List.take_zero] at g0 g1 g2 g3
  obtain ⟨k, e0, rfl, w0⟩ := DataW.trod_int Try.underlying3 g0
  obtain ⟨q, e1, rfl, w1⟩ := DataW.trod_int Try.underlying3 g1
  obtain ⟨r, e2, rfl, w2⟩ := DataW.trod_int Try.underlying3 g2
  obtain ⟨t, e3, rfl⟩ := DataW.trod_bool Try.underlying4 g3
  rw [List.singleton_inj] at e0 e1 e2 e3
  exact ⟨(k, q, r, t), by rw [e0, e1, e2, e3]; rfl, w0, w1, w2⟩
theorem open_rssr {fuel : Nat} {oa : Option Addr} {len cap : Nat} {x : DataW H × List MemPlace} (h : DataW.trod enc Try.prog W 0 (fun _ => true) true fuel 22 [.slice oa len cap] = some x) :
    ∃ l : List Rs, l.length = len ∧ OkSl oa len cap ∧ rowAt W (.slice oa len cap) 4 rsC l ∧ ∀ y ∈ l, wfI y.1 ∧ wfI y.2.1 ∧ wfI y.2.2.1 :=
  open_rowG rsC 4 (fun y => wfI y.1 ∧ wfI y.2.1 ∧ wfI y.2.2.1) Try.underlying22 cells_of_rs (fun _ => rfl) (by omega) (fun fuel l x hx => open_rso fuel l x hx) h
end
end Go.Proofs.Ytelmjkjbbbgmpaa
