/-
  Raw things among the arguments (a slice of them, one alone), opened.
-/
import Derived.Test.YtfcoanlegjddpaaCrLong
import Derived.ProofKit
import Derived.OpenShut
import Derived.ChangeOld
import Derived.SizedLaws
import Derived.Carry
import Derived.Deep.Slices
import Derived.Lib.SmallJoins
namespace Go.Proofs.Ytfcoanlegjddpaa
open Go.ChangeShapes Go.WideShapes Go.ChangeAt Go.RowKit

theorem laidOut : laidOutB Try.prog = true := by kernel_rfl
theorem fieldsA : ∃ f0 f1 f2 f3 : Field, Try.prog.underlying 51 = some (.struct #[f0, f1, f2, f3]) ∧ f0.type = 3 ∧ f1.type = 3 ∧ f2.type = 9 ∧ f3.type = 4 ∧ f0.offset = 0 ∧ f1.offset = 1 ∧ f2.offset = 2 ∧ f3.offset = 3 := by
  obtain ⟨f0, f1, f2, f3, hfs, h0, h1, h2, h3⟩ := map_four _ _ _ _ _ _ fieldsT
  simp only [Prod.mk.injEq] at h0 h1 h2 h3
  refine ⟨f0, f1, f2, f3, ?_, h0.2.1, h1.2.1, h2.2.1, h3.2.1, h0.2.2, h1.2.2, h2.2.2, h3.2.2⟩
  rw [underT]
  congr 2
  exact Array.ext' hfs
theorem cellsInt : Try.prog.cellsOf 3 = 1 := by kernel_rfl
theorem cellsStr : Try.prog.cellsOf 9 = 1 := by kernel_rfl
theorem cellsBool : Try.prog.cellsOf 4 = 1 := by kernel_rfl
theorem cellsT : Try.prog.cellsOf 51 = 4 := by kernel_rfl
theorem bytesT : Try.prog.bytesOf 51 = 40 := by kernel_rfl

def thData {H : Type} (t : Th) : DataW H := .agg [.lit (.int .i64 t.k), .lit (.int .i64 t.n), .lit (.string t.s.data.toList), .lit (.bool t.b)]

theorem list_four {α : Type} : ∀ (l : List α), l.length = 4 → ∃ a b c d, l = [a, b, c, d]
  | [a, b, c, d], _ => ⟨a, b, c, d, rfl⟩

theorem open_cells {H : Type} {enc : TypeId × Value → H} {W : World} {base : Nat} {spare : Nat → Bool} {held : Bool} {fuel : Nat} {cs : List Value} {x : DataW H × List MemPlace}
    (h : DataW.trod enc Try.prog W base spare held fuel 51 cs = some x) : ∃ t : Th, cs = [.int .i64 t.k, .int .i64 t.n, .string t.s, .bool t.b] ∧ x = (thData t, []) := by
  obtain ⟨f0, f1, f2, f3, hu, t0, t1, t2, t3, o0, o1, o2, o3⟩ := fieldsA
  obtain ⟨y0, y1, y2, y3, n, rfl, hl, h0, h1, h2, h3⟩ := Joins.trod_struct4 hu h
  rw [cellsT] at hl
  obtain ⟨a, b, c, d, rfl⟩ := list_four cs hl
  rw [t0, o0, cellsInt] at h0
  rw [t1, o1, cellsInt] at h1
  rw [t2, o2, cellsStr] at h2
  rw [t3, o3, cellsBool] at h3
  simp only [List.drop_zero, List.drop_succ_cons, List.take_succ_cons, List.take_zero] at h0 h1 h2 h3
  obtain ⟨k, e0, rfl, _⟩ := DataW.trod_int Try.underlying3 h0
  obtain ⟨q, e1, rfl, _⟩ := DataW.trod_int Try.underlying3 h1
  obtain ⟨s, e2, rfl, _⟩ := DataW.trod_string Try.underlying9 h2
  obtain ⟨g, e3, rfl⟩ := DataW.trod_bool Try.underlying4 h3
  refine ⟨⟨k, q, s, g⟩, ?_, by simp [thData]⟩
  rw [List.singleton_inj] at e0 e1 e2 e3
  rw [e0, e1, e2, e3]

theorem weightsAll_mem {H : Type} {P : Program} {e : TypeId} : ∀ {l : List (DataW H)} {d : DataW H} {n : Nat}, d ∈ l → n ∈ d.weights P e → n ∈ DataW.weightsAll P e l
  | y :: l, d, n, h, hn => by
    rw [DataW.weightsAll, List.mem_append]
    rcases List.mem_cons.1 h with rfl | h
    · exact .inl hn
    · exact .inr (weightsAll_mem h hn)
theorem weights_th {H : Type} (t : Th) : t.s.size ∈ (thData t : DataW H).weights Try.prog 51 := by
  obtain ⟨f0, f1, f2, f3, hu, t0, t1, t2, t3, _⟩ := fieldsA
  rw [thData, DataW.weights, hu]
  simp [DataW.weightsEach, DataW.weights]

theorem open_things {H : Type} {enc : TypeId × Value → H} {W : World} {fuel : Nat} {oa : Option Addr} {len cap : Nat} {x : DataW H × List MemPlace}
    (h : DataW.trod enc Try.prog W 0 (fun _ => true) true fuel 22 [.slice oa len cap] = some x) (hsz : ∀ n ∈ x.1.weights Try.prog 22, n ≤ reachBytes) :
    ∃ l : List Th, l.length = len ∧ len ≤ 140737488355328 ∧ hasThs W oa l ∧ ∀ y ∈ l, y.s.size ≤ 140737488355328 := by
  rcases Deep.open_slice Try.underlying22 h with ⟨hcs, _⟩ | ⟨a, len', cap', m, n, D, Pl, hcs, _, hl, hm, hmm, rfl, hx⟩
  · simp at hcs
    obtain ⟨rfl, rfl, rfl⟩ := hcs
    exact ⟨[], rfl, by omega, fun j y hj => by simp at hj, fun y hy => by simp at hy⟩
  · simp at hcs
    obtain ⟨rfl, rfl, rfl⟩ := hcs
    simp only [if_true] at hmm
    subst hmm
    rw [cellsT] at hx
    have each : ∀ i, i < m → ∃ t : Th, W.cell? (a.add (i * 4)) = some (.int .i64 t.k) ∧ W.cell? (a.add (i * 4 + 1)) = some (.int .i64 t.n) ∧ W.cell? (a.add (i * 4 + 2)) = some (.string t.s) ∧ W.cell? (a.add (i * 4 + 3)) = some (.bool t.b) ∧ D i = thData t := by
      intro i hi
      obtain ⟨cs', h1, h2⟩ := hx i hi
      obtain ⟨t, rfl, e⟩ := open_cells h2
      obtain ⟨_, hlen, hcell⟩ := World.cells?_some h1
      have e0 := hcell 0 (by omega)
      have e1 := hcell 1 (by omega)
      have e2 := hcell 2 (by omega)
      have e3 := hcell 3 (by omega)
      rw [Deep.add_add] at e0 e1 e2 e3
      simp only [Prod.mk.injEq] at e
      exact ⟨t, by simpa using e0, by simpa using e1, by simpa using e2, by simpa using e3, e.1⟩
    haveI : Inhabited Th := ⟨Th.zero⟩
    obtain ⟨T, hT⟩ := Deep.choose_lt each
    simp only at hsz
    rw [DataW.weights, Try.underlying22] at hsz
    simp only [bytesT, List.length_map, List.length_range] at hsz
    have hlen : len ≤ 140737488355328 := by
      have := hsz _ (List.mem_cons_self ..)
      simp only [reachBytes] at this
      omega
    refine ⟨(List.range len).map T, by simp, hlen, fun j y hj => ?_, fun y hy => ?_⟩
    · have hj' : j < len := by
        have := (List.getElem?_eq_some_iff.1 hj).1
        simpa using this
      have ey : T j = y := by simpa [List.getElem?_range hj'] using hj
      subst ey
      obtain ⟨k1, k2, k3, k4, _⟩ := hT j (by omega)
      obtain ⟨blk, off, spot⟩ := a
      have hspot : spot = none := by
        obtain ⟨z1, _⟩ := hT 0 (by omega)
        simpa [Addr.add] using World.cell?_spot z1
      subst hspot
      have ea : ∀ o, (⟨blk, off, none⟩ : Addr).add o = ⟨blk, off + o, none⟩ := fun o => by unfold Addr.add; split <;> simp_all
      rw [ea] at k1 k2 k3 k4
      exact ⟨blk, off, rfl, k1, k2, k3, k4⟩
    · obtain ⟨i, hi, rfl⟩ := List.mem_map.1 hy
      have hi' : i < len := List.mem_range.1 hi
      have hD := (hT i (by omega)).2.2.2.2
      have hw : (T i).s.size ∈ DataW.weightsAll Try.prog 51 ((List.range len).map D) := by
        refine weightsAll_mem (List.mem_map.2 ⟨i, hi, rfl⟩) ?_
        rw [hD]
        exact weights_th (T i)
      have := hsz _ (List.mem_cons_of_mem _ (List.mem_append_left _ hw))
      simp only [reachBytes] at this
      omega

theorem open_thing {H : Type} {enc : TypeId × Value → H} {W : World} {r : Reach} {b0 : Nat} {v : Value} {d : DataW H} {p : List MemPlace} (hv : Value.okWide Try.prog W r b0 51 v)
    (h : DataW.Trod enc Try.prog W 0 (fun _ => true) true 51 v d p) (hsz : ∀ n ∈ d.weights Try.prog 51, n ≤ reachBytes) :
    ∃ t : Th, v = .agg #[.int .i64 t.k, .int .i64 t.n, .string t.s, .bool t.b] ∧ t.s.size ≤ 140737488355328 := by
  obtain ⟨f0, f1, f2, f3, hu, _⟩ := fieldsA
  obtain ⟨cs, rfl, _⟩ := okWide_struct hu hv
  obtain ⟨fuel, hf⟩ := h
  obtain ⟨t, e1, e2⟩ := open_cells hf
  simp only [Prod.mk.injEq] at e2
  refine ⟨t, ?_, ?_⟩
  · rw [show cs = #[.int .i64 t.k, .int .i64 t.n, .string t.s, .bool t.b] from Array.ext' e1]
  · rw [e2.1] at hsz
    have := hsz _ (weights_th t)
    simp only [reachBytes] at this
    omega

theorem weights_at {H : Type} {P : Program} {ts : List TypeId} {ds : List (DataW H)} (h : (DataW.weightsEach P ts ds).all (· ≤ reachBytes) = true) {j : Nat} {t : TypeId} {d : DataW H} (ht : ts[j]? = some t) (hd : ds[j]? = some d) : ∀ n ∈ d.weights P t, n ≤ reachBytes := by
  intro n hn
  have := List.all_eq_true.1 h n (DataW.weights_mem_each ht hd n hn)
  simpa using this

end Go.Proofs.Ytfcoanlegjddpaa
