/-
  Package field, plain: a point a Step later; a field in memory of the call's own.
-/
import Derived.Test.YthmbpohebcnehaaDoorOwBase
namespace Go.Proofs.YthmbpohebcnehaaDoor
open Go.RowKit

/-- Where a point lies, where it is driven to, in how many Steps. -/
abbrev Pt := Int × Int × Int
def ptC (x : Pt) : List Value := [.int .i64 x.1, .int .i64 x.2.1, .int .i64 x.2.2]
def ptV (x : Pt) : Value := .agg #[.int .i64 x.1, .int .i64 x.2.1, .int .i64 x.2.2]
def restF (n : Int) : Pt := (n, 0, 0)
def stepsF (p : Pt) (tw : Int) : Int := if tw = p.2.1 then 1 + p.2.2 else 1
/-- A point one Step later. -/
def drivenF (p : Pt) (tw : Int) : Pt :=
  if tw = 0 ∨ tw = p.1 then restF p.1
  else if stepsF p tw = 3 then restF tw
  else (0, tw, stepsF p tw)
def ptOk (p : Pt) : Prop := 0 ≤ p.2.2 ∧ p.2.2 ≤ 2
theorem ptOk_rest (n : Int) : ptOk (restF n) := ⟨by simp [restF], by simp [restF]⟩
theorem ptOk_driven {p : Pt} (h : ptOk p) (tw : Int) : ptOk (drivenF p tw) := by
  unfold drivenF
  split
  · exact ptOk_rest _
  split
  · exact ptOk_rest _
  · rename_i h3
    have : stepsF p tw = 1 + p.2.2 ∨ stepsF p tw = 1 := by
      unfold stepsF
      split
      · exact .inl rfl
      · exact .inr rfl
    simp only [ptOk] at h ⊢
    omega
def noPos (n : Int) : Bool := decide (n ≠ 0 ∧ n ≠ 1 ∧ n ≠ 2)
/-- All points one Step later. -/
def stepAll (pts : List Pt) (d : List Int) : List Pt := List.zipWith drivenF pts d
theorem stepAll_len {pts : List Pt} {d : List Int} (h : d.length = pts.length) : (stepAll pts d).length = pts.length := by simp [stepAll, h]

theorem flat_pt_len (l : List Pt) : (l.flatMap ptC).length = l.length * 3 := flat_lenG (cs := ptC) (size := 3) (fun _ => rfl) l
theorem flat_pt_at {l : List Pt} {q i : Nat} (hq : q < l.length) (hi : i < 3) : (l.flatMap ptC)[q * 3 + i]? = (ptC (l[q]))[i]? := by
  have h4 : i < (ptC l[q]).length := by simp [ptC]; exact hi
  rw [flat_get (cs := ptC) (size := 3) (fun _ => rfl) l q l[q] i _ (List.getElem?_eq_getElem hq) (List.getElem?_eq_getElem h4), List.getElem?_eq_getElem h4]
theorem flat_pt_set (pts : List Pt) (k : Nat) (s : Pt) : (((pts.flatMap ptC).set (k * 3) (.int .i64 s.1)).set (k * 3 + 1) (.int .i64 s.2.1)).set (k * 3 + 2) (.int .i64 s.2.2) = (pts.set k s).flatMap ptC := by
  apply List.ext_getElem?
  intro j
  by_cases hj : j < pts.length * 3
  · obtain ⟨q, i, rfl, hi, hq⟩ : ∃ q i, j = q * 3 + i ∧ i < 3 ∧ q < pts.length := ⟨j / 3, j % 3, by omega, by omega, by omega⟩
    rw [flat_pt_at (by rw [List.length_set]; exact hq) hi]
    simp only [List.getElem?_set, List.length_set, flat_pt_len]
    by_cases hqk : k = q
    · subst hqk
      rw [List.getElem_set_self]
      match i, hi with
      | 0, _ => simp [ptC]; omega
      | 1, _ => simp [ptC, hj]
      | 2, _ => simp [ptC, hj]
    · rw [List.getElem_set_ne hqk, if_neg (by omega), if_neg (by omega), if_neg (by omega), flat_pt_at hq hi]
  · rw [List.getElem?_eq_none (by simp only [List.length_set, flat_pt_len]; omega), List.getElem?_eq_none (by rw [flat_pt_len, List.length_set]; omega)]

/-- A field that the call itself made. -/
structure FdAt (W : World) (B fb bo bp : Nat) (occ : List Bool) (pts : List Pt) : Prop where
  hf : W.heap[fb]? = some (.cells #[.slice (some ⟨bo, 0, none⟩) occ.length occ.length, .slice (some ⟨bp, 0, none⟩) pts.length pts.length] 61 (0, 0))
  ho : W.heap[bo]? = some (.cells (occ.map Value.bool).toArray 4 (0, 0))
  hp : W.heap[bp]? = some (.cells (pts.flatMap ptC).toArray 63 (0, 0))
  base : B ≤ fb ∧ B ≤ bo ∧ B ≤ bp
  ok : ∀ p ∈ pts, ptOk p
  few : occ.length ≤ 1000 ∧ pts.length ≤ 1000

variable {W W' : World} {B fb bo bp : Nat} {occ : List Bool} {pts : List Pt}
theorem FdAt.ne (h : FdAt W B fb bo bp occ pts) : fb ≠ bo ∧ fb ≠ bp ∧ bo ≠ bp := by
  refine ⟨fun e => ?_, fun e => ?_, fun e => ?_⟩
  · have h1 := h.hf
    rw [e, h.ho] at h1
    injection h1 with h1
    injection h1 with h1 h2 h3
    revert h2
    decide
  · have h1 := h.hf
    rw [e, h.hp] at h1
    injection h1 with h1
    injection h1 with h1 h2 h3
    revert h2
    decide
  · have h1 := h.ho
    rw [e, h.hp] at h1
    injection h1 with h1
    injection h1 with h1 h2 h3
    revert h2
    decide
theorem FdAt.lt (h : FdAt W B fb bo bp occ pts) : fb < W.heap.size ∧ bo < W.heap.size ∧ bp < W.heap.size :=
  ⟨(Array.getElem?_eq_some_iff.1 h.hf).1, (Array.getElem?_eq_some_iff.1 h.ho).1, (Array.getElem?_eq_some_iff.1 h.hp).1⟩
theorem FdAt.keep (h : FdAt W B fb bo bp occ pts) (hk : ∀ k, k < W.heap.size → k = fb ∨ k = bo ∨ k = bp → W'.heap[k]? = W.heap[k]?) : FdAt W' B fb bo bp occ pts :=
  ⟨(hk _ h.lt.1 (.inl rfl)).trans h.hf, (hk _ h.lt.2.1 (.inr (.inl rfl))).trans h.ho, (hk _ h.lt.2.2 (.inr (.inr rfl))).trans h.hp, h.base, h.ok, h.few⟩
theorem FdAt.below (h : FdAt W B fb bo bp occ pts) (hb : Below W.heap.size W W') : FdAt W' B fb bo bp occ pts := h.keep fun k hk _ => hb.block k hk
theorem FdAt.lower {B' : Nat} (h : FdAt W B fb bo bp occ pts) (hB : B' ≤ B) : FdAt W B' fb bo bp occ pts := ⟨h.hf, h.ho, h.hp, by have := h.base; omega, h.ok, h.few⟩
/-- What may turn of it. -/
def fdFoot (bo bp k : Nat) : Prop := k = bo ∨ k = bp

theorem FdAt.cells (h : FdAt W B fb bo bp occ pts) : W.cell? ⟨fb, 0, none⟩ = some (.slice (some ⟨bo, 0, none⟩) occ.length occ.length) ∧ W.cell? ⟨fb, 1, none⟩ = some (.slice (some ⟨bp, 0, none⟩) pts.length pts.length) := cells2 h.hf
theorem FdAt.occAt (h : FdAt W B fb bo bp occ pts) {k : Nat} {x : Bool} (hx : occ[k]? = some x) : W.cell? ⟨bo, k, none⟩ = some (.bool x) ∧ W.frozen? ⟨bo, k, none⟩ = false := by
  have h1 := h.ho
  refine ⟨?_, froz2 h1 k⟩
  simp [World.cell?, h1, hx]
theorem FdAt.ptAt (h : FdAt W B fb bo bp occ pts) {k : Nat} {x : Pt} (hx : pts[k]? = some x) : (W.cell? ⟨bp, k * 3, none⟩ = some (.int .i64 x.1) ∧ W.cell? ⟨bp, k * 3 + 1, none⟩ = some (.int .i64 x.2.1) ∧ W.cell? ⟨bp, k * 3 + 2, none⟩ = some (.int .i64 x.2.2)) ∧ ∀ i, W.frozen? ⟨bp, i, none⟩ = false := by
  have h1 := h.hp
  have c := fun i u (hu : (ptC x)[i]? = some u) => flat_get (cs := ptC) (size := 3) (fun _ => rfl) pts k x i u hx hu
  have c0 := c 0 _ rfl
  have c1 := c 1 _ rfl
  have c2 := c 2 _ rfl
  rw [Nat.add_zero] at c0
  refine ⟨⟨?_, ?_, ?_⟩, fun i => froz2 h1 i⟩
  · simp only [World.cell?, h1]; simpa using c0
  · simp only [World.cell?, h1]; simpa using c1
  · simp only [World.cell?, h1]; simpa using c2

/-- A section's bool, stored. -/
theorem FdAt.put1 (h : FdAt W B fb bo bp occ pts) (k : Nat) (x : Bool) : FdAt (W.setCell ⟨bo, k, none⟩ (.bool x)) B fb bo bp (occ.set k x) pts ∧ Chg (fdFoot bo bp) W (W.setCell ⟨bo, k, none⟩ (.bool x)) := by
  have hn := h.ne
  have oth : ∀ j, j ≠ bo → (W.setCell ⟨bo, k, none⟩ (.bool x)).heap[j]? = W.heap[j]? := fun j hj => Below.heap_setCell _ _ _ _ (by exact hj)
  refine ⟨⟨?_, ?_, (oth _ (Ne.symm hn.2.2)).trans h.hp, h.base, h.ok, by rw [List.length_set]; exact h.few⟩, ⟨rfl, rfl, rfl, by simp [World.setCell], fun j _ hf => oth j fun e => hf (.inl e)⟩⟩
  · rw [List.length_set]
    exact (oth _ hn.1).trans h.hf
  · rw [heap_put h.ho]
    congr 2
    apply Array.ext'
    simp
/-- A point, stored. -/
theorem FdAt.put2 (h : FdAt W B fb bo bp occ pts) (k : Nat) (s : Pt) (hs : ptOk s) : FdAt (((W.setCell ⟨bp, k * 3, none⟩ (.int .i64 s.1)).setCell ⟨bp, k * 3 + 1, none⟩ (.int .i64 s.2.1)).setCell ⟨bp, k * 3 + 2, none⟩ (.int .i64 s.2.2)) B fb bo bp occ (pts.set k s) ∧
    Chg (fdFoot bo bp) W (((W.setCell ⟨bp, k * 3, none⟩ (.int .i64 s.1)).setCell ⟨bp, k * 3 + 1, none⟩ (.int .i64 s.2.1)).setCell ⟨bp, k * 3 + 2, none⟩ (.int .i64 s.2.2)) := by
  have hn := h.ne
  have oth : ∀ j, j ≠ bp → (((W.setCell ⟨bp, k * 3, none⟩ (.int .i64 s.1)).setCell ⟨bp, k * 3 + 1, none⟩ (.int .i64 s.2.1)).setCell ⟨bp, k * 3 + 2, none⟩ (.int .i64 s.2.2)).heap[j]? = W.heap[j]? := fun j hj => by
    rw [Below.heap_setCell _ _ _ _ (by exact hj), Below.heap_setCell _ _ _ _ (by exact hj), Below.heap_setCell _ _ _ _ (by exact hj)]
  refine ⟨⟨?_, (oth _ hn.2.2).trans h.ho, ?_, h.base, fun p hp => ?_, by rw [List.length_set]; exact h.few⟩, ⟨rfl, rfl, rfl, by simp [World.setCell], fun j _ hf => oth j fun e => hf (.inr e)⟩⟩
  · rw [List.length_set]
    exact (oth _ hn.2.1).trans h.hf
  · rw [heap_put (heap_put (heap_put h.hp _) _) _]
    congr 2
    apply Array.ext'
    simp only [Array.toList_setIfInBounds]
    exact flat_pt_set pts k s
  · rcases List.mem_or_eq_of_mem_set hp with h1 | h1
    · exact h.ok p h1
    · rw [h1]; exact hs
end Go.Proofs.YthmbpohebcnehaaDoor
