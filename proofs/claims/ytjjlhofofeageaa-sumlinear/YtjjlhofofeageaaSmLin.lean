/-
  Three rows of one length, xored: the walk of SumLinear, in pieces.
-/
import Derived.Test.YtjjlhofofeageaaSmOwn
import Derived.Test.YtjjlhofofeageaaLyTree
import Derived.Deep.CutBlock
import Derived.Deep.LoopGhost
namespace Go.Proofs.Ytjjlhofofeageaa
open Go.RowKit

/-- A world in which nothing old has turned. -/
structure SExt (W : World) where
  z : World
  h : Below W.heap.size W z
theorem sext_cell {w : World} {p : Addr} {v : Value} (h : w.cell? p = some v) (y : SExt w) : y.z.cell? p = some v := (y.h.cell (World.block_lt_of_cell? w p h)).trans h
theorem sext_some (w : World) : Nonempty (SExt w) := ⟨⟨w, Below.refl _ _⟩⟩
/-- The worlds in which one cell reads so. -/
structure SCls (p : Addr) (v : Value) where
  z : World
  h : z.cell? p = some v
theorem srun_does {P : Program} {s : Sem Value} {v : Value} {w w' : World} (h : s.run P w = .ok v w') : (do pure (Next.value (← s)) : Sem Next).run P w = .ok (.value v) w' := by
  simp only [Sem.run_bind, h, Result.andThen, Sem.run_pure]

theorem u8_mul (x y : BitVec 8) : IntKind.u8.wrap (u8 x * u8 y) = u8 (x * y) := by
  rw [wrap_u8, BitVec.ofInt_mul, u8_nat, u8_nat]
/-- A row of n bytes of the call's own of which the first k are those of l. -/
def RowTo (w : World) (g n k : Nat) (l : List (BitVec 8)) : Prop := ∃ xs : List (BitVec 8), w.heap[g]? = some (.cells (xs.map u8C).toArray 5 (0, 0)) ∧ xs.length = n ∧ xs.take k = l.take k
theorem RowTo.block {w w' : World} {g n k : Nat} {l : List (BitVec 8)} (h : RowTo w g n k l) (hb : w'.heap[g]? = w.heap[g]?) : RowTo w' g n k l := by
  obtain ⟨xs, h1, h2, h3⟩ := h
  exact ⟨xs, hb.trans h1, h2, h3⟩
theorem RowTo.below {w w' : World} {g n k : Nat} {l : List (BitVec 8)} (h : RowTo w g n k l) (hb : Below w.heap.size w w') : RowTo w' g n k l := by
  obtain ⟨xs, h1, h2, h3⟩ := h
  exact ⟨xs, sblk_below hb h1, h2, h3⟩
theorem RowTo.put {w : World} {g n k : Nat} {l : List (BitVec 8)} (h : RowTo w g n k l) (hk : k < n) {x : BitVec 8} (hx : l[k]? = some x) : RowTo (w.setCell ⟨g, k, none⟩ (.int .u8 (u8 x))) g n (k + 1) l := by
  obtain ⟨xs, h1, h2, h3⟩ := h
  refine ⟨xs.set k x, ?_, by simp [h2], ?_⟩
  · simp only [World.setCell, Array.getElem?_modify, h1]
    simp [List.map_set]
    rfl
  · rw [List.take_add_one, List.take_add_one, List.take_set, List.getElem?_set_self (by omega), hx, ← h3, List.set_eq_of_length_le (by rw [List.length_take]; omega)]
theorem RowTo.cell {w : World} {g n k : Nat} {l : List (BitVec 8)} (h : RowTo w g n k l) {j : Nat} (hj : j < n) : ∃ x, w.cell? ⟨g, j, none⟩ = some (.int .u8 (u8 x)) := by
  obtain ⟨xs, h1, h2, h3⟩ := h
  refine ⟨xs[j], ?_⟩
  simp [World.cell?, h1, List.getElem?_eq_getElem (show j < xs.length by omega)]
  rfl
theorem RowTo.cell_of {w : World} {g n k : Nat} {l : List (BitVec 8)} (h : RowTo w g n (k + 1) l) {x : BitVec 8} (hx : l[k]? = some x) : w.cell? ⟨g, k, none⟩ = some (.int .u8 (u8 x)) := by
  obtain ⟨xs, h1, h2, h3⟩ := h
  have h4 : xs[k]? = some x := by
    have := congrArg (fun t => t[k]?) h3
    simp only [List.getElem?_take] at this
    rw [if_pos (by omega), if_pos (by omega), hx] at this
    exact this
  simp [World.cell?, h1, h4]
  rfl
theorem RowTo.froz {w : World} {g n k : Nat} {l : List (BitVec 8)} (h : RowTo w g n k l) (j : Nat) : w.frozen? ⟨g, j, none⟩ = false := by
  obtain ⟨xs, h1, _, _⟩ := h
  simp [World.frozen?, h1]
theorem RowTo.whole {w : World} {g n : Nat} {l : List (BitVec 8)} (h : RowTo w g n n l) (hl : l.length = n) : hasBytes w (some ⟨g, 0, none⟩) l := by
  obtain ⟨xs, h1, h2, h3⟩ := h
  rw [List.take_of_length_le (by omega), List.take_of_length_le (by omega)] at h3
  subst h3
  exact bytes_own (n := n) h1 (by rw [List.take_of_length_le (by simp [h2])])
theorem row_set_ne {w : World} {a : Addr} {v : Value} {g : Nat} (h : g ≠ a.block) : (w.setCell a v).heap[g]? = w.heap[g]? := Below.heap_setCell w a v g h
theorem row_zero {w : World} {g n : Nat} {C : Obj} {l : List (BitVec 8)} (hC : C = .cells ((List.replicate n (0#8)).map u8C).toArray 5) (h : w.heap[g]? = some C) : RowTo w g n 0 l := ⟨List.replicate n (0#8), by rw [h, hC], by simp, by simp⟩
theorem three_new (w w3 : World) (hb : Below w.heap.size w w3) (C : Obj) : Below w.heap.size w (w3.alloc C) ∧ Below w.heap.size w ((w3.alloc C).alloc C) ∧ Below w.heap.size w (((w3.alloc C).alloc C).alloc C) ∧
    (w.heap.size ≤ w3.heap.size ∧ w3.heap.size < (w3.alloc C).heap.size ∧ ((w3.alloc C).heap.size < ((w3.alloc C).alloc C).heap.size ∧ ((w3.alloc C).alloc C).heap.size < (((w3.alloc C).alloc C).alloc C).heap.size) ∧ (((w3.alloc C).alloc C).alloc C).heap[w3.heap.size]? = some C ∧ (((w3.alloc C).alloc C).alloc C).heap[(w3.alloc C).heap.size]? = some C ∧ (((w3.alloc C).alloc C).alloc C).heap[((w3.alloc C).alloc C).heap.size]? = some C) := by
  have h1 := hb.alloc hb.size C
  have h2 := h1.alloc h1.size C
  have h3 := h2.alloc h2.size C
  refine ⟨h1, h2, h3, hb.size, by rw [World.size_alloc]; omega, ⟨by rw [World.size_alloc (w3.alloc C)]; omega, by rw [World.size_alloc ((w3.alloc C).alloc C)]; omega⟩, sblk_old (sblk_old (sblk_new _ _)), sblk_old (sblk_new _ _), sblk_new _ _⟩
/-- The three rows. -/
def xsL (p : List (BitVec 8)) (a : BitVec 8) : List (BitVec 8) := p.map (· ^^^ a)
def ysL (p : List (BitVec 8)) (b : BitVec 8) : List (BitVec 8) := p.map (· * b)
def zsL (p : List (BitVec 8)) (a b : BitVec 8) : List (BitVec 8) := p.map fun q => q ^^^ (q ^^^ a) ^^^ (q * b)
theorem zs_zip (p : List (BitVec 8)) (a b : BitVec 8) : zsL p a b = (p.zip ((xsL p a).zip (ysL p b))).map fun t => t.1 ^^^ t.2.1 ^^^ t.2.2 := by
  induction p with
  | nil => rfl
  | cons q p ih =>
    show (q ^^^ (q ^^^ a) ^^^ (q * b)) :: zsL p a b = _
    rw [ih]
    rfl
theorem sum_lin (p : List (BitVec 8)) (a b : BitVec 8) : sumV (zsL p a b) = sumV p ^^^ sumV (xsL p a) ^^^ sumV (ysL p b) := by
  have h1 : onesV = onesV ^^^ onesV ^^^ onesV := by decide
  have h2 := bytes_xor3 p (xsL p a) (ysL p b) onesV onesV onesV (by simp [xsL]) (by simp [xsL, ysL])
  rw [← zs_zip, ← h1] at h2
  unfold sumV
  rw [h2]
  apply BitVec.eq_of_getLsbD_eq
  intro i hi
  simp [hi]
/-- The three rows stand apart, in the call's own memory. -/
def Three (B : Nat) (w : World) (gx gy gz : Nat) : Prop := gx ≠ gy ∧ gx ≠ gz ∧ gy ≠ gz ∧ B ≤ gx ∧ B ≤ gy ∧ B ≤ gz ∧ B ≤ w.heap.size
theorem bytes_up {w w' : World} (hb : Below w.heap.size w w') {oa : Option Addr} {l : List (BitVec 8)} (h : hasBytes w oa l) : hasBytes w' oa l := h.below hb
theorem three_kept {B : Nat} {w w' : World} {gx gy gz : Nat} (h : Three B w gx gy gz) (hw : w.heap.size ≤ w'.heap.size) : Three B w' gx gy gz := ⟨h.1, h.2.1, h.2.2.1, h.2.2.2.1, h.2.2.2.2.1, h.2.2.2.2.2.1, Nat.le_trans h.2.2.2.2.2.2 hw⟩
theorem at_map {α β : Type} {l : List α} {f : α → β} {k : Nat} {x : α} (h : l[k]? = some x) : (l.map f)[k]? = some (f x) := by rw [List.getElem?_map, h]; rfl
end Go.Proofs.Ytjjlhofofeageaa
