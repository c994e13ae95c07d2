/-
  A layout in memory that the call itself made and fills: its block, its four rows, apart from one another; what an append leaves of it; two bytes as a text.
-/
import Derived.Test.YtceebimgfajbcaaTbTwo
import Derived.Laws.BytesArg
namespace Go.Proofs.Ytceebimgfajbcaa
open Go.RowKit

def eOf : Nat → TypeId
  | 0 => 9
  | 1 => 29
  | 2 => 9
  | _ => 33
def szOf : Nat → Nat
  | 0 => 1
  | 1 => 2
  | 2 => 1
  | _ => 6
def upd {α : Type} (f : Nat → α) (i : Nat) (x : α) (j : Nat) : α := if j = i then x else f j
theorem upd_at {α : Type} (f : Nat → α) (i : Nat) (x : α) : upd f i x i = x := if_pos rfl
theorem upd_ne {α : Type} (f : Nat → α) (i : Nat) (x : α) {j : Nat} (h : j ≠ i) : upd f i x j = f j := if_neg h

/-- The blocks that a layout of the call's own may still turn. -/
def foot4 (L : Nat) (v : Nat → Value) (k : Nat) : Prop := k = L ∨ ∃ i, i < 4 ∧ (v i).ownBlock = some k

structure L4 (w : World) (B L : Nat) (v : Nat → Value) (n : Nat → Nat) (cs : Nat → List Value) (X : World → Prop) : Prop where
  blk : w.heap[L]? = some (.cells #[v 0, v 1, v 2, v 3] 26 (0, 0))
  base : B ≤ L
  own : ∀ i, i < 4 → w.ownsRow B (eOf i) (szOf i) (v i) (n i) (cs i)
  noL : ∀ i, i < 4 → (v i).ownBlock ≠ some L
  apart : ∀ i j k, i < 4 → j < 4 → i ≠ j → (v i).ownBlock = some k → (v j).ownBlock ≠ some k
  inn : ∀ W : World, (∀ k, B ≤ k → k < w.heap.size → ¬ foot4 L v k → W.heap[k]? = w.heap[k]?) → X W

variable {w w' : World} {B L : Nat} {v : Nat → Value} {n : Nat → Nat} {cs : Nat → List Value} {X : World → Prop}

theorem L4.lt (h : L4 w B L v n cs X) : L < w.heap.size := (Array.getElem?_eq_some_iff.1 h.blk).1
theorem L4.foot (h : L4 w B L v n cs X) {k : Nat} (hk : foot4 L v k) : B ≤ k ∧ k < w.heap.size := by
  rcases hk with rfl | ⟨i, hi, hk⟩
  · exact ⟨h.base, h.lt⟩
  · exact (h.own i hi).lt k hk
theorem L4.below (h : L4 w B L v n cs X) (hb : Below w.heap.size w w') : L4 w' B L v n cs X :=
  ⟨(hb.block _ h.lt).trans h.blk, h.base, fun i hi => owns_keep (h.own i hi) fun k hk => hb.block k ((h.own i hi).lt k hk).2, h.noL, h.apart,
    fun W hW => h.inn W fun k hB hk hf => (hW k hB (Nat.lt_of_lt_of_le hk hb.size) hf).trans (hb.block k hk)⟩
theorem L4.far (h : L4 w B L v n cs X) (hk : ∀ k, B ≤ k → k < w.heap.size → w'.heap[k]? = w.heap[k]?) (hs : w.heap.size ≤ w'.heap.size) : L4 w' B L v n cs X :=
  ⟨(hk _ h.base h.lt).trans h.blk, h.base, fun i hi => owns_keep (h.own i hi) fun k e => hk k ((h.own i hi).lt k e).1 ((h.own i hi).lt k e).2, h.noL, h.apart,
    fun W hW => h.inn W fun k hB hk' hf => (hW k hB (Nat.lt_of_lt_of_le hk' hs) hf).trans (hk k hB hk')⟩
theorem L4.cells (h : L4 w B L v n cs X) : (w.cell? ⟨L, 0, none⟩ = some (v 0) ∧ w.cell? ⟨L, 1, none⟩ = some (v 1) ∧ w.cell? ⟨L, 2, none⟩ = some (v 2) ∧ w.cell? ⟨L, 3, none⟩ = some (v 3)) ∧
    w.frozen? ⟨L, 0, none⟩ = false ∧ w.frozen? ⟨L, 1, none⟩ = false ∧ w.frozen? ⟨L, 2, none⟩ = false ∧ w.frozen? ⟨L, 3, none⟩ = false := by
  have hb := h.blk
  refine ⟨⟨?_, ?_, ?_, ?_⟩, ?_, ?_, ?_, ?_⟩ <;> simp [World.cell?, World.frozen?, hb]

theorem upd_four (v : Nat → Value) (u : Value) : ∀ i, i < 4 → #[v 0, v 1, v 2, v 3].setIfInBounds i u = #[upd v i u 0, upd v i u 1, upd v i u 2, upd v i u 3]
  | 0, _ => rfl
  | 1, _ => rfl
  | 2, _ => rfl
  | 3, _ => rfl

/-- What stands behind an append to one of its rows, and the store into its field. -/
theorem L4.put (h : L4 w B L v n cs X) {i m : Nat} (hi : i < 4) {o : Obj} {w1 : World} {v' : Value} {ys : List Value} {X' : World → Prop} (hown : w1.ownsRow B (eOf i) (szOf i) v' m ys)
    (hg : (w.alloc o).grownBy w1 (v i).ownBlock) (hat : v'.ownBlock = (v i).ownBlock ∨ v'.ownBlock = some (w.heap.size + 1))
    (hX : (∀ W : World, (∀ k, B ≤ k → k < w.heap.size → ¬ foot4 L v k → W.heap[k]? = w.heap[k]?) → X' W)) :
    L4 (w1.setCell ⟨L, i, none⟩ v') B L (upd v i v') (upd n i m) (upd cs i ys) X' ∧ Below B w (w1.setCell ⟨L, i, none⟩ v') := by
  have hLlt := h.lt
  have hsz := hg.size
  rw [World.size_alloc] at hsz
  have keep : ∀ k, k < w.heap.size → (v i).ownBlock ≠ some k → w1.heap[k]? = w.heap[k]? := fun k hk hne => by
    rw [hg.block k (by simp; omega) (fun e => hne e.symm), Below.heap_alloc _ _ _ hk]
  have keep2 : ∀ k, k < w.heap.size → (v i).ownBlock ≠ some k → k ≠ L → (w1.setCell ⟨L, i, none⟩ v').heap[k]? = w.heap[k]? := fun k hk hne hl => by
    rw [Below.heap_setCell _ _ _ _ (by show k ≠ L; exact hl), keep k hk hne]
  have new : ∀ k, v'.ownBlock = some k → (v i).ownBlock = some k ∨ w.heap.size < k := fun k hk => by
    rcases hat with e | e
    · exact .inl (by rw [← e]; exact hk)
    · right
      rw [hk] at e
      have := Option.some.inj e
      omega
  refine ⟨⟨?_, h.base, fun j hj => ?_, fun j hj => ?_, fun a b k ha hb hab hk => ?_, fun W hW => hX W fun k hBk hk hf => ?_⟩, ?_⟩
  · rw [← upd_four v v' i hi]
    exact heap_put ((keep L hLlt (h.noL i hi)).trans h.blk) _
  · by_cases hij : j = i
    · subst hij
      rw [upd_at, upd_at, upd_at]
      refine owns_keep hown fun k hk => Below.heap_setCell _ _ _ _ (by
        show k ≠ L
        rintro rfl
        rcases new _ hk with e | e
        · exact h.noL _ hi e
        · omega)
    · rw [upd_ne _ _ _ hij, upd_ne _ _ _ hij, upd_ne _ _ _ hij]
      refine owns_keep (h.own j hj) fun k hk => keep2 k ((h.own j hj).lt k hk).2 (h.apart j i k hj hi hij hk) (by rintro rfl; exact h.noL j hj hk)
  · by_cases hij : j = i
    · subst hij
      rw [upd_at]
      intro hk
      rcases new _ hk with e | e
      · exact h.noL _ hi e
      · omega
    · rw [upd_ne _ _ _ hij]
      exact h.noL j hj
  · by_cases hai : a = i
    · subst hai
      rw [upd_at] at hk
      rw [upd_ne _ _ _ (fun e => hab e.symm)]
      intro hbk
      rcases new _ hk with e | e
      · exact h.apart a b k ha hb hab e hbk
      · have := ((h.own b hb).lt k hbk).2
        omega
    · rw [upd_ne _ _ _ hai] at hk
      by_cases hbi : b = i
      · subst hbi
        rw [upd_at]
        intro hbk
        rcases new _ hbk with e | e
        · exact h.apart a b k ha hb hab hk e
        · have := ((h.own a ha).lt k hk).2
          omega
      · rw [upd_ne _ _ _ hbi]
        exact h.apart a b k ha hb hab hk
  · have hnf : ¬ foot4 L (upd v i v') k := by
      rintro (rfl | ⟨j, hj, hjk⟩)
      · exact hf (.inl rfl)
      · by_cases hij : j = i
        · subst hij
          rw [upd_at] at hjk
          rcases new _ hjk with e | e
          · exact hf (.inr ⟨j, hj, e⟩)
          · omega
        · rw [upd_ne _ _ _ hij] at hjk
          exact hf (.inr ⟨j, hj, hjk⟩)
    rw [hW k hBk (by simp only [World.setCell, Array.size_modify]; omega) hnf]
    exact keep2 k hk (fun e => hf (.inr ⟨i, hi, e⟩)) (fun e => hf (.inl e))
  · have h1 : Below B w w1 := ((Below.refl B w).alloc (by have := h.base; omega) o).grown hg (by have := h.base; simp; omega) (fun k hk => ((h.own i hi).lt k hk).1)
    exact h1.setCell h.base _

/-- How many, and which cells. -/
def nOf (l : Lay) : Nat → Nat
  | 0 => l.sections.length
  | 1 => l.points.length
  | 2 => l.signals.length
  | _ => l.routes.length
def csOf (l : Lay) (rs : List RtV) : Nat → List Value
  | 0 => l.sections.flatMap sC
  | 1 => l.points.flatMap pC
  | 2 => l.signals.flatMap sC
  | _ => rs.flatMap rC

theorem L4.rd {l : Lay} {rs : List RtV} (h : L4 w B L v (nOf l) (csOf l rs) (fun W => ∀ x ∈ rs, RtAt W x)) (hm : rs.map (·.1) = l.routes) : LayRd w v l rs := by
  have hl : l.routes.length = rs.length := by rw [← hm, List.length_map]
  refine ⟨rowAt_of_owns (fun _ => rfl) (h.own 0 (by omega)), rowAt_of_owns (fun _ => rfl) (h.own 1 (by omega)), rowAt_of_owns (fun _ => rfl) (h.own 2 (by omega)), rowAt_of_owns (base := B) (e := 33) (fun _ => rfl) ?_, hm, h.inn w fun _ _ _ _ => rfl⟩
  have := h.own 3 (by omega)
  rw [show nOf l 3 = rs.length from hl] at this
  exact this


/-- Behind an append: the layout's own cells as they were. -/
theorem L4.after (h : L4 w B L v n cs X) {i : Nat} (hi : i < 4) {o : Obj} {w1 : World} (hg : (w.alloc o).grownBy w1 (v i).ownBlock) :
    w1.cell? ⟨L, 0, none⟩ = some (v 0) ∧ w1.cell? ⟨L, 1, none⟩ = some (v 1) ∧ w1.cell? ⟨L, 2, none⟩ = some (v 2) ∧ w1.cell? ⟨L, 3, none⟩ = some (v 3) ∧ ∀ j, w1.frozen? ⟨L, j, none⟩ = false := by
  have hb : w1.heap[L]? = some (.cells #[v 0, v 1, v 2, v 3] 26 (0, 0)) := by
    rw [hg.block L (by have := h.lt; simp; omega) (fun e => h.noL i hi e.symm), Below.heap_alloc _ _ _ h.lt]
    exact h.blk
  refine ⟨?_, ?_, ?_, ?_, fun j => ?_⟩ <;> simp [World.cell?, World.frozen?, hb]
/-- A name of two letters. -/
def nm (a k : Nat) : ByteArray := strOfNums [(a : Int), 97 + (k : Int)]
theorem conv_two (a : Nat) (k : Nat) (W : World) : (convert 27 9 (.slice (some ⟨W.heap.size, 0, none⟩) 2 2)).run Try.prog (W.alloc (.cells #[.int .u8 (a : Int), .int .u8 (97 + (k : Int))] 5)) = .ok (.string (nm a k)) (W.alloc (.cells #[.int .u8 (a : Int), .int .u8 (97 + (k : Int))] 5)) :=
  run_convert_bytes_arg (P := Try.prog) (W.alloc (.cells #[.int .u8 (a : Int), .int .u8 (97 + (k : Int))] 5)) 27 5 Try.underlying27 Try.underlying5 W.heap.size 0 2 2 [(a : Int), 97 + (k : Int)] rfl (fun i hi => by
    match i, hi with
    | 0, _ => simp
    | 1, _ => simp) 9 Try.underlying9
end Go.Proofs.Ytceebimgfajbcaa
