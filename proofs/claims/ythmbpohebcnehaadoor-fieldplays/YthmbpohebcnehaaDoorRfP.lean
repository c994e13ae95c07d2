/-
  The reference's field in memory of the call's own: what may turn of it, how it is stored.
-/
import Derived.Test.YthmbpohebcnehaaDoorFdNew
namespace Go.Proofs.YthmbpohebcnehaaDoor
open Go.RowKit

def towF (pts : List Pt) : List Int := pts.map (·.2.1)
def drvF (pts : List Pt) : List Int := pts.map (·.2.2)
theorem liesF_set (l : List Pt) (k : Nat) (p : Pt) : liesF (l.set k p) = (liesF l).set k p.1 := by simp [liesF, List.map_set]
theorem towF_set (l : List Pt) (k : Nat) (p : Pt) : towF (l.set k p) = (towF l).set k p.2.1 := by simp [towF, List.map_set]
theorem drvF_set (l : List Pt) (k : Nat) (p : Pt) : drvF (l.set k p) = (drvF l).set k p.2.2 := by simp [drvF, List.map_set]
theorem liesF_at {l : List Pt} {k : Nat} {p : Pt} (h : l[k]? = some p) : (liesF l)[k]? = some p.1 := by simp [liesF, h]
theorem towF_at {l : List Pt} {k : Nat} {p : Pt} (h : l[k]? = some p) : (towF l)[k]? = some p.2.1 := by simp [towF, h]
theorem drvF_at {l : List Pt} {k : Nat} {p : Pt} (h : l[k]? = some p) : (drvF l)[k]? = some p.2.2 := by simp [drvF, h]
theorem liesF_len (l : List Pt) : (liesF l).length = l.length := by simp [liesF]
theorem towF_len (l : List Pt) : (towF l).length = l.length := by simp [towF]
theorem drvF_len (l : List Pt) : (drvF l).length = l.length := by simp [drvF]
theorem set_same {α : Type} {l : List α} {k : Nat} {x : α} (h : l[k]? = some x) : l.set k x = l := by
  apply List.ext_getElem?
  intro j
  by_cases hj : j = k
  · subst hj
    rw [List.getElem?_set_self (List.getElem?_eq_some_iff.1 h).1, h]
  · rw [List.getElem?_set_ne (Ne.symm hj)]

theorem owns_set {W : World} {B g n k : Nat} {e : TypeId} {v x : Value} {xs : List Value} (h : W.ownsRow B e 1 v n xs) (hv : v.ownBlock = some g) (hk : k < n) : (W.setCell ⟨g, k, none⟩ x).ownsRow B e 1 v n (xs.set k x) := by
  refine ⟨by rw [List.length_set]; exact h.1, ?_⟩
  rcases h.2 with ⟨e0, hn⟩ | ⟨g', cap, cur, rfl, hB, hg, hnc, hm, hs, ht⟩
  · omega
  · have hgg : g' = g := by simpa [Value.ownBlock] using hv
    subst hgg
    refine .inr ⟨g', cap, cur.setIfInBounds k x, rfl, hB, heap_put hg x, hnc, hm, by simpa using hs, ?_⟩
    rw [Array.toList_setIfInBounds, List.take_set, ht]

structure RfAt (W : World) (B xb br bt bd : Nat) (vl : Value) (occ : List Bool) (li tw dr : List Int) : Prop where
  hx : W.heap[xb]? = some (.cells #[.slice (some ⟨br, 0, none⟩) occ.length occ.length, vl, .slice (some ⟨bt, 0, none⟩) li.length li.length, .slice (some ⟨bd, 0, none⟩) li.length li.length] 49 (0, 0))
  ho : W.heap[br]? = some (.cells (occ.map Value.bool).toArray 4 (0, 0))
  hl : W.ownsRow B 3 1 vl li.length (li.flatMap iC)
  ht : W.heap[bt]? = some (.cells (tw.map (Value.int .i64)).toArray 3 (0, 0))
  hd : W.heap[bd]? = some (.cells (dr.map (Value.int .i64)).toArray 3 (0, 0))
  base : B ≤ xb ∧ B ≤ br ∧ B ≤ bt ∧ B ≤ bd
  ne : bt ≠ bd ∧ vl.ownBlock ≠ some bt ∧ vl.ownBlock ≠ some bd
  n : tw.length = li.length ∧ dr.length = li.length
  few : occ.length ≤ 1000 ∧ li.length ≤ 1000

def rfFoot (br bt bd : Nat) (vl : Value) (k : Nat) : Prop := k = br ∨ k = bt ∨ k = bd ∨ vl.ownBlock = some k

variable {W W' : World} {B xb br bt bd : Nat} {vl : Value} {occ : List Bool} {li tw dr : List Int}
theorem blk_type {W : World} {a b : Nat} {c c' : Array Value} {t t' : TypeId} {z z' : Nat × Nat} (h : W.heap[a]? = some (.cells c t z)) (h' : W.heap[b]? = some (.cells c' t' z')) (ht : t ≠ t') : a ≠ b := fun e => by
  rw [e, h'] at h
  injection h with h
  injection h with h1 h2 h3
  exact ht h2.symm
theorem RfAt.keep (h : RfAt W B xb br bt bd vl occ li tw dr) (hk : ∀ k, k < W.heap.size → k = xb ∨ rfFoot br bt bd vl k → W'.heap[k]? = W.heap[k]?) : RfAt W' B xb br bt bd vl occ li tw dr :=
  ⟨(hk _ (Array.getElem?_eq_some_iff.1 h.hx).1 (.inl rfl)).trans h.hx, (hk _ (Array.getElem?_eq_some_iff.1 h.ho).1 (.inr (.inl rfl))).trans h.ho, owns_keep h.hl fun k e => hk k (h.hl.lt k e).2 (.inr (.inr (.inr (.inr e)))),
    (hk _ (Array.getElem?_eq_some_iff.1 h.ht).1 (.inr (.inr (.inl rfl)))).trans h.ht, (hk _ (Array.getElem?_eq_some_iff.1 h.hd).1 (.inr (.inr (.inr (.inl rfl))))).trans h.hd, h.base, h.ne, h.n, h.few⟩
theorem RfAt.below (h : RfAt W B xb br bt bd vl occ li tw dr) (hb : Below W.heap.size W W') : RfAt W' B xb br bt bd vl occ li tw dr := h.keep fun k hk _ => hb.block k hk
theorem RfAt.foot (h : RfAt W B xb br bt bd vl occ li tw dr) {k : Nat} (hk : rfFoot br bt bd vl k) : B ≤ k := by
  rcases hk with rfl | rfl | rfl | e
  · exact h.base.2.1
  · exact h.base.2.2.1
  · exact h.base.2.2.2
  · exact (h.hl.lt k e).1
theorem RfAt.cells (h : RfAt W B xb br bt bd vl occ li tw dr) : W.cell? ⟨xb, 0, none⟩ = some (.slice (some ⟨br, 0, none⟩) occ.length occ.length) ∧ W.cell? ⟨xb, 1, none⟩ = some vl ∧ W.cell? ⟨xb, 2, none⟩ = some (.slice (some ⟨bt, 0, none⟩) li.length li.length) ∧ W.cell? ⟨xb, 3, none⟩ = some (.slice (some ⟨bd, 0, none⟩) li.length li.length) := (cells4 h.hx).1
theorem RfAt.slot (h : RfAt W B xb br bt bd vl occ li tw dr) (h0 : 0 < li.length) : ∃ gl c, vl = .slice (some ⟨gl, 0, none⟩) li.length c ∧ gl ≠ xb ∧ gl ≠ br ∧ gl ≠ bt ∧ gl ≠ bd ∧ (∀ (k : Nat) (x : Int), li[k]? = some x → W.cell? ⟨gl, k, none⟩ = some (.int .i64 x)) ∧ ∀ k, W.frozen? ⟨gl, k, none⟩ = false := by
  rcases h.hl.2 with ⟨_, e0⟩ | ⟨g, cap, cur, rfl, _, hg, _⟩
  · omega
  · refine ⟨g, cap, rfl, owns_ne h.hl h.hx (by decide) g rfl, owns_ne h.hl h.ho (by decide) g rfl, fun e => h.ne.2.1 (by rw [← e]; rfl), fun e => h.ne.2.2 (by rw [← e]; rfl), fun k x hx => ?_, fun k => froz2 hg k⟩
    have := h.hl.cells (g := g) rfl k (.int .i64 x) (by rw [← map_flat_i, List.getElem?_map, hx]; rfl)
    rwa [addr_add] at this
theorem row_cell {W : World} {b : Nat} {l : List Int} (h : W.heap[b]? = some (.cells (l.map (Value.int .i64)).toArray 3 (0, 0))) {k : Nat} {x : Int} (hx : l[k]? = some x) : W.cell? ⟨b, k, none⟩ = some (.int .i64 x) := by
  simp only [World.cell?, h]
  simp [hx]
theorem bool_row {W : World} {b : Nat} {l : List Bool} (h : W.heap[b]? = some (.cells (l.map Value.bool).toArray 4 (0, 0))) {k : Nat} {x : Bool} (hx : l[k]? = some x) : W.cell? ⟨b, k, none⟩ = some (.bool x) := by
  simp only [World.cell?, h]
  simp [hx]
theorem row_put {W : World} {b : Nat} {l : List Int} (h : W.heap[b]? = some (.cells (l.map (Value.int .i64)).toArray 3 (0, 0))) (k : Nat) (x : Int) : (W.setCell ⟨b, k, none⟩ (.int .i64 x)).heap[b]? = some (.cells ((l.set k x).map (Value.int .i64)).toArray 3 (0, 0)) := by
  rw [heap_put h]
  congr 2
  apply Array.ext'
  simp
theorem chg_put {S : Nat → Prop} {W : World} {b : Nat} (k : Nat) (x : Value) (hb : S b) : Chg S W (W.setCell ⟨b, k, none⟩ x) :=
  ⟨rfl, rfl, rfl, by simp [World.setCell], fun j _ hf => Below.heap_setCell _ _ _ _ (by show j ≠ b; exact fun e => hf (e ▸ hb))⟩
theorem RfAt.put1 (h : RfAt W B xb br bt bd vl occ li tw dr) (k : Nat) (x : Bool) : RfAt (W.setCell ⟨br, k, none⟩ (.bool x)) B xb br bt bd vl (occ.set k x) li tw dr ∧ Chg (rfFoot br bt bd vl) W (W.setCell ⟨br, k, none⟩ (.bool x)) := by
  have oth : ∀ j, j ≠ br → (W.setCell ⟨br, k, none⟩ (.bool x)).heap[j]? = W.heap[j]? := fun j hj => Below.heap_setCell _ _ _ _ (by exact hj)
  refine ⟨⟨?_, ?_, owns_keep h.hl fun j e => oth j (owns_ne h.hl h.ho (by decide) j e), (oth _ (blk_type h.ht h.ho (by decide))).trans h.ht, (oth _ (blk_type h.hd h.ho (by decide))).trans h.hd, h.base, h.ne, h.n, by rw [List.length_set]; exact h.few⟩, chg_put k _ (.inl rfl)⟩
  · rw [List.length_set]
    exact (oth _ (blk_type h.hx h.ho (by decide))).trans h.hx
  · rw [heap_put h.ho]
    congr 2
    apply Array.ext'
    simp
theorem RfAt.putT (h : RfAt W B xb br bt bd vl occ li tw dr) (k : Nat) (x : Int) : RfAt (W.setCell ⟨bt, k, none⟩ (.int .i64 x)) B xb br bt bd vl occ li (tw.set k x) dr ∧ Chg (rfFoot br bt bd vl) W (W.setCell ⟨bt, k, none⟩ (.int .i64 x)) := by
  have oth : ∀ j, j ≠ bt → (W.setCell ⟨bt, k, none⟩ (.int .i64 x)).heap[j]? = W.heap[j]? := fun j hj => Below.heap_setCell _ _ _ _ (by exact hj)
  exact ⟨⟨(oth _ (blk_type h.hx h.ht (by decide))).trans h.hx, (oth _ (blk_type h.ho h.ht (by decide))).trans h.ho, owns_keep h.hl fun j e => oth j fun e' => h.ne.2.1 (e' ▸ e), row_put h.ht k x, (oth _ (Ne.symm h.ne.1)).trans h.hd, h.base, h.ne, by rw [List.length_set]; exact h.n, h.few⟩, chg_put k _ (.inr (.inl rfl))⟩
theorem RfAt.putD (h : RfAt W B xb br bt bd vl occ li tw dr) (k : Nat) (x : Int) : RfAt (W.setCell ⟨bd, k, none⟩ (.int .i64 x)) B xb br bt bd vl occ li tw (dr.set k x) ∧ Chg (rfFoot br bt bd vl) W (W.setCell ⟨bd, k, none⟩ (.int .i64 x)) := by
  have oth : ∀ j, j ≠ bd → (W.setCell ⟨bd, k, none⟩ (.int .i64 x)).heap[j]? = W.heap[j]? := fun j hj => Below.heap_setCell _ _ _ _ (by exact hj)
  exact ⟨⟨(oth _ (blk_type h.hx h.hd (by decide))).trans h.hx, (oth _ (blk_type h.ho h.hd (by decide))).trans h.ho, owns_keep h.hl fun j e => oth j fun e' => h.ne.2.2 (e' ▸ e), (oth _ h.ne.1).trans h.ht, row_put h.hd k x, h.base, h.ne, by rw [List.length_set]; exact h.n, h.few⟩, chg_put k _ (.inr (.inr (.inl rfl)))⟩
theorem RfAt.putL (h : RfAt W B xb br bt bd vl occ li tw dr) {gl : Nat} (hg : vl.ownBlock = some gl) {k : Nat} (hk : k < li.length) (x : Int) : RfAt (W.setCell ⟨gl, k, none⟩ (.int .i64 x)) B xb br bt bd vl occ (li.set k x) tw dr ∧ Chg (rfFoot br bt bd vl) W (W.setCell ⟨gl, k, none⟩ (.int .i64 x)) := by
  have oth : ∀ j, j ≠ gl → (W.setCell ⟨gl, k, none⟩ (.int .i64 x)).heap[j]? = W.heap[j]? := fun j hj => Below.heap_setCell _ _ _ _ (by exact hj)
  refine ⟨⟨?_, (oth _ (Ne.symm (owns_ne h.hl h.ho (by decide) gl hg))).trans h.ho, ?_, (oth _ fun e => h.ne.2.1 (by rw [e]; exact hg)).trans h.ht, (oth _ fun e => h.ne.2.2 (by rw [e]; exact hg)).trans h.hd, h.base, h.ne, by rw [List.length_set]; exact h.n, by rw [List.length_set]; exact h.few⟩, chg_put k _ (.inr (.inr (.inr hg)))⟩
  · rw [List.length_set]
    exact (oth _ (Ne.symm (owns_ne h.hl h.hx (by decide) gl hg))).trans h.hx
  · have h1 := owns_set (x := .int .i64 x) h.hl hg hk
    rw [List.length_set, ← map_flat_i, List.map_set, map_flat_i]
    exact h1
end Go.Proofs.YthmbpohebcnehaaDoor
