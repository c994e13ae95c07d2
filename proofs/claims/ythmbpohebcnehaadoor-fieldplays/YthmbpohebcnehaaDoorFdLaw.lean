/-
  A field of the law's layout: New, Step, Stick, Train, In by contracts that carry all that a law needs.
-/
import Derived.Test.YthmbpohebcnehaaDoorFdNew
import Derived.Test.YthmbpohebcnehaaDoorFdOne
namespace Go.Proofs.YthmbpohebcnehaaDoor
open Go.RowKit

def fieldT (W : World) (k : Nat) : Prop := ∃ c t z, W.heap[k]? = some (.cells c t z) ∧ (t = 4 ∨ t = 63)
/-- Of what was there only fields' rows have turned. -/
def TF (W W' : World) : Prop := Chg (fieldT W) W W'
theorem TF.refl (W : World) : TF W W := Chg.refl _ _
theorem TF.of_below {W W' : World} (h : Below W.heap.size W W') : TF W W' := Chg.of_below h
theorem TF.blk {W W' : World} (h : TF W W') {b : Nat} {c : Array Value} {t : TypeId} {z : Nat × Nat} (hb : W.heap[b]? = some (.cells c t z)) (ht : t ≠ 4 ∧ t ≠ 63) : W'.heap[b]? = some (.cells c t z) := by
  refine (h.block b (Array.getElem?_eq_some_iff.1 hb).1 ?_).trans hb
  rintro ⟨c', t', z', hb', ht'⟩
  rw [hb] at hb'
  injection hb' with hb'
  injection hb' with h1 h2 h3
  subst h2
  rcases ht' with h | h
  · exact ht.1 h
  · exact ht.2 h

structure FdL (w0 W : World) (fb : Nat) (occ : List Bool) (pts : List Pt) : Prop where
  ex : ∃ bo bp, FdAt W w0.heap.size fb bo bp occ pts
  bl : Below w0.heap.size w0 W
theorem FdL.step {w0 W W' : World} {fb : Nat} {occ : List Bool} {pts : List Pt} (h : FdL w0 W fb occ pts) (hb : Below W.heap.size W W') : FdL w0 W' fb occ pts := by
  obtain ⟨bo, bp, h1⟩ := h.ex
  exact ⟨⟨bo, bp, h1.below hb⟩, h.bl.trans (hb.mono h.bl.size)⟩
theorem foot_T {W : World} {B fb bo bp : Nat} {occ : List Bool} {pts : List Pt} (h : FdAt W B fb bo bp occ pts) {k : Nat} (hk : fdFoot bo bp k) : fieldT W k := by
  rcases hk with rfl | rfl
  · exact ⟨_, _, _, h.ho, .inl rfl⟩
  · exact ⟨_, _, _, h.hp, .inr rfl⟩
theorem foot_B {W : World} {B fb bo bp : Nat} {occ : List Bool} {pts : List Pt} (h : FdAt W B fb bo bp occ pts) {k : Nat} (hk : fdFoot bo bp k) : B ≤ k := by
  rcases hk with rfl | rfl
  · exact h.base.2.1
  · exact h.base.2.2

theorem new_f (n : Nat) (w0 W : World) (v : Nat → Value) (h : LayRd W v (oneLay n) []) (hf : Few (oneLay n) [] v) (hi : isB (oneLay n) = true) (hn : n ≤ 100) (hb : Below w0.heap.size w0 W) :
    Calls Tryd.prog 6 #[.agg #[v 0, v 1, v 2, v 3]] W fun e w' => ∃ fb, e = .returned (.tuple #[.pointer (some ⟨fb, 0, none⟩), .int .i64 0]) ∧ FdL w0 w' fb [false] (List.replicate n (restF 1)) ∧ Below W.heap.size W w' := by
  refine (fdNew_ok v (oneLay n) [] W h hf.mid hi ⟨by simp [oneLay], by simp [oneLay, onePts_len]; omega⟩).mono ?_
  rintro e w' ⟨fb, bo, bp, rfl, h1, h2⟩
  refine ⟨fb, rfl, ⟨⟨bo, bp, ?_⟩, hb.trans (h2.mono hb.size)⟩, h2⟩
  have h3 := h1.lower hb.size
  rw [show (oneLay n).points.length = n from onePts_len n] at h3
  exact h3

theorem step_f (w0 W : World) (fb : Nat) (occ : List Bool) (pts : List Pt) (d : List Int) (g n c : Nat) (h : FdL w0 W fb occ pts) (hg : W.heap[g]? = some (.cells (d.map (Value.int .i64)).toArray 3 (0, 0))) (hn : d.length = n) (hl : n ≤ 1000) :
    Calls Tryd.prog 13 #[.pointer (some ⟨fb, 0, none⟩), .slice (some ⟨g, 0, none⟩) n c] W fun e w' => e = .returned (.tuple #[]) ∧ FdL w0 w' fb occ (stepF6 pts d) ∧ TF W w' := by
  subst hn
  obtain ⟨bo, bp, h1⟩ := h.ex
  refine (fdStep_any w0.heap.size fb bo bp occ pts _ d W h1 (fun W' hW => ?_) (by omega)).mono ?_
  · have hb : TF W W' := hW.mono fun k _ hk => foot_T h1 hk
    exact row_blk (cs := iC) (fun _ => rfl) d (hb.blk hg (by decide)) (by rw [← map_flat_i])
  · rintro e w' ⟨rfl, h2, h3⟩
    exact ⟨rfl, ⟨⟨bo, bp, h2⟩, h.bl.trans (h3.below (fun k hk => foot_B h1 hk) h.bl.size)⟩, h3.mono fun k _ hk => foot_T h1 hk⟩
theorem stick_f (w0 W : World) (fb : Nat) (occ : List Bool) (pts : List Pt) (i : Int) (h : FdL w0 W fb occ pts) (r : Int) (pts' : List Pt) (hr : stickF pts i = (r, pts')) :
    Calls Tryd.prog 10 #[.pointer (some ⟨fb, 0, none⟩), .int .i64 i] W fun e w' => e = .returned (.int .i64 r) ∧ FdL w0 w' fb occ pts' ∧ TF W w' := by
  obtain ⟨bo, bp, h1⟩ := h.ex
  refine (stick_any w0.heap.size fb bo bp occ pts i W h1).mono ?_
  rintro e w' ⟨rfl, h2, h3⟩
  rw [hr] at h2 ⊢
  exact ⟨rfl, ⟨⟨bo, bp, h2⟩, h.bl.trans (h3.below (fun k hk => foot_B h1 hk) h.bl.size)⟩, h3.mono fun k _ hk => foot_T h1 hk⟩
theorem train_f (w0 W : World) (fb : Nat) (occ : List Bool) (pts : List Pt) (i : Int) (h : FdL w0 W fb occ pts) (r : Int) (occ' : List Bool) (hr : trainF occ i = (r, occ')) :
    Calls Tryd.prog 8 #[.pointer (some ⟨fb, 0, none⟩), .int .i64 i] W fun e w' => e = .returned (.int .i64 r) ∧ FdL w0 w' fb occ' pts ∧ TF W w' := by
  obtain ⟨bo, bp, h1⟩ := h.ex
  refine (train_any w0.heap.size fb bo bp occ pts i W h1).mono ?_
  rintro e w' ⟨rfl, h2, h3⟩
  rw [hr] at h2 ⊢
  exact ⟨rfl, ⟨⟨bo, bp, h2⟩, h.bl.trans (h3.below (fun k hk => foot_B h1 hk) h.bl.size)⟩, h3.mono fun k _ hk => foot_T h1 hk⟩
theorem in_f (w0 W : World) (fb : Nat) (occ : List Bool) (pts : List Pt) (n m : Nat) (h : FdL w0 W fb occ pts) (hn : occ.length = n) (hm : pts.length = m) (h0 : 0 < n) :
    Calls Tryd.prog 16 #[.pointer (some ⟨fb, 0, none⟩)] W fun e w' => ∃ g c b, e = .returned (.agg #[.slice (some ⟨g, 0, none⟩) n c, .slice (some ⟨b, 0, none⟩) m m]) ∧ w'.ownsRow W.heap.size 4 1 (.slice (some ⟨g, 0, none⟩) n c) n (occ.flatMap bC) ∧ w'.heap[b]? = some (.cells ((liesF pts).map (Value.int .i64)).toArray 3 (0, 0)) ∧ W.heap.size ≤ b ∧ Below W.heap.size W w' := by
  subst hn hm
  obtain ⟨bo, bp, h1⟩ := h.ex
  refine (fdIn_any w0.heap.size fb bo bp occ pts W h1).mono ?_
  rintro e w' ⟨u0, b, rfl, h2, h3, h4, h5⟩
  rcases h2.2 with ⟨_, e0⟩ | ⟨g, cap, cur, rfl, _⟩
  · omega
  · exact ⟨g, cap, b, rfl, h2, h4, h3, h5⟩
theorem occ_cell {W : World} {base g n c : Nat} {l : List Bool} (h : W.ownsRow base 4 1 (.slice (some ⟨g, 0, none⟩) n c) n (l.flatMap bC)) {k : Nat} {x : Bool} (hx : l[k]? = some x) : W.cell? ⟨g, k, none⟩ = some (.bool x) := by
  have := h.cells (g := g) rfl k (.bool x) (by rw [← map_flat_b, List.getElem?_map, hx]; rfl)
  rwa [addr_add] at this
theorem lies_cell {W : World} {b : Nat} {l : List Int} (h : W.heap[b]? = some (.cells (l.map (Value.int .i64)).toArray 3 (0, 0))) {k : Nat} {x : Int} (hx : l[k]? = some x) : W.cell? ⟨b, k, none⟩ = some (.int .i64 x) := by
  simp only [World.cell?, h]
  simp [hx]

theorem step1 (p : Pt) (d : Int) (hd : noPos d = false) : stepF6 [p] [d] = [drivenF p d] := by simp [stepF6, mayDrB, stepAll, hd]
/-- So many Steps to one position. -/
def itF (d : Int) : Nat → Pt → Pt
  | 0, p => p
  | k + 1, p => drivenF (itF d k p) d
end Go.Proofs.YthmbpohebcnehaaDoor
