/-
  Package flat, plain: how routes stand, as numbers, and back.
-/
import Derived.Test.YtelmjkjbbbgmpaaFlArgs
namespace Go.Proofs.Ytelmjkjbbbgmpaa
open Go.RowKit

def seenI (b : Bool) : Int := if b = true then 1 else 0
def ofS (x : Rs) : List Int := [x.1, x.2.1, x.2.2.1, seenI x.2.2.2]
/-- Routes as numbers. -/
def ofV (l : List Rs) : List Int := l.flatMap ofS
def tkAt (n : List Int) (j : Nat) : Option Rs :=
  if n.getD (4 * j + 3) 0 = 0 ∨ n.getD (4 * j + 3) 0 = 1 then some (n.getD (4 * j) 0, n.getD (4 * j + 1) 0, n.getD (4 * j + 2) 0, decide (n.getD (4 * j + 3) 0 = 1)) else none
def tkT (n : List Int) : Nat → Option (List Rs)
  | 0 => some []
  | k + 1 => (tkT n k).bind fun l => (tkAt n k).map fun x => l ++ [x]
/-- Numbers as routes. -/
def takeV (n : List Int) : Option (List Rs) := if n.length % 4 = 0 then tkT n (n.length / 4) else none

theorem of_len (l : List Rs) : (ofV l).length = 4 * l.length := by
  induction l with
  | nil => rfl
  | cons x l ih => rw [ofV, List.flatMap_cons, List.length_append]; rw [ofV] at ih; rw [ih, List.length_cons]; show 4 + _ = _; omega
theorem of_snoc (l : List Rs) (x : Rs) : ofV (l ++ [x]) = ofV l ++ ofS x := by
  rw [ofV, List.flatMap_append, List.flatMap_cons, List.flatMap_nil, List.append_nil]
  rfl
theorem of_get : ∀ (l : List Rs) (j : Nat) (x : Rs) (i : Nat) (u : Int), l[j]? = some x → (ofS x)[i]? = some u → (ofV l)[4 * j + i]? = some u
  | y :: l, 0, x, i, u, h, hu => by
    simp at h
    subst h
    rw [ofV, List.flatMap_cons, Nat.mul_zero, Nat.zero_add, List.getElem?_append_left (List.getElem?_eq_some_iff.1 hu).1, hu]
  | y :: l, j + 1, x, i, u, h, hu => by
    have hs : (ofS y).length = 4 := rfl
    rw [ofV, List.flatMap_cons, List.getElem?_append_right (by rw [hs]; omega), hs, show 4 * (j + 1) + i - 4 = 4 * j + i by omega]
    exact of_get l j x i u (by simpa using h) hu
theorem seen_cases (b : Bool) : seenI b = 0 ∨ seenI b = 1 := by cases b <;> simp [seenI]
theorem seen_one (b : Bool) : decide (seenI b = 1) = b := by cases b <;> rfl
theorem seen_back {s : Int} (h : s = 0 ∨ s = 1) : seenI (decide (s = 1)) = s := by rcases h with h | h <;> subst h <;> rfl
theorem tkAt_of {l : List Rs} {j : Nat} {x : Rs} (h : l[j]? = some x) : tkAt (ofV l) j = some x := by
  have h0 : (ofV l).getD (4 * j) 0 = x.1 := getD_at (of_get l j x 0 _ h rfl)
  have h1 : (ofV l).getD (4 * j + 1) 0 = x.2.1 := getD_at (of_get l j x 1 _ h rfl)
  have h2 : (ofV l).getD (4 * j + 2) 0 = x.2.2.1 := getD_at (of_get l j x 2 _ h rfl)
  have h3 : (ofV l).getD (4 * j + 3) 0 = seenI x.2.2.2 := getD_at (of_get l j x 3 _ h rfl)
  rw [tkAt, h0, h1, h2, h3, if_pos (seen_cases _), seen_one]
theorem tkT_of (l : List Rs) : ∀ k, k ≤ l.length → tkT (ofV l) k = some (l.take k)
  | 0, _ => rfl
  | k + 1, hk => by
    obtain ⟨x, hx⟩ := at_of (l := l) (k := k) (by omega)
    rw [tkT, tkT_of l k (by omega), tkAt_of hx, take_next hx]
    rfl
theorem take_of (l : List Rs) : takeV (ofV l) = some l := by
  rw [takeV, of_len, if_pos (by omega), Nat.mul_div_cancel_left _ (by omega), tkT_of l _ (Nat.le_refl _), List.take_length]
theorem tkT_next {n : List Int} {k : Nat} {acc : List Rs} {x : Rs} (h : tkT n k = some acc) (hx : tkAt n k = some x) : tkT n (k + 1) = some (acc ++ [x]) := by
  rw [tkT, h, hx]
  rfl
theorem tkT_none {n : List Int} {k : Nat} (h : tkT n k = none) : ∀ m, k ≤ m → tkT n m = none
  | 0, hm => by rw [show k = 0 by omega] at h; exact h
  | m + 1, hm => by
    by_cases he : k = m + 1
    · rw [← he]; exact h
    · rw [tkT, tkT_none h m (by omega)]
      rfl
theorem tkT_stop {n : List Int} {k : Nat} (hx : tkAt n k = none) (m : Nat) (hm : k < m) : tkT n m = none :=
  tkT_none (k := k + 1) (by rw [tkT, hx]; cases tkT n k <;> rfl) m hm
theorem tkT_len {n : List Int} : ∀ {k : Nat} {acc : List Rs}, tkT n k = some acc → acc.length = k
  | 0, acc, h => by injection h with h; rw [← h]; rfl
  | k + 1, acc, h => by
    rw [tkT] at h
    cases h1 : tkT n k with
    | none => rw [h1] at h; cases h
    | some a =>
      rw [h1] at h
      cases h2 : tkAt n k with
      | none => rw [h2] at h; cases h
      | some x =>
        rw [h2] at h
        have h' : some (a ++ [x]) = some acc := h
        injection h' with h'
        rw [← h', List.length_append, tkT_len h1]
        rfl
theorem tkAt_some {n : List Int} {j : Nat} {a b c s : Int} (h0 : n[4 * j]? = some a) (h1 : n[4 * j + 1]? = some b) (h2 : n[4 * j + 2]? = some c) (h3 : n[4 * j + 3]? = some s) (hs : s = 0 ∨ s = 1) : tkAt n j = some (a, b, c, decide (s = 1)) := by
  rw [tkAt, getD_at h0, getD_at h1, getD_at h2, getD_at h3, if_pos hs]
theorem tkAt_none {n : List Int} {j : Nat} {s : Int} (h3 : n[4 * j + 3]? = some s) (hs : ¬ (s = 0 ∨ s = 1)) : tkAt n j = none := by
  rw [tkAt, getD_at h3, if_neg hs]
theorem tkT_back {n : List Int} : ∀ {k : Nat} {acc : List Rs}, tkT n k = some acc → 4 * k ≤ n.length → ofV acc = n.take (4 * k)
  | 0, acc, h, _ => by injection h with h; rw [← h]; rfl
  | k + 1, acc, h, hk => by
    rw [tkT] at h
    cases h1 : tkT n k with
    | none => rw [h1] at h; cases h
    | some a =>
      rw [h1] at h
      obtain ⟨x0, e0⟩ := at_of (l := n) (k := 4 * k) (by omega)
      obtain ⟨x1, e1⟩ := at_of (l := n) (k := 4 * k + 1) (by omega)
      obtain ⟨x2, e2⟩ := at_of (l := n) (k := 4 * k + 2) (by omega)
      obtain ⟨x3, e3⟩ := at_of (l := n) (k := 4 * k + 3) (by omega)
      by_cases hs : x3 = 0 ∨ x3 = 1
      · rw [tkAt_some e0 e1 e2 e3 hs] at h
        have h' : some (a ++ [(x0, x1, x2, decide (x3 = 1))]) = some acc := h
        injection h' with h'
        rw [← h', of_snoc, tkT_back h1 (by omega), show 4 * (k + 1) = 4 * k + 1 + 1 + 1 + 1 by omega, take_next e3, take_next e2, take_next e1, take_next e0]
        have hb := seen_back hs
        simp only [ofS, hb, List.append_assoc, List.cons_append, List.nil_append]
      · rw [tkAt_none e3 hs] at h
        cases h
theorem of_take {n : List Int} {l : List Rs} (h : takeV n = some l) : ofV l = n := by
  unfold takeV at h
  split at h
  · rename_i h4
    rw [tkT_back h (by omega), List.take_of_length_le (by omega)]
  · cases h
theorem take_len {n : List Int} {l : List Rs} (h : takeV n = some l) : n.length = 4 * l.length := by rw [← of_take h, of_len]
theorem one_rs (x : Rs) : ∀ u ∈ rsC x, u.oneCell' = true := by
  intro u hu
  simp [rsC] at hu
  rcases hu with h | h | h | h <;> subst h <;> rfl
theorem cells_rs (l : List Rs) : ∀ u ∈ l.flatMap rsC, u.oneCell' = true := by
  intro u hu
  obtain ⟨x, _, h⟩ := List.mem_flatMap.1 hu
  exact one_rs x u h
theorem infoRs : (Try.prog.info? 62).map (fun i => (i.zero, i.size, i.bytes)) = some (some (.agg #[.int .i64 0, .int .i64 0, .int .i64 0, .bool false]), 4, 32) := by kernel_rfl
/-- A row of routes' states of the call's own. -/
def SRow (w : World) (B : Nat) (v : Value) (l : List Rs) : Prop := w.ownsRow B 62 4 v l.length (l.flatMap rsC)
theorem SRow.row {w : World} {B : Nat} {v : Value} {l : List Rs} (h : SRow w B v l) : rowAt w v 4 rsC l := rowAt_of_owns (fun _ => rfl) h
theorem SRow.below {w w' : World} {B : Nat} {v : Value} {l : List Rs} (h : SRow w B v l) (hb : Below w.heap.size w w') : SRow w' B v l := owns_below h hb
theorem row_rs {w : World} {o : Option Addr} {n c : Nat} {l : List Rs} (h : rowAt w (.slice o n c) 4 rsC l) : ∀ j x, l[j]? = some x → ∃ g off, o = some ⟨g, off, none⟩ ∧ w.cell? ⟨g, off + j * 4, none⟩ = some (.int .i64 x.1) ∧ w.cell? ⟨g, off + j * 4 + 1, none⟩ = some (.int .i64 x.2.1) ∧ w.cell? ⟨g, off + j * 4 + 2, none⟩ = some (.int .i64 x.2.2.1) ∧ w.cell? ⟨g, off + j * 4 + 3, none⟩ = some (.bool x.2.2.2) := fun j x hj => by
  obtain ⟨o', c', e, h2⟩ := h
  injection e with e1 e2 e3
  obtain ⟨g, off, e4, hc⟩ := h2 j x hj
  exact ⟨g, off, e1.trans e4, by simpa using hc 0 _ rfl, hc 1 _ rfl, hc 2 _ rfl, hc 3 _ rfl⟩
end Go.Proofs.Ytelmjkjbbbgmpaa
