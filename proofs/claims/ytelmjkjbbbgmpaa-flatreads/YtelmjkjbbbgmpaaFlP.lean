/-
  Package flat, plain: changes of rows of numbers, laid over them.
-/
import Derived.Test.YtelmjkjbbbgmpaaFlBase
namespace Go.Proofs.Ytelmjkjbbbgmpaa
open Go.RowKit

/-- A change: where, to what. -/
abbrev Ch := Int × Int
def chC (x : Ch) : List Value := [.int .i64 x.1, .int .i64 x.2]
def diffT (a b : List Int) : Nat → List Ch
  | 0 => []
  | k + 1 => if a.getD k 0 = b.getD k 0 then diffT a b k else diffT a b k ++ [((k : Int), b.getD k 0)]
/-- What is another one. -/
def diffV (a b : List Int) : List Ch := diffT a b a.length
def applyS (a : List Int) (c : Ch) : Option (List Int) := if 0 ≤ c.1 ∧ c.1 < (a.length : Int) then some (a.set c.1.toNat c.2) else none
/-- A row with changes. -/
def applyV (a : List Int) : List Ch → Option (List Int)
  | [] => some a
  | c :: l => (applyS a c).bind fun b => applyV b l
theorem diffT_len (a b : List Int) : ∀ k, (diffT a b k).length ≤ k
  | 0 => Nat.le_refl _
  | k + 1 => by
    have := diffT_len a b k
    rw [diffT]
    split
    · omega
    · rw [List.length_append]; simp only [List.length_cons, List.length_nil]; omega
theorem diffT_eq {a b : List Int} {k : Nat} {x : Int} (ha : a[k]? = some x) (hb : b[k]? = some x) : diffT a b (k + 1) = diffT a b k := by
  rw [diffT, if_pos (by rw [getD_at ha, getD_at hb])]
theorem diffT_ne {a b : List Int} {k : Nat} {x y : Int} (ha : a[k]? = some x) (hb : b[k]? = some y) (h : x ≠ y) : diffT a b (k + 1) = diffT a b k ++ [((k : Int), y)] := by
  rw [diffT, if_neg (by rw [getD_at ha, getD_at hb]; exact h), getD_at hb]
theorem applyV_append (l m : List Ch) : ∀ a, applyV a (l ++ m) = (applyV a l).bind fun b => applyV b m := by
  induction l with
  | nil => intro a; rfl
  | cons c l ih =>
    intro a
    show (applyS a c).bind (fun b => applyV b (l ++ m)) = ((applyS a c).bind fun b => applyV b l).bind fun b => applyV b m
    cases applyS a c with
    | none => rfl
    | some b => exact ih b
theorem applyS_len {a b : List Int} {c : Ch} (h : applyS a c = some b) : b.length = a.length := by
  unfold applyS at h
  split at h
  · injection h with h; rw [← h, List.length_set]
  · cases h
theorem take_next {α : Type} {l : List α} {k : Nat} {x : α} (h : l[k]? = some x) : l.take (k + 1) = l.take k ++ [x] := by
  rw [List.take_add_one, h]
  rfl
theorem applyV_next {a cur : List Int} {l : List Ch} {k : Nat} {c : Ch} (h : applyV a (l.take k) = some cur) (hc : l[k]? = some c) : applyV a (l.take (k + 1)) = applyS cur c := by
  rw [take_next hc, applyV_append, h]
  show (applyS cur c).bind (fun b => some b) = _
  cases applyS cur c <;> rfl
theorem applyV_none {a cur : List Int} {l : List Ch} {k : Nat} {c : Ch} (h : applyV a (l.take k) = some cur) (hc : l[k]? = some c) (hn : applyS cur c = none) : applyV a l = none := by
  have h1 := applyV_next h hc
  rw [hn] at h1
  have h2 := applyV_append (l.take (k + 1)) (l.drop (k + 1)) a
  rw [List.take_append_drop, h1] at h2
  exact h2
theorem applyV_len : ∀ {l : List Ch} {a b : List Int}, applyV a l = some b → b.length = a.length
  | [], a, b, h => by injection h with h; rw [h]
  | c :: l, a, b, h => by
    rw [applyV] at h
    cases hs : applyS a c with
    | none => rw [hs] at h; cases h
    | some d =>
      rw [hs] at h
      exact (applyV_len (l := l) h).trans (applyS_len hs)
theorem apply_diffT {a b : List Int} (hl : a.length = b.length) : ∀ k, k ≤ a.length → applyV a (diffT a b k) = some (b.take k ++ a.drop k)
  | 0, _ => rfl
  | k + 1, hk => by
    have ih := apply_diffT hl k (by omega)
    obtain ⟨x, hx⟩ := at_of (l := a) (k := k) (by omega)
    obtain ⟨y, hy⟩ := at_of (l := b) (k := k) (by omega)
    have hd : a.drop k = x :: a.drop (k + 1) := by
      obtain ⟨hlt, rfl⟩ := List.getElem?_eq_some_iff.1 hx
      exact List.drop_eq_getElem_cons hlt
    by_cases hxy : x = y
    · subst hxy
      rw [diffT_eq hx hy, ih, take_next hy, hd, List.append_assoc]
      rfl
    · rw [diffT_ne hx hy hxy, applyV_append, ih, take_next hy, hd]
      show (applyS (b.take k ++ x :: a.drop (k + 1)) ((k : Int), y)).bind (fun b => some b) = _
      have hlen : (b.take k).length = k := by rw [List.length_take]; omega
      unfold applyS
      rw [if_pos ⟨by omega, by rw [List.length_append, hlen, List.length_cons]; show (k : Int) < _; omega⟩]
      show some _ = _
      rw [Int.toNat_natCast, List.set_append, if_neg (by omega), hlen, Nat.sub_self, List.set_cons_zero, List.append_assoc]
      rfl
theorem apply_diff {a b : List Int} (hl : a.length = b.length) : applyV a (diffV a b) = some b := by
  rw [diffV, apply_diffT hl _ (Nat.le_refl _), hl, List.take_length, ← hl, List.drop_length, List.append_nil]
theorem diff_same (a : List Int) : ∀ k, diffT a a k = []
  | 0 => rfl
  | k + 1 => by rw [diffT, if_pos rfl, diff_same a k]
theorem diff_set (a : List Int) (i : Nat) (y : Int) (hi : i < a.length) (h : a.getD i 0 ≠ y) : ∀ k, diffT a (a.set i y) k = if i < k then [((i : Int), y)] else []
  | 0 => rfl
  | k + 1 => by
    have ih := diff_set a i y hi h k
    rw [diffT]
    by_cases hk : i = k
    · subst hk
      have hs : (a.set i y).getD i 0 = y := by rw [List.getD_eq_getElem?_getD, List.getElem?_set_self hi]; rfl
      rw [hs, if_neg h, ih, if_neg (by omega), if_pos (by omega)]
      rfl
    · have hs : (a.set i y).getD k 0 = a.getD k 0 := by rw [List.getD_eq_getElem?_getD, List.getElem?_set_ne hk, ← List.getD_eq_getElem?_getD]
      rw [hs, if_pos rfl, ih]
      by_cases hik : i < k
      · rw [if_pos hik, if_pos (by omega)]
      · rw [if_neg hik, if_neg (by omega)]
theorem flat_snoc {α : Type} (cs : α → List Value) (l : List α) (x : α) : (l ++ [x]).flatMap cs = l.flatMap cs ++ cs x := by
  rw [List.flatMap_append, List.flatMap_cons, List.flatMap_nil, List.append_nil]
theorem one_ch (x : Ch) : ∀ u ∈ chC x, u.oneCell' = true := by
  intro u hu
  simp [chC] at hu
  rcases hu with h | h <;> subst h <;> rfl
theorem cells_ch (l : List Ch) : ∀ u ∈ l.flatMap chC, u.oneCell' = true := by
  intro u hu
  obtain ⟨x, _, h⟩ := List.mem_flatMap.1 hu
  exact one_ch x u h
theorem infoCh : (Try.prog.info? 65).map (fun i => (i.zero, i.size, i.bytes)) = some (some (.agg #[.int .i64 0, .int .i64 0]), 2, 16) := by kernel_rfl
end Go.Proofs.Ytelmjkjbbbgmpaa
