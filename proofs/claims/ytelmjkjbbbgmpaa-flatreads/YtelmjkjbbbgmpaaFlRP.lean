/-
  Package flat, plain: what Lay lays, what Read reads.
-/
import Derived.Test.YtelmjkjbbbgmpaaFlTP
import Derived.Test.YtelmjkjbbbgmpaaCrRef
namespace Go.Proofs.Ytelmjkjbbbgmpaa
open Go.RowKit

def stateS : ByteArray := ⟨#[115, 116, 97, 116, 101]⟩
theorem ftoList_eq (a b : ByteArray) : (a.toList == b.toList) = decide (a = b) := by
  rw [Lib.toList_data, Lib.toList_data, Bool.eq_iff_iff]
  simp only [beq_iff_eq, decide_eq_true_eq]
  exact ⟨fun h => ByteArray.ext (Array.ext' h), fun h => by rw [h]⟩
theorem ftoList_ne (a b : ByteArray) : (a.toList != b.toList) = !decide (a = b) := by
  rw [bne, ftoList_eq]
/-- The numbers behind the first thing. -/
def nuT (l : List It) : Nat → Option (List Int)
  | 0 => some []
  | k + 1 => (nuT l k).bind fun acc => match l[k + 1]? with
    | some (.inl n) => some (acc ++ [n])
    | _ => none
def headB (l : List It) : Bool := decide (textOf (itAt l 0) = (stateS, true))
def numV (l : List It) : Option (List Int) := if headB l = true then nuT l (l.length - 1) else none
def readN (n : List Int) : Option (Int × Int × List Rs) := if n.length < 3 then none else (takeV (n.drop 3)).bind fun r => if n.getD 2 0 = (r.length : Int) then some (n.getD 0 0, n.getD 1 0, r) else none
/-- What was laid. -/
def readV (l : List It) : Option (Int × Int × List Rs) := (numV l).bind readN
def numsV (ep ct : Int) (l : List Rs) : List Int := [ep, ct, (l.length : Int)] ++ ofV l
/-- All of a unit as things. -/
def layV (ep ct : Int) (l : List Rs) : List It := .inr (.inl stateS) :: (numsV ep ct l).map .inl
theorem nuT_next {l : List It} {k : Nat} {acc : List Int} {n : Int} (h : nuT l k = some acc) (hx : l[k + 1]? = some (.inl n)) : nuT l (k + 1) = some (acc ++ [n]) := by
  rw [nuT, h]
  simp only [Option.bind_some, hx]
theorem nuT_none {l : List It} {k : Nat} (h : nuT l k = none) : ∀ m, k ≤ m → nuT l m = none
  | 0, hm => by rw [show k = 0 by omega] at h; exact h
  | m + 1, hm => by
    by_cases he : k = m + 1
    · rw [← he]; exact h
    · rw [nuT, nuT_none h m (by omega), Option.bind_none]
theorem nuT_stop {l : List It} {k : Nat} (hx : ∀ n, l[k + 1]? ≠ some (.inl n)) (m : Nat) (hm : k < m) : nuT l m = none := by
  refine nuT_none (k := k + 1) ?_ m hm
  rw [nuT]
  cases nuT l k with
  | none => rfl
  | some acc =>
    show (match l[k + 1]? with
      | some (.inl n) => some (acc ++ [n])
      | _ => none) = none
    cases h : l[k + 1]? with
    | none => rfl
    | some x =>
      rcases x with n | x
      · exact absurd h (hx n)
      · rfl
theorem nuT_len {l : List It} : ∀ {k : Nat} {acc : List Int}, nuT l k = some acc → acc.length = k
  | 0, acc, h => by injection h with h; rw [← h]; rfl
  | k + 1, acc, h => by
    rw [nuT] at h
    cases h1 : nuT l k with
    | none => rw [h1] at h; cases h
    | some a =>
      rw [h1] at h
      simp only [Option.bind_some] at h
      split at h
      · injection h with h
        rw [← h, List.length_append, nuT_len h1]
        rfl
      · cases h
theorem nuT_lay (s : ByteArray) (n : List Int) : ∀ k, k ≤ n.length → nuT (.inr (.inl s) :: n.map .inl) k = some (n.take k)
  | 0, _ => rfl
  | k + 1, hk => by
    obtain ⟨x, hx⟩ := at_of (l := n) (k := k) (by omega)
    rw [take_next hx]
    refine nuT_next (nuT_lay s n k (by omega)) ?_
    rw [List.getElem?_cons_succ, List.getElem?_map, hx]
    rfl
theorem nums_len (ep ct : Int) (l : List Rs) : (numsV ep ct l).length = 3 + 4 * l.length := by
  rw [numsV, List.length_append, of_len]
  rfl
theorem lay_len (ep ct : Int) (l : List Rs) : (layV ep ct l).length = 4 + 4 * l.length := by
  rw [layV, List.length_cons, List.length_map, nums_len]
  omega
theorem read_lay (ep ct : Int) (l : List Rs) : readV (layV ep ct l) = some (ep, ct, l) := by
  have h1 : headB (layV ep ct l) = true := decide_eq_true rfl
  have h2 : nuT (layV ep ct l) ((layV ep ct l).length - 1) = some (numsV ep ct l) := by
    rw [lay_len, layV, nuT_lay _ _ _ (by rw [nums_len]; omega), List.take_of_length_le (by rw [nums_len]; omega)]
  rw [readV, numV, if_pos h1, h2]
  show readN (numsV ep ct l) = _
  have h3 : (numsV ep ct l).drop 3 = ofV l := rfl
  rw [readN, if_neg (by rw [nums_len]; omega), h3, take_of]
  show (if (l.length : Int) = (l.length : Int) then some (ep, ct, l) else none) = _
  rw [if_pos rfl]
theorem readN_none {n : List Int} (h : readN n = none) (h3 : 3 ≤ n.length) : takeV (n.drop 3) = none ∨ ∃ r, takeV (n.drop 3) = some r ∧ n.getD 2 0 ≠ (r.length : Int) := by
  rw [readN, if_neg (by omega)] at h
  cases ht : takeV (n.drop 3) with
  | none => exact .inl rfl
  | some r =>
    refine .inr ⟨r, rfl, fun e => ?_⟩
    rw [ht] at h
    simp only [Option.bind_some, if_pos e] at h
    cases h
theorem headB_iff {l : List It} : headB l = true ↔ ∃ rest, l = .inr (.inl stateS) :: rest := by
  constructor
  · intro h
    have := of_decide_eq_true h
    rcases l with _ | ⟨x, l⟩
    · cases this
    · rcases x with n | s | b
      · cases this
      · have hs : s = stateS := congrArg Prod.fst this
        exact ⟨l, by rw [hs]⟩
      · cases this
  · rintro ⟨rest, rfl⟩
    exact decide_eq_true rfl
end Go.Proofs.Ytelmjkjbbbgmpaa
