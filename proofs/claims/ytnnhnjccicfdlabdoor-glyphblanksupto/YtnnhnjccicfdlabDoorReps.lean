/-
  Plain facts on texts that are one piece many times over.
-/
import Derived.Test.YtnnhnjccicfdlabDoorEnc
import Derived.Test.YtnnhnjccicfdlabDoorLeaf
import Derived.Test.YtnnhnjccicfdlabDoorLoops
namespace Go.Proofs.YtnnhnjccicfdlabDoor

def repL (l : List UInt8) (k : Nat) : List UInt8 := (List.replicate k l).flatten
theorem repL_length (l : List UInt8) (k : Nat) : (repL l k).length = k * l.length := by simp [repL]
theorem repL_succ (l : List UInt8) (k : Nat) : repL l (k + 1) = repL l k ++ l := by
  unfold repL
  rw [List.replicate_succ', List.flatten_append]
  simp
theorem repL_cons (l : List UInt8) (k : Nat) : repL l (k + 1) = l ++ repL l k := by
  unfold repL
  rw [List.replicate_succ, List.flatten_cons]

/-- A piece that is read as one rune, whatever stands behind it. -/
def oneRune (l : List UInt8) (r n : Nat) : Prop := ∀ rest, runes (l ++ rest) = (r, n) :: runes rest
theorem oneRune_encode (r : Int) (h0 : 0 ≤ r) (h1 : r ≤ 1114111) (h2 : ¬ (55296 ≤ r ∧ r ≤ 57343)) : oneRune (Utf8.encode r).data.toList r.toNat (Utf8.encode r).data.toList.length := fun rest => runes_encode r h0 h1 h2 rest
theorem oneRune_ascii (b : UInt8) (hb : b.toNat < 128) : oneRune [b] b.toNat 1 := fun rest => runes_ascii b hb rest
theorem runes_rep {l : List UInt8} {r n : Nat} (h : oneRune l r n) (rest : List UInt8) : ∀ k, runes (repL l k ++ rest) = List.replicate k (r, n) ++ runes rest
  | 0 => by simp [repL]
  | k + 1 => by
    rw [repL_cons, List.append_assoc, h, runes_rep h rest k, List.replicate_succ, List.cons_append]

theorem dec_ff (rest : List UInt8) : dec (255 :: rest) = (65533, 1) := by
  simp only [dec, List.getD_cons_zero]
  unfold Lib.decodeN
  rw [if_neg (by decide), if_neg (fun h => absurd h.1 (by decide)), if_neg (fun h => absurd h.1 (by decide)), if_neg (fun h => absurd h.1 (by decide))]
theorem runes_ff (rest : List UInt8) : runes (255 :: rest) = (65533, 1) :: runes rest := by
  rw [runes_cons _ (by simp), dec_ff]
  rfl
theorem wrongF_rep (x y : Nat × Nat) (hx : badB x = false) (hy : badB y = true) (rest : List (Nat × Nat)) : ∀ (k n : Nat), wrongF n (List.replicate k x ++ y :: rest) = some (n + k)
  | 0, n => by simp [wrongF, hy]
  | k + 1, n => by
    rw [List.replicate_succ, List.cons_append, wrongF, if_neg (by simp [hx]), wrongF_rep x y hx hy rest k (n + 1)]
    congr 1
    omega

/-- IsName of so many runes of one kind and what stands behind. -/
theorem nameF_rep (r n : Nat) (hr : letterB r = true) (rest : List (Nat × Nat)) : ∀ (k m : Nat), nameF m (List.replicate k (r, n) ++ rest) = if m + k ≤ 8 then nameF (m + k) rest else (if m ≤ 8 then false else nameF m (List.replicate k (r, n) ++ rest))
  | 0, m => by
    by_cases h : m ≤ 8
    · simp [h]
    · simp [h]
  | k + 1, m => by
    by_cases h : m ≤ 8
    · rw [List.replicate_succ, List.cons_append, nameF]
      by_cases h8 : m = 8
      · subst h8
        rw [if_pos (.inl rfl), if_neg (by omega), if_pos h]
      · rw [if_neg (by simp [h8, standB, hr]), nameF_rep r n hr rest k (m + 1)]
        have e : m + 1 + k = m + (k + 1) := by omega
        rw [e]
        by_cases hk : m + (k + 1) ≤ 8
        · rw [if_pos hk, if_pos hk]
        · rw [if_neg hk, if_neg hk, if_pos (by omega), if_pos h]
    · rw [if_neg (by omega), if_neg h]
theorem nameF_rep0 (r n : Nat) (hr : letterB r = true) (rest : List (Nat × Nat)) (k : Nat) : nameF 0 (List.replicate k (r, n) ++ rest) = if k ≤ 8 then nameF k rest else false := by
  rw [nameF_rep r n hr rest k 0, Nat.zero_add, if_pos (by omega : 0 ≤ 8)]

end Go.Proofs.YtnnhnjccicfdlabDoor
