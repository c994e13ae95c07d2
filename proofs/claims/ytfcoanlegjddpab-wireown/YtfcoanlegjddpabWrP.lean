/-
  Telegrams by themselves: numbers in bytes, things, bodies; what is packed, and what is read; the program's way of reading (anything, and packed again) answers as the document's.
-/
import Derived.Test.YtfcoanlegjddpabSmP
import Derived.Test.YtfcoanlegjddpabCrAdd
namespace Go.Proofs.Ytfcoanlegjddpab

/-- A number in some bytes, the highest first. -/
def bigV (n : Nat) : Nat → List (BitVec 8)
  | 0 => []
  | k + 1 => BitVec.ofNat 8 (n / 2 ^ (8 * k)) :: bigV n k
/-- The number that bytes are. -/
def numV (p : List (BitVec 8)) : Nat := p.foldl (fun n b => n * 256 + b.toNat) 0
def i64Of (n : Nat) : Int := if n < 2 ^ 63 then (n : Int) else (n : Int) - 2 ^ 64
def bytesS (s : ByteArray) : List (BitVec 8) := s.data.toList.map UInt8.toBitVec
def strV (p : List (BitVec 8)) : ByteArray := ⟨(p.map UInt8.ofBitVec).toArray⟩
def thingV : It → List (BitVec 8)
  | (.inl n) => 1#8 :: bigV (n % 2 ^ 64).toNat 8
  | (.inr (.inl s)) => 2#8 :: BitVec.ofNat 8 s.size :: bytesS s
  | (.inr (.inr b)) => [3#8, if b then 1#8 else 0#8]
def bodyV (l : List It) : List (BitVec 8) := BitVec.ofNat 8 l.length :: l.flatMap thingV
def longT : It → Bool
  | (.inr (.inl s)) => decide (200 < s.size)
  | _ => false
def telV (p : List (BitVec 8)) : List (BitVec 8) := bigV (sumV p).toNat 4 ++ (bigV p.length 2 ++ p)
def packV (l : List It) : Option (List (BitVec 8)) := if l.any longT then none else if 4000 < (bodyV l).length then none else some (telV (bodyV l))

/-- What the program reads: a thing, or nothing, and what is left. -/
def readT (r : List (BitVec 8)) : Option It × List (BitVec 8) :=
  let k := numV (r.take 1)
  let r1 := r.drop 1
  if k = 1 then (some (.inl (i64Of (numV (r1.take 8)))), r1.drop 8)
  else if k = 2 then (some (.inr (.inl (strV ((r1.drop 1).take (numV (r1.take 1)))))), (r1.drop 1).drop (numV (r1.take 1)))
  else if k = 3 then (some (.inr (.inr (decide (numV (r1.take 1) = 1)))), r1.drop 1)
  else (none, r1)
def putO (l : List It) : Option It → List It
  | some x => put l x
  | none => l
def readN : Nat → List (BitVec 8) → List It → List It
  | 0, _, l => l
  | n + 1, r, l => readN n (readT r).2 (putO l (readT r).1)
def readV (b : List (BitVec 8)) : List It := readN (numV ((b.drop 6).take 1)) ((b.drop 6).drop 1) []
def unpackV (b : List (BitVec 8)) : Option (List It) := if packV (readV b) = some b then some (readV b) else none

/-- The document's: the thing that bytes begin with, and how many these are. -/
def takeR : List (BitVec 8) → Option (It × Nat)
  | [] => none
  | k :: r => if k = 1#8 then (if 8 ≤ r.length then some (.inl (i64Of (numV (r.take 8))), 9) else none)
    else if k = 2#8 then (match r with
      | [] => none
      | n :: p => if n.toNat ≤ 200 ∧ n.toNat ≤ p.length then some (.inr (.inl (strV (p.take n.toNat))), 2 + n.toNat) else none)
    else if k = 3#8 then (match r with
      | [] => none
      | n :: _ => if n.toNat ≤ 1 then some (.inr (.inr (decide (n = 1#8))), 2) else none)
    else none
theorem takeR_one (r : List (BitVec 8)) : takeR (1#8 :: r) = if 8 ≤ r.length then some (.inl (i64Of (numV (r.take 8))), 9) else none := rfl
theorem takeR_two (n : BitVec 8) (p : List (BitVec 8)) : takeR (2#8 :: n :: p) = if n.toNat ≤ 200 ∧ n.toNat ≤ p.length then some (.inr (.inl (strV (p.take n.toNat))), 2 + n.toNat) else none := rfl
theorem takeR_three (n : BitVec 8) (p : List (BitVec 8)) : takeR (3#8 :: n :: p) = if n.toNat ≤ 1 then some (.inr (.inr (decide (n = 1#8))), 2) else none := rfl
theorem takeR_none (k : BitVec 8) (r : List (BitVec 8)) (h1 : k ≠ 1#8) (h2 : k ≠ 2#8) (h3 : k ≠ 3#8) : takeR (k :: r) = none := by
  unfold takeR
  simp [h1, h2, h3]
def thingsR : Nat → List (BitVec 8) → List It → Option (List It × List (BitVec 8))
  | 0, b, l => some (l, b)
  | n + 1, b, l => match takeR b with
    | none => none
    | some (t, k) => if l.length < 100 then thingsR n (b.drop k) (l ++ [t]) else none
def unpackR (b : List (BitVec 8)) : Option (List It) :=
  if b.length < 7 ∨ 4006 < b.length then none
  else if numV (b.take 4) ≠ (sumV (b.drop 6)).toNat ∨ numV ((b.drop 4).take 2) ≠ (b.drop 6).length then none
  else match thingsR (numV ((b.drop 6).take 1)) ((b.drop 6).drop 1) [] with
    | some (l, []) => some l
    | _ => none

/-! Numbers. -/
theorem big_len (n : Nat) : ∀ k, (bigV n k).length = k
  | 0 => rfl
  | k + 1 => by rw [bigV, List.length_cons, big_len n k]
theorem num_from (p : List (BitVec 8)) (a : Nat) : p.foldl (fun n b => n * 256 + b.toNat) a = a * 256 ^ p.length + numV p := by
  unfold numV
  induction p generalizing a with
  | nil => simp
  | cons x p ih =>
    rw [List.foldl_cons, ih, List.foldl_cons, ih (0 * 256 + x.toNat), List.length_cons, Nat.pow_succ]
    simp only [Nat.zero_mul, Nat.zero_add, Nat.add_mul]
    rw [Nat.mul_assoc, Nat.mul_comm 256]
    omega
theorem num_cons (x : BitVec 8) (p : List (BitVec 8)) : numV (x :: p) = x.toNat * 256 ^ p.length + numV p := by
  rw [numV, List.foldl_cons, num_from]
  simp
theorem num_snoc (p : List (BitVec 8)) (x : BitVec 8) : numV (p ++ [x]) = numV p * 256 + x.toNat := by
  simp [numV, List.foldl_append]
theorem num_lt : ∀ (p : List (BitVec 8)), numV p < 256 ^ p.length
  | [] => by decide
  | x :: p => by
    have h1 := num_lt p
    have h2 := x.isLt
    rw [num_cons, List.length_cons, Nat.pow_succ]
    have h3 : x.toNat * 256 ^ p.length ≤ 255 * 256 ^ p.length := Nat.mul_le_mul_right _ (by omega)
    omega
theorem pow8 (k : Nat) : 2 ^ (8 * k) = 256 ^ k := by rw [Nat.pow_mul]
theorem num_big (n : Nat) : ∀ k, numV (bigV n k) = n % 256 ^ k
  | 0 => by simp [bigV, numV, Nat.mod_one]
  | k + 1 => by
    rw [bigV, num_cons, num_big n k, big_len, BitVec.toNat_ofNat, pow8]
    have e : n % (256 ^ k * 256) = n % 256 ^ k + 256 ^ k * (n / 256 ^ k % 256) := Nat.mod_mul
    rw [show (2 : Nat) ^ 8 = 256 from rfl, Nat.pow_succ 256 k, e, Nat.mul_comm, Nat.add_comm]
theorem big_num : ∀ (p : List (BitVec 8)), bigV (numV p) p.length = p
  | [] => rfl
  | x :: p => by
    have h1 := num_lt p
    have e : ∀ (a : Nat) k, k ≤ p.length → bigV (a * 256 ^ p.length + numV p) k = bigV (numV p) k := by
      intro a k
      induction k with
      | zero => intro _; rfl
      | succ k ih =>
        intro hk
        rw [bigV, bigV, ih (by omega), pow8]
        congr 1
        have hp : a * 256 ^ p.length = 256 ^ k * (256 * (a * 256 ^ (p.length - k - 1))) := by
          have : 256 ^ p.length = 256 ^ k * (256 * 256 ^ (p.length - k - 1)) := by
            rw [← Nat.pow_succ', ← Nat.pow_add]
            congr 1
            omega
          rw [this]
          generalize 256 ^ (p.length - k - 1) = y
          generalize 256 ^ k = z
          rw [Nat.mul_left_comm, Nat.mul_left_comm a]
        rw [hp, Nat.mul_add_div (Nat.pos_of_ne_zero (by simp [Nat.pow_eq_zero]))]
        apply BitVec.eq_of_toNat_eq
        rw [BitVec.toNat_ofNat, BitVec.toNat_ofNat]
        simp only [show 2 ^ 8 = 256 from rfl]
        omega
    rw [List.length_cons, bigV, num_cons, e _ _ (Nat.le_refl _), big_num p, pow8]
    congr 1
    apply BitVec.eq_of_toNat_eq
    have hx := x.isLt
    rw [BitVec.toNat_ofNat, Nat.mul_comm, Nat.mul_add_div (Nat.pos_of_ne_zero (by simp [Nat.pow_eq_zero])), Nat.div_eq_of_lt h1]
    omega
theorem num_one (x : BitVec 8) : numV [x] = x.toNat := by simp [numV]
theorem take_one (x : BitVec 8) (r : List (BitVec 8)) : numV ((x :: r).take 1) = x.toNat := by rw [List.take_succ_cons, List.take_zero, num_one]
theorem i64_back (n : Int) (h : -2 ^ 63 ≤ n ∧ n < 2 ^ 63) : i64Of (n % 2 ^ 64).toNat = n := by
  unfold i64Of
  split <;> omega
theorem i64_of (n : Nat) (h : n < 2 ^ 64) : (i64Of n % 2 ^ 64).toNat = n ∧ -2 ^ 63 ≤ i64Of n ∧ i64Of n < 2 ^ 63 := by
  unfold i64Of
  split <;> omega
theorem str_bytes (s : ByteArray) : strV (bytesS s) = s := by
  unfold strV bytesS
  rw [List.map_map, show UInt8.ofBitVec ∘ UInt8.toBitVec = id from rfl, List.map_id, Array.toArray_toList]
theorem bytes_str (p : List (BitVec 8)) : bytesS (strV p) = p := by
  unfold strV bytesS
  rw [List.map_map, show UInt8.toBitVec ∘ UInt8.ofBitVec = id from rfl, List.map_id]
theorem bytes_len (s : ByteArray) : (bytesS s).length = s.size := by
  unfold bytesS
  rw [List.length_map, Array.length_toList]
  rfl
theorem str_size (p : List (BitVec 8)) : (strV p).size = p.length := by rw [← bytes_len, bytes_str]

/-! Things. -/
/-- A thing that may be packed. -/
def okT : It → Prop
  | (.inl n) => -2 ^ 63 ≤ n ∧ n < 2 ^ 63
  | _ => True
theorem take_thing (x : It) (r : List (BitVec 8)) (h : okT x) (hl : longT x = false) : takeR (thingV x ++ r) = some (x, (thingV x).length) := by
  rcases x with n | s | b
  · rw [thingV, List.cons_append, takeR_one, List.length_append, big_len, if_pos (by omega)]
    have e : (bigV (n % 2 ^ 64).toNat 8 ++ r).take 8 = bigV (n % 2 ^ 64).toNat 8 := by
      rw [List.take_append_of_le_length (by rw [big_len]; omega), List.take_of_length_le (by rw [big_len]; omega)]
    rw [e, num_big, Nat.mod_eq_of_lt (by omega), i64_back n h, List.length_cons, big_len]
  · have hs : s.size ≤ 200 := by simpa [longT] using hl
    have hn : (BitVec.ofNat 8 s.size).toNat = s.size := by rw [BitVec.toNat_ofNat]; omega
    rw [thingV, List.cons_append, List.cons_append, takeR_two]
    simp only [hn]
    rw [if_pos ⟨hs, by rw [List.length_append, bytes_len]; omega⟩]
    rw [List.take_append_of_le_length (by rw [bytes_len]; omega), List.take_of_length_le (by rw [bytes_len]; omega), str_bytes, List.length_cons, List.length_cons, bytes_len]
    congr 2
    omega
  · cases b <;> rfl
theorem thing_take (b : List (BitVec 8)) (x : It) (k : Nat) (h : takeR b = some (x, k)) :
    readT b = (some x, b.drop k) ∧ b = thingV x ++ b.drop k ∧ okT x ∧ longT x = false := by
  cases b with
  | nil => cases h
  | cons c r =>
    by_cases h1 : c = 1#8
    · subst h1
      rw [takeR_one] at h
      split at h
      · rename_i hl
        injection h with h
        injection h with h2 h3
        subst h2 h3
        have hlt := num_lt (r.take 8)
        have h8 : (r.take 8).length = 8 := by rw [List.length_take]; omega
        rw [h8] at hlt
        have hi := i64_of (numV (r.take 8)) (by omega)
        have hbn := big_num (r.take 8)
        rw [h8] at hbn
        refine ⟨?_, ?_, hi.2, rfl⟩
        · rw [readT]
          simp only [take_one]
          rw [if_pos (by decide)]
          rfl
        · show _ = 1#8 :: _ ++ _
          rw [hi.1, hbn]
          show _ = 1#8 :: (r.take 8 ++ r.drop 8)
          rw [List.take_append_drop]
      · cases h
    by_cases h2 : c = 2#8
    · subst h2
      cases r with
      | nil => cases h
      | cons n p =>
        rw [takeR_two] at h
        split at h
        · rename_i hl
          injection h with h
          injection h with h3 h4
          subst h3 h4
          have e : (2#8 :: n :: p).drop (2 + n.toNat) = p.drop n.toNat := by rw [Nat.add_comm]; rfl
          refine ⟨?_, ?_, trivial, ?_⟩
          · rw [readT, e]
            simp only [take_one]
            rw [if_neg (by decide), if_pos (by decide)]
            simp only [List.drop_succ_cons, List.drop_zero, take_one]
          · rw [thingV, e, bytes_str, str_size, List.length_take, Nat.min_eq_left hl.2]
            simp [BitVec.ofNat_toNat]
          · simp only [longT, str_size, List.length_take, Nat.min_eq_left hl.2]
            simpa using hl.1
        · cases h
    by_cases h3 : c = 3#8
    · subst h3
      cases r with
      | nil => cases h
      | cons n p =>
        rw [takeR_three] at h
        split at h
        · rename_i hl
          injection h with h
          injection h with h3 h4
          subst h3 h4
          have hn : n = 0#8 ∨ n = 1#8 := by
            have : n.toNat = 0 ∨ n.toNat = 1 := by omega
            rcases this with e | e
            · exact .inl (BitVec.eq_of_toNat_eq e)
            · exact .inr (BitVec.eq_of_toNat_eq e)
          refine ⟨?_, ?_, trivial, rfl⟩
          · rw [readT]
            simp only [take_one]
            rw [if_neg (by decide), if_neg (by decide), if_pos (by decide)]
            simp only [List.drop_succ_cons, List.drop_zero, take_one]
            rcases hn with rfl | rfl <;> rfl
          · rcases hn with rfl | rfl <;> rfl
        · cases h
    rw [takeR_none c r h1 h2 h3] at h
    cases h
theorem things_back : ∀ (l acc : List It) (r : List (BitVec 8)), (∀ x ∈ l, okT x ∧ longT x = false) → acc.length + l.length ≤ 100 →
    thingsR l.length (l.flatMap thingV ++ r) acc = some (acc ++ l, r)
  | [], acc, r, _, _ => by simp [thingsR]
  | x :: l, acc, r, h, hn => by
    have hx := h x (List.mem_cons_self ..)
    rw [List.length_cons] at hn
    rw [List.length_cons, thingsR, List.flatMap_cons, List.append_assoc, take_thing x _ hx.1 hx.2]
    simp only
    rw [if_pos (by omega), List.drop_left, things_back l (acc ++ [x]) r (fun y hy => h y (List.mem_cons_of_mem _ hy)) (by rw [List.length_append, List.length_singleton]; omega)]
    simp
theorem things_read : ∀ (n : Nat) (b : List (BitVec 8)) (acc l : List It) (r : List (BitVec 8)), thingsR n b acc = some (l, r) → acc.length ≤ 100 →
    readN n b acc = l ∧ ∃ m, l = acc ++ m ∧ m.length = n ∧ b = m.flatMap thingV ++ r ∧ l.length ≤ 100 ∧ ∀ x ∈ m, okT x ∧ longT x = false
  | 0, b, acc, l, r, h, ha => by
    rw [thingsR] at h
    injection h with h
    injection h with h1 h2
    subst h1 h2
    exact ⟨rfl, [], by simp, rfl, rfl, ha, fun x hx => by cases hx⟩
  | n + 1, b, acc, l, r, h, ha => by
    rw [thingsR] at h
    cases ht : takeR b with
    | none => rw [ht] at h; cases h
    | some p =>
      obtain ⟨x, k⟩ := p
      rw [ht] at h
      simp only at h
      split at h
      · rename_i hlt
        obtain ⟨h1, h2, h3, h4⟩ := thing_take b x k ht
        obtain ⟨i1, m, i2, i3, i4, i5, i6⟩ := things_read n (b.drop k) (acc ++ [x]) l r h (by rw [List.length_append, List.length_singleton]; omega)
        refine ⟨?_, x :: m, ?_, by rw [List.length_cons, i3], ?_, i5, ?_⟩
        · rw [readN, h1]
          simp only [putO, put, if_pos hlt]
          exact i1
        · rw [i2]; simp
        · rw [List.flatMap_cons, List.append_assoc, ← i4]; exact h2
        · intro y hy
          rcases List.mem_cons.1 hy with rfl | hy
          · exact ⟨h3, h4⟩
          · exact i6 y hy
      · cases h

/-! Telegrams. -/
theorem any_long {l : List It} (h : ∀ x ∈ l, longT x = false) : l.any longT = false := by
  rw [List.any_eq_false]
  intro x hx
  simp [h x hx]
theorem tel_parts (p : List (BitVec 8)) : (telV p).take 4 = bigV (sumV p).toNat 4 ∧ ((telV p).drop 4).take 2 = bigV p.length 2 ∧ (telV p).drop 6 = p ∧ (telV p).length = 6 + p.length := by
  unfold telV
  have a := big_len (sumV p).toNat 4
  have b := big_len p.length 2
  have e1 : (bigV (sumV p).toNat 4 ++ (bigV p.length 2 ++ p)).drop 4 = bigV p.length 2 ++ p := by
    have := List.drop_left (l₁ := bigV (sumV p).toNat 4) (l₂ := bigV p.length 2 ++ p)
    rw [a] at this
    exact this
  have e2 : (bigV p.length 2 ++ p).drop 2 = p := by
    have := List.drop_left (l₁ := bigV p.length 2) (l₂ := p)
    rw [b] at this
    exact this
  refine ⟨?_, ?_, ?_, ?_⟩
  · have := List.take_left (l₁ := bigV (sumV p).toNat 4) (l₂ := bigV p.length 2 ++ p)
    rw [a] at this
    exact this
  · rw [e1]
    have := List.take_left (l₁ := bigV p.length 2) (l₂ := p)
    rw [b] at this
    exact this
  · rw [show (6 : Nat) = 4 + 2 from rfl, ← List.drop_drop, e1, e2]
  · rw [List.length_append, List.length_append, a, b]
    omega
theorem tel_of (b : List (BitVec 8)) (h : 6 ≤ b.length) (h1 : numV (b.take 4) = (sumV (b.drop 6)).toNat) (h2 : numV ((b.drop 4).take 2) = (b.drop 6).length) : telV (b.drop 6) = b := by
  unfold telV
  rw [← h1, ← h2]
  have a := big_num (b.take 4)
  have c := big_num ((b.drop 4).take 2)
  rw [List.length_take, Nat.min_eq_left (by omega)] at a
  rw [List.length_take, List.length_drop, Nat.min_eq_left (by omega)] at c
  rw [a, c, show b.drop 6 = (b.drop 4).drop 2 by rw [List.drop_drop], List.take_append_drop, List.take_append_drop]
theorem back_pack (l : List It) (b : List (BitVec 8)) (h : packV l = some b) (hl : l.length ≤ 100) (ho : ∀ x ∈ l, okT x) : unpackR b = some l := by
  unfold packV at h
  split at h
  · cases h
  rename_i hlong
  split at h
  · cases h
  rename_i h4
  injection h with h
  subst h
  obtain ⟨t1, t2, t3, t4⟩ := tel_parts (bodyV l)
  have hb1 : 1 ≤ (bodyV l).length := by unfold bodyV; rw [List.length_cons]; omega
  have hsl := (sumV (bodyV l)).isLt
  rw [unpackR, t4, if_neg (by omega), t1, t2, t3, num_big, num_big, Nat.mod_eq_of_lt (by omega), Nat.mod_eq_of_lt (by omega), if_neg (by simp)]
  have hnn : (BitVec.ofNat 8 l.length).toNat = l.length := by rw [BitVec.toNat_ofNat]; omega
  have := things_back l [] [] (fun x hx => ⟨ho x hx, by have := (List.any_eq_false.1 (by simpa using hlong)) x hx; simpa using this⟩) (by simpa using hl)
  rw [List.append_nil, List.nil_append] at this
  unfold bodyV
  rw [take_one, hnn, List.drop_succ_cons, List.drop_zero, this]
theorem unpack_read (b : List (BitVec 8)) (l : List It) (h : unpackR b = some l) : readV b = l ∧ packV l = some b ∧ l.length ≤ 100 ∧ ∀ x ∈ l, okT x ∧ longT x = false := by
  unfold unpackR at h
  split at h
  · cases h
  rename_i h1
  split at h
  · cases h
  rename_i h2
  split at h
  · rename_i l' ht
    injection h with h
    subst h
    obtain ⟨i1, m, i2, i3, i4, i5, i6⟩ := things_read _ _ _ _ _ ht (by simp)
    rw [List.nil_append] at i2
    subst i2
    refine ⟨i1, ?_, i5, i6⟩
    have hd : b.drop 6 = bodyV l' := by
      have hl : 1 ≤ (b.drop 6).length := by rw [List.length_drop]; omega
      rw [List.append_nil] at i4
      cases hb : b.drop 6 with
      | nil => rw [hb] at hl; simp at hl
      | cons x r =>
        rw [hb] at i3 i4
        rw [take_one] at i3
        rw [List.drop_succ_cons, List.drop_zero] at i4
        unfold bodyV
        rw [i3, ← i4, BitVec.ofNat_toNat, BitVec.setWidth_eq]
    unfold packV
    rw [any_long fun x hx => (i6 x hx).2]
    have hlen : (bodyV l').length = b.length - 6 := by rw [← hd, List.length_drop]
    rw [if_neg (by simp), if_neg (by omega), ← hd, tel_of b (by omega) (by omega) (by omega)]
  · cases h
theorem readT_ok (r : List (BitVec 8)) (x : It) (h : (readT r).1 = some x) : okT x := by
  unfold readT at h
  simp only at h
  split at h
  · injection h with h
    subst h
    have h8 := num_lt ((r.drop 1).take 8)
    have : ((r.drop 1).take 8).length ≤ 8 := by rw [List.length_take]; omega
    have hp : 256 ^ ((r.drop 1).take 8).length ≤ 256 ^ 8 := Nat.pow_le_pow_right (by decide) this
    exact (i64_of _ (by omega)).2
  · split at h
    · injection h with h
      subst h
      trivial
    · split at h
      · injection h with h
        subst h
        trivial
      · cases h
theorem putO_ok {l : List It} {o : Option It} (hl : l.length ≤ 100) (h : ∀ x ∈ l, okT x) (ho : ∀ x, o = some x → okT x) : (putO l o).length ≤ 100 ∧ ∀ x ∈ putO l o, okT x := by
  cases o with
  | none => exact ⟨hl, h⟩
  | some y =>
    show (if l.length < 100 then l ++ [y] else l).length ≤ 100 ∧ ∀ x ∈ (if l.length < 100 then l ++ [y] else l), okT x
    split
    · refine ⟨by rw [List.length_append, List.length_singleton]; omega, fun z hy => ?_⟩
      rcases List.mem_append.1 hy with hy | hy
      · exact h z hy
      · rw [List.mem_singleton.1 hy]; exact ho _ rfl
    · exact ⟨hl, h⟩
theorem readN_ok : ∀ (n : Nat) (r : List (BitVec 8)) (l : List It), l.length ≤ 100 → (∀ x ∈ l, okT x) → (readN n r l).length ≤ 100 ∧ ∀ x ∈ readN n r l, okT x
  | 0, _, _, hl, h => ⟨hl, h⟩
  | n + 1, r, l, hl, h => by
    have := putO_ok (o := (readT r).1) hl h (fun x hx => readT_ok r x hx)
    exact readN_ok n _ _ this.1 this.2
theorem readV_ok (b : List (BitVec 8)) : (readV b).length ≤ 100 ∧ ∀ x ∈ readV b, okT x := readN_ok _ _ _ (by simp) (fun x hx => by cases hx)
/-- The program's answer is the document's. -/
theorem unpack_eq (b : List (BitVec 8)) : unpackV b = unpackR b := by
  unfold unpackV
  split
  · rename_i h
    exact (back_pack _ _ h (readV_ok b).1 (readV_ok b).2).symm
  · rename_i h
    cases hu : unpackR b with
    | none => rfl
    | some l =>
      obtain ⟨h1, h2, _⟩ := unpack_read b l hu
      rw [h1] at h
      exact absurd h2 h
end Go.Proofs.Ytfcoanlegjddpab
