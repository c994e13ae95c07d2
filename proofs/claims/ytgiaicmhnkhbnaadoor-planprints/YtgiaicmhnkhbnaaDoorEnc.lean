/-
  Plain facts on runes written as bytes and read back.
-/
import Derived.Test.YtgiaicmhnkhbnaaDoorJoin1
namespace Go.Proofs.YtgiaicmhnkhbnaaDoor

theorem getD_append_cons (a : UInt8) (l : List UInt8) : (a :: l).getD 0 0 = a ∧ ∀ k, (a :: l).getD (k + 1) 0 = l.getD k 0 := ⟨rfl, fun _ => rfl⟩

set_option maxHeartbeats 1000000 in
/-- A rune's bytes, whatever stands behind them, are read as that rune. -/
theorem dec_encode (r : Int) (h0 : 0 ≤ r) (h1 : r ≤ 1114111) (h2 : ¬ (55296 ≤ r ∧ r ≤ 57343)) (rest : List UInt8) :
    dec ((Utf8.encode r).data.toList ++ rest) = (r.toNat, (Utf8.encode r).data.toList.length) ∧ (Utf8.encode r).data.toList ≠ [] := by
  have hv : Utf8.valid r = true := by simp [Utf8.valid]; omega
  obtain ⟨c, rfl⟩ := Int.eq_ofNat_of_zero_le h0
  have hb : ∀ n : Nat, (UInt8.ofNat n).toNat = n % 256 := fun n => by simp
  unfold Utf8.encode
  simp only [hv, if_true, Int.toNat_natCast]
  split
  · refine ⟨?_, by simp⟩
    simp only [dec, List.cons_append, List.nil_append, List.getD_cons_zero, List.getD_cons_succ, List.length_cons, List.length_nil, hb]
    unfold Lib.decodeN
    rw [if_pos (by omega)]
    apply Prod.ext <;> simp only <;> omega
  · split
    · refine ⟨?_, by simp⟩
      simp only [dec, List.cons_append, List.nil_append, List.getD_cons_zero, List.getD_cons_succ, List.length_cons, List.length_nil, hb]
      unfold Lib.decodeN
      rw [if_neg (by omega), if_pos (by omega), if_pos (by omega)]
      apply Prod.ext <;> simp only <;> omega
    · split
      · refine ⟨?_, by simp⟩
        simp only [dec, List.cons_append, List.nil_append, List.getD_cons_zero, List.getD_cons_succ, List.length_cons, List.length_nil, hb]
        unfold Lib.decodeN
        rw [if_neg (by omega), if_neg (by omega), if_pos (by omega), if_pos (by omega)]
        apply Prod.ext <;> simp only <;> omega
      · refine ⟨?_, by simp⟩
        simp only [dec, List.cons_append, List.nil_append, List.getD_cons_zero, List.getD_cons_succ, List.length_cons, List.length_nil, hb]
        unfold Lib.decodeN
        rw [if_neg (by omega), if_neg (by omega), if_neg (by omega), if_pos (by omega), if_pos (by omega)]
        apply Prod.ext <;> simp only <;> omega

theorem runes_encode (r : Int) (h0 : 0 ≤ r) (h1 : r ≤ 1114111) (h2 : ¬ (55296 ≤ r ∧ r ≤ 57343)) (rest : List UInt8) :
    runes ((Utf8.encode r).data.toList ++ rest) = (r.toNat, (Utf8.encode r).data.toList.length) :: runes rest := by
  obtain ⟨h, hn⟩ := dec_encode r h0 h1 h2 rest
  rw [runes_cons _ (by intro e; exact hn (List.append_eq_nil_iff.1 e).1), h]
  simp

/-- A byte below 128 is a rune by itself. -/
theorem dec_ascii (b : UInt8) (hb : b.toNat < 128) (rest : List UInt8) : dec (b :: rest) = (b.toNat, 1) := by
  simp only [dec, List.getD_cons_zero]
  unfold Lib.decodeN
  rw [if_pos hb]
theorem runes_ascii (b : UInt8) (hb : b.toNat < 128) (rest : List UInt8) : runes (b :: rest) = (b.toNat, 1) :: runes rest := by
  rw [runes_cons _ (by simp), dec_ascii b hb]
  rfl

end Go.Proofs.YtgiaicmhnkhbnaaDoor
