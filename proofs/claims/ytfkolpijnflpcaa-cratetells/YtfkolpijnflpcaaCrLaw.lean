/-
  The law's own small functions: plain, add, known, tells by contracts.
-/
import Derived.Test.YtfkolpijnflpcaaCrRef
namespace Go.Proofs.Ytfkolpijnflpcaa
open Go.RowKit

/-- What a raw thing counts as. -/
def plainI (t : Th) : It := if t.k = 1 then (.inl t.n) else if t.k = 2 then (.inr (.inl t.s)) else (.inr (.inr t.b))

set_option maxRecDepth 1000000 in
set_option maxHeartbeats 1000000 in
theorem plain_any (t : Th) (w : World) :
    Calls Try.prog 26 #[.agg #[.int .i64 t.k, .int .i64 t.n, .string t.s, .bool t.b]] w fun e w' => e = .returned (.agg #[.int .i64 (plainI t).th.k, .int .i64 (plainI t).th.n, .string (plainI t).th.s, .bool (plainI t).th.b]) ∧ Below w.heap.size w w' := by
  obtain ⟨k, n, s, b⟩ := t
  by_cases h1 : k = 1
  · subst h1
    go_enter Try.func26, Try.ntmps26
    go_wp2
    refine bodyPost_ret (v := .agg #[.int .i64 1, .int .i64 n, .string ⟨#[]⟩, .bool false]) (by simp [results, Try.results26, go_sem]) rfl ⟨rfl, ?_⟩
    exact ((Below.refl _ _).alloc (Nat.le_refl _) _).alloc (by simp) _
  · by_cases h2 : k = 2
    · subst h2
      go_enter Try.func26, Try.ntmps26
      go_wp2
      refine bodyPost_ret (v := .agg #[.int .i64 2, .int .i64 0, .string s, .bool false]) (by simp [results, Try.results26, go_sem]) rfl ⟨rfl, ?_⟩
      exact ((Below.refl _ _).alloc (Nat.le_refl _) _).alloc (by simp) _
    · have e1 : (k == 1) = false := by simp [h1]
      have e2 : (k == 2) = false := by simp [h2]
      have e3 : plainI ⟨k, n, s, b⟩ = (.inr (.inr b)) := by simp [plainI, h1, h2]
      rw [e3]
      clear h1 h2 e3
      go_enter Try.func26, Try.ntmps26
      go_wp2
      refine bodyPost_ret (v := .agg #[.int .i64 3, .int .i64 0, .string ⟨#[]⟩, .bool b]) (by simp [results, Try.results26, go_sem]) rfl ⟨rfl, ?_⟩
      exact ((Below.refl _ _).alloc (Nat.le_refl _) _).alloc (by simp) _

set_option maxRecDepth 1000000 in
set_option maxHeartbeats 1000000 in
theorem addT_any (t : Th) (l : List It) (w : World) (B c : Nat) (v : Value) (h : Crate w B c v l) (hs : t.s.size ≤ 281474976710656) :
    Calls Try.prog 25 #[.pointer (some ⟨c, 0, none⟩), .agg #[.int .i64 t.k, .int .i64 t.n, .string t.s, .bool t.b]] w fun e w' => ∃ v', e = .returned (.bool (decide (l.length < 100))) ∧ Crate w' B c v' (put l (plainI t)) ∧ Turn w w' c v v' := by
  obtain ⟨k, n, s, b⟩ := t
  simp only at hs
  have HB : Hid (Below w.heap.size w (w.alloc (.cells #[.int .i64 k, .int .i64 n, .string s, .bool b] 35))) := (Below.refl _ _).alloc (Nat.le_refl _) _
  have H : Hid (Crate (w.alloc (.cells #[.int .i64 k, .int .i64 n, .string s, .bool b] 35)) B c v l) := ⟨h.1.below HB.out, h.2⟩
  clear h
  by_cases h1 : k = 1
  · subst h1
    go_enter Try.func25, Try.ntmps25
    go_wp2_with fail
    refine (addInt_any n l _ _ _ _ H.out).mono ?_
    rintro e w1 ⟨v', rfl, h1, h2⟩
    go_wp2
    go_ret
    exact ⟨v', rfl, h1, (Turn.of_below HB.out c v).trans h2⟩
  · by_cases h2 : k = 2
    · subst h2
      go_enter Try.func25, Try.ntmps25
      go_wp2_with fail
      refine (addText_any s l _ _ _ _ H.out hs).mono ?_
      rintro e w1 ⟨v', rfl, h1, h2⟩
      go_wp2
      go_ret
      exact ⟨v', rfl, h1, (Turn.of_below HB.out c v).trans h2⟩
    · have e1 : (k == 1) = false := by simp [h1]
      have e2 : (k == 2) = false := by simp [h2]
      have e3 : plainI ⟨k, n, s, b⟩ = (.inr (.inr b)) := by simp [plainI, h1, h2]
      rw [e3]
      clear h1 h2 e3
      go_enter Try.func25, Try.ntmps25
      go_wp2_with fail
      refine (addBool_any b l _ _ _ _ H.out).mono ?_
      rintro e w1 ⟨v', rfl, h1, h2⟩
      go_wp2
      go_ret
      exact ⟨v', rfl, h1, (Turn.of_below HB.out c v).trans h2⟩

set_option maxRecDepth 1000000 in
set_option maxHeartbeats 2000000 in
theorem known_any (w : World) :
    Calls Try.prog 13 #[] w fun e w' => e = .returned (.bool true) ∧ Below w.heap.size w w' := by
  have H0 : Hid (Crate (w.alloc (.cells #[.slice none 0 0] 59)) w.heap.size w.heap.size (.slice none 0 0) []) := crate_new w
  go_enter Try.func13, Try.ntmps13
  go_wp2_with fail
  refine (new_any _).mono ?_
  rintro e w1 ⟨rfl, rfl⟩
  go_wp2_with fail
  refine (addText_any ⟨#[120]⟩ [] _ _ _ _ H0.out (by decide)).mono ?_
  rintro e w1 ⟨v1, rfl, h1, t1⟩
  go_wp2_with fail
  refine (addInt_any 7 _ _ _ _ _ h1).mono ?_
  rintro e w2 ⟨v2, rfl, h2, t2⟩
  have HR : Hid (Reads w2 (.pointer (some ⟨w.heap.size, 0, none⟩)) [(.inr (.inl ⟨#[120]⟩)), (.inl 7)]) := h2.reads
  have HB : Hid (Below w.heap.size w w2) := ((Below.refl w.heap.size w).alloc (Nat.le_refl _) _).trans (H0.out.1.turnBelow (t1.trans t2))
  clear h1 t1 h2 t2 H0
  go_wp2_with fail
  refine (int_any _ _ _ _ HR.out).mono ?_
  rintro e w3 ⟨rfl, hw⟩
  obtain rfl := hw.symm
  go_wp2_with fail
  refine (int_any _ _ _ _ HR.out).mono ?_
  rintro e w3 ⟨rfl, hw⟩
  obtain rfl := hw.symm
  go_wp2_with fail
  refine (len_any _ _ _ HR.out).mono ?_
  rintro e w3 ⟨rfl, hw⟩
  obtain rfl := hw.symm
  go_wp2_with fail
  refine (must_any _ _ _ 7 _ HR.out rfl).mono ?_
  rintro e w3 ⟨rfl, hw⟩
  obtain rfl := hw.symm
  go_wp2
  go_ret
  exact ⟨rfl, HB.out⟩

end Go.Proofs.Ytfkolpijnflpcaa
