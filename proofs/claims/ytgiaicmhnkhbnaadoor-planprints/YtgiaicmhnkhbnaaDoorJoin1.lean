/-
  Texts of this proof, joined: Leaf, Plain, Loops, Clone, Split, PlP, PlRd.
-/
import Derived.Test.YtgiaicmhnkhbnaaDoorProg
import Derived.WalkKit
import Derived.Lib.Strings
import Derived.Lib.DecodeN
import Derived.WalkSmall
import Derived.Test.YtgiaicmhnkhbnaaDoorShelf
import Derived.Maps.AppendAt
import Derived.Maps.Range
import Derived.Deep.QuietTactic
import Derived.BigQuiet
namespace Go.Proofs.YtgiaicmhnkhbnaaDoor
open Go.RowKit

theorem ret_bool {a b : Bool} (h : a = b) : Ending.returned (.bool a) = .returned (.bool b) := by rw [h]

def letterB (r : Int) : Bool := decide ((97 ≤ r ∧ r ≤ 122) ∨ (65 ≤ r ∧ r ≤ 90) ∨ (192 ≤ r ∧ r ≤ 591 ∧ r ≠ 215 ∧ r ≠ 247))
def digitB (r : Int) : Bool := decide (48 ≤ r ∧ r ≤ 57)
def blankB (r : Int) : Bool := decide (r = 32 ∨ r = 9)
def standB (r n : Int) : Bool := letterB r || (decide (0 < n) && digitB r)

set_option maxHeartbeats 400000 in
theorem letter_any (r : Int) (w : World) :
    Calls Tryd.prog 97 #[.int .i32 r] w fun e w' => e = .returned (.bool (letterB r)) ∧ w' = w := by
  go_enter Tryd.func97, Tryd.ntmps97
  go_wp2
  all_goals go_ret
  all_goals (refine ⟨ret_bool ?_, rfl⟩)
  all_goals ((try simp only [beq_iff_eq, beq_eq_false_iff_ne] at *); unfold letterB; rw [Bool.eq_iff_iff]; simp; omega)

set_option maxHeartbeats 400000 in
theorem refLetter_any (r : Int) (w : World) :
    Calls Tryd.prog 37 #[.int .i32 r] w fun e w' => e = .returned (.bool (letterB r)) ∧ w' = w := by
  go_enter Tryd.func37, Tryd.ntmps37
  go_wp2
  all_goals go_ret
  all_goals (refine ⟨ret_bool ?_, rfl⟩)
  all_goals ((try simp only [beq_iff_eq, beq_eq_false_iff_ne, bne_iff_ne] at *); unfold letterB; rw [Bool.eq_iff_iff]; simp; omega)

theorem digit_any (r : Int) (w : World) :
    Calls Tryd.prog 98 #[.int .i32 r] w fun e w' => e = .returned (.bool (digitB r)) ∧ w' = w := by
  go_enter Tryd.func98, Tryd.ntmps98
  go_wp2
  all_goals go_ret
  all_goals (refine ⟨ret_bool ?_, rfl⟩)
  all_goals (unfold digitB; rw [Bool.eq_iff_iff]; simp; omega)

theorem blank_any (r : Int) (w : World) :
    Calls Tryd.prog 70 #[.int .i32 r] w fun e w' => e = .returned (.bool (blankB r)) ∧ w' = w := by
  go_enter Tryd.func70, Tryd.ntmps70
  go_wp2
  all_goals go_ret
  all_goals (refine ⟨ret_bool ?_, rfl⟩)
  all_goals (unfold blankB; rw [Bool.eq_iff_iff]; simp; try omega)

theorem stand_any (r n : Int) (w : World) :
    Calls Tryd.prog 95 #[.int .i32 r, .int .i64 n] w fun e w' => e = .returned (.bool (standB r n)) ∧ w' = w := by
  cases hl : letterB r <;> by_cases hn : 0 < n
  all_goals
    go_enter Tryd.func95, Tryd.ntmps95
    go_wp2_with (first
      | (go_at_call 97; refine (letter_any _ _).mono ?_; rintro e w' ⟨rfl, rfl⟩)
      | (go_at_call 98; refine (digit_any _ _).mono ?_; rintro e w' ⟨rfl, rfl⟩))
  all_goals go_ret
  all_goals (refine ⟨ret_bool ?_, rfl⟩)
  all_goals (first | (simp [standB, hl, hn]; done) | (simp [standB, hl]; omega))

set_option maxHeartbeats 400000 in
theorem litePrefix_any (s p : ByteArray) (w : World) :
    Calls Tryd.prog 83 #[.string s, .string p] w fun e w' => e = .returned (.bool (Lib.hasPrefix s.data.toList p.data.toList)) ∧ w' = w := by
  go_enter Tryd.func83, Tryd.ntmps83
  go_wp2
  all_goals go_ret
  all_goals (refine ⟨ret_bool ?_, rfl⟩)
  · have := Lib.hasPrefix_raw s p
    simp only [‹p.size ≤ s.size›, decide_true, Bool.true_and] at this
    exact this
  · have := Lib.hasPrefix_raw s p
    simp only [‹¬ p.size ≤ s.size›, decide_false, Bool.false_and] at this
    exact this

theorem hasPrefix_any (s p : ByteArray) (w : World) :
    Calls Tryd.prog 69 #[.string s, .string p] w fun e w' => e = .returned (.bool (Lib.hasPrefix s.data.toList p.data.toList)) ∧ w' = w := by
  go_enter Tryd.func69, Tryd.ntmps69
  go_wp2_with (go_at_call 83; refine (litePrefix_any _ _ _).mono ?_; rintro e w' ⟨rfl, rfl⟩)
  go_ret
  exact ⟨rfl, rfl⟩
end Go.Proofs.YtgiaicmhnkhbnaaDoor

namespace Go.Proofs.YtgiaicmhnkhbnaaDoor

/-- The rune at the head of a text, and its width. -/
def dec (l : List UInt8) : Nat × Nat := Lib.decodeN l.length (l.getD 0 0).toNat (l.getD 1 0).toNat (l.getD 2 0).toNat (l.getD 3 0).toNat

theorem get!_drop (s : ByteArray) (p k : Nat) : s.get! (p + k) = (s.data.toList.drop p).getD k 0 := by
  rw [List.getD_eq_getElem?_getD, List.getElem?_drop]
  obtain ⟨⟨l⟩⟩ := s
  simp only [ByteArray.get!, List.getElem!_toArray, List.getElem!_eq_getElem?_getD]
  rfl

theorem decode_drop (s : ByteArray) (p : Nat) : Utf8.decode s p = dec (s.data.toList.drop p) := by
  rw [Lib.decode_at, dec, List.length_drop, ← Lib.size_eq]
  rw [← get!_drop s p 0, ← get!_drop s p 1, ← get!_drop s p 2, ← get!_drop s p 3]
  rfl

theorem dec_width (l : List UInt8) (h : l ≠ []) : 1 ≤ (dec l).2 ∧ (dec l).2 ≤ l.length := by
  have hl : 0 < l.length := List.length_pos_iff.2 h
  unfold dec Lib.decodeN
  repeat' split
  all_goals (simp only; omega)

theorem dec_le (l : List UInt8) : (dec l).1 ≤ 1114111 := by
  have h0 := (l.getD 0 0).toNat_lt; have h1 := (l.getD 1 0).toNat_lt; have h2 := (l.getD 2 0).toNat_lt; have h3 := (l.getD 3 0).toNat_lt
  unfold dec Lib.decodeN
  repeat' split
  all_goals (simp only; omega)

def runesF : Nat → List UInt8 → List (Nat × Nat)
  | 0, _ => []
  | f + 1, l => if l = [] then [] else dec l :: runesF f (l.drop (dec l).2)
def runes (l : List UInt8) : List (Nat × Nat) := runesF l.length l

theorem runesF_more : ∀ (f g : Nat) (l : List UInt8), l.length ≤ f → l.length ≤ g → runesF f l = runesF g l
  | 0, g, l, h, _ => by
    have : l = [] := List.eq_nil_of_length_eq_zero (by omega)
    subst this
    cases g <;> simp [runesF]
  | f + 1, 0, l, _, h => by
    have : l = [] := List.eq_nil_of_length_eq_zero (by omega)
    subst this
    simp [runesF]
  | f + 1, g + 1, l, h1, h2 => by
    unfold runesF
    split
    · rfl
    · rename_i hn
      have hw := dec_width l hn
      rw [runesF_more f g (l.drop (dec l).2) (by rw [List.length_drop]; omega) (by rw [List.length_drop]; omega)]

theorem runes_nil : runes [] = [] := rfl
theorem runes_cons (l : List UInt8) (h : l ≠ []) : runes l = dec l :: runes (l.drop (dec l).2) := by
  have hw := dec_width l h
  have hl : 0 < l.length := List.length_pos_iff.2 h
  unfold runes
  obtain ⟨f, hf⟩ : ∃ f, l.length = f + 1 := ⟨l.length - 1, by omega⟩
  rw [hf]
  conv => lhs; unfold runesF
  rw [if_neg h, runesF_more f (l.drop (dec l).2).length (l.drop (dec l).2) (by rw [List.length_drop]; omega) (Nat.le_refl _)]

theorem runes_length_le (l : List UInt8) : (runes l).length ≤ l.length := by
  suffices h : ∀ (n : Nat) (l : List UInt8), l.length ≤ n → (runes l).length ≤ l.length from h l.length l (Nat.le_refl _)
  intro n
  induction n with
  | zero => intro l h; have : l = [] := List.eq_nil_of_length_eq_zero (by omega); subst this; simp [runes_nil]
  | succ n ih =>
    intro l h
    by_cases hn : l = []
    · subst hn; simp [runes_nil]
    · have hw := dec_width l hn
      rw [runes_cons l hn, List.length_cons]
      have := ih (l.drop (dec l).2) (by rw [List.length_drop]; omega)
      rw [List.length_drop] at this
      omega

/-- From place p on. -/
def runesAt (s : ByteArray) (p : Nat) : List (Nat × Nat) := runes (s.data.toList.drop p)
theorem runesAt_end (s : ByteArray) (p : Nat) (h : ¬ p < s.size) : runesAt s p = [] := by
  rw [runesAt, List.drop_of_length_le (by rw [← Lib.size_eq]; omega), runes_nil]
theorem runesAt_next (s : ByteArray) (p : Nat) (h : p < s.size) : runesAt s p = Utf8.decode s p :: runesAt s (p + (Utf8.decode s p).2) := by
  have hne : s.data.toList.drop p ≠ [] := by
    intro e
    have := congrArg List.length e
    rw [List.length_drop, ← Lib.size_eq] at this
    simp at this; omega
  rw [runesAt, runes_cons _ hne, ← decode_drop, runesAt, List.drop_drop]
theorem width_at (s : ByteArray) (p : Nat) (h : p < s.size) : 1 ≤ (Utf8.decode s p).2 ∧ p + (Utf8.decode s p).2 ≤ s.size := by
  have hne : s.data.toList.drop p ≠ [] := by
    intro e
    have := congrArg List.length e
    rw [List.length_drop, ← Lib.size_eq] at this
    simp at this; omega
  have := dec_width _ hne
  rw [decode_drop]
  rw [List.length_drop, ← Lib.size_eq] at this
  omega
theorem runesAt_le (s : ByteArray) (p : Nat) : (runesAt s p).length ≤ s.size - p := by
  have := runes_length_le (s.data.toList.drop p)
  rw [List.length_drop, ← Lib.size_eq] at this
  exact this

/-- A wrong rune. -/
def badB (r : Nat × Nat) : Bool := decide (r.1 = 65533 ∧ r.2 = 1)
theorem getD_nil (l : List UInt8) (k : Nat) (h : l.length ≤ k) : l.getD k 0 = 0 := by
  rw [List.getD_eq_getElem?_getD, List.getElem?_eq_none h]; rfl
theorem prefix3 (l : List UInt8) (a b c : UInt8) : Lib.hasPrefix l [a, b, c] = true ↔ 3 ≤ l.length ∧ l.getD 0 0 = a ∧ l.getD 1 0 = b ∧ l.getD 2 0 = c := by
  unfold Lib.hasPrefix
  match l with
  | [] => simp
  | [x] => simp [List.isPrefixOf]
  | [x, y] => simp [List.isPrefixOf]
  | x :: y :: z :: r => simp [List.isPrefixOf]; exact ⟨fun h => ⟨h.1.symm, h.2.1.symm, h.2.2.symm⟩, fun h => ⟨h.1.symm, h.2.1.symm, h.2.2.symm⟩⟩
theorem decN_error (n b0 b1 b2 b3 : Nat) (h0 : b0 < 256) (d : Nat × Nat) (hd : Lib.decodeN n b0 b1 b2 b3 = d) (h : d.1 = 65533) : (3 ≤ n ∧ b0 = 239 ∧ b1 = 191 ∧ b2 = 189) ↔ ¬ d.2 = 1 := by
  unfold Lib.decodeN at hd
  repeat' split at hd
  all_goals (subst hd; dsimp only at h ⊢; omega)
theorem dec_error (l : List UInt8) (h : (dec l).1 = 65533) : Lib.hasPrefix l [239, 191, 189] = !badB (dec l) := by
  have h0 := (l.getD 0 0).toNat_lt
  rw [Bool.eq_iff_iff, prefix3]
  have e0 : l.getD 0 0 = 239 ↔ (l.getD 0 0).toNat = 239 := by rw [← UInt8.toNat_inj]; rfl
  have e1 : l.getD 1 0 = 191 ↔ (l.getD 1 0).toNat = 191 := by rw [← UInt8.toNat_inj]; rfl
  have e2 : l.getD 2 0 = 189 ↔ (l.getD 2 0).toNat = 189 := by rw [← UInt8.toNat_inj]; rfl
  rw [e0, e1, e2]
  simp only [badB, h, true_and, Bool.not_eq_true', decide_eq_false_iff_not]
  exact decN_error _ _ _ _ _ h0 _ rfl h

/-- How many runes stand ahead of the first wrong one. -/
def wrongF : Nat → List (Nat × Nat) → Option Nat
  | _, [] => none
  | n, r :: rs => if badB r = true then some n else wrongF (n + 1) rs
def wrongO (l : List UInt8) : Option Nat := wrongF 0 (runes l)

theorem prefix_at (s : ByteArray) (p : Nat) (h : (Utf8.decode s p).1 = 65533) : Lib.hasPrefix (s.extract p s.size).data.toList [239, 191, 189] = !badB (Utf8.decode s p) := by
  rw [decode_drop] at *
  rw [Lib.extract_data, List.take_of_length_le (by rw [List.length_drop, ← Lib.size_eq]; exact Nat.le_refl _)]
  exact dec_error _ h

end Go.Proofs.YtgiaicmhnkhbnaaDoor

namespace Go.Proofs.YtgiaicmhnkhbnaaDoor
open Go.RowKit

theorem ret_int {k : IntKind} {a b : Int} (h : a = b) : Ending.returned (.int k a) = .returned (.int k b) := by rw [h]


/-- IsName, from the n-th rune on. -/
def nameF : Nat → List (Nat × Nat) → Bool
  | n, [] => decide (0 < n)
  | n, r :: rs => if n = 8 ∨ standB r.1 n = false then false else nameF (n + 1) rs
def nameB (l : List UInt8) : Bool := nameF 0 (runes l)

set_option maxRecDepth 1000000 in
set_option maxHeartbeats 1000000 in
theorem isName_any (s : ByteArray) (w : World) :
    Calls Tryd.prog 85 #[.string s] w fun e w' => e = .returned (.bool (nameB s.data.toList)) ∧ Below w.heap.size w w' := by
  have H0 : Hid (nameF 0 (runesAt s 0) = nameB s.data.toList) := by simp [Hid, runesAt, nameB]
  go_enter Tryd.func85, Tryd.ntmps85
  go_wp2
  go_loopw [3, 5] (fun n _ w' => ∃ (pos k : Nat), w' = w.iter s pos ∧ n = .int .i64 k ∧ nameF k (runesAt s pos) = nameF 0 (runesAt s 0) ∧ k ≤ 8 ∧ pos ≤ s.size) (fun _ _ w' => s.size - w'.iterPos w.heap.size)
  case atStart => exact ⟨0, 0, rfl, rfl, rfl, by omega, by omega⟩
  case round =>
    obtain ⟨pos, k, rfl, rfl, hc, hk, hps⟩ := hrel
    have HC : Hid (nameF k (runesAt s pos) = nameF 0 (runesAt s 0)) := hc
    clear hc
    by_cases hp : pos < s.size
    · have hnx : ∀ ty, (Instr.next (.pointer (some ⟨w.heap.size, 0, none⟩)) true ty).run Tryd.prog (w.iter s pos) = _ := fun ty => run_next_any w s pos ty hp
      have hwd := width_at s pos hp
      have HN : Hid (nameF k (runesAt s pos) = if k = 8 ∨ standB (Utf8.decode s pos).1 k = false then false else nameF (k + 1) (runesAt s (pos + (Utf8.decode s pos).2))) := by
        rw [runesAt_next s pos hp]; rfl
      generalize hr : Utf8.decode s pos = dd at *
      obtain ⟨r, wd⟩ := dd
      simp only at *
      clear hr
      by_cases h8 : k = 8
      · subst h8
        go_wp2
        go_ret
        refine ⟨ret_bool ?_, (Below.refl _ _).alloc (Nat.le_refl _) _⟩
        rw [← H0.out, ← HC.out, HN.out]; simp
      · have h8' : ((k : Int) == 8) = false := by simp; omega
        cases hst : standB r k
        all_goals
          go_wp2_with (go_at_call 95; refine (stand_any _ _ _).mono ?_; rintro e w' ⟨rfl, rfl⟩)
        · go_ret
          refine ⟨ret_bool ?_, (Below.refl _ _).alloc (Nat.le_refl _) _⟩
          rw [← H0.out, ← HC.out, HN.out]; simp [hst]
        · go_roundw
          case rel =>
            refine ⟨pos + wd, k + 1, rfl, by go_num, ?_, by omega, by omega⟩
            rw [← HC.out, HN.out, if_neg (by simp [hst, h8])]
          case measure =>
            simp
            omega
    · have hnx : ∀ ty, (Instr.next (.pointer (some ⟨w.heap.size, 0, none⟩)) true ty).run Tryd.prog (w.iter s pos) = _ := fun ty => run_next_end w s pos ty hp
      go_wp2
      go_ret
      refine ⟨ret_bool ?_, (Below.refl _ _).alloc (Nat.le_refl _) _⟩
      rw [← H0.out, ← HC.out, runesAt_end s pos hp]
      simp [nameF]

def wrongV : Option Nat → Value
  | some n => .tuple #[.int .i64 n, .bool true]
  | none => .tuple #[.int .i64 0, .bool false]

set_option maxRecDepth 1000000 in
set_option maxHeartbeats 1000000 in
theorem firstWrong_any (s : ByteArray) (w : World) (hs : s.size ≤ maxLen) :
    Calls Tryd.prog 53 #[.string s] w fun e w' => e = .returned (wrongV (wrongO s.data.toList)) ∧ Below w.heap.size w w' := by
  unfold maxLen at hs
  have H0 : Hid (wrongF 0 (runesAt s 0) = wrongO s.data.toList) := by simp [Hid, runesAt, wrongO]
  go_enter Tryd.func53, Tryd.ntmps53
  go_wp2
  go_loopw [4, 5, 6] (fun n _ _ w' => ∃ (pos k : Nat), w' = w.iter s pos ∧ n = .int .i64 k ∧ wrongF k (runesAt s pos) = wrongF 0 (runesAt s 0) ∧ k ≤ pos ∧ pos ≤ s.size) (fun _ _ _ w' => s.size - w'.iterPos w.heap.size)
  case atStart => exact ⟨0, 0, rfl, rfl, rfl, by omega, by omega⟩
  case round =>
    obtain ⟨pos, k, rfl, rfl, hc, hk, hps⟩ := hrel
    have HC : Hid (wrongF k (runesAt s pos) = wrongF 0 (runesAt s 0)) := hc
    clear hc
    by_cases hp : pos < s.size
    · have hnx : ∀ ty, (Instr.next (.pointer (some ⟨w.heap.size, 0, none⟩)) true ty).run Tryd.prog (w.iter s pos) = _ := fun ty => run_next_any w s pos ty hp
      have hwd := width_at s pos hp
      have HN : Hid (wrongF k (runesAt s pos) = if badB (Utf8.decode s pos) = true then some k else wrongF (k + 1) (runesAt s (pos + (Utf8.decode s pos).2))) := by
        rw [runesAt_next s pos hp]; rfl
      have HP : Hid ((Utf8.decode s pos).1 = 65533 → Lib.hasPrefix (s.extract pos s.size).data.toList [239, 191, 189] = !badB (Utf8.decode s pos)) := prefix_at s pos
      have HB : Hid ((Utf8.decode s pos).1 ≠ 65533 → badB (Utf8.decode s pos) = false) := fun h => by simp [badB, h]
      generalize hr : Utf8.decode s pos = dd at *
      obtain ⟨r, wd⟩ := dd
      simp only at *
      clear hr
      by_cases hr : r = 65533
      · have hp' := HP.out hr
        have hr' : ((r : Int) == 65533) = true := by simp; omega
        have HR : Hid (r = 65533) := hr
        clear HP HB hr
        cases hb : badB (r, wd)
        all_goals
          rw [hb] at hp'
          simp only [Bool.not_false, Bool.not_true] at hp'
          have HBD := (show Hid (badB (r, wd) = _) from hb)
          clear hb
          have cH := fun W => hasPrefix_any (s.extract pos s.size) ⟨#[239, 191, 189]⟩ W
          rw [show Lib.hasPrefix (s.extract pos s.size).data.toList (ByteArray.mk #[239, 191, 189]).data.toList = _ from hp'] at cH
          clear hp'
          go_wp2_with (go_at_call 69; refine (cH _).mono ?_; rintro e w' ⟨rfl, rfl⟩)
        · go_roundw
          case rel =>
            refine ⟨pos + wd, k + 1, rfl, by go_num, ?_, by omega, by omega⟩
            rw [← HC.out, HN.out, if_neg (by simp [HBD.out])]
          case measure =>
            simp
            omega
        · go_ret2
          refine ⟨?_, (Below.refl _ _).alloc (Nat.le_refl _) _⟩
          rw [← H0.out, ← HC.out, HN.out, if_pos HBD.out]
          rfl
      · have hr' : ((r : Int) == 65533) = false := by simp; omega
        have hb := HB.out hr
        clear HP HB
        go_wp2_with fail
        go_roundw
        case rel =>
          refine ⟨pos + wd, k + 1, rfl, by go_num, ?_, by omega, by omega⟩
          rw [← HC.out, HN.out, if_neg (by simp [hb])]
        case measure =>
          simp
          omega
    · have hnx : ∀ ty, (Instr.next (.pointer (some ⟨w.heap.size, 0, none⟩)) true ty).run Tryd.prog (w.iter s pos) = _ := fun ty => run_next_end w s pos ty hp
      go_wp2
      go_ret2
      refine ⟨?_, (Below.refl _ _).alloc (Nat.le_refl _) _⟩
      rw [← H0.out, ← HC.out, runesAt_end s pos hp]
      rfl

end Go.Proofs.YtgiaicmhnkhbnaaDoor

namespace Go.Proofs.YtgiaicmhnkhbnaaDoor
open Go.RowKit

theorem liteClone_any (s : ByteArray) (w : World) (hlim : s.size ≤ 281474976710656) :
    Calls Tryd.prog 94 #[.string s] w fun e w' => e = .returned (.string s) ∧ Below w.heap.size w w' := Tryd.stringslite_Clone s w hlim

theorem clone_any (s : ByteArray) (w : World) (hlim : s.size ≤ 281474976710656) :
    Calls Tryd.prog 84 #[.string s] w fun e w' => e = .returned (.string s) ∧ Below w.heap.size w w' := by
  go_enter Tryd.func84, Tryd.ntmps84
  go_wp2_with (go_at_call 94; refine (liteClone_any _ _ hlim).mono ?_; rintro e w' ⟨rfl, hb⟩)
  go_ret
  exact ⟨rfl, hb⟩

theorem bcell {W w1 : World} (hb : Below W.heap.size W w1) : (∀ b o, b < W.heap.size → w1.cell? ⟨b, o, none⟩ = W.cell? ⟨b, o, none⟩) ∧ (∀ b o, b < W.heap.size → w1.frozen? ⟨b, o, none⟩ = W.frozen? ⟨b, o, none⟩) :=
  ⟨fun b o h => hb.cell (p := ⟨b, o, none⟩) h, fun b o h => hb.frozen (p := ⟨b, o, none⟩) h⟩

set_option maxHeartbeats 1000000 in
theorem newWord_any (s : ByteArray) (n : Int) (w : World) (hlim : s.size ≤ 281474976710656) :
    Calls Tryd.prog 71 #[.string s, .int .i64 n] w fun e w' => e = .returned (.agg #[.string s, .int .i64 n]) ∧ Below w.heap.size w w' := by
  go_enter Tryd.func71, Tryd.ntmps71
  go_wp2_with fail
  refine (clone_any _ _ hlim).mono ?_
  rintro e w1 ⟨rfl, hb⟩
  obtain ⟨hc, hf⟩ := bcell hb
  go_wp2
  refine bodyPost_ret (v := .agg #[.string s, .int .i64 n]) (by simp [results, Tryd.results71, go_sem, hc]) rfl ⟨rfl, ?_⟩
  exact ((((Below.refl _ _).alloc (Nat.le_refl _) _).trans (hb.mono (by simp))).setCell (Nat.le_refl _) _).setCell (Nat.le_refl _) _

end Go.Proofs.YtgiaicmhnkhbnaaDoor

namespace Go.Proofs.YtgiaicmhnkhbnaaDoor
open Go.RowKit

/-- The words from a place on: each word and how many runes stand ahead of it. -/
def splitF (s : ByteArray) : List (Nat × Nat) → Nat → Nat → Bool → Nat → Nat → List (ByteArray × Nat)
  | [], _, _, ins, st, a => if ins = true then [(s.extract st s.size, a)] else []
  | d :: rs, pos, k, ins, st, a =>
    if blankB d.1 = true then (if ins = true then [(s.extract st pos, a)] else []) ++ splitF s rs (pos + d.2) (k + 1) false st a
    else if ins = true then splitF s rs (pos + d.2) (k + 1) true st a
    else splitF s rs (pos + d.2) (k + 1) true pos k
def wordsL (s : ByteArray) : List (ByteArray × Nat) := splitF s (runesAt s 0) 0 0 false 0 0

def wordCells (l : List (ByteArray × Nat)) : List Value := l.flatMap fun x => [.string x.1, .int .i64 x.2]
theorem wordCells_length (l : List (ByteArray × Nat)) : (wordCells l).length = l.length * 2 := by
  induction l with
  | nil => rfl
  | cons x l ih => simp only [wordCells, List.flatMap_cons, List.length_append, List.length_cons, List.length_nil] at *; omega
theorem wordCells_snoc (l : List (ByteArray × Nat)) (x : ByteArray × Nat) : wordCells (l ++ [x]) = wordCells l ++ [.string x.1, .int .i64 x.2] := by
  simp [wordCells]

theorem splitF_next (s : ByteArray) (pos k : Nat) (b : Bool) (st a : Nat) (h : pos < s.size) : splitF s (runesAt s pos) pos k b st a =
    if blankB (Utf8.decode s pos).1 = true then (if b = true then [(s.extract st pos, a)] else []) ++ splitF s (runesAt s (pos + (Utf8.decode s pos).2)) (pos + (Utf8.decode s pos).2) (k + 1) false st a
    else if b = true then splitF s (runesAt s (pos + (Utf8.decode s pos).2)) (pos + (Utf8.decode s pos).2) (k + 1) true st a
    else splitF s (runesAt s (pos + (Utf8.decode s pos).2)) (pos + (Utf8.decode s pos).2) (k + 1) true pos k := by
  rw [runesAt_next s pos h]; rfl

theorem splitF_length (s : ByteArray) : ∀ (rs : List (Nat × Nat)) (pos k : Nat) (b : Bool) (st a : Nat), (splitF s rs pos k b st a).length ≤ rs.length + (if b = true then 1 else 0)
  | [], pos, k, b, st, a => by cases b <;> simp [splitF]
  | d :: rs, pos, k, b, st, a => by
    have h1 := splitF_length s rs (pos + d.2) (k + 1) false st a
    have h2 := splitF_length s rs (pos + d.2) (k + 1) true st a
    have h3 := splitF_length s rs (pos + d.2) (k + 1) true pos k
    simp only [Bool.false_eq_true, if_false, if_true] at h1 h2 h3
    rw [splitF, List.length_cons]
    cases b
    · simp only [Bool.false_eq_true, if_false, List.nil_append]
      split <;> omega
    · simp only [if_true]
      split
      · simp only [List.length_append, List.length_cons, List.length_nil]; omega
      · omega

theorem infoW : (Tryd.prog.info? 102).map (fun i => (i.zero, i.size, i.bytes)) = some (some (.agg #[.string ⟨#[]⟩, .int .i64 0]), 2, 24) := by kernel_rfl

theorem grown_of_below {w w' : World} (h : Below w.heap.size w w') : w.grownBy w' none := ⟨h.os, h.tape, h.output, h.size, fun k hk _ => h.block k hk⟩
theorem owns_below {w w' : World} {base : Nat} {e : TypeId} {size : Nat} {v : Value} {n : Nat} {xs : List Value} (h : w.ownsRow base e size v n xs) (hb : Below w.heap.size w w') : w'.ownsRow base e size v n xs :=
  h.kept (grown_of_below hb) (by cases v.ownBlock <;> simp)

theorem owns_mono {w : World} {base base' : Nat} {e : TypeId} {size : Nat} {v : Value} {n : Nat} {xs : List Value} (h : w.ownsRow base e size v n xs) (hb : base' ≤ base) : w.ownsRow base' e size v n xs := by
  refine ⟨h.1, ?_⟩
  rcases h.2 with h2 | ⟨g, cap, cur, a, b, c⟩
  · exact .inl h2
  · exact .inr ⟨g, cap, cur, a, by omega, c⟩
theorem two_one (a : ByteArray) (n : Int) : ∀ u ∈ [Value.string a, Value.int .i64 n], u.oneCell' = true := by
  intro u hu
  simp at hu
  rcases hu with rfl | rfl <;> rfl
theorem iter_grown {w w2 w3 : World} {o : Obj} {e : TypeId} {size : Nat} {v : Value} {n : Nat} {xs : List Value} {it : Obj} (hown : w2.ownsRow (w.heap.size + 1) e size v n xs)
    (hit : w2.heap[w.heap.size]? = some it) (hbl : Below w.heap.size w w2) (hg : (w2.alloc o).grownBy w3 v.ownBlock) : w3.heap[w.heap.size]? = some it ∧ Below w.heap.size w w3 := by
  have hsz : w.heap.size < w2.heap.size := (Array.getElem?_eq_some_iff.1 hit).1
  have hne : ∀ k, v.ownBlock = some k → w.heap.size + 1 ≤ k := fun k hk => (hown.lt k hk).1
  refine ⟨?_, (hbl.alloc (by omega) o).grown hg (by simp; omega) (fun k hk => by have := hne k hk; omega)⟩
  rw [hg.block _ (by simp; omega) (fun e => by have := hne _ e.symm; omega), Below.heap_alloc _ _ _ hsz]
  exact hit

set_option maxRecDepth 1000000 in
set_option maxHeartbeats 4000000 in
theorem split_any (s : ByteArray) (w : World) (hs : s.size ≤ 4294967296) :
    Calls Tryd.prog 54 #[.string s] w fun e w' => ∃ v, e = .returned v ∧ w'.ownsRow w.heap.size 102 2 v (wordsL s).length (wordCells (wordsL s)) ∧ Below w.heap.size w w' := by
  obtain ⟨i0, hi, hz0, hz1, hz2⟩ := info_parts infoW
  go_enter Tryd.func54, Tryd.ntmps54
  go_wp2
  go_loopw [3, 4, 5, 6, 7, 8, 9] (fun v ins st a n _ _ wr => ∃ (pos k st0 a0 : Nat) (b : Bool) (ws : List (ByteArray × Nat)),
      wr.heap[w.heap.size]? = some (.stringIter s pos) ∧ wr.ownsRow (w.heap.size + 1) 102 2 v ws.length (wordCells ws) ∧ ins = .bool b ∧ st = .int .i64 st0 ∧ a = .int .i64 a0 ∧ n = .int .i64 k ∧
      ws ++ splitF s (runesAt s pos) pos k b st0 a0 = wordsL s ∧ st0 ≤ pos ∧ k ≤ pos ∧ ws.length ≤ pos ∧ pos ≤ s.size ∧ Below w.heap.size w wr)
    (fun _ _ _ _ _ _ _ wr => s.size - wr.iterPos w.heap.size)
  case atStart => exact ⟨0, 0, 0, 0, false, [], World.iter_heap w s 0, World.ownsRow_nil _ _ _ _, rfl, rfl, rfl, rfl, rfl, by omega, by omega, by simp, by omega, (Below.refl _ _).alloc (Nat.le_refl _) _⟩
  case round =>
    obtain ⟨pos, k, st0, a0, b, ws, hit, hown, rfl, rfl, rfl, rfl, hc, hst, hk, hwl, hps, hbl⟩ := hrel
    have HC : Hid (ws ++ splitF s (runesAt s pos) pos k b st0 a0 = wordsL s) := hc
    clear hc
    have hsz : w.heap.size < wr.heap.size := (Array.getElem?_eq_some_iff.1 hit).1
    have HP : Hid (wr.iterPos w.heap.size = pos) := iterPos_of hit
    by_cases hp : pos < s.size
    · have hnx := fun ty => Lib.run_next_any_at (P := Tryd.prog) wr w.heap.size s pos ty hit hp
      have hwd := width_at s pos hp
      have hn := splitF_next s pos k b st0 a0 hp
      have HN : Hid (splitF s (runesAt s pos) pos k b st0 a0 = _) := hn
      clear hn
      generalize hr : Utf8.decode s pos = dd at *
      obtain ⟨r, wd⟩ := dd
      simp only at hnx hwd
      clear hr
      obtain ⟨wi, hwi⟩ : ∃ wi, wi = wr.iterAt w.heap.size s (pos + wd) := ⟨_, rfl⟩
      rw [← hwi] at hnx
      have hit' : wi.heap[w.heap.size]? = some (.stringIter s (pos + wd)) := by rw [hwi]; exact Lib.iterAt_heap _ _ _ _ _ hit
      have hown' := ownsRow_iterAt hown (k := w.heap.size) (by omega) s (pos + wd)
      rw [← hwi] at hown'
      have hbl' : Below w.heap.size w wi := by rw [hwi]; exact Lib.below_iterAt hbl (Nat.le_refl _) _ _
      have hsz' : w.heap.size < wi.heap.size := (Array.getElem?_eq_some_iff.1 hit').1
      clear hwi hown hit hbl
      cases hbk : blankB r <;> cases b
      · go_wp2_with (go_at_call 70; refine (blank_any _ _).mono ?_; rintro e w' ⟨rfl, rfl⟩)
        go_roundw
        case rel => exact ⟨pos + wd, k + 1, pos, k, true, ws, hit', hown', rfl, rfl, rfl, by go_num, by rw [← HC.out, HN.out]; simp [hbk], by omega, by omega, by omega, by omega, hbl'⟩
        case measure => rw [HP.out, iterPos_of hit']; omega
      · go_wp2_with (go_at_call 70; refine (blank_any _ _).mono ?_; rintro e w' ⟨rfl, rfl⟩)
        go_roundw
        case rel => exact ⟨pos + wd, k + 1, st0, a0, true, ws, hit', hown', rfl, rfl, rfl, by go_num, by rw [← HC.out, HN.out]; simp [hbk], by omega, by omega, by omega, by omega, hbl'⟩
        case measure => rw [HP.out, iterPos_of hit']; omega
      · go_wp2_with (go_at_call 70; refine (blank_any _ _).mono ?_; rintro e w' ⟨rfl, rfl⟩)
        go_roundw
        case rel => exact ⟨pos + wd, k + 1, st0, a0, false, ws, hit', hown', rfl, rfl, rfl, by go_num, by rw [← HC.out, HN.out]; simp [hbk], by omega, by omega, by omega, by omega, hbl'⟩
        case measure => rw [HP.out, iterPos_of hit']; omega
      · go_wp2_with (go_at_call 70; refine (blank_any _ _).mono ?_; rintro e w' ⟨rfl, rfl⟩)
        refine (newWord_any _ _ _ (by simp; omega)).mono ?_
        rintro e w2 ⟨rfl, hb2⟩
        have hown2 := owns_below hown' hb2
        have hit2 : w2.heap[w.heap.size]? = some (.stringIter s (pos + wd)) := (hb2.block _ hsz').trans hit'
        have hbl2 : Below w.heap.size w w2 := hbl'.trans (hb2.mono (by omega))
        have hsz2 : w.heap.size < w2.heap.size := (Array.getElem?_eq_some_iff.1 hit2).1
        clear hb2 hbl' hit' hown'
        go_wp2_with (at_builtin; refine wpList_append_own _ rfl _ _ 82 rfl (w.heap.size + 1) 102 i0 (.agg #[.string ⟨#[]⟩, .int .i64 0]) 2 24 Tryd.underlying82 hi hz0 hz1 hz2 rfl (by decide) _ _ _ rfl (hown2.alloc _) ⟨w2.heap.size, 0, none⟩ 1 1 [.string (s.extract st0 pos), .int .i64 a0] rfl rfl (cell_two_new _ _ _ _) (two_one _ _) (by unfold maxLen; omega) (by omega) (by simp; omega) ?_)
        intro v' w3 hown3 hgrow _
        obtain ⟨hit3, hbl3⟩ := iter_grown hown2 hit2 hbl2 hgrow
        clear hown2 hgrow hbl2 hit2
        go_wp2
        go_roundw
        case rel => exact ⟨pos + wd, k + 1, st0, a0, false, ws ++ [(s.extract st0 pos, a0)], hit3, by rw [wordCells_snoc, List.length_append]; exact hown3, rfl, rfl, rfl, by go_num, by rw [← HC.out, HN.out]; simp [hbk], by omega, by omega, by rw [List.length_append]; simp; omega, by omega, hbl3⟩
        case measure => rw [HP.out, iterPos_of hit3]; omega
    · have hnx := fun ty => Lib.run_next_end_at (P := Tryd.prog) wr w.heap.size s pos ty hit hp
      rw [runesAt_end s pos hp] at HC
      cases b
      · go_wp2
        go_ret
        refine ⟨_, rfl, ?_, hbl⟩
        have h1 := HC.out
        simp only [splitF, Bool.false_eq_true, if_false, List.append_nil] at h1
        rw [← h1]
        exact owns_mono hown (by omega)
      · go_wp2_with fail
        refine (newWord_any _ _ _ (by simp; omega)).mono ?_
        rintro e w2 ⟨rfl, hb2⟩
        have hown2 := owns_below hown hb2
        have hit2 : w2.heap[w.heap.size]? = some (.stringIter s pos) := (hb2.block _ hsz).trans hit
        have hbl2 : Below w.heap.size w w2 := hbl.trans (hb2.mono (by omega))
        have hsz2 : w.heap.size < w2.heap.size := (Array.getElem?_eq_some_iff.1 hit2).1
        clear hb2 hbl hit hown
        go_wp2_with (at_builtin; refine wpList_append_own _ rfl _ _ 82 rfl (w.heap.size + 1) 102 i0 (.agg #[.string ⟨#[]⟩, .int .i64 0]) 2 24 Tryd.underlying82 hi hz0 hz1 hz2 rfl (by decide) _ _ _ rfl (hown2.alloc _) ⟨w2.heap.size, 0, none⟩ 1 1 [.string (s.extract st0 s.size), .int .i64 a0] rfl rfl (cell_two_new _ _ _ _) (two_one _ _) (by unfold maxLen; omega) (by omega) (by simp; omega) ?_)
        intro v' w3 hown3 hgrow _
        obtain ⟨hit3, hbl3⟩ := iter_grown hown2 hit2 hbl2 hgrow
        clear hown2 hgrow hbl2 hit2
        go_wp2
        go_ret
        refine ⟨_, rfl, ?_, hbl3⟩
        have h1 := HC.out
        simp only [splitF, if_true] at h1
        rw [← h1, wordCells_snoc, List.length_append]
        exact owns_mono hown3 (by omega)

set_option maxHeartbeats 1000000 in
theorem words_ok (s : ByteArray) (w : World) (hs : s.size ≤ 4294967296) (h : wrongO s.data.toList = none) :
    Calls Tryd.prog 43 #[.string s] w fun e w' => ∃ v, e = .returned (.tuple #[v, .int .i64 (-1)]) ∧ w'.ownsRow w.heap.size 102 2 v (wordsL s).length (wordCells (wordsL s)) ∧ Below w.heap.size w w' := by
  go_enter Tryd.func43, Tryd.ntmps43
  go_wp2_with fail
  refine (firstWrong_any s _ (by unfold maxLen; omega)).mono ?_
  rintro e w1 ⟨rfl, hb1⟩
  rw [h]
  simp only [wrongV]
  go_wp2_with fail
  refine (split_any s _ hs).mono ?_
  rintro e w2 ⟨v, rfl, hown, hb2⟩
  go_wp2
  go_ret2
  exact ⟨v, rfl, owns_mono hown hb1.size, hb1.trans (hb2.mono hb1.size)⟩

set_option maxHeartbeats 1000000 in
theorem words_bad (s : ByteArray) (w : World) (hs : s.size ≤ 4294967296) (n : Nat) (h : wrongO s.data.toList = some n) :
    Calls Tryd.prog 43 #[.string s] w fun e w' => e = .returned (.tuple #[.slice none 0 0, .int .i64 n]) ∧ Below w.heap.size w w' := by
  go_enter Tryd.func43, Tryd.ntmps43
  go_wp2_with fail
  refine (firstWrong_any s _ (by unfold maxLen; omega)).mono ?_
  rintro e w1 ⟨rfl, hb1⟩
  rw [h]
  simp only [wrongV]
  go_wp2_with fail
  go_ret2
  exact ⟨rfl, hb1⟩
end Go.Proofs.YtgiaicmhnkhbnaaDoor

namespace Go.Proofs.YtgiaicmhnkhbnaaDoor

/-- The first error stays. -/
def failE (f e : Nat) : Nat := if f = 0 then e else f
/-- A reader: the words that are left, and the error. -/
abbrev Rd := List ByteArray × Nat

def kSection : ByteArray := ⟨#[115, 101, 99, 116, 105, 111, 110]⟩
def kSignal : ByteArray := ⟨#[115, 105, 103, 110, 97, 108]⟩
def kPoint : ByteArray := ⟨#[112, 111, 105, 110, 116]⟩
def kIn : ByteArray := ⟨#[105, 110]⟩
def kRoute : ByteArray := ⟨#[114, 111, 117, 116, 101]⟩
def kFrom : ByteArray := ⟨#[102, 114, 111, 109]⟩
def kTo : ByteArray := ⟨#[116, 111]⟩
def kVia : ByteArray := ⟨#[118, 105, 97]⟩
def kSet : ByteArray := ⟨#[115, 101, 116]⟩
def kFlank : ByteArray := ⟨#[102, 108, 97, 110, 107]⟩

def endsB (s : ByteArray) : Bool := decide (s = kSet ∨ s = kFlank)
/-- A NAME. -/
def capB (s : ByteArray) : Bool := nameB s.data.toList && !endsB s

def rNext : Rd → ByteArray × Rd
  | ([], f) => (⟨#[]⟩, ([], failE f 2))
  | (x :: ws, f) => (x, (ws, f))
def rWord (t : ByteArray) (r : Rd) : Rd := if (rNext r).1 = t then (rNext r).2 else ((rNext r).2.1, failE (rNext r).2.2 2)
def rName (r : Rd) : ByteArray × Rd := ((rNext r).1, if capB (rNext r).1 = true then (rNext r).2 else ((rNext r).2.1, failE (rNext r).2.2 3))
def cutF : List (Nat × Nat) → Nat → Nat → Nat → Nat × Nat
  | [], _, a, l => (a, l)
  | d :: rs, pos, _, _ => cutF rs (pos + d.2) pos d.1
/-- A text without its last rune, and that. -/
def cutLast (s : ByteArray) : ByteArray × Nat := (s.extract 0 (cutF (runesAt s 0) 0 0 0).1, (cutF (runesAt s 0) 0 0 0).2)
def signE (f l : Nat) : Nat := if l = 43 ∨ l = 45 then f else failE f 2
def wantE (f : Nat) (x : ByteArray) : Nat := if capB x = true then f else failE f 3
abbrev Wt := ByteArray × Bool
def rWant (r : Rd) : Wt × Rd :=
  (((cutLast (rNext r).1).1, decide ((cutLast (rNext r).1).2 = 45)), ((rNext r).2.1, wantE (signE (rNext r).2.2 (cutLast (rNext r).1).2) (cutLast (rNext r).1).1))
def rEnd (r : Rd) : Rd := if r.1 = [] then r else (r.1, failE r.2 2)
def rAhead (t : ByteArray) (r : Rd) : Bool := match r.1 with
  | [] => false
  | x :: _ => decide (x = t)
def rGoes (r : Rd) : Bool := match r.1 with
  | [] => false
  | x :: _ => !endsB x
def rowF {α : Type} (one : Rd → α × Rd) : Nat → Rd → List α × Rd
  | 0, r => ([], r)
  | k + 1, r => if rGoes r = true then ((one r).1 :: (rowF one k (one r).2).1, (rowF one k (one r).2).2) else ([], r)
def rRow {α : Type} (one : Rd → α × Rd) (r : Rd) : List α × Rd := ((one r).1 :: (rowF one (one r).2.1.length (one r).2).1, (rowF one (one r).2.1.length (one r).2).2)
def rWants (t : ByteArray) (r : Rd) : List Wt × Rd := if rAhead t r = true then rRow rWant (rWord t r) else ([], r)

structure RL where
  name : ByteArray
  frm : ByteArray
  to : ByteArray
  via : List ByteArray
  set : List Wt
  flank : List Wt

def rRoute (r : Rd) : RL × Rd :=
  let a := rName r
  let b := rName (rWord kFrom a.2)
  let c := rName (rWord kTo b.2)
  let d := rRow rName (rWord kVia c.2)
  let e := rWants kSet d.2
  let f := rWants kFlank e.2
  (⟨a.1, b.1, c.1, d.1, e.1, f.1⟩, rEnd f.2)

structure Rt where
  name : ByteArray
  frm : Int
  to : Int
  path : List Int
  points : List (Int × Bool)
  flank : List (Int × Bool)

structure Lay where
  sections : List ByteArray
  points : List (ByteArray × Int)
  signals : List ByteArray
  routes : List Rt

def Lay.zero : Lay := ⟨[], [], [], []⟩

/-- The place of the first; -1. -/
def idxF (x : ByteArray) : List ByteArray → Nat → Int
  | [], _ => -1
  | y :: l, k => if x = y then (k : Int) else idxF x l (k + 1)
def idx (l : List ByteArray) (x : ByteArray) : Int := idxF x l 0

def pointAt (l : Lay) (x : ByteArray) : Int := idx (l.points.map (·.1)) x
def needsP (l : Lay) (ws : List Wt) : List (Int × Bool) := ws.map fun x => (pointAt l x.1, x.2)
def byPlaces (l : Lay) (r : RL) : Rt := ⟨r.name, idx l.signals r.frm, idx l.signals r.to, r.via.map (idx l.sections), needsP l r.set, needsP l r.flank⟩
def hasRoute (l : Lay) (x : ByteArray) : Bool := l.routes.any fun r => decide (r.name = x)
def lacks (r : Rt) : Bool := decide (r.frm = -1) || (decide (r.to = -1) || (r.path.any (fun n => decide (n = -1)) || (r.points.any (fun n => decide (n.1 = -1)) || r.flank.any (fun n => decide (n.1 = -1)))))
def tooLong (r : Rt) : Bool := decide (5 < r.path.length) || (decide (5 < r.points.length) || decide (5 < r.flank.length))

def addNameP (l : List ByteArray) (most : Nat) (r : Rd) : Nat × List ByteArray :=
  let a := rName r
  let b := rEnd a.2
  if b.2 ≠ 0 then (b.2, l) else if idx l a.1 ≠ -1 then (4, l) else if most ≤ l.length then (6, l) else (0, l ++ [a.1])
def addPointP (l : Lay) (r : Rd) : Nat × Lay :=
  let a := rName r
  let b := rName (rWord kIn a.2)
  let c := rEnd b.2
  if c.2 ≠ 0 then (c.2, l) else if pointAt l a.1 ≠ -1 then (4, l) else if idx l.sections b.1 = -1 then (5, l) else if 5 ≤ l.points.length then (6, l)
  else (0, { l with points := l.points ++ [(a.1, idx l.sections b.1)] })
def addRouteP (l : Lay) (r : Rd) : Nat × Lay :=
  let a := rRoute r
  if a.2.2 ≠ 0 then (a.2.2, l) else
  let t := byPlaces l a.1
  if hasRoute l a.1.name = true then (4, l) else if lacks t = true then (5, l) else if 6 ≤ l.routes.length ∨ tooLong t = true then (6, l)
  else (0, { l with routes := l.routes ++ [t] })

/-- Where the first rune of that number stands. -/
def findF (c : Nat) : List (Nat × Nat) → Nat → Option Nat
  | [], _ => none
  | d :: rs, pos => if d.1 = c then some pos else findF c rs (pos + d.2)
def cutLine (s : ByteArray) : ByteArray × ByteArray := match findF 10 (runesAt s 0) 0 with
  | some i => (s.extract 0 i, s.extract (i + 1) s.size)
  | none => (s, ⟨#[]⟩)
def noRemark (s : ByteArray) : ByteArray := match findF 35 (runesAt s 0) 0 with
  | some i => s.extract 0 i
  | none => s

def addWords (l : Lay) (ws : List ByteArray) : Nat × Lay := match ws with
  | [] => (0, l)
  | x :: ws =>
    if x = kSection then ((addNameP l.sections 10 (ws, 0)).1, { l with sections := (addNameP l.sections 10 (ws, 0)).2 })
    else if x = kSignal then ((addNameP l.signals 6 (ws, 0)).1, { l with signals := (addNameP l.signals 6 (ws, 0)).2 })
    else if x = kPoint then addPointP l (ws, 0)
    else if x = kRoute then addRouteP l (ws, 0)
    else (2, l)
def addLineP (l : Lay) (line : ByteArray) : Nat × Lay :=
  if wrongO (noRemark line).data.toList = none then addWords l ((wordsL (noRemark line)).map (·.1)) else (2, l)

def parseF : Nat → Lay → Nat → ByteArray → Lay × Nat × Nat
  | 0, l, n, _ => (l, n, 0)
  | f + 1, l, n, s =>
    if s.size = 0 then (l, n, 0) else if 60 ≤ n then (.zero, n + 1, 6)
    else if (addLineP l (cutLine s).1).1 = 0 then parseF f (addLineP l (cutLine s).1).2 (n + 1) (cutLine s).2 else (.zero, n + 1, (addLineP l (cutLine s).1).1)
def parseP (s : ByteArray) : Lay × Nat × Nat := parseF 61 .zero 0 s

end Go.Proofs.YtgiaicmhnkhbnaaDoor

namespace Go.Proofs.YtgiaicmhnkhbnaaDoor
open Go.RowKit

/-- What a pointer to a reader leads to: the words that are left, the error; the words lie in older memory. -/
def RdIn (w : World) (R : Nat) (r : Rd) : Prop := ∃ (oa : Option Addr) (cap : Nat), w.heap[R]? = some (.cells #[.slice oa r.1.length cap, .int .i64 r.2] 88 (0, 0)) ∧ r.1.length ≤ cap ∧ r.1.length ≤ 4294967296 ∧
  ∀ j x, r.1[j]? = some x → ∃ g off, oa = some ⟨g, off, none⟩ ∧ g < R ∧ w.cell? ⟨g, off + j * 2, none⟩ = some (.string x)

theorem RdIn.lt {w : World} {R : Nat} {r : Rd} (h : RdIn w R r) : R < w.heap.size := by
  obtain ⟨oa, cap, h1, _⟩ := h
  exact (Array.getElem?_eq_some_iff.1 h1).1
theorem RdIn.len {w : World} {R : Nat} {r : Rd} (h : RdIn w R r) : r.1.length ≤ 4294967296 := by
  obtain ⟨_, _, _, _, h, _⟩ := h
  exact h
/-- What turns only younger memory leaves the reader. -/
theorem RdIn.keep {w w' : World} {R : Nat} {r : Rd} (h : RdIn w R r) (hk : ∀ k, k ≤ R → w'.heap[k]? = w.heap[k]?) : RdIn w' R r := by
  obtain ⟨oa, cap, h1, h2, h3, h4⟩ := h
  refine ⟨oa, cap, (hk R (Nat.le_refl _)).trans h1, h2, h3, fun j x hj => ?_⟩
  obtain ⟨g, off, e, hg, c⟩ := h4 j x hj
  exact ⟨g, off, e, hg, (World.cell?_of_block (w := w) (a := ⟨g, off + j * 2, none⟩) (hk g (by omega))).trans c⟩
theorem RdIn.below {w w' : World} {R : Nat} {r : Rd} (h : RdIn w R r) (hb : Below w.heap.size w w') : RdIn w' R r :=
  h.keep fun k hk => hb.block k (by have := h.lt; omega)

theorem heap_set1 {w : World} {c : Nat} {v u x : Value} {t : TypeId} (h : w.heap[c]? = some (.cells #[v, x] t (0, 0))) : (w.setCell ⟨c, 0, none⟩ u).heap[c]? = some (.cells #[u, x] t (0, 0)) := by
  simp [World.setCell, Array.getElem?_modify, h]
theorem heap_set2 {w : World} {c : Nat} {v u x : Value} {t : TypeId} (h : w.heap[c]? = some (.cells #[v, x] t (0, 0))) : (w.setCell ⟨c, 1, none⟩ u).heap[c]? = some (.cells #[v, u] t (0, 0)) := by
  simp [World.setCell, Array.getElem?_modify, h]
theorem grown_set (w : World) (c o : Nat) (u : Value) : w.grownBy (w.setCell ⟨c, o, none⟩ u) (some c) :=
  ⟨rfl, rfl, rfl, by simp [World.setCell], fun k _ hne => Below.heap_setCell _ _ _ _ (fun e => hne (by rw [e]))⟩
theorem two_cells {w : World} {c : Nat} {v x : Value} {t : TypeId} (h : w.heap[c]? = some (.cells #[v, x] t (0, 0))) : w.cell? ⟨c, 0, none⟩ = some v ∧ w.cell? ⟨c, 1, none⟩ = some x ∧ w.frozen? ⟨c, 0, none⟩ = false ∧ w.frozen? ⟨c, 1, none⟩ = false := by
  refine ⟨?_, ?_, ?_, ?_⟩ <;> simp [World.cell?, World.frozen?, h]

theorem RdIn.set1 {w : World} {R : Nat} {r : Rd} (h : RdIn w R r) (e : Nat) : RdIn (w.setCell ⟨R, 1, none⟩ (.int .i64 e)) R (r.1, e) := by
  obtain ⟨oa, cap, h1, h2, h3, h4⟩ := h
  refine ⟨oa, cap, heap_set2 h1, h2, h3, fun j x hj => ?_⟩
  obtain ⟨g, off, e1, hg, c⟩ := h4 j x hj
  exact ⟨g, off, e1, hg, (World.cell?_of_block (w := w) (a := ⟨g, off + j * 2, none⟩) (Below.heap_setCell _ _ _ _ (by show g ≠ R; omega))).trans c⟩
theorem RdIn.fault {w : World} {R : Nat} {r : Rd} (h : RdIn w R r) : w.cell? ⟨R, 1, none⟩ = some (.int .i64 r.2) ∧ w.frozen? ⟨R, 1, none⟩ = false := by
  obtain ⟨oa, cap, h1, _⟩ := h
  exact ⟨(two_cells h1).2.1, (two_cells h1).2.2.2⟩

set_option maxHeartbeats 400000 in
theorem fail_any (R : Nat) (r : Rd) (e : Nat) (w : World) (h : RdIn w R r) :
    Calls Tryd.prog 55 #[.pointer (some ⟨R, 0, none⟩), .int .i64 e] w fun en w' => en = .returned (.tuple #[]) ∧ RdIn w' R (r.1, failE r.2 e) ∧ w.grownBy w' (some R) := by
  have H : Hid (RdIn w R r) := h
  obtain ⟨c1, f1⟩ := h.fault
  clear h
  obtain ⟨ws, f⟩ := r
  simp only at *
  by_cases hf : f = 0
  · subst hf
    go_enter Tryd.func55, Tryd.ntmps55
    go_wp2
    go_end0
    exact ⟨rfl, H.out.set1 e, grown_set _ _ _ _⟩
  · have hf' : ((f : Int) == 0) = false := by simp; omega
    have HE : Hid (failE f e = f) := by simp [Hid, failE, hf]
    go_enter Tryd.func55, Tryd.ntmps55
    go_wp2
    go_end0
    exact ⟨rfl, by rw [HE.out]; exact H.out, World.grownBy.refl _ _⟩

theorem RdIn.step {w : World} {R : Nat} {x : ByteArray} {ws : List ByteArray} {f g off off' cap cap' n : Nat} (h1 : w.heap[R]? = some (.cells #[.slice (some ⟨g, off, none⟩) (n + 1) cap, .int .i64 f] 88 (0, 0))) (h3 : n + 1 ≤ 4294967296) (hn : ws.length = n)
    (h4 : ∀ j y, (x :: ws)[j]? = some y → ∃ g' off', some (⟨g, off, none⟩ : Addr) = some ⟨g', off', none⟩ ∧ g' < R ∧ w.cell? ⟨g', off' + j * 2, none⟩ = some (.string y)) (ho : n = 0 ∨ off' = off + 2) (hc : n ≤ cap') :
    RdIn (w.setCell ⟨R, 0, none⟩ (.slice (some ⟨g, off', none⟩) n cap')) R (ws, f) := by
  subst hn
  refine ⟨some ⟨g, off', none⟩, cap', heap_set1 h1, hc, (by show ws.length ≤ _; omega), fun j y hj => ⟨g, off', rfl, ?_⟩⟩
  obtain ⟨g', off'', e, hg, c⟩ := h4 (j + 1) y (by simpa using hj)
  simp only [Option.some.injEq, Addr.mk.injEq, and_true] at e
  obtain ⟨rfl, rfl⟩ := e
  refine ⟨hg, (World.cell?_of_block (w := w) (a := ⟨g, off' + j * 2, none⟩) (Below.heap_setCell _ _ _ _ (by show g ≠ R; omega))).trans ?_⟩
  rcases ho with ho | ho
  · have := List.eq_nil_of_length_eq_zero ho
    subst this
    simp at hj
  · rw [ho, show off + 2 + j * 2 = off + (j + 1) * 2 by omega]
    exact c

set_option maxHeartbeats 400000 in
theorem next_any (R : Nat) (r : Rd) (w : World) (h : RdIn w R r) :
    Calls Tryd.prog 45 #[.pointer (some ⟨R, 0, none⟩)] w fun en w' => en = .returned (.string (rNext r).1) ∧ RdIn w' R (rNext r).2 ∧ w.grownBy w' (some R) := by
  have H : Hid (RdIn w R r) := h
  obtain ⟨ws, f⟩ := r
  cases ws with
  | nil =>
    obtain ⟨oa, cap, h1, h2, h3, h4⟩ := h
    obtain ⟨c0, c1, f0, f1⟩ := two_cells h1
    simp only [List.length_nil] at c0
    clear h1 h4 h2 h3
    go_enter Tryd.func45, Tryd.ntmps45
    go_wp2_with fail
    refine (fail_any R ([], f) 2 _ H.out).mono ?_
    rintro e w1 ⟨rfl, h1, h2⟩
    go_wp2
    go_ret
    exact ⟨rfl, h1, h2⟩
  | cons x ws =>
    obtain ⟨oa, cap, h1, h2, h3, h4⟩ := h
    obtain ⟨c0, c1, f0, f1⟩ := two_cells h1
    obtain ⟨g, off, rfl, hg, cx⟩ := h4 0 x rfl
    simp only [Nat.zero_mul, Nat.add_zero] at cx
    simp only [List.length_cons] at *
    have H1 : Hid (w.heap[R]? = some (.cells #[.slice (some ⟨g, off, none⟩) (ws.length + 1) cap, .int .i64 f] 88 (0, 0))) := h1
    have H4 : Hid (∀ j y, (x :: ws)[j]? = some y → ∃ g' off', some (⟨g, off, none⟩ : Addr) = some ⟨g', off', none⟩ ∧ g' < R ∧ w.cell? ⟨g', off' + j * 2, none⟩ = some (.string y)) := h4
    clear h1 h4
    generalize hn : ws.length = n at *
    have HN : Hid (ws.length = n) := hn
    clear hn
    go_enter Tryd.func45, Tryd.ntmps45
    go_wp2
    all_goals go_ret
    · exact ⟨rfl, RdIn.step H1.out h3 HN.out H4.out (.inl (by omega)) (by omega), grown_set _ _ _ _⟩
    · exact ⟨rfl, RdIn.step H1.out h3 HN.out H4.out (.inr rfl) (by omega), grown_set _ _ _ _⟩

theorem grown_trans {a b c : World} {R : Nat} (h : a.grownBy b (some R)) (k : b.grownBy c (some R)) : a.grownBy c (some R) := h.trans k
theorem grown_below {a b c : World} {R : Nat} (h : a.grownBy b (some R)) (k : Below b.heap.size b c) : a.grownBy c (some R) :=
  h.andThen (row' := none) ⟨k.os, k.tape, k.output, k.size, fun i hi _ => k.block i hi⟩ (fun j e => by cases e)

theorem toList_eq (a b : ByteArray) : (a.toList == b.toList) = decide (a = b) := by
  rw [Lib.toList_data, Lib.toList_data, Bool.eq_iff_iff]
  simp only [beq_iff_eq, decide_eq_true_eq]
  exact ⟨fun h => ByteArray.ext (Array.ext' h), fun h => by rw [h]⟩
theorem lit_iff (s : ByteArray) (l : List UInt8) : s.toList = l ↔ s = ⟨l.toArray⟩ := by
  rw [Lib.toList_data]
  exact ⟨fun h => ByteArray.ext (Array.ext' (by rw [h])), fun h => by rw [h]⟩
theorem lit_eq (s : ByteArray) (l : List UInt8) : (s.toList == l) = decide (s = ⟨l.toArray⟩) := by
  rw [Bool.eq_iff_iff]
  simp only [beq_iff_eq, decide_eq_true_eq]
  exact lit_iff s l

set_option maxHeartbeats 400000 in
theorem word_any (R : Nat) (t : ByteArray) (r : Rd) (w : World) (h : RdIn w R r) :
    Calls Tryd.prog 59 #[.pointer (some ⟨R, 0, none⟩), .string t] w fun en w' => en = .returned (.tuple #[]) ∧ RdIn w' R (rWord t r) ∧ w.grownBy w' (some R) := by
  have H : Hid (RdIn w R r) := h
  clear h
  have HU : Hid (rWord t r = if (rNext r).1 = t then (rNext r).2 else ((rNext r).2.1, failE (rNext r).2.2 2)) := rfl
  have HX := next_any R r w H.out
  generalize hx : rNext r = q at *
  obtain ⟨x, q⟩ := q
  simp only at *
  have HY : Hid (Calls Tryd.prog 45 #[.pointer (some ⟨R, 0, none⟩)] w fun en w' => en = .returned (.string x) ∧ RdIn w' R q ∧ w.grownBy w' (some R)) := HX
  clear HX hx H
  by_cases hxt : x = t
  · have hb : (x.toList == t.toList) = true := by rw [toList_eq, decide_eq_true hxt]
    rw [if_pos hxt] at HU
    clear hxt
    go_enter Tryd.func59, Tryd.ntmps59
    go_wp2_with fail
    refine HY.out.mono ?_
    rintro e w1 ⟨rfl, h1, h2⟩
    go_wp2
    go_end0
    exact ⟨rfl, by rw [HU.out]; exact h1, h2⟩
  · have hb : (x.toList == t.toList) = false := by rw [toList_eq, decide_eq_false hxt]
    rw [if_neg hxt] at HU
    clear hxt
    go_enter Tryd.func59, Tryd.ntmps59
    go_wp2_with fail
    refine HY.out.mono ?_
    rintro e w1 ⟨rfl, h1, h2⟩
    go_wp2_with fail
    refine (fail_any R q 2 _ h1).mono ?_
    rintro e w2 ⟨rfl, h3, h4⟩
    go_wp2
    go_end0
    exact ⟨rfl, by rw [HU.out]; exact h3, h2.trans h4⟩

set_option maxHeartbeats 400000 in
theorem ends_any (s : ByteArray) (w : World) : Calls Tryd.prog 86 #[.string s] w fun e w' => e = .returned (.bool (endsB s)) ∧ w' = w := by
  have HE : Hid (endsB s = ((s.toList == [115, 101, 116]) || (s.toList == [102, 108, 97, 110, 107]))) := by
    rw [Hid, lit_eq, lit_eq, endsB, kSet, kFlank, Bool.eq_iff_iff]; simp
  by_cases hs : s.toList = [115, 101, 116]
  · go_enter Tryd.func86, Tryd.ntmps86
    go_wp2
    go_ret
    exact ⟨ret_bool (by rw [HE.out, hs]; rfl), rfl⟩
  · go_enter Tryd.func86, Tryd.ntmps86
    go_wp2
    go_ret
    exact ⟨ret_bool HE.out.symm, rfl⟩

set_option maxHeartbeats 400000 in
theorem isNAME_any (s : ByteArray) (w : World) : Calls Tryd.prog 72 #[.string s] w fun e w' => e = .returned (.bool (capB s)) ∧ Below w.heap.size w w' := by
  have HE : Hid (capB s = (nameB s.data.toList && !endsB s)) := rfl
  have C1 := fun W => isName_any s W
  have C2 := fun W => ends_any s W
  cases h1 : nameB s.data.toList <;> cases h2 : endsB s
  all_goals
    rw [h1] at C1 HE
    rw [h2] at C2 HE
    go_enter Tryd.func72, Tryd.ntmps72
    go_wp2_with fail
    refine (C1 _).mono ?_
    rintro e w1 ⟨rfl, hb⟩
    go_wp2_with (go_at_call 86; refine (C2 _).mono ?_; rintro e w' ⟨rfl, rfl⟩)
    go_ret
    exact ⟨ret_bool (by rw [HE.out]; rfl), hb⟩

set_option maxHeartbeats 400000 in
theorem name_any (R : Nat) (r : Rd) (w : World) (h : RdIn w R r) :
    Calls Tryd.prog 56 #[.pointer (some ⟨R, 0, none⟩)] w fun en w' => en = .returned (.string (rName r).1) ∧ RdIn w' R (rName r).2 ∧ w.grownBy w' (some R) := by
  have H : Hid (RdIn w R r) := h
  clear h
  have HU : Hid (rName r = ((rNext r).1, if capB (rNext r).1 = true then (rNext r).2 else ((rNext r).2.1, failE (rNext r).2.2 3))) := rfl
  have HX := next_any R r w H.out
  generalize hx : rNext r = q at *
  obtain ⟨x, q⟩ := q
  simp only at *
  have HY : Hid (Calls Tryd.prog 45 #[.pointer (some ⟨R, 0, none⟩)] w fun en w' => en = .returned (.string x) ∧ RdIn w' R q ∧ w.grownBy w' (some R)) := HX
  clear HX hx H
  have C := fun W => isNAME_any x W
  cases hc : capB x
  · rw [hc] at C HU
    go_enter Tryd.func56, Tryd.ntmps56
    go_wp2_with fail
    refine HY.out.mono ?_
    rintro e w1 ⟨rfl, h1, h2⟩
    go_wp2_with fail
    refine (C _).mono ?_
    rintro e w2 ⟨rfl, hb⟩
    go_wp2_with fail
    refine (fail_any R q 3 _ (h1.below hb)).mono ?_
    rintro e w3 ⟨rfl, h3, h4⟩
    go_wp2
    go_ret
    exact ⟨by rw [HU.out]; rfl, by rw [HU.out]; exact h3, (grown_below h2 hb).trans h4⟩
  · rw [hc] at C HU
    go_enter Tryd.func56, Tryd.ntmps56
    go_wp2_with fail
    refine HY.out.mono ?_
    rintro e w1 ⟨rfl, h1, h2⟩
    go_wp2_with fail
    refine (C _).mono ?_
    rintro e w2 ⟨rfl, hb⟩
    go_wp2
    go_ret
    exact ⟨by rw [HU.out]; rfl, by rw [HU.out]; exact h1.below hb, grown_below h2 hb⟩

set_option maxHeartbeats 400000 in
theorem end_any (R : Nat) (r : Rd) (w : World) (h : RdIn w R r) :
    Calls Tryd.prog 57 #[.pointer (some ⟨R, 0, none⟩)] w fun en w' => en = .returned (.tuple #[]) ∧ RdIn w' R (rEnd r) ∧ w.grownBy w' (some R) := by
  have H : Hid (RdIn w R r) := h
  obtain ⟨oa, cap, h1, h2, h3, h4⟩ := h
  obtain ⟨c0, c1, f0, f1⟩ := two_cells h1
  clear h1 h4
  obtain ⟨ws, f⟩ := r
  cases ws with
  | nil =>
    simp only [List.length_nil] at *
    go_enter Tryd.func57, Tryd.ntmps57
    go_wp2
    go_end0
    exact ⟨rfl, H.out, World.grownBy.refl _ _⟩
  | cons x ws =>
    simp only [List.length_cons] at *
    generalize ws.length = n at *
    go_enter Tryd.func57, Tryd.ntmps57
    go_wp2_with fail
    refine (fail_any R (x :: ws, f) 2 _ H.out).mono ?_
    rintro e w1 ⟨rfl, h1, h2⟩
    go_wp2
    go_end0
    exact ⟨rfl, h1, h2⟩

set_option maxHeartbeats 400000 in
theorem ahead_any (R : Nat) (t : ByteArray) (r : Rd) (w : World) (h : RdIn w R r) :
    Calls Tryd.prog 88 #[.pointer (some ⟨R, 0, none⟩), .string t] w fun en w' => en = .returned (.bool (rAhead t r)) ∧ w' = w := by
  obtain ⟨oa, cap, h1, h2, h3, h4⟩ := h
  obtain ⟨c0, c1, f0, f1⟩ := two_cells h1
  clear h1
  obtain ⟨ws, f⟩ := r
  cases ws with
  | nil =>
    clear h4
    simp only [List.length_nil] at *
    go_enter Tryd.func88, Tryd.ntmps88
    go_wp2
    go_ret
    exact ⟨rfl, rfl⟩
  | cons x ws =>
    obtain ⟨g, off, rfl, hg, cx⟩ := h4 0 x rfl
    clear h4
    have HB : Hid (rAhead t (x :: ws, f) = (x.toList == t.toList)) := (toList_eq x t).symm
    simp only [Nat.zero_mul, Nat.add_zero] at cx
    simp only [List.length_cons] at *
    generalize ws.length = n at *
    go_enter Tryd.func88, Tryd.ntmps88
    go_wp2
    go_ret
    exact ⟨ret_bool HB.out.symm, rfl⟩

set_option maxHeartbeats 400000 in
theorem goes_any (R : Nat) (r : Rd) (w : World) (h : RdIn w R r) :
    Calls Tryd.prog 87 #[.pointer (some ⟨R, 0, none⟩)] w fun en w' => en = .returned (.bool (rGoes r)) ∧ w' = w := by
  obtain ⟨oa, cap, h1, h2, h3, h4⟩ := h
  obtain ⟨c0, c1, f0, f1⟩ := two_cells h1
  clear h1
  obtain ⟨ws, f⟩ := r
  cases ws with
  | nil =>
    clear h4
    simp only [List.length_nil] at *
    go_enter Tryd.func87, Tryd.ntmps87
    go_wp2
    go_ret
    exact ⟨rfl, rfl⟩
  | cons x ws =>
    obtain ⟨g, off, rfl, hg, cx⟩ := h4 0 x rfl
    clear h4
    have HB : Hid (rGoes (x :: ws, f) = !endsB x) := rfl
    have C := fun W => ends_any x W
    generalize endsB x = b at *
    simp only [Nat.zero_mul, Nat.add_zero] at cx
    simp only [List.length_cons] at *
    generalize ws.length = n at *
    go_enter Tryd.func87, Tryd.ntmps87
    go_wp2_with (go_at_call 86; refine (C _).mono ?_; rintro e w' ⟨rfl, rfl⟩)
    go_ret
    exact ⟨ret_bool HB.out.symm, rfl⟩

end Go.Proofs.YtgiaicmhnkhbnaaDoor
