/-
  Texts of this proof, joined: Leaf, Plain, Loops, TbBase, PlOpen, TbOpen, LyIn, LyEq, TbLeaf.
-/
import Derived.Test.YtceebimgfajbcaaGreatDoorProg
import Derived.WalkKit
import Derived.Lib.Strings
import Derived.Lib.DecodeN
import Derived.WalkSmall
import Derived.Maps.AppendAt
import Derived.Maps.Range
import Derived.Deep.LoopGhost
import Derived.Deep.QuietTactic
import Derived.BigQuiet
import Derived.ProofKit
import Derived.OpenShut
import Derived.ChangeOld
import Derived.SizedLaws
import Derived.Carry
import Derived.Deep.Slices
import Derived.Lib.SmallJoins
import Derived.Laws.StructEq
namespace Go.Proofs.YtceebimgfajbcaaGreatDoor
open Go.RowKit

theorem ret_bool {a b : Bool} (h : a = b) : Ending.returned (.bool a) = .returned (.bool b) := by rw [h]

def letterB (r : Int) : Bool := decide ((97 ≤ r ∧ r ≤ 122) ∨ (65 ≤ r ∧ r ≤ 90) ∨ (192 ≤ r ∧ r ≤ 591 ∧ r ≠ 215 ∧ r ≠ 247))
def digitB (r : Int) : Bool := decide (48 ≤ r ∧ r ≤ 57)
def blankB (r : Int) : Bool := decide (r = 32 ∨ r = 9)
def standB (r n : Int) : Bool := letterB r || (decide (0 < n) && digitB r)

set_option maxHeartbeats 400000 in
theorem letter_any (r : Int) (w : World) :
    Calls Tryz.prog 111 #[.int .i32 r] w fun e w' => e = .returned (.bool (letterB r)) ∧ w' = w := by
  go_enter Tryz.func111, Tryz.ntmps111
  go_wp2
  all_goals go_ret
  all_goals (refine ⟨ret_bool ?_, rfl⟩)
  all_goals ((try simp only [beq_iff_eq, beq_eq_false_iff_ne] at *); unfold letterB; rw [Bool.eq_iff_iff]; simp; omega)

set_option maxHeartbeats 400000 in
theorem refLetter_any (r : Int) (w : World) :
    Calls Tryz.prog 90 #[.int .i32 r] w fun e w' => e = .returned (.bool (letterB r)) ∧ w' = w := by
  go_enter Tryz.func90, Tryz.ntmps90
  go_wp2
  all_goals go_ret
  all_goals (refine ⟨ret_bool ?_, rfl⟩)
  all_goals ((try simp only [beq_iff_eq, beq_eq_false_iff_ne, bne_iff_ne] at *); unfold letterB; rw [Bool.eq_iff_iff]; simp; omega)

theorem digit_any (r : Int) (w : World) :
    Calls Tryz.prog 112 #[.int .i32 r] w fun e w' => e = .returned (.bool (digitB r)) ∧ w' = w := by
  go_enter Tryz.func112, Tryz.ntmps112
  go_wp2
  all_goals go_ret
  all_goals (refine ⟨ret_bool ?_, rfl⟩)
  all_goals (unfold digitB; rw [Bool.eq_iff_iff]; simp; omega)


theorem stand_any (r n : Int) (w : World) :
    Calls Tryz.prog 110 #[.int .i32 r, .int .i64 n] w fun e w' => e = .returned (.bool (standB r n)) ∧ w' = w := by
  cases hl : letterB r <;> by_cases hn : 0 < n
  all_goals
    go_enter Tryz.func110, Tryz.ntmps110
    go_wp2_with (first
      | (go_at_call 111; refine (letter_any _ _).mono ?_; rintro e w' ⟨rfl, rfl⟩)
      | (go_at_call 112; refine (digit_any _ _).mono ?_; rintro e w' ⟨rfl, rfl⟩))
  all_goals go_ret
  all_goals (refine ⟨ret_bool ?_, rfl⟩)
  all_goals (first | (simp [standB, hl, hn]; done) | (simp [standB, hl]; omega))


end Go.Proofs.YtceebimgfajbcaaGreatDoor

namespace Go.Proofs.YtceebimgfajbcaaGreatDoor

/-- The rune at the head of a text, and its width. -/
def dec (l : List UInt8) : Nat × Nat := Lib.decodeN l.length (l.getD 0 0).toNat (l.getD 1 0).toNat (l.getD 2 0).toNat (l.getD 3 0).toNat

theorem get!_drop (s : ByteArray) (p k : Nat) : s.get! (p + k) = (s.data.toList.drop p).getD k 0 := by
  rw [List.getD_eq_getElem?_getD, List.getElem?_drop]
  obtain ⟨⟨l⟩⟩ := s
  simp only [ByteArray.get!, List.getElem!_toArray, List.getElem!_eq_getElem?_getD]
  rfl

theorem decode_drop (s : ByteArray) (p : Nat) : Utf8.decode s p = dec (s.data.toList.drop p) := by
  rw [Lib.decode_at, dec, List.length_drop, ← Lib.size_eq]
  rw [← get!_drop s p 0, ← get!_drop s p 1, ← get!_drop s p 2, ← get!_drop s p 3]
  rfl

theorem dec_width (l : List UInt8) (h : l ≠ []) : 1 ≤ (dec l).2 ∧ (dec l).2 ≤ l.length := by
  have hl : 0 < l.length := List.length_pos_iff.2 h
  unfold dec Lib.decodeN
  repeat' split
  all_goals (simp only; omega)

theorem dec_le (l : List UInt8) : (dec l).1 ≤ 1114111 := by
  have h0 := (l.getD 0 0).toNat_lt; have h1 := (l.getD 1 0).toNat_lt; have h2 := (l.getD 2 0).toNat_lt; have h3 := (l.getD 3 0).toNat_lt
  unfold dec Lib.decodeN
  repeat' split
  all_goals (simp only; omega)

def runesF : Nat → List UInt8 → List (Nat × Nat)
  | 0, _ => []
  | f + 1, l => if l = [] then [] else dec l :: runesF f (l.drop (dec l).2)
def runes (l : List UInt8) : List (Nat × Nat) := runesF l.length l

theorem runesF_more : ∀ (f g : Nat) (l : List UInt8), l.length ≤ f → l.length ≤ g → runesF f l = runesF g l
  | 0, g, l, h, _ => by
    have : l = [] := List.eq_nil_of_length_eq_zero (by omega)
    subst this
    cases g <;> simp [runesF]
  | f + 1, 0, l, _, h => by
    have : l = [] := List.eq_nil_of_length_eq_zero (by omega)
    subst this
    simp [runesF]
  | f + 1, g + 1, l, h1, h2 => by
    unfold runesF
    split
    · rfl
    · rename_i hn
      have hw := dec_width l hn
      rw [runesF_more f g (l.drop (dec l).2) (by rw [List.length_drop]; omega) (by rw [List.length_drop]; omega)]

theorem runes_nil : runes [] = [] := rfl
theorem runes_cons (l : List UInt8) (h : l ≠ []) : runes l = dec l :: runes (l.drop (dec l).2) := by
  have hw := dec_width l h
  have hl : 0 < l.length := List.length_pos_iff.2 h
  unfold runes
  obtain ⟨f, hf⟩ : ∃ f, l.length = f + 1 := ⟨l.length - 1, by omega⟩
  rw [hf]
  conv => lhs; unfold runesF
  rw [if_neg h, runesF_more f (l.drop (dec l).2).length (l.drop (dec l).2) (by rw [List.length_drop]; omega) (Nat.le_refl _)]

theorem runes_length_le (l : List UInt8) : (runes l).length ≤ l.length := by
  suffices h : ∀ (n : Nat) (l : List UInt8), l.length ≤ n → (runes l).length ≤ l.length from h l.length l (Nat.le_refl _)
  intro n
  induction n with
  | zero => intro l h; have : l = [] := List.eq_nil_of_length_eq_zero (by omega); subst this; simp [runes_nil]
  | succ n ih =>
    intro l h
    by_cases hn : l = []
    · subst hn; simp [runes_nil]
    · have hw := dec_width l hn
      rw [runes_cons l hn, List.length_cons]
      have := ih (l.drop (dec l).2) (by rw [List.length_drop]; omega)
      rw [List.length_drop] at this
      omega

/-- From place p on. -/
def runesAt (s : ByteArray) (p : Nat) : List (Nat × Nat) := runes (s.data.toList.drop p)
theorem runesAt_end (s : ByteArray) (p : Nat) (h : ¬ p < s.size) : runesAt s p = [] := by
  rw [runesAt, List.drop_of_length_le (by rw [← Lib.size_eq]; omega), runes_nil]
theorem runesAt_next (s : ByteArray) (p : Nat) (h : p < s.size) : runesAt s p = Utf8.decode s p :: runesAt s (p + (Utf8.decode s p).2) := by
  have hne : s.data.toList.drop p ≠ [] := by
    intro e
    have := congrArg List.length e
    rw [List.length_drop, ← Lib.size_eq] at this
    simp at this; omega
  rw [runesAt, runes_cons _ hne, ← decode_drop, runesAt, List.drop_drop]
theorem width_at (s : ByteArray) (p : Nat) (h : p < s.size) : 1 ≤ (Utf8.decode s p).2 ∧ p + (Utf8.decode s p).2 ≤ s.size := by
  have hne : s.data.toList.drop p ≠ [] := by
    intro e
    have := congrArg List.length e
    rw [List.length_drop, ← Lib.size_eq] at this
    simp at this; omega
  have := dec_width _ hne
  rw [decode_drop]
  rw [List.length_drop, ← Lib.size_eq] at this
  omega
theorem runesAt_le (s : ByteArray) (p : Nat) : (runesAt s p).length ≤ s.size - p := by
  have := runes_length_le (s.data.toList.drop p)
  rw [List.length_drop, ← Lib.size_eq] at this
  exact this

/-- A wrong rune. -/
def badB (r : Nat × Nat) : Bool := decide (r.1 = 65533 ∧ r.2 = 1)
theorem getD_nil (l : List UInt8) (k : Nat) (h : l.length ≤ k) : l.getD k 0 = 0 := by
  rw [List.getD_eq_getElem?_getD, List.getElem?_eq_none h]; rfl
theorem prefix3 (l : List UInt8) (a b c : UInt8) : Lib.hasPrefix l [a, b, c] = true ↔ 3 ≤ l.length ∧ l.getD 0 0 = a ∧ l.getD 1 0 = b ∧ l.getD 2 0 = c := by
  unfold Lib.hasPrefix
  match l with
  | [] => simp
  | [x] => simp [List.isPrefixOf]
  | [x, y] => simp [List.isPrefixOf]
  | x :: y :: z :: r => simp [List.isPrefixOf]; exact ⟨fun h => ⟨h.1.symm, h.2.1.symm, h.2.2.symm⟩, fun h => ⟨h.1.symm, h.2.1.symm, h.2.2.symm⟩⟩
theorem decN_error (n b0 b1 b2 b3 : Nat) (h0 : b0 < 256) (d : Nat × Nat) (hd : Lib.decodeN n b0 b1 b2 b3 = d) (h : d.1 = 65533) : (3 ≤ n ∧ b0 = 239 ∧ b1 = 191 ∧ b2 = 189) ↔ ¬ d.2 = 1 := by
  unfold Lib.decodeN at hd
  repeat' split at hd
  all_goals (subst hd; dsimp only at h ⊢; omega)
theorem dec_error (l : List UInt8) (h : (dec l).1 = 65533) : Lib.hasPrefix l [239, 191, 189] = !badB (dec l) := by
  have h0 := (l.getD 0 0).toNat_lt
  rw [Bool.eq_iff_iff, prefix3]
  have e0 : l.getD 0 0 = 239 ↔ (l.getD 0 0).toNat = 239 := by rw [← UInt8.toNat_inj]; rfl
  have e1 : l.getD 1 0 = 191 ↔ (l.getD 1 0).toNat = 191 := by rw [← UInt8.toNat_inj]; rfl
  have e2 : l.getD 2 0 = 189 ↔ (l.getD 2 0).toNat = 189 := by rw [← UInt8.toNat_inj]; rfl
  rw [e0, e1, e2]
  simp only [badB, h, true_and, Bool.not_eq_true', decide_eq_false_iff_not]
  exact decN_error _ _ _ _ _ h0 _ rfl h

/-- How many runes stand ahead of the first wrong one. -/
def wrongF : Nat → List (Nat × Nat) → Option Nat
  | _, [] => none
  | n, r :: rs => if badB r = true then some n else wrongF (n + 1) rs
def wrongO (l : List UInt8) : Option Nat := wrongF 0 (runes l)

theorem prefix_at (s : ByteArray) (p : Nat) (h : (Utf8.decode s p).1 = 65533) : Lib.hasPrefix (s.extract p s.size).data.toList [239, 191, 189] = !badB (Utf8.decode s p) := by
  rw [decode_drop] at *
  rw [Lib.extract_data, List.take_of_length_le (by rw [List.length_drop, ← Lib.size_eq]; exact Nat.le_refl _)]
  exact dec_error _ h

end Go.Proofs.YtceebimgfajbcaaGreatDoor

namespace Go.Proofs.YtceebimgfajbcaaGreatDoor
open Go.RowKit

theorem ret_int {k : IntKind} {a b : Int} (h : a = b) : Ending.returned (.int k a) = .returned (.int k b) := by rw [h]


/-- IsName, from the n-th rune on. -/
def nameF : Nat → List (Nat × Nat) → Bool
  | n, [] => decide (0 < n)
  | n, r :: rs => if n = 8 ∨ standB r.1 n = false then false else nameF (n + 1) rs
def nameB (l : List UInt8) : Bool := nameF 0 (runes l)

set_option maxRecDepth 1000000 in
set_option maxHeartbeats 1000000 in
theorem isName_any (s : ByteArray) (w : World) :
    Calls Tryz.prog 104 #[.string s] w fun e w' => e = .returned (.bool (nameB s.data.toList)) ∧ Below w.heap.size w w' := by
  have H0 : Hid (nameF 0 (runesAt s 0) = nameB s.data.toList) := by simp [Hid, runesAt, nameB]
  go_enter Tryz.func104, Tryz.ntmps104
  go_wp2
  go_loopw [3, 5] (fun n _ w' => ∃ (pos k : Nat), w' = w.iter s pos ∧ n = .int .i64 k ∧ nameF k (runesAt s pos) = nameF 0 (runesAt s 0) ∧ k ≤ 8 ∧ pos ≤ s.size) (fun _ _ w' => s.size - w'.iterPos w.heap.size)
  case atStart => exact ⟨0, 0, rfl, rfl, rfl, by omega, by omega⟩
  case round =>
    obtain ⟨pos, k, rfl, rfl, hc, hk, hps⟩ := hrel
    have HC : Hid (nameF k (runesAt s pos) = nameF 0 (runesAt s 0)) := hc
    clear hc
    by_cases hp : pos < s.size
    · have hnx : ∀ ty, (Instr.next (.pointer (some ⟨w.heap.size, 0, none⟩)) true ty).run Tryz.prog (w.iter s pos) = _ := fun ty => run_next_any w s pos ty hp
      have hwd := width_at s pos hp
      have HN : Hid (nameF k (runesAt s pos) = if k = 8 ∨ standB (Utf8.decode s pos).1 k = false then false else nameF (k + 1) (runesAt s (pos + (Utf8.decode s pos).2))) := by
        rw [runesAt_next s pos hp]; rfl
      generalize hr : Utf8.decode s pos = dd at *
      obtain ⟨r, wd⟩ := dd
      simp only at *
      clear hr
      by_cases h8 : k = 8
      · subst h8
        go_wp2
        go_ret
        refine ⟨ret_bool ?_, (Below.refl _ _).alloc (Nat.le_refl _) _⟩
        rw [← H0.out, ← HC.out, HN.out]; simp
      · have h8' : ((k : Int) == 8) = false := by simp; omega
        cases hst : standB r k
        all_goals
          go_wp2_with (go_at_call 110; refine (stand_any _ _ _).mono ?_; rintro e w' ⟨rfl, rfl⟩)
        · go_ret
          refine ⟨ret_bool ?_, (Below.refl _ _).alloc (Nat.le_refl _) _⟩
          rw [← H0.out, ← HC.out, HN.out]; simp [hst]
        · go_roundw
          case rel =>
            refine ⟨pos + wd, k + 1, rfl, by go_num, ?_, by omega, by omega⟩
            rw [← HC.out, HN.out, if_neg (by simp [hst, h8])]
          case measure =>
            simp
            omega
    · have hnx : ∀ ty, (Instr.next (.pointer (some ⟨w.heap.size, 0, none⟩)) true ty).run Tryz.prog (w.iter s pos) = _ := fun ty => run_next_end w s pos ty hp
      go_wp2
      go_ret
      refine ⟨ret_bool ?_, (Below.refl _ _).alloc (Nat.le_refl _) _⟩
      rw [← H0.out, ← HC.out, runesAt_end s pos hp]
      simp [nameF]

def wrongV : Option Nat → Value
  | some n => .tuple #[.int .i64 n, .bool true]
  | none => .tuple #[.int .i64 0, .bool false]


end Go.Proofs.YtceebimgfajbcaaGreatDoor

namespace Go.Proofs.YtceebimgfajbcaaGreatDoor
open Go.RowKit

theorem grown_of_below {w w' : World} (h : Below w.heap.size w w') : w.grownBy w' none := ⟨h.os, h.tape, h.output, h.size, fun k hk _ => h.block k hk⟩

theorem owns_below {w w' : World} {base : Nat} {e : TypeId} {size : Nat} {v : Value} {n : Nat} {xs : List Value} (h : w.ownsRow base e size v n xs) (hb : Below w.heap.size w w') : w'.ownsRow base e size v n xs :=
  h.kept (grown_of_below hb) (by cases v.ownBlock <;> simp)

theorem owns_mono {w : World} {base base' : Nat} {e : TypeId} {size : Nat} {v : Value} {n : Nat} {xs : List Value} (h : w.ownsRow base e size v n xs) (hb : base' ≤ base) : w.ownsRow base' e size v n xs := by
  refine ⟨h.1, ?_⟩
  rcases h.2 with h2 | ⟨g, cap, cur, a, b, c⟩
  · exact .inl h2
  · exact .inr ⟨g, cap, cur, a, by omega, c⟩

def kSet : ByteArray := ⟨#[115, 101, 116]⟩

def kFlank : ByteArray := ⟨#[102, 108, 97, 110, 107]⟩

def endsB (s : ByteArray) : Bool := decide (s = kSet ∨ s = kFlank)

/-- A NAME. -/
def capB (s : ByteArray) : Bool := nameB s.data.toList && !endsB s

abbrev Wt := ByteArray × Bool

structure Rt where
  name : ByteArray
  frm : Int
  to : Int
  path : List Int
  points : List (Int × Bool)
  flank : List (Int × Bool)

structure Lay where
  sections : List ByteArray
  points : List (ByteArray × Int)
  signals : List ByteArray
  routes : List Rt

/-- The place of the first; -1. -/
def idxF (x : ByteArray) : List ByteArray → Nat → Int
  | [], _ => -1
  | y :: l, k => if x = y then (k : Int) else idxF x l (k + 1)

def idx (l : List ByteArray) (x : ByteArray) : Int := idxF x l 0

theorem toList_eq (a b : ByteArray) : (a.toList == b.toList) = decide (a = b) := by
  rw [Lib.toList_data, Lib.toList_data, Bool.eq_iff_iff]
  simp only [beq_iff_eq, decide_eq_true_eq]
  exact ⟨fun h => ByteArray.ext (Array.ext' h), fun h => by rw [h]⟩

theorem blk_below {w w' : World} {c : Nat} {o : Obj} (hb : Below w.heap.size w w') (h : w.heap[c]? = some o) : w'.heap[c]? = some o :=
  (hb.block c (Array.getElem?_eq_some_iff.1 h).1).trans h

theorem blk_new (w : World) (o : Obj) : (w.alloc o).heap[w.heap.size]? = some o := by
  show (w.heap.push o)[w.heap.size]? = some o
  simp

theorem blk_old {w : World} {c : Nat} {o o' : Obj} (h : w.heap[c]? = some o) : (w.alloc o').heap[c]? = some o :=
  (Below.heap_alloc _ _ _ (Array.getElem?_eq_some_iff.1 h).1).trans h

theorem infoS : (Tryz.prog.info? 9).map (fun i => (i.zero, i.size, i.bytes)) = some (some (.string ⟨#[]⟩), 1, 16) := by kernel_rfl

theorem one_str (a : ByteArray) : ∀ u ∈ [Value.string a], u.oneCell' = true := by
  intro u hu
  rw [List.mem_singleton.1 hu]
  rfl

theorem bytes_ext {s : ByteArray} {l : List UInt8} (h : s.data.toList = l) : s = ⟨l.toArray⟩ := ByteArray.ext (Array.ext' (by rw [h]))

/-- A slice value whose elements read so, each so many cells. -/
def rowAt {α : Type} (w : World) (v : Value) (size : Nat) (cs : α → List Value) (l : List α) : Prop :=
  ∃ oa cap, v = .slice oa l.length cap ∧ ∀ j x, l[j]? = some x → ∃ g off, oa = some ⟨g, off, none⟩ ∧ ∀ i u, (cs x)[i]? = some u → w.cell? ⟨g, off + j * size + i, none⟩ = some u

theorem rowAt.below {α : Type} {w w' : World} {v : Value} {size : Nat} {cs : α → List Value} {l : List α} (h : rowAt w v size cs l) (hb : Below w.heap.size w w') : rowAt w' v size cs l := by
  obtain ⟨oa, cap, h1, h2⟩ := h
  refine ⟨oa, cap, h1, fun j x hj => ?_⟩
  obtain ⟨g, off, e, hc⟩ := h2 j x hj
  exact ⟨g, off, e, fun i u hu => (hb.cell (p := ⟨g, off + j * size + i, none⟩) (World.block_lt_of_cell? w _ (hc i u hu))).trans (hc i u hu)⟩

theorem rowAt.drewN {α : Type} {w : World} {v : Value} {size : Nat} {cs : α → List Value} {l : List α} (h : rowAt w v size cs l) (n : Nat) : rowAt (w.drewN n) v size cs l :=
  h.below (below_drewN (Below.refl _ _) n)

theorem rowAt.nil {α : Type} (w : World) (size : Nat) (cs : α → List Value) : rowAt w (.slice none 0 0) size cs [] := ⟨none, 0, rfl, fun j x hj => by simp at hj⟩

theorem flat_get {α : Type} {cs : α → List Value} {size : Nat} (hs : ∀ x, (cs x).length = size) : ∀ (l : List α) (j : Nat) (x : α) (i : Nat) (u : Value), l[j]? = some x → (cs x)[i]? = some u → (l.flatMap cs)[j * size + i]? = some u
  | y :: l, 0, x, i, u, h, hu => by
    simp at h
    subst h
    rw [List.flatMap_cons, Nat.zero_mul, Nat.zero_add, List.getElem?_append_left (List.getElem?_eq_some_iff.1 hu).1, hu]
  | y :: l, j + 1, x, i, u, h, hu => by
    rw [List.flatMap_cons, List.getElem?_append_right (by rw [hs, Nat.add_mul, Nat.one_mul]; omega), hs, show (j + 1) * size + i - size = j * size + i by rw [Nat.add_mul, Nat.one_mul]; omega]
    exact flat_get hs l j x i u (by simpa using h) hu

theorem addr_add (g j : Nat) : (⟨g, 0, none⟩ : Addr).add j = ⟨g, j, none⟩ := by unfold Addr.add; split <;> simp_all

theorem rowAt_of_owns {α : Type} {w : World} {base : Nat} {e : TypeId} {v : Value} {size : Nat} {cs : α → List Value} {l : List α} (hs : ∀ x, (cs x).length = size) (h : w.ownsRow base e size v l.length (l.flatMap cs)) : rowAt w v size cs l := by
  rcases h.2 with ⟨h1, h2⟩ | ⟨g, cap, cur, h1, _, _, h2, _⟩
  · have e := List.eq_nil_of_length_eq_zero h2
    subst e
    rw [h1]
    exact rowAt.nil _ _ _
  · refine ⟨some ⟨g, 0, none⟩, cap, h1, fun j x hj => ⟨g, 0, rfl, fun i u hu => ?_⟩⟩
    have hc := h.cells (g := g) (by rw [h1]; rfl) _ _ (flat_get hs l j x i u hj hu)
    rw [addr_add] at hc
    rw [Nat.zero_add]
    exact hc

def sC (x : ByteArray) : List Value := [.string x]

def iC (x : Int) : List Value := [.int .i64 x]

def nC (x : Int × Bool) : List Value := [.int .i64 x.1, .bool x.2]

def pC (x : ByteArray × Int) : List Value := [.string x.1, .int .i64 x.2]

/-- A route and the slices that it holds. -/
abbrev RtV := Rt × (Value × Value × Value)

def rC (x : RtV) : List Value := [.string x.1.name, .int .i64 x.1.frm, .int .i64 x.1.to, x.2.1, x.2.2.1, x.2.2.2]

theorem drop_at {α : Type} {l : List α} {k : Nat} {x : α} (h : l[k]? = some x) : l.drop k = x :: l.drop (k + 1) := by
  obtain ⟨hl, rfl⟩ := List.getElem?_eq_some_iff.1 h
  exact List.drop_eq_getElem_cons hl

set_option maxRecDepth 1000000 in
set_option maxHeartbeats 1000000 in
theorem index_any (v : Value) (l : List ByteArray) (x : ByteArray) (w : World) (h : rowAt w v 1 sC l) (hl : l.length ≤ 4294967296) :
    Calls Tryz.prog 105 #[v, .string x] w fun e w' => e = .returned (.int .i64 (idx l x)) ∧ w' = w := by
  obtain ⟨oa, cap, rfl, h2⟩ := h
  have H2 : Hid (∀ j y, l[j]? = some y → ∃ g off, oa = some ⟨g, off, none⟩ ∧ ∀ i u, (sC y)[i]? = some u → w.cell? ⟨g, off + j * 1 + i, none⟩ = some u) := h2
  clear h2
  have HI : Hid (idx l x = idxF x l 0) := rfl
  generalize idx l x = ans at *
  generalize hn : l.length = n at *
  have HN : Hid (l.length = n) := hn
  clear hn
  go_enter Tryz.func105, Tryz.ntmps105
  go_wp2
  go_loop [5, 8] (fun _ i => ∃ k : Nat, i = .int .i64 k ∧ k ≤ n ∧ idxF x (l.drop k) k = idxF x l 0) (fun _ i => n - (intOf i).toNat)
  case atStart => exact ⟨0, rfl, by omega, by simp⟩
  case round =>
    obtain ⟨k, rfl, hk, hc⟩ := hrel
    have HC : Hid (idxF x (l.drop k) k = idxF x l 0) := hc
    clear hc
    by_cases hlt : k < n
    · obtain ⟨y, hy⟩ : ∃ y, l[k]? = some y := ⟨l[k]'(by rw [HN.out]; exact hlt), List.getElem?_eq_getElem _⟩
      obtain ⟨g, off, rfl, hcell⟩ := H2.out k y hy
      have c0 := hcell 0 _ rfl
      simp only [Nat.mul_one, Nat.add_zero] at c0
      rw [drop_at hy, idxF] at HC
      clear hcell hy
      by_cases hxy : x = y
      · have hb : (x.toList == y.toList) = true := by rw [toList_eq, decide_eq_true hxy]
        rw [if_pos hxy] at HC
        clear hxy
        go_wp2
        go_ret
        exact ⟨by rw [HI.out, ← HC.out]; rfl, rfl⟩
      · have hb : (x.toList == y.toList) = false := by rw [toList_eq, decide_eq_false hxy]
        rw [if_neg hxy] at HC
        clear hxy
        go_wp2
        go_round
        case rel => exact ⟨k + 1, by go_num, by omega, HC.out⟩
        case measure => simp [intOf]; omega
    · have h1 := HC.out
      rw [List.drop_of_length_le (by rw [HN.out]; omega), idxF] at h1
      have H1 : Hid (-1 = idxF x l 0) := h1
      clear h1
      go_wp2
      go_ret
      exact ⟨by rw [HI.out, ← H1.out]; rfl, rfl⟩

theorem idxF_ge (x : ByteArray) : ∀ (l : List ByteArray) (k : Nat), idxF x l k = -1 ∨ 0 ≤ idxF x l k
  | [], _ => .inl rfl
  | y :: l, k => by
    rw [idxF]
    split
    · right; omega
    · exact idxF_ge x l (k + 1)

theorem idx_ge (l : List ByteArray) (x : ByteArray) : idx l x = -1 ∨ 0 ≤ idx l x := idxF_ge x l 0

theorem geq_zero {n : Int} (h : n = -1 ∨ 0 ≤ n) : decide (0 ≤ n) = decide (n ≠ -1) := by
  rw [Bool.eq_iff_iff]; simp; omega

theorem contains_any (v : Value) (l : List ByteArray) (x : ByteArray) (w : World) (h : rowAt w v 1 sC l) (hl : l.length ≤ 4294967296) :
    Calls Tryz.prog 92 #[v, .string x] w fun e w' => e = .returned (.bool (decide (idx l x ≠ -1))) ∧ w' = w := by
  have HI := geq_zero (idx_ge l x)
  have C := fun W => index_any v l x W
  have H : Hid (rowAt w v 1 sC l) := h
  clear h
  rw [← HI]
  generalize idx l x = n at *
  have D : Hid (∀ W, rowAt W v 1 sC l → l.length ≤ 4294967296 → Calls Tryz.prog 105 #[v, .string x] W fun e w' => e = .returned (.int .i64 n) ∧ w' = W) := C
  clear C HI
  go_enter Tryz.func92, Tryz.ntmps92
  go_wp2_with fail
  refine (D.out _ H.out hl).mono ?_
  rintro e w1 ⟨rfl, rfl⟩
  go_wp2
  go_ret
  exact ⟨rfl, rfl⟩

/-- A route whose slices lie so. -/
structure RtAt (w : World) (x : RtV) : Prop where
  path : rowAt w x.2.1 1 iC x.1.path
  points : rowAt w x.2.2.1 2 nC x.1.points
  flank : rowAt w x.2.2.2 2 nC x.1.flank

theorem RtAt.below {w w' : World} {x : RtV} (h : RtAt w x) (hb : Below w.heap.size w w') : RtAt w' x := ⟨h.path.below hb, h.points.below hb, h.flank.below hb⟩

theorem rowAt.slice {α : Type} {w : World} {v : Value} {size : Nat} {cs : α → List Value} {l : List α} (h : rowAt w v size cs l) : ∃ o n c, v = .slice o n c := by
  obtain ⟨oa, cap, h, _⟩ := h
  exact ⟨_, _, _, h⟩

theorem RtAt.slices {w : World} {x : RtV} (h : RtAt w x) : (∃ o n c, x.2.1 = .slice o n c) ∧ (∃ o n c, x.2.2.1 = .slice o n c) ∧ ∃ o n c, x.2.2.2 = .slice o n c := ⟨h.path.slice, h.points.slice, h.flank.slice⟩

theorem owns_keep {e : TypeId} {size : Nat} {w w' : World} {B n : Nat} {v : Value} {xs : List Value} (h : w.ownsRow B e size v n xs) (hk : ∀ k, v.ownBlock = some k → w'.heap[k]? = w.heap[k]?) : w'.ownsRow B e size v n xs := by
  refine ⟨h.1, ?_⟩
  rcases h.2 with h2 | ⟨g, cap, cur, rfl, b, hg, r⟩
  · exact .inl h2
  · exact .inr ⟨g, cap, cur, rfl, b, (hk g rfl).trans hg, r⟩

/-- A layout, read: its four slices. -/
structure LayRd (w : World) (v : Nat → Value) (l : Lay) (rs : List RtV) : Prop where
  s : rowAt w (v 0) 1 sC l.sections
  p : rowAt w (v 1) 2 pC l.points
  g : rowAt w (v 2) 1 sC l.signals
  r : rowAt w (v 3) 6 rC rs
  m : rs.map (·.1) = l.routes
  x : ∀ x ∈ rs, RtAt w x

variable {w w' : World}

theorem LayRd.below {v : Nat → Value} {l : Lay} {rs : List RtV} (h : LayRd w v l rs) (hb : Below w.heap.size w w') : LayRd w' v l rs :=
  ⟨h.s.below hb, h.p.below hb, h.g.below hb, h.r.below hb, h.m, fun x hx => (h.x x hx).below hb⟩
end Go.Proofs.YtceebimgfajbcaaGreatDoor

namespace Go.Proofs.YtceebimgfajbcaaGreatDoor
open Go.ChangeShapes Go.WideShapes Go.ChangeAt Go.RowKit

theorem laidOut : laidOutB Tryz.prog = true := by kernel_rfl
theorem weightsAll_mem {H : Type} {P : Program} {e : TypeId} : ∀ {l : List (DataW H)} {d : DataW H} {n : Nat}, d ∈ l → n ∈ d.weights P e → n ∈ DataW.weightsAll P e l
  | y :: l, d, n, h, hn => by
    rw [DataW.weightsAll, List.mem_append]
    rcases List.mem_cons.1 h with rfl | h
    · exact .inl hn
    · exact .inr (weightsAll_mem h hn)
theorem weights_at {H : Type} {P : Program} {ts : List TypeId} {ds : List (DataW H)} (h : (DataW.weightsEach P ts ds).all (· ≤ reachBytes) = true) {j : Nat} {t : TypeId} {d : DataW H} (ht : ts[j]? = some t) (hd : ds[j]? = some d) : ∀ n ∈ d.weights P t, n ≤ reachBytes := by
  intro n hn
  have := List.all_eq_true.1 h n (DataW.weights_mem_each ht hd n hn)
  simpa using this

/-- What a field's reading weighs, inside what the struct's does. -/
theorem weights_field {H : Type} {P : Program} {t : TypeId} {fs : Array Field} {parts : List (DataW H)} (hu : P.underlying t = some (.struct fs)) {B : Nat} (h : ∀ n ∈ (DataW.agg parts).weights P t, n ≤ B) {j : Nat} {f : Field} {d : DataW H} (hf : fs.toList[j]? = some f) (hd : parts[j]? = some d) : ∀ n ∈ d.weights P f.type, n ≤ B := by
  intro n hn
  refine h n ?_
  rw [DataW.weights, hu]
  exact DataW.weights_mem_each (by rw [List.getElem?_map, hf]; rfl) hd n hn

/-- A slice's room is no less than its length. -/
def capOk (v : Value) : Prop := ∀ o n c, v = .slice o n c → n ≤ c

/-- A slice opened: its elements, each as the opener of one says. -/
theorem open_row {H : Type} {enc : TypeId × Value → H} {W : World} {α : Type} [Inhabited α] (C : α → List Value) (Q : α → Prop) {t e : TypeId} {k : Nat} (hu : Tryz.prog.underlying t = some (.slice e)) (hc : Tryz.prog.cellsOf e = k) (hC : ∀ y, (C y).length = k) (hk : 0 < k) (hby : 1 ≤ Tryz.prog.bytesOf e)
    (hel : ∀ fuel cs x, DataW.trod enc Tryz.prog W 0 (fun _ => true) true fuel e cs = some x → (∀ n ∈ x.1.weights Tryz.prog e, n ≤ reachBytes) → ∃ y, cs = C y ∧ Q y)
    {fuel : Nat} {cs : List Value} {x : DataW H × List MemPlace} (h : DataW.trod enc Tryz.prog W 0 (fun _ => true) true fuel t cs = some x) (hsz : ∀ n ∈ x.1.weights Tryz.prog t, n ≤ reachBytes) :
    ∃ v l, cs = [v] ∧ rowAt W v k C l ∧ l.length ≤ 140737488355328 ∧ (∀ y ∈ l, Q y) ∧ capOk v := by
  rcases Deep.open_slice hu h with ⟨hcs, _⟩ | ⟨a, len, cap, m, n, D, Pl, hcs, _, hl, hm, hmm, rfl, hx⟩
  · exact ⟨_, [], hcs, rowAt.nil _ _ _, by simp, fun y hy => by simp at hy, fun o n c e => by injection e with _ e1 e2; omega⟩
  · simp only [if_true] at hmm
    subst hmm
    simp only at hsz
    rw [DataW.weights, hu] at hsz
    simp only [List.length_map, List.length_range] at hsz
    have hlen : len ≤ 140737488355328 := by
      have h1 := hsz _ (List.mem_cons_self ..)
      simp only [reachBytes] at h1
      have h2 : len + (m - len) ≤ (len + (m - len)) * Tryz.prog.bytesOf e := Nat.le_mul_of_pos_right _ hby
      omega
    have each : ∀ i, i < len → ∃ y : α, (∀ (o : Nat) (u : Value), (C y)[o]? = some u → W.cell? (a.add (i * k + o)) = some u) ∧ Q y := by
      intro i hi
      obtain ⟨cs', h1, h2⟩ := hx i (by omega)
      obtain ⟨y, e1, e2⟩ := hel _ _ _ h2 (fun q hq => hsz q (List.mem_cons_of_mem _ (List.mem_append_left _ (weightsAll_mem (List.mem_map.2 ⟨i, List.mem_range.2 hi, rfl⟩) hq))))
      refine ⟨y, fun o u ho => ?_, e2⟩
      rw [hc] at h1
      obtain ⟨_, hlen', hcell⟩ := World.cells?_some h1
      have ho' : o < k := by
        have := (List.getElem?_eq_some_iff.1 ho).1
        rw [hC] at this
        exact this
      have := hcell o ho'
      rw [Deep.add_add, e1, ho] at this
      exact this
    obtain ⟨T, hT⟩ := Deep.choose_lt each
    refine ⟨.slice (some a) len m, (List.range len).map T, hcs, ⟨some a, m, by simp, fun j y hj => ?_⟩, by simpa using hlen, fun y hy => ?_, fun o n c e => by injection e with _ e1 e2; omega⟩
    · have hj' : j < len := by
        have := (List.getElem?_eq_some_iff.1 hj).1
        simpa using this
      have ey : T j = y := by simpa [List.getElem?_range hj'] using hj
      subst ey
      obtain ⟨hcell, _⟩ := hT j hj'
      obtain ⟨blk, off, spot⟩ := a
      have hspot : spot = none := by
        have h0 : 0 < (C (T 0)).length := by rw [hC]; exact hk
        have := (hT 0 (by omega)).1 0 _ (List.getElem?_eq_getElem h0)
        simpa [Addr.add] using World.cell?_spot this
      subst hspot
      have ea : ∀ o, (⟨blk, off, none⟩ : Addr).add o = ⟨blk, off + o, none⟩ := fun o => by unfold Addr.add; split <;> simp_all
      refine ⟨blk, off, rfl, fun i u hu' => ?_⟩
      have := hcell i u hu'
      rw [ea] at this
      rw [Nat.add_assoc]
      exact this
    · obtain ⟨i, hi, rfl⟩ := List.mem_map.1 hy
      exact (hT i (List.mem_range.1 hi)).2

section
variable {H : Type} {enc : TypeId × Value → H} {W : World} {fuel : Nat} {cs : List Value} {x : DataW H × List MemPlace}

def okI (n : Int) : Prop := -9223372036854775808 ≤ n ∧ n ≤ 9223372036854775807
theorem el_int (h : DataW.trod enc Tryz.prog W 0 (fun _ => true) true fuel 3 cs = some x) : ∃ n, cs = iC n ∧ okI n := by
  obtain ⟨k, e0, rfl, hw⟩ := DataW.trod_int Tryz.underlying3 h
  refine ⟨k, e0, ?_⟩
  rw [Lit.wf, Bool.and_eq_true, decide_eq_true_eq, decide_eq_true_eq] at hw
  exact hw
theorem el_str (h : DataW.trod enc Tryz.prog W 0 (fun _ => true) true fuel 9 cs = some x) (hsz : ∀ n ∈ x.1.weights Tryz.prog 9, n ≤ reachBytes) : ∃ s, cs = sC s ∧ s.size ≤ 140737488355328 := by
  obtain ⟨s, e0, rfl, _⟩ := DataW.trod_string Tryz.underlying9 h
  refine ⟨s, e0, ?_⟩
  have := hsz s.data.toList.length (by simp [DataW.weights])
  rw [← Lib.size_eq] at this
  simp only [reachBytes] at this
  omega
theorem el_bool (h : DataW.trod enc Tryz.prog W 0 (fun _ => true) true fuel 4 cs = some x) : ∃ b, cs = [.bool b] := by
  obtain ⟨g, e0, rfl⟩ := DataW.trod_bool Tryz.underlying4 h
  exact ⟨g, e0⟩

/-- A field of one cell, out of what reads at a struct type. -/
theorem field_of {t : TypeId} {fs : Array Field} (hu : Tryz.prog.underlying t = some (.struct fs)) (hone : Deep.oneCellFields Tryz.prog fs = true) (h : DataW.trod enc Tryz.prog W 0 (fun _ => true) true fuel t cs = some x) (hsz : ∀ n ∈ x.1.weights Tryz.prog t, n ≤ reachBytes)
    {i : Nat} {T : TypeId} (hT : (fs[i]?).map (·.type) = some T) : ∃ n y, DataW.trod enc Tryz.prog W 0 (fun _ => true) true n T ((cs.drop i).take 1) = some y ∧ ∀ n ∈ y.1.weights Tryz.prog T, n ≤ reachBytes := by
  obtain ⟨xs, n, _, rfl, hl, hlen, hf⟩ := DataW.trod_struct hu h
  obtain ⟨f, hfi, rfl⟩ := Option.map_eq_some_iff.1 hT
  obtain ⟨o0, k0⟩ := Deep.hone_of hone i f hfi
  have hi : i < xs.length := by rw [hlen]; exact (Array.getElem?_eq_some_iff.1 hfi).1
  have := hf i f hfi
  rw [o0, k0, List.getElem?_eq_getElem hi] at this
  refine ⟨n, xs[i], this, weights_field hu hsz (j := i) (f := f) (by rw [Array.getElem?_toList]; exact hfi) ?_⟩
  rw [List.getElem?_map, List.getElem?_eq_getElem hi]
  rfl
theorem cells_of {t : TypeId} {fs : Array Field} (hu : Tryz.prog.underlying t = some (.struct fs)) (h : DataW.trod enc Tryz.prog W 0 (fun _ => true) true fuel t cs = some x) : cs.length = Tryz.prog.cellsOf t := by
  obtain ⟨xs, n, _, rfl, hl, hlen, hf⟩ := DataW.trod_struct hu h
  exact hl

def fsIn (o : Option TypeDesc) : Array Field := match o with
  | some (.struct fs) => fs
  | _ => #[]
theorem list_two {α : Type} : ∀ (l : List α), l.length = 2 → ∃ a b, l = [a, b]
  | [a, b], _ => ⟨a, b, rfl⟩
theorem list_four {α : Type} : ∀ (l : List α), l.length = 4 → ∃ a b c d, l = [a, b, c, d]
  | [a, b, c, d], _ => ⟨a, b, c, d, rfl⟩
theorem list_six {α : Type} : ∀ (l : List α), l.length = 6 → ∃ a b c d e f, l = [a, b, c, d, e, f]
  | [a, b, c, d, e, f], _ => ⟨a, b, c, d, e, f, rfl⟩

theorem underPt : Tryz.prog.underlying 63 = some (.struct (fsIn (Tryz.prog.underlying 63))) := by kernel_rfl
theorem underNd : Tryz.prog.underlying 96 = some (.struct (fsIn (Tryz.prog.underlying 96))) := by kernel_rfl
theorem underRt : Tryz.prog.underlying 66 = some (.struct (fsIn (Tryz.prog.underlying 66))) := by kernel_rfl
theorem underLy : Tryz.prog.underlying 26 = some (.struct (fsIn (Tryz.prog.underlying 26))) := by kernel_rfl

theorem el_point (h : DataW.trod enc Tryz.prog W 0 (fun _ => true) true fuel 63 cs = some x) (hsz : ∀ n ∈ x.1.weights Tryz.prog 63, n ≤ reachBytes) : ∃ p, cs = pC p ∧ p.1.size ≤ 140737488355328 ∧ okI p.2 := by
  obtain ⟨a, b, rfl⟩ := list_two cs ((cells_of underPt h).trans (by kernel_rfl))
  obtain ⟨_, _, h0, z0⟩ := field_of underPt (by kernel_rfl) h hsz (i := 0) (T := 9) (by kernel_rfl)
  obtain ⟨_, _, h1, z1⟩ := field_of underPt (by kernel_rfl) h hsz (i := 1) (T := 3) (by kernel_rfl)
  obtain ⟨s, e0, k0⟩ := el_str h0 z0
  obtain ⟨n, e1, k1⟩ := el_int h1
  refine ⟨(s, n), ?_, k0, k1⟩
  simp [sC, iC] at e0 e1
  rw [e0, e1]
  rfl
theorem el_need (h : DataW.trod enc Tryz.prog W 0 (fun _ => true) true fuel 96 cs = some x) (hsz : ∀ n ∈ x.1.weights Tryz.prog 96, n ≤ reachBytes) : ∃ p, cs = nC p ∧ okI p.1 := by
  obtain ⟨a, b, rfl⟩ := list_two cs ((cells_of underNd h).trans (by kernel_rfl))
  obtain ⟨_, _, h0, z0⟩ := field_of underNd (by kernel_rfl) h hsz (i := 0) (T := 3) (by kernel_rfl)
  obtain ⟨_, _, h1, z1⟩ := field_of underNd (by kernel_rfl) h hsz (i := 1) (T := 4) (by kernel_rfl)
  obtain ⟨n, e0, k0⟩ := el_int h0
  obtain ⟨s, e1⟩ := el_bool h1
  refine ⟨(n, s), ?_, k0⟩
  simp [iC] at e0 e1
  rw [e0, e1]
  rfl

/-- How great a route may be. -/
structure RtBig (r : Rt) : Prop where
  name : r.name.size ≤ 140737488355328
  frm : okI r.frm
  to : okI r.to
  path : r.path.length ≤ 140737488355328 ∧ ∀ i ∈ r.path, okI i
  points : r.points.length ≤ 140737488355328 ∧ ∀ n ∈ r.points, okI n.1
  flank : r.flank.length ≤ 140737488355328 ∧ ∀ n ∈ r.flank, okI n.1
theorem el_route (h : DataW.trod enc Tryz.prog W 0 (fun _ => true) true fuel 66 cs = some x) (hsz : ∀ n ∈ x.1.weights Tryz.prog 66, n ≤ reachBytes) : ∃ p : RtV, cs = rC p ∧ RtAt W p ∧ RtBig p.1 ∧ capOk p.2.1 := by
  obtain ⟨a, b, c, d, e, f, rfl⟩ := list_six cs ((cells_of underRt h).trans (by kernel_rfl))
  obtain ⟨_, _, h0, z0⟩ := field_of underRt (by kernel_rfl) h hsz (i := 0) (T := 9) (by kernel_rfl)
  obtain ⟨_, _, h1, z1⟩ := field_of underRt (by kernel_rfl) h hsz (i := 1) (T := 3) (by kernel_rfl)
  obtain ⟨_, _, h2, z2⟩ := field_of underRt (by kernel_rfl) h hsz (i := 2) (T := 3) (by kernel_rfl)
  obtain ⟨_, _, h3, z3⟩ := field_of underRt (by kernel_rfl) h hsz (i := 3) (T := 36) (by kernel_rfl)
  obtain ⟨_, _, h4, z4⟩ := field_of underRt (by kernel_rfl) h hsz (i := 4) (T := 64) (by kernel_rfl)
  obtain ⟨_, _, h5, z5⟩ := field_of underRt (by kernel_rfl) h hsz (i := 5) (T := 64) (by kernel_rfl)
  clear h hsz
  obtain ⟨s, e0, k0⟩ := el_str h0 z0
  obtain ⟨m, e1, k1⟩ := el_int h1
  obtain ⟨n, e2, k2⟩ := el_int h2
  obtain ⟨v3, l3, e3, r3, k3, q3, cap3⟩ := open_row iC okI Tryz.underlying36 (k := 1) (by kernel_rfl) (fun _ => rfl) (by omega) (by decide +kernel) (fun _ _ _ hh _ => el_int hh) h3 z3
  obtain ⟨v4, l4, e4, r4, k4, q4, _⟩ := open_row nC (fun p => okI p.1) Tryz.underlying64 (k := 2) (by kernel_rfl) (fun _ => rfl) (by omega) (by decide +kernel) (fun _ _ _ hh hz => el_need hh hz) h4 z4
  obtain ⟨v5, l5, e5, r5, k5, q5, _⟩ := open_row nC (fun p => okI p.1) Tryz.underlying64 (k := 2) (by kernel_rfl) (fun _ => rfl) (by omega) (by decide +kernel) (fun _ _ _ hh hz => el_need hh hz) h5 z5
  simp [sC, iC] at e0 e1 e2 e3 e4 e5
  refine ⟨(⟨s, m, n, l3, l4, l5⟩, (v3, v4, v5)), ?_, ⟨r3, r4, r5⟩, ⟨k0, k1, k2, ⟨k3, q3⟩, ⟨k4, q4⟩, ⟨k5, q5⟩⟩, cap3⟩
  rw [e0, e1, e2, e3, e4, e5]
  rfl

/-- How great a layout may be. -/
structure LayBig (l : Lay) : Prop where
  s : l.sections.length ≤ 140737488355328 ∧ ∀ x ∈ l.sections, x.size ≤ 140737488355328
  p : l.points.length ≤ 140737488355328 ∧ ∀ x ∈ l.points, x.1.size ≤ 140737488355328 ∧ okI x.2
  g : l.signals.length ≤ 140737488355328 ∧ ∀ x ∈ l.signals, x.size ≤ 140737488355328
  r : l.routes.length ≤ 140737488355328 ∧ ∀ x ∈ l.routes, RtBig x
theorem el_layout (h : DataW.trod enc Tryz.prog W 0 (fun _ => true) true fuel 26 cs = some x) (hsz : ∀ n ∈ x.1.weights Tryz.prog 26, n ≤ reachBytes) : ∃ v l rs, cs = [v 0, v 1, v 2, v 3] ∧ LayRd W v l rs ∧ LayBig l ∧ (∀ x ∈ rs, capOk x.2.1) ∧ capOk (v 3) := by
  obtain ⟨a, b, c, d, rfl⟩ := list_four cs ((cells_of underLy h).trans (by kernel_rfl))
  obtain ⟨_, _, h0, z0⟩ := field_of underLy (by kernel_rfl) h hsz (i := 0) (T := 22) (by kernel_rfl)
  obtain ⟨_, _, h1, z1⟩ := field_of underLy (by kernel_rfl) h hsz (i := 1) (T := 23) (by kernel_rfl)
  obtain ⟨_, _, h2, z2⟩ := field_of underLy (by kernel_rfl) h hsz (i := 2) (T := 22) (by kernel_rfl)
  obtain ⟨_, _, h3, z3⟩ := field_of underLy (by kernel_rfl) h hsz (i := 3) (T := 24) (by kernel_rfl)
  clear h hsz
  haveI : Inhabited ByteArray := ⟨⟨#[]⟩⟩
  haveI : Inhabited RtV := ⟨(⟨⟨#[]⟩, 0, 0, [], [], []⟩, (.nilIface, .nilIface, .nilIface))⟩
  obtain ⟨v0, l0, e0, r0, k0, q0, _⟩ := open_row sC (fun s => s.size ≤ 140737488355328) Tryz.underlying22 (k := 1) (by kernel_rfl) (fun _ => rfl) (by omega) (by decide +kernel) (fun _ _ _ hh hz => el_str hh hz) h0 z0
  obtain ⟨v1, l1, e1, r1, k1, q1, _⟩ := open_row pC (fun p => p.1.size ≤ 140737488355328 ∧ okI p.2) Tryz.underlying23 (k := 2) (by kernel_rfl) (fun _ => rfl) (by omega) (by decide +kernel) (fun _ _ _ hh hz => el_point hh hz) h1 z1
  obtain ⟨v2, l2, e2, r2, k2, q2, _⟩ := open_row sC (fun s => s.size ≤ 140737488355328) Tryz.underlying22 (k := 1) (by kernel_rfl) (fun _ => rfl) (by omega) (by decide +kernel) (fun _ _ _ hh hz => el_str hh hz) h2 z2
  obtain ⟨v3, l3, e3, r3, k3, q3, cap3⟩ := open_row rC (fun p => RtAt W p ∧ RtBig p.1 ∧ capOk p.2.1) Tryz.underlying24 (k := 6) (by kernel_rfl) (fun _ => rfl) (by omega) (by decide +kernel) (fun _ _ _ hh hz => el_route hh hz) h3 z3
  simp at e0 e1 e2 e3
  refine ⟨fun i => match i with | 0 => v0 | 1 => v1 | 2 => v2 | _ => v3, ⟨l0, l1, l2, l3.map (·.1)⟩, l3, ?_, ⟨r0, r1, r2, r3, rfl, fun y hy => (q3 y hy).1⟩, ⟨⟨k0, q0⟩, ⟨k1, q1⟩, ⟨k2, q2⟩, ⟨by simpa using k3, fun y hy => ?_⟩⟩, fun y hy => (q3 y hy).2.2, cap3⟩
  · rw [e0, e1, e2, e3]
    rfl
  · obtain ⟨z, hz, rfl⟩ := List.mem_map.1 hy
    exact (q3 z hz).2.1
set_option maxRecDepth 100000 in
/-- A layout among the arguments. -/
theorem open_layout {r : Reach} {b0 : Nat} {v : Value} {dd : DataW H} {p : List MemPlace} (hv : Value.okWide Tryz.prog W r b0 26 v) (h : DataW.Trod enc Tryz.prog W 0 (fun _ => true) true 26 v dd p) (hsz : ∀ n ∈ dd.weights Tryz.prog 26, n ≤ reachBytes) :
    ∃ u l rs, v = .agg #[u 0, u 1, u 2, u 3] ∧ LayRd W u l rs ∧ LayBig l ∧ (∀ x ∈ rs, capOk x.2.1) ∧ capOk (u 3) := by
  obtain ⟨fz, hz⟩ : ∃ fz, Tryz.prog.underlying 26 = some (.struct fz) := ⟨_, underLy⟩
  obtain ⟨cz, rfl, _⟩ := okWide_struct hz hv
  obtain ⟨fu, hf⟩ := h
  obtain ⟨u, l, rs, e, h1, h2, h3⟩ := el_layout hf hsz
  refine ⟨u, l, rs, ?_, h1, h2, h3⟩
  rw [show cz = #[u 0, u 1, u 2, u 3] from Array.ext' e]
end
end Go.Proofs.YtceebimgfajbcaaGreatDoor

namespace Go.Proofs.YtceebimgfajbcaaGreatDoor
open Go.ChangeShapes Go.WideShapes Go.RowKit
section
variable {H : Type} {enc : TypeId × Value → H} {W : World} {fuel : Nat} {cs : List Value} {x : DataW H × List MemPlace}
theorem el_layout_c (h : DataW.trod enc Tryz.prog W 0 (fun _ => true) true fuel 26 cs = some x) (hsz : ∀ n ∈ x.1.weights Tryz.prog 26, n ≤ reachBytes) : ∃ v l rs, cs = [v 0, v 1, v 2, v 3] ∧ LayRd W v l rs ∧ LayBig l ∧ (∀ x ∈ rs, capOk x.2.1) ∧ capOk (v 3) ∧ capOk (v 0) ∧ capOk (v 2) := by
  obtain ⟨a, b, c, d, rfl⟩ := list_four cs ((cells_of underLy h).trans (by kernel_rfl))
  obtain ⟨_, _, h0, z0⟩ := field_of underLy (by kernel_rfl) h hsz (i := 0) (T := 22) (by kernel_rfl)
  obtain ⟨_, _, h1, z1⟩ := field_of underLy (by kernel_rfl) h hsz (i := 1) (T := 23) (by kernel_rfl)
  obtain ⟨_, _, h2, z2⟩ := field_of underLy (by kernel_rfl) h hsz (i := 2) (T := 22) (by kernel_rfl)
  obtain ⟨_, _, h3, z3⟩ := field_of underLy (by kernel_rfl) h hsz (i := 3) (T := 24) (by kernel_rfl)
  clear h hsz
  haveI : Inhabited ByteArray := ⟨⟨#[]⟩⟩
  haveI : Inhabited RtV := ⟨(⟨⟨#[]⟩, 0, 0, [], [], []⟩, (.nilIface, .nilIface, .nilIface))⟩
  obtain ⟨v0, l0, e0, r0, k0, q0, cap0⟩ := open_row sC (fun s => s.size ≤ 140737488355328) Tryz.underlying22 (k := 1) (by kernel_rfl) (fun _ => rfl) (by omega) (by decide +kernel) (fun _ _ _ hh hz => el_str hh hz) h0 z0
  obtain ⟨v1, l1, e1, r1, k1, q1, _⟩ := open_row pC (fun p => p.1.size ≤ 140737488355328 ∧ okI p.2) Tryz.underlying23 (k := 2) (by kernel_rfl) (fun _ => rfl) (by omega) (by decide +kernel) (fun _ _ _ hh hz => el_point hh hz) h1 z1
  obtain ⟨v2, l2, e2, r2, k2, q2, cap2⟩ := open_row sC (fun s => s.size ≤ 140737488355328) Tryz.underlying22 (k := 1) (by kernel_rfl) (fun _ => rfl) (by omega) (by decide +kernel) (fun _ _ _ hh hz => el_str hh hz) h2 z2
  obtain ⟨v3, l3, e3, r3, k3, q3, cap3⟩ := open_row rC (fun p => RtAt W p ∧ RtBig p.1 ∧ capOk p.2.1) Tryz.underlying24 (k := 6) (by kernel_rfl) (fun _ => rfl) (by omega) (by decide +kernel) (fun _ _ _ hh hz => el_route hh hz) h3 z3
  simp at e0 e1 e2 e3
  refine ⟨fun i => match i with | 0 => v0 | 1 => v1 | 2 => v2 | _ => v3, ⟨l0, l1, l2, l3.map (·.1)⟩, l3, ?_, ⟨r0, r1, r2, r3, rfl, fun y hy => (q3 y hy).1⟩, ⟨⟨k0, q0⟩, ⟨k1, q1⟩, ⟨k2, q2⟩, ⟨by simpa using k3, fun y hy => ?_⟩⟩, fun y hy => (q3 y hy).2.2, cap3, cap0, cap2⟩
  · rw [e0, e1, e2, e3]
    rfl
  · obtain ⟨z, hz, rfl⟩ := List.mem_map.1 hy
    exact (q3 z hz).2.1
set_option maxRecDepth 100000 in
/-- A layout among the arguments. -/
theorem open_layout_c {r : Reach} {b0 : Nat} {v : Value} {dd : DataW H} {p : List MemPlace} (hv : Value.okWide Tryz.prog W r b0 26 v) (h : DataW.Trod enc Tryz.prog W 0 (fun _ => true) true 26 v dd p) (hsz : ∀ n ∈ dd.weights Tryz.prog 26, n ≤ reachBytes) :
    ∃ u l rs, v = .agg #[u 0, u 1, u 2, u 3] ∧ LayRd W u l rs ∧ LayBig l ∧ (∀ x ∈ rs, capOk x.2.1) ∧ capOk (u 3) ∧ capOk (u 0) ∧ capOk (u 2) := by
  obtain ⟨fz, hz⟩ : ∃ fz, Tryz.prog.underlying 26 = some (.struct fz) := ⟨_, underLy⟩
  obtain ⟨cz, rfl, _⟩ := okWide_struct hz hv
  obtain ⟨fu, hf⟩ := h
  obtain ⟨u, l, rs, e, h1, h2, h3⟩ := el_layout_c hf hsz
  refine ⟨u, l, rs, ?_, h1, h2, h3⟩
  rw [show cz = #[u 0, u 1, u 2, u 3] from Array.ext' e]
end
end Go.Proofs.YtceebimgfajbcaaGreatDoor

namespace Go.Proofs.YtceebimgfajbcaaGreatDoor
open Go.RowKit

def inB (l : List Int) (n : Int) : Bool := l.any fun x => decide (x = n)
theorem inB_cons (x : Int) (l : List Int) (n : Int) : inB (x :: l) n = (decide (x = n) || inB l n) := rfl

set_option maxRecDepth 1000000 in
set_option maxHeartbeats 1000000 in
theorem in_any (v : Value) (l : List Int) (x : Int) (w : World) (h : rowAt w v 1 iC l) (hl : l.length ≤ 4294967296) :
    Calls Tryz.prog 49 #[v, .int .i64 x] w fun e w' => e = .returned (.bool (inB l x)) ∧ w' = w := by
  obtain ⟨oa, cap, rfl, h2⟩ := h
  have H2 : Hid (∀ j y, l[j]? = some y → ∃ g off, oa = some ⟨g, off, none⟩ ∧ ∀ i u, (iC y)[i]? = some u → w.cell? ⟨g, off + j * 1 + i, none⟩ = some u) := h2
  clear h2
  have HI : Hid (inB l x = inB l x) := rfl
  generalize hans : inB l x = ans at *
  have HA : Hid (inB l x = ans) := hans
  generalize hn : l.length = n at *
  have HN : Hid (l.length = n) := hn
  clear hn hans HI
  go_enter Tryz.func49, Tryz.ntmps49
  go_wp2
  go_loop [5] (fun i => ∃ k : Nat, i = .int .i64 k ∧ k ≤ n ∧ inB (l.drop k) x = inB l x) (fun i => n - (intOf i).toNat)
  case atStart => exact ⟨0, rfl, by omega, by simp⟩
  case round =>
    obtain ⟨k, rfl, hk, hc⟩ := hrel
    have HC : Hid (inB (l.drop k) x = inB l x) := hc
    clear hc
    by_cases hlt : k < n
    · obtain ⟨y, hy⟩ : ∃ y, l[k]? = some y := ⟨l[k]'(by rw [HN.out]; exact hlt), List.getElem?_eq_getElem _⟩
      obtain ⟨g, off, rfl, hcell⟩ := H2.out k y hy
      have c0 := hcell 0 _ rfl
      simp only [Nat.mul_one, Nat.add_zero] at c0
      rw [drop_at hy, inB_cons] at HC
      clear hcell hy
      by_cases hxy : y = x
      · have hb : ((y : Int) == x) = true := by simp [hxy]
        rw [decide_eq_true hxy, Bool.true_or] at HC
        clear hxy
        go_wp2
        go_ret
        exact ⟨ret_bool (by rw [← HA.out, ← HC.out]), rfl⟩
      · have hb : ((y : Int) == x) = false := by simp [hxy]
        rw [decide_eq_false hxy, Bool.false_or] at HC
        clear hxy
        go_wp2
        go_round
        case rel => exact ⟨k + 1, by go_num, by omega, HC.out⟩
        case measure => simp [intOf]; omega
    · have h1 := HC.out
      rw [List.drop_of_length_le (by rw [HN.out]; omega)] at h1
      have H1 : Hid (false = inB l x) := h1
      clear h1
      go_wp2
      go_ret
      exact ⟨ret_bool (by rw [← HA.out, ← H1.out]), rfl⟩
end Go.Proofs.YtceebimgfajbcaaGreatDoor

namespace Go.Proofs.YtceebimgfajbcaaGreatDoor
open Go.RowKit

theorem eqGuardNd : Tryz.prog.eqGuardType Tryz.prog.depth 96 = false := by kernel_rfl
theorem stoodNd : Tryz.prog.stoodInHeld 96 = false := by kernel_rfl
theorem fieldsNd : (Tryz.prog.fieldsOf 96).toList.map (fun f => (f.name, f.type, f.offset)) = [("Point", 3, 0), ("Reverse", 4, 1)] := by kernel_rfl
theorem underNeed : Tryz.prog.underlying 96 = some (.struct (Tryz.prog.fieldsOf 96)) := by kernel_rfl
theorem partNdI (n : Int) (b : Bool) (W : World) : (part 3 #[.int .i64 n, .bool b] 0).run Tryz.prog W = .ok (.int .i64 n) W := by go_simp
theorem partNdB (n : Int) (b : Bool) (W : World) : (part 4 #[.int .i64 n, .bool b] 1).run Tryz.prog W = .ok (.bool b) W := by go_simp
theorem run_eqNd (n m : Int) (a b : Bool) (W : World) :
    (Op.equalIn 10000 96 (.agg #[.int .i64 n, .bool a]) (.agg #[.int .i64 m, .bool b])).run Tryz.prog W = .ok (decide (n = m ∧ a = b)) W := by
  rw [run_equalIn_struct W 9999 _ _ _ underNeed stoodNd]
  obtain ⟨f, g, hfg⟩ : ∃ f g, (Tryz.prog.fieldsOf 96).toList = [f, g] := by
    match h : (Tryz.prog.fieldsOf 96).toList with
    | [f, g] => exact ⟨f, g, rfl⟩
    | [] => have := fieldsNd; rw [h] at this; simp at this
    | [f] => have := fieldsNd; rw [h] at this; simp at this
    | f :: g :: k :: r => have := fieldsNd; rw [h] at this; simp at this
  have hf := fieldsNd
  rw [hfg] at hf ⊢
  simp at hf
  obtain ⟨⟨f1, f2, f3⟩, g1, g2, g3⟩ := hf
  have q1 : ∀ k n : Int, (Op.equalIn 9999 3 (.int .i64 k) (.int .i64 n)).run Tryz.prog W = .ok (k == n) W := fun k n => run_equalIn_int (P := Tryz.prog) W 9998 3 .i64 .i64 k n Tryz.underlying3
  have q2 : ∀ a b : Bool, (Op.equalIn 9999 4 (.bool a) (.bool b)).run Tryz.prog W = .ok (a == b) W := fun a b => run_equalIn_bool (P := Tryz.prog) W 9998 4 a b Tryz.underlying4
  have e1 : ¬ (("Point" : String) = "_") := by decide
  have e2 : ¬ (("Reverse" : String) = "_") := by decide
  simp only [Op.eqFields, f1, f2, f3, g1, g2, g3, ne_eq, e1, e2, not_false_eq_true, if_true, Sem.run_bind, partNdI, Result.andThen_ok, q1]
  by_cases hn : n = m <;> by_cases hb : a = b <;> simp [hn, hb, partNdB, q2]
theorem run_neqNd (n m : Int) (a b : Bool) (W : World) : (binOp .neq 96 (.agg #[.int .i64 n, .bool a]) (.agg #[.int .i64 m, .bool b])).run Tryz.prog W = .ok (.bool (!decide (n = m ∧ a = b))) W := by
  rw [run_neq_struct, run_eqNd]
  rfl

theorem eqGuardPt : Tryz.prog.eqGuardType Tryz.prog.depth 63 = false := by kernel_rfl
theorem stoodPt : Tryz.prog.stoodInHeld 63 = false := by kernel_rfl
theorem fieldsPt : (Tryz.prog.fieldsOf 63).toList.map (fun f => (f.name, f.type, f.offset)) = [("Name", 9, 0), ("Section", 3, 1)] := by kernel_rfl
theorem underPoint : Tryz.prog.underlying 63 = some (.struct (Tryz.prog.fieldsOf 63)) := by kernel_rfl
theorem partPtS (a : ByteArray) (m : Int) (W : World) : (part 9 #[.string a, .int .i64 m] 0).run Tryz.prog W = .ok (.string a) W := by go_simp
theorem partPtI (a : ByteArray) (m : Int) (W : World) : (part 3 #[.string a, .int .i64 m] 1).run Tryz.prog W = .ok (.int .i64 m) W := by go_simp
theorem run_neqPt (a b : ByteArray) (m n : Int) (W : World) :
    (binOp .neq 63 (.agg #[.string a, .int .i64 m]) (.agg #[.string b, .int .i64 n])).run Tryz.prog W = .ok (.bool (!decide (a = b ∧ m = n))) W := by
  rw [run_neq_struct, run_equalIn_struct W 9999 _ _ _ underPoint stoodPt]
  obtain ⟨f, g, hfg⟩ : ∃ f g, (Tryz.prog.fieldsOf 63).toList = [f, g] := by
    match h : (Tryz.prog.fieldsOf 63).toList with
    | [f, g] => exact ⟨f, g, rfl⟩
    | [] => have := fieldsPt; rw [h] at this; simp at this
    | [f] => have := fieldsPt; rw [h] at this; simp at this
    | f :: g :: k :: r => have := fieldsPt; rw [h] at this; simp at this
  have hf := fieldsPt
  rw [hfg] at hf ⊢
  simp at hf
  obtain ⟨⟨f1, f2, f3⟩, g1, g2, g3⟩ := hf
  have q1 := fun d => run_equalIn_string (P := Tryz.prog) W d 9 a b Tryz.underlying9
  have q2' := fun k d => run_equalIn_int (P := Tryz.prog) W d 3 .i64 .i64 k n Tryz.underlying3
  have e1 : ¬ (("Name" : String) = "_") := by decide
  have e2 : ¬ (("Section" : String) = "_") := by decide
  simp only [Op.eqFields, f1, f2, f3, g1, g2, g3, ne_eq, e1, e2, not_false_eq_true, if_true, Sem.run_bind, partPtS, Result.andThen_ok, q1 9998]
  have h1 : (a.toList == b.toList) = decide (a = b) := by
    rw [Lib.toList_data, Lib.toList_data, Bool.eq_iff_iff]
    simp only [beq_iff_eq, decide_eq_true_eq]
    exact ⟨fun h => ByteArray.ext (Array.ext' h), fun h => by rw [h]⟩
  rw [h1]
  by_cases ha : a = b <;> by_cases hm : m = n <;> simp [ha, hm, partPtI, q2' _ 9998]
end Go.Proofs.YtceebimgfajbcaaGreatDoor

namespace Go.Proofs.YtceebimgfajbcaaGreatDoor
open Go.RowKit

theorem isCount_any (n a b : Int) (w : World) :
    Calls Tryz.prog 72 #[.int .i64 n, .int .i64 a, .int .i64 b] w fun e w' => e = .returned (.bool (decide (a ≤ n ∧ n ≤ b))) ∧ w' = w := by
  by_cases h : a ≤ n
  all_goals
    go_enter Tryz.func72, Tryz.ntmps72
    go_wp2
    go_ret
    exact ⟨ret_bool (by rw [Bool.eq_iff_iff]; simp; omega), rfl⟩

theorem isPlace_any (i n : Int) (w : World) :
    Calls Tryz.prog 78 #[.int .i64 i, .int .i64 n] w fun e w' => e = .returned (.bool (decide (0 ≤ i ∧ i < n))) ∧ w' = w := by
  by_cases h : 0 ≤ i
  all_goals
    go_enter Tryz.func78, Tryz.ntmps78
    go_wp2
    go_ret
    exact ⟨ret_bool (by rw [Bool.eq_iff_iff]; simp; omega), rfl⟩

set_option maxRecDepth 1000000 in
set_option maxHeartbeats 1000000 in
theorem mayName_any (s : ByteArray) (w : World) :
    Calls Tryz.prog 91 #[.string s] w fun e w' => e = .returned (.bool (capB s)) ∧ Below w.heap.size w w' := by
  have N := isName_any s w
  cases hn : nameB s.data.toList
  · have HC : Hid (capB s = false) := by simp [Hid, capB, hn]
    rw [hn] at N
    rw [HC.out]
    go_enter Tryz.func91, Tryz.ntmps91
    go_wp2_with fail
    refine N.mono ?_
    rintro e w1 ⟨rfl, hb1⟩
    go_wp2
    go_ret
    exact ⟨rfl, hb1⟩
  · rw [hn] at N
    by_cases h1 : s = kSet
    · subst h1
      rw [show capB kSet = false by decide +kernel]
      rw [kSet] at N ⊢
      go_enter Tryz.func91, Tryz.ntmps91
      go_wp2_with fail
      refine N.mono ?_
      rintro e w1 ⟨rfl, hb1⟩
      go_wp2
      go_ret
      exact ⟨rfl, hb1⟩
    · by_cases h2 : s = kFlank
      · subst h2
        rw [show capB kFlank = false by decide +kernel]
        rw [kFlank] at N ⊢
        go_enter Tryz.func91, Tryz.ntmps91
        go_wp2_with fail
        refine N.mono ?_
        rintro e w1 ⟨rfl, hb1⟩
        go_wp2
        go_ret
        exact ⟨rfl, hb1⟩
      · have HC : Hid (capB s = true) := by simp [Hid, capB, hn, endsB, h1, h2]
        rw [HC.out]
        have d1 : ¬ s.toList = [115, 101, 116] := fun h => h1 (bytes_ext (by rw [← Lib.toList_data, h]))
        have d2 : ¬ s.toList = [102, 108, 97, 110, 107] := fun h => h2 (bytes_ext (by rw [← Lib.toList_data, h]))
        go_enter Tryz.func91, Tryz.ntmps91
        go_wp2_with fail
        refine N.mono ?_
        rintro e w1 ⟨rfl, hb1⟩
        go_wp2
        go_ret
        exact ⟨ret_bool (by simp [d1, d2]), hb1⟩

/-- The place of the first that is so; -1. -/
def atF {α : Type} (p : α → Bool) : List α → Nat → Int
  | [], _ => -1
  | y :: l, k => if p y = true then (k : Int) else atF p l (k + 1)
theorem atF_ge {α : Type} (p : α → Bool) : ∀ (l : List α) (k : Nat), decide (0 ≤ atF p l k) = l.any p
  | [], _ => rfl
  | y :: l, k => by
    rw [atF, List.any_cons]
    cases h : p y
    · rw [if_neg (by simp), atF_ge p l (k + 1), Bool.false_or]
    · rw [if_pos rfl, Bool.true_or]
      exact decide_eq_true (by omega)
def eqI (x : Int) (y : Int) : Bool := decide (y = x)

set_option maxRecDepth 1000000 in
set_option maxHeartbeats 1000000 in
theorem indexI_any (v : Value) (l : List Int) (x : Int) (w : World) (h : rowAt w v 1 iC l) (hl : l.length ≤ 4294967296) :
    Calls Tryz.prog 88 #[v, .int .i64 x] w fun e w' => e = .returned (.int .i64 (atF (eqI x) l 0)) ∧ w' = w := by
  obtain ⟨oa, cap, rfl, h2⟩ := h
  have H2 : Hid (∀ j y, l[j]? = some y → ∃ g off, oa = some ⟨g, off, none⟩ ∧ ∀ i u, (iC y)[i]? = some u → w.cell? ⟨g, off + j * 1 + i, none⟩ = some u) := h2
  clear h2
  generalize hA : atF (eqI x) l 0 = ans at *
  have HI : Hid (atF (eqI x) l 0 = ans) := hA
  clear hA
  generalize hn : l.length = n at *
  have HN : Hid (l.length = n) := hn
  clear hn
  go_enter Tryz.func88, Tryz.ntmps88
  go_wp2
  go_loop [5, 8] (fun _ i => ∃ k : Nat, i = .int .i64 k ∧ k ≤ n ∧ atF (eqI x) (l.drop k) k = atF (eqI x) l 0) (fun _ i => n - (intOf i).toNat)
  case atStart => exact ⟨0, rfl, by omega, by simp⟩
  case round =>
    obtain ⟨k, rfl, hk, hc⟩ := hrel
    have HC : Hid (atF (eqI x) (l.drop k) k = atF (eqI x) l 0) := hc
    clear hc
    by_cases hlt : k < n
    · obtain ⟨y, hy⟩ : ∃ y, l[k]? = some y := ⟨l[k]'(by rw [HN.out]; exact hlt), List.getElem?_eq_getElem _⟩
      obtain ⟨g, off, rfl, hcell⟩ := H2.out k y hy
      have c0 := hcell 0 _ rfl
      simp only [Nat.mul_one, Nat.add_zero] at c0
      rw [drop_at hy, atF] at HC
      clear hcell hy
      by_cases hxy : y = x
      · have hb : ((x : Int) == y) = true := by simp [hxy]
        rw [if_pos (show eqI x y = true from decide_eq_true hxy)] at HC
        clear hxy
        go_wp2
        go_ret
        exact ⟨by rw [← HI.out, ← HC.out]; rfl, rfl⟩
      · have hb : ((x : Int) == y) = false := by simp; exact fun h => hxy h.symm
        rw [if_neg (by simp [eqI, hxy])] at HC
        clear hxy
        go_wp2
        go_round
        case rel => exact ⟨k + 1, by go_num, by omega, HC.out⟩
        case measure => simp [intOf]; omega
    · have h1 := HC.out
      rw [List.drop_of_length_le (by rw [HN.out]; omega), atF] at h1
      have H1 : Hid (-1 = atF (eqI x) l 0) := h1
      clear h1
      go_wp2
      go_ret
      exact ⟨by rw [← HI.out, ← H1.out]; rfl, rfl⟩

theorem containsI_any (v : Value) (l : List Int) (x : Int) (w : World) (h : rowAt w v 1 iC l) (hl : l.length ≤ 4294967296) :
    Calls Tryz.prog 69 #[v, .int .i64 x] w fun e w' => e = .returned (.bool (inB l x)) ∧ w' = w := by
  have HI : decide (0 ≤ atF (eqI x) l 0) = inB l x := atF_ge _ _ _
  have C := indexI_any v l x w h hl
  rw [← HI]
  generalize atF (eqI x) l 0 = n at *
  clear h HI
  go_enter Tryz.func69, Tryz.ntmps69
  go_wp2_with fail
  refine C.mono ?_
  rintro e w1 ⟨rfl, rfl⟩
  go_wp2
  go_ret
  exact ⟨rfl, rfl⟩
end Go.Proofs.YtceebimgfajbcaaGreatDoor
