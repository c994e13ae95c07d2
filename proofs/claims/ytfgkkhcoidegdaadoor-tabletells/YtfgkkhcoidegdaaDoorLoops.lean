/-
  Width, IsName, firstWrong of package glyph, each by a contract: at every text.
-/
import Derived.Test.YtfgkkhcoidegdaaDoorLeaf
import Derived.Test.YtfgkkhcoidegdaaDoorPlain
import Derived.WalkKit
import Derived.WalkSmall
namespace Go.Proofs.YtfgkkhcoidegdaaDoor
open Go.RowKit

theorem ret_int {k : IntKind} {a b : Int} (h : a = b) : Ending.returned (.int k a) = .returned (.int k b) := by rw [h]


/-- IsName, from the n-th rune on. -/
def nameF : Nat → List (Nat × Nat) → Bool
  | n, [] => decide (0 < n)
  | n, r :: rs => if n = 8 ∨ standB r.1 n = false then false else nameF (n + 1) rs
def nameB (l : List UInt8) : Bool := nameF 0 (runes l)

set_option maxRecDepth 1000000 in
set_option maxHeartbeats 1000000 in
theorem isName_any (s : ByteArray) (w : World) :
    Calls Tryd.prog 172 #[.string s] w fun e w' => e = .returned (.bool (nameB s.data.toList)) ∧ Below w.heap.size w w' := by
  have H0 : Hid (nameF 0 (runesAt s 0) = nameB s.data.toList) := by simp [Hid, runesAt, nameB]
  go_enter Tryd.func172, Tryd.ntmps172
  go_wp2
  go_loopw [3, 5] (fun n _ w' => ∃ (pos k : Nat), w' = w.iter s pos ∧ n = .int .i64 k ∧ nameF k (runesAt s pos) = nameF 0 (runesAt s 0) ∧ k ≤ 8 ∧ pos ≤ s.size) (fun _ _ w' => s.size - w'.iterPos w.heap.size)
  case atStart => exact ⟨0, 0, rfl, rfl, rfl, by omega, by omega⟩
  case round =>
    obtain ⟨pos, k, rfl, rfl, hc, hk, hps⟩ := hrel
    have HC : Hid (nameF k (runesAt s pos) = nameF 0 (runesAt s 0)) := hc
    clear hc
    by_cases hp : pos < s.size
    · have hnx : ∀ ty, (Instr.next (.pointer (some ⟨w.heap.size, 0, none⟩)) true ty).run Tryd.prog (w.iter s pos) = _ := fun ty => run_next_any w s pos ty hp
      have hwd := width_at s pos hp
      have HN : Hid (nameF k (runesAt s pos) = if k = 8 ∨ standB (Utf8.decode s pos).1 k = false then false else nameF (k + 1) (runesAt s (pos + (Utf8.decode s pos).2))) := by
        rw [runesAt_next s pos hp]; rfl
      generalize hr : Utf8.decode s pos = dd at *
      obtain ⟨r, wd⟩ := dd
      simp only at *
      clear hr
      by_cases h8 : k = 8
      · subst h8
        go_wp2
        go_ret
        refine ⟨ret_bool ?_, (Below.refl _ _).alloc (Nat.le_refl _) _⟩
        rw [← H0.out, ← HC.out, HN.out]; simp
      · have h8' : ((k : Int) == 8) = false := by simp; omega
        cases hst : standB r k
        all_goals
          go_wp2_with (go_at_call 183; refine (stand_any _ _ _).mono ?_; rintro e w' ⟨rfl, rfl⟩)
        · go_ret
          refine ⟨ret_bool ?_, (Below.refl _ _).alloc (Nat.le_refl _) _⟩
          rw [← H0.out, ← HC.out, HN.out]; simp [hst]
        · go_roundw
          case rel =>
            refine ⟨pos + wd, k + 1, rfl, by go_num, ?_, by omega, by omega⟩
            rw [← HC.out, HN.out, if_neg (by simp [hst, h8])]
          case measure =>
            simp
            omega
    · have hnx : ∀ ty, (Instr.next (.pointer (some ⟨w.heap.size, 0, none⟩)) true ty).run Tryd.prog (w.iter s pos) = _ := fun ty => run_next_end w s pos ty hp
      go_wp2
      go_ret
      refine ⟨ret_bool ?_, (Below.refl _ _).alloc (Nat.le_refl _) _⟩
      rw [← H0.out, ← HC.out, runesAt_end s pos hp]
      simp [nameF]

def wrongV : Option Nat → Value
  | some n => .tuple #[.int .i64 n, .bool true]
  | none => .tuple #[.int .i64 0, .bool false]

set_option maxRecDepth 1000000 in
set_option maxHeartbeats 1000000 in
theorem firstWrong_any (s : ByteArray) (w : World) (hs : s.size ≤ maxLen) :
    Calls Tryd.prog 139 #[.string s] w fun e w' => e = .returned (wrongV (wrongO s.data.toList)) ∧ Below w.heap.size w w' := by
  unfold maxLen at hs
  have H0 : Hid (wrongF 0 (runesAt s 0) = wrongO s.data.toList) := by simp [Hid, runesAt, wrongO]
  go_enter Tryd.func139, Tryd.ntmps139
  go_wp2
  go_loopw [4, 5, 6] (fun n _ _ w' => ∃ (pos k : Nat), w' = w.iter s pos ∧ n = .int .i64 k ∧ wrongF k (runesAt s pos) = wrongF 0 (runesAt s 0) ∧ k ≤ pos ∧ pos ≤ s.size) (fun _ _ _ w' => s.size - w'.iterPos w.heap.size)
  case atStart => exact ⟨0, 0, rfl, rfl, rfl, by omega, by omega⟩
  case round =>
    obtain ⟨pos, k, rfl, rfl, hc, hk, hps⟩ := hrel
    have HC : Hid (wrongF k (runesAt s pos) = wrongF 0 (runesAt s 0)) := hc
    clear hc
    by_cases hp : pos < s.size
    · have hnx : ∀ ty, (Instr.next (.pointer (some ⟨w.heap.size, 0, none⟩)) true ty).run Tryd.prog (w.iter s pos) = _ := fun ty => run_next_any w s pos ty hp
      have hwd := width_at s pos hp
      have HN : Hid (wrongF k (runesAt s pos) = if badB (Utf8.decode s pos) = true then some k else wrongF (k + 1) (runesAt s (pos + (Utf8.decode s pos).2))) := by
        rw [runesAt_next s pos hp]; rfl
      have HP : Hid ((Utf8.decode s pos).1 = 65533 → Lib.hasPrefix (s.extract pos s.size).data.toList [239, 191, 189] = !badB (Utf8.decode s pos)) := prefix_at s pos
      have HB : Hid ((Utf8.decode s pos).1 ≠ 65533 → badB (Utf8.decode s pos) = false) := fun h => by simp [badB, h]
      generalize hr : Utf8.decode s pos = dd at *
      obtain ⟨r, wd⟩ := dd
      simp only at *
      clear hr
      by_cases hr : r = 65533
      · have hp' := HP.out hr
        have hr' : ((r : Int) == 65533) = true := by simp; omega
        have HR : Hid (r = 65533) := hr
        clear HP HB hr
        cases hb : badB (r, wd)
        all_goals
          rw [hb] at hp'
          simp only [Bool.not_false, Bool.not_true] at hp'
          have HBD := (show Hid (badB (r, wd) = _) from hb)
          clear hb
          have cH := fun W => hasPrefix_any (s.extract pos s.size) ⟨#[239, 191, 189]⟩ W
          rw [show Lib.hasPrefix (s.extract pos s.size).data.toList (ByteArray.mk #[239, 191, 189]).data.toList = _ from hp'] at cH
          clear hp'
          go_wp2_with (go_at_call 160; refine (cH _).mono ?_; rintro e w' ⟨rfl, rfl⟩)
        · go_roundw
          case rel =>
            refine ⟨pos + wd, k + 1, rfl, by go_num, ?_, by omega, by omega⟩
            rw [← HC.out, HN.out, if_neg (by simp [HBD.out])]
          case measure =>
            simp
            omega
        · go_ret2
          refine ⟨?_, (Below.refl _ _).alloc (Nat.le_refl _) _⟩
          rw [← H0.out, ← HC.out, HN.out, if_pos HBD.out]
          rfl
      · have hr' : ((r : Int) == 65533) = false := by simp; omega
        have hb := HB.out hr
        clear HP HB
        go_wp2_with fail
        go_roundw
        case rel =>
          refine ⟨pos + wd, k + 1, rfl, by go_num, ?_, by omega, by omega⟩
          rw [← HC.out, HN.out, if_neg (by simp [hb])]
        case measure =>
          simp
          omega
    · have hnx : ∀ ty, (Instr.next (.pointer (some ⟨w.heap.size, 0, none⟩)) true ty).run Tryd.prog (w.iter s pos) = _ := fun ty => run_next_end w s pos ty hp
      go_wp2
      go_ret2
      refine ⟨?_, (Below.refl _ _).alloc (Nat.le_refl _) _⟩
      rw [← H0.out, ← HC.out, runesAt_end s pos hp]
      rfl

end Go.Proofs.YtfgkkhcoidegdaaDoor
