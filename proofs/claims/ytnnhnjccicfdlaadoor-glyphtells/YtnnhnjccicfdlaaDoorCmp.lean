/-
  glyph.Cmp, by a contract.
-/
import Derived.Test.YtnnhnjccicfdlaaDoorRefName
namespace Go.Proofs.YtnnhnjccicfdlaaDoor
open Go.RowKit

def cmpI (x y : Int) : Int := if x < y then -1 else if y < x then 1 else 0
/-- The order of two rows of runes. -/
def cmpF : List (Nat × Nat) → List (Nat × Nat) → Int
  | [], [] => 0
  | [], _ :: _ => -1
  | _ :: _, [] => 1
  | x :: xs, y :: ys => if x.1 < y.1 then -1 else if y.1 < x.1 then 1 else cmpF xs ys
def cmpS (a b : List UInt8) : Int := cmpF (runes a) (runes b)

theorem cmpI_ne (r r' wd wd' : Nat) (xs ys : List (Nat × Nat)) (h : ¬ r = r') : cmpI r r' = cmpF ((r, wd) :: xs) ((r', wd') :: ys) := by
  rcases (show r < r' ∨ r' < r by omega) with h | h
  · rw [cmpF, cmpI, if_pos (by omega), if_pos h]
  · rw [cmpF, cmpI, if_neg (by omega), if_pos (by omega), if_neg (by show ¬ r < r'; omega), if_pos h]

theorem nan_any (x : Int) (w : World) : Calls Tryd.prog 28 #[.int .i32 x] w fun e w' => e = .returned (.bool false) ∧ w' = w := by
  go_enter Tryd.func28, Tryd.ntmps28
  go_wp2
  go_ret
  exact ⟨rfl, rfl⟩
set_option maxHeartbeats 1000000 in
theorem compare_any (x y : Int) (w : World) : Calls Tryd.prog 21 #[.int .i32 x, .int .i32 y] w fun e w' => e = .returned (.int .i64 (cmpI x y)) ∧ w' = w := by
  rcases (show x < y ∨ y < x ∨ x = y by omega) with h | h | h
  · go_enter Tryd.func21, Tryd.ntmps21
    go_wp2_with (go_at_call 28; refine (nan_any _ _).mono ?_; rintro e w' ⟨rfl, rfl⟩)
    go_ret
    exact ⟨ret_int (by simp [cmpI, h]), rfl⟩
  · have h' : ¬ x < y := by omega
    go_enter Tryd.func21, Tryd.ntmps21
    go_wp2_with (go_at_call 28; refine (nan_any _ _).mono ?_; rintro e w' ⟨rfl, rfl⟩)
    go_ret
    exact ⟨ret_int (by rw [cmpI, if_neg (by omega), if_pos h]), rfl⟩
  · subst h
    go_enter Tryd.func21, Tryd.ntmps21
    go_wp2_with (go_at_call 28; refine (nan_any _ _).mono ?_; rintro e w' ⟨rfl, rfl⟩)
    go_ret
    exact ⟨ret_int (by simp [cmpI]), rfl⟩

theorem empty_of_size {b : ByteArray} (h : b.size = 0) : b = ⟨#[]⟩ := ByteArray.ext (Array.eq_empty_of_size_eq_zero h)
theorem isEmpty_of_size {b : ByteArray} (h : b.size ≠ 0) : b.toList.isEmpty = false := by
  rw [Lib.toList_data]
  cases h' : b.data.toList with
  | nil => exact absurd (by rw [Lib.size_eq, h']; rfl) h
  | cons _ _ => rfl
theorem runes_of (b : ByteArray) (h : b.size ≠ 0) : runes b.data.toList = Utf8.decode b 0 :: runes (b.extract (Utf8.decode b 0).2 b.size).data.toList := by
  have h1 := runesAt_next b 0 (by omega)
  rw [runesAt, List.drop_zero, Nat.zero_add, runesAt] at h1
  rw [h1, Lib.extract_data, List.take_of_length_le (by rw [List.length_drop, ← Lib.size_eq]; exact Nat.le_refl _)]

set_option maxRecDepth 1000000 in
set_option maxHeartbeats 4000000 in
theorem cmp_any (a b : ByteArray) (w : World) (hT : Lib.Utf8Tabs 0 1 w) :
    Calls Tryd.prog 13 #[.string a, .string b] w fun e w' => e = .returned (.int .i64 (cmpS a.data.toList b.data.toList)) ∧ Below w.heap.size w w' := by
  have H0 : Hid (cmpF (runesAt a 0) (runes b.data.toList) = cmpS a.data.toList b.data.toList) := by simp [Hid, runesAt, cmpS]
  have HT : Hid (Lib.Utf8Tabs 0 1 w) := hT
  clear hT
  generalize cmpS a.data.toList b.data.toList = ans at *
  go_enter Tryd.func13, Tryd.ntmps13
  go_wp2
  go_loopw [1, 6, 7, 8] (fun v _ _ _ wr => ∃ (pos : Nat) (c : ByteArray), wr.heap[w.heap.size]? = some (.stringIter a pos) ∧ v = .string c ∧ cmpF (runesAt a pos) (runes c.data.toList) = ans ∧ pos ≤ a.size ∧ Below w.heap.size w wr)
    (fun _ _ _ _ wr => a.size - wr.iterPos w.heap.size)
  case atStart => exact ⟨0, b, World.iter_heap w a 0, rfl, H0.out, by omega, (Below.refl _ _).alloc (Nat.le_refl _) _⟩
  case round =>
    obtain ⟨pos, c, hit, rfl, hc, hps, hbl⟩ := hrel
    have HC : Hid (cmpF (runesAt a pos) (runes c.data.toList) = ans) := hc
    clear hc H0
    have hsz : w.heap.size < wr.heap.size := (Array.getElem?_eq_some_iff.1 hit).1
    have HP : Hid (wr.iterPos w.heap.size = pos) := iterPos_of hit
    by_cases hp : pos < a.size
    · have hnx := fun ty => Lib.run_next_any_at (P := Tryd.prog) wr w.heap.size a pos ty hit hp
      have hwd := width_at a pos hp
      rw [runesAt_next a pos hp] at HC
      generalize hr : Utf8.decode a pos = dd at *
      obtain ⟨r, wd⟩ := dd
      simp only at hnx hwd HC
      clear hr
      obtain ⟨wi, hwi⟩ : ∃ wi, wi = wr.iterAt w.heap.size a (pos + wd) := ⟨_, rfl⟩
      rw [← hwi] at hnx
      have hit' : wi.heap[w.heap.size]? = some (.stringIter a (pos + wd)) := by rw [hwi]; exact Lib.iterAt_heap _ _ _ _ _ hit
      have hbl' : Below w.heap.size w wi := by rw [hwi]; exact Lib.below_iterAt hbl (Nat.le_refl _) _ _
      have hsz' : w.heap.size < wi.heap.size := (Array.getElem?_eq_some_iff.1 hit').1
      clear hwi hit hbl
      by_cases hce : c.size = 0
      · obtain rfl := empty_of_size hce
        clear hce
        go_wp2
        go_ret
        refine ⟨ret_int ?_, hbl'⟩
        rw [← HC.out]; rfl
      · have hne := isEmpty_of_size hce
        rw [runes_of c hce] at HC
        have hD := fun W h => decode_any c W h hce
        have hwc := width_at c 0 (by omega)
        generalize hr : Utf8.decode c 0 = dd at *
        obtain ⟨r', wd'⟩ := dd
        simp only at hwc HC hD
        clear hr
        go_wp2_with fail
        refine (hD _ (tabs_below HT.out hbl')).mono ?_
        rintro e w2 ⟨rfl, hb2⟩
        have hit2 : w2.heap[w.heap.size]? = some (.stringIter a (pos + wd)) := (hb2.block _ hsz').trans hit'
        have hbl2 : Below w.heap.size w w2 := hbl'.trans (hb2.mono (by omega))
        clear hb2 hit' hbl' hD
        by_cases hrr : r = r'
        · subst hrr
          have HC2 : Hid (cmpF (runesAt a (pos + wd)) (runes (c.extract wd' c.size).data.toList) = ans) := by
            rw [← HC.out]; simp [cmpF, Hid]
          clear HC
          go_wp2
          go_roundw
          case rel => exact ⟨pos + wd, _, hit2, rfl, HC2.out, by omega, hbl2⟩
          case measure => rw [HP.out, iterPos_of hit2]; omega
        · have hrr' : ((r : Int) != (r' : Int)) = true := by simp; omega
          have HC2 : Hid (cmpI r r' = ans) := by
            rw [← HC.out]
            exact cmpI_ne r r' wd wd' _ _ hrr
          clear HC
          go_wp2_with (go_at_call 21; refine (compare_any _ _ _).mono ?_; rintro e w' ⟨rfl, rfl⟩)
          go_ret
          exact ⟨ret_int HC2.out, hbl2⟩
    · have hnx := fun ty => Lib.run_next_end_at (P := Tryd.prog) wr w.heap.size a pos ty hit hp
      rw [runesAt_end a pos hp] at HC
      by_cases hce : c.size = 0
      · obtain rfl := empty_of_size hce
        clear hce
        go_wp2
        go_ret
        refine ⟨ret_int ?_, hbl⟩
        rw [← HC.out]; rfl
      · have hne := isEmpty_of_size hce
        rw [runes_of c hce] at HC
        go_wp2
        go_ret
        refine ⟨ret_int ?_, hbl⟩
        rw [← HC.out]; rfl

end Go.Proofs.YtnnhnjccicfdlaaDoor
