/-
  glyph.split and glyph.Words, each by a contract.
-/
import Derived.Test.YtbifcicipkhohaaDoorClone
import Derived.WalkSmall
namespace Go.Proofs.YtbifcicipkhohaaDoor
open Go.RowKit

/-- The words from a place on: each word and how many runes stand ahead of it. -/
def splitF (s : ByteArray) : List (Nat × Nat) → Nat → Nat → Bool → Nat → Nat → List (ByteArray × Nat)
  | [], _, _, ins, st, a => if ins = true then [(s.extract st s.size, a)] else []
  | d :: rs, pos, k, ins, st, a =>
    if blankB d.1 = true then (if ins = true then [(s.extract st pos, a)] else []) ++ splitF s rs (pos + d.2) (k + 1) false st a
    else if ins = true then splitF s rs (pos + d.2) (k + 1) true st a
    else splitF s rs (pos + d.2) (k + 1) true pos k
def wordsL (s : ByteArray) : List (ByteArray × Nat) := splitF s (runesAt s 0) 0 0 false 0 0

def wordCells (l : List (ByteArray × Nat)) : List Value := l.flatMap fun x => [.string x.1, .int .i64 x.2]
theorem wordCells_length (l : List (ByteArray × Nat)) : (wordCells l).length = l.length * 2 := by
  induction l with
  | nil => rfl
  | cons x l ih => simp only [wordCells, List.flatMap_cons, List.length_append, List.length_cons, List.length_nil] at *; omega
theorem wordCells_snoc (l : List (ByteArray × Nat)) (x : ByteArray × Nat) : wordCells (l ++ [x]) = wordCells l ++ [.string x.1, .int .i64 x.2] := by
  simp [wordCells]

theorem splitF_next (s : ByteArray) (pos k : Nat) (b : Bool) (st a : Nat) (h : pos < s.size) : splitF s (runesAt s pos) pos k b st a =
    if blankB (Utf8.decode s pos).1 = true then (if b = true then [(s.extract st pos, a)] else []) ++ splitF s (runesAt s (pos + (Utf8.decode s pos).2)) (pos + (Utf8.decode s pos).2) (k + 1) false st a
    else if b = true then splitF s (runesAt s (pos + (Utf8.decode s pos).2)) (pos + (Utf8.decode s pos).2) (k + 1) true st a
    else splitF s (runesAt s (pos + (Utf8.decode s pos).2)) (pos + (Utf8.decode s pos).2) (k + 1) true pos k := by
  rw [runesAt_next s pos h]; rfl

theorem splitF_length (s : ByteArray) : ∀ (rs : List (Nat × Nat)) (pos k : Nat) (b : Bool) (st a : Nat), (splitF s rs pos k b st a).length ≤ rs.length + (if b = true then 1 else 0)
  | [], pos, k, b, st, a => by cases b <;> simp [splitF]
  | d :: rs, pos, k, b, st, a => by
    have h1 := splitF_length s rs (pos + d.2) (k + 1) false st a
    have h2 := splitF_length s rs (pos + d.2) (k + 1) true st a
    have h3 := splitF_length s rs (pos + d.2) (k + 1) true pos k
    simp only [Bool.false_eq_true, if_false, if_true] at h1 h2 h3
    rw [splitF, List.length_cons]
    cases b
    · simp only [Bool.false_eq_true, if_false, List.nil_append]
      split <;> omega
    · simp only [if_true]
      split
      · simp only [List.length_append, List.length_cons, List.length_nil]; omega
      · omega

theorem infoW : (Tryd.prog.info? 104).map (fun i => (i.zero, i.size, i.bytes)) = some (some (.agg #[.string ⟨#[]⟩, .int .i64 0]), 2, 24) := by kernel_rfl

theorem grown_of_below {w w' : World} (h : Below w.heap.size w w') : w.grownBy w' none := ⟨h.os, h.tape, h.output, h.size, fun k hk _ => h.block k hk⟩
theorem owns_below {w w' : World} {base : Nat} {e : TypeId} {size : Nat} {v : Value} {n : Nat} {xs : List Value} (h : w.ownsRow base e size v n xs) (hb : Below w.heap.size w w') : w'.ownsRow base e size v n xs :=
  h.kept (grown_of_below hb) (by cases v.ownBlock <;> simp)

theorem owns_mono {w : World} {base base' : Nat} {e : TypeId} {size : Nat} {v : Value} {n : Nat} {xs : List Value} (h : w.ownsRow base e size v n xs) (hb : base' ≤ base) : w.ownsRow base' e size v n xs := by
  refine ⟨h.1, ?_⟩
  rcases h.2 with h2 | ⟨g, cap, cur, a, b, c⟩
  · exact .inl h2
  · exact .inr ⟨g, cap, cur, a, by omega, c⟩
theorem two_one (a : ByteArray) (n : Int) : ∀ u ∈ [Value.string a, Value.int .i64 n], u.oneCell' = true := by
  intro u hu
  simp at hu
  rcases hu with rfl | rfl <;> rfl
theorem iter_grown {w w2 w3 : World} {o : Obj} {e : TypeId} {size : Nat} {v : Value} {n : Nat} {xs : List Value} {it : Obj} (hown : w2.ownsRow (w.heap.size + 1) e size v n xs)
    (hit : w2.heap[w.heap.size]? = some it) (hbl : Below w.heap.size w w2) (hg : (w2.alloc o).grownBy w3 v.ownBlock) : w3.heap[w.heap.size]? = some it ∧ Below w.heap.size w w3 := by
  have hsz : w.heap.size < w2.heap.size := (Array.getElem?_eq_some_iff.1 hit).1
  have hne : ∀ k, v.ownBlock = some k → w.heap.size + 1 ≤ k := fun k hk => (hown.lt k hk).1
  refine ⟨?_, (hbl.alloc (by omega) o).grown hg (by simp; omega) (fun k hk => by have := hne k hk; omega)⟩
  rw [hg.block _ (by simp; omega) (fun e => by have := hne _ e.symm; omega), Below.heap_alloc _ _ _ hsz]
  exact hit

set_option maxRecDepth 1000000 in
set_option maxHeartbeats 4000000 in
theorem split_any (s : ByteArray) (w : World) (hs : s.size ≤ 4294967296) :
    Calls Tryd.prog 59 #[.string s] w fun e w' => ∃ v, e = .returned v ∧ w'.ownsRow w.heap.size 104 2 v (wordsL s).length (wordCells (wordsL s)) ∧ Below w.heap.size w w' := by
  obtain ⟨i0, hi, hz0, hz1, hz2⟩ := info_parts infoW
  go_enter Tryd.func59, Tryd.ntmps59
  go_wp2
  go_loopw [3, 4, 5, 6, 7, 8, 9] (fun v ins st a n _ _ wr => ∃ (pos k st0 a0 : Nat) (b : Bool) (ws : List (ByteArray × Nat)),
      wr.heap[w.heap.size]? = some (.stringIter s pos) ∧ wr.ownsRow (w.heap.size + 1) 104 2 v ws.length (wordCells ws) ∧ ins = .bool b ∧ st = .int .i64 st0 ∧ a = .int .i64 a0 ∧ n = .int .i64 k ∧
      ws ++ splitF s (runesAt s pos) pos k b st0 a0 = wordsL s ∧ st0 ≤ pos ∧ k ≤ pos ∧ ws.length ≤ pos ∧ pos ≤ s.size ∧ Below w.heap.size w wr)
    (fun _ _ _ _ _ _ _ wr => s.size - wr.iterPos w.heap.size)
  case atStart => exact ⟨0, 0, 0, 0, false, [], World.iter_heap w s 0, World.ownsRow_nil _ _ _ _, rfl, rfl, rfl, rfl, rfl, by omega, by omega, by simp, by omega, (Below.refl _ _).alloc (Nat.le_refl _) _⟩
  case round =>
    obtain ⟨pos, k, st0, a0, b, ws, hit, hown, rfl, rfl, rfl, rfl, hc, hst, hk, hwl, hps, hbl⟩ := hrel
    have HC : Hid (ws ++ splitF s (runesAt s pos) pos k b st0 a0 = wordsL s) := hc
    clear hc
    have hsz : w.heap.size < wr.heap.size := (Array.getElem?_eq_some_iff.1 hit).1
    have HP : Hid (wr.iterPos w.heap.size = pos) := iterPos_of hit
    by_cases hp : pos < s.size
    · have hnx := fun ty => Lib.run_next_any_at (P := Tryd.prog) wr w.heap.size s pos ty hit hp
      have hwd := width_at s pos hp
      have hn := splitF_next s pos k b st0 a0 hp
      have HN : Hid (splitF s (runesAt s pos) pos k b st0 a0 = _) := hn
      clear hn
      generalize hr : Utf8.decode s pos = dd at *
      obtain ⟨r, wd⟩ := dd
      simp only at hnx hwd
      clear hr
      obtain ⟨wi, hwi⟩ : ∃ wi, wi = wr.iterAt w.heap.size s (pos + wd) := ⟨_, rfl⟩
      rw [← hwi] at hnx
      have hit' : wi.heap[w.heap.size]? = some (.stringIter s (pos + wd)) := by rw [hwi]; exact Lib.iterAt_heap _ _ _ _ _ hit
      have hown' := ownsRow_iterAt hown (k := w.heap.size) (by omega) s (pos + wd)
      rw [← hwi] at hown'
      have hbl' : Below w.heap.size w wi := by rw [hwi]; exact Lib.below_iterAt hbl (Nat.le_refl _) _ _
      have hsz' : w.heap.size < wi.heap.size := (Array.getElem?_eq_some_iff.1 hit').1
      clear hwi hown hit hbl
      cases hbk : blankB r <;> cases b
      · go_wp2_with (go_at_call 77; refine (blank_any _ _).mono ?_; rintro e w' ⟨rfl, rfl⟩)
        go_roundw
        case rel => exact ⟨pos + wd, k + 1, pos, k, true, ws, hit', hown', rfl, rfl, rfl, by go_num, by rw [← HC.out, HN.out]; simp [hbk], by omega, by omega, by omega, by omega, hbl'⟩
        case measure => rw [HP.out, iterPos_of hit']; omega
      · go_wp2_with (go_at_call 77; refine (blank_any _ _).mono ?_; rintro e w' ⟨rfl, rfl⟩)
        go_roundw
        case rel => exact ⟨pos + wd, k + 1, st0, a0, true, ws, hit', hown', rfl, rfl, rfl, by go_num, by rw [← HC.out, HN.out]; simp [hbk], by omega, by omega, by omega, by omega, hbl'⟩
        case measure => rw [HP.out, iterPos_of hit']; omega
      · go_wp2_with (go_at_call 77; refine (blank_any _ _).mono ?_; rintro e w' ⟨rfl, rfl⟩)
        go_roundw
        case rel => exact ⟨pos + wd, k + 1, st0, a0, false, ws, hit', hown', rfl, rfl, rfl, by go_num, by rw [← HC.out, HN.out]; simp [hbk], by omega, by omega, by omega, by omega, hbl'⟩
        case measure => rw [HP.out, iterPos_of hit']; omega
      · go_wp2_with (go_at_call 77; refine (blank_any _ _).mono ?_; rintro e w' ⟨rfl, rfl⟩)
        refine (newWord_any _ _ _ (by simp; omega)).mono ?_
        rintro e w2 ⟨rfl, hb2⟩
        have hown2 := owns_below hown' hb2
        have hit2 : w2.heap[w.heap.size]? = some (.stringIter s (pos + wd)) := (hb2.block _ hsz').trans hit'
        have hbl2 : Below w.heap.size w w2 := hbl'.trans (hb2.mono (by omega))
        have hsz2 : w.heap.size < w2.heap.size := (Array.getElem?_eq_some_iff.1 hit2).1
        clear hb2 hbl' hit' hown'
        go_wp2_with (at_builtin; refine wpList_append_own _ rfl _ _ 83 rfl (w.heap.size + 1) 104 i0 (.agg #[.string ⟨#[]⟩, .int .i64 0]) 2 24 Tryd.underlying83 hi hz0 hz1 hz2 rfl (by decide) _ _ _ rfl (hown2.alloc _) ⟨w2.heap.size, 0, none⟩ 1 1 [.string (s.extract st0 pos), .int .i64 a0] rfl rfl (cell_two_new _ _ _ _) (two_one _ _) (by unfold maxLen; omega) (by omega) (by simp; omega) ?_)
        intro v' w3 hown3 hgrow _
        obtain ⟨hit3, hbl3⟩ := iter_grown hown2 hit2 hbl2 hgrow
        clear hown2 hgrow hbl2 hit2
        go_wp2
        go_roundw
        case rel => exact ⟨pos + wd, k + 1, st0, a0, false, ws ++ [(s.extract st0 pos, a0)], hit3, by rw [wordCells_snoc, List.length_append]; exact hown3, rfl, rfl, rfl, by go_num, by rw [← HC.out, HN.out]; simp [hbk], by omega, by omega, by rw [List.length_append]; simp; omega, by omega, hbl3⟩
        case measure => rw [HP.out, iterPos_of hit3]; omega
    · have hnx := fun ty => Lib.run_next_end_at (P := Tryd.prog) wr w.heap.size s pos ty hit hp
      rw [runesAt_end s pos hp] at HC
      cases b
      · go_wp2
        go_ret
        refine ⟨_, rfl, ?_, hbl⟩
        have h1 := HC.out
        simp only [splitF, Bool.false_eq_true, if_false, List.append_nil] at h1
        rw [← h1]
        exact owns_mono hown (by omega)
      · go_wp2_with fail
        refine (newWord_any _ _ _ (by simp; omega)).mono ?_
        rintro e w2 ⟨rfl, hb2⟩
        have hown2 := owns_below hown hb2
        have hit2 : w2.heap[w.heap.size]? = some (.stringIter s pos) := (hb2.block _ hsz).trans hit
        have hbl2 : Below w.heap.size w w2 := hbl.trans (hb2.mono (by omega))
        have hsz2 : w.heap.size < w2.heap.size := (Array.getElem?_eq_some_iff.1 hit2).1
        clear hb2 hbl hit hown
        go_wp2_with (at_builtin; refine wpList_append_own _ rfl _ _ 83 rfl (w.heap.size + 1) 104 i0 (.agg #[.string ⟨#[]⟩, .int .i64 0]) 2 24 Tryd.underlying83 hi hz0 hz1 hz2 rfl (by decide) _ _ _ rfl (hown2.alloc _) ⟨w2.heap.size, 0, none⟩ 1 1 [.string (s.extract st0 s.size), .int .i64 a0] rfl rfl (cell_two_new _ _ _ _) (two_one _ _) (by unfold maxLen; omega) (by omega) (by simp; omega) ?_)
        intro v' w3 hown3 hgrow _
        obtain ⟨hit3, hbl3⟩ := iter_grown hown2 hit2 hbl2 hgrow
        clear hown2 hgrow hbl2 hit2
        go_wp2
        go_ret
        refine ⟨_, rfl, ?_, hbl3⟩
        have h1 := HC.out
        simp only [splitF, if_true] at h1
        rw [← h1, wordCells_snoc, List.length_append]
        exact owns_mono hown3 (by omega)

set_option maxHeartbeats 1000000 in
theorem words_ok (s : ByteArray) (w : World) (hs : s.size ≤ 4294967296) (h : wrongO s.data.toList = none) :
    Calls Tryd.prog 46 #[.string s] w fun e w' => ∃ v, e = .returned (.tuple #[v, .int .i64 (-1)]) ∧ w'.ownsRow w.heap.size 104 2 v (wordsL s).length (wordCells (wordsL s)) ∧ Below w.heap.size w w' := by
  go_enter Tryd.func46, Tryd.ntmps46
  go_wp2_with fail
  refine (firstWrong_any s _ (by unfold maxLen; omega)).mono ?_
  rintro e w1 ⟨rfl, hb1⟩
  rw [h]
  simp only [wrongV]
  go_wp2_with fail
  refine (split_any s _ hs).mono ?_
  rintro e w2 ⟨v, rfl, hown, hb2⟩
  go_wp2
  go_ret2
  exact ⟨v, rfl, owns_mono hown hb1.size, hb1.trans (hb2.mono hb1.size)⟩

set_option maxHeartbeats 1000000 in
theorem words_bad (s : ByteArray) (w : World) (hs : s.size ≤ 4294967296) (n : Nat) (h : wrongO s.data.toList = some n) :
    Calls Tryd.prog 46 #[.string s] w fun e w' => e = .returned (.tuple #[.slice none 0 0, .int .i64 n]) ∧ Below w.heap.size w w' := by
  go_enter Tryd.func46, Tryd.ntmps46
  go_wp2_with fail
  refine (firstWrong_any s _ (by unfold maxLen; omega)).mono ?_
  rintro e w1 ⟨rfl, hb1⟩
  rw [h]
  simp only [wrongV]
  go_wp2_with fail
  go_ret2
  exact ⟨rfl, hb1⟩
end Go.Proofs.YtbifcicipkhohaaDoor
