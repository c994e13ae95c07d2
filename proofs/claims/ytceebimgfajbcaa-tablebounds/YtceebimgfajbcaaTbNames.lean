/-
  Package table: are names such, none twice? by contracts.
-/
import Derived.Test.YtceebimgfajbcaaTbLeaf
import Derived.Test.YtceebimgfajbcaaLyIs
namespace Go.Proofs.Ytceebimgfajbcaa
open Go.RowKit

def memB (l : List ByteArray) (x : ByteArray) : Bool := l.any fun y => decide (x = y)
theorem memB_iff (l : List ByteArray) (x : ByteArray) : memB l x = true ↔ x ∈ l := by
  rw [memB, List.any_eq_true]
  constructor
  · rintro ⟨y, hy, e⟩
    rw [of_decide_eq_true e]
    exact hy
  · intro h
    exact ⟨x, h, decide_eq_true rfl⟩
theorem idxF_any (x : ByteArray) : ∀ (l : List ByteArray) (k : Nat), decide (idxF x l k ≠ -1) = memB l x
  | [], _ => by simp [idxF, memB]
  | y :: l, k => by
    rw [idxF, memB, List.any_cons]
    by_cases h : x = y
    · rw [if_pos h, decide_eq_true h, Bool.true_or]
      exact decide_eq_true (by omega)
    · rw [if_neg h, decide_eq_false h, Bool.false_or, idxF_any x l (k + 1), memB]
theorem rowS_take {w : World} {o : Option Addr} {n c : Nat} {l : List ByteArray} (h : rowAt w (.slice o n c) 1 sC l) (k : Nat) (hk : k ≤ l.length) (c' : Nat) : rowAt w (.slice o k c') 1 sC (l.take k) := by
  obtain ⟨oa, cap, e, h2⟩ := h
  injection e with e1 e2 e3
  subst e1
  refine ⟨o, c', by rw [List.length_take, Nat.min_eq_left hk], fun j x hj => ?_⟩
  rw [List.getElem?_take] at hj
  split at hj
  · exact h2 j x hj
  · exact absurd hj (by simp)

set_option maxRecDepth 1000000 in
set_option maxHeartbeats 4000000 in
theorem areNames_any (v : Value) (l : List ByteArray) (w : World) (h : rowAt w v 1 sC l) (hcap : capOk v) (hl : l.length ≤ 4294967296) :
    Calls Try.prog 13 #[v] w fun e w' => e = .returned (.bool (namesB l)) ∧ Below w.heap.size w w' := by
  have h' := h
  obtain ⟨oa, cap, rfl, h2⟩ := h
  have hcn := hcap _ _ _ rfl
  have H2 : Hid (∀ j y, l[j]? = some y → ∃ g off, oa = some ⟨g, off, none⟩ ∧ ∀ i u, (sC y)[i]? = some u → w.cell? ⟨g, off + j * 1 + i, none⟩ = some u) := h2
  have HR : Hid (rowAt w (.slice oa l.length cap) 1 sC l) := h'
  clear h2 h' hcap
  generalize hn : l.length = n at *
  have HN : Hid (l.length = n) := hn
  clear hn
  go_enter Try.func13, Try.ntmps13
  go_wp2
  go_loopg [3, 4, 7] n (fun gk a b i wr => ∃ k : Nat, gk = n - k ∧ k ≤ n ∧ i = .int .i64 k ∧ ((l.take k).Nodup ∧ ∀ y ∈ l.take k, capB y = true) ∧ Below w.heap.size w wr)
  case atStart => exact ⟨0, rfl, by omega, rfl, by simp, Below.refl _ _⟩
  case round =>
    obtain ⟨k, rfl, hk, rfl, hc, o1⟩ := hrel
    have HC : Hid ((l.take k).Nodup ∧ ∀ y ∈ l.take k, capB y = true) := hc
    clear hc
    by_cases hlt : k < n
    · obtain ⟨y, hy⟩ : ∃ y, l[k]? = some y := ⟨l[k]'(by rw [HN.out]; exact hlt), List.getElem?_eq_getElem _⟩
      obtain ⟨g, off, rfl, hcell⟩ := H2.out k y hy
      have c0 := hcell 0 _ rfl
      simp only [Nat.mul_one, Nat.add_zero] at c0
      have c1 := (o1.cell (World.block_lt_of_cell? _ _ c0)).trans c0
      have hki : (k : Int) < (n : Int) := by omega
      have hkc : k ≤ cap := by omega
      have N := mayName_any y wr
      have HY : Hid (l[k]? = some y) := hy
      clear hcell c0 hy
      cases hcap : capB y
      · rw [hcap] at N
        have HF : Hid (namesB l = false) := by
          refine decide_eq_false fun hh => ?_
          have := hh.2 y (List.mem_of_getElem? HY.out)
          rw [hcap] at this
          exact absurd this (by simp)
        go_wp2_with (go_at_call 23; refine N.mono ?_; rintro e w1 ⟨rfl, hb1⟩)
        go_ret
        exact ⟨ret_bool HF.out.symm, o1.trans (hb1.mono o1.size)⟩
      · rw [hcap] at N
        have HCP : Hid (capB y = true) := hcap
        clear hcap
        have C : Hid (∀ W, Below wr.heap.size wr W → Calls Try.prog 24 #[.slice (some ⟨g, off, none⟩) k cap, .string y] W fun e w' => e = .returned (.bool (memB (l.take k) y)) ∧ w' = W) := fun W hW => by
          have := contains_any (.slice (some ⟨g, off, none⟩) k cap) (l.take k) y W (rowS_take (HR.out.below (o1.trans (hW.mono o1.size))) k (by rw [HN.out]; omega) cap) (by rw [List.length_take]; omega)
          rw [show decide (idx (l.take k) y ≠ -1) = memB (l.take k) y from idxF_any y (l.take k) 0] at this
          exact this
        by_cases hin : y ∈ l.take k
        · have HF : Hid (namesB l = false) := by
            refine decide_eq_false fun hh => ?_
            obtain ⟨j, hj⟩ := List.getElem?_of_mem hin
            rw [List.getElem?_take] at hj
            split at hj
            · exact not_nodup hj HY.out (by assumption) hh.1
            · exact absurd hj (by simp)
          rw [(memB_iff _ _).2 hin] at C
          clear hin
          go_wp2_with (first | (go_at_call 23; refine N.mono ?_; rintro e w1 ⟨rfl, hb1⟩) | (go_at_call 24; refine (C.out _ hb1).mono ?_; rintro e w2 ⟨rfl, rfl⟩))
          go_ret
          exact ⟨ret_bool HF.out.symm, o1.trans (hb1.mono o1.size)⟩
        · rw [show memB (l.take k) y = false from by cases hh : memB (l.take k) y; rfl; exact absurd ((memB_iff _ _).1 hh) hin] at C
          have HIN : Hid (¬ y ∈ l.take k) := hin
          clear hin
          go_wp2_with (first | (go_at_call 23; refine N.mono ?_; rintro e w1 ⟨rfl, hb1⟩) | (go_at_call 24; refine (C.out _ hb1).mono ?_; rintro e w2 ⟨rfl, rfl⟩))
          have o2 := o1.trans (hb1.mono o1.size)
          go_roundg (n - (k + 1))
          case rel => exact ⟨k + 1, rfl, by omega, by go_num, names_more HY.out HC.out HCP.out HIN.out, o2⟩
          case measure => omega
    · have HF : Hid (namesB l = true) := by
        have := HC.out
        rw [List.take_of_length_le (by rw [HN.out]; omega)] at this
        exact decide_eq_true this
      go_wp2
      go_ret
      exact ⟨ret_bool HF.out.symm, o1⟩
end Go.Proofs.Ytceebimgfajbcaa
