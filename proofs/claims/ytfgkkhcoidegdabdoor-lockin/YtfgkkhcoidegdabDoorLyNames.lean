/-
  The reference's names: are they such, none twice? by a contract.
-/
import Derived.Test.YtfgkkhcoidegdabDoorPlRefCap
import Derived.Test.YtfgkkhcoidegdabDoorLyIn
import Derived.Deep.QuietTactic
import Derived.Deep.CutBlock
namespace Go.Proofs.YtfgkkhcoidegdabDoor
open Go.RowKit

def namesB (l : List ByteArray) : Bool := decide (l.Nodup ∧ ∀ x ∈ l, capB x = true)
theorem take_snoc {α : Type} {l : List α} {k : Nat} {x : α} (h : l[k]? = some x) : l.take (k + 1) = l.take k ++ [x] := by
  rw [List.take_add_one, h]
  rfl
theorem names_more {l : List ByteArray} {k : Nat} {x : ByteArray} (h : l[k]? = some x) (h1 : (l.take k).Nodup ∧ ∀ y ∈ l.take k, capB y = true) (h2 : capB x = true) (h3 : x ∉ l.take k) : (l.take (k + 1)).Nodup ∧ ∀ y ∈ l.take (k + 1), capB y = true := by
  rw [take_snoc h]
  refine ⟨List.nodup_append.2 ⟨h1.1, by simp, fun a ha b hb => ?_⟩, fun y hy => ?_⟩
  · simp at hb
    subst hb
    intro e
    subst e
    exact h3 ha
  · rcases List.mem_append.1 hy with hy | hy
    · exact h1.2 y hy
    · simp at hy
      rw [hy]
      exact h2
theorem not_nodup {l : List ByteArray} {j k : Nat} {x : ByteArray} (hj : l[j]? = some x) (hk : l[k]? = some x) (h : j < k) : ¬ l.Nodup := by
  intro hn
  obtain ⟨h1, e1⟩ := List.getElem?_eq_some_iff.1 hj
  obtain ⟨h2, e2⟩ := List.getElem?_eq_some_iff.1 hk
  have := (List.getElem_inj (h₀ := h1) (h₁ := h2) hn).1 (e1.trans e2.symm)
  omega

set_option maxRecDepth 1000000 in
set_option maxHeartbeats 4000000 in
theorem names_any (v : Value) (l : List ByteArray) (w : World) (h : rowAt w v 1 sC l) (hl : l.length ≤ 4294967296) (hs : ∀ x ∈ l, x.size ≤ 4294967296) (hT : Lib.Utf8Tabs 0 1 w) :
    Calls Tryd.prog 22 #[v] w fun e w' => e = .returned (.bool (namesB l)) ∧ Below w.heap.size w w' := by
  have o0 := Ok.start hT
  clear hT
  obtain ⟨oa, cap, rfl, h2⟩ := h
  have H2 : Hid (∀ j y, l[j]? = some y → ∃ g off, oa = some ⟨g, off, none⟩ ∧ ∀ i u, (sC y)[i]? = some u → w.cell? ⟨g, off + j * 1 + i, none⟩ = some u) := h2
  have HS : Hid (∀ x ∈ l, x.size ≤ 4294967296) := hs
  clear h2 hs
  generalize hn : l.length = n at *
  have HN : Hid (l.length = n) := hn
  clear hn
  go_enter Tryd.func22, Tryd.ntmps22
  go_wp2
  go_loopg [3] n (fun gk i wr => ∃ k : Nat, gk = n - k ∧ k ≤ n ∧ i = .int .i64 k ∧ ((l.take k).Nodup ∧ ∀ y ∈ l.take k, capB y = true) ∧ Ok w wr)
  case atStart => exact ⟨0, rfl, by omega, rfl, by simp, o0⟩
  case round =>
    clear o0
    obtain ⟨k, rfl, hk, rfl, hc, o1⟩ := hrel
    have HC : Hid ((l.take k).Nodup ∧ ∀ y ∈ l.take k, capB y = true) := hc
    clear hc
    by_cases hlt : k < n
    · obtain ⟨y, hy⟩ : ∃ y, l[k]? = some y := ⟨l[k]'(by rw [HN.out]; exact hlt), List.getElem?_eq_getElem _⟩
      obtain ⟨g, off, rfl, hcell⟩ := H2.out k y hy
      have c0 := hcell 0 _ rfl
      simp only [Nat.mul_one, Nat.add_zero] at c0
      have c1 := (o1.1.cell (World.block_lt_of_cell? _ _ c0)).trans c0
      have hki : (k : Int) < (n : Int) := by omega
      have N := refCap_any y wr (HS.out y (List.mem_of_getElem? hy)) o1.2
      have HY : Hid (l[k]? = some y) := hy
      clear hcell c0 hy
      cases hcap : capB y
      · rw [hcap] at N
        have HF : Hid (namesB l = false) := by
          refine decide_eq_false fun hh => ?_
          have := hh.2 y (List.mem_of_getElem? HY.out)
          rw [hcap] at this
          exact absurd this (by simp)
        go_wp2_with (go_at_call 39; refine N.mono ?_; rintro e w1 ⟨rfl, hb1⟩)
        go_ret
        exact ⟨ret_bool HF.out.symm, (o1.step hb1).1⟩
      · rw [hcap] at N
        go_wp2_with (go_at_call 39; refine N.mono ?_; rintro e w1 ⟨rfl, hb1⟩)
        have o2 := o1.step hb1
        have c2 := (hb1.cell (World.block_lt_of_cell? _ _ c1)).trans c1
        clear N
        go_loopg [4] k (fun gk i wr' => ∃ j m : Nat, gk = k - j ∧ j ≤ k ∧ i = .int .i64 j ∧ y ∉ l.take j ∧ wr' = w1.drewN m)
        case atStart => exact ⟨0, 0, rfl, by omega, rfl, by simp, rfl⟩
        case round =>
          obtain ⟨j, m, rfl, hj, rfl, hd, rfl⟩ := hrel
          have HD : Hid (y ∉ l.take j) := hd
          clear hd
          by_cases hlj : j < k
          · obtain ⟨x, hx⟩ : ∃ x, l[j]? = some x := ⟨l[j]'(by rw [HN.out]; omega), List.getElem?_eq_getElem _⟩
            obtain ⟨g', off', hg, hcell⟩ := H2.out j x hx
            injection hg with hg
            injection hg with hg ho _
            subst hg ho
            have d0 := hcell 0 _ rfl
            simp only [Nat.mul_one, Nat.add_zero] at d0
            have d2 := ((o2.1).cell (World.block_lt_of_cell? _ _ d0)).trans d0
            have hji : (j : Int) < (k : Int) := by omega
            have hjn : j < n := by omega
            have HX : Hid (l[j]? = some x) := hx
            clear hcell d0 hx
            by_cases hxy : x = y
            · have HF : Hid (namesB l = false) := decide_eq_false fun hh => not_nodup HX.out (by rw [HY.out, hxy]) hlj hh.1
              have hb : (x.toList == y.toList) = true := by rw [toList_eq, decide_eq_true hxy]
              clear hxy
              go_wp2_with fail
              go_quiet (fail)
              go_wp2
              go_ret
              exact ⟨ret_bool HF.out.symm, _root_.Go.below_drewN (_root_.Go.below_drewN o2.1 _) _⟩
            · have hb : (x.toList == y.toList) = false := by rw [toList_eq, decide_eq_false hxy]
              have HXY : Hid (¬ x = y) := hxy
              clear hxy
              go_wp2_with fail
              go_quiet (fail)
              go_wp2
              go_roundg (k - (j + 1))
              case rel => exact ⟨j + 1, _, rfl, by omega, by go_num, by rw [take_snoc HX.out]; intro hm; rcases List.mem_append.1 hm with hm | hm; exact HD.out hm; simp at hm; exact HXY.out hm.symm, rfl⟩
              case measure => omega
          · have hjk : j = k := by omega
            subst hjk
            have o3 := o2.drewN m
            clear o1 o2 hb1 c1 c2 hlj
            go_wp2
            go_roundg (n - (j + 1))
            case rel => exact ⟨j + 1, rfl, by omega, by go_num, names_more HY.out HC.out hcap HD.out, o3⟩
            case measure => omega
    · have HF : Hid (namesB l = true) := by
        have := HC.out
        rw [List.take_of_length_le (by rw [HN.out]; omega)] at this
        exact decide_eq_true this
      go_wp2
      go_ret
      exact ⟨ret_bool HF.out.symm, o1.1⟩
end Go.Proofs.YtfgkkhcoidegdabDoor
