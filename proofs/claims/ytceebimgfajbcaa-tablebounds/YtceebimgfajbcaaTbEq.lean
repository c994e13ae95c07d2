/-
  Package table: needs of just these points, by a contract.
-/
import Derived.Test.YtceebimgfajbcaaTbPts
namespace Go.Proofs.Ytceebimgfajbcaa
open Go.RowKit

theorem hasAll1_any (a b : Int) (c : Bool) (w : World) :
    Calls Try.prog 39 #[.agg #[.int .i64 a, .bool c], .int .i64 b] w fun e w' => e = .returned (.bool (decide (a = b))) ∧ Below w.heap.size w w' := by
  go_enter Try.func39, Try.ntmps39
  go_wp2
  go_ret
  exact ⟨ret_bool (by rw [Bool.eq_iff_iff]; simp), by repeat' (with_reducible first | exact Below.refl _ _ | apply Below.setCell | apply Below.alloc | exact Nat.le_refl _)⟩

theorem eqF_step {ns : List (Int × Bool)} {ps : List Int} {k : Nat} {x : Int × Bool} {y : Int} (hx : ns[k]? = some x) (hy : ps[k]? = some y) (h : (ns.take k).map (·.1) = ps.take k) (he : x.1 = y) : (ns.take (k + 1)).map (·.1) = ps.take (k + 1) := by
  obtain ⟨h1, rfl⟩ := List.getElem?_eq_some_iff.1 hx
  obtain ⟨h2, rfl⟩ := List.getElem?_eq_some_iff.1 hy
  rw [List.take_succ_eq_append_getElem h1, List.take_succ_eq_append_getElem h2, List.map_append, h, ← he]
  rfl
theorem eqF_no {ns : List (Int × Bool)} {ps : List Int} {k : Nat} {x : Int × Bool} {y : Int} (hx : ns[k]? = some x) (hy : ps[k]? = some y) (he : ¬ x.1 = y) : eqF ns ps = false := by
  refine decide_eq_false fun h => he ?_
  rw [← h, List.getElem?_map, hx] at hy
  simpa using hy

set_option maxRecDepth 1000000 in
set_option maxHeartbeats 4000000 in
theorem equalFunc_any (v u : Value) (ns : List (Int × Bool)) (ps : List Int) (w : World) (h : rowAt w v 2 nC ns) (hu : rowAt w u 1 iC ps) (hn : ns.length ≤ 4294967296) :
    Calls Try.prog 38 #[v, u, .func (.func 39) #[] #[]] w fun e w' => e = .returned (.bool (eqF ns ps)) ∧ Below w.heap.size w w' := by
  obtain ⟨oa, cap, rfl, h2⟩ := h
  obtain ⟨ob, cbp, rfl, h3⟩ := hu
  have H2 : Hid (∀ j y, ns[j]? = some y → ∃ g off, oa = some ⟨g, off, none⟩ ∧ ∀ i u, (nC y)[i]? = some u → w.cell? ⟨g, off + j * 2 + i, none⟩ = some u) := h2
  have H3 : Hid (∀ j y, ps[j]? = some y → ∃ g off, ob = some ⟨g, off, none⟩ ∧ ∀ i u, (iC y)[i]? = some u → w.cell? ⟨g, off + j * 1 + i, none⟩ = some u) := h3
  clear h2 h3
  by_cases hlen : ns.length = ps.length
  · rw [← hlen]
    have HL : Hid (ns.length = ps.length) := hlen
    clear hlen
    generalize hsn : ns.length = n at *
    have HN : Hid (ns.length = n) := hsn
    clear hsn
    go_enter Try.func38, Try.ntmps38
    go_wp2
    go_loopg [7, 8, 9, 17] n (fun gk a b c i wr => ∃ k : Nat, gk = n - k ∧ k ≤ n ∧ i = .int .i64 k ∧ (ns.take k).map (·.1) = ps.take k ∧ Below w.heap.size w wr)
    case atStart => exact ⟨0, rfl, by omega, rfl, by simp, Below.refl _ _⟩
    case round =>
      obtain ⟨k, rfl, hk, rfl, hc, hbl⟩ := hrel
      have HC : Hid ((ns.take k).map (·.1) = ps.take k) := hc
      have hsz := hbl.size
      clear hc
      by_cases hlt : k < n
      · have hki : (k : Int) < (n : Int) := by omega
        obtain ⟨⟨x, rv⟩, hx⟩ : ∃ x, ns[k]? = some x := ⟨ns[k]'(by rw [HN.out]; exact hlt), List.getElem?_eq_getElem _⟩
        obtain ⟨y, hy⟩ : ∃ y, ps[k]? = some y := ⟨ps[k]'(by rw [← HL.out]; exact hlt), List.getElem?_eq_getElem _⟩
        obtain ⟨g, off, rfl, hcell⟩ := H2.out k _ hx
        obtain ⟨g1, off1, rfl, hcell1⟩ := H3.out k _ hy
        have a0 := hcell 0 _ rfl
        have a1 := hcell 1 _ rfl
        have b0 := hcell1 0 _ rfl
        rw [Nat.add_zero] at a0
        simp only [Nat.mul_one, Nat.add_zero] at b0
        have d0 := (hbl.cell (World.block_lt_of_cell? _ _ a0)).trans a0
        have d1 := (hbl.cell (World.block_lt_of_cell? _ _ a1)).trans a1
        have d2 := (hbl.cell (World.block_lt_of_cell? _ _ b0)).trans b0
        have z2 := fun o => (Below.cell (Below.alloc (Below.refl wr.heap.size wr) (Nat.le_refl _) o) (World.block_lt_of_cell? _ _ d2)).trans d2
        have HX : Hid (ns[k]? = some (x, rv)) := hx
        have HY : Hid (ps[k]? = some y) := hy
        clear hcell hcell1 hx hy a0 a1 b0
        have CL : Hid (∀ W, Calls Try.prog 39 #[.agg #[.int .i64 x, .bool rv], .int .i64 y] W fun e w' => e = .returned (.bool (decide (x = y))) ∧ Below W.heap.size W w') := fun W => hasAll1_any x y rv W
        by_cases he : x = y
        · rw [decide_eq_true he] at CL
          have HE : Hid (x = y) := he
          clear he
          go_wp2_with fail
          refine (CL.out _).mono ?_
          rintro e w1 ⟨rfl, hb1⟩
          have hb0 : Below wr.heap.size wr w1 := Below.trans (by repeat' (with_reducible first | exact Below.refl _ _ | apply Below.setCell | apply Below.alloc | exact Nat.le_refl _)) (hb1.mono (by simp))
          have hb2 := hbl.trans (hb0.mono hbl.size)
          clear hb1 hb0
          go_wp2
          go_roundg (n - (k + 1))
          case rel => exact ⟨k + 1, rfl, by omega, by go_num, eqF_step HX.out HY.out HC.out HE.out, hb2⟩
          case measure => omega
        · rw [decide_eq_false he] at CL
          have HF : Hid (eqF ns ps = false) := eqF_no HX.out HY.out he
          clear he
          go_wp2_with fail
          refine (CL.out _).mono ?_
          rintro e w1 ⟨rfl, hb1⟩
          have hb0 : Below wr.heap.size wr w1 := Below.trans (by repeat' (with_reducible first | exact Below.refl _ _ | apply Below.setCell | apply Below.alloc | exact Nat.le_refl _)) (hb1.mono (by simp))
          have hb2 := hbl.trans (hb0.mono hbl.size)
          clear hb1 hb0
          go_wp2
          go_ret
          exact ⟨ret_bool HF.out.symm, hb2⟩
      · have HF : Hid (eqF ns ps = true) := by
          have := HC.out
          rw [List.take_of_length_le (by rw [HN.out]; omega), List.take_of_length_le (by rw [← HL.out]; omega)] at this
          exact decide_eq_true this
        go_wp2
        go_ret
        exact ⟨ret_bool HF.out.symm, hbl⟩
  · have HF : Hid (eqF ns ps = false) := decide_eq_false fun h => hlen (by rw [← h, List.length_map])
    have hne : ¬ ((ns.length : Int) = (ps.length : Int)) := by omega
    generalize ns.length = n at *
    generalize ps.length = m at *
    clear hlen
    go_enter Try.func38, Try.ntmps38
    go_wp2
    go_ret
    exact ⟨ret_bool HF.out.symm, Below.refl _ _⟩

theorem hasAll_any (v u : Value) (ns : List (Int × Bool)) (ps : List Int) (w : World) (h : rowAt w v 2 nC ns) (hu : rowAt w u 1 iC ps) (hn : ns.length ≤ 4294967296) :
    Calls Try.prog 26 #[v, u] w fun e w' => e = .returned (.bool (eqF ns ps)) ∧ Below w.heap.size w w' := by
  have C := equalFunc_any v u ns ps w h hu hn
  generalize eqF ns ps = b at *
  clear h hu
  go_enter Try.func26, Try.ntmps26
  go_wp2_with fail
  refine C.mono ?_
  rintro e w1 ⟨rfl, hb⟩
  go_wp2
  go_ret
  exact ⟨rfl, hb⟩
end Go.Proofs.Ytceebimgfajbcaa
