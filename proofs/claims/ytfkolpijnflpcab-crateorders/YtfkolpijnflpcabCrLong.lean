/-
  The law's own 'long' (are things more than is looked at?), by a contract.
-/
import Derived.Test.YtfkolpijnflpcabCrLaw
namespace Go.Proofs.Ytfkolpijnflpcab
open Go.RowKit

/-- A slice's row that holds these raw things. -/
def hasThs (w : World) (oa : Option Addr) (l : List Th) : Prop :=
  ∀ j x, l[j]? = some x → ∃ b off, oa = some ⟨b, off, none⟩ ∧ w.cell? ⟨b, off + j * 4, none⟩ = some (.int .i64 x.k) ∧ w.cell? ⟨b, off + j * 4 + 1, none⟩ = some (.int .i64 x.n) ∧
    w.cell? ⟨b, off + j * 4 + 2, none⟩ = some (.string x.s) ∧ w.cell? ⟨b, off + j * 4 + 3, none⟩ = some (.bool x.b)
theorem hasThs_below {w w' : World} {oa : Option Addr} {l : List Th} (h : hasThs w oa l) (hb : Below w.heap.size w w') : hasThs w' oa l := by
  intro j x hj
  obtain ⟨b, off, e, k1, k2, k3, k4⟩ := h j x hj
  have hlt := World.block_lt_of_cell? w _ k1
  have hlt' : ∀ o, (⟨b, o, none⟩ : Addr).block < w.heap.size := fun _ => hlt
  exact ⟨b, off, e, (hb.cell (hlt' _)).trans k1, (hb.cell (hlt' _)).trans k2, (hb.cell (hlt' _)).trans k3, (hb.cell (hlt' _)).trans k4⟩

/-- How much there is to look at. -/
def sumTh : List Th → Nat
  | [] => 0
  | x :: l => 1 + x.s.size + sumTh l
theorem sumTh_append : ∀ (l m : List Th), sumTh (l ++ m) = sumTh l + sumTh m
  | [], m => by simp [sumTh]
  | x :: l, m => by rw [List.cons_append, sumTh, sumTh_append l m, sumTh]; omega
theorem sumTh_take (l : List Th) (k : Nat) : sumTh (l.take k) ≤ sumTh l := by
  have := sumTh_append (l.take k) (l.drop k)
  rw [List.take_append_drop] at this
  omega
theorem sumTh_more {l : List Th} {k : Nat} {x : Th} (h : l[k]? = some x) : sumTh (l.take (k + 1)) = sumTh (l.take k) + (1 + x.s.size) := by
  obtain ⟨hl, rfl⟩ := List.getElem?_eq_some_iff.1 h
  rw [List.take_succ_eq_append_getElem hl, sumTh_append]
  simp [sumTh]
theorem sumTh_len : ∀ l : List Th, l.length ≤ sumTh l
  | [] => by simp
  | x :: l => by have := sumTh_len l; rw [sumTh, List.length_cons]; omega
theorem sumTh_mem : ∀ (l : List Th) (x : Th), x ∈ l → x.s.size ≤ sumTh l
  | y :: l, x, h => by
    rw [sumTh]
    rcases List.mem_cons.1 h with rfl | h
    · omega
    · have := sumTh_mem l x h
      omega

set_option maxRecDepth 1000000 in
set_option maxHeartbeats 2000000 in
theorem long_any (oa : Option Addr) (n cap : Nat) (l : List Th) (w : World) (hn : l.length = n) (hS : hasThs w oa l) (hl : n ≤ 140737488355328) (hz : ∀ x ∈ l, x.s.size ≤ 140737488355328) :
    Calls Try.prog 6 #[.slice oa n cap] w fun e w' => e = .returned (.bool (decide (3000 < sumTh l))) ∧ w' = w := by
  have HN : Hid (l.length = n) := hn
  have HS : Hid (hasThs w oa l) := hS
  have HZ : Hid (∀ x ∈ l, x.s.size ≤ 140737488355328) := hz
  clear hn hS hz
  go_enter Try.func6, Try.ntmps6
  go_wp2
  go_loopw [3, 4] (fun s i wr => ∃ k m : Nat, s = .int .i64 m ∧ i = .int .i64 k ∧ k ≤ n ∧ m = sumTh (l.take k) ∧ m ≤ 140737488358400 ∧ wr = w) (fun _ i _ => n - (intOf i).toNat)
  case atStart => exact ⟨0, 0, rfl, rfl, by omega, by simp [sumTh], by omega, rfl⟩
  case round =>
    obtain ⟨k, m, rfl, rfl, hk, hm, hm2, rfl⟩ := hrel
    have HM : Hid (m = sumTh (l.take k)) := hm
    clear hm
    by_cases hlt : k < n
    · have d1 : decide ((k : Int) < (n : Int)) = true := by simp; omega
      have hki : (k : Int) < (n : Int) := by omega
      by_cases h3 : m ≤ 3000
      · have d2 : decide ((m : Int) ≤ 3000) = true := by simp; omega
        obtain ⟨x, hx⟩ : ∃ x, l[k]? = some x := ⟨l[k]'(by rw [HN.out]; exact hlt), List.getElem?_eq_getElem _⟩
        obtain ⟨b, off, rfl, c1, c2, c3, c4⟩ := HS.out k x hx
        have hsz : x.s.size ≤ 140737488355328 := HZ.out x (List.mem_of_getElem? hx)
        have HX : Hid (sumTh (l.take (k + 1)) = sumTh (l.take k) + (1 + x.s.size)) := sumTh_more hx
        clear hx
        go_wp2
        go_roundw
        case rel => exact ⟨k + 1, m + (1 + x.s.size), by go_num, by go_num, by omega, by rw [HX.out, ← HM.out], by omega, by trivial⟩
        case measure => simp [intOf]; omega
      · have d2 : decide ((m : Int) ≤ 3000) = false := by simp; omega
        have d3 : decide ((3000 : Int) < (m : Int)) = true := by simp; omega
        have HD : Hid (decide (3000 < sumTh l) = true) := by
          have := sumTh_take l k
          have := HM.out
          simp [Hid]; omega
        go_wp2
        go_ret
        exact ⟨ret_bool HD.out.symm, rfl⟩
    · have d1 : decide ((k : Int) < (n : Int)) = false := by simp; omega
      have HD : Hid (decide (3000 < sumTh l) = decide ((3000 : Int) < (m : Int))) := by
        have := HM.out
        rw [List.take_of_length_le (by rw [HN.out]; omega)] at this
        rw [Hid, ← this, Bool.eq_iff_iff]
        simp only [decide_eq_true_eq]
        omega
      go_wp2
      go_ret
      exact ⟨ret_bool HD.out.symm, rfl⟩

end Go.Proofs.Ytfkolpijnflpcab
