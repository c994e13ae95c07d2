/-
  Package table: the names of points and of routes, as rows of the call's own; are all names such? by contracts.
-/
import Derived.Test.YtceebimgfajbcaaTbNames
import Derived.Deep.OwnRows
namespace Go.Proofs.Ytceebimgfajbcaa
open Go.RowKit

theorem named1_any (a b : Value) (s : ByteArray) (w : World) (ha : a = .string s) :
    Calls Try.prog 15 #[.agg #[a, b]] w fun e w' => e = .returned (.string s) ∧ Below w.heap.size w w' := by
  subst ha
  go_enter Try.func15, Try.ntmps15
  go_wp2
  go_ret
  exact ⟨rfl, by repeat' (with_reducible first | exact Below.refl _ _ | apply Below.setCell | apply Below.alloc | exact Nat.le_refl _)⟩

theorem named2_any (a b c d e f : Value) (s : ByteArray) (w : World) (ha : a = .string s) :
    Calls Try.prog 17 #[.agg #[a, b, c, d, e, f]] w fun e w' => e = .returned (.string s) ∧ Below w.heap.size w w' := by
  subst ha
  go_enter Try.func17, Try.ntmps17
  go_wp2
  go_ret
  exact ⟨rfl, by repeat' (with_reducible first | exact Below.refl _ _ | apply Below.setCell | apply Below.alloc | exact Nat.le_refl _)⟩
/-- The names so far. -/
def nmAt (ns : List ByteArray) (k j : Nat) : ByteArray := if j < k then (ns[j]?).getD ⟨#[]⟩ else ⟨#[]⟩
theorem nmAt_next {ns : List ByteArray} {k : Nat} {x : ByteArray} (h : ns[k]? = some x) (j : Nat) : (if j = k then Value.string x else .string (nmAt ns k j)) = .string (nmAt ns (k + 1) j) := by
  by_cases hj : j = k
  · subst hj
    rw [if_pos rfl, nmAt, if_pos (by omega), h]
    rfl
  · rw [if_neg hj, nmAt, nmAt]
    by_cases hlt : j < k
    · rw [if_pos hlt, if_pos (by omega)]
    · rw [if_neg hlt, if_neg (by omega)]
theorem row_of_is {w : World} {b n : Nat} {ns : List ByteArray} (h : w.rowIs b 9 n (fun j => .string (nmAt ns n j))) (hn : ns.length = n) : rowAt w (.slice (some ⟨b, 0, none⟩) n n) 1 sC ns := by
  refine ⟨some ⟨b, 0, none⟩, n, by rw [hn], fun j x hj => ⟨b, 0, rfl, fun i u hu => ?_⟩⟩
  have hjn : j < n := by rw [← hn]; exact (List.getElem?_eq_some_iff.1 hj).1
  have := h.cell hjn
  match i, hu with
  | 0, hu =>
    rw [show sC x = [.string x] from rfl] at hu
    simp at hu
    subst hu
    rw [show 0 + j * 1 + 0 = j by omega, this, nmAt, if_pos hjn, hj]
    rfl
  | i + 1, hu => simp [sC] at hu

set_option maxRecDepth 1000000 in
set_option maxHeartbeats 4000000 in
theorem namesOfP_any (v : Value) (l : List (ByteArray × Int)) (w : World) (h : rowAt w v 2 pC l) (hl : l.length ≤ 4294967296) :
    Calls Try.prog 14 #[v, .func (.func 15) #[] #[]] w fun e w' => ∃ u, e = .returned u ∧ rowAt w' u 1 sC (l.map (·.1)) ∧ capOk u ∧ Below w.heap.size w w' := by
  obtain ⟨oa, cap, rfl, h2⟩ := h
  have H2 : Hid (∀ j y, l[j]? = some y → ∃ g off, oa = some ⟨g, off, none⟩ ∧ ∀ i u, (pC y)[i]? = some u → w.cell? ⟨g, off + j * 2 + i, none⟩ = some u) := h2
  clear h2
  generalize hn : l.length = n at *
  have HN : Hid (l.length = n) := hn
  clear hn
  have hmk := run_make_row' (P := Try.prog) 22 9 (.string ⟨#[]⟩) 16 Try.underlying22 infoS rfl .i64 .i64 n (by omega) (by omega)
  go_enter Try.func14, Try.ntmps14
  go_wp2
  clear hmk
  go_loopg [6, 7, 13] n (fun gk a b i wr => ∃ k : Nat, gk = n - k ∧ k ≤ n ∧ i = .int .i64 k ∧ wr.rowIs w.heap.size 9 n (fun j => .string (nmAt (l.map (·.1)) k j)) ∧ Below w.heap.size w wr)
  case atStart => exact ⟨0, rfl, by omega, rfl, (World.rowIs_made w (.string ⟨#[]⟩) n 9).congr (fun i _ => by rw [nmAt, if_neg (by omega)]), (Below.refl _ _).alloc (Nat.le_refl _) _⟩
  case round =>
    obtain ⟨k, rfl, hk, rfl, hrow, hbl⟩ := hrel
    have HROW : Hid (wr.rowIs w.heap.size 9 n (fun j => .string (nmAt (l.map (·.1)) k j))) := hrow
    have hsz := hrow.lt
    clear hrow
    by_cases hlt : k < n
    · have hki : (k : Int) < (n : Int) := by omega
      obtain ⟨⟨nm, sc⟩, hx⟩ : ∃ x, l[k]? = some x := ⟨l[k]'(by rw [HN.out]; exact hlt), List.getElem?_eq_getElem _⟩
      obtain ⟨g, off, rfl, hcell⟩ := H2.out k _ hx
      have a0 := hcell 0 _ rfl
      have a1 := hcell 1 _ rfl
      rw [Nat.add_zero] at a0
      have d0 := (hbl.cell (World.block_lt_of_cell? _ _ a0)).trans a0
      have d1 := (hbl.cell (World.block_lt_of_cell? _ _ a1)).trans a1
      have HX : Hid ((l.map (·.1))[k]? = some nm) := by show _ = _; rw [List.getElem?_map, hx]; rfl
      have CL : Hid (∀ W, Calls Try.prog 15 #[.agg #[.string nm, .int .i64 sc]] W fun e w' => e = .returned (.string nm) ∧ Below W.heap.size W w') := fun W => named1_any _ _ nm W rfl
      clear a0 a1
      clear hcell hx
      go_wp2_with fail
      refine (CL.out _).mono ?_
      rintro e w1 ⟨rfl, hb1⟩
      have hb0 : Below wr.heap.size wr w1 := Below.trans (by repeat' (with_reducible first | exact Below.refl _ _ | apply Below.setCell | apply Below.alloc | exact Nat.le_refl _)) (hb1.mono (by simp))
      have hrow1 : w1.rowIs w.heap.size 9 n (fun j => .string (nmAt (l.map (·.1)) k j)) := HROW.out.of_block (hb0.block _ hsz)
      have HR1 : Hid (w1.rowIs w.heap.size 9 n (fun j => .string (nmAt (l.map (·.1)) k j))) := hrow1
      have r0 := hrow1.cell hlt
      have r1 := hrow1.frozen k
      have hb2 := hbl.trans (hb0.mono hbl.size)
      clear hb1 hb0 hrow1
      go_wp2
      go_roundg (n - (k + 1))
      case rel => exact ⟨k + 1, rfl, by omega, by go_num, (HR1.out.set k (.string nm)).congr (fun j _ => nmAt_next (HX.out) j), hb2.setCell (Nat.le_refl _) _⟩
      case measure => omega
    · have HE : Hid (rowAt wr (.slice (some ⟨w.heap.size, 0, none⟩) n n) 1 sC (l.map (·.1))) := by
        have hkn : k = n := by omega
        have := HROW.out
        rw [hkn] at this
        exact row_of_is this (by rw [List.length_map, HN.out])
      go_wp2
      go_ret
      exact ⟨_, rfl, HE.out, fun _ _ _ e => by injection e with e1 e2 e3; omega, hbl⟩

set_option maxRecDepth 1000000 in
set_option maxHeartbeats 4000000 in
theorem namesOfR_any (v : Value) (l : List RtV) (w : World) (h : rowAt w v 6 rC l) (hx : ∀ x ∈ l, RtAt w x) (hl : l.length ≤ 4294967296) :
    Calls Try.prog 16 #[v, .func (.func 17) #[] #[]] w fun e w' => ∃ u, e = .returned u ∧ rowAt w' u 1 sC (l.map (·.1.name)) ∧ capOk u ∧ Below w.heap.size w w' := by
  obtain ⟨oa, cap, rfl, h2⟩ := h
  have H2 : Hid (∀ j y, l[j]? = some y → ∃ g off, oa = some ⟨g, off, none⟩ ∧ ∀ i u, (rC y)[i]? = some u → w.cell? ⟨g, off + j * 6 + i, none⟩ = some u) := h2
  have HA : Hid (∀ x ∈ l, RtAt w x) := hx
  clear hx
  clear h2
  generalize hn : l.length = n at *
  have HN : Hid (l.length = n) := hn
  clear hn
  have hmk := run_make_row' (P := Try.prog) 22 9 (.string ⟨#[]⟩) 16 Try.underlying22 infoS rfl .i64 .i64 n (by omega) (by omega)
  go_enter Try.func16, Try.ntmps16
  go_wp2
  clear hmk
  go_loopg [6, 7, 13] n (fun gk a b i wr => ∃ k : Nat, gk = n - k ∧ k ≤ n ∧ i = .int .i64 k ∧ wr.rowIs w.heap.size 9 n (fun j => .string (nmAt (l.map (·.1.name)) k j)) ∧ Below w.heap.size w wr)
  case atStart => exact ⟨0, rfl, by omega, rfl, (World.rowIs_made w (.string ⟨#[]⟩) n 9).congr (fun i _ => by rw [nmAt, if_neg (by omega)]), (Below.refl _ _).alloc (Nat.le_refl _) _⟩
  case round =>
    obtain ⟨k, rfl, hk, rfl, hrow, hbl⟩ := hrel
    have HROW : Hid (wr.rowIs w.heap.size 9 n (fun j => .string (nmAt (l.map (·.1.name)) k j))) := hrow
    have hsz := hrow.lt
    clear hrow
    by_cases hlt : k < n
    · have hki : (k : Int) < (n : Int) := by omega
      obtain ⟨⟨⟨nm, fr, tt, pa, po, fl⟩, v3, v4, v5⟩, hx⟩ : ∃ x, l[k]? = some x := ⟨l[k]'(by rw [HN.out]; exact hlt), List.getElem?_eq_getElem _⟩
      obtain ⟨⟨p3, k3, f3, _⟩, ⟨p4, k4, f4, _⟩, ⟨p5, k5, f5, _⟩⟩ := HA.out _ (List.mem_of_getElem? hx)
      simp only at f3 f4 f5
      subst f3 f4 f5
      generalize pa.length = n3 at *
      generalize po.length = n4 at *
      generalize fl.length = n5 at *
      obtain ⟨g, off, rfl, hcell⟩ := H2.out k _ hx
      have up : ∀ {p : Addr} {u : Value}, w.cell? p = some u → wr.cell? p = some u := fun h => (hbl.cell (World.block_lt_of_cell? _ _ h)).trans h
      have d0 := up (hcell 0 _ rfl)
      have d1 := up (hcell 1 _ rfl)
      have d2 := up (hcell 2 _ rfl)
      have d3 := up (hcell 3 _ rfl)
      have d4 := up (hcell 4 _ rfl)
      have d5 := up (hcell 5 _ rfl)
      rw [Nat.add_zero] at d0
      clear up
      have HX : Hid ((l.map (·.1.name))[k]? = some nm) := by show _ = _; rw [List.getElem?_map, hx]; rfl
      have CL : Hid (∀ W, Calls Try.prog 17 #[.agg #[.string nm, .int .i64 fr, .int .i64 tt, .slice p3 n3 k3, .slice p4 n4 k4, .slice p5 n5 k5]] W fun e w' => e = .returned (.string nm) ∧ Below W.heap.size W w') := fun W => named2_any _ _ _ _ _ _ nm W rfl
      clear hcell hx
      go_wp2_with fail
      refine (CL.out _).mono ?_
      rintro e w1 ⟨rfl, hb1⟩
      have hb0 : Below wr.heap.size wr w1 := Below.trans (by repeat' (with_reducible first | exact Below.refl _ _ | apply Below.setCell | apply Below.alloc | exact Nat.le_refl _)) (hb1.mono (by simp))
      have hrow1 : w1.rowIs w.heap.size 9 n (fun j => .string (nmAt (l.map (·.1.name)) k j)) := HROW.out.of_block (hb0.block _ hsz)
      have HR1 : Hid (w1.rowIs w.heap.size 9 n (fun j => .string (nmAt (l.map (·.1.name)) k j))) := hrow1
      have r0 := hrow1.cell hlt
      have r1 := hrow1.frozen k
      have hb2 := hbl.trans (hb0.mono hbl.size)
      clear hb1 hb0 hrow1
      go_wp2
      go_roundg (n - (k + 1))
      case rel => exact ⟨k + 1, rfl, by omega, by go_num, (HR1.out.set k (.string nm)).congr (fun j _ => nmAt_next (HX.out) j), hb2.setCell (Nat.le_refl _) _⟩
      case measure => omega
    · have HE : Hid (rowAt wr (.slice (some ⟨w.heap.size, 0, none⟩) n n) 1 sC (l.map (·.1.name))) := by
        have hkn : k = n := by omega
        have := HROW.out
        rw [hkn] at this
        exact row_of_is this (by rw [List.length_map, HN.out])
      go_wp2
      go_ret
      exact ⟨_, rfl, HE.out, fun _ _ _ e => by injection e with e1 e2 e3; omega, hbl⟩
end Go.Proofs.Ytceebimgfajbcaa
