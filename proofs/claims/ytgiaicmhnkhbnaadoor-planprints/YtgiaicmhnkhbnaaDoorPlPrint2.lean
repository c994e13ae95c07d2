/-
  plan.Print of a layout without points and routes, by a contract.
-/
import Derived.Test.YtgiaicmhnkhbnaaDoorPlPrint1
import Derived.Test.YtgiaicmhnkhbnaaDoorJoin3
namespace Go.Proofs.YtgiaicmhnkhbnaaDoor
open Go.RowKit

def secW : ByteArray := ⟨#[115, 101, 99, 116, 105, 111, 110]⟩
def sigW : ByteArray := ⟨#[115, 105, 103, 110, 97, 108]⟩
/-- The lines of names, behind a word. -/
def linesT (k : ByteArray) (l : List ByteArray) : List UInt8 := l.flatMap fun x => lineT [k, x]
theorem linesT_more {k x : ByteArray} {l : List ByteArray} {i : Nat} (h : l[i]? = some x) : linesT k (l.take (i + 1)) = linesT k (l.take i) ++ lineT [k, x] := by
  rw [List.take_add_one, h, linesT, List.flatMap_append]
  simp [linesT]
theorem linesT_le (k : ByteArray) (l : List ByteArray) (i : Nat) : (linesT k (l.take i)).length ≤ (linesT k l).length := by
  conv => rhs; rw [← List.take_append_drop i l]
  rw [linesT, linesT, List.flatMap_append, List.length_append]
  exact Nat.le_add_right _ _

/-- While Print runs: the builder holds so much; the layout lies where it was put. -/
def PrAt (w0 : World) (v : Nat → Value) (T : List UInt8) (w : World) : Prop :=
  Lib.IsBuilderF 50 5 w0.heap.size (w0.heap.size + 1) (Lib.byteCells T) w ∧ Below w0.heap.size w0 w ∧ w.heap[w0.heap.size]? = some (.cells #[v 0, v 1, v 2, v 3] 26 (0, 0)) ∧ w0.heap.size + 2 ≤ w.heap.size
theorem PrAt.cells {w0 : World} {v : Nat → Value} {T : List UInt8} {w : World} (h : PrAt w0 v T w) : w.cell? ⟨w0.heap.size, 0, none⟩ = some (v 0) ∧ w.cell? ⟨w0.heap.size, 1, none⟩ = some (v 1) ∧ w.cell? ⟨w0.heap.size, 2, none⟩ = some (v 2) ∧ w.cell? ⟨w0.heap.size, 3, none⟩ = some (v 3) := by
  have hh := h.2.2.1
  refine ⟨?_, ?_, ?_, ?_⟩ <;> simp [World.cell?, hh]
theorem two_new (w : World) (a b : ByteArray) (t : TypeId) : ∀ (j : Nat) x, [a, b][j]? = some x → (w.alloc (.cells #[.string a, .string b] t)).cell? ⟨w.heap.size, 0 + j, none⟩ = some (.string x) := by
  intro j x hj
  match j, hj with
  | 0, hj => simp at hj; subst hj; simp
  | 1, hj => simp at hj; subst hj; simp
  | j + 2, hj => simp at hj

/-- One line more of two words. -/
theorem PrAt.line {w0 : World} {v : Nat → Value} {T : List UInt8} {w : World} (h : PrAt w0 v T w) (a b : ByteArray) (t : TypeId) (hlen : T.length + (lineT [a, b]).length + 8 ≤ 140737488355328) :
    Calls Tryd.prog 21 #[.pointer (some ⟨w0.heap.size + 1, 0, none⟩), .slice (some ⟨w.heap.size, 0, none⟩) 2 2] (w.alloc (.cells #[.string a, .string b] t)) fun e w' => e = .returned (.tuple #[]) ∧ PrAt w0 v (T ++ lineT [a, b]) w' := by
  obtain ⟨h1, h2, h3, h4⟩ := h
  have hal : Below w.heap.size w (w.alloc (.cells #[.string a, .string b] t)) := (Below.refl _ _).alloc (Nat.le_refl _) _
  have hsz := hal.size
  refine (printLine_any w0.heap.size (w0.heap.size + 1) T w.heap.size 2 [a, b] _ (built_below h1 hal) (two_new w a b t) (by simp) (by simp) (by simp) hlen (by omega)).mono ?_
  rintro e w' ⟨rfl, k1, k2, k3⟩
  have hs2 := k2.size
  refine ⟨rfl, k1, (h2.trans (hal.mono (by omega))).trans k2, k3 _ _ ((hal.block _ (by omega)).trans h3) (by simp) ?_, by omega⟩
  intro c fz hc
  injection hc with _ e2
  exact absurd e2 (by decide)

set_option maxRecDepth 1000000 in
set_option maxHeartbeats 4000000 in
theorem print_names (v : Nat → Value) (l : Lay) (rs : List RtV) (w : World) (h : LayRd w v l rs) (hp : l.points = []) (hr : l.routes = []) (hn : l.sections.length ≤ 4294967296 ∧ l.signals.length ≤ 4294967296) (hlen : (linesT secW l.sections).length + (linesT sigW l.signals).length + 100 ≤ 140737488355328) :
    Calls Tryd.prog 8 #[.agg #[v 0, v 1, v 2, v 3]] w fun e w' => e = .returned (.string ⟨(linesT secW l.sections ++ linesT sigW l.signals).toArray⟩) ∧ Below w.heap.size w w' := by
  obtain ⟨o0, c0, e0, r0⟩ := h.s
  obtain ⟨o1, c1, e1, _⟩ := h.p
  obtain ⟨o2, c2, e2, r2⟩ := h.g
  obtain ⟨o3, c3, e3, _⟩ := h.r
  have hrs : rs = [] := by have := h.m; rw [hr] at this; simpa using this
  subst hrs
  rw [hp] at e1
  have S : PrAt w v [] ((w.alloc (.cells #[v 0, v 1, v 2, v 3] 26)).alloc (.cells #[.pointer none, .slice none 0 0] 50)) := by
    have hs : (w.alloc (.cells #[v 0, v 1, v 2, v 3] 26)).heap.size = w.heap.size + 1 := by simp
    have hb1 : Below w.heap.size w (w.alloc (.cells #[v 0, v 1, v 2, v 3] 26)) := (Below.refl _ _).alloc (Nat.le_refl _) _
    have k1 : (w.alloc (.cells #[v 0, v 1, v 2, v 3] 26)).heap[w.heap.size]? = some (.cells #[v 0, v 1, v 2, v 3] 26 (0, 0)) := blk_new _ _
    generalize w.alloc (.cells #[v 0, v 1, v 2, v 3] 26) = w1 at *
    have hb2 : Below w1.heap.size w1 (w1.alloc (.cells #[.pointer none, .slice none 0 0] 50)) := (Below.refl _ _).alloc (Nat.le_refl _) _
    have k2 : (w1.alloc (.cells #[.pointer none, .slice none 0 0] 50)).heap[w1.heap.size]? = some (.cells #[.pointer none, .slice none 0 0] 50 (0, 0)) := blk_new _ _
    have hs2 : (w1.alloc (.cells #[.pointer none, .slice none 0 0] 50)).heap.size = w1.heap.size + 1 := by simp
    rw [hs] at k2
    exact ⟨.inl ⟨by omega, .slice none 0 0, k2, World.ownsRowF_of (World.ownsRow_nil _ _ _ _), by simp [Value.ownBlock]⟩, hb1.trans (hb2.mono (by omega)), (hb2.block _ (by omega)).trans k1, by omega⟩
  have HL : Hid ((linesT secW l.sections).length + (linesT sigW l.signals).length + 100 ≤ 140737488355328) := hlen
  have hn0 := hn.1
  have hn2 := hn.2
  clear hlen hn hp hr
  obtain ⟨secs, pts, sigs, rts⟩ := l
  simp only at *
  have R0 : Hid (∀ j x, secs[j]? = some x → ∃ g off, o0 = some ⟨g, off, none⟩ ∧ ∀ i u, (sC x)[i]? = some u → w.cell? ⟨g, off + j * 1 + i, none⟩ = some u) := r0
  have R2 : Hid (∀ j x, sigs[j]? = some x → ∃ g off, o2 = some ⟨g, off, none⟩ ∧ ∀ i u, (sC x)[i]? = some u → w.cell? ⟨g, off + j * 1 + i, none⟩ = some u) := r2
  clear r0 r2 h
  generalize hs0 : secs.length = n0 at *
  generalize hs2 : sigs.length = n2 at *
  have HS0 : Hid (secs.length = n0) := hs0
  have HS2 : Hid (sigs.length = n2) := hs2
  clear hs0 hs2
  have HV : Hid (v 0 = .slice o0 n0 c0 ∧ v 1 = .slice o1 0 c1 ∧ v 2 = .slice o2 n2 c2 ∧ v 3 = .slice o3 0 c3) := ⟨e0, e1, e2, e3⟩
  rw [e0, e1, e2, e3] at S ⊢
  clear e0 e1 e2 e3
  go_enter Tryd.func8, Tryd.ntmps8
  go_wp2
  go_loopw [15] (fun i wr => ∃ k : Nat, i = .int .i64 k ∧ k ≤ n0 ∧ PrAt w v (linesT secW (secs.take k)) wr) (fun i _ => n0 - (intOf i).toNat)
  case atStart => exact ⟨0, rfl, by omega, by simpa [linesT] using S⟩
  case round =>
    obtain ⟨k, rfl, hk, hP⟩ := hrel
    have HP : Hid (PrAt w v (linesT secW (secs.take k)) _) := hP
    by_cases hlt : k < n0
    · obtain ⟨x, hx⟩ : ∃ x, secs[k]? = some x := ⟨secs[k]'(by rw [HS0.out]; exact hlt), List.getElem?_eq_getElem _⟩
      obtain ⟨g, off, rfl, hc⟩ := R0.out k x hx
      have c0' := hc 0 (.string x) rfl
      rw [show off + k * 1 + 0 = off + k by omega] at c0'
      have c00 := (hP.2.1.cell (World.block_lt_of_cell? w _ c0')).trans c0'
      have HM : Hid (linesT secW (secs.take (k + 1)) = linesT secW (secs.take k) ++ lineT [secW, x]) := linesT_more hx
      have hle : (linesT secW (secs.take k)).length + (lineT [secW, x]).length + 8 ≤ 140737488355328 := by
        have a1 := linesT_le secW secs (k + 1)
        rw [HM.out, List.length_append] at a1
        have := HL.out
        omega
      have hki : (k : Int) < (n0 : Int) := by omega
      have PL := hP.line secW x 9 hle
      clear hP hc hx c0' hle
      go_wp2_with fail
      refine PL.mono ?_
      rintro e w1 ⟨rfl, h1⟩
      go_wp2
      go_roundw
      case rel => exact ⟨k + 1, by go_num, by omega, by rw [HM.out]; exact h1⟩
      case measure => simp [intOf]; omega
    · obtain rfl : k = n0 := by omega
      have hT : secs.take k = secs := List.take_of_length_le (by rw [HS0.out]; exact Nat.le_refl _)
      rw [hT] at hP
      clear HP hT
      have hki : ¬ (k : Int) < (k : Int) := by omega
      have hcc := hP.cells
      rw [HV.out.1, HV.out.2.1, HV.out.2.2.1, HV.out.2.2.2] at hcc
      obtain ⟨q0, q1, q2, q3⟩ := hcc
      go_wp2
      go_loopw [26] (fun i wr => ∃ j : Nat, i = .int .i64 j ∧ j ≤ n2 ∧ PrAt w v (linesT secW secs ++ linesT sigW (sigs.take j)) wr) (fun i _ => n2 - (intOf i).toNat)
      case atStart => exact ⟨0, rfl, by omega, by simpa [linesT] using hP⟩
      case round =>
        clear hP q0 q1 q2 q3
        obtain ⟨j, rfl, hj, hP⟩ := hrel
        by_cases hlt2 : j < n2
        · obtain ⟨x, hx⟩ : ∃ x, sigs[j]? = some x := ⟨sigs[j]'(by rw [HS2.out]; exact hlt2), List.getElem?_eq_getElem _⟩
          obtain ⟨g, off, rfl, hc⟩ := R2.out j x hx
          have c0' := hc 0 (.string x) rfl
          rw [show off + j * 1 + 0 = off + j by omega] at c0'
          have c00 := (hP.2.1.cell (World.block_lt_of_cell? w _ c0')).trans c0'
          have HM : Hid (linesT sigW (sigs.take (j + 1)) = linesT sigW (sigs.take j) ++ lineT [sigW, x]) := linesT_more hx
          have hle : (linesT secW secs ++ linesT sigW (sigs.take j)).length + (lineT [sigW, x]).length + 8 ≤ 140737488355328 := by
            have a1 := linesT_le sigW sigs (j + 1)
            rw [HM.out, List.length_append] at a1
            have := HL.out
            rw [List.length_append]
            omega
          have hji : (j : Int) < (n2 : Int) := by omega
          have PL := hP.line sigW x 9 hle
          clear hP hc hx c0' hle
          go_wp2_with fail
          refine PL.mono ?_
          rintro e w1 ⟨rfl, h1⟩
          go_wp2
          go_roundw
          case rel => exact ⟨j + 1, by go_num, by omega, by rw [HM.out, ← List.append_assoc]; exact h1⟩
          case measure => simp [intOf]; omega
        · obtain rfl : j = n2 := by omega
          have hT : sigs.take j = sigs := List.take_of_length_le (by rw [HS2.out]; exact Nat.le_refl _)
          rw [hT] at hP
          clear hT
          have hji : ¬ (j : Int) < (j : Int) := by omega
          have hcc := hP.cells
          rw [HV.out.1, HV.out.2.1, HV.out.2.2.1, HV.out.2.2.2] at hcc
          obtain ⟨q0, q1, q2, q3⟩ := hcc
          go_wp2
          go_loopw [37] (fun i wr => i = .int .i64 0 ∧ PrAt w v (linesT secW secs ++ linesT sigW sigs) wr) (fun _ _ => 0)
          case atStart => exact ⟨rfl, hP⟩
          case round =>
            clear hP q0 q1 q2 q3
            obtain ⟨rfl, hP⟩ := hrel
            have hcc := hP.cells
            rw [HV.out.1, HV.out.2.1, HV.out.2.2.1, HV.out.2.2.2] at hcc
            obtain ⟨q0, q1, q2, q3⟩ := hcc
            go_wp2
            go_loopw [54] (fun i wr => i = .int .i64 0 ∧ PrAt w v (linesT secW secs ++ linesT sigW sigs) wr) (fun _ _ => 0)
            case atStart => exact ⟨rfl, hP⟩
            case round =>
              clear hP q0 q1 q2 q3
              obtain ⟨rfl, p1, p2, p3, p4⟩ := hrel
              have PS := Tryd.Builder_String_any_k w.heap.size (w.heap.size + 1) _ _ p1 (by omega)
              go_wp2_with fail
              refine PS.mono ?_
              rintro e w1 ⟨rfl, _, hb, _⟩
              go_wp2
              go_ret
              exact ⟨rfl, p2.trans hb⟩
end Go.Proofs.YtgiaicmhnkhbnaaDoor
