/-
  plan's printLine and nameAt, each by a contract.
-/
import Derived.Test.YtgiaicmhnkhbnaaDoorPlBuild
import Derived.Test.YtgiaicmhnkhbnaaDoorJoin2
namespace Go.Proofs.YtgiaicmhnkhbnaaDoor
open Go.RowKit

theorem kept_below {e : TypeId} {b : Option Nat} {w w' : World} (hb : Below w.heap.size w w') : Lib.OthersKept e b w w' := by
  intro k o h _ _
  have hk : k < w.heap.size := (Array.getElem?_eq_some_iff.1 h).1
  rw [hb.block k hk, h]

theorem built_below {T e : TypeId} {B b : Nat} {bs : List Value} {w w' : World} (h : Lib.IsBuilderF T e B b bs w) (hb : Below w.heap.size w w') : Lib.IsBuilderF T e B b bs w' := by
  have go : ∀ p, Lib.BuilderAtF T e B b p bs w → Lib.BuilderAtF T e B b p bs w' := by
    rintro p ⟨hB, v, hv, ho, hne⟩
    have hlt : b < w.heap.size := (Array.getElem?_eq_some_iff.1 hv).1
    exact ⟨hB, v, by rw [hb.block b hlt, hv], ho.kept (row := none) ⟨hb.os, hb.tape, hb.output, hb.size, fun k hk _ => hb.block k hk⟩ (Classical.em _), hne⟩
  rcases h with h | h
  · exact .inl (go _ h)
  · exact .inr (go _ h)

/-- The text of a line. -/
def lineT (xs : List ByteArray) : List UInt8 := Lib.join (xs.map (·.data.toList)) [32] ++ [10]
theorem feed_cells : Lib.runeCells 10 = Lib.byteCells [10] := by kernel_rfl

set_option maxRecDepth 1000000 in
set_option maxHeartbeats 4000000 in
theorem printLine_any (B b : Nat) (l : List UInt8) (bk c : Nat) (xs : List ByteArray) (w : World) (h : Lib.IsBuilderF 50 5 B b (Lib.byteCells l) w)
    (hcells : ∀ (j : Nat) x, xs[j]? = some x → w.cell? ⟨bk, 0 + j, none⟩ = some (.string x)) (hbk : bk < w.heap.size) (hN : xs.length ≤ 140737488355328) (hcap : xs.length ≤ c) (hlen : l.length + (lineT xs).length + 8 ≤ 140737488355328) (hBw : B ≤ w.heap.size) :
    Calls Tryd.prog 21 #[.pointer (some ⟨b, 0, none⟩), .slice (some ⟨bk, 0, none⟩) xs.length c] w fun e w' => e = .returned (.tuple #[]) ∧ (Lib.IsBuilderF 50 5 B b (Lib.byteCells (l ++ lineT xs)) w' ∧ Below B w w' ∧ Lib.OthersKept 5 (some b) w w') := by
  have hj : (Lib.join (xs.map (·.data.toList)) (⟨#[32]⟩ : ByteArray).data.toList).length + 1 = (lineT xs).length := by simp [lineT]
  have J := Tryd.strings_Join bk 0 c xs ⟨#[32]⟩ w hcells hbk hN hcap (by omega)
  have hT : l ++ lineT xs = l ++ Lib.join (xs.map (·.data.toList)) (⟨#[32]⟩ : ByteArray).data.toList ++ [10] := by simp [lineT]
  rw [hT]
  generalize Lib.join (xs.map (·.data.toList)) (⟨#[32]⟩ : ByteArray).data.toList = T at *
  clear hT
  go_enter Tryd.func21, Tryd.ntmps21
  go_wp2_with fail
  refine J.mono ?_
  rintro e w1 ⟨rfl, hb1⟩
  go_wp2_with fail
  refine (writeString B b (Lib.byteCells l) ⟨T.toArray⟩ w1 (built_below h hb1) (by simp [Lib.byteCells, ByteArray.size]; omega) (Nat.le_trans hBw hb1.size)).mono ?_
  rintro e w2 ⟨rfl, h2, hb2, hk2⟩
  go_wp2_with fail
  refine (writeRune B b _ 10 (by omega) (by omega) w2 (.inr h2) (by simp [Lib.byteCells, Lib.strCells]; omega) (Nat.le_trans hBw (Nat.le_trans hb1.size hb2.size))).mono ?_
  rintro e w3 ⟨rfl, h3, hb3, hk3⟩
  go_wp2
  go_end0
  refine ⟨rfl, .inr ?_, ((hb1.mono hBw).trans hb2).trans hb3, ((kept_below hb1).trans hk2).trans hk3⟩
  rw [feed_cells, Lib.strCells_eq, ← Lib.byteCells_append, ← Lib.byteCells_append] at h3
  exact h3
/-- A name's place; nothing where there is none. -/
def nameAtP (l : List ByteArray) (i : Int) : ByteArray := if i < 0 then ⟨#[]⟩ else (l[i.toNat]?).getD ⟨#[]⟩

set_option maxRecDepth 1000000 in
set_option maxHeartbeats 4000000 in
theorem nameAt_any (v : Value) (l : List ByteArray) (i : Int) (w : World) (h : rowAt w v 1 sC l) (hi : -9223372036854775808 ≤ i ∧ i ≤ 9223372036854775807) :
    Calls Tryd.prog 22 #[v, .int .i64 i] w fun e w' => e = .returned (.string (nameAtP l i)) ∧ w' = w := by
  obtain ⟨oa, cap, rfl, h2⟩ := h
  by_cases h0 : i < 0
  · rw [nameAtP, if_pos h0]
    go_enter Tryd.func22, Tryd.ntmps22
    go_wp2
    go_ret
    exact ⟨rfl, rfl⟩
  · rw [nameAtP, if_neg h0]
    by_cases h1 : (l.length : Int) ≤ i
    · rw [List.getElem?_eq_none (by omega)]
      go_enter Tryd.func22, Tryd.ntmps22
      go_wp2
      go_ret
      exact ⟨rfl, rfl⟩
    · obtain ⟨k, rfl⟩ : ∃ k : Nat, i = k := ⟨i.toNat, by omega⟩
      obtain ⟨x, hx⟩ : ∃ x, l[k]? = some x := ⟨l[k]'(by omega), List.getElem?_eq_getElem _⟩
      obtain ⟨g, off, rfl, hc⟩ := h2 k x hx
      have c0 := hc 0 (.string x) rfl
      rw [show off + k * 1 + 0 = off + k by omega] at c0
      rw [Int.toNat_natCast, hx]
      clear hc h2 hx
      generalize l.length = n at *
      go_enter Tryd.func22, Tryd.ntmps22
      go_wp2
      go_ret
      exact ⟨rfl, rfl⟩
end Go.Proofs.YtgiaicmhnkhbnaaDoor
