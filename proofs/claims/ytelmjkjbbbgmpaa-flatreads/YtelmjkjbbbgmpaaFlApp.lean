/-
  Rows of numbers, of changes, appended to a row of the call's own, whatever they are.
-/
import Derived.Test.YtelmjkjbbbgmpaaFlApply
namespace Go.Proofs.Ytelmjkjbbbgmpaa
open Go.RowKit

theorem append_none_c {P : Program} {w : World} (base : Nat) (t ty e : TypeId) (i : TypeInfo) (size : Nat) (ht : P.underlying t = some (.slice e)) (hi : P.info? e = some i)
    (v : Value) (n : Nat) (xs : List Value) (hown : w.ownsRow base e size v n xs) (c : Nat) :
    (Builtin.append_ #[t, t] ty #[v, .slice none 0 c]).run P w = .ok v w := by
  rcases hown.2 with ⟨rfl, rfl⟩ | ⟨g, cap, cur, rfl, _, _, hnc, _⟩
  · simp [Builtin.append_, run_underlying ht, sizeOf, typeInfo, hi, Builtin.lenOf, Builtin.firstCells]
  · simp [Builtin.append_, run_underlying ht, sizeOf, typeInfo, hi, Builtin.lenOf, Builtin.firstCells, hnc, storeCells]
theorem app_int (w : World) (B : Nat) (v u : Value) (q p : List Int) (h : IRow w B v q) (hB : B ≤ w.heap.size) (hu : rowAt w u 1 iC p) (h5 : q.length + p.length ≤ 1000000) :
    ∃ v1 w1, (Builtin.append_ #[23, 23] 23 #[v, u]).run Try.prog w = .ok v1 w1 ∧ IRow w1 B v1 (q ++ p) ∧ Below B w w1 := by
  obtain ⟨i0, hii, hz0, hz1, hz2⟩ := info_parts infoInt
  have hu' := hu
  obtain ⟨oa, c, rfl, -⟩ := hu
  cases oa with
  | none =>
    obtain ⟨rfl, -⟩ := row_none hu'
    exact ⟨v, w, append_none_c B 23 23 3 i0 1 Try.underlying23 hii v q.length _ h c, by rw [List.append_nil]; exact h, Below.refl _ _⟩
  | some a =>
    obtain ⟨v1, w1, r1, r2, r3, _, _⟩ := run_append_own_at (P := Try.prog) w B 23 23 3 i0 (.int .i64 0) 1 8 Try.underlying23 hii hz0 hz1 hz2 rfl (by decide) v q.length _ h a p.length c (p.flatMap iC)
      (flat_lenG (cs := iC) (size := 1) (fun _ => rfl) p) (row_some (cs := iC) (size := 1) (fun _ => rfl) (by omega) hu') (cells_int p) (by unfold maxLen; omega) (by omega) hB
    refine ⟨v1, w1, r1, ?_, (Below.refl _ _).grown r3 hB fun g e => (h.lt g e).1⟩
    unfold IRow
    rw [List.length_append, List.flatMap_append]
    exact r2
/-- A row of changes of the call's own. -/
def CRow (w : World) (B : Nat) (v : Value) (l : List Ch) : Prop := w.ownsRow B 65 2 v l.length (l.flatMap chC)
theorem CRow.row {w : World} {B : Nat} {v : Value} {l : List Ch} (h : CRow w B v l) : rowAt w v 2 chC l := rowAt_of_owns (fun _ => rfl) h
theorem CRow.below {w w' : World} {B : Nat} {v : Value} {l : List Ch} (h : CRow w B v l) (hb : Below w.heap.size w w') : CRow w' B v l := owns_below h hb
theorem app_ch (w : World) (B : Nat) (v u : Value) (q p : List Ch) (h : CRow w B v q) (hB : B ≤ w.heap.size) (hu : rowAt w u 2 chC p) (h5 : q.length + p.length ≤ 1000000) :
    ∃ v1 w1, (Builtin.append_ #[31, 31] 31 #[v, u]).run Try.prog w = .ok v1 w1 ∧ CRow w1 B v1 (q ++ p) ∧ Below B w w1 := by
  obtain ⟨i0, hii, hz0, hz1, hz2⟩ := info_parts infoCh
  have hu' := hu
  obtain ⟨oa, c, rfl, -⟩ := hu
  cases oa with
  | none =>
    obtain ⟨rfl, -⟩ := row_none hu'
    exact ⟨v, w, append_none_c B 31 31 65 i0 2 Try.underlying31 hii v q.length _ h c, by rw [List.append_nil]; exact h, Below.refl _ _⟩
  | some a =>
    obtain ⟨v1, w1, r1, r2, r3, _, _⟩ := run_append_own_at (P := Try.prog) w B 31 31 65 i0 (.agg #[.int .i64 0, .int .i64 0]) 2 16 Try.underlying31 hii hz0 hz1 hz2 rfl (by decide) v q.length _ h a p.length c (p.flatMap chC)
      (flat_lenG (cs := chC) (size := 2) (fun _ => rfl) p) (row_some (cs := chC) (size := 2) (fun _ => rfl) (by omega) hu') (cells_ch p) (by unfold maxLen; omega) (by omega) hB
    refine ⟨v1, w1, r1, ?_, (Below.refl _ _).grown r3 hB fun g e => (h.lt g e).1⟩
    unfold CRow
    rw [List.length_append, List.flatMap_append]
    exact r2
theorem irow_nil (w : World) : IRow (w.alloc (.cells #[] 3)) w.heap.size (.slice (some ⟨w.heap.size, 0, none⟩) 0 0) [] :=
  ⟨rfl, .inr ⟨w.heap.size, 0, #[], rfl, Nat.le_refl _, blk_new _ _, Nat.le_refl _, Nat.zero_le _, rfl, rfl⟩⟩
theorem crow_nil (w : World) : CRow (w.alloc (.cells #[] 65)) w.heap.size (.slice (some ⟨w.heap.size, 0, none⟩) 0 0) [] :=
  ⟨rfl, .inr ⟨w.heap.size, 0, #[], rfl, Nat.le_refl _, blk_new _ _, Nat.le_refl _, Nat.zero_le _, rfl, rfl⟩⟩
/-- A copy: append to a new row of none. -/
theorem copy_int (w : World) (u : Value) (p : List Int) (hu : rowAt w u 1 iC p) (h5 : p.length ≤ 1000000) :
    ∃ v1 w1, (Builtin.append_ #[23, 23] 23 #[.slice (some ⟨w.heap.size, 0, none⟩) 0 0, u]).run Try.prog (w.alloc (.cells #[] 3)) = .ok v1 w1 ∧ IRow w1 w.heap.size v1 p ∧ Below w.heap.size w w1 := by
  have hb : Below w.heap.size w (w.alloc (.cells #[] 3)) := (Below.refl _ _).alloc (Nat.le_refl _) _
  obtain ⟨v1, w1, h1, h2, h3⟩ := app_int (w.alloc (.cells #[] 3)) w.heap.size _ u [] p (irow_nil w) hb.size (hu.below hb) (by simpa using h5)
  exact ⟨v1, w1, h1, h2, hb.trans h3⟩
theorem wpList_app_run {P : Program} {w : World} {ops : Array Oper} {rest : List Oper} {o : Oper} {a : Act} {Q : Exit → Act → World → Prop} (hgd : o.guard = none) (s x : Operand) (t : TypeId)
    (ho : o.op = .call { callee := .builtin .append, args := #[s, x], argTypes := #[t, t] }) (vs vx : Value) (hs : a.eval s = vs) (hx : a.eval x = vx) (v' : Value) (w' : World)
    (hr : (Builtin.append_ #[t, t] o.type #[vs, vx]).run P w = .ok v' w') (h : wpList P ops Q rest (a.put o.dst v') w') : wpList P ops Q (o :: rest) a w := by
  refine wpList_plain hgd fun K hK => ?_
  unfold Oper.wp execOp
  simp only [ho, resolve, invoke, builtin, Sem.run_bind, Sem.run_pure, Result.andThen_ok, List.map_toArray, List.map_cons, List.map_nil, hs, hx, hr]
  exact hK _ _ h
end Go.Proofs.Ytelmjkjbbbgmpaa
