/-
  A region that draws its order and whose callees make new memory alone: one walk, in the worlds in which nothing old has turned. And: are two needs one?
-/
import Derived.Test.YtbifcicipkhohabPlKnown
import Derived.BigQuiet
import Derived.Laws.StructEq
namespace Go.Proofs.Ytbifcicipkhohab
open Go.RowKit

/-- A world in which nothing old has turned. -/
structure Ext (W : World) where
  z : World
  h : Below W.heap.size W z

theorem wp_region_ext {P : Program} {id : Nat} {Q : Exit → Act → World → Prop} {a : Act} {w : World} {l : List Oper} (hm : P.follows .mixedOrders = true) (hB : Region.lexB .any l.toArray = true)
    (h : wpQuiet P l.toArray (fun w' => ∃ y : Ext w, w' = y.z) (fun a' => ∀ w', (∃ y : Ext w, w' = y.z) → Q .normal a' w') l a) : (Code.region id l.toArray true).wp P Q a w :=
  wp_region_quiet (C := fun w' => ∃ y : Ext w, w' = y.z) hm hB ⟨⟨w.drew, (Below.refl _ _).drew⟩, rfl⟩ h
theorem ext_of {P : Program} {f : FuncId} {args : Array Value} {w : World} {y : Ext w} {v : Value}
    (h : Calls P f args y.z fun e w' => e = .returned v ∧ Below y.z.heap.size y.z w') : Calls P f args y.z fun e w'' => e = .returned v ∧ ∃ x : Ext w, w'' = x.z :=
  h.mono fun _ w' ⟨he, hb⟩ => ⟨he, ⟨w', y.h.trans (hb.mono y.h.size)⟩, rfl⟩
theorem ext_of_same {P : Program} {f : FuncId} {args : Array Value} {w : World} {y : Ext w} {v : Value}
    (h : Calls P f args y.z fun e w' => e = .returned v ∧ w' = y.z) : Calls P f args y.z fun e w'' => e = .returned v ∧ ∃ x : Ext w, w'' = x.z :=
  h.mono fun _ _ ⟨he, hw⟩ => ⟨he, y, hw⟩
theorem ext_cell {w : World} {p : Addr} {v : Value} (h : w.cell? p = some v) (y : Ext w) : y.z.cell? p = some v := (y.h.cell (World.block_lt_of_cell? w p h)).trans h

theorem eqGuardN : Try.prog.eqGuardType Try.prog.depth 38 = false := by kernel_rfl
theorem stoodN : Try.prog.stoodInHeld 38 = false := by kernel_rfl
theorem fieldsN : (Try.prog.fieldsOf 38).toList.map (fun f => (f.name, f.type, f.offset)) = [("Point", 3, 0), ("Reverse", 4, 1)] := by kernel_rfl
theorem underN : Try.prog.underlying 38 = some (.struct (Try.prog.fieldsOf 38)) := by kernel_rfl
theorem partNI (n : Int) (b : Bool) (W : World) : (part 3 #[.int .i64 n, .bool b] 0).run Try.prog W = .ok (.int .i64 n) W := by go_simp
theorem partNB (n : Int) (b : Bool) (W : World) : (part 4 #[.int .i64 n, .bool b] 1).run Try.prog W = .ok (.bool b) W := by go_simp

theorem run_eqN (n m : Int) (a b : Bool) (W : World) :
    (Op.equalIn 10000 38 (.agg #[.int .i64 n, .bool a]) (.agg #[.int .i64 m, .bool b])).run Try.prog W = .ok (decide (n = m ∧ a = b)) W := by
  rw [run_equalIn_struct W 9999 _ _ _ underN stoodN]
  obtain ⟨f, g, hfg⟩ : ∃ f g, (Try.prog.fieldsOf 38).toList = [f, g] := by
    match h : (Try.prog.fieldsOf 38).toList with
    | [f, g] => exact ⟨f, g, rfl⟩
    | [] => have := fieldsN; rw [h] at this; simp at this
    | [f] => have := fieldsN; rw [h] at this; simp at this
    | f :: g :: k :: r => have := fieldsN; rw [h] at this; simp at this
  have hf := fieldsN
  rw [hfg] at hf ⊢
  simp at hf
  obtain ⟨⟨f1, f2, f3⟩, g1, g2, g3⟩ := hf
  have q1 : ∀ k n : Int, (Op.equalIn 9999 3 (.int .i64 k) (.int .i64 n)).run Try.prog W = .ok (k == n) W := fun k n => run_equalIn_int (P := Try.prog) W 9998 3 .i64 .i64 k n Try.underlying3
  have q2 : ∀ a b : Bool, (Op.equalIn 9999 4 (.bool a) (.bool b)).run Try.prog W = .ok (a == b) W := fun a b => run_equalIn_bool (P := Try.prog) W 9998 4 a b Try.underlying4
  have e1 : ¬ (("Point" : String) = "_") := by decide
  have e2 : ¬ (("Reverse" : String) = "_") := by decide
  simp only [Op.eqFields, f1, f2, f3, g1, g2, g3, ne_eq, e1, e2, not_false_eq_true, if_true, Sem.run_bind, partNI, Result.andThen_ok, q1]
  by_cases hn : n = m <;> by_cases hb : a = b <;> simp [hn, hb, partNB, q2]

theorem run_eqlN (n m : Int) (a b : Bool) (W : World) : (binOp .eql 38 (.agg #[.int .i64 n, .bool a]) (.agg #[.int .i64 m, .bool b])).run Try.prog W = .ok (.bool (decide (n = m ∧ a = b))) W := by
  rw [run_eql_struct, run_eqN]
  rfl

end Go.Proofs.Ytbifcicipkhohab
