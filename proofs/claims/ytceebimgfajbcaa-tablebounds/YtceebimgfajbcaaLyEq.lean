/-
  Are two needs one? Are two points? By laws.
-/
import Derived.Test.YtceebimgfajbcaaTbBase
import Derived.Laws.StructEq
namespace Go.Proofs.Ytceebimgfajbcaa
open Go.RowKit

theorem eqGuardNd : Try.prog.eqGuardType Try.prog.depth 35 = false := by kernel_rfl
theorem stoodNd : Try.prog.stoodInHeld 35 = false := by kernel_rfl
theorem fieldsNd : (Try.prog.fieldsOf 35).toList.map (fun f => (f.name, f.type, f.offset)) = [("Point", 3, 0), ("Reverse", 4, 1)] := by kernel_rfl
theorem underNeed : Try.prog.underlying 35 = some (.struct (Try.prog.fieldsOf 35)) := by kernel_rfl
theorem partNdI (n : Int) (b : Bool) (W : World) : (part 3 #[.int .i64 n, .bool b] 0).run Try.prog W = .ok (.int .i64 n) W := by go_simp
theorem partNdB (n : Int) (b : Bool) (W : World) : (part 4 #[.int .i64 n, .bool b] 1).run Try.prog W = .ok (.bool b) W := by go_simp
theorem run_eqNd (n m : Int) (a b : Bool) (W : World) :
    (Op.equalIn 10000 35 (.agg #[.int .i64 n, .bool a]) (.agg #[.int .i64 m, .bool b])).run Try.prog W = .ok (decide (n = m ∧ a = b)) W := by
  rw [run_equalIn_struct W 9999 _ _ _ underNeed stoodNd]
  obtain ⟨f, g, hfg⟩ : ∃ f g, (Try.prog.fieldsOf 35).toList = [f, g] := by
    match h : (Try.prog.fieldsOf 35).toList with
    | [f, g] => exact ⟨f, g, rfl⟩
    | [] => have := fieldsNd; rw [h] at this; simp at this
    | [f] => have := fieldsNd; rw [h] at this; simp at this
    | f :: g :: k :: r => have := fieldsNd; rw [h] at this; simp at this
  have hf := fieldsNd
  rw [hfg] at hf ⊢
  simp at hf
  obtain ⟨⟨f1, f2, f3⟩, g1, g2, g3⟩ := hf
  have q1 : ∀ k n : Int, (Op.equalIn 9999 3 (.int .i64 k) (.int .i64 n)).run Try.prog W = .ok (k == n) W := fun k n => run_equalIn_int (P := Try.prog) W 9998 3 .i64 .i64 k n Try.underlying3
  have q2 : ∀ a b : Bool, (Op.equalIn 9999 4 (.bool a) (.bool b)).run Try.prog W = .ok (a == b) W := fun a b => run_equalIn_bool (P := Try.prog) W 9998 4 a b Try.underlying4
  have e1 : ¬ (("Point" : String) = "_") := by decide
  have e2 : ¬ (("Reverse" : String) = "_") := by decide
  simp only [Op.eqFields, f1, f2, f3, g1, g2, g3, ne_eq, e1, e2, not_false_eq_true, if_true, Sem.run_bind, partNdI, Result.andThen_ok, q1]
  by_cases hn : n = m <;> by_cases hb : a = b <;> simp [hn, hb, partNdB, q2]
theorem run_neqNd (n m : Int) (a b : Bool) (W : World) : (binOp .neq 35 (.agg #[.int .i64 n, .bool a]) (.agg #[.int .i64 m, .bool b])).run Try.prog W = .ok (.bool (!decide (n = m ∧ a = b))) W := by
  rw [run_neq_struct, run_eqNd]
  rfl

theorem eqGuardPt : Try.prog.eqGuardType Try.prog.depth 29 = false := by kernel_rfl
theorem stoodPt : Try.prog.stoodInHeld 29 = false := by kernel_rfl
theorem fieldsPt : (Try.prog.fieldsOf 29).toList.map (fun f => (f.name, f.type, f.offset)) = [("Name", 9, 0), ("Section", 3, 1)] := by kernel_rfl
theorem underPoint : Try.prog.underlying 29 = some (.struct (Try.prog.fieldsOf 29)) := by kernel_rfl
theorem partPtS (a : ByteArray) (m : Int) (W : World) : (part 9 #[.string a, .int .i64 m] 0).run Try.prog W = .ok (.string a) W := by go_simp
theorem partPtI (a : ByteArray) (m : Int) (W : World) : (part 3 #[.string a, .int .i64 m] 1).run Try.prog W = .ok (.int .i64 m) W := by go_simp
theorem run_neqPt (a b : ByteArray) (m n : Int) (W : World) :
    (binOp .neq 29 (.agg #[.string a, .int .i64 m]) (.agg #[.string b, .int .i64 n])).run Try.prog W = .ok (.bool (!decide (a = b ∧ m = n))) W := by
  rw [run_neq_struct, run_equalIn_struct W 9999 _ _ _ underPoint stoodPt]
  obtain ⟨f, g, hfg⟩ : ∃ f g, (Try.prog.fieldsOf 29).toList = [f, g] := by
    match h : (Try.prog.fieldsOf 29).toList with
    | [f, g] => exact ⟨f, g, rfl⟩
    | [] => have := fieldsPt; rw [h] at this; simp at this
    | [f] => have := fieldsPt; rw [h] at this; simp at this
    | f :: g :: k :: r => have := fieldsPt; rw [h] at this; simp at this
  have hf := fieldsPt
  rw [hfg] at hf ⊢
  simp at hf
  obtain ⟨⟨f1, f2, f3⟩, g1, g2, g3⟩ := hf
  have q1 := fun d => run_equalIn_string (P := Try.prog) W d 9 a b Try.underlying9
  have q2' := fun k d => run_equalIn_int (P := Try.prog) W d 3 .i64 .i64 k n Try.underlying3
  have e1 : ¬ (("Name" : String) = "_") := by decide
  have e2 : ¬ (("Section" : String) = "_") := by decide
  simp only [Op.eqFields, f1, f2, f3, g1, g2, g3, ne_eq, e1, e2, not_false_eq_true, if_true, Sem.run_bind, partPtS, Result.andThen_ok, q1 9998]
  have h1 : (a.toList == b.toList) = decide (a = b) := by
    rw [Lib.toList_data, Lib.toList_data, Bool.eq_iff_iff]
    simp only [beq_iff_eq, decide_eq_true_eq]
    exact ⟨fun h => ByteArray.ext (Array.ext' h), fun h => by rw [h]⟩
  rw [h1]
  by_cases ha : a = b <;> by_cases hm : m = n <;> simp [ha, hm, partPtI, q2' _ 9998]
end Go.Proofs.Ytceebimgfajbcaa
