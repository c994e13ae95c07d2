/-
  Package crate's reading functions, each by a contract: Len, thing, Int, Bool, MustInt, Text, full, Same; strings.Clone.
-/
import Derived.Test.YtelmjkjbbbgmpaaProg
import Derived.Test.YtelmjkjbbbgmpaaShelf
import Derived.WalkKit
import Derived.WalkSmall
import Derived.Stop.Asserts
namespace Go.Proofs.Ytelmjkjbbbgmpaa
open Go.RowKit

theorem ret_bool {a b : Bool} (h : a = b) : Ending.returned (.bool a) = .returned (.bool b) := by rw [h]

theorem clone_any (s : ByteArray) (w : World) (hlim : s.size ≤ 281474976710656) :
    Calls Try.prog 41 #[.string s] w fun e w' => e = .returned (.string s) ∧ Below w.heap.size w w' := by
  go_enter Try.func41, Try.ntmps41
  go_wp2_with (go_at_call 46; refine (Try.stringslite_Clone _ _ hlim).mono ?_; rintro e w' ⟨rfl, hb⟩)
  go_ret
  exact ⟨rfl, hb⟩

/-- A thing: a number, a text, a truth. -/
abbrev It := Int ⊕ (ByteArray ⊕ Bool)

/-- How the crate keeps it. -/
def It.val : It → Value
  | (.inl n) => .iface 3 (.int .i64 n)
  | (.inr (.inl s)) => .iface 9 (.string s)
  | (.inr (.inr b)) => .iface 4 (.bool b)

/-- What a pointer to a crate leads to. -/
def Reads (w : World) (p : Value) (l : List It) : Prop :=
  (p = .pointer none ∧ l = []) ∨ ∃ c oa cap, p = .pointer (some ⟨c, 0, none⟩) ∧ w.cell? ⟨c, 0, none⟩ = some (.slice oa l.length cap) ∧ l.length ≤ cap ∧ l.length ≤ 1000 ∧
    ∀ j x, l[j]? = some x → ∃ g, oa = some ⟨g, 0, none⟩ ∧ w.cell? ⟨g, j, none⟩ = some x.val

theorem Reads.len {w : World} {p : Value} {l : List It} (h : Reads w p l) : l.length ≤ 1000 := by
  rcases h with ⟨_, rfl⟩ | ⟨_, _, _, _, _, _, h, _⟩
  · simp
  · exact h
theorem Reads.below {w w' : World} {p : Value} {l : List It} (h : Reads w p l) (hb : Below w.heap.size w w') : Reads w' p l := by
  rcases h with h | ⟨c, oa, cap, h1, h2, h3, h4, h5⟩
  · exact .inl h
  · refine .inr ⟨c, oa, cap, h1, (hb.cell (p := ⟨c, 0, none⟩) (World.block_lt_of_cell? w _ h2)).trans h2, h3, h4, fun j x hj => ?_⟩
    obtain ⟨g, e, k⟩ := h5 j x hj
    exact ⟨g, e, (hb.cell (p := ⟨g, j, none⟩) (World.block_lt_of_cell? w _ k)).trans k⟩

set_option maxHeartbeats 400000 in
theorem len_any (p : Value) (l : List It) (w : World) (h : Reads w p l) :
    Calls Try.prog 35 #[p] w fun e w' => e = .returned (.int .i64 l.length) ∧ w' = w := by
  have hl := h.len
  rcases h with ⟨rfl, rfl⟩ | ⟨c, oa, cap, rfl, h1, h2, h3, h4⟩
  · go_enter Try.func35, Try.ntmps35
    go_wp2
    go_ret
    exact ⟨rfl, rfl⟩
  · clear h4
    generalize l.length = n at *
    go_enter Try.func35, Try.ntmps35
    go_wp2
    go_ret
    exact ⟨rfl, rfl⟩

/-- The thing at a place. -/
def itAt (l : List It) (i : Int) : Option It := if i < 0 then none else l[i.toNat]?
def itVal : Option It → Value
  | some x => x.val
  | none => .nilIface

set_option maxHeartbeats 400000 in
theorem thing_any (p : Value) (l : List It) (i : Int) (w : World) (h : Reads w p l) :
    Calls Try.prog 45 #[p, .int .i64 i] w fun e w' => e = .returned (itVal (itAt l i)) ∧ w' = w := by
  have hl := h.len
  by_cases hi : i < 0
  · have e1 : itAt l i = none := by simp [itAt, hi]
    rw [e1]
    clear e1 h
    go_enter Try.func45, Try.ntmps45
    go_wp2
    go_ret
    exact ⟨rfl, rfl⟩
  · obtain ⟨k, rfl⟩ := Int.eq_ofNat_of_zero_le (Int.not_lt.1 hi)
    have e1 : itAt l k = l[k]? := by unfold itAt; rw [if_neg hi, Int.toNat_natCast]
    rw [e1]
    clear e1
    by_cases hk : k < l.length
    · obtain ⟨x, hx⟩ : ∃ x, l[k]? = some x := ⟨l[k], List.getElem?_eq_getElem hk⟩
      have HX : Hid (l[k]? = some x) := hx
      have HR : Hid (Reads w p l) := h
      rcases h with ⟨rfl, rfl⟩ | ⟨c, oa, cap, rfl, h1, h2, h3, h4⟩
      · simp at hk
      · obtain ⟨g, rfl, h5⟩ := h4 k x hx
        clear h4 hx
        have HL : Hid (∃ n, n = l.length) := ⟨_, rfl⟩
        rw [HX.out]
        show Calls _ _ _ _ fun e w' => e = .returned x.val ∧ w' = w
        generalize hv : x.val = v at *
        go_enter Try.func45, Try.ntmps45
        go_wp2_with fail
        refine (len_any _ l _ HR.out).mono ?_
        rintro e w' ⟨rfl, rfl⟩
        go_wp2
        go_ret
        exact ⟨rfl, rfl⟩
    · have hx : l[k]? = none := List.getElem?_eq_none (by omega)
      have HR : Hid (Reads w p l) := h
      rw [hx]
      clear hx h
      go_enter Try.func45, Try.ntmps45
      go_wp2_with fail
      refine (len_any _ l _ HR.out).mono ?_
      rintro e w' ⟨rfl, rfl⟩
      go_wp2
      go_ret
      exact ⟨rfl, rfl⟩

/-- What an assertion makes of the thing at a place. -/
def numOf : Option It → Int × Bool
  | some (.inl n) => (n, true)
  | _ => (0, false)
def textOf : Option It → ByteArray × Bool
  | some ((.inr (.inl s))) => (s, true)
  | _ => (⟨#[]⟩, false)
def truthOf : Option It → Bool × Bool
  | some ((.inr (.inr b))) => (b, true)
  | _ => (false, false)

theorem assert_num (o : Option It) (w : World) : (Instr.typeAssert (itVal o) 20 3 true).run Try.prog w = .ok (.tuple #[.int .i64 (numOf o).1, .bool (numOf o).2]) w := by
  rcases o with _ | (n | s | b) <;> kernel_rfl
theorem assert_text (o : Option It) (w : World) : (Instr.typeAssert (itVal o) 20 9 true).run Try.prog w = .ok (.tuple #[.string (textOf o).1, .bool (textOf o).2]) w := by
  rcases o with _ | (n | s | b) <;> kernel_rfl
theorem assert_truth (o : Option It) (w : World) : (Instr.typeAssert (itVal o) 20 4 true).run Try.prog w = .ok (.tuple #[.bool (truthOf o).1, .bool (truthOf o).2]) w := by
  rcases o with _ | (n | s | b) <;> kernel_rfl
theorem assert_must (n : Int) (w : World) : (Instr.typeAssert (itVal (some (.inl n))) 20 3 false).run Try.prog w = .ok (.int .i64 n) w := by
  kernel_rfl

set_option maxHeartbeats 400000 in
theorem int_any (p : Value) (l : List It) (i : Int) (w : World) (h : Reads w p l) :
    Calls Try.prog 36 #[p, .int .i64 i] w fun e w' => e = .returned (.tuple #[.int .i64 (numOf (itAt l i)).1, .bool (numOf (itAt l i)).2]) ∧ w' = w := by
  have HR : Hid (Reads w p l) := h
  clear h
  have ha := assert_num (itAt l i)
  generalize hv : itVal (itAt l i) = v at *
  generalize numOf (itAt l i) = q at *
  obtain ⟨q1, q2⟩ := q
  have HV : Hid (itVal (itAt l i) = v) := hv
  clear hv
  go_enter Try.func36, Try.ntmps36
  go_wp2_with fail
  refine (thing_any _ l _ _ HR.out).mono ?_
  rw [HV.out]
  rintro e w' ⟨rfl, rfl⟩
  go_wp2
  go_ret2
  exact ⟨rfl, rfl⟩

set_option maxHeartbeats 400000 in
theorem text_any (p : Value) (l : List It) (i : Int) (w : World) (h : Reads w p l) (hz : (textOf (itAt l i)).1.size ≤ 281474976710656) :
    Calls Try.prog 37 #[p, .int .i64 i] w fun e w' => e = .returned (.tuple #[.string (textOf (itAt l i)).1, .bool (textOf (itAt l i)).2]) ∧ Below w.heap.size w w' := by
  have HR : Hid (Reads w p l) := h
  clear h
  have ha := assert_text (itAt l i)
  generalize hv : itVal (itAt l i) = v at *
  generalize textOf (itAt l i) = q at *
  obtain ⟨q1, q2⟩ := q
  have HV : Hid (itVal (itAt l i) = v) := hv
  clear hv
  go_enter Try.func37, Try.ntmps37
  go_wp2_with fail
  refine (thing_any _ l _ _ HR.out).mono ?_
  rw [HV.out]
  rintro e w' ⟨rfl, rfl⟩
  go_wp2_with fail
  refine (clone_any _ _ hz).mono ?_
  rintro e w1 ⟨rfl, hb⟩
  go_wp2
  go_ret2
  exact ⟨rfl, hb⟩

theorem run_neqI (x y : It) (w : World) : (binOp .neq 20 x.val y.val).run Try.prog w = .ok (.bool (!decide (x = y))) w := by
  have hu : Try.prog.underlying 20 = some (.interface #[]) := by kernel_rfl
  have h1 : ∀ d : Nat, ∀ a b : Int, (Op.equalIn (d + 2) 20 (.iface 3 (.int .i64 a)) (.iface 3 (.int .i64 b))).run Try.prog w = .ok (a == b) w := fun d a b => by
    obtain ⟨i, hi, hc⟩ : ∃ i, Try.prog.info? 3 = some i ∧ i.comparable = true := Option.map_eq_some_iff.1 (show (Try.prog.info? 3).map (·.comparable) = some true by kernel_rfl)
    simp [Op.equalIn, run_underlying hu, typeInfo, hi, hc, run_underlying Try.underlying3]
  have h2 : ∀ d : Nat, ∀ a b : ByteArray, (Op.equalIn (d + 2) 20 (.iface 9 (.string a)) (.iface 9 (.string b))).run Try.prog w = .ok (a == b) w := fun d a b => by
    obtain ⟨i, hi, hc⟩ : ∃ i, Try.prog.info? 9 = some i ∧ i.comparable = true := Option.map_eq_some_iff.1 (show (Try.prog.info? 9).map (·.comparable) = some true by kernel_rfl)
    simp [Op.equalIn, run_underlying hu, typeInfo, hi, hc, run_underlying Try.underlying9]
  have h3 : ∀ d : Nat, ∀ a b : Bool, (Op.equalIn (d + 2) 20 (.iface 4 (.bool a)) (.iface 4 (.bool b))).run Try.prog w = .ok (a == b) w := fun d a b => by
    obtain ⟨i, hi, hc⟩ : ∃ i, Try.prog.info? 4 = some i ∧ i.comparable = true := Option.map_eq_some_iff.1 (show (Try.prog.info? 4).map (·.comparable) = some true by kernel_rfl)
    simp [Op.equalIn, run_underlying hu, typeInfo, hi, hc, run_underlying Try.underlying4]
  have h4 : ∀ d : Nat, ∀ (s t : TypeId) (a b : Value), s ≠ t → (Op.equalIn (d + 1) 20 (.iface s a) (.iface t b)).run Try.prog w = .ok false w := fun d s t a b hst => by
    simp [Op.equalIn, run_underlying hu, hst]
  have b1 : ∀ a b : Int, (a == b) = decide (a = b) := fun a b => by rw [Bool.eq_iff_iff]; simp
  have b2 : ∀ a b : ByteArray, (a == b) = decide (a = b) := fun a b => by
    rw [beq_toListBytes, Lib.toList_data, Lib.toList_data, Bool.eq_iff_iff]
    simp only [beq_iff_eq, decide_eq_true_eq]
    exact ⟨fun h => ByteArray.ext (Array.ext' h), fun h => by rw [h]⟩
  have b3 : ∀ a b : Bool, (a == b) = decide (a = b) := fun a b => by rw [Bool.eq_iff_iff]; simp
  rcases x with x | x | x <;> rcases y with y | y | y <;> simp only [It.val, binOp] <;> simp [Op.equal, Op.maxDepth, h1 9998, h2 9998, h3 9998, h4 9999, b1, b2, b3]

theorem guardI (x y : It) (a b : Operand) (w : World) : (eqGuard .neq 20 a b x.val y.val).run Try.prog w = .ok () w := by
  rcases x with x | x | x <;> rcases y with y | y | y <;> simp [eqGuard, It.val]

def fullB (p : Value) (n : Nat) : Bool := match p with
  | .pointer none => true
  | _ => decide (100 ≤ n)

set_option maxHeartbeats 400000 in
theorem full_any (p : Value) (l : List It) (w : World) (h : Reads w p l) :
    Calls Try.prog 39 #[p] w fun e w' => e = .returned (.bool (fullB p l.length)) ∧ w' = w := by
  have hl := h.len
  rcases h with ⟨rfl, rfl⟩ | ⟨c, oa, cap, rfl, h1, h2, h3, h4⟩
  · go_enter Try.func39, Try.ntmps39
    go_wp2
    go_ret
    exact ⟨rfl, rfl⟩
  · clear h4
    generalize l.length = n at *
    go_enter Try.func39, Try.ntmps39
    go_wp2
    go_ret
    refine ⟨ret_bool ?_, rfl⟩
    show decide (100 ≤ (n : Int)) = decide (100 ≤ n)
    rw [Bool.eq_iff_iff]
    simp only [decide_eq_true_eq]
    omega

theorem take_more {l : List It} {k : Nat} {x : It} (h : l[k]? = some x) : l.take (k + 1) = l.take k ++ [x] := by
  obtain ⟨hl, rfl⟩ := List.getElem?_eq_some_iff.1 h
  rw [List.take_succ_eq_append_getElem hl]
theorem itVal_some (x : It) : itVal (some x) = x.val := rfl
theorem itAt_nat (l : List It) (k : Nat) : itAt l k = l[k]? := by
  unfold itAt
  rw [if_neg (by omega), Int.toNat_natCast]

end Go.Proofs.Ytelmjkjbbbgmpaa
