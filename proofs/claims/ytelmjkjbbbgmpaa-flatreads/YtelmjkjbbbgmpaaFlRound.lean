/-
  A region that draws its order within a round of a loop over an iterator (every function let in): walked as one outside; its last operations one behind the other.
-/
import Derived.Test.YtelmjkjbbbgmpaaLyFork
import Derived.OrdersIn
import Derived.TacticsIn
import Derived.RangeFuncCalls
namespace Go.Proofs.Ytelmjkjbbbgmpaa
open Go.RowKit

section
variable {P : Program} {ops : Array Oper} {md : Region.Mode} {Q : Exit → Act → World → Prop} {l n : Nat}

theorem oper_round {o : Oper} {a : Act} {w : World} {K K' : Act → World → Prop} (hnd : ∀ c, o.op ≠ .defer c) (h : ∀ a w, K a w → K' a w) (hh : o.wp P a w K Q) : o.wpIn (Fence.wide.inRound l) n P a w K' Q := by
  unfold Oper.wpIn
  refine ⟨fun f _ => trivial, ?_⟩
  rw [Fence.inRound_round, Oper.semAt_some l a.eval o hnd]
  unfold Oper.wp at hh
  generalize (execOp a.eval o).run P w = r at *
  cases r with
  | ok x w' =>
    cases x <;> simp only [Oper.upon] at hh <;> simp only [Oper.uponIn]
    case value v => exact h _ _ hh
    case skip => exact h _ _ hh
    case defer d => exact h _ _ hh
    case enter f args => exact ⟨fun e => (by cases e), CallsIn.inRound l (callsIn_wide.2 (hh.mono fun e w'' he => by cases e <;> first | exact h _ _ he | exact he))⟩
    case row row args => exact ⟨fun e => (by cases e), fun c cs _ => let ⟨v, w', r, s⟩ := hh c cs; ⟨v, w', h _ _ r, stepsIn_wide.2 s⟩⟩
  | halt x w' => cases x <;> simp only [Oper.upon] at hh <;> simp only [Oper.uponIn] <;> exact hh
theorem any_round (hnd : ∀ (i : Nat) (o : Oper) c, ops[i]? = some o → o.op ≠ .defer c) (hno : ¬ LetsOut Q) : ∀ (fuel : Nat) (listed : Array Bool) (a : Act) (w : World), wpAny P md ops Q fuel listed a w → wpAnyIn (Fence.wide.inRound l) n P md ops Q fuel listed a w
  | 0, _, _, _, h => h
  | fuel + 1, listed, a, w, h => ⟨h.1, fun i hi => by
    have hh := h.2 i hi
    unfold wpOp at hh
    unfold wpOpIn
    split
    · rename_i ho
      simp only [ho] at hh
      exact any_round hnd hno fuel _ a w hh
    · rename_i o ho
      simp only [ho] at hh
      split
      · rename_i hw
        simp only [hw, if_true] at hh
        rcases hh with hh | hh
        · exact oper_round (fun c => hnd i o c ho) (fun a' w' hk => any_round hnd hno fuel _ a' w' hk) hh
        · exact absurd hh.2 hno
      · rename_i hw
        simp only [hw] at hh
        exact ⟨fun f _ => trivial, any_round hnd hno fuel _ _ _ hh⟩⟩
/-- No operation is a defer statement. -/
def noDefer (l : List Oper) : Bool := l.all fun o => match o.op with
  | .defer _ => false
  | _ => true
theorem noDefer_spec {l : List Oper} (h : noDefer l = true) (i : Nat) (o : Oper) (c) (ho : l.toArray[i]? = some o) : o.op ≠ .defer c := fun e => by
  rw [List.getElem?_toArray] at ho
  have := List.all_eq_true.1 h o (List.mem_of_getElem? ho)
  rw [e] at this
  cases this
theorem wpIn_region_last {C : World → Prop} {ls oa oB : List Oper} (la B : List Nat) {id : Nat} {a : Act} {w : World} (hno : ¬ LetsOut Q) (hnd : noDefer ls = true) (hm : P.follows .mixedOrders = true) (hs : Region.noSelect ls.toArray = true) (hp : phB .any ls.toArray la = true) (hB : (tailB .any ls.toArray la la B (Array.replicate ls.toArray.size false) && (B.length + la.length == ls.toArray.size)) = true)
    (ha : la.filterMap (fun i => ls.toArray[i]?) = oa) (hBB : B.filterMap (fun i => ls.toArray[i]?) = oB) (hC : C w.drew)
    (h : wpMixL P ls.toArray C (wpList P ls.toArray Q oB) oa a w.drew) : (Code.region id ls.toArray true).wpIn (Fence.wide.inRound l) n P Q a w := by
  rw [Bool.and_eq_true, beq_iff_eq] at hB
  refine wpIn_region_any hm (any_round (noDefer_spec hnd) hno _ _ _ _ (wpAny_of_F (C := C) (A := la) hp _ _ _ _ (fun _ => hC) ?_))
  rw [← hB.2]
  refine wpAnyF_rest hp hs (by rw [hB.2]; exact hB.1) ?_
  rw [ha, hBB]
  exact h
end
end Go.Proofs.Ytelmjkjbbbgmpaa
