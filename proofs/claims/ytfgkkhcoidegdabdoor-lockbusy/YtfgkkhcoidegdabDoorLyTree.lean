/-
  A region that draws its order, walked as a tree: reading operations in a sequence, loud ones that may come up together each way.
-/
import Derived.Test.YtfgkkhcoidegdabDoorLyFork
namespace Go.Proofs.YtfgkkhcoidegdabDoor
open Go.RowKit

section
variable {P : Program} {ops : Array Oper} {md : Region.Mode} {C : World → Prop} {A : List Nat} {Q : Exit → Act → World → Prop}

theorem tree_seq (l : List Nat) {n fuel : Nat} {listed listed' : Array Bool} {os : List Oper} {a : Act} {w : World} (hph : phB md ops A = true) (hs : Region.noSelect ops = true) (hn : n = fuel + l.length) (hB : mixP md ops A l listed = true)
    (ho : l.filterMap (fun i => ops[i]?) = os) (hl : setAll l listed = listed') (h : wpMixL P ops C (fun a' w' => wpAnyF P md ops A C Q fuel listed' a' w') os a w) : wpAnyF P md ops A C Q n listed a w := by
  subst hn ho hl
  exact wpAnyF_pre hph hs fuel l listed a w hB h
theorem tree_end (B : List Nat) {n : Nat} {listed : Array Bool} {oB : List Oper} {a : Act} {w : World} (hn : n = B.length) (hB : lastB md ops A B listed = true) (ho : B.filterMap (fun i => ops[i]?) = oB) (h : wpList P ops Q oB a w) : wpAnyF P md ops A C Q n listed a w := by
  subst hn ho
  exact wpAnyF_last B listed a w hB h
theorem tree_done {n : Nat} {listed : Array Bool} {a : Act} {w : World} (hn : n = 0) (hB : (Region.ready md ops listed).isEmpty = true) (h : Q .normal a w) : wpAnyF P md ops A C Q n listed a w := by
  subst hn
  exact ⟨by simpa using hB, h⟩
theorem tree_two (i j : Nat) {n fuel : Nat} {listed li lj : Array Bool} {oi oj : Oper} {a : Act} {w : World} (hn : n = fuel + 1) (hA : (A.contains i && A.contains j) = true) (hr : Region.ready md ops listed = [i, j]) (hi : ops[i]? = some oi) (hj : ops[j]? = some oj)
    (hli : listed.setIfInBounds i true = li) (hlj : listed.setIfInBounds j true = lj)
    (h1 : wpMixL P ops C (fun a' w' => wpAnyF P md ops A C Q fuel li a' w') [oi] a w) (h2 : wpMixL P ops C (fun a' w' => wpAnyF P md ops A C Q fuel lj a' w') [oj] a w) : wpAnyF P md ops A C Q n listed a w := by
  subst hn hli hlj
  rw [Bool.and_eq_true] at hA
  exact wpAnyF_two hA.1 hA.2 hr (mOp_of_list hi h1) (mOp_of_list hj h2)
theorem tree_three (i j k : Nat) {n fuel : Nat} {listed li lj lk : Array Bool} {oi oj ok : Oper} {a : Act} {w : World} (hn : n = fuel + 1) (hA : (A.contains i && (A.contains j && A.contains k)) = true) (hr : Region.ready md ops listed = [i, j, k]) (hi : ops[i]? = some oi) (hj : ops[j]? = some oj) (hk : ops[k]? = some ok)
    (hli : listed.setIfInBounds i true = li) (hlj : listed.setIfInBounds j true = lj) (hlk : listed.setIfInBounds k true = lk)
    (h1 : wpMixL P ops C (fun a' w' => wpAnyF P md ops A C Q fuel li a' w') [oi] a w) (h2 : wpMixL P ops C (fun a' w' => wpAnyF P md ops A C Q fuel lj a' w') [oj] a w) (h3 : wpMixL P ops C (fun a' w' => wpAnyF P md ops A C Q fuel lk a' w') [ok] a w) : wpAnyF P md ops A C Q n listed a w := by
  subst hn hli hlj hlk
  rw [Bool.and_eq_true, Bool.and_eq_true] at hA
  refine ⟨fun h0 => (by rw [hr] at h0; cases h0), fun x hx => ?_⟩
  rw [hr] at hx
  rcases List.mem_cons.1 hx with rfl | hx
  · exact stepF2_in hA.1 (mOp_of_list hi h1)
  rcases List.mem_cons.1 hx with rfl | hx
  · exact stepF2_in hA.2.1 (mOp_of_list hj h2)
  · rw [List.mem_singleton] at hx
    subst hx
    exact stepF2_in hA.2.2 (mOp_of_list hk h3)
theorem wp_region_tree {l : List Oper} (A : List Nat) {n id : Nat} {a : Act} {w : World} (hm : P.follows .mixedOrders = true) (hp : phB .any l.toArray A = true) (hn : l.toArray.size = n) {listed : Array Bool} (hl : Array.replicate n false = listed) (hC : C w.drew)
    (h : wpAnyF P .any l.toArray A C Q n listed a w.drew) : (Code.region id l.toArray true).wp P Q a w := by
  subst hl hn
  exact wp_region_any hm (wpAny_of_F (C := C) (A := A) hp _ _ _ _ (fun _ => hC) h)
end
end Go.Proofs.YtfgkkhcoidegdabDoor
