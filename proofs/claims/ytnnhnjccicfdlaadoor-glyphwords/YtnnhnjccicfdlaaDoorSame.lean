/-
  The law's own 'same' (are two rows of words one?), by a contract.
-/
import Derived.Test.YtnnhnjccicfdlaaDoorSplit
import Derived.Deep.QuietTactic
import Derived.BigQuiet
namespace Go.Proofs.YtnnhnjccicfdlaaDoor
open Go.RowKit

/-- A slice value that holds these words. -/
def hasWords (w : World) (v : Value) (ws : List (ByteArray × Nat)) : Prop :=
  ∃ oa cap, v = .slice oa ws.length cap ∧ ws.length ≤ cap ∧ ∀ j x, ws[j]? = some x → ∃ g, oa = some ⟨g, 0, none⟩ ∧ w.cell? ⟨g, j * 2, none⟩ = some (.string x.1) ∧ w.cell? ⟨g, j * 2 + 1, none⟩ = some (.int .i64 x.2)

theorem wordCells_get : ∀ (ws : List (ByteArray × Nat)) (j : Nat) (x : ByteArray × Nat), ws[j]? = some x → (wordCells ws)[j * 2]? = some (.string x.1) ∧ (wordCells ws)[j * 2 + 1]? = some (.int .i64 x.2)
  | y :: ws, 0, x, h => by simp at h; subst h; simp [wordCells]
  | y :: ws, j + 1, x, h => by
    have ih := wordCells_get ws j x (by simpa using h)
    have e : wordCells (y :: ws) = .string y.1 :: .int .i64 y.2 :: wordCells ws := by simp [wordCells]
    rw [e, show (j + 1) * 2 = j * 2 + 1 + 1 by omega, show j * 2 + 1 + 1 + 1 = (j * 2 + 1) + 1 + 1 by omega]
    simp only [List.getElem?_cons_succ]
    exact ih

theorem addr_add (g j : Nat) : (⟨g, 0, none⟩ : Addr).add j = ⟨g, j, none⟩ := by unfold Addr.add; split <;> simp_all

theorem hasWords_of_owns {w : World} {base : Nat} {e : TypeId} {v : Value} {ws : List (ByteArray × Nat)} (h : w.ownsRow base e 2 v ws.length (wordCells ws)) : hasWords w v ws := by
  rcases h.2 with ⟨h1, h2⟩ | ⟨g, cap, cur, h1, _, _, h2, _⟩
  · have e := List.eq_nil_of_length_eq_zero h2
    subst e
    exact ⟨none, 0, h1, Nat.le_refl _, fun j x hj => by simp at hj⟩
  · refine ⟨some ⟨g, 0, none⟩, cap, h1, h2, fun j x hj => ⟨g, rfl, ?_⟩⟩
    have hc := h.cells (g := g) (by rw [h1]; rfl)
    have hw := wordCells_get ws j x hj
    have a1 := hc _ _ hw.1
    have a2 := hc _ _ hw.2
    rw [addr_add] at a1 a2
    exact ⟨a1, a2⟩

theorem eqGuardW : Tryd.prog.eqGuardType Tryd.prog.depth 37 = false := by kernel_rfl
theorem stoodW : Tryd.prog.stoodInHeld 37 = false := by kernel_rfl
theorem fieldsW : (Tryd.prog.fieldsOf 37).toList.map (fun f => (f.name, f.type, f.offset)) = [("Text", 9, 0), ("At", 3, 1)] := by kernel_rfl
theorem underW : Tryd.prog.underlying 37 = some (.struct (Tryd.prog.fieldsOf 37)) := by kernel_rfl

def wordEq (a : ByteArray) (m : Int) (b : ByteArray) (n : Int) : Bool := decide (a = b ∧ m = n)

theorem partS (a : ByteArray) (m : Int) (W : World) : (part 9 #[.string a, .int .i64 m] 0).run Tryd.prog W = .ok (.string a) W := by go_simp
theorem partI (a : ByteArray) (m : Int) (W : World) : (part 3 #[.string a, .int .i64 m] 1).run Tryd.prog W = .ok (.int .i64 m) W := by go_simp

theorem run_neqW (a b : ByteArray) (m n : Int) (W : World) :
    (binOp .neq 37 (.agg #[.string a, .int .i64 m]) (.agg #[.string b, .int .i64 n])).run Tryd.prog W = .ok (.bool (!wordEq a m b n)) W := by
  rw [run_neq_struct, run_equalIn_struct W 9999 _ _ _ underW stoodW]
  obtain ⟨f, g, hfg⟩ : ∃ f g, (Tryd.prog.fieldsOf 37).toList = [f, g] := by
    match h : (Tryd.prog.fieldsOf 37).toList with
    | [f, g] => exact ⟨f, g, rfl⟩
    | [] => have := fieldsW; rw [h] at this; simp at this
    | [f] => have := fieldsW; rw [h] at this; simp at this
    | f :: g :: k :: r => have := fieldsW; rw [h] at this; simp at this
  have hf := fieldsW
  rw [hfg] at hf ⊢
  simp at hf
  obtain ⟨⟨f1, f2, f3⟩, g1, g2, g3⟩ := hf
  have q1 := fun d => run_equalIn_string (P := Tryd.prog) W d 9 a b Tryd.underlying9
  have q2' := fun k d => run_equalIn_int (P := Tryd.prog) W d 3 .i64 .i64 k n Tryd.underlying3
  have e1 : ¬ (("Text" : String) = "_") := by decide
  have e2 : ¬ (("At" : String) = "_") := by decide
  simp only [Op.eqFields, f1, f2, f3, g1, g2, g3, ne_eq, e1, e2, not_false_eq_true, if_true, Sem.run_bind, partS, Result.andThen_ok, q1 9998]
  have h1 : (a.toList == b.toList) = decide (a = b) := by
    rw [Lib.toList_data, Lib.toList_data, Bool.eq_iff_iff]
    simp only [beq_iff_eq, decide_eq_true_eq]
    exact ⟨fun h => ByteArray.ext (Array.ext' h), fun h => by rw [h]⟩
  rw [h1]
  by_cases ha : a = b <;> by_cases hm : m = n <;> simp [ha, hm, wordEq, partI, q2' _ 9998]

theorem wordEq_pair (x y : ByteArray × Nat) : wordEq x.1 x.2 y.1 y.2 = decide (x = y) := by
  obtain ⟨a, m⟩ := x
  obtain ⟨b, n⟩ := y
  simp only [wordEq, Prod.mk.injEq, Int.ofNat_inj]
theorem take_more {xs : List (ByteArray × Nat)} {k : Nat} {x : ByteArray × Nat} (h : xs[k]? = some x) : xs.take (k + 1) = xs.take k ++ [x] := by
  obtain ⟨hl, rfl⟩ := List.getElem?_eq_some_iff.1 h
  rw [List.take_succ_eq_append_getElem hl]

set_option maxRecDepth 1000000 in
set_option maxHeartbeats 4000000 in
theorem same_some (oa ob : Option Addr) (cap cap' nx : Nat) (xs ys : List (ByteArray × Nat)) (w : World) (hx : nx ≤ 4294967296) (HN : Hid (xs.length = nx)) (HM : Hid (ys.length = nx))
    (h1 : ∀ j x, xs[j]? = some x → ∃ g, oa = some ⟨g, 0, none⟩ ∧ w.cell? ⟨g, j * 2, none⟩ = some (.string x.1) ∧ w.cell? ⟨g, j * 2 + 1, none⟩ = some (.int .i64 x.2))
    (h2 : ∀ j x, ys[j]? = some x → ∃ g, ob = some ⟨g, 0, none⟩ ∧ w.cell? ⟨g, j * 2, none⟩ = some (.string x.1) ∧ w.cell? ⟨g, j * 2 + 1, none⟩ = some (.int .i64 x.2)) :
    Calls Tryd.prog 8 #[.slice oa nx cap, .slice ob nx cap'] w fun e w' => e = .returned (.bool (decide (xs = ys))) ∧ ∃ n, w' = w.drewN n := by
  have H1 : Hid (∀ j x, xs[j]? = some x → ∃ g, oa = some ⟨g, 0, none⟩ ∧ w.cell? ⟨g, j * 2, none⟩ = some (.string x.1) ∧ w.cell? ⟨g, j * 2 + 1, none⟩ = some (.int .i64 x.2)) := h1
  have H2 : Hid (∀ j x, ys[j]? = some x → ∃ g, ob = some ⟨g, 0, none⟩ ∧ w.cell? ⟨g, j * 2, none⟩ = some (.string x.1) ∧ w.cell? ⟨g, j * 2 + 1, none⟩ = some (.int .i64 x.2)) := h2
  clear h1 h2
  go_enter Tryd.func8, Tryd.ntmps8
  go_wp2
  go_loopw [5] (fun i wr => ∃ k n : Nat, i = .int .i64 k ∧ k ≤ nx ∧ wr = w.drewN n ∧ xs.take k = ys.take k) (fun i _ => nx - (intOf i).toNat)
  case atStart => exact ⟨0, 0, rfl, by omega, rfl, by simp⟩
  case round =>
    obtain ⟨k, n, rfl, hk, rfl, ht⟩ := hrel
    have HT : Hid (xs.take k = ys.take k) := ht
    clear ht
    by_cases hlt : k < nx
    · obtain ⟨x, hxk⟩ : ∃ x, xs[k]? = some x := ⟨xs[k]'(by rw [HN.out]; exact hlt), List.getElem?_eq_getElem _⟩
      obtain ⟨y, hyk⟩ : ∃ y, ys[k]? = some y := ⟨ys[k]'(by rw [HM.out]; exact hlt), List.getElem?_eq_getElem _⟩
      obtain ⟨g, rfl, c1, c2⟩ := H1.out k x hxk
      obtain ⟨g', rfl, c3, c4⟩ := H2.out k y hyk
      have HXK : Hid (xs[k]? = some x) := hxk
      have HYK : Hid (ys[k]? = some y) := hyk
      clear H1 H2 hxk hyk
      have e1 := run_neqW x.1 y.1 x.2 y.2
      have e2 := eqGuardW
      have HE : Hid (wordEq x.1 x.2 y.1 y.2 = decide (x = y)) := wordEq_pair x y
      by_cases hxy : x = y
      · rw [HE.out, decide_eq_true hxy] at e1
        have HXY : Hid (x = y) := hxy
        clear hxy HE
        go_wp2_with fail
        go_quiet (fail)
        go_wp2
        go_roundw
        case rel => exact ⟨k + 1, _, by go_num, by omega, rfl, by rw [take_more HXK.out, take_more HYK.out, HT.out, HXY.out]⟩
        case measure => simp [intOf]; omega
      · rw [HE.out, decide_eq_false hxy] at e1
        have HXY : Hid (¬ x = y) := hxy
        clear hxy HE
        go_wp2_with fail
        go_quiet (fail)
        go_wp2
        go_ret
        refine ⟨ret_bool ?_, _, World.drewN_drewN ..⟩
        symm
        rw [decide_eq_false_iff_not]
        intro e
        have := HXK.out
        rw [e, HYK.out] at this
        exact HXY.out (Option.some.inj this).symm
    · go_wp2
      go_ret
      refine ⟨ret_bool ?_, _, rfl⟩
      symm
      rw [decide_eq_true_eq]
      have := HT.out
      rw [List.take_of_length_le (by rw [HN.out]; omega), List.take_of_length_le (by rw [HM.out]; omega)] at this
      exact this

theorem same_any (va vb : Value) (xs ys : List (ByteArray × Nat)) (w : World) (hx : xs.length ≤ 4294967296) (h1 : hasWords w va xs) (h2 : hasWords w vb ys) :
    Calls Tryd.prog 8 #[va, vb] w fun e w' => e = .returned (.bool (decide (xs = ys))) ∧ ∃ n, w' = w.drewN n := by
  obtain ⟨oa, cap, rfl, _, h1⟩ := h1
  obtain ⟨ob, cap', rfl, _, h2⟩ := h2
  by_cases hl : xs.length = ys.length
  · rw [← hl]
    exact same_some oa ob cap cap' xs.length xs ys w hx rfl hl.symm h1 h2
  · have hd : decide (xs = ys) = false := by
      rw [decide_eq_false_iff_not]
      intro e
      exact hl (by rw [e])
    rw [hd]
    clear h1 h2 hd
    generalize xs.length = nx at *
    generalize ys.length = ny at *
    go_enter Tryd.func8, Tryd.ntmps8
    go_wp2
    go_ret
    exact ⟨rfl, 0, rfl⟩
end Go.Proofs.YtnnhnjccicfdlaaDoor
