/-
  The reference's Ints; package slices: Clone of numbers; are two changes one? the law's known: by contracts.
-/
import Derived.Test.YtelmjkjbbbgmpaaFlDiff
import Derived.Laws.StructEq
namespace Go.Proofs.Ytelmjkjbbbgmpaa
open Go.RowKit

theorem rows_no {α : Type} {xs ys : List α} {k : Nat} {x y : α} (hx : xs[k]? = some x) (hy : ys[k]? = some y) (h : ¬ x = y) : ¬ xs = ys := fun e => by
  rw [e, hy] at hx
  exact h (Option.some.inj hx).symm
set_option maxRecDepth 1000000 in
set_option maxHeartbeats 4000000 in
theorem refInts_any (va vb : Value) (xs ys : List (Int)) (w : World) (ha : rowAt w va 1 iC xs) (hb : rowAt w vb 1 iC ys) (hn : xs.length ≤ 4294967296) :
    Calls Try.prog 11 #[va, vb] w fun e w' => e = .returned (.bool (decide (xs = ys))) ∧ ∃ n, w' = w.drewN n := by
  obtain ⟨oa, ca, rfl, h1⟩ := ha
  obtain ⟨ob, cb, rfl, h2⟩ := hb
  have H1 : Hid (∀ j x, xs[j]? = some x → ∃ g off, oa = some ⟨g, off, none⟩ ∧ ∀ i u, (iC x)[i]? = some u → w.cell? ⟨g, off + j * 1 + i, none⟩ = some u) := h1
  have H2 : Hid (∀ j x, ys[j]? = some x → ∃ g off, ob = some ⟨g, off, none⟩ ∧ ∀ i u, (iC x)[i]? = some u → w.cell? ⟨g, off + j * 1 + i, none⟩ = some u) := h2
  clear h1 h2
  by_cases hlen : xs.length = ys.length
  · generalize hx : xs.length = nx at *
    have HN : Hid (xs.length = nx) := hx
    rw [← hlen]
    have HM : Hid (ys.length = nx) := hlen.symm
    have hbl : ((nx : Int) == (nx : Int)) = true := by simp
    clear hx hlen
    go_enter Try.func11, Try.ntmps11
    go_wp2
    go_loopw [5] (fun i wr => ∃ k n : Nat, i = .int .i64 k ∧ k ≤ nx ∧ wr = w.drewN n ∧ xs.take k = ys.take k) (fun i _ => nx - (intOf i).toNat)
    case atStart => exact ⟨0, 0, rfl, by omega, rfl, by simp⟩
    case round =>
     obtain ⟨k, n, rfl, hk, rfl, ht⟩ := hrel
     have HT : Hid (xs.take k = ys.take k) := ht
     clear ht
     by_cases hlt : k < nx
     · have hki : (k : Int) < (nx : Int) := by omega
       obtain ⟨x, hxk⟩ : ∃ x, xs[k]? = some x := ⟨xs[k]'(by rw [HN.out]; exact hlt), List.getElem?_eq_getElem _⟩
       obtain ⟨y, hyk⟩ : ∃ y, ys[k]? = some y := ⟨ys[k]'(by rw [HM.out]; exact hlt), List.getElem?_eq_getElem _⟩
       obtain ⟨g, off, rfl, hcx⟩ := H1.out k x hxk
       obtain ⟨g', off', rfl, hcy⟩ := H2.out k y hyk
       have HXK : Hid (xs[k]? = some x) := hxk
       have HYK : Hid (ys[k]? = some y) := hyk
       have a0 := hcx 0 _ rfl
       have b0 := hcy 0 _ rfl
       rw [show off + k * 1 + 0 = off + k by omega] at a0
       rw [show off' + k * 1 + 0 = off' + k by omega] at b0
       clear H1 H2 hxk hyk hcx hcy
       by_cases hxy : x = y
       · have HXY : Hid (x = y) := hxy
         have hb : ((x : Int) == y) = true := by simp [hxy]
         clear hxy
         go_wp2_with fail
         go_quiet (fail)
         go_wp2
         go_roundw
         case rel => exact ⟨k + 1, _, by go_num, by omega, rfl, by rw [take_next HXK.out, take_next HYK.out, HT.out, HXY.out]⟩
         case measure => simp [intOf]; omega
       · have HXY : Hid (¬ x = y) := hxy
         have hb : ((x : Int) == y) = false := by simp [hxy]
         clear hxy
         go_wp2_with fail
         go_quiet (fail)
         go_wp2
         go_ret
         exact ⟨fret_bool (decide_eq_false (rows_no HXK.out HYK.out HXY.out)).symm, _, World.drewN_drewN ..⟩
     · have hki : ¬ (k : Int) < (nx : Int) := by omega
       have HE : Hid (xs = ys) := by
         have := HT.out
         rw [List.take_of_length_le (by rw [HN.out]; omega), List.take_of_length_le (by rw [HM.out]; omega)] at this
         exact this
       go_wp2
       go_ret
       exact ⟨fret_bool (decide_eq_true HE.out).symm, _, rfl⟩
  · have HNE : Hid (¬ xs = ys) := fun e => hlen (by rw [e])
    generalize hx : xs.length = nx at *
    generalize hy : ys.length = ny at *
    have hbl : ((nx : Int) == (ny : Int)) = false := by simp; omega
    clear hx hy hlen
    go_enter Try.func11, Try.ntmps11
    go_wp2
    go_ret
    exact ⟨fret_bool (decide_eq_false HNE.out).symm, 0, rfl⟩

set_option maxRecDepth 1000000 in
set_option maxHeartbeats 4000000 in
theorem cloneI_any (v : Value) (ss : List Int) (w : World) (h : rowAt w v 1 iC ss) (hl : ss.length ≤ 1000000) :
    Calls Try.prog 33 #[v] w fun e w' => ∃ u, e = .returned u ∧ w'.ownsRow w.heap.size 3 1 u ss.length (ss.flatMap iC) ∧ Below w.heap.size w w' := by
  obtain ⟨i0, hii, hz0, hz1, hz2⟩ := info_parts infoInt
  obtain ⟨o, c, rfl, q⟩ := h
  cases o with
  | none =>
    obtain ⟨rfl, hn⟩ := row_none (w := w) (cap := c) (n := ss.length) ⟨none, c, rfl, q⟩
    clear q
    have heq : ∀ (n : Nat) W, (binOp .eql 23 (.slice none n c) (.slice none 0 0)).run Try.prog W = .ok (.bool true) W := fun n W => by kernel_rfl
    go_enter Try.func33, Try.ntmps33
    go_wp2
    go_ret
    exact ⟨_, rfl, World.ownsRow_nil _ _ _ _, Below.refl _ _⟩
  | some a =>
    have hc := row_some (cs := iC) (size := 1) (fun _ => rfl) (by omega) (w := w) (cap := c) (n := ss.length) ⟨some a, c, rfl, q⟩
    have HFL : Hid ((ss.flatMap iC).length = ss.length * 1) := flat_lenG (cs := iC) (size := 1) (fun _ => rfl) ss
    have H1 : Hid (∀ u ∈ ss.flatMap iC, u.oneCell' = true) := cells_int ss
    clear q
    generalize ss.flatMap iC = cs at *
    generalize ss.length = n at *
    have hba : Below w.heap.size w (w.alloc (.cells #[] 3)) := (Below.refl _ _).alloc (Nat.le_refl _) _
    have hown : (w.alloc (.cells #[] 3)).ownsRow w.heap.size 3 1 (.slice (some ⟨w.heap.size, 0, none⟩) 0 0) 0 [] := ⟨rfl, .inr ⟨w.heap.size, 0, #[], rfl, Nat.le_refl _, blk_new _ _, Nat.le_refl _, by unfold maxLen; omega, rfl, rfl⟩⟩
    have HC : Hid (∀ j u, cs[j]? = some u → (w.alloc (.cells #[] 3)).cell? (a.add j) = some u) := fun j u hj => up_cell hba (hc j u hj)
    have HB : Hid (Below w.heap.size w (w.alloc (.cells #[] 3))) := hba
    clear hc hba
    have heq : ∀ W, (binOp .eql 23 (.slice (some a) n c) (.slice none 0 0)).run Try.prog W = .ok (.bool false) W := fun W => by kernel_rfl
    go_enter Try.func33, Try.ntmps33
    go_wp2_with (at_builtin; refine wpList_append_own _ rfl _ _ 23 rfl w.heap.size 3 i0 (.int .i64 0) 1 8 Try.underlying23 hii hz0 hz1 hz2 rfl (by decide) _ _ _ rfl hown a n c cs rfl HFL.out HC.out H1.out (by unfold maxLen; omega) (by omega) (by simp) ?_)
    intro v' w3 hown3 hgrow _
    have HO3 : Hid (w3.ownsRow w.heap.size 3 1 v' n cs) := by
      show World.ownsRow _ _ _ _ _ _ _
      simpa using hown3
    have HB3 : Hid (Below w.heap.size w w3) := HB.out.grown hgrow (by simp) (by simp [Value.ownBlock])
    clear hown hown3 hgrow
    go_wp2
    go_ret
    exact ⟨_, rfl, HO3.out, HB3.out⟩

theorem eqGuardCh : Try.prog.eqGuardType Try.prog.depth 65 = false := by kernel_rfl
theorem stoodCh : Try.prog.stoodInHeld 65 = false := by kernel_rfl
theorem fieldsCh : (Try.prog.fieldsOf 65).toList.map (fun f => (f.name, f.type, f.offset)) = [("At", 3, 0), ("To", 3, 1)] := by kernel_rfl
theorem underCh : Try.prog.underlying 65 = some (.struct (Try.prog.fieldsOf 65)) := by kernel_rfl
theorem partCh0 (m n : Int) (W : World) : (part 3 #[.int .i64 m, .int .i64 n] 0).run Try.prog W = .ok (.int .i64 m) W := by go_simp
theorem partCh1 (m n : Int) (W : World) : (part 3 #[.int .i64 m, .int .i64 n] 1).run Try.prog W = .ok (.int .i64 n) W := by go_simp
theorem run_eqCh (m n p q : Int) (W : World) :
    (Op.equalIn 10000 65 (.agg #[.int .i64 m, .int .i64 n]) (.agg #[.int .i64 p, .int .i64 q])).run Try.prog W = .ok (decide (m = p ∧ n = q)) W := by
  rw [run_equalIn_struct W 9999 _ _ _ underCh stoodCh]
  obtain ⟨f, g, hfg⟩ : ∃ f g, (Try.prog.fieldsOf 65).toList = [f, g] := by
    match h : (Try.prog.fieldsOf 65).toList with
    | [f, g] => exact ⟨f, g, rfl⟩
    | [] => have := fieldsCh; rw [h] at this; simp at this
    | [f] => have := fieldsCh; rw [h] at this; simp at this
    | f :: g :: k :: r => have := fieldsCh; rw [h] at this; simp at this
  have hf := fieldsCh
  rw [hfg] at hf ⊢
  simp at hf
  obtain ⟨⟨f1, f2, f3⟩, g1, g2, g3⟩ := hf
  have q1 : ∀ k n : Int, (Op.equalIn 9999 3 (.int .i64 k) (.int .i64 n)).run Try.prog W = .ok (k == n) W := fun k n => run_equalIn_int (P := Try.prog) W 9998 3 .i64 .i64 k n Try.underlying3
  have e1 : ¬ (("At" : String) = "_") := by decide
  have e2 : ¬ (("To" : String) = "_") := by decide
  simp only [Op.eqFields, f1, f2, f3, g1, g2, g3, ne_eq, e1, e2, not_false_eq_true, if_true, Sem.run_bind, partCh0, Result.andThen_ok, q1]
  by_cases hn : m = p <;> by_cases hb : n = q <;> simp [hn, hb, partCh1, q1]
theorem run_neqCh (m n p q : Int) (W : World) : (binOp .neq 65 (.agg #[.int .i64 m, .int .i64 n]) (.agg #[.int .i64 p, .int .i64 q])).run Try.prog W = .ok (.bool (!decide (m = p ∧ n = q))) W := by
  rw [run_neq_struct, run_eqCh]
  rfl
theorem run_eqlCh (m n p q : Int) (W : World) : (binOp .eql 65 (.agg #[.int .i64 m, .int .i64 n]) (.agg #[.int .i64 p, .int .i64 q])).run Try.prog W = .ok (.bool (decide (m = p ∧ n = q))) W := by
  rw [run_eql_struct, run_eqCh]
  rfl
/-- A row of the call's own of one change. -/
theorem owns_ch1 {w : World} {B : Nat} {v : Value} {x : Ch} (h : w.ownsRow B 65 2 v [x].length ([x].flatMap chC)) :
    ∃ g c, v = .slice (some ⟨g, 0, none⟩) 1 c ∧ w.cell? ⟨g, 0, none⟩ = some (.int .i64 x.1) ∧ w.cell? ⟨g, 0 + 1, none⟩ = some (.int .i64 x.2) ∧ B ≤ g ∧ g < w.heap.size := by
  have hr := rowAt_of_owns (cs := chC) (size := 2) (fun _ => rfl) h
  have h' := h
  rcases h.2 with ⟨_, h0⟩ | ⟨g, c, cur, e, hB, hg, _⟩
  · cases h0
  · obtain ⟨oa, c', e', hh⟩ := hr
    rw [e] at e'
    injection e' with e1 e2 e3
    obtain ⟨g', off, e4, hc⟩ := hh 0 x rfl
    rw [← e1] at e4
    injection e4 with e4
    injection e4 with e5 e6
    subst e5 e6
    exact ⟨g, c, e, by simpa using hc 0 _ rfl, by simpa using hc 1 _ rfl, hB, (Array.getElem?_eq_some_iff.1 hg).1⟩

set_option maxRecDepth 1000000 in
set_option maxHeartbeats 2000000 in
theorem fknown_any (w : World) :
    Calls Try.prog 15 #[] w fun e w' => e = .returned (.bool true) ∧ Below w.heap.size w w' := by
  have hd : diffV [1, 2, 3] [1, 5, 3] = [(1, 5)] := by decide +kernel
  have HB1 : Hid (Below w.heap.size w ((w.alloc (.cells #[.int .i64 1, .int .i64 2, .int .i64 3] 3)).alloc (.cells #[.int .i64 1, .int .i64 5, .int .i64 3] 3))) := by show Below _ _ _; exact (by repeat' (with_reducible first | exact Below.refl _ _ | refine Below.drew ?_ | refine _root_.Go.below_drewN ?_ _ | refine Below.alloc ?_ ?_ _ | refine Below.setCell ?_ ?_ _ | exact Nat.le_refl _ | (simp; done) | (simp; omega)))
  have D := diff_any (.slice (some ⟨w.heap.size, 0, none⟩) 3 3) (.slice (some ⟨w.heap.size + 1, 0, none⟩) 3 3) [1, 2, 3] [1, 5, 3] ((w.alloc (.cells #[.int .i64 1, .int .i64 2, .int .i64 3] 3)).alloc (.cells #[.int .i64 1, .int .i64 5, .int .i64 3] 3))
    (row_blk (cs := iC) (fun _ => rfl) [1, 2, 3] (blk_old (blk_new _ _)) rfl) (row_blk (cs := iC) (fun _ => rfl) [1, 5, 3] (blk_at1 _ _ _) rfl) rfl (by decide)
  rw [hd] at D
  have heq := run_eqlCh 1 5 1 5
  have hgd := eqGuardCh
  rw [decide_eq_true ⟨rfl, rfl⟩] at heq
  go_enter Try.func15, Try.ntmps15
  go_wp2_with fail
  refine D.mono ?_
  rintro e w1 ⟨v, rfl, ho, hb⟩
  have HB2 : Hid (Below w.heap.size w w1) := HB1.out.trans (hb.mono HB1.out.size)
  obtain ⟨g, c, rfl, c0, c1, -, -⟩ := owns_ch1 ho
  clear D ho hb hd
  go_wp2
  go_ret
  exact ⟨rfl, HB2.out⟩
end Go.Proofs.Ytelmjkjbbbgmpaa
