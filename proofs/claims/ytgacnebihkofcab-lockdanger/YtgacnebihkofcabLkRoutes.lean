/-
  Package slices: Clone of numbers and of routes' states; package lock: Routes: by contracts.
-/
import Derived.Test.YtgacnebihkofcabLkCycle
namespace Go.Proofs.Ytgacnebihkofcab
open Go.RowKit

theorem flat_lenG {α : Type} {cs : α → List Value} {size : Nat} (hs : ∀ x, (cs x).length = size) (l : List α) : (l.flatMap cs).length = l.length * size := by
  induction l with
  | nil => simp
  | cons x l ih => rw [List.flatMap_cons, List.length_append, ih, List.length_cons, hs, Nat.add_mul]; omega
theorem row_flatG {α : Type} {cs : α → List Value} {size : Nat} (hs : ∀ x, (cs x).length = size) (h0 : 0 < size) {w : World} {g off n cap : Nat} {l : List α} (h : rowAt w (.slice (some ⟨g, off, none⟩) n cap) size cs l) : ∀ j u, (l.flatMap cs)[j]? = some u → w.cell? ((⟨g, off, none⟩ : Addr).add j) = some u := by
  intro j u hj
  obtain ⟨oa, c, e, h2⟩ := h
  injection e with e1 e2 e3
  have hlt : j < (l.flatMap cs).length := (List.getElem?_eq_some_iff.1 hj).1
  rw [flat_lenG hs] at hlt
  have hq : j / size < l.length := (Nat.div_lt_iff_lt_mul h0).2 hlt
  obtain ⟨x, hx⟩ : ∃ x, l[j / size]? = some x := at_of hq
  obtain ⟨g', off', e4, hc⟩ := h2 _ _ hx
  rw [← e1] at e4
  injection e4 with e4
  injection e4 with e5 e6
  subst e5 e6
  have hi : j % size < (cs x).length := by rw [hs]; exact Nat.mod_lt _ h0
  have hdm : j / size * size + j % size = j := by rw [Nat.mul_comm]; exact Nat.div_add_mod j size
  have hu : (cs x)[j % size]? = some u := by
    have h3 := flat_get (cs := cs) (size := size) hs l (j / size) x (j % size) _ hx (List.getElem?_eq_getElem hi)
    rw [hdm, hj] at h3
    rw [List.getElem?_eq_getElem hi]
    exact h3.symm
  have := hc (j % size) u hu
  rw [Nat.add_assoc, hdm] at this
  have ha : (⟨g, off, none⟩ : Addr).add j = ⟨g, off + j, none⟩ := by unfold Addr.add; split <;> simp_all
  rw [ha]
  exact this
theorem infoSt : (Try.prog.info? 76).map (fun i => (i.zero, i.size, i.bytes)) = some (some (.agg #[.int .i64 0, .int .i64 0, .int .i64 0, .bool false]), 4, 32) := by kernel_rfl
theorem cells_st : ∀ (l : List St), ∀ u ∈ l.flatMap stC, u.oneCell' = true := by
  intro l u hu
  obtain ⟨x, _, h⟩ := List.mem_flatMap.1 hu
  simp [stC] at h
  rcases h with h | h | h | h <;> subst h <;> rfl
theorem cells_int : ∀ (l : List Int), ∀ u ∈ l.flatMap iC, u.oneCell' = true := by
  intro l u hu
  obtain ⟨x, _, h⟩ := List.mem_flatMap.1 hu
  simp [iC] at h
  subst h
  rfl
theorem row_none {α : Type} {cs : α → List Value} {size : Nat} {w : World} {n cap : Nat} {l : List α} (h : rowAt w (.slice none n cap) size cs l) : l = [] ∧ n = 0 := by
  obtain ⟨oa, c, e, h2⟩ := h
  injection e with e1 e2 e3
  cases l with
  | nil => exact ⟨rfl, by simpa using e2⟩
  | cons x l =>
    obtain ⟨g, off, e4, _⟩ := h2 0 x rfl
    rw [← e1] at e4
    cases e4
theorem row_some {α : Type} {cs : α → List Value} {size : Nat} (hs : ∀ x, (cs x).length = size) (h0 : 0 < size) {w : World} {a : Addr} {n cap : Nat} {l : List α} (h : rowAt w (.slice (some a) n cap) size cs l) : ∀ j u, (l.flatMap cs)[j]? = some u → w.cell? (a.add j) = some u := by
  cases l with
  | nil => intro j u hj; simp at hj
  | cons x l =>
    have h' := h
    obtain ⟨oa, c, e, h2⟩ := h
    injection e with e1 e2 e3
    obtain ⟨g, off, e4, _⟩ := h2 0 x rfl
    rw [← e1] at e4
    injection e4 with e4
    subst e4
    exact row_flatG hs h0 h'
theorem row_len {α : Type} {cs : α → List Value} {size : Nat} {w : World} {o : Option Addr} {n cap : Nat} {l : List α} (h : rowAt w (.slice o n cap) size cs l) : n = l.length := by
  obtain ⟨oa, c, e, _⟩ := h
  injection e with e1 e2 e3

set_option maxRecDepth 1000000 in
set_option maxHeartbeats 4000000 in
theorem cloneSt_any (v : Value) (ss : List St) (w : World) (h : rowAt w v 4 stC ss) (hl : ss.length ≤ 1000000) :
    Calls Try.prog 26 #[v] w fun e w' => ∃ u, e = .returned u ∧ w'.ownsRow w.heap.size 76 4 u ss.length (ss.flatMap stC) ∧ Below w.heap.size w w' := by
  obtain ⟨i0, hii, hz0, hz1, hz2⟩ := info_parts infoSt
  obtain ⟨o, c, rfl, q⟩ := h
  cases o with
  | none =>
    obtain ⟨rfl, hn⟩ := row_none (w := w) (cap := c) (n := ss.length) ⟨none, c, rfl, q⟩
    clear q
    have heq : ∀ (n : Nat) W, (binOp .eql 42 (.slice none n c) (.slice none 0 0)).run Try.prog W = .ok (.bool true) W := fun n W => by kernel_rfl
    go_enter Try.func26, Try.ntmps26
    go_wp2
    go_ret
    exact ⟨_, rfl, World.ownsRow_nil _ _ _ _, Below.refl _ _⟩
  | some a =>
    have hc := row_some (cs := stC) (size := 4) (fun _ => rfl) (by omega) (w := w) (cap := c) (n := ss.length) ⟨some a, c, rfl, q⟩
    have HFL : Hid ((ss.flatMap stC).length = ss.length * 4) := flat_st_len ss
    have H1 : Hid (∀ u ∈ ss.flatMap stC, u.oneCell' = true) := cells_st ss
    clear q
    generalize ss.flatMap stC = cs at *
    generalize ss.length = n at *
    have hba : Below w.heap.size w (w.alloc (.cells #[] 76)) := (Below.refl _ _).alloc (Nat.le_refl _) _
    have hown : (w.alloc (.cells #[] 76)).ownsRow w.heap.size 76 4 (.slice (some ⟨w.heap.size, 0, none⟩) 0 0) 0 [] := ⟨rfl, .inr ⟨w.heap.size, 0, #[], rfl, Nat.le_refl _, blk_new _ _, Nat.le_refl _, by unfold maxLen; omega, rfl, rfl⟩⟩
    have HC : Hid (∀ j u, cs[j]? = some u → (w.alloc (.cells #[] 76)).cell? (a.add j) = some u) := fun j u hj => up_cell hba (hc j u hj)
    have HB : Hid (Below w.heap.size w (w.alloc (.cells #[] 76))) := hba
    clear hc hba
    have heq : ∀ W, (binOp .eql 42 (.slice (some a) n c) (.slice none 0 0)).run Try.prog W = .ok (.bool false) W := fun W => by kernel_rfl
    go_enter Try.func26, Try.ntmps26
    go_wp2_with (at_builtin; refine wpList_append_own _ rfl _ _ 42 rfl w.heap.size 76 i0 (.agg #[.int .i64 0, .int .i64 0, .int .i64 0, .bool false]) 4 32 Try.underlying42 hii hz0 hz1 hz2 rfl (by decide) _ _ _ rfl hown a n c cs rfl HFL.out HC.out H1.out (by unfold maxLen; omega) (by omega) (by simp) ?_)
    intro v' w3 hown3 hgrow _
    have HO3 : Hid (w3.ownsRow w.heap.size 76 4 v' n cs) := by
      show World.ownsRow _ _ _ _ _ _ _
      simpa using hown3
    have HB3 : Hid (Below w.heap.size w w3) := HB.out.grown hgrow (by simp) (by simp [Value.ownBlock])
    clear hown hown3 hgrow
    go_wp2
    go_ret
    exact ⟨_, rfl, HO3.out, HB3.out⟩
set_option maxRecDepth 1000000 in
set_option maxHeartbeats 4000000 in
theorem cloneI_any (v : Value) (ss : List Int) (w : World) (h : rowAt w v 1 iC ss) (hl : ss.length ≤ 1000000) :
    Calls Try.prog 34 #[v] w fun e w' => ∃ u, e = .returned u ∧ w'.ownsRow w.heap.size 3 1 u ss.length (ss.flatMap iC) ∧ Below w.heap.size w w' := by
  obtain ⟨i0, hii, hz0, hz1, hz2⟩ := info_parts infoInt
  obtain ⟨o, c, rfl, q⟩ := h
  cases o with
  | none =>
    obtain ⟨rfl, hn⟩ := row_none (w := w) (cap := c) (n := ss.length) ⟨none, c, rfl, q⟩
    clear q
    have heq : ∀ (n : Nat) W, (binOp .eql 33 (.slice none n c) (.slice none 0 0)).run Try.prog W = .ok (.bool true) W := fun n W => by kernel_rfl
    go_enter Try.func34, Try.ntmps34
    go_wp2
    go_ret
    exact ⟨_, rfl, World.ownsRow_nil _ _ _ _, Below.refl _ _⟩
  | some a =>
    have hc := row_some (cs := iC) (size := 1) (fun _ => rfl) (by omega) (w := w) (cap := c) (n := ss.length) ⟨some a, c, rfl, q⟩
    have HFL : Hid ((ss.flatMap iC).length = ss.length * 1) := flat_lenG (cs := iC) (size := 1) (fun _ => rfl) ss
    have H1 : Hid (∀ u ∈ ss.flatMap iC, u.oneCell' = true) := cells_int ss
    clear q
    generalize ss.flatMap iC = cs at *
    generalize ss.length = n at *
    have hba : Below w.heap.size w (w.alloc (.cells #[] 3)) := (Below.refl _ _).alloc (Nat.le_refl _) _
    have hown : (w.alloc (.cells #[] 3)).ownsRow w.heap.size 3 1 (.slice (some ⟨w.heap.size, 0, none⟩) 0 0) 0 [] := ⟨rfl, .inr ⟨w.heap.size, 0, #[], rfl, Nat.le_refl _, blk_new _ _, Nat.le_refl _, by unfold maxLen; omega, rfl, rfl⟩⟩
    have HC : Hid (∀ j u, cs[j]? = some u → (w.alloc (.cells #[] 3)).cell? (a.add j) = some u) := fun j u hj => up_cell hba (hc j u hj)
    have HB : Hid (Below w.heap.size w (w.alloc (.cells #[] 3))) := hba
    clear hc hba
    have heq : ∀ W, (binOp .eql 33 (.slice (some a) n c) (.slice none 0 0)).run Try.prog W = .ok (.bool false) W := fun W => by kernel_rfl
    go_enter Try.func34, Try.ntmps34
    go_wp2_with (at_builtin; refine wpList_append_own _ rfl _ _ 33 rfl w.heap.size 3 i0 (.int .i64 0) 1 8 Try.underlying33 hii hz0 hz1 hz2 rfl (by decide) _ _ _ rfl hown a n c cs rfl HFL.out HC.out H1.out (by unfold maxLen; omega) (by omega) (by simp) ?_)
    intro v' w3 hown3 hgrow _
    have HO3 : Hid (w3.ownsRow w.heap.size 3 1 v' n cs) := by
      show World.ownsRow _ _ _ _ _ _ _
      simpa using hown3
    have HB3 : Hid (Below w.heap.size w w3) := HB.out.grown hgrow (by simp) (by simp [Value.ownBlock])
    clear hown hown3 hgrow
    go_wp2
    go_ret
    exact ⟨_, rfl, HO3.out, HB3.out⟩

set_option maxRecDepth 1000000 in
set_option maxHeartbeats 4000000 in
theorem routes_any (kb : Nat) (u : Nat → Value) (ns ng : Nat) (pts : List Int) (ws : List WyV) (ss : List St) (w : World) (h : LkRd w kb u ns ng pts ws ss) (hl : ss.length ≤ 1000000) :
    Calls Try.prog 14 #[.pointer (some ⟨kb, 0, none⟩)] w fun e w' => ∃ v, e = .returned v ∧ w'.ownsRow w.heap.size 76 4 v ss.length (ss.flatMap stC) ∧ Below w.heap.size w w' := by
  have D := cloneSt_any (u 2) ss w h.s hl
  have h4 := h.c4
  obtain ⟨o, c, e, _⟩ := h.s
  rw [e] at D h4
  clear h e hl
  go_enter Try.func14, Try.ntmps14
  go_wp2_with fail
  refine D.mono ?_
  rintro e w2 ⟨v, rfl, ho, hb⟩
  have HO : Hid (w2.ownsRow w.heap.size 76 4 v ss.length (ss.flatMap stC) ∧ Below w.heap.size w w2) := ⟨ho, hb⟩
  clear ho hb
  go_wp2
  go_ret
  exact ⟨_, rfl, HO.out.1, HO.out.2⟩
end Go.Proofs.Ytgacnebihkofcab
