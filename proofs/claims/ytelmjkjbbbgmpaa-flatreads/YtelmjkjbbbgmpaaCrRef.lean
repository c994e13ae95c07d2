/-
  The reference's crate: Add, At, Same by contracts.
-/
import Derived.Test.YtelmjkjbbbgmpaaCrAdd
import Derived.Deep.RegionLaw
import Derived.Deep.QuietTactic
import Derived.BigQuiet
namespace Go.Proofs.Ytelmjkjbbbgmpaa
open Go.RowKit

/-- The reference's thing. -/
structure Th where
  k : Int
  n : Int
  s : ByteArray
  b : Bool
def Th.tup (t : Th) : Int × Int × ByteArray × Bool := (t.k, t.n, t.s, t.b)
theorem tup_inj {x y : Th} (h : x.tup = y.tup) : x = y := by
  obtain ⟨a, b, c, d⟩ := x
  obtain ⟨a', b', c', d'⟩ := y
  simp only [Th.tup, Prod.mk.injEq] at h
  obtain ⟨rfl, rfl, rfl, rfl⟩ := h
  rfl
theorem map_tup : ∀ {xs ys : List Th}, xs.map Th.tup = ys.map Th.tup → xs = ys
  | [], [], _ => rfl
  | [], _ :: _, h => by simp at h
  | _ :: _, [], h => by simp at h
  | x :: xs, y :: ys, h => by
    rw [List.map_cons, List.map_cons, List.cons.injEq] at h
    rw [tup_inj h.1, map_tup h.2]
def Th.cells (t : Th) : List Value := [.int .i64 t.k, .int .i64 t.n, .string t.s, .bool t.b]
def Th.val (t : Th) : Value := .agg #[.int .i64 t.k, .int .i64 t.n, .string t.s, .bool t.b]
def Th.zero : Th := ⟨0, 0, ⟨#[]⟩, false⟩
def It.th : It → Th
  | (.inl n) => ⟨1, n, ⟨#[]⟩, false⟩
  | (.inr (.inl s)) => ⟨2, 0, s, false⟩
  | (.inr (.inr b)) => ⟨3, 0, ⟨#[]⟩, b⟩

def thCells (l : List Th) : List Value := l.flatMap Th.cells
theorem thCells_snoc (l : List Th) (x : Th) : thCells (l ++ [x]) = thCells l ++ x.cells := by simp [thCells]
theorem thCells_get : ∀ (l : List Th) (j : Nat) (x : Th), l[j]? = some x → (thCells l)[j * 4]? = some (.int .i64 x.k) ∧ (thCells l)[j * 4 + 1]? = some (.int .i64 x.n) ∧ (thCells l)[j * 4 + 2]? = some (.string x.s) ∧ (thCells l)[j * 4 + 3]? = some (.bool x.b)
  | y :: l, 0, x, h => by simp at h; subst h; simp [thCells, Th.cells]
  | y :: l, j + 1, x, h => by
    have ih := thCells_get l j x (by simpa using h)
    have e : thCells (y :: l) = .int .i64 y.k :: .int .i64 y.n :: .string y.s :: .bool y.b :: thCells l := by simp [thCells, Th.cells]
    rw [e, show (j + 1) * 4 = j * 4 + 1 + 1 + 1 + 1 by omega, show j * 4 + 1 + 1 + 1 + 1 + 1 = (j * 4 + 1) + 1 + 1 + 1 + 1 by omega, show j * 4 + 1 + 1 + 1 + 1 + 2 = (j * 4 + 2) + 1 + 1 + 1 + 1 by omega, show j * 4 + 1 + 1 + 1 + 1 + 3 = (j * 4 + 3) + 1 + 1 + 1 + 1 by omega]
    simp only [List.getElem?_cons_succ]
    exact ih

def RefC (w : World) (B c : Nat) (v : Value) (l : List Th) : Prop := Box 49 53 4 w B c v l.length (thCells l) ∧ l.length ≤ 100
def putT (l : List Th) (x : Th) : List Th := if l.length < 100 then l ++ [x] else l

theorem infoT : (Try.prog.info? 53).map (fun i => (i.zero, i.size, i.bytes)) = some (some (.agg #[.int .i64 0, .int .i64 0, .string ⟨#[]⟩, .bool false]), 4, 40) := by kernel_rfl

theorem step_append_own {P : Program} {ops : Array Oper} {o : Oper} {a : Act} {w : World} {K : Act → World → Prop} {Q : Exit → Act → World → Prop} {E : Prop}
    (hg : o.guard = none) (s x : Operand) (t : TypeId) (hop : o.op = Op.call { callee := Callee.builtin Builtin.append, args := #[s, x], argTypes := #[t, t] })
    (base : Nat) (e : TypeId) (i : TypeInfo) (z : Value) (size bytes : Nat) (h1 : P.underlying t = some (.slice e)) (h2 : P.info? e = some i) (h3 : i.zero = some z) (h4 : i.size = size) (h5 : i.bytes = bytes) (h6 : z.cells.size = size) (h7 : 0 < size)
    (v : Value) (n : Nat) (xs : List Value) (hs : a.eval s = v) (hown : w.ownsRow base e size v n xs)
    (ad : Addr) (m c : Nat) (news : List Value) (hx : a.eval x = .slice (some ad) m c) (hn : news.length = m * size) (hc : ∀ j u, news[j]? = some u → w.cell? (ad.add j) = some u) (h1c : ∀ u ∈ news, u.oneCell' = true)
    (b1 : n + m ≤ maxLen) (b2 : (n + m) * bytes ≤ 140737488355328) (hbase : base ≤ w.heap.size)
    (hK : ∀ v' w', w'.ownsRow base e size v' (n + m) (xs ++ news) → w.grownBy w' v.ownBlock → (v'.ownBlock = v.ownBlock ∨ v'.ownBlock = some w.heap.size) → K (a.put o.dst v') w') :
    if Region.wanted o (yielded ops a.tmps) = true then Oper.wp P o a w K Q else E := by
  have hw : Region.wanted o (yielded ops a.tmps) = true := by simp [Region.wanted, hg]
  rw [if_pos hw]
  obtain ⟨v', w', hrun, r1, r2, _, r3⟩ := run_append_own_at (P := P) w base t o.type e i z size bytes h1 h2 h3 h4 h5 h6 h7 v n xs hown ad m c news hn hc h1c b1 b2 hbase
  unfold Oper.wp
  simp [execOp, hop, resolve, invoke, builtin, hs, hx, hrun, Result.andThen]
  exact hK v' w' r1 r2 r3

theorem undrew {w w' : World} {r : Option Nat} (h : w.drew.grownBy w' r) : w.grownBy w' r := ⟨h.os, h.tape, h.output, h.size, h.block⟩
theorem cell_four_new (w : World) (a b c d : Value) (t : TypeId) : ∀ j u, [a, b, c, d][j]? = some u → (w.alloc (.cells #[a, b, c, d] t)).cell? ((⟨w.heap.size, 0, none⟩ : Addr).add j) = some u := by
  intro j u hj
  match j, hj with
  | 0, hj => simp at hj; subst hj; simp [Addr.add]
  | 1, hj => simp at hj; subst hj; simp [Addr.add]
  | 2, hj => simp at hj; subst hj; simp [Addr.add]
  | 3, hj => simp at hj; subst hj; simp [Addr.add]

theorem four_one (k n : Int) (s : ByteArray) (b : Bool) : ∀ u ∈ [Value.int .i64 k, Value.int .i64 n, Value.string s, Value.bool b], u.oneCell' = true := by
  intro u hu
  simp at hu
  rcases hu with rfl | rfl | rfl | rfl <;> rfl
theorem at_size {v v' : Value} {W : World} {o : Obj} (h : v'.ownBlock = v.ownBlock ∨ v'.ownBlock = some (W.alloc o).drew.heap.size) : v'.ownBlock = v.ownBlock ∨ v'.ownBlock = some (W.heap.size + 1) := by simpa using h
theorem owns_form {w : World} {B : Nat} {e : TypeId} {size : Nat} {v : Value} {n : Nat} {xs : List Value} (h : w.ownsRow B e size v n xs) : ∃ oa cap, v = .slice oa n cap := by
  rcases h.2 with ⟨e, h0⟩ | ⟨g, cap, cur, e, _⟩
  · exact ⟨none, 0, by rw [h0]; exact e⟩
  · exact ⟨_, _, e⟩
/-- Behind an append: the struct's own cell as it was. -/
theorem box_cell {t e : TypeId} {size : Nat} {w w1 : World} {B c n : Nat} {v : Value} {xs : List Value} {o : Obj} (h : Box t e size w B c v n xs) (hg : (w.alloc o).grownBy w1 v.ownBlock) :
    w1.cell? ⟨c, 0, none⟩ = some v ∧ w1.frozen? ⟨c, 0, none⟩ = false := by
  have hclt := h.clt
  have hc1 : w1.heap[c]? = some (.cells #[v] t (0, 0)) := by
    rw [hg.block c (by simp; omega) (fun e => h.apart e.symm), Below.heap_alloc _ _ _ hclt]
    exact h.cell
  exact ⟨cell_of_heap hc1, by simp [World.frozen?, hc1]⟩

set_option maxRecDepth 1000000 in
set_option maxHeartbeats 1000000 in
theorem refAdd_any (x : Th) (l : List Th) (w : World) (B c : Nat) (v : Value) (h : RefC w B c v l) :
    Calls Try.prog 27 #[.pointer (some ⟨c, 0, none⟩), .agg #[.int .i64 x.k, .int .i64 x.n, .string x.s, .bool x.b]] w fun e w' => ∃ v', e = .returned (.bool (decide (l.length < 100))) ∧ RefC w' B c v' (putT l x) ∧ Turn w w' c v v' := by
  obtain ⟨k, q, s, b⟩ := x
  have H : Hid (RefC w B c v l) := h
  have hclt := h.1.clt
  have hs : ∃ oa cap, v = .slice oa l.length cap := by
    rcases h.1.own.2 with ⟨e, h0⟩ | ⟨g, cap, cur, e, _⟩
    · exact ⟨none, 0, by rw [h0]; exact e⟩
    · exact ⟨_, _, e⟩
  obtain ⟨oa, cap, rfl⟩ := hs
  clear h
  obtain ⟨n, hn⟩ : ∃ n, n = l.length := ⟨_, rfl⟩
  have HN : Hid (n = l.length) := hn
  have hn100 : n ≤ 100 := by rw [hn]; exact H.out.2
  rw [← hn] at H ⊢
  clear hn
  simp only
  obtain ⟨W, hW⟩ : ∃ W, W = w.alloc (.cells #[.int .i64 k, .int .i64 q, .string s, .bool b] 53) := ⟨_, rfl⟩
  have HW : Hid (W = w.alloc (.cells #[.int .i64 k, .int .i64 q, .string s, .bool b] 53)) := hW
  have HB : Hid (Below w.heap.size w W) := by rw [hW]; exact (Below.refl _ _).alloc (Nat.le_refl _) _
  have hsz : W.heap.size = w.heap.size + 1 := by rw [hW]; simp
  have d0 : W.cell? ⟨w.heap.size, 0, none⟩ = some (.int .i64 k) := by rw [hW]; simp
  have d1 : W.cell? ⟨w.heap.size, 1, none⟩ = some (.int .i64 q) := by rw [hW]; simp
  have d2 : W.cell? ⟨w.heap.size, 2, none⟩ = some (.string s) := by rw [hW]; simp
  have d3 : W.cell? ⟨w.heap.size, 3, none⟩ = some (.bool b) := by rw [hW]; simp
  have H1 : Hid (RefC W B c (.slice oa n cap) l) := ⟨H.out.1.below HB.out, H.out.2⟩
  have hc1 := cell_of_heap H1.out.1.cell
  rw [hW] at hc1
  by_cases hl : n < 100
  · have hd : decide ((100 : Int) ≤ (n : Int)) = false := by simp; omega
    have HP : Hid (putT l ⟨k, q, s, b⟩ = l ++ [⟨k, q, s, b⟩]) := by rw [Hid, putT, if_pos (by rw [← HN.out]; exact hl)]
    have HD : Hid (decide (n < 100) = true) := decide_eq_true hl
    go_enter Try.func27, Try.ntmps27
    go_wp2
    rw [← HW.out] at hc1
    rw [← HW.out]
    clear hW
    obtain ⟨i0, hi, hz0, hz1, hz2⟩ := info_parts infoT
    have hown1 : ((W.alloc (.cells #[.int .i64 k, .int .i64 q, .string s, .bool b] 53)).drew).ownsRow B 53 4 (.slice oa n cap) n (thCells l) := by
      have := H1.out.1.own.alloc (.cells #[.int .i64 k, .int .i64 q, .string s, .bool b] 53)
      rw [← HN.out] at this
      exact this
    have hnew := cell_four_new W (.int .i64 k) (.int .i64 q) (.string s) (.bool b) 53
    rw [hsz] at hnew
    have S1 : Hid _ := hown1
    have S2 : Hid _ := hnew
    have S3 : Hid (B ≤ (W.alloc (.cells #[.int .i64 k, .int .i64 q, .string s, .bool b] 53)).drew.heap.size) := by
      have := H1.out.1.base
      have := H1.out.1.clt
      simp [Hid]; omega
    clear hown1 hnew
    go_region_law (refine step_append_own rfl (.tmp 15) (.tmp 17) 47 rfl B 53 i0 (.agg #[.int .i64 0, .int .i64 0, .string ⟨#[]⟩, .bool false]) 4 40 Try.underlying47 hi hz0 hz1 hz2 rfl (by decide) (.slice oa n cap) n (thCells l) (by simp [Act.eval]) S1.out ⟨w.heap.size + 1, 0, none⟩ 1 1 [.int .i64 k, .int .i64 q, .string s, .bool b] (by simp [Act.eval]) rfl S2.out (four_one _ _ _ _) (by unfold maxLen; omega) (by omega) S3.out ?_; intro v' w1 hown' hg hat; obtain ⟨oa', cap', rfl⟩ := owns_form hown'; obtain ⟨hc2, hf2⟩ := box_cell H1.out.1 (undrew hg); have G1 : Hid _ := undrew hg; have G2 : Hid _ := at_size hat; have G3 : Hid _ := hown'; clear hg hat hown')
    all_goals
      go_wp2
      go_ret
      obtain ⟨b1, b2⟩ := box_put H1.out.1 G3.out G1.out G2.out
      refine ⟨_, ret_bool HD.out.symm, ⟨?_, ?_⟩, (Turn.of_below HB.out c _).trans ⟨b2.os, b2.tape, b2.output, b2.size, b2.block, b2.feet⟩⟩
      · rw [HP.out, List.length_append, thCells_snoc, ← HN.out]
        exact ⟨b1.cell, b1.own, b1.base, b1.apart⟩
      · rw [HP.out, List.length_append, ← HN.out]
        exact hl
  · have hd : decide ((100 : Int) ≤ (n : Int)) = true := by simp; omega
    have HP : Hid (putT l ⟨k, q, s, b⟩ = l) := by rw [Hid, putT, if_neg (by rw [← HN.out]; exact hl)]
    have HD : Hid (decide (n < 100) = false) := decide_eq_false hl
    go_enter Try.func27, Try.ntmps27
    go_wp2
    go_ret
    rw [← HW.out]
    exact ⟨_, ret_bool HD.out.symm, by rw [HP.out]; exact H1.out, Turn.of_below HB.out c _⟩

/-- What a pointer to a reference's crate leads to. -/
def ReadsT (w : World) (p : Value) (l : List Th) : Prop :=
  ∃ c oa cap, p = .pointer (some ⟨c, 0, none⟩) ∧ w.cell? ⟨c, 0, none⟩ = some (.slice oa l.length cap) ∧ l.length ≤ cap ∧ l.length ≤ 1000 ∧
    ∀ j x, l[j]? = some x → ∃ g, oa = some ⟨g, 0, none⟩ ∧ w.cell? ⟨g, j * 4, none⟩ = some (.int .i64 x.k) ∧ w.cell? ⟨g, j * 4 + 1, none⟩ = some (.int .i64 x.n) ∧ w.cell? ⟨g, j * 4 + 2, none⟩ = some (.string x.s) ∧ w.cell? ⟨g, j * 4 + 3, none⟩ = some (.bool x.b)
theorem RefC.reads {w : World} {B c : Nat} {v : Value} {l : List Th} (h : RefC w B c v l) : ReadsT w (.pointer (some ⟨c, 0, none⟩)) l := by
  obtain ⟨h, hl⟩ := h
  have hc := cell_of_heap h.cell
  have hcells := fun g => h.own.cells (g := g)
  rcases h.own.2 with ⟨rfl, h2⟩ | ⟨g, cap, cur, rfl, _, _, h2, _⟩
  · refine ⟨c, none, 0, rfl, by rw [hc, h2], by omega, by omega, fun j x hj => ?_⟩
    have := List.eq_nil_of_length_eq_zero h2
    subst this
    simp at hj
  · refine ⟨c, some ⟨g, 0, none⟩, cap, rfl, hc, h2, by omega, fun j x hj => ⟨g, rfl, ?_⟩⟩
    obtain ⟨a1, a2, a3, a4⟩ := thCells_get l j x hj
    have b1 := hcells g rfl _ _ a1
    have b2 := hcells g rfl _ _ a2
    have b3 := hcells g rfl _ _ a3
    have b4 := hcells g rfl _ _ a4
    rw [addr_add] at b1 b2 b3 b4
    exact ⟨b1, b2, b3, b4⟩
theorem ReadsT.below {w w' : World} {p : Value} {l : List Th} (h : ReadsT w p l) (hb : Below w.heap.size w w') : ReadsT w' p l := by
  obtain ⟨c, oa, cap, h1, h2, h3, h4, h5⟩ := h
  refine ⟨c, oa, cap, h1, (hb.cell (p := ⟨c, 0, none⟩) (World.block_lt_of_cell? w _ h2)).trans h2, h3, h4, fun j x hj => ?_⟩
  obtain ⟨g, e, k1, k2, k3, k4⟩ := h5 j x hj
  have hlt := World.block_lt_of_cell? w _ k1
  have hlt' : ∀ o, (⟨g, o, none⟩ : Addr).block < w.heap.size := fun _ => hlt
  exact ⟨g, e, (hb.cell (hlt' _)).trans k1, (hb.cell (hlt' _)).trans k2, (hb.cell (hlt' _)).trans k3, (hb.cell (hlt' _)).trans k4⟩

/-- At: the thing at a place, if it is of a kind. -/
def thAt (l : List Th) (i k : Int) : Option Th := if i < 0 then none else match l[i.toNat]? with
  | some x => if x.k = k then some x else none
  | none => none
def thOr : Option Th → Th
  | some x => x
  | none => Th.zero

set_option maxRecDepth 1000000 in
set_option maxHeartbeats 1000000 in
theorem at_any (p : Value) (l : List Th) (i k : Int) (w : World) (h : ReadsT w p l) :
    Calls Try.prog 42 #[p, .int .i64 i, .int .i64 k] w fun e w' => e = .returned (.tuple #[(thOr (thAt l i k)).val, .bool (thAt l i k).isSome]) ∧ Below w.heap.size w w' := by
  obtain ⟨c, oa, cap, rfl, h2, h3, h4, h5⟩ := h
  have hclt := World.block_lt_of_cell? w _ h2
  by_cases hi : i < 0
  · have e1 : thAt l i k = none := by simp [thAt, hi]
    rw [e1]
    clear e1 h5
    generalize l.length = n at *
    go_enter Try.func42, Try.ntmps42
    go_wp2
    refine bodyPost_ret (v := .tuple #[Th.zero.val, .bool false]) (by simp [results, Try.results42, go_sem, Th.val, Th.zero]) rfl ⟨rfl, ?_⟩
    exact (Below.refl _ _).alloc (Nat.le_refl _) _
  · obtain ⟨j, rfl⟩ := Int.eq_ofNat_of_zero_le (Int.not_lt.1 hi)
    have hz : decide ((j : Int) < 0) = false := decide_eq_false hi
    by_cases hj : j < l.length
    · obtain ⟨x, hx⟩ : ∃ x, l[j]? = some x := ⟨l[j], List.getElem?_eq_getElem hj⟩
      obtain ⟨g, rfl, c1, c2, c3, c4⟩ := h5 j x hx
      have hglt := World.block_lt_of_cell? w _ c1
      have e1 : thAt l j k = if x.k = k then some x else none := by simp only [thAt, if_neg hi, Int.toNat_natCast, hx]
      rw [e1]
      clear h5 hx e1
      obtain ⟨xk, xn, xs, xb⟩ := x
      simp only at c1 c2 c3 c4
      generalize l.length = n at *
      have hge : decide ((n : Int) ≤ (j : Int)) = false := by simp; omega
      have hji : (j : Int) < (n : Int) := by omega
      by_cases hk : xk = k
      · subst hk
        have hne : (xk != xk) = false := by simp
        rw [if_pos rfl]
        go_enter Try.func42, Try.ntmps42
        go_wp2
        refine bodyPost_ret (v := .tuple #[(⟨xk, xn, xs, xb⟩ : Th).val, .bool true]) (by simp [results, Try.results42, go_sem, Th.val]) rfl ⟨rfl, ?_⟩
        repeat' (first | exact (Below.refl _ _).alloc (Nat.le_refl _) _ | exact Nat.le_refl _ | refine Below.setCell ?_ ?_ _)
      · have hne : (xk != k) = true := by simp [hk]
        rw [if_neg hk]
        clear hk
        go_enter Try.func42, Try.ntmps42
        go_wp2
        refine bodyPost_ret (v := .tuple #[Th.zero.val, .bool false]) (by simp [results, Try.results42, go_sem, Th.val, Th.zero]) rfl ⟨rfl, ?_⟩
        exact (Below.refl _ _).alloc (Nat.le_refl _) _
    · have hx : l[j]? = none := List.getElem?_eq_none (by omega)
      have e1 : thAt l j k = none := by simp only [thAt, if_neg hi, Int.toNat_natCast, hx]
      rw [e1]
      clear e1 h5 hx
      generalize l.length = n at *
      have hge : decide ((n : Int) ≤ (j : Int)) = true := by simp; omega
      go_enter Try.func42, Try.ntmps42
      go_wp2
      refine bodyPost_ret (v := .tuple #[Th.zero.val, .bool false]) (by simp [results, Try.results42, go_sem, Th.val, Th.zero]) rfl ⟨rfl, ?_⟩
      exact (Below.refl _ _).alloc (Nat.le_refl _) _

theorem eqGuardT : Try.prog.eqGuardType Try.prog.depth 53 = false := by kernel_rfl
theorem stoodT : Try.prog.stoodInHeld 53 = false := by kernel_rfl
theorem fieldsT : (Try.prog.fieldsOf 53).toList.map (fun f => (f.name, f.type, f.offset)) = [("Kind", 3, 0), ("N", 3, 1), ("T", 9, 2), ("B", 4, 3)] := by kernel_rfl
theorem underT : Try.prog.underlying 53 = some (.struct (Try.prog.fieldsOf 53)) := by kernel_rfl
theorem part0 (a b c d : Value) (W : World) : (part 3 #[a, b, c, d] 0).run Try.prog W = .ok a W := by go_simp
theorem part1 (a b c d : Value) (W : World) : (part 3 #[a, b, c, d] 1).run Try.prog W = .ok b W := by go_simp
theorem part2 (a b c d : Value) (W : World) : (part 9 #[a, b, c, d] 2).run Try.prog W = .ok c W := by go_simp
theorem part3 (a b c d : Value) (W : World) : (part 4 #[a, b, c, d] 3).run Try.prog W = .ok d W := by go_simp
theorem map_four {α β : Type} (g : α → β) : ∀ (l : List α) (a b c d : β), l.map g = [a, b, c, d] → ∃ p q r s, l = [p, q, r, s] ∧ g p = a ∧ g q = b ∧ g r = c ∧ g s = d
  | [p, q, r, s], a, b, c, d, h => by simp at h; exact ⟨p, q, r, s, rfl, h⟩
  | [], _, _, _, _, h => by simp at h
  | [_], _, _, _, _, h => by simp at h
  | [_, _], _, _, _, _, h => by simp at h
  | [_, _, _], _, _, _, _, h => by simp at h
  | _ :: _ :: _ :: _ :: _ :: _, _, _, _, _, h => by simp at h

theorem run_equalT (x y : Th) (W : World) : (Op.equalIn 10000 53 (.agg #[.int .i64 x.k, .int .i64 x.n, .string x.s, .bool x.b]) (.agg #[.int .i64 y.k, .int .i64 y.n, .string y.s, .bool y.b])).run Try.prog W = .ok (decide (x.tup = y.tup)) W := by
  rw [run_equalIn_struct W 9999 _ _ _ underT stoodT]
  obtain ⟨f0, f1, f2, f3, hfs, h0, h1, h2, h3⟩ := map_four _ _ _ _ _ _ fieldsT
  rw [hfs]
  simp only [Prod.mk.injEq] at h0 h1 h2 h3
  obtain ⟨a0, a1, a2⟩ := h0
  obtain ⟨b0, b1, b2⟩ := h1
  obtain ⟨c0, c1, c2⟩ := h2
  obtain ⟨d0, d1, d2⟩ := h3
  have q1 : ∀ k n : Int, (Op.equalIn 9999 3 (.int .i64 k) (.int .i64 n)).run Try.prog W = .ok (k == n) W := fun k n => run_equalIn_int (P := Try.prog) W 9998 3 .i64 .i64 k n Try.underlying3
  have q2 : ∀ a b : ByteArray, (Op.equalIn 9999 9 (.string a) (.string b)).run Try.prog W = .ok (a.toList == b.toList) W := fun a b => run_equalIn_string (P := Try.prog) W 9998 9 a b Try.underlying9
  have q3 : ∀ a b : Bool, (Op.equalIn 9999 4 (.bool a) (.bool b)).run Try.prog W = .ok (a == b) W := fun a b => run_equalIn_bool' (P := Try.prog) W 9998 4 a b Try.underlying4
  have e0 : ¬ (("Kind" : String) = "_") := by decide
  have e1 : ¬ (("N" : String) = "_") := by decide
  have e2 : ¬ (("T" : String) = "_") := by decide
  have e3 : ¬ (("B" : String) = "_") := by decide
  have g2 : ∀ a b : ByteArray, (a.toList == b.toList) = decide (a = b) := fun a b => by
    rw [Lib.toList_data, Lib.toList_data, Bool.eq_iff_iff]
    simp only [beq_iff_eq, decide_eq_true_eq]
    exact ⟨fun h => ByteArray.ext (Array.ext' h), fun h => by rw [h]⟩
  obtain ⟨xk, xn, xs, xb⟩ := x
  obtain ⟨yk, yn, ys, yb⟩ := y
  simp only [Op.eqFields, a0, a1, a2, b0, b1, b2, c0, c1, c2, d0, d1, d2, ne_eq, e0, e1, e2, e3, not_false_eq_true, if_true, Sem.run_bind, part0, Result.andThen_ok, q1, Th.tup, Prod.mk.injEq]
  by_cases h0 : xk = yk <;> by_cases h1 : xn = yn <;> by_cases h2 : xs = ys <;> by_cases h3 : xb = yb <;> simp [h0, h1, h2, h3, part1, part2, part3, q1, q2, q3, g2]

theorem run_neqT (x y : Th) (W : World) : (binOp .neq 53 (.agg #[.int .i64 x.k, .int .i64 x.n, .string x.s, .bool x.b]) (.agg #[.int .i64 y.k, .int .i64 y.n, .string y.s, .bool y.b])).run Try.prog W = .ok (.bool (!decide (x.tup = y.tup))) W := by
  rw [run_neq_struct, run_equalT]
  rfl
theorem run_eqlT (x y : Th) (W : World) : (binOp .eql 53 (.agg #[.int .i64 x.k, .int .i64 x.n, .string x.s, .bool x.b]) (.agg #[.int .i64 y.k, .int .i64 y.n, .string y.s, .bool y.b])).run Try.prog W = .ok (.bool (decide (x.tup = y.tup))) W := by
  rw [run_eql_struct, run_equalT]
  rfl

end Go.Proofs.Ytelmjkjbbbgmpaa
