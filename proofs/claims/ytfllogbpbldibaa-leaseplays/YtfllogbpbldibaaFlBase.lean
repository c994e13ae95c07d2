/-
  Rows in memory, read and written: numbers, structs of numbers. What a row of the call's own is.
-/
import Derived.Test.YtfllogbpbldibaaProg
import Derived.WalkKit
import Derived.WalkSmall
import Derived.OwnWalk
import Derived.Maps.AppendAt
import Derived.Deep.LoopGhost
import Derived.Deep.QuietTactic
import Derived.BigQuiet
import Derived.Deep.OwnRows
import Derived.Laws.OwnMore
namespace Go.Proofs.Ytfllogbpbldibaa
open Go.RowKit

theorem fret_bool {a b : Bool} (h : a = b) : Ending.returned (.bool a) = .returned (.bool b) := by rw [h]
theorem faddr_add (g j : Nat) : (⟨g, 0, none⟩ : Addr).add j = ⟨g, j, none⟩ := by unfold Addr.add; split <;> simp_all
theorem grown_of_below {w w' : World} (h : Below w.heap.size w w') : w.grownBy w' none := ⟨h.os, h.tape, h.output, h.size, fun k hk _ => h.block k hk⟩
theorem owns_below {w w' : World} {base : Nat} {e : TypeId} {size : Nat} {v : Value} {n : Nat} {xs : List Value} (h : w.ownsRow base e size v n xs) (hb : Below w.heap.size w w') : w'.ownsRow base e size v n xs :=
  h.kept (grown_of_below hb) (by cases v.ownBlock <;> simp)
theorem owns_mono {w : World} {base base' : Nat} {e : TypeId} {size : Nat} {v : Value} {n : Nat} {xs : List Value} (h : w.ownsRow base e size v n xs) (hb : base' ≤ base) : w.ownsRow base' e size v n xs := by
  refine ⟨h.1, ?_⟩
  rcases h.2 with h2 | ⟨g, cap, cur, a, b, c⟩
  · exact .inl h2
  · exact .inr ⟨g, cap, cur, a, by omega, c⟩
theorem blk_below {w w' : World} {c : Nat} {o : Obj} (hb : Below w.heap.size w w') (h : w.heap[c]? = some o) : w'.heap[c]? = some o :=
  (hb.block c (Array.getElem?_eq_some_iff.1 h).1).trans h
theorem blk_new (w : World) (o : Obj) : (w.alloc o).heap[w.heap.size]? = some o := by
  show (w.heap.push o)[w.heap.size]? = some o
  simp
theorem blk_old {w : World} {c : Nat} {o o' : Obj} (h : w.heap[c]? = some o) : (w.alloc o').heap[c]? = some o :=
  (Below.heap_alloc _ _ _ (Array.getElem?_eq_some_iff.1 h).1).trans h
/-- A slice value whose elements read so, each so many cells. -/
def rowAt {α : Type} (w : World) (v : Value) (size : Nat) (cs : α → List Value) (l : List α) : Prop :=
  ∃ oa cap, v = .slice oa l.length cap ∧ ∀ j x, l[j]? = some x → ∃ g off, oa = some ⟨g, off, none⟩ ∧ ∀ i u, (cs x)[i]? = some u → w.cell? ⟨g, off + j * size + i, none⟩ = some u
theorem rowAt.below {α : Type} {w w' : World} {v : Value} {size : Nat} {cs : α → List Value} {l : List α} (h : rowAt w v size cs l) (hb : Below w.heap.size w w') : rowAt w' v size cs l := by
  obtain ⟨oa, cap, h1, h2⟩ := h
  refine ⟨oa, cap, h1, fun j x hj => ?_⟩
  obtain ⟨g, off, e, hc⟩ := h2 j x hj
  exact ⟨g, off, e, fun i u hu => (hb.cell (p := ⟨g, off + j * size + i, none⟩) (World.block_lt_of_cell? w _ (hc i u hu))).trans (hc i u hu)⟩
theorem rowAt.drewN {α : Type} {w : World} {v : Value} {size : Nat} {cs : α → List Value} {l : List α} (h : rowAt w v size cs l) (n : Nat) : rowAt (w.drewN n) v size cs l :=
  h.below (below_drewN (Below.refl _ _) n)
theorem rowAt.nil {α : Type} (w : World) (size : Nat) (cs : α → List Value) : rowAt w (.slice none 0 0) size cs [] := ⟨none, 0, rfl, fun j x hj => by simp at hj⟩
theorem flat_get {α : Type} {cs : α → List Value} {size : Nat} (hs : ∀ x, (cs x).length = size) : ∀ (l : List α) (j : Nat) (x : α) (i : Nat) (u : Value), l[j]? = some x → (cs x)[i]? = some u → (l.flatMap cs)[j * size + i]? = some u
  | y :: l, 0, x, i, u, h, hu => by
    simp at h
    subst h
    rw [List.flatMap_cons, Nat.zero_mul, Nat.zero_add, List.getElem?_append_left (List.getElem?_eq_some_iff.1 hu).1, hu]
  | y :: l, j + 1, x, i, u, h, hu => by
    rw [List.flatMap_cons, List.getElem?_append_right (by rw [hs, Nat.add_mul, Nat.one_mul]; omega), hs, show (j + 1) * size + i - size = j * size + i by rw [Nat.add_mul, Nat.one_mul]; omega]
    exact flat_get hs l j x i u (by simpa using h) hu
theorem rowAt_of_owns {α : Type} {w : World} {base : Nat} {e : TypeId} {v : Value} {size : Nat} {cs : α → List Value} {l : List α} (hs : ∀ x, (cs x).length = size) (h : w.ownsRow base e size v l.length (l.flatMap cs)) : rowAt w v size cs l := by
  rcases h.2 with ⟨h1, h2⟩ | ⟨g, cap, cur, h1, _, _, h2, _⟩
  · have e := List.eq_nil_of_length_eq_zero h2
    subst e
    rw [h1]
    exact rowAt.nil _ _ _
  · refine ⟨some ⟨g, 0, none⟩, cap, h1, fun j x hj => ⟨g, 0, rfl, fun i u hu => ?_⟩⟩
    have hc := h.cells (g := g) (by rw [h1]; rfl) _ _ (flat_get hs l j x i u hj hu)
    rw [faddr_add] at hc
    rw [Nat.zero_add]
    exact hc
def iC (x : Int) : List Value := [.int .i64 x]
theorem getD_at {α : Type} {l : List α} {k : Nat} {x d : α} (h : l[k]? = some x) : l.getD k d = x := by rw [List.getD_eq_getElem?_getD, h]; rfl
theorem nat_of {i : Int} {n : Nat} (h : 0 ≤ i ∧ i < (n : Int)) : ∃ k : Nat, i = (k : Int) ∧ k < n := ⟨i.toNat, by omega, by omega⟩
theorem at_of {α : Type} {l : List α} {k : Nat} (h : k < l.length) : ∃ x, l[k]? = some x := ⟨l[k], List.getElem?_eq_getElem h⟩
theorem up_cell {W W' : World} (hb : Below W.heap.size W W') {p : Addr} {v : Value} (h : W.cell? p = some v) : W'.cell? p = some v := (hb.cell (World.block_lt_of_cell? _ _ h)).trans h
theorem row_int {w : World} {o : Option Addr} {n c : Nat} {l : List Int} (h : rowAt w (.slice o n c) 1 iC l) : ∀ j x, l[j]? = some x → ∃ g off, o = some ⟨g, off, none⟩ ∧ w.cell? ⟨g, off + j, none⟩ = some (.int .i64 x) := fun j x hj => by
  obtain ⟨o', c', e, h2⟩ := h
  injection e with e1 e2 e3
  obtain ⟨g, off, e4, hc⟩ := h2 j x hj
  exact ⟨g, off, e1.trans e4, by simpa using hc 0 _ rfl⟩
theorem blk_at1 (w : World) (o o' : Obj) : ((w.alloc o').alloc o).heap[w.heap.size + 1]? = some o := by
  have := blk_new (w.alloc o') o
  rwa [World.size_alloc] at this
theorem blk_at2 (w : World) (o o' o'' : Obj) : (((w.alloc o'').alloc o').alloc o).heap[w.heap.size + 1 + 1]? = some o := by
  have := blk_at1 (w.alloc o'') o o'
  rwa [World.size_alloc] at this
theorem cells2 {W : World} {b : Nat} {a0 a1 : Value} {t : TypeId} (h : W.heap[b]? = some (.cells #[a0, a1] t (0, 0))) : W.cell? ⟨b, 0, none⟩ = some a0 ∧ W.cell? ⟨b, 1, none⟩ = some a1 := by
  refine ⟨?_, ?_⟩ <;> simp [World.cell?, h]
theorem cells4 {W : World} {b : Nat} {a0 a1 a2 a3 : Value} {t : TypeId} (h : W.heap[b]? = some (.cells #[a0, a1, a2, a3] t (0, 0))) : (W.cell? ⟨b, 0, none⟩ = some a0 ∧ W.cell? ⟨b, 1, none⟩ = some a1 ∧ W.cell? ⟨b, 2, none⟩ = some a2 ∧ W.cell? ⟨b, 3, none⟩ = some a3) ∧
    W.frozen? ⟨b, 0, none⟩ = false ∧ W.frozen? ⟨b, 1, none⟩ = false ∧ W.frozen? ⟨b, 2, none⟩ = false ∧ W.frozen? ⟨b, 3, none⟩ = false := by
  refine ⟨⟨?_, ?_, ?_, ?_⟩, ?_, ?_, ?_, ?_⟩ <;> simp [World.cell?, World.frozen?, h]
theorem heap_put {W : World} {b i : Nat} {c : Array Value} {t : TypeId} (h : W.heap[b]? = some (.cells c t (0, 0))) (u : Value) : (W.setCell ⟨b, i, none⟩ u).heap[b]? = some (.cells (c.setIfInBounds i u) t (0, 0)) := by
  simp [World.setCell, Array.getElem?_modify, h]
theorem cells1 {W : World} {b : Nat} {a : Value} {t : TypeId} (h : W.heap[b]? = some (.cells #[a] t (0, 0))) : W.cell? ⟨b, 0, none⟩ = some a := by simp [World.cell?, h]
/-- Of what was there only this has turned. -/
structure Chg (S : Nat → Prop) (W W' : World) : Prop where
  os : W'.os = W.os
  tape : W'.tape = W.tape
  output : W'.output = W.output
  size : W.heap.size ≤ W'.heap.size
  block : ∀ k, k < W.heap.size → ¬ S k → W'.heap[k]? = W.heap[k]?
theorem Chg.refl (S : Nat → Prop) (W : World) : Chg S W W := ⟨rfl, rfl, rfl, Nat.le_refl _, fun _ _ _ => rfl⟩
theorem Chg.of_below {S : Nat → Prop} {W W' : World} (h : Below W.heap.size W W') : Chg S W W' := ⟨h.os, h.tape, h.output, h.size, fun k hk _ => h.block k hk⟩
theorem Chg.trans {S : Nat → Prop} {W W' W'' : World} (h : Chg S W W') (k : Chg S W' W'') : Chg S W W'' :=
  ⟨k.os.trans h.os, k.tape.trans h.tape, k.output.trans h.output, Nat.le_trans h.size k.size, fun i hi hf => (k.block i (Nat.lt_of_lt_of_le hi h.size) hf).trans (h.block i hi hf)⟩
theorem Chg.mono {S S' : Nat → Prop} {W W' : World} (h : Chg S W W') (hS : ∀ k, k < W.heap.size → S k → S' k) : Chg S' W W' := ⟨h.os, h.tape, h.output, h.size, fun k hk hf => h.block k hk fun hs => hf (hS k hk hs)⟩
theorem Chg.below {S : Nat → Prop} {W W' : World} {B : Nat} (h : Chg S W W') (hS : ∀ k, S k → B ≤ k) (hB : B ≤ W.heap.size) : Below B W W' :=
  ⟨h.os, h.tape, h.output, h.size, fun k hk => h.block k (by omega) fun hs => by have := hS k hs; omega⟩
theorem Chg.blk {S : Nat → Prop} {W W' : World} (h : Chg S W W') {b : Nat} {o : Obj} (hb : W.heap[b]? = some o) (hS : ¬ S b) : W'.heap[b]? = some o := (h.block b (Array.getElem?_eq_some_iff.1 hb).1 hS).trans hb
theorem made_int (n : Nat) : madeCells #[Value.int .i64 0] n = ((List.replicate n (0 : Int)).map (Value.int .i64)).toArray := by
  apply Array.ext
  · rw [size_madeCells]; simp
  · intro i h1 h2
    simp [madeCells, Nat.mod_one]
theorem infoInt : (Try.prog.info? 3).map (fun i => (i.zero, i.size, i.bytes)) = some (some (.int .i64 0), 1, 8) := by kernel_rfl
theorem run_does {P : Program} {s : Sem Value} {v : Value} {w w' : World} (h : s.run P w = .ok v w') : (do pure (Next.value (← s)) : Sem Next).run P w = .ok (.value v) w' := by
  simp only [Sem.run_bind, h, Result.andThen, Sem.run_pure]
theorem mk_int (n : Nat) (hn : n ≤ 1000) (w : World) : (Instr.makeSlice 23 (.int .i64 (n : Int)) (.int .i64 (n : Int))).run Try.prog w = .ok (.slice (some ⟨w.heap.size, 0, none⟩) n n) (w.alloc (.cells ((List.replicate n (0 : Int)).map (Value.int .i64)).toArray 3)) := by
  rw [← made_int]
  exact run_make_row' (P := Try.prog) 23 3 (.int .i64 0) 8 Try.underlying23 infoInt rfl .i64 .i64 n (by omega) (by omega) w
theorem set2 {W : World} {b : Nat} {a0 a1 : Value} {t : TypeId} (h : W.heap[b]? = some (.cells #[a0, a1] t (0, 0))) (u0 u1 : Value) :
    ((W.setCell ⟨b, 0, none⟩ u0).setCell ⟨b, 1, none⟩ u1).heap[b]? = some (.cells #[u0, u1] t (0, 0)) := by
  have := heap_put (i := 1) (heap_put (i := 0) h u0) u1
  simpa using this
theorem froz2 {W : World} {b : Nat} {c : Array Value} {t : TypeId} (h : W.heap[b]? = some (.cells c t (0, 0))) (i : Nat) : W.frozen? ⟨b, i, none⟩ = false := by simp [World.frozen?, h]
theorem flat_lenG {α : Type} {cs : α → List Value} {size : Nat} (hs : ∀ x, (cs x).length = size) (l : List α) : (l.flatMap cs).length = l.length * size := by
  induction l with
  | nil => simp
  | cons x l ih => rw [List.flatMap_cons, List.length_append, ih, List.length_cons, hs, Nat.add_mul]; omega
theorem row_flatG {α : Type} {cs : α → List Value} {size : Nat} (hs : ∀ x, (cs x).length = size) (h0 : 0 < size) {w : World} {g off n cap : Nat} {l : List α} (h : rowAt w (.slice (some ⟨g, off, none⟩) n cap) size cs l) : ∀ j u, (l.flatMap cs)[j]? = some u → w.cell? ((⟨g, off, none⟩ : Addr).add j) = some u := by
  intro j u hj
  obtain ⟨oa, c, e, h2⟩ := h
  injection e with e1 e2 e3
  have hlt : j < (l.flatMap cs).length := (List.getElem?_eq_some_iff.1 hj).1
  rw [flat_lenG hs] at hlt
  have hq : j / size < l.length := (Nat.div_lt_iff_lt_mul h0).2 hlt
  obtain ⟨x, hx⟩ : ∃ x, l[j / size]? = some x := at_of hq
  obtain ⟨g', off', e4, hc⟩ := h2 _ _ hx
  rw [← e1] at e4
  injection e4 with e4
  injection e4 with e5 e6
  subst e5 e6
  have hi : j % size < (cs x).length := by rw [hs]; exact Nat.mod_lt _ h0
  have hdm : j / size * size + j % size = j := by rw [Nat.mul_comm]; exact Nat.div_add_mod j size
  have hu : (cs x)[j % size]? = some u := by
    have h3 := flat_get (cs := cs) (size := size) hs l (j / size) x (j % size) _ hx (List.getElem?_eq_getElem hi)
    rw [hdm, hj] at h3
    rw [List.getElem?_eq_getElem hi]
    exact h3.symm
  have := hc (j % size) u hu
  rw [Nat.add_assoc, hdm] at this
  have ha : (⟨g, off, none⟩ : Addr).add j = ⟨g, off + j, none⟩ := by unfold Addr.add; split <;> simp_all
  rw [ha]
  exact this
theorem cells_int : ∀ (l : List Int), ∀ u ∈ l.flatMap iC, u.oneCell' = true := by
  intro l u hu
  obtain ⟨x, _, h⟩ := List.mem_flatMap.1 hu
  simp [iC] at h
  subst h
  rfl
theorem row_none {α : Type} {cs : α → List Value} {size : Nat} {w : World} {n cap : Nat} {l : List α} (h : rowAt w (.slice none n cap) size cs l) : l = [] ∧ n = 0 := by
  obtain ⟨oa, c, e, h2⟩ := h
  injection e with e1 e2 e3
  cases l with
  | nil => exact ⟨rfl, by simpa using e2⟩
  | cons x l =>
    obtain ⟨g, off, e4, _⟩ := h2 0 x rfl
    rw [← e1] at e4
    cases e4
theorem row_some {α : Type} {cs : α → List Value} {size : Nat} (hs : ∀ x, (cs x).length = size) (h0 : 0 < size) {w : World} {a : Addr} {n cap : Nat} {l : List α} (h : rowAt w (.slice (some a) n cap) size cs l) : ∀ j u, (l.flatMap cs)[j]? = some u → w.cell? (a.add j) = some u := by
  cases l with
  | nil => intro j u hj; simp at hj
  | cons x l =>
    have h' := h
    obtain ⟨oa, c, e, h2⟩ := h
    injection e with e1 e2 e3
    obtain ⟨g, off, e4, _⟩ := h2 0 x rfl
    rw [← e1] at e4
    injection e4 with e4
    subst e4
    exact row_flatG hs h0 h'
theorem row_len {α : Type} {cs : α → List Value} {size : Nat} {w : World} {o : Option Addr} {n cap : Nat} {l : List α} (h : rowAt w (.slice o n cap) size cs l) : n = l.length := by
  obtain ⟨oa, c, e, _⟩ := h
  injection e with e1 e2 e3
theorem owns_slice {W : World} {base size n : Nat} {e : TypeId} {v : Value} {xs : List Value} (h : W.ownsRow base e size v n xs) : ∃ o c, v = .slice o n c := by
  rcases h.2 with ⟨e', h0⟩ | ⟨g, cap, cur, e', _⟩
  · exact ⟨_, _, by rw [e', h0]⟩
  · exact ⟨_, _, e'⟩
theorem append_op {P : Program} {w w' : World} {o : Oper} {a : Act} (s x : Operand) (t tn : TypeId) (ho : o.op = .call { callee := .builtin .append, args := #[s, x], argTypes := #[t, tn] }) (vs vx : Value) (hs : a.eval s = vs) (hx : a.eval x = vx)
    (v' : Value) (hr : (Builtin.append_ #[t, tn] o.type #[vs, vx]).run P w = .ok v' w') : (execOp a.eval o).run P w = .ok (.value v') w' := by
  unfold execOp
  simp only [ho, resolve, invoke, builtin, Sem.run_bind, Sem.run_pure, Result.andThen_ok, List.map_toArray, List.map_cons, List.map_nil, hs, hx, hr]
theorem row_blk {α : Type} {cs : α → List Value} {size : Nat} (hs : ∀ x, (cs x).length = size) {W : World} {b cap : Nat} {c : Array Value} {t : TypeId} {z : Nat × Nat} (l : List α) (hb : W.heap[b]? = some (.cells c t z)) (hc : l.flatMap cs = c.toList) : rowAt W (.slice (some ⟨b, 0, none⟩) l.length cap) size cs l := by
  refine ⟨_, _, rfl, fun j x hj => ⟨b, 0, rfl, fun i u hu => ?_⟩⟩
  have h1 := flat_get hs l j x i u hj hu
  rw [hc] at h1
  rw [Nat.zero_add]
  simp [World.cell?, hb]
  simpa using h1
theorem blk_new' {w : World} {o : Obj} {n : Nat} (h : n = w.heap.size) : (w.alloc o).heap[n]? = some o := by
  rw [h]
  exact blk_new _ _
theorem with_world {P : Program} {f : FuncId} {args : Array Value} {w : World} {Q : Ending → World → Prop} (h : ∀ W, W = w → Calls P f args W Q) : Calls P f args w Q := h w rfl
theorem drewN_alloc (w : World) (o : Obj) (n : Nat) : (w.alloc o).drewN n = (w.drewN n).alloc o := by
  rfl
theorem drewN_size (w : World) (n : Nat) : (w.drewN n).heap.size = w.heap.size := by
  rfl
end Go.Proofs.Ytfllogbpbldibaa
