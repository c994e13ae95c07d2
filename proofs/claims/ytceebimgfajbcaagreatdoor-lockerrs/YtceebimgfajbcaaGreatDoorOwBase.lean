/-
  Blocks, rows and slices of the call's own, read and written: what packages lock and field have in common.
-/
import Derived.Test.YtceebimgfajbcaaGreatDoorTbIs
import Derived.Test.YtceebimgfajbcaaGreatDoorLyFork
import Derived.Deep.OwnRows
namespace Go.Proofs.YtceebimgfajbcaaGreatDoor
open Go.RowKit

def bC (x : Bool) : List Value := [.bool x]
theorem getD_at {α : Type} {l : List α} {k : Nat} {x d : α} (h : l[k]? = some x) : l.getD k d = x := by rw [List.getD_eq_getElem?_getD, h]; rfl
theorem nat_of {i : Int} {n : Nat} (h : 0 ≤ i ∧ i < (n : Int)) : ∃ k : Nat, i = (k : Int) ∧ k < n := ⟨i.toNat, by omega, by omega⟩
theorem at_of {α : Type} {l : List α} {k : Nat} (h : k < l.length) : ∃ x, l[k]? = some x := ⟨l[k], List.getElem?_eq_getElem h⟩
theorem up_cell {W W' : World} (hb : Below W.heap.size W W') {p : Addr} {v : Value} (h : W.cell? p = some v) : W'.cell? p = some v := (hb.cell (World.block_lt_of_cell? _ _ h)).trans h
theorem row_int {w : World} {o : Option Addr} {n c : Nat} {l : List Int} (h : rowAt w (.slice o n c) 1 iC l) : ∀ j x, l[j]? = some x → ∃ g off, o = some ⟨g, off, none⟩ ∧ w.cell? ⟨g, off + j, none⟩ = some (.int .i64 x) := fun j x hj => by
  obtain ⟨o', c', e, h2⟩ := h
  injection e with e1 e2 e3
  obtain ⟨g, off, e4, hc⟩ := h2 j x hj
  exact ⟨g, off, e1.trans e4, by simpa using hc 0 _ rfl⟩
theorem row_bool {w : World} {o : Option Addr} {n c : Nat} {l : List Bool} (h : rowAt w (.slice o n c) 1 bC l) : ∀ j x, l[j]? = some x → ∃ g off, o = some ⟨g, off, none⟩ ∧ w.cell? ⟨g, off + j, none⟩ = some (.bool x) := fun j x hj => by
  obtain ⟨o', c', e, h2⟩ := h
  injection e with e1 e2 e3
  obtain ⟨g, off, e4, hc⟩ := h2 j x hj
  exact ⟨g, off, e1.trans e4, by simpa using hc 0 _ rfl⟩
theorem row_need {w : World} {o : Option Addr} {n c : Nat} {l : List (Int × Bool)} (h : rowAt w (.slice o n c) 2 nC l) : ∀ j x, l[j]? = some x → ∃ g off, o = some ⟨g, off, none⟩ ∧ w.cell? ⟨g, off + j * 2, none⟩ = some (.int .i64 x.1) ∧ w.cell? ⟨g, off + j * 2 + 1, none⟩ = some (.bool x.2) := fun j x hj => by
  obtain ⟨o', c', e, h2⟩ := h
  injection e with e1 e2 e3
  obtain ⟨g, off, e4, hc⟩ := h2 j x hj
  exact ⟨g, off, e1.trans e4, by simpa using hc 0 _ rfl, hc 1 _ rfl⟩
theorem blk_at1 (w : World) (o o' : Obj) : ((w.alloc o').alloc o).heap[w.heap.size + 1]? = some o := by
  have := blk_new (w.alloc o') o
  rwa [World.size_alloc] at this
theorem blk_at2 (w : World) (o o' o'' : Obj) : (((w.alloc o'').alloc o').alloc o).heap[w.heap.size + 1 + 1]? = some o := by
  have := blk_at1 (w.alloc o'') o o'
  rwa [World.size_alloc] at this
theorem cells2 {W : World} {b : Nat} {a0 a1 : Value} {t : TypeId} (h : W.heap[b]? = some (.cells #[a0, a1] t (0, 0))) : W.cell? ⟨b, 0, none⟩ = some a0 ∧ W.cell? ⟨b, 1, none⟩ = some a1 := by
  refine ⟨?_, ?_⟩ <;> simp [World.cell?, h]
theorem cells4 {W : World} {b : Nat} {a0 a1 a2 a3 : Value} {t : TypeId} (h : W.heap[b]? = some (.cells #[a0, a1, a2, a3] t (0, 0))) : (W.cell? ⟨b, 0, none⟩ = some a0 ∧ W.cell? ⟨b, 1, none⟩ = some a1 ∧ W.cell? ⟨b, 2, none⟩ = some a2 ∧ W.cell? ⟨b, 3, none⟩ = some a3) ∧
    W.frozen? ⟨b, 0, none⟩ = false ∧ W.frozen? ⟨b, 1, none⟩ = false ∧ W.frozen? ⟨b, 2, none⟩ = false ∧ W.frozen? ⟨b, 3, none⟩ = false := by
  refine ⟨⟨?_, ?_, ?_, ?_⟩, ?_, ?_, ?_, ?_⟩ <;> simp [World.cell?, World.frozen?, h]
theorem heap_put {W : World} {b i : Nat} {c : Array Value} {t : TypeId} (h : W.heap[b]? = some (.cells c t (0, 0))) (u : Value) : (W.setCell ⟨b, i, none⟩ u).heap[b]? = some (.cells (c.setIfInBounds i u) t (0, 0)) := by
  simp [World.setCell, Array.getElem?_modify, h]
theorem cells1 {W : World} {b : Nat} {a : Value} {t : TypeId} (h : W.heap[b]? = some (.cells #[a] t (0, 0))) : W.cell? ⟨b, 0, none⟩ = some a := by simp [World.cell?, h]
/-- Of what was there only this has turned. -/
structure Chg (S : Nat → Prop) (W W' : World) : Prop where
  os : W'.os = W.os
  tape : W'.tape = W.tape
  output : W'.output = W.output
  size : W.heap.size ≤ W'.heap.size
  block : ∀ k, k < W.heap.size → ¬ S k → W'.heap[k]? = W.heap[k]?
theorem Chg.refl (S : Nat → Prop) (W : World) : Chg S W W := ⟨rfl, rfl, rfl, Nat.le_refl _, fun _ _ _ => rfl⟩
theorem Chg.of_below {S : Nat → Prop} {W W' : World} (h : Below W.heap.size W W') : Chg S W W' := ⟨h.os, h.tape, h.output, h.size, fun k hk _ => h.block k hk⟩
theorem Chg.trans {S : Nat → Prop} {W W' W'' : World} (h : Chg S W W') (k : Chg S W' W'') : Chg S W W'' :=
  ⟨k.os.trans h.os, k.tape.trans h.tape, k.output.trans h.output, Nat.le_trans h.size k.size, fun i hi hf => (k.block i (Nat.lt_of_lt_of_le hi h.size) hf).trans (h.block i hi hf)⟩
theorem Chg.mono {S S' : Nat → Prop} {W W' : World} (h : Chg S W W') (hS : ∀ k, k < W.heap.size → S k → S' k) : Chg S' W W' := ⟨h.os, h.tape, h.output, h.size, fun k hk hf => h.block k hk fun hs => hf (hS k hk hs)⟩
theorem Chg.below {S : Nat → Prop} {W W' : World} {B : Nat} (h : Chg S W W') (hS : ∀ k, S k → B ≤ k) (hB : B ≤ W.heap.size) : Below B W W' :=
  ⟨h.os, h.tape, h.output, h.size, fun k hk => h.block k (by omega) fun hs => by have := hS k hs; omega⟩
theorem Chg.blk {S : Nat → Prop} {W W' : World} (h : Chg S W W') {b : Nat} {o : Obj} (hb : W.heap[b]? = some o) (hS : ¬ S b) : W'.heap[b]? = some o := (h.block b (Array.getElem?_eq_some_iff.1 hb).1 hS).trans hb
theorem made_int (n : Nat) : madeCells #[Value.int .i64 0] n = ((List.replicate n (0 : Int)).map (Value.int .i64)).toArray := by
  apply Array.ext
  · rw [size_madeCells]; simp
  · intro i h1 h2
    simp [madeCells, Nat.mod_one]
theorem made_bool (n : Nat) : madeCells #[Value.bool false] n = ((List.replicate n false).map Value.bool).toArray := by
  apply Array.ext
  · rw [size_madeCells]; simp
  · intro i h1 h2
    simp [madeCells, Nat.mod_one]
theorem infoInt : (Tryz.prog.info? 3).map (fun i => (i.zero, i.size, i.bytes)) = some (some (.int .i64 0), 1, 8) := by kernel_rfl
theorem infoBool : (Tryz.prog.info? 4).map (fun i => (i.zero, i.size, i.bytes)) = some (some (.bool false), 1, 1) := by kernel_rfl
theorem run_does {P : Program} {s : Sem Value} {v : Value} {w w' : World} (h : s.run P w = .ok v w') : (do pure (Next.value (← s)) : Sem Next).run P w = .ok (.value v) w' := by
  simp only [Sem.run_bind, h, Result.andThen, Sem.run_pure]
theorem mk_int (n : Nat) (hn : n ≤ 1000) (w : World) : (Instr.makeSlice 36 (.int .i64 (n : Int)) (.int .i64 (n : Int))).run Tryz.prog w = .ok (.slice (some ⟨w.heap.size, 0, none⟩) n n) (w.alloc (.cells ((List.replicate n (0 : Int)).map (Value.int .i64)).toArray 3)) := by
  rw [← made_int]
  exact run_make_row' (P := Tryz.prog) 36 3 (.int .i64 0) 8 Tryz.underlying36 infoInt rfl .i64 .i64 n (by omega) (by omega) w
theorem mk_bool (n : Nat) (hn : n ≤ 1000) (w : World) : (Instr.makeSlice 35 (.int .i64 (n : Int)) (.int .i64 (n : Int))).run Tryz.prog w = .ok (.slice (some ⟨w.heap.size, 0, none⟩) n n) (w.alloc (.cells ((List.replicate n false).map Value.bool).toArray 4)) := by
  rw [← made_bool]
  exact run_make_row' (P := Tryz.prog) 35 4 (.bool false) 1 Tryz.underlying35 infoBool rfl .i64 .i64 n (by omega) (by omega) w
theorem set2 {W : World} {b : Nat} {a0 a1 : Value} {t : TypeId} (h : W.heap[b]? = some (.cells #[a0, a1] t (0, 0))) (u0 u1 : Value) :
    ((W.setCell ⟨b, 0, none⟩ u0).setCell ⟨b, 1, none⟩ u1).heap[b]? = some (.cells #[u0, u1] t (0, 0)) := by
  have := heap_put (i := 1) (heap_put (i := 0) h u0) u1
  simpa using this
theorem froz2 {W : World} {b : Nat} {c : Array Value} {t : TypeId} (h : W.heap[b]? = some (.cells c t (0, 0))) (i : Nat) : W.frozen? ⟨b, i, none⟩ = false := by simp [World.frozen?, h]
theorem flat_lenG {α : Type} {cs : α → List Value} {size : Nat} (hs : ∀ x, (cs x).length = size) (l : List α) : (l.flatMap cs).length = l.length * size := by
  induction l with
  | nil => simp
  | cons x l ih => rw [List.flatMap_cons, List.length_append, ih, List.length_cons, hs, Nat.add_mul]; omega
theorem row_flatG {α : Type} {cs : α → List Value} {size : Nat} (hs : ∀ x, (cs x).length = size) (h0 : 0 < size) {w : World} {g off n cap : Nat} {l : List α} (h : rowAt w (.slice (some ⟨g, off, none⟩) n cap) size cs l) : ∀ j u, (l.flatMap cs)[j]? = some u → w.cell? ((⟨g, off, none⟩ : Addr).add j) = some u := by
  intro j u hj
  obtain ⟨oa, c, e, h2⟩ := h
  injection e with e1 e2 e3
  have hlt : j < (l.flatMap cs).length := (List.getElem?_eq_some_iff.1 hj).1
  rw [flat_lenG hs] at hlt
  have hq : j / size < l.length := (Nat.div_lt_iff_lt_mul h0).2 hlt
  obtain ⟨x, hx⟩ : ∃ x, l[j / size]? = some x := at_of hq
  obtain ⟨g', off', e4, hc⟩ := h2 _ _ hx
  rw [← e1] at e4
  injection e4 with e4
  injection e4 with e5 e6
  subst e5 e6
  have hi : j % size < (cs x).length := by rw [hs]; exact Nat.mod_lt _ h0
  have hdm : j / size * size + j % size = j := by rw [Nat.mul_comm]; exact Nat.div_add_mod j size
  have hu : (cs x)[j % size]? = some u := by
    have h3 := flat_get (cs := cs) (size := size) hs l (j / size) x (j % size) _ hx (List.getElem?_eq_getElem hi)
    rw [hdm, hj] at h3
    rw [List.getElem?_eq_getElem hi]
    exact h3.symm
  have := hc (j % size) u hu
  rw [Nat.add_assoc, hdm] at this
  have ha : (⟨g, off, none⟩ : Addr).add j = ⟨g, off + j, none⟩ := by unfold Addr.add; split <;> simp_all
  rw [ha]
  exact this
theorem cells_int : ∀ (l : List Int), ∀ u ∈ l.flatMap iC, u.oneCell' = true := by
  intro l u hu
  obtain ⟨x, _, h⟩ := List.mem_flatMap.1 hu
  simp [iC] at h
  subst h
  rfl
theorem row_none {α : Type} {cs : α → List Value} {size : Nat} {w : World} {n cap : Nat} {l : List α} (h : rowAt w (.slice none n cap) size cs l) : l = [] ∧ n = 0 := by
  obtain ⟨oa, c, e, h2⟩ := h
  injection e with e1 e2 e3
  cases l with
  | nil => exact ⟨rfl, by simpa using e2⟩
  | cons x l =>
    obtain ⟨g, off, e4, _⟩ := h2 0 x rfl
    rw [← e1] at e4
    cases e4
theorem row_some {α : Type} {cs : α → List Value} {size : Nat} (hs : ∀ x, (cs x).length = size) (h0 : 0 < size) {w : World} {a : Addr} {n cap : Nat} {l : List α} (h : rowAt w (.slice (some a) n cap) size cs l) : ∀ j u, (l.flatMap cs)[j]? = some u → w.cell? (a.add j) = some u := by
  cases l with
  | nil => intro j u hj; simp at hj
  | cons x l =>
    have h' := h
    obtain ⟨oa, c, e, h2⟩ := h
    injection e with e1 e2 e3
    obtain ⟨g, off, e4, _⟩ := h2 0 x rfl
    rw [← e1] at e4
    injection e4 with e4
    subst e4
    exact row_flatG hs h0 h'
theorem row_len {α : Type} {cs : α → List Value} {size : Nat} {w : World} {o : Option Addr} {n cap : Nat} {l : List α} (h : rowAt w (.slice o n cap) size cs l) : n = l.length := by
  obtain ⟨oa, c, e, _⟩ := h
  injection e with e1 e2 e3
theorem owns_slice {W : World} {base size n : Nat} {e : TypeId} {v : Value} {xs : List Value} (h : W.ownsRow base e size v n xs) : ∃ o c, v = .slice o n c := by
  rcases h.2 with ⟨e', h0⟩ | ⟨g, cap, cur, e', _⟩
  · exact ⟨_, _, by rw [e', h0]⟩
  · exact ⟨_, _, e'⟩
theorem append_op {P : Program} {w w' : World} {o : Oper} {a : Act} (s x : Operand) (t tn : TypeId) (ho : o.op = .call { callee := .builtin .append, args := #[s, x], argTypes := #[t, tn] }) (vs vx : Value) (hs : a.eval s = vs) (hx : a.eval x = vx)
    (v' : Value) (hr : (Builtin.append_ #[t, tn] o.type #[vs, vx]).run P w = .ok v' w') : (execOp a.eval o).run P w = .ok (.value v') w' := by
  unfold execOp
  simp only [ho, resolve, invoke, builtin, Sem.run_bind, Sem.run_pure, Result.andThen_ok, List.map_toArray, List.map_cons, List.map_nil, hs, hx, hr]
/-- The worlds in which some cells read so. -/
structure Cls (l : List (Addr × Value)) where
  z : World
  h : ∀ p ∈ l, z.cell? p.1 = some p.2
theorem cells5 {W : World} {b : Nat} {a0 a1 a2 a3 a4 : Value} {t : TypeId} (h : W.heap[b]? = some (.cells #[a0, a1, a2, a3, a4] t (0, 0))) : (W.cell? ⟨b, 0, none⟩ = some a0 ∧ W.cell? ⟨b, 1, none⟩ = some a1 ∧ W.cell? ⟨b, 2, none⟩ = some a2 ∧ W.cell? ⟨b, 3, none⟩ = some a3 ∧ W.cell? ⟨b, 4, none⟩ = some a4) ∧
    W.frozen? ⟨b, 2, none⟩ = false ∧ W.frozen? ⟨b, 3, none⟩ = false ∧ W.frozen? ⟨b, 4, none⟩ = false := by
  refine ⟨⟨?_, ?_, ?_, ?_, ?_⟩, ?_, ?_, ?_⟩ <;> simp [World.cell?, World.frozen?, h]
theorem row_blk {α : Type} {cs : α → List Value} {size : Nat} (hs : ∀ x, (cs x).length = size) {W : World} {b cap : Nat} {c : Array Value} {t : TypeId} {z : Nat × Nat} (l : List α) (hb : W.heap[b]? = some (.cells c t z)) (hc : l.flatMap cs = c.toList) : rowAt W (.slice (some ⟨b, 0, none⟩) l.length cap) size cs l := by
  refine ⟨_, _, rfl, fun j x hj => ⟨b, 0, rfl, fun i u hu => ?_⟩⟩
  have h1 := flat_get hs l j x i u hj hu
  rw [hc] at h1
  rw [Nat.zero_add]
  simp [World.cell?, hb]
  simpa using h1
theorem blk_new' {w : World} {o : Obj} {n : Nat} (h : n = w.heap.size) : (w.alloc o).heap[n]? = some o := by
  rw [h]
  exact blk_new _ _
/-- Where a layout of two routes lies. -/
def v4 (a b c d : Value) : Nat → Value
  | 0 => a
  | 1 => b
  | 2 => c
  | _ => d
theorem lay_two {W : World} {bs bg br : Nat} {cs cg cr : Array Value} {ts tg tr : TypeId} {zs zg zr : Nat × Nat} {ks kg : Nat} (S G : List ByteArray) (vp : Value) (ps : List (ByteArray × Int)) (x0 x1 : RtV)
    (hS : W.heap[bs]? = some (.cells cs ts zs)) (eS : S.flatMap sC = cs.toList) (hG : W.heap[bg]? = some (.cells cg tg zg)) (eG : G.flatMap sC = cg.toList) (hR : W.heap[br]? = some (.cells cr tr zr)) (eR : [x0, x1].flatMap rC = cr.toList)
    (hp : rowAt W vp 2 pC ps) (h0 : RtAt W x0) (h1 : RtAt W x1) :
    LayRd W (v4 (.slice (some ⟨bs, 0, none⟩) S.length ks) vp (.slice (some ⟨bg, 0, none⟩) G.length kg) (.slice (some ⟨br, 0, none⟩) 2 2)) ⟨S, ps, G, [x0.1, x1.1]⟩ [x0, x1] :=
  ⟨row_blk (cs := sC) (fun _ => rfl) S hS eS, hp, row_blk (cs := sC) (fun _ => rfl) G hG eG, row_blk (cs := rC) (fun _ => rfl) [x0, x1] hR eR, rfl, fun x hx => by
    rcases List.mem_cons.1 hx with rfl | hx
    · exact h0
    · rw [List.mem_singleton.1 hx]
      exact h1⟩
/-- A layout of few things. -/
structure Few (l : Lay) (rs : List RtV) (v : Nat → Value) : Prop where
  n : l.sections.length ≤ 100 ∧ l.points.length ≤ 100 ∧ l.signals.length ≤ 100 ∧ l.routes.length ≤ 100
  x : ∀ x ∈ rs, capOk x.2.1 ∧ x.1.path.length ≤ 100 ∧ x.1.points.length ≤ 100 ∧ x.1.flank.length ≤ 100
  c : capOk (v 0) ∧ capOk (v 2)
theorem Few.mid {l : Lay} {rs : List RtV} {v : Nat → Value} (h : Few l rs v) : IsMid l rs v :=
  ⟨by have := h.n; omega, by have := h.n; omega, by have := h.n; omega, by have := h.n; omega, fun x hx => by have := h.x x hx; exact ⟨this.1, by omega, by omega, by omega⟩, h.c.1, h.c.2⟩
theorem cap_of {o : Option Addr} {n c : Nat} (h : n ≤ c) : capOk (.slice o n c) := fun _ _ _ e => by injection e with e1 e2 e3; omega
theorem is_few {v : Nat → Value} {l : Lay} {rs : List RtV} {w : World} (h : LayRd w v l rs) (hf : Few l rs v) (b : Bool) (hb : isB l = b) :
    Calls Tryz.prog 25 #[.agg #[v 0, v 1, v 2, v 3]] w fun e w' => e = .returned (.bool b) ∧ Below w.heap.size w w' := by
  rw [← hb]
  exact tableIs_any v l rs w h hf.mid
theorem with_world {P : Program} {f : FuncId} {args : Array Value} {w : World} {Q : Ending → World → Prop} (h : ∀ W, W = w → Calls P f args W Q) : Calls P f args w Q := h w rfl
theorem one_bool (a : Bool) : ∀ u ∈ [Value.bool a], u.oneCell' = true := by
  intro u hu
  rw [List.mem_singleton.1 hu]
  rfl
theorem drewN_alloc (w : World) (o : Obj) (n : Nat) : (w.alloc o).drewN n = (w.drewN n).alloc o := by
  rfl
theorem drewN_size (w : World) (n : Nat) : (w.drewN n).heap.size = w.heap.size := by
  rfl
theorem blk_at3 (w : World) (o o' o'' o3 : Obj) : ((((w.alloc o3).alloc o'').alloc o').alloc o).heap[w.heap.size + 1 + 1 + 1]? = some o := by
  have := blk_at2 (w.alloc o3) o o' o''
  rwa [World.size_alloc] at this
theorem set4 {W : World} {b : Nat} {a0 a1 a2 a3 : Value} {t : TypeId} (h : W.heap[b]? = some (.cells #[a0, a1, a2, a3] t (0, 0))) (u0 u1 u2 u3 : Value) :
    ((((W.setCell ⟨b, 0, none⟩ u0).setCell ⟨b, 1, none⟩ u1).setCell ⟨b, 2, none⟩ u2).setCell ⟨b, 3, none⟩ u3).heap[b]? = some (.cells #[u0, u1, u2, u3] t (0, 0)) := by
  have := heap_put (i := 3) (heap_put (i := 2) (heap_put (i := 1) (heap_put (i := 0) h u0) u1) u2) u3
  simpa using this
theorem below_set4 {B : Nat} {w W : World} {b : Nat} (h : Below B w W) (hb : B ≤ b) (u0 u1 u2 u3 : Value) : Below B w ((((W.setCell ⟨b, 0, none⟩ u0).setCell ⟨b, 1, none⟩ u1).setCell ⟨b, 2, none⟩ u2).setCell ⟨b, 3, none⟩ u3) :=
  (((h.setCell hb u0).setCell hb u1).setCell hb u2).setCell hb u3
theorem set3 {W : World} {b : Nat} {a0 a1 a2 : Value} {t : TypeId} (h : W.heap[b]? = some (.cells #[a0, a1, a2] t (0, 0))) (u0 u1 u2 : Value) :
    (((W.setCell ⟨b, 0, none⟩ u0).setCell ⟨b, 1, none⟩ u1).setCell ⟨b, 2, none⟩ u2).heap[b]? = some (.cells #[u0, u1, u2] t (0, 0)) := by
  have := heap_put (i := 2) (heap_put (i := 1) (heap_put (i := 0) h u0) u1) u2
  simpa using this
theorem cells3 {W : World} {b : Nat} {a0 a1 a2 : Value} {t : TypeId} (h : W.heap[b]? = some (.cells #[a0, a1, a2] t (0, 0))) : W.cell? ⟨b, 0, none⟩ = some a0 ∧ W.cell? ⟨b, 1, none⟩ = some a1 ∧ W.cell? ⟨b, 2, none⟩ = some a2 := by
  refine ⟨?_, ?_, ?_⟩ <;> simp [World.cell?, h]

end Go.Proofs.YtceebimgfajbcaaGreatDoor
