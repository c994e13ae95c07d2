/-
  A layout out of blocks; a layout of few things: by contracts.
-/
import Derived.Test.YtgacnebihkofcabTbIs
import Derived.Test.YtgacnebihkofcabTbConf
namespace Go.Proofs.Ytgacnebihkofcab
open Go.RowKit

theorem row_blk {α : Type} {cs : α → List Value} {size : Nat} (hs : ∀ x, (cs x).length = size) {W : World} {b cap : Nat} {c : Array Value} {t : TypeId} {z : Nat × Nat} (l : List α) (hb : W.heap[b]? = some (.cells c t z)) (hc : l.flatMap cs = c.toList) : rowAt W (.slice (some ⟨b, 0, none⟩) l.length cap) size cs l := by
  refine ⟨_, _, rfl, fun j x hj => ⟨b, 0, rfl, fun i u hu => ?_⟩⟩
  have h1 := flat_get hs l j x i u hj hu
  rw [hc] at h1
  rw [Nat.zero_add]
  simp [World.cell?, hb]
  simpa using h1

theorem blk_new' {w : World} {o : Obj} {n : Nat} (h : n = w.heap.size) : (w.alloc o).heap[n]? = some o := by
  rw [h]
  exact blk_new _ _

/-- Where a layout of two routes lies. -/
def v4 (a b c d : Value) : Nat → Value
  | 0 => a
  | 1 => b
  | 2 => c
  | _ => d

theorem lay_two {W : World} {bs bg br : Nat} {cs cg cr : Array Value} {ts tg tr : TypeId} {zs zg zr : Nat × Nat} {ks kg : Nat} (S G : List ByteArray) (vp : Value) (ps : List (ByteArray × Int)) (x0 x1 : RtV)
    (hS : W.heap[bs]? = some (.cells cs ts zs)) (eS : S.flatMap sC = cs.toList) (hG : W.heap[bg]? = some (.cells cg tg zg)) (eG : G.flatMap sC = cg.toList) (hR : W.heap[br]? = some (.cells cr tr zr)) (eR : [x0, x1].flatMap rC = cr.toList)
    (hp : rowAt W vp 2 pC ps) (h0 : RtAt W x0) (h1 : RtAt W x1) :
    LayRd W (v4 (.slice (some ⟨bs, 0, none⟩) S.length ks) vp (.slice (some ⟨bg, 0, none⟩) G.length kg) (.slice (some ⟨br, 0, none⟩) 2 2)) ⟨S, ps, G, [x0.1, x1.1]⟩ [x0, x1] :=
  ⟨row_blk (cs := sC) (fun _ => rfl) S hS eS, hp, row_blk (cs := sC) (fun _ => rfl) G hG eG, row_blk (cs := rC) (fun _ => rfl) [x0, x1] hR eR, rfl, fun x hx => by
    rcases List.mem_cons.1 hx with rfl | hx
    · exact h0
    · rw [List.mem_singleton.1 hx]
      exact h1⟩

/-- A layout of few things. -/
structure Few (l : Lay) (rs : List RtV) (v : Nat → Value) : Prop where
  n : l.sections.length ≤ 100 ∧ l.points.length ≤ 100 ∧ l.signals.length ≤ 100 ∧ l.routes.length ≤ 100
  x : ∀ x ∈ rs, capOk x.2.1 ∧ x.1.path.length ≤ 100 ∧ x.1.points.length ≤ 100 ∧ x.1.flank.length ≤ 100
  c : capOk (v 0) ∧ capOk (v 2)
theorem Few.mid {l : Lay} {rs : List RtV} {v : Nat → Value} (h : Few l rs v) : IsMid l rs v :=
  ⟨by have := h.n; omega, by have := h.n; omega, by have := h.n; omega, by have := h.n; omega, fun x hx => by have := h.x x hx; exact ⟨this.1, by omega, by omega, by omega⟩, h.c.1, h.c.2⟩
theorem cap_of {o : Option Addr} {n c : Nat} (h : n ≤ c) : capOk (.slice o n c) := fun _ _ _ e => by injection e with e1 e2 e3; omega

theorem is_few {v : Nat → Value} {l : Lay} {rs : List RtV} {w : World} (h : LayRd w v l rs) (hf : Few l rs v) (b : Bool) (hb : isB l = b) :
    Calls Try.prog 17 #[.agg #[v 0, v 1, v 2, v 3]] w fun e w' => e = .returned (.bool b) ∧ Below w.heap.size w w' := by
  rw [← hb]
  exact tableIs_any v l rs w h hf.mid
theorem conf_few {v : Nat → Value} {l : Lay} {rs : List RtV} {w : World} (h : LayRd w v l rs) (hf : Few l rs v) (r s : Nat) (x y : RtV) (hx : rs[r]? = some x) (hy : rs[s]? = some y) (b : Bool) (hb : confB r s x.1 y.1 = b) :
    Calls Try.prog 36 #[.agg #[v 0, v 1, v 2, v 3], .int .i64 r, .int .i64 s] w fun e w' => e = .returned (.bool b) ∧ Below w.heap.size w w' := by
  rw [← hb]
  have h1 := hf.x x (List.mem_of_getElem? hx)
  have h2 := hf.x y (List.mem_of_getElem? hy)
  exact conflict_any v l rs r s x y w h hx hy ⟨by omega, by omega⟩ ⟨by omega, by omega⟩

theorem with_world {P : Program} {f : FuncId} {args : Array Value} {w : World} {Q : Ending → World → Prop} (h : ∀ W, W = w → Calls P f args W Q) : Calls P f args w Q := h w rfl
end Go.Proofs.Ytgacnebihkofcab
