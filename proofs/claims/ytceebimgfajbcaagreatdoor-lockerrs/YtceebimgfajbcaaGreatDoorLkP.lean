/-
  Package lock, plain: how a route stands a cycle later; who holds what; rows of routes in memory.
-/
import Derived.Test.YtceebimgfajbcaaGreatDoorJoin5
import Derived.Test.YtceebimgfajbcaaGreatDoorOwBase
namespace Go.Proofs.YtceebimgfajbcaaGreatDoor
open Go.RowKit

/-- How a route stands: its mode, its timer, how many sections are gone, whether the train was seen. -/
abbrev St := Int × Int × Int × Bool
def stC (x : St) : List Value := [.int .i64 x.1, .int .i64 x.2.1, .int .i64 x.2.2.1, .bool x.2.2.2]
def stV (x : St) : Value := .agg #[.int .i64 x.1, .int .i64 x.2.1, .int .i64 x.2.2.1, .bool x.2.2.2]
def idleS : St := (0, 0, 0, false)
/-- What is kept of a route. -/
structure Wy where
  frm : Int
  path : List Int
  needs : List (Int × Bool)
  foes : List Int
abbrev WyV := Wy × (Value × Value × Value)
def wyC (x : WyV) : List Value := [.int .i64 x.1.frm, x.2.1, x.2.2.1, x.2.2.2]
structure WyAt (w : World) (x : WyV) : Prop where
  path : rowAt w x.2.1 1 iC x.1.path
  needs : rowAt w x.2.2.1 2 nC x.1.needs
  foes : rowAt w x.2.2.2 1 iC x.1.foes
  cap : capOk x.2.1
theorem WyAt.below {w w' : World} {x : WyV} (h : WyAt w x) (hb : Below w.heap.size w w') : WyAt w' x := ⟨h.path.below hb, h.needs.below hb, h.foes.below hb, h.cap⟩

/-- What the field tells. -/
structure InRd (w : World) (v : Nat → Value) (occ : List Bool) (lies : List Int) : Prop where
  o : rowAt w (v 0) 1 bC occ
  l : rowAt w (v 1) 1 iC lies
theorem InRd.below {w w' : World} {v : Nat → Value} {occ : List Bool} {lies : List Int} (h : InRd w v occ lies) (hb : Below w.heap.size w w') : InRd w' v occ lies := ⟨h.o.below hb, h.l.below hb⟩

def posF (b : Bool) : Int := if b = true then 2 else 1
def occF (occ : List Bool) (s : Int) : Bool := occ.getD s.toNat false
def lieF (lies : List Int) (p : Int) : Int := lies.getD p.toNat 0
def nthI (l : List Int) (i : Int) : Int := l.getD i.toNat 0
def rightF (lies : List Int) (n : Int × Bool) : Bool := decide (lieF lies n.1 = posF n.2)
def clearB (occ : List Bool) (path : List Int) : Bool := path.all fun s => !occF occ s
def rightB (lies : List Int) (needs : List (Int × Bool)) : Bool := needs.all (rightF lies)

/-- All that a route speaks of is there. -/
structure WyOk (ns np ng : Nat) (x : Wy) : Prop where
  path : ∀ s ∈ x.path, 0 ≤ s ∧ s < ns
  needs : ∀ n ∈ x.needs, 0 ≤ n.1 ∧ n.1 < np
  frm : 0 ≤ x.frm ∧ x.frm < ng
  some_ : 0 < x.path.length
  few : x.path.length ≤ 1000000 ∧ x.needs.length ≤ 1000000 ∧ x.foes.length ≤ 1000000

def waitF (s : St) (most : Int) : St := if most < s.2.1 + 1 then idleS else (s.1, s.2.1 + 1, s.2.2.1, s.2.2.2)
def followF (s : St) (path : List Int) (occ : List Bool) : St :=
  if occF occ (nthI path s.2.2.1) = true then (s.1, s.2.1, s.2.2.1, true)
  else if s.2.2.2 = false then s
  else if s.2.2.1 + 1 = path.length then idleS else (s.1, s.2.1, s.2.2.1 + 1, false)
/-- How a route stands a cycle later. -/
def stepF (s : St) (x : Wy) (occ : List Bool) (lies : List Int) : St :=
  if s.1 = 1 then (if rightB lies x.needs = true then (2, 0, 0, false) else waitF s 8)
  else if s.1 = 2 then (if occF occ (nthI x.path 0) = true then (3, 0, 0, true) else s)
  else if s.1 = 4 then (if occF occ (nthI x.path 0) = true then (3, 0, 0, true) else waitF s 5)
  else if s.1 = 3 then followF s x.path occ
  else s

/-- A route over so many sections may stand so. -/
def mayBeF (s : St) (n : Nat) : Bool :=
  if s.1 = 0 ∨ s.1 = 2 then decide (s.2 = (0, 0, false))
  else if s.1 = 1 then decide (s.2.2 = (0, false) ∧ 0 ≤ s.2.1 ∧ s.2.1 ≤ 8)
  else if s.1 = 4 then decide (s.2.2 = (0, false) ∧ 0 ≤ s.2.1 ∧ s.2.1 ≤ 5)
  else if s.1 = 3 then decide (s.2.1 = 0 ∧ 0 ≤ s.2.2.1 ∧ s.2.2.1 < n)
  else false

theorem mayBe_idle (n : Nat) : mayBeF idleS n = true := by simp [mayBeF, idleS]
theorem mayBe_bounds {s : St} {n : Nat} (h : mayBeF s n = true) (hn : 0 < n) : 0 ≤ s.1 ∧ s.1 ≤ 4 ∧ 0 ≤ s.2.1 ∧ s.2.1 ≤ 8 ∧ 0 ≤ s.2.2.1 ∧ s.2.2.1 < n := by
  obtain ⟨m, t, g, b⟩ := s
  unfold mayBeF at h
  simp only at h ⊢
  split at h
  · have := of_decide_eq_true h
    injection this with h1 h2
    injection h2 with h2 h3
    omega
  split at h
  · have := of_decide_eq_true h
    obtain ⟨h1, h2, h3⟩ := this
    injection h1 with h1 h4
    omega
  split at h
  · have := of_decide_eq_true h
    obtain ⟨h1, h2, h3⟩ := this
    injection h1 with h1 h4
    omega
  split at h
  · have := of_decide_eq_true h
    omega
  · cases h
theorem mayBe_wait {m t most : Int} {n : Nat} (hm : (m = 1 ∧ most = 8) ∨ (m = 4 ∧ most = 5)) (h0 : 0 ≤ t) : mayBeF (waitF (m, t, 0, false) most) n = true := by
  unfold waitF
  simp only
  split
  · exact mayBe_idle n
  · rcases hm with ⟨rfl, rfl⟩ | ⟨rfl, rfl⟩
    · simp [mayBeF]; omega
    · simp [mayBeF]; omega
theorem mayBe_step {s : St} {x : Wy} {occ : List Bool} {lies : List Int} (h : mayBeF s x.path.length = true) (hx : 0 < x.path.length) : mayBeF (stepF s x occ lies) x.path.length = true := by
  have hb := mayBe_bounds h hx
  obtain ⟨m, t, g, b⟩ := s
  unfold stepF
  simp only at hb ⊢
  split
  · rename_i hm
    subst hm
    split
    · simp [mayBeF]
    · have h2 := h
      unfold mayBeF at h2
      simp at h2
      obtain ⟨⟨rfl, rfl⟩, _⟩ := h2
      exact mayBe_wait (.inl ⟨rfl, rfl⟩) (by omega)
  split
  · split
    · simp [mayBeF]; exact hx
    · exact h
  split
  · rename_i hm
    subst hm
    split
    · simp [mayBeF]; exact hx
    · have h2 := h
      unfold mayBeF at h2
      simp at h2
      obtain ⟨⟨rfl, rfl⟩, _⟩ := h2
      exact mayBe_wait (.inr ⟨rfl, rfl⟩) (by omega)
  split
  · rename_i hm
    subst hm
    have h2 := h
    unfold mayBeF at h2
    simp at h2
    unfold followF
    simp only
    split
    · simp [mayBeF]; omega
    split
    · exact h
    split
    · exact mayBe_idle _
    · simp [mayBeF]; omega
  · exact h

/-- The sections that a route holds. -/
def heldF (x : Wy) (s : St) : List Int := if s.1 = 0 then [] else x.path.drop s.2.2.1.toNat
def holdsB (sec : Int) (q : Wy × St) : Bool := inB (heldF q.1 q.2) sec
/-- The route that holds a section; -1. -/
def holderF (ws : List Wy) (ss : List St) (sec : Int) : Int := atF (holdsB sec) (ws.zip ss) 0
/-- May a point be moved for a route? -/
def mayMoveF (pts : List Int) (ws : List Wy) (ss : List St) (occ : List Bool) (p : Int) (r : Int) : Bool :=
  !occF occ (nthI pts p) && (decide (holderF ws ss (nthI pts p) = -1) || decide (holderF ws ss (nthI pts p) = r))
/-- Lies a point wrong for a route, and may not be moved? -/
def barF (pts : List Int) (ws : List Wy) (ss : List St) (occ : List Bool) (lies : List Int) (r : Int) (n : Int × Bool) : Bool :=
  !rightF lies n && !mayMoveF pts ws ss occ n.1 r
def stAt (ss : List St) (i : Int) : St := ss.getD i.toNat idleS
/-- Is one of these routes not idle? -/
def busyB (ss : List St) (routes : List Int) : Bool := routes.any fun i => decide ((stAt ss i).1 ≠ 0)

theorem nthI_at {l : List Int} {k : Nat} {x : Int} (h : l[k]? = some x) : nthI l (k : Int) = x := getD_at h
theorem occF_at {l : List Bool} {k : Nat} {x : Bool} (h : l[k]? = some x) : occF l (k : Int) = x := getD_at h
theorem lieF_at {l : List Int} {k : Nat} {x : Int} (h : l[k]? = some x) : lieF l (k : Int) = x := getD_at h
theorem stAt_at {l : List St} {k : Nat} {x : St} (h : l[k]? = some x) : stAt l (k : Int) = x := getD_at h
/-- A lock, read. -/
structure LkRd (W : World) (kb : Nat) (u : Nat → Value) (ns ng : Nat) (pts : List Int) (ws : List WyV) (ss : List St) : Prop where
  c0 : W.cell? ⟨kb, 0, none⟩ = some (.int .i64 (ns : Nat))
  c1 : W.cell? ⟨kb, 1, none⟩ = some (.int .i64 (ng : Nat))
  c2 : W.cell? ⟨kb, 2, none⟩ = some (u 0)
  c3 : W.cell? ⟨kb, 3, none⟩ = some (u 1)
  c4 : W.cell? ⟨kb, 4, none⟩ = some (u 2)
  p : rowAt W (u 0) 1 iC pts
  w : rowAt W (u 1) 4 wyC ws
  s : rowAt W (u 2) 4 stC ss
  x : ∀ y ∈ ws, WyAt W y
theorem LkRd.below {W W' : World} {kb : Nat} {u : Nat → Value} {ns ng : Nat} {pts : List Int} {ws : List WyV} {ss : List St} (h : LkRd W kb u ns ng pts ws ss) (hb : Below W.heap.size W W') : LkRd W' kb u ns ng pts ws ss :=
  ⟨up_cell hb h.c0, up_cell hb h.c1, up_cell hb h.c2, up_cell hb h.c3, up_cell hb h.c4, h.p.below hb, h.w.below hb, h.s.below hb, fun y hy => (h.x y hy).below hb⟩

/-- All is there, and may stand so. -/
structure LkOk (ns ng : Nat) (pts : List Int) (ws : List Wy) (ss : List St) : Prop where
  len : ss.length = ws.length
  ways : ∀ x ∈ ws, WyOk ns pts.length ng x
  foes : ∀ x ∈ ws, ∀ f ∈ x.foes, 0 ≤ f ∧ f < (ws.length : Nat)
  inn : ∀ p ∈ pts, 0 ≤ p ∧ p < (ns : Nat)
  sts : ∀ (k : Nat) (x : Wy) (s : St), ws[k]? = some x → ss[k]? = some s → mayBeF s x.path.length = true
  few : ns ≤ 1000 ∧ pts.length ≤ 1000 ∧ ng ≤ 1000 ∧ ws.length ≤ 1000

theorem row_way {w : World} {o : Option Addr} {n c : Nat} {l : List WyV} (h : rowAt w (.slice o n c) 4 wyC l) : ∀ j x, l[j]? = some x → ∃ g off, o = some ⟨g, off, none⟩ ∧ w.cell? ⟨g, off + j * 4, none⟩ = some (.int .i64 x.1.frm) ∧ w.cell? ⟨g, off + j * 4 + 1, none⟩ = some x.2.1 ∧ w.cell? ⟨g, off + j * 4 + 2, none⟩ = some x.2.2.1 ∧ w.cell? ⟨g, off + j * 4 + 3, none⟩ = some x.2.2.2 := fun j x hj => by
  obtain ⟨o', c', e, h2⟩ := h
  injection e with e1 e2 e3
  obtain ⟨g, off, e4, hc⟩ := h2 j x hj
  exact ⟨g, off, e1.trans e4, by simpa using hc 0 _ rfl, hc 1 _ rfl, hc 2 _ rfl, hc 3 _ rfl⟩
theorem row_st {w : World} {o : Option Addr} {n c : Nat} {l : List St} (h : rowAt w (.slice o n c) 4 stC l) : ∀ j x, l[j]? = some x → ∃ g off, o = some ⟨g, off, none⟩ ∧ w.cell? ⟨g, off + j * 4, none⟩ = some (.int .i64 x.1) ∧ w.cell? ⟨g, off + j * 4 + 1, none⟩ = some (.int .i64 x.2.1) ∧ w.cell? ⟨g, off + j * 4 + 2, none⟩ = some (.int .i64 x.2.2.1) ∧ w.cell? ⟨g, off + j * 4 + 3, none⟩ = some (.bool x.2.2.2) := fun j x hj => by
  obtain ⟨o', c', e, h2⟩ := h
  injection e with e1 e2 e3
  obtain ⟨g, off, e4, hc⟩ := h2 j x hj
  exact ⟨g, off, e1.trans e4, by simpa using hc 0 _ rfl, hc 1 _ rfl, hc 2 _ rfl, hc 3 _ rfl⟩
end Go.Proofs.YtceebimgfajbcaaGreatDoor
