/-
  Rows in memory, read; a layout, read.
-/
import Derived.Test.YtceebimgfajbcaaLoops
import Derived.Maps.AppendAt
import Derived.Maps.Range
import Derived.WalkKit
import Derived.Deep.LoopGhost
import Derived.Deep.QuietTactic
import Derived.BigQuiet
namespace Go.Proofs.Ytceebimgfajbcaa
open Go.RowKit

theorem grown_of_below {w w' : World} (h : Below w.heap.size w w') : w.grownBy w' none := ⟨h.os, h.tape, h.output, h.size, fun k hk _ => h.block k hk⟩

theorem owns_below {w w' : World} {base : Nat} {e : TypeId} {size : Nat} {v : Value} {n : Nat} {xs : List Value} (h : w.ownsRow base e size v n xs) (hb : Below w.heap.size w w') : w'.ownsRow base e size v n xs :=
  h.kept (grown_of_below hb) (by cases v.ownBlock <;> simp)

theorem owns_mono {w : World} {base base' : Nat} {e : TypeId} {size : Nat} {v : Value} {n : Nat} {xs : List Value} (h : w.ownsRow base e size v n xs) (hb : base' ≤ base) : w.ownsRow base' e size v n xs := by
  refine ⟨h.1, ?_⟩
  rcases h.2 with h2 | ⟨g, cap, cur, a, b, c⟩
  · exact .inl h2
  · exact .inr ⟨g, cap, cur, a, by omega, c⟩

def kSet : ByteArray := ⟨#[115, 101, 116]⟩

def kFlank : ByteArray := ⟨#[102, 108, 97, 110, 107]⟩

def endsB (s : ByteArray) : Bool := decide (s = kSet ∨ s = kFlank)

/-- A NAME. -/
def capB (s : ByteArray) : Bool := nameB s.data.toList && !endsB s

abbrev Wt := ByteArray × Bool

structure Rt where
  name : ByteArray
  frm : Int
  to : Int
  path : List Int
  points : List (Int × Bool)
  flank : List (Int × Bool)

structure Lay where
  sections : List ByteArray
  points : List (ByteArray × Int)
  signals : List ByteArray
  routes : List Rt

/-- The place of the first; -1. -/
def idxF (x : ByteArray) : List ByteArray → Nat → Int
  | [], _ => -1
  | y :: l, k => if x = y then (k : Int) else idxF x l (k + 1)

def idx (l : List ByteArray) (x : ByteArray) : Int := idxF x l 0

theorem toList_eq (a b : ByteArray) : (a.toList == b.toList) = decide (a = b) := by
  rw [Lib.toList_data, Lib.toList_data, Bool.eq_iff_iff]
  simp only [beq_iff_eq, decide_eq_true_eq]
  exact ⟨fun h => ByteArray.ext (Array.ext' h), fun h => by rw [h]⟩

theorem blk_below {w w' : World} {c : Nat} {o : Obj} (hb : Below w.heap.size w w') (h : w.heap[c]? = some o) : w'.heap[c]? = some o :=
  (hb.block c (Array.getElem?_eq_some_iff.1 h).1).trans h

theorem blk_new (w : World) (o : Obj) : (w.alloc o).heap[w.heap.size]? = some o := by
  show (w.heap.push o)[w.heap.size]? = some o
  simp

theorem blk_old {w : World} {c : Nat} {o o' : Obj} (h : w.heap[c]? = some o) : (w.alloc o').heap[c]? = some o :=
  (Below.heap_alloc _ _ _ (Array.getElem?_eq_some_iff.1 h).1).trans h

theorem infoS : (Try.prog.info? 9).map (fun i => (i.zero, i.size, i.bytes)) = some (some (.string ⟨#[]⟩), 1, 16) := by kernel_rfl

theorem one_str (a : ByteArray) : ∀ u ∈ [Value.string a], u.oneCell' = true := by
  intro u hu
  rw [List.mem_singleton.1 hu]
  rfl

theorem bytes_ext {s : ByteArray} {l : List UInt8} (h : s.data.toList = l) : s = ⟨l.toArray⟩ := ByteArray.ext (Array.ext' (by rw [h]))

/-- A slice value whose elements read so, each so many cells. -/
def rowAt {α : Type} (w : World) (v : Value) (size : Nat) (cs : α → List Value) (l : List α) : Prop :=
  ∃ oa cap, v = .slice oa l.length cap ∧ ∀ j x, l[j]? = some x → ∃ g off, oa = some ⟨g, off, none⟩ ∧ ∀ i u, (cs x)[i]? = some u → w.cell? ⟨g, off + j * size + i, none⟩ = some u

theorem rowAt.below {α : Type} {w w' : World} {v : Value} {size : Nat} {cs : α → List Value} {l : List α} (h : rowAt w v size cs l) (hb : Below w.heap.size w w') : rowAt w' v size cs l := by
  obtain ⟨oa, cap, h1, h2⟩ := h
  refine ⟨oa, cap, h1, fun j x hj => ?_⟩
  obtain ⟨g, off, e, hc⟩ := h2 j x hj
  exact ⟨g, off, e, fun i u hu => (hb.cell (p := ⟨g, off + j * size + i, none⟩) (World.block_lt_of_cell? w _ (hc i u hu))).trans (hc i u hu)⟩

theorem rowAt.drewN {α : Type} {w : World} {v : Value} {size : Nat} {cs : α → List Value} {l : List α} (h : rowAt w v size cs l) (n : Nat) : rowAt (w.drewN n) v size cs l :=
  h.below (below_drewN (Below.refl _ _) n)

theorem rowAt.nil {α : Type} (w : World) (size : Nat) (cs : α → List Value) : rowAt w (.slice none 0 0) size cs [] := ⟨none, 0, rfl, fun j x hj => by simp at hj⟩

theorem flat_get {α : Type} {cs : α → List Value} {size : Nat} (hs : ∀ x, (cs x).length = size) : ∀ (l : List α) (j : Nat) (x : α) (i : Nat) (u : Value), l[j]? = some x → (cs x)[i]? = some u → (l.flatMap cs)[j * size + i]? = some u
  | y :: l, 0, x, i, u, h, hu => by
    simp at h
    subst h
    rw [List.flatMap_cons, Nat.zero_mul, Nat.zero_add, List.getElem?_append_left (List.getElem?_eq_some_iff.1 hu).1, hu]
  | y :: l, j + 1, x, i, u, h, hu => by
    rw [List.flatMap_cons, List.getElem?_append_right (by rw [hs, Nat.add_mul, Nat.one_mul]; omega), hs, show (j + 1) * size + i - size = j * size + i by rw [Nat.add_mul, Nat.one_mul]; omega]
    exact flat_get hs l j x i u (by simpa using h) hu

theorem addr_add (g j : Nat) : (⟨g, 0, none⟩ : Addr).add j = ⟨g, j, none⟩ := by unfold Addr.add; split <;> simp_all

theorem rowAt_of_owns {α : Type} {w : World} {base : Nat} {e : TypeId} {v : Value} {size : Nat} {cs : α → List Value} {l : List α} (hs : ∀ x, (cs x).length = size) (h : w.ownsRow base e size v l.length (l.flatMap cs)) : rowAt w v size cs l := by
  rcases h.2 with ⟨h1, h2⟩ | ⟨g, cap, cur, h1, _, _, h2, _⟩
  · have e := List.eq_nil_of_length_eq_zero h2
    subst e
    rw [h1]
    exact rowAt.nil _ _ _
  · refine ⟨some ⟨g, 0, none⟩, cap, h1, fun j x hj => ⟨g, 0, rfl, fun i u hu => ?_⟩⟩
    have hc := h.cells (g := g) (by rw [h1]; rfl) _ _ (flat_get hs l j x i u hj hu)
    rw [addr_add] at hc
    rw [Nat.zero_add]
    exact hc

def sC (x : ByteArray) : List Value := [.string x]

def iC (x : Int) : List Value := [.int .i64 x]

def nC (x : Int × Bool) : List Value := [.int .i64 x.1, .bool x.2]

def pC (x : ByteArray × Int) : List Value := [.string x.1, .int .i64 x.2]

/-- A route and the slices that it holds. -/
abbrev RtV := Rt × (Value × Value × Value)

def rC (x : RtV) : List Value := [.string x.1.name, .int .i64 x.1.frm, .int .i64 x.1.to, x.2.1, x.2.2.1, x.2.2.2]

theorem drop_at {α : Type} {l : List α} {k : Nat} {x : α} (h : l[k]? = some x) : l.drop k = x :: l.drop (k + 1) := by
  obtain ⟨hl, rfl⟩ := List.getElem?_eq_some_iff.1 h
  exact List.drop_eq_getElem_cons hl

set_option maxRecDepth 1000000 in
set_option maxHeartbeats 1000000 in
theorem index_any (v : Value) (l : List ByteArray) (x : ByteArray) (w : World) (h : rowAt w v 1 sC l) (hl : l.length ≤ 4294967296) :
    Calls Try.prog 37 #[v, .string x] w fun e w' => e = .returned (.int .i64 (idx l x)) ∧ w' = w := by
  obtain ⟨oa, cap, rfl, h2⟩ := h
  have H2 : Hid (∀ j y, l[j]? = some y → ∃ g off, oa = some ⟨g, off, none⟩ ∧ ∀ i u, (sC y)[i]? = some u → w.cell? ⟨g, off + j * 1 + i, none⟩ = some u) := h2
  clear h2
  have HI : Hid (idx l x = idxF x l 0) := rfl
  generalize idx l x = ans at *
  generalize hn : l.length = n at *
  have HN : Hid (l.length = n) := hn
  clear hn
  go_enter Try.func37, Try.ntmps37
  go_wp2
  go_loop [5, 8] (fun _ i => ∃ k : Nat, i = .int .i64 k ∧ k ≤ n ∧ idxF x (l.drop k) k = idxF x l 0) (fun _ i => n - (intOf i).toNat)
  case atStart => exact ⟨0, rfl, by omega, by simp⟩
  case round =>
    obtain ⟨k, rfl, hk, hc⟩ := hrel
    have HC : Hid (idxF x (l.drop k) k = idxF x l 0) := hc
    clear hc
    by_cases hlt : k < n
    · obtain ⟨y, hy⟩ : ∃ y, l[k]? = some y := ⟨l[k]'(by rw [HN.out]; exact hlt), List.getElem?_eq_getElem _⟩
      obtain ⟨g, off, rfl, hcell⟩ := H2.out k y hy
      have c0 := hcell 0 _ rfl
      simp only [Nat.mul_one, Nat.add_zero] at c0
      rw [drop_at hy, idxF] at HC
      clear hcell hy
      by_cases hxy : x = y
      · have hb : (x.toList == y.toList) = true := by rw [toList_eq, decide_eq_true hxy]
        rw [if_pos hxy] at HC
        clear hxy
        go_wp2
        go_ret
        exact ⟨by rw [HI.out, ← HC.out]; rfl, rfl⟩
      · have hb : (x.toList == y.toList) = false := by rw [toList_eq, decide_eq_false hxy]
        rw [if_neg hxy] at HC
        clear hxy
        go_wp2
        go_round
        case rel => exact ⟨k + 1, by go_num, by omega, HC.out⟩
        case measure => simp [intOf]; omega
    · have h1 := HC.out
      rw [List.drop_of_length_le (by rw [HN.out]; omega), idxF] at h1
      have H1 : Hid (-1 = idxF x l 0) := h1
      clear h1
      go_wp2
      go_ret
      exact ⟨by rw [HI.out, ← H1.out]; rfl, rfl⟩

theorem idxF_ge (x : ByteArray) : ∀ (l : List ByteArray) (k : Nat), idxF x l k = -1 ∨ 0 ≤ idxF x l k
  | [], _ => .inl rfl
  | y :: l, k => by
    rw [idxF]
    split
    · right; omega
    · exact idxF_ge x l (k + 1)

theorem idx_ge (l : List ByteArray) (x : ByteArray) : idx l x = -1 ∨ 0 ≤ idx l x := idxF_ge x l 0

theorem geq_zero {n : Int} (h : n = -1 ∨ 0 ≤ n) : decide (0 ≤ n) = decide (n ≠ -1) := by
  rw [Bool.eq_iff_iff]; simp; omega

theorem contains_any (v : Value) (l : List ByteArray) (x : ByteArray) (w : World) (h : rowAt w v 1 sC l) (hl : l.length ≤ 4294967296) :
    Calls Try.prog 24 #[v, .string x] w fun e w' => e = .returned (.bool (decide (idx l x ≠ -1))) ∧ w' = w := by
  have HI := geq_zero (idx_ge l x)
  have C := fun W => index_any v l x W
  have H : Hid (rowAt w v 1 sC l) := h
  clear h
  rw [← HI]
  generalize idx l x = n at *
  have D : Hid (∀ W, rowAt W v 1 sC l → l.length ≤ 4294967296 → Calls Try.prog 37 #[v, .string x] W fun e w' => e = .returned (.int .i64 n) ∧ w' = W) := C
  clear C HI
  go_enter Try.func24, Try.ntmps24
  go_wp2_with fail
  refine (D.out _ H.out hl).mono ?_
  rintro e w1 ⟨rfl, rfl⟩
  go_wp2
  go_ret
  exact ⟨rfl, rfl⟩

/-- A route whose slices lie so. -/
structure RtAt (w : World) (x : RtV) : Prop where
  path : rowAt w x.2.1 1 iC x.1.path
  points : rowAt w x.2.2.1 2 nC x.1.points
  flank : rowAt w x.2.2.2 2 nC x.1.flank

theorem RtAt.below {w w' : World} {x : RtV} (h : RtAt w x) (hb : Below w.heap.size w w') : RtAt w' x := ⟨h.path.below hb, h.points.below hb, h.flank.below hb⟩

theorem rowAt.slice {α : Type} {w : World} {v : Value} {size : Nat} {cs : α → List Value} {l : List α} (h : rowAt w v size cs l) : ∃ o n c, v = .slice o n c := by
  obtain ⟨oa, cap, h, _⟩ := h
  exact ⟨_, _, _, h⟩

theorem RtAt.slices {w : World} {x : RtV} (h : RtAt w x) : (∃ o n c, x.2.1 = .slice o n c) ∧ (∃ o n c, x.2.2.1 = .slice o n c) ∧ ∃ o n c, x.2.2.2 = .slice o n c := ⟨h.path.slice, h.points.slice, h.flank.slice⟩

theorem owns_keep {e : TypeId} {size : Nat} {w w' : World} {B n : Nat} {v : Value} {xs : List Value} (h : w.ownsRow B e size v n xs) (hk : ∀ k, v.ownBlock = some k → w'.heap[k]? = w.heap[k]?) : w'.ownsRow B e size v n xs := by
  refine ⟨h.1, ?_⟩
  rcases h.2 with h2 | ⟨g, cap, cur, rfl, b, hg, r⟩
  · exact .inl h2
  · exact .inr ⟨g, cap, cur, rfl, b, (hk g rfl).trans hg, r⟩

/-- A layout, read: its four slices. -/
structure LayRd (w : World) (v : Nat → Value) (l : Lay) (rs : List RtV) : Prop where
  s : rowAt w (v 0) 1 sC l.sections
  p : rowAt w (v 1) 2 pC l.points
  g : rowAt w (v 2) 1 sC l.signals
  r : rowAt w (v 3) 6 rC rs
  m : rs.map (·.1) = l.routes
  x : ∀ x ∈ rs, RtAt w x

variable {w w' : World}

theorem LayRd.below {v : Nat → Value} {l : Lay} {rs : List RtV} (h : LayRd w v l rs) (hb : Below w.heap.size w w') : LayRd w' v l rs :=
  ⟨h.s.below hb, h.p.below hb, h.g.below hb, h.r.below hb, h.m, fun x hx => (h.x x hx).below hb⟩
end Go.Proofs.Ytceebimgfajbcaa
