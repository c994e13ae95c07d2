/-
  The reader of a line (package plan), each of its small methods by a contract.
-/
import Derived.Test.YtbifcicipkhohaaDoorPlP
import Derived.Maps.AppendAt
import Derived.Maps.Range
import Derived.Deep.QuietTactic
import Derived.BigQuiet
namespace Go.Proofs.YtbifcicipkhohaaDoor
open Go.RowKit

/-- What a pointer to a reader leads to: the words that are left, the error; the words lie in older memory. -/
def RdIn (w : World) (R : Nat) (r : Rd) : Prop := ∃ (oa : Option Addr) (cap : Nat), w.heap[R]? = some (.cells #[.slice oa r.1.length cap, .int .i64 r.2] 89 (0, 0)) ∧ r.1.length ≤ cap ∧ r.1.length ≤ 4294967296 ∧
  ∀ j x, r.1[j]? = some x → ∃ g off, oa = some ⟨g, off, none⟩ ∧ g < R ∧ w.cell? ⟨g, off + j * 2, none⟩ = some (.string x)

theorem RdIn.lt {w : World} {R : Nat} {r : Rd} (h : RdIn w R r) : R < w.heap.size := by
  obtain ⟨oa, cap, h1, _⟩ := h
  exact (Array.getElem?_eq_some_iff.1 h1).1
theorem RdIn.len {w : World} {R : Nat} {r : Rd} (h : RdIn w R r) : r.1.length ≤ 4294967296 := by
  obtain ⟨_, _, _, _, h, _⟩ := h
  exact h
/-- What turns only younger memory leaves the reader. -/
theorem RdIn.keep {w w' : World} {R : Nat} {r : Rd} (h : RdIn w R r) (hk : ∀ k, k ≤ R → w'.heap[k]? = w.heap[k]?) : RdIn w' R r := by
  obtain ⟨oa, cap, h1, h2, h3, h4⟩ := h
  refine ⟨oa, cap, (hk R (Nat.le_refl _)).trans h1, h2, h3, fun j x hj => ?_⟩
  obtain ⟨g, off, e, hg, c⟩ := h4 j x hj
  exact ⟨g, off, e, hg, (World.cell?_of_block (w := w) (a := ⟨g, off + j * 2, none⟩) (hk g (by omega))).trans c⟩
theorem RdIn.below {w w' : World} {R : Nat} {r : Rd} (h : RdIn w R r) (hb : Below w.heap.size w w') : RdIn w' R r :=
  h.keep fun k hk => hb.block k (by have := h.lt; omega)

theorem heap_set1 {w : World} {c : Nat} {v u x : Value} {t : TypeId} (h : w.heap[c]? = some (.cells #[v, x] t (0, 0))) : (w.setCell ⟨c, 0, none⟩ u).heap[c]? = some (.cells #[u, x] t (0, 0)) := by
  simp [World.setCell, Array.getElem?_modify, h]
theorem heap_set2 {w : World} {c : Nat} {v u x : Value} {t : TypeId} (h : w.heap[c]? = some (.cells #[v, x] t (0, 0))) : (w.setCell ⟨c, 1, none⟩ u).heap[c]? = some (.cells #[v, u] t (0, 0)) := by
  simp [World.setCell, Array.getElem?_modify, h]
theorem grown_set (w : World) (c o : Nat) (u : Value) : w.grownBy (w.setCell ⟨c, o, none⟩ u) (some c) :=
  ⟨rfl, rfl, rfl, by simp [World.setCell], fun k _ hne => Below.heap_setCell _ _ _ _ (fun e => hne (by rw [e]))⟩
theorem two_cells {w : World} {c : Nat} {v x : Value} {t : TypeId} (h : w.heap[c]? = some (.cells #[v, x] t (0, 0))) : w.cell? ⟨c, 0, none⟩ = some v ∧ w.cell? ⟨c, 1, none⟩ = some x ∧ w.frozen? ⟨c, 0, none⟩ = false ∧ w.frozen? ⟨c, 1, none⟩ = false := by
  refine ⟨?_, ?_, ?_, ?_⟩ <;> simp [World.cell?, World.frozen?, h]

theorem RdIn.set1 {w : World} {R : Nat} {r : Rd} (h : RdIn w R r) (e : Nat) : RdIn (w.setCell ⟨R, 1, none⟩ (.int .i64 e)) R (r.1, e) := by
  obtain ⟨oa, cap, h1, h2, h3, h4⟩ := h
  refine ⟨oa, cap, heap_set2 h1, h2, h3, fun j x hj => ?_⟩
  obtain ⟨g, off, e1, hg, c⟩ := h4 j x hj
  exact ⟨g, off, e1, hg, (World.cell?_of_block (w := w) (a := ⟨g, off + j * 2, none⟩) (Below.heap_setCell _ _ _ _ (by show g ≠ R; omega))).trans c⟩
theorem RdIn.fault {w : World} {R : Nat} {r : Rd} (h : RdIn w R r) : w.cell? ⟨R, 1, none⟩ = some (.int .i64 r.2) ∧ w.frozen? ⟨R, 1, none⟩ = false := by
  obtain ⟨oa, cap, h1, _⟩ := h
  exact ⟨(two_cells h1).2.1, (two_cells h1).2.2.2⟩

set_option maxHeartbeats 400000 in
theorem fail_any (R : Nat) (r : Rd) (e : Nat) (w : World) (h : RdIn w R r) :
    Calls Tryd.prog 60 #[.pointer (some ⟨R, 0, none⟩), .int .i64 e] w fun en w' => en = .returned (.tuple #[]) ∧ RdIn w' R (r.1, failE r.2 e) ∧ w.grownBy w' (some R) := by
  have H : Hid (RdIn w R r) := h
  obtain ⟨c1, f1⟩ := h.fault
  clear h
  obtain ⟨ws, f⟩ := r
  simp only at *
  by_cases hf : f = 0
  · subst hf
    go_enter Tryd.func60, Tryd.ntmps60
    go_wp2
    go_end0
    exact ⟨rfl, H.out.set1 e, grown_set _ _ _ _⟩
  · have hf' : ((f : Int) == 0) = false := by simp; omega
    have HE : Hid (failE f e = f) := by simp [Hid, failE, hf]
    go_enter Tryd.func60, Tryd.ntmps60
    go_wp2
    go_end0
    exact ⟨rfl, by rw [HE.out]; exact H.out, World.grownBy.refl _ _⟩

theorem RdIn.step {w : World} {R : Nat} {x : ByteArray} {ws : List ByteArray} {f g off off' cap cap' n : Nat} (h1 : w.heap[R]? = some (.cells #[.slice (some ⟨g, off, none⟩) (n + 1) cap, .int .i64 f] 89 (0, 0))) (h3 : n + 1 ≤ 4294967296) (hn : ws.length = n)
    (h4 : ∀ j y, (x :: ws)[j]? = some y → ∃ g' off', some (⟨g, off, none⟩ : Addr) = some ⟨g', off', none⟩ ∧ g' < R ∧ w.cell? ⟨g', off' + j * 2, none⟩ = some (.string y)) (ho : n = 0 ∨ off' = off + 2) (hc : n ≤ cap') :
    RdIn (w.setCell ⟨R, 0, none⟩ (.slice (some ⟨g, off', none⟩) n cap')) R (ws, f) := by
  subst hn
  refine ⟨some ⟨g, off', none⟩, cap', heap_set1 h1, hc, (by show ws.length ≤ _; omega), fun j y hj => ⟨g, off', rfl, ?_⟩⟩
  obtain ⟨g', off'', e, hg, c⟩ := h4 (j + 1) y (by simpa using hj)
  simp only [Option.some.injEq, Addr.mk.injEq, and_true] at e
  obtain ⟨rfl, rfl⟩ := e
  refine ⟨hg, (World.cell?_of_block (w := w) (a := ⟨g, off' + j * 2, none⟩) (Below.heap_setCell _ _ _ _ (by show g ≠ R; omega))).trans ?_⟩
  rcases ho with ho | ho
  · have := List.eq_nil_of_length_eq_zero ho
    subst this
    simp at hj
  · rw [ho, show off + 2 + j * 2 = off + (j + 1) * 2 by omega]
    exact c

set_option maxHeartbeats 400000 in
theorem next_any (R : Nat) (r : Rd) (w : World) (h : RdIn w R r) :
    Calls Tryd.prog 48 #[.pointer (some ⟨R, 0, none⟩)] w fun en w' => en = .returned (.string (rNext r).1) ∧ RdIn w' R (rNext r).2 ∧ w.grownBy w' (some R) := by
  have H : Hid (RdIn w R r) := h
  obtain ⟨ws, f⟩ := r
  cases ws with
  | nil =>
    obtain ⟨oa, cap, h1, h2, h3, h4⟩ := h
    obtain ⟨c0, c1, f0, f1⟩ := two_cells h1
    simp only [List.length_nil] at c0
    clear h1 h4 h2 h3
    go_enter Tryd.func48, Tryd.ntmps48
    go_wp2_with fail
    refine (fail_any R ([], f) 2 _ H.out).mono ?_
    rintro e w1 ⟨rfl, h1, h2⟩
    go_wp2
    go_ret
    exact ⟨rfl, h1, h2⟩
  | cons x ws =>
    obtain ⟨oa, cap, h1, h2, h3, h4⟩ := h
    obtain ⟨c0, c1, f0, f1⟩ := two_cells h1
    obtain ⟨g, off, rfl, hg, cx⟩ := h4 0 x rfl
    simp only [Nat.zero_mul, Nat.add_zero] at cx
    simp only [List.length_cons] at *
    have H1 : Hid (w.heap[R]? = some (.cells #[.slice (some ⟨g, off, none⟩) (ws.length + 1) cap, .int .i64 f] 89 (0, 0))) := h1
    have H4 : Hid (∀ j y, (x :: ws)[j]? = some y → ∃ g' off', some (⟨g, off, none⟩ : Addr) = some ⟨g', off', none⟩ ∧ g' < R ∧ w.cell? ⟨g', off' + j * 2, none⟩ = some (.string y)) := h4
    clear h1 h4
    generalize hn : ws.length = n at *
    have HN : Hid (ws.length = n) := hn
    clear hn
    go_enter Tryd.func48, Tryd.ntmps48
    go_wp2
    all_goals go_ret
    · exact ⟨rfl, RdIn.step H1.out h3 HN.out H4.out (.inl (by omega)) (by omega), grown_set _ _ _ _⟩
    · exact ⟨rfl, RdIn.step H1.out h3 HN.out H4.out (.inr rfl) (by omega), grown_set _ _ _ _⟩

theorem grown_trans {a b c : World} {R : Nat} (h : a.grownBy b (some R)) (k : b.grownBy c (some R)) : a.grownBy c (some R) := h.trans k
theorem grown_below {a b c : World} {R : Nat} (h : a.grownBy b (some R)) (k : Below b.heap.size b c) : a.grownBy c (some R) :=
  h.andThen (row' := none) ⟨k.os, k.tape, k.output, k.size, fun i hi _ => k.block i hi⟩ (fun j e => by cases e)

theorem toList_eq (a b : ByteArray) : (a.toList == b.toList) = decide (a = b) := by
  rw [Lib.toList_data, Lib.toList_data, Bool.eq_iff_iff]
  simp only [beq_iff_eq, decide_eq_true_eq]
  exact ⟨fun h => ByteArray.ext (Array.ext' h), fun h => by rw [h]⟩
theorem lit_iff (s : ByteArray) (l : List UInt8) : s.toList = l ↔ s = ⟨l.toArray⟩ := by
  rw [Lib.toList_data]
  exact ⟨fun h => ByteArray.ext (Array.ext' (by rw [h])), fun h => by rw [h]⟩
theorem lit_eq (s : ByteArray) (l : List UInt8) : (s.toList == l) = decide (s = ⟨l.toArray⟩) := by
  rw [Bool.eq_iff_iff]
  simp only [beq_iff_eq, decide_eq_true_eq]
  exact lit_iff s l

set_option maxHeartbeats 400000 in
theorem word_any (R : Nat) (t : ByteArray) (r : Rd) (w : World) (h : RdIn w R r) :
    Calls Tryd.prog 64 #[.pointer (some ⟨R, 0, none⟩), .string t] w fun en w' => en = .returned (.tuple #[]) ∧ RdIn w' R (rWord t r) ∧ w.grownBy w' (some R) := by
  have H : Hid (RdIn w R r) := h
  clear h
  have HU : Hid (rWord t r = if (rNext r).1 = t then (rNext r).2 else ((rNext r).2.1, failE (rNext r).2.2 2)) := rfl
  have HX := next_any R r w H.out
  generalize hx : rNext r = q at *
  obtain ⟨x, q⟩ := q
  simp only at *
  have HY : Hid (Calls Tryd.prog 48 #[.pointer (some ⟨R, 0, none⟩)] w fun en w' => en = .returned (.string x) ∧ RdIn w' R q ∧ w.grownBy w' (some R)) := HX
  clear HX hx H
  by_cases hxt : x = t
  · have hb : (x.toList == t.toList) = true := by rw [toList_eq, decide_eq_true hxt]
    rw [if_pos hxt] at HU
    clear hxt
    go_enter Tryd.func64, Tryd.ntmps64
    go_wp2_with fail
    refine HY.out.mono ?_
    rintro e w1 ⟨rfl, h1, h2⟩
    go_wp2
    go_end0
    exact ⟨rfl, by rw [HU.out]; exact h1, h2⟩
  · have hb : (x.toList == t.toList) = false := by rw [toList_eq, decide_eq_false hxt]
    rw [if_neg hxt] at HU
    clear hxt
    go_enter Tryd.func64, Tryd.ntmps64
    go_wp2_with fail
    refine HY.out.mono ?_
    rintro e w1 ⟨rfl, h1, h2⟩
    go_wp2_with fail
    refine (fail_any R q 2 _ h1).mono ?_
    rintro e w2 ⟨rfl, h3, h4⟩
    go_wp2
    go_end0
    exact ⟨rfl, by rw [HU.out]; exact h3, h2.trans h4⟩

set_option maxHeartbeats 400000 in
theorem ends_any (s : ByteArray) (w : World) : Calls Tryd.prog 94 #[.string s] w fun e w' => e = .returned (.bool (endsB s)) ∧ w' = w := by
  have HE : Hid (endsB s = ((s.toList == [115, 101, 116]) || (s.toList == [102, 108, 97, 110, 107]))) := by
    rw [Hid, lit_eq, lit_eq, endsB, kSet, kFlank, Bool.eq_iff_iff]; simp
  by_cases hs : s.toList = [115, 101, 116]
  · go_enter Tryd.func94, Tryd.ntmps94
    go_wp2
    go_ret
    exact ⟨ret_bool (by rw [HE.out, hs]; rfl), rfl⟩
  · go_enter Tryd.func94, Tryd.ntmps94
    go_wp2
    go_ret
    exact ⟨ret_bool HE.out.symm, rfl⟩

set_option maxHeartbeats 400000 in
theorem isNAME_any (s : ByteArray) (w : World) : Calls Tryd.prog 79 #[.string s] w fun e w' => e = .returned (.bool (capB s)) ∧ Below w.heap.size w w' := by
  have HE : Hid (capB s = (nameB s.data.toList && !endsB s)) := rfl
  have C1 := fun W => isName_any s W
  have C2 := fun W => ends_any s W
  cases h1 : nameB s.data.toList <;> cases h2 : endsB s
  all_goals
    rw [h1] at C1 HE
    rw [h2] at C2 HE
    go_enter Tryd.func79, Tryd.ntmps79
    go_wp2_with fail
    refine (C1 _).mono ?_
    rintro e w1 ⟨rfl, hb⟩
    go_wp2_with (go_at_call 94; refine (C2 _).mono ?_; rintro e w' ⟨rfl, rfl⟩)
    go_ret
    exact ⟨ret_bool (by rw [HE.out]; rfl), hb⟩

set_option maxHeartbeats 400000 in
theorem name_any (R : Nat) (r : Rd) (w : World) (h : RdIn w R r) :
    Calls Tryd.prog 61 #[.pointer (some ⟨R, 0, none⟩)] w fun en w' => en = .returned (.string (rName r).1) ∧ RdIn w' R (rName r).2 ∧ w.grownBy w' (some R) := by
  have H : Hid (RdIn w R r) := h
  clear h
  have HU : Hid (rName r = ((rNext r).1, if capB (rNext r).1 = true then (rNext r).2 else ((rNext r).2.1, failE (rNext r).2.2 3))) := rfl
  have HX := next_any R r w H.out
  generalize hx : rNext r = q at *
  obtain ⟨x, q⟩ := q
  simp only at *
  have HY : Hid (Calls Tryd.prog 48 #[.pointer (some ⟨R, 0, none⟩)] w fun en w' => en = .returned (.string x) ∧ RdIn w' R q ∧ w.grownBy w' (some R)) := HX
  clear HX hx H
  have C := fun W => isNAME_any x W
  cases hc : capB x
  · rw [hc] at C HU
    go_enter Tryd.func61, Tryd.ntmps61
    go_wp2_with fail
    refine HY.out.mono ?_
    rintro e w1 ⟨rfl, h1, h2⟩
    go_wp2_with fail
    refine (C _).mono ?_
    rintro e w2 ⟨rfl, hb⟩
    go_wp2_with fail
    refine (fail_any R q 3 _ (h1.below hb)).mono ?_
    rintro e w3 ⟨rfl, h3, h4⟩
    go_wp2
    go_ret
    exact ⟨by rw [HU.out]; rfl, by rw [HU.out]; exact h3, (grown_below h2 hb).trans h4⟩
  · rw [hc] at C HU
    go_enter Tryd.func61, Tryd.ntmps61
    go_wp2_with fail
    refine HY.out.mono ?_
    rintro e w1 ⟨rfl, h1, h2⟩
    go_wp2_with fail
    refine (C _).mono ?_
    rintro e w2 ⟨rfl, hb⟩
    go_wp2
    go_ret
    exact ⟨by rw [HU.out]; rfl, by rw [HU.out]; exact h1.below hb, grown_below h2 hb⟩

set_option maxHeartbeats 400000 in
theorem end_any (R : Nat) (r : Rd) (w : World) (h : RdIn w R r) :
    Calls Tryd.prog 62 #[.pointer (some ⟨R, 0, none⟩)] w fun en w' => en = .returned (.tuple #[]) ∧ RdIn w' R (rEnd r) ∧ w.grownBy w' (some R) := by
  have H : Hid (RdIn w R r) := h
  obtain ⟨oa, cap, h1, h2, h3, h4⟩ := h
  obtain ⟨c0, c1, f0, f1⟩ := two_cells h1
  clear h1 h4
  obtain ⟨ws, f⟩ := r
  cases ws with
  | nil =>
    simp only [List.length_nil] at *
    go_enter Tryd.func62, Tryd.ntmps62
    go_wp2
    go_end0
    exact ⟨rfl, H.out, World.grownBy.refl _ _⟩
  | cons x ws =>
    simp only [List.length_cons] at *
    generalize ws.length = n at *
    go_enter Tryd.func62, Tryd.ntmps62
    go_wp2_with fail
    refine (fail_any R (x :: ws, f) 2 _ H.out).mono ?_
    rintro e w1 ⟨rfl, h1, h2⟩
    go_wp2
    go_end0
    exact ⟨rfl, h1, h2⟩

set_option maxHeartbeats 400000 in
theorem ahead_any (R : Nat) (t : ByteArray) (r : Rd) (w : World) (h : RdIn w R r) :
    Calls Tryd.prog 96 #[.pointer (some ⟨R, 0, none⟩), .string t] w fun en w' => en = .returned (.bool (rAhead t r)) ∧ w' = w := by
  obtain ⟨oa, cap, h1, h2, h3, h4⟩ := h
  obtain ⟨c0, c1, f0, f1⟩ := two_cells h1
  clear h1
  obtain ⟨ws, f⟩ := r
  cases ws with
  | nil =>
    clear h4
    simp only [List.length_nil] at *
    go_enter Tryd.func96, Tryd.ntmps96
    go_wp2
    go_ret
    exact ⟨rfl, rfl⟩
  | cons x ws =>
    obtain ⟨g, off, rfl, hg, cx⟩ := h4 0 x rfl
    clear h4
    have HB : Hid (rAhead t (x :: ws, f) = (x.toList == t.toList)) := (toList_eq x t).symm
    simp only [Nat.zero_mul, Nat.add_zero] at cx
    simp only [List.length_cons] at *
    generalize ws.length = n at *
    go_enter Tryd.func96, Tryd.ntmps96
    go_wp2
    go_ret
    exact ⟨ret_bool HB.out.symm, rfl⟩

set_option maxHeartbeats 400000 in
theorem goes_any (R : Nat) (r : Rd) (w : World) (h : RdIn w R r) :
    Calls Tryd.prog 95 #[.pointer (some ⟨R, 0, none⟩)] w fun en w' => en = .returned (.bool (rGoes r)) ∧ w' = w := by
  obtain ⟨oa, cap, h1, h2, h3, h4⟩ := h
  obtain ⟨c0, c1, f0, f1⟩ := two_cells h1
  clear h1
  obtain ⟨ws, f⟩ := r
  cases ws with
  | nil =>
    clear h4
    simp only [List.length_nil] at *
    go_enter Tryd.func95, Tryd.ntmps95
    go_wp2
    go_ret
    exact ⟨rfl, rfl⟩
  | cons x ws =>
    obtain ⟨g, off, rfl, hg, cx⟩ := h4 0 x rfl
    clear h4
    have HB : Hid (rGoes (x :: ws, f) = !endsB x) := rfl
    have C := fun W => ends_any x W
    generalize endsB x = b at *
    simp only [Nat.zero_mul, Nat.add_zero] at cx
    simp only [List.length_cons] at *
    generalize ws.length = n at *
    go_enter Tryd.func95, Tryd.ntmps95
    go_wp2_with (go_at_call 94; refine (C _).mono ?_; rintro e w' ⟨rfl, rfl⟩)
    go_ret
    exact ⟨ret_bool HB.out.symm, rfl⟩

end Go.Proofs.YtbifcicipkhohaaDoor
