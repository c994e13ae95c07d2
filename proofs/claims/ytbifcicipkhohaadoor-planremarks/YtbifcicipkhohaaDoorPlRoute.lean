/-
  reader.wants, reader.route (package plan), each by a contract.
-/
import Derived.Test.YtbifcicipkhohaaDoorPlRow
namespace Go.Proofs.YtbifcicipkhohaaDoor
open Go.RowKit

set_option maxHeartbeats 1000000 in
theorem wants_any (R : Nat) (t : ByteArray) (r : Rd) (w : World) (h : RdIn w R r) :
    Calls Tryd.prog 83 #[.pointer (some ⟨R, 0, none⟩), .string t] w fun en w' => ∃ v, en = .returned v ∧ w'.ownsRow w.heap.size 136 2 v (rWants t r).1.length (wtCells (rWants t r).1) ∧ RdIn w' R (rWants t r).2 ∧ w.grownBy w' (some R) := by
  have H : Hid (RdIn w R r) := h
  clear h
  have C := fun W => ahead_any R t r W
  have HU : Hid (rWants t r = if rAhead t r = true then rRow rWant (rWord t r) else ([], r)) := rfl
  generalize rWants t r = full at *
  cases ha : rAhead t r
  · rw [ha] at C HU
    go_enter Tryd.func83, Tryd.ntmps83
    go_wp2_with fail
    refine (C _ H.out).mono ?_
    rintro e w1 ⟨rfl, rfl⟩
    go_wp2
    go_ret
    exact ⟨_, rfl, by rw [HU.out]; exact World.ownsRow_nil _ _ _ _, by rw [HU.out]; exact H.out, World.grownBy.refl _ _⟩
  · rw [ha] at C HU
    go_enter Tryd.func83, Tryd.ntmps83
    go_wp2_with fail
    refine (C _ H.out).mono ?_
    rintro e w1 ⟨rfl, hw⟩
    obtain rfl := hw.symm
    go_wp2_with fail
    refine (word_any R t r _ H.out).mono ?_
    rintro e w1 ⟨rfl, h1, h2⟩
    go_wp2_with fail
    refine (rowW_any R _ _ h1).mono ?_
    rintro e w2 ⟨v, rfl, hown, h3, h4⟩
    go_wp2
    go_ret
    exact ⟨v, rfl, by rw [HU.out]; exact owns_mono hown h2.size, by rw [HU.out]; exact h3, h2.trans h4⟩

theorem own_slice {w : World} {base : Nat} {e : TypeId} {size : Nat} {v : Value} {n : Nat} {xs : List Value} (h : w.ownsRow base e size v n xs) : ∃ oa cap, v = .slice oa n cap := by
  rcases h.2 with ⟨h1, h2⟩ | ⟨g, cap, cur, h1, _⟩
  · exact ⟨none, 0, by rw [h1, h2]⟩
  · exact ⟨_, _, h1⟩

/-- A block of six cells. -/
theorem six_cells {w : World} {c : Nat} {a b d e f g : Value} {t : TypeId} (h : w.heap[c]? = some (.cells #[a, b, d, e, f, g] t (0, 0))) :
    (w.cell? ⟨c, 0, none⟩ = some a ∧ w.cell? ⟨c, 1, none⟩ = some b ∧ w.cell? ⟨c, 2, none⟩ = some d ∧ w.cell? ⟨c, 3, none⟩ = some e ∧ w.cell? ⟨c, 4, none⟩ = some f ∧ w.cell? ⟨c, 5, none⟩ = some g) ∧
    w.frozen? ⟨c, 0, none⟩ = false ∧ w.frozen? ⟨c, 1, none⟩ = false ∧ w.frozen? ⟨c, 2, none⟩ = false ∧ w.frozen? ⟨c, 3, none⟩ = false ∧ w.frozen? ⟨c, 4, none⟩ = false ∧ w.frozen? ⟨c, 5, none⟩ = false := by
  refine ⟨⟨?_, ?_, ?_, ?_, ?_, ?_⟩, ?_, ?_, ?_, ?_, ?_, ?_⟩ <;> simp [World.cell?, World.frozen?, h]
theorem heap_put {w : World} {c j : Nat} {cs : Array Value} {u : Value} {t : TypeId} (h : w.heap[c]? = some (.cells cs t (0, 0))) : (w.setCell ⟨c, j, none⟩ u).heap[c]? = some (.cells (cs.setIfInBounds j u) t (0, 0)) := by
  simp [World.setCell, Array.getElem?_modify, h]

/-- How reader.route stands: its result's block, its variable's block, the reader. -/
structure RSt (w W : World) (R : Nat) (r : Rd) (a b d e f g : Value) : Prop where
  res : W.heap[w.heap.size]? = some (.cells #[.string ⟨#[]⟩, .string ⟨#[]⟩, .string ⟨#[]⟩, .slice none 0 0, .slice none 0 0, .slice none 0 0] 111 (0, 0))
  var : W.heap[w.heap.size + 1]? = some (.cells #[a, b, d, e, f, g] 111 (0, 0))
  rd : RdIn W R r
  gr : w.grownBy W (some R)
  lt : R < w.heap.size
theorem RSt.size {w W : World} {R : Nat} {r : Rd} {a b d e f g : Value} (h : RSt w W R r a b d e f g) : w.heap.size + 2 ≤ W.heap.size := (Array.getElem?_eq_some_iff.1 h.var).1
theorem RSt.call {w W W' : World} {R : Nat} {r r' : Rd} {a b d e f g : Value} (h : RSt w W R r a b d e f g) (hr : RdIn W' R r') (hg : W.grownBy W' (some R)) : RSt w W' R r' a b d e f g :=
  have := h.lt
  ⟨blk_grown hg h.res (by omega), blk_grown hg h.var (by omega), hr, h.gr.trans hg, h.lt⟩
theorem RSt.put {w W : World} {R : Nat} {r : Rd} {a b d e f g : Value} (h : RSt w W R r a b d e f g) (j : Nat) (u : Value) {a' b' d' e' f' g' : Value} (hu : #[a, b, d, e, f, g].setIfInBounds j u = #[a', b', d', e', f', g']) :
    RSt w (W.setCell ⟨w.heap.size + 1, j, none⟩ u) R r a' b' d' e' f' g' :=
  have := h.lt
  ⟨(Below.heap_setCell _ _ _ _ (by show w.heap.size ≠ w.heap.size + 1; omega)).trans h.res, by rw [← hu]; exact heap_put h.var, h.rd.far (by omega) _ _, grown_new h.gr (by omega) _ _, h.lt⟩

set_option maxRecDepth 1000000 in
set_option maxHeartbeats 4000000 in
theorem route_any (R : Nat) (r : Rd) (w : World) (h : RdIn w R r) :
    Calls Tryd.prog 67 #[.pointer (some ⟨R, 0, none⟩)] w fun en w' => ∃ v0 v1 v2, en = .returned (.agg #[.string (rRoute r).1.name, .string (rRoute r).1.frm, .string (rRoute r).1.to, v0, v1, v2]) ∧
      w'.ownsRow w.heap.size 9 1 v0 (rRoute r).1.via.length (strCells (rRoute r).1.via) ∧ w'.ownsRow w.heap.size 136 2 v1 (rRoute r).1.set.length (wtCells (rRoute r).1.set) ∧
      w'.ownsRow w.heap.size 136 2 v2 (rRoute r).1.flank.length (wtCells (rRoute r).1.flank) ∧ RdIn w' R (rRoute r).2 ∧ w.grownBy w' (some R) := by
  have hR := h.lt
  have S0 : Hid (RSt w ((w.alloc (.cells #[.string ⟨#[]⟩, .string ⟨#[]⟩, .string ⟨#[]⟩, .slice none 0 0, .slice none 0 0, .slice none 0 0] 111)).alloc (.cells #[.string ⟨#[]⟩, .string ⟨#[]⟩, .string ⟨#[]⟩, .slice none 0 0, .slice none 0 0, .slice none 0 0] 111)) R r
      (.string ⟨#[]⟩) (.string ⟨#[]⟩) (.string ⟨#[]⟩) (.slice none 0 0) (.slice none 0 0) (.slice none 0 0)) := by
    have hb : Below w.heap.size w ((w.alloc (.cells #[.string ⟨#[]⟩, .string ⟨#[]⟩, .string ⟨#[]⟩, .slice none 0 0, .slice none 0 0, .slice none 0 0] 111)).alloc (.cells #[.string ⟨#[]⟩, .string ⟨#[]⟩, .string ⟨#[]⟩, .slice none 0 0, .slice none 0 0, .slice none 0 0] 111)) := ((Below.refl _ _).alloc (Nat.le_refl _) _).alloc (by simp) _
    exact ⟨blk_old (blk_new _ _), by have := blk_new (w.alloc (.cells #[.string ⟨#[]⟩, .string ⟨#[]⟩, .string ⟨#[]⟩, .slice none 0 0, .slice none 0 0, .slice none 0 0] 111)) (.cells #[.string ⟨#[]⟩, .string ⟨#[]⟩, .string ⟨#[]⟩, .slice none 0 0, .slice none 0 0, .slice none 0 0] 111); rw [World.size_alloc] at this; exact this, h.below hb, grown_below (World.grownBy.refl _ _) hb, hR⟩
  clear h
  have HU : Hid (rRoute r = (⟨(rName r).1, (rName (rWord kFrom (rName r).2)).1, (rName (rWord kTo (rName (rWord kFrom (rName r).2)).2)).1, (rRow rName (rWord kVia (rName (rWord kTo (rName (rWord kFrom (rName r).2)).2)).2)).1,
      (rWants kSet (rRow rName (rWord kVia (rName (rWord kTo (rName (rWord kFrom (rName r).2)).2)).2)).2).1, (rWants kFlank (rWants kSet (rRow rName (rWord kVia (rName (rWord kTo (rName (rWord kFrom (rName r).2)).2)).2)).2).2).1⟩,
      rEnd (rWants kFlank (rWants kSet (rRow rName (rWord kVia (rName (rWord kTo (rName (rWord kFrom (rName r).2)).2)).2)).2).2).2)) := rfl
  generalize rRoute r = full at *
  have N1 := fun W => name_any R r W
  generalize rName r = q1 at *
  obtain ⟨x1, q1⟩ := q1
  simp only at *
  have D1 : Hid (∀ W, RdIn W R r → Calls Tryd.prog 61 #[.pointer (some ⟨R, 0, none⟩)] W fun en w' => en = .returned (.string x1) ∧ RdIn w' R q1 ∧ W.grownBy w' (some R)) := N1
  clear N1
  have N2 := fun W => word_any R kFrom q1 W
  generalize rWord kFrom q1 = q2 at *
  have D2 : Hid (∀ W, RdIn W R q1 → Calls Tryd.prog 64 #[.pointer (some ⟨R, 0, none⟩), .string ⟨#[102, 114, 111, 109]⟩] W fun en w' => en = .returned (.tuple #[]) ∧ RdIn w' R q2 ∧ W.grownBy w' (some R)) := N2
  clear N2
  have N3 := fun W => name_any R q2 W
  generalize rName q2 = q3 at *
  obtain ⟨x3, q3⟩ := q3
  simp only at *
  have D3 : Hid (∀ W, RdIn W R q2 → Calls Tryd.prog 61 #[.pointer (some ⟨R, 0, none⟩)] W fun en w' => en = .returned (.string x3) ∧ RdIn w' R q3 ∧ W.grownBy w' (some R)) := N3
  clear N3
  have N4 := fun W => word_any R kTo q3 W
  generalize rWord kTo q3 = q4 at *
  have D4 : Hid (∀ W, RdIn W R q3 → Calls Tryd.prog 64 #[.pointer (some ⟨R, 0, none⟩), .string ⟨#[116, 111]⟩] W fun en w' => en = .returned (.tuple #[]) ∧ RdIn w' R q4 ∧ W.grownBy w' (some R)) := N4
  clear N4
  have N5 := fun W => name_any R q4 W
  generalize rName q4 = q5 at *
  obtain ⟨x5, q5⟩ := q5
  simp only at *
  have D5 : Hid (∀ W, RdIn W R q4 → Calls Tryd.prog 61 #[.pointer (some ⟨R, 0, none⟩)] W fun en w' => en = .returned (.string x5) ∧ RdIn w' R q5 ∧ W.grownBy w' (some R)) := N5
  clear N5
  have N6 := fun W => word_any R kVia q5 W
  generalize rWord kVia q5 = q6 at *
  have D6 : Hid (∀ W, RdIn W R q5 → Calls Tryd.prog 64 #[.pointer (some ⟨R, 0, none⟩), .string ⟨#[118, 105, 97]⟩] W fun en w' => en = .returned (.tuple #[]) ∧ RdIn w' R q6 ∧ W.grownBy w' (some R)) := N6
  clear N6
  have N7 := fun W => rowS_any R q6 W
  generalize rRow rName q6 = q7 at *
  obtain ⟨x7, q7⟩ := q7
  simp only at *
  have D7 : Hid (∀ W, RdIn W R q6 → Calls Tryd.prog 82 #[.pointer (some ⟨R, 0, none⟩), .func (.func 61) #[.pointer (some ⟨R, 0, none⟩)] #[]] W fun en w' => ∃ v, en = .returned v ∧ w'.ownsRow W.heap.size 9 1 v x7.length (strCells x7) ∧ RdIn w' R q7 ∧ W.grownBy w' (some R)) := N7
  clear N7
  have N8 := fun W => wants_any R kSet q7 W
  generalize rWants kSet q7 = q8 at *
  obtain ⟨x8, q8⟩ := q8
  simp only at *
  have D8 : Hid (∀ W, RdIn W R q7 → Calls Tryd.prog 83 #[.pointer (some ⟨R, 0, none⟩), .string ⟨#[115, 101, 116]⟩] W fun en w' => ∃ v, en = .returned v ∧ w'.ownsRow W.heap.size 136 2 v x8.length (wtCells x8) ∧ RdIn w' R q8 ∧ W.grownBy w' (some R)) := N8
  clear N8
  have N9 := fun W => wants_any R kFlank q8 W
  generalize rWants kFlank q8 = q9 at *
  obtain ⟨x9, q9⟩ := q9
  simp only at *
  have D9 : Hid (∀ W, RdIn W R q8 → Calls Tryd.prog 83 #[.pointer (some ⟨R, 0, none⟩), .string ⟨#[102, 108, 97, 110, 107]⟩] W fun en w' => ∃ v, en = .returned v ∧ w'.ownsRow W.heap.size 136 2 v x9.length (wtCells x9) ∧ RdIn w' R q9 ∧ W.grownBy w' (some R)) := N9
  clear N9
  have D10 : Hid (∀ W, RdIn W R q9 → Calls Tryd.prog 62 #[.pointer (some ⟨R, 0, none⟩)] W fun en w' => en = .returned (.tuple #[]) ∧ RdIn w' R (rEnd q9) ∧ W.grownBy w' (some R)) := fun W => end_any R q9 W
  generalize rEnd q9 = q10 at *
  go_enter Tryd.func67, Tryd.ntmps67
  go_wp2_with fail
  refine (D1.out _ S0.out.rd).mono ?_
  rintro e w1 ⟨rfl, h1, h2⟩
  have S1 : Hid (RSt w w1 R q1 _ _ _ _ _ _) := S0.out.call h1 h2
  obtain ⟨⟨a0, a1, a2, a3, a4, a5⟩, b0, b1, b2, b3, b4, b5⟩ := six_cells S1.out.var
  clear h1 h2 S0 D1
  have P1 : Hid (RSt w (w1.setCell ⟨w.heap.size + 1, 0, none⟩ (.string x1)) R _ _ _ _ _ _ _) := S1.out.put 0 (.string x1) rfl
  clear S1
  go_wp2_with fail
  refine (D2.out _ P1.out.rd).mono ?_
  rintro e w2 ⟨rfl, h1, h2⟩
  have S2 : Hid (RSt w w2 R q2 _ _ _ _ _ _) := P1.out.call h1 h2
  obtain ⟨⟨a0, a1, a2, a3, a4, a5⟩, b0, b1, b2, b3, b4, b5⟩ := six_cells S2.out.var
  clear h1 h2 P1 D2
  go_wp2_with fail
  refine (D3.out _ S2.out.rd).mono ?_
  rintro e w3 ⟨rfl, h1, h2⟩
  have S3 : Hid (RSt w w3 R q3 _ _ _ _ _ _) := S2.out.call h1 h2
  obtain ⟨⟨a0, a1, a2, a3, a4, a5⟩, b0, b1, b2, b3, b4, b5⟩ := six_cells S3.out.var
  clear h1 h2 S2 D3
  have P3 : Hid (RSt w (w3.setCell ⟨w.heap.size + 1, 1, none⟩ (.string x3)) R _ _ _ _ _ _ _) := S3.out.put 1 (.string x3) rfl
  clear S3
  go_wp2_with fail
  refine (D4.out _ P3.out.rd).mono ?_
  rintro e w4 ⟨rfl, h1, h2⟩
  have S4 : Hid (RSt w w4 R q4 _ _ _ _ _ _) := P3.out.call h1 h2
  obtain ⟨⟨a0, a1, a2, a3, a4, a5⟩, b0, b1, b2, b3, b4, b5⟩ := six_cells S4.out.var
  clear h1 h2 P3 D4
  go_wp2_with fail
  refine (D5.out _ S4.out.rd).mono ?_
  rintro e w5 ⟨rfl, h1, h2⟩
  have S5 : Hid (RSt w w5 R q5 _ _ _ _ _ _) := S4.out.call h1 h2
  obtain ⟨⟨a0, a1, a2, a3, a4, a5⟩, b0, b1, b2, b3, b4, b5⟩ := six_cells S5.out.var
  clear h1 h2 S4 D5
  have P5 : Hid (RSt w (w5.setCell ⟨w.heap.size + 1, 2, none⟩ (.string x5)) R _ _ _ _ _ _ _) := S5.out.put 2 (.string x5) rfl
  clear S5
  go_wp2_with fail
  refine (D6.out _ P5.out.rd).mono ?_
  rintro e w6 ⟨rfl, h1, h2⟩
  have S6 : Hid (RSt w w6 R q6 _ _ _ _ _ _) := P5.out.call h1 h2
  obtain ⟨⟨a0, a1, a2, a3, a4, a5⟩, b0, b1, b2, b3, b4, b5⟩ := six_cells S6.out.var
  clear h1 h2 P5 D6
  have sz := S6.out.size
  go_wp2_with fail
  refine (D7.out _ S6.out.rd).mono ?_
  rintro e w7 ⟨v7, rfl, hown, h1, h2⟩
  obtain ⟨p7, k7, rfl⟩ := own_slice hown
  have S7 : Hid (RSt w w7 R q7 _ _ _ _ _ _) := S6.out.call h1 h2
  obtain ⟨⟨a0, a1, a2, a3, a4, a5⟩, b0, b1, b2, b3, b4, b5⟩ := six_cells S7.out.var
  clear h1 h2 S6 D7
  have v7_7 : Hid (w7.ownsRow (w.heap.size + 2) 9 1 (.slice p7 x7.length k7) x7.length (strCells x7)) := owns_mono hown (by have := sz; omega)
  clear hown sz
  have P7 : Hid (RSt w (w7.setCell ⟨w.heap.size + 1, 3, none⟩ (.slice p7 x7.length k7)) R _ _ _ _ _ _ _) := S7.out.put 3 (.slice p7 x7.length k7) rfl
  have v7_p7 : Hid ((w7.setCell ⟨w.heap.size + 1, 3, none⟩ (.slice p7 x7.length k7)).ownsRow (w.heap.size + 2) 9 1 (.slice p7 x7.length k7) x7.length (strCells x7)) := v7_7.out.kept (grown_set _ _ _ _) (.inr (own_ne v7_7.out (by omega)))
  clear v7_7
  clear S7
  have sz := P7.out.size
  go_wp2_with fail
  refine (D8.out _ P7.out.rd).mono ?_
  rintro e w8 ⟨v8, rfl, hown, h1, h2⟩
  obtain ⟨p8, k8, rfl⟩ := own_slice hown
  have S8 : Hid (RSt w w8 R q8 _ _ _ _ _ _) := P7.out.call h1 h2
  have v7_8 : Hid (w8.ownsRow (w.heap.size + 2) 9 1 (.slice p7 x7.length k7) x7.length (strCells x7)) := v7_p7.out.kept h2 (.inr (own_ne v7_p7.out (by omega)))
  clear v7_p7
  obtain ⟨⟨a0, a1, a2, a3, a4, a5⟩, b0, b1, b2, b3, b4, b5⟩ := six_cells S8.out.var
  clear h1 h2 P7 D8
  have v8_8 : Hid (w8.ownsRow (w.heap.size + 2) 136 2 (.slice p8 x8.length k8) x8.length (wtCells x8)) := owns_mono hown (by have := sz; omega)
  clear hown sz
  have P8 : Hid (RSt w (w8.setCell ⟨w.heap.size + 1, 4, none⟩ (.slice p8 x8.length k8)) R _ _ _ _ _ _ _) := S8.out.put 4 (.slice p8 x8.length k8) rfl
  have v7_p8 : Hid ((w8.setCell ⟨w.heap.size + 1, 4, none⟩ (.slice p8 x8.length k8)).ownsRow (w.heap.size + 2) 9 1 (.slice p7 x7.length k7) x7.length (strCells x7)) := v7_8.out.kept (grown_set _ _ _ _) (.inr (own_ne v7_8.out (by omega)))
  clear v7_8
  have v8_p8 : Hid ((w8.setCell ⟨w.heap.size + 1, 4, none⟩ (.slice p8 x8.length k8)).ownsRow (w.heap.size + 2) 136 2 (.slice p8 x8.length k8) x8.length (wtCells x8)) := v8_8.out.kept (grown_set _ _ _ _) (.inr (own_ne v8_8.out (by omega)))
  clear v8_8
  clear S8
  have sz := P8.out.size
  go_wp2_with fail
  refine (D9.out _ P8.out.rd).mono ?_
  rintro e w9 ⟨v9, rfl, hown, h1, h2⟩
  obtain ⟨p9, k9, rfl⟩ := own_slice hown
  have S9 : Hid (RSt w w9 R q9 _ _ _ _ _ _) := P8.out.call h1 h2
  have v7_9 : Hid (w9.ownsRow (w.heap.size + 2) 9 1 (.slice p7 x7.length k7) x7.length (strCells x7)) := v7_p8.out.kept h2 (.inr (own_ne v7_p8.out (by omega)))
  clear v7_p8
  have v8_9 : Hid (w9.ownsRow (w.heap.size + 2) 136 2 (.slice p8 x8.length k8) x8.length (wtCells x8)) := v8_p8.out.kept h2 (.inr (own_ne v8_p8.out (by omega)))
  clear v8_p8
  obtain ⟨⟨a0, a1, a2, a3, a4, a5⟩, b0, b1, b2, b3, b4, b5⟩ := six_cells S9.out.var
  clear h1 h2 P8 D9
  have v9_9 : Hid (w9.ownsRow (w.heap.size + 2) 136 2 (.slice p9 x9.length k9) x9.length (wtCells x9)) := owns_mono hown (by have := sz; omega)
  clear hown sz
  have P9 : Hid (RSt w (w9.setCell ⟨w.heap.size + 1, 5, none⟩ (.slice p9 x9.length k9)) R _ _ _ _ _ _ _) := S9.out.put 5 (.slice p9 x9.length k9) rfl
  have v7_p9 : Hid ((w9.setCell ⟨w.heap.size + 1, 5, none⟩ (.slice p9 x9.length k9)).ownsRow (w.heap.size + 2) 9 1 (.slice p7 x7.length k7) x7.length (strCells x7)) := v7_9.out.kept (grown_set _ _ _ _) (.inr (own_ne v7_9.out (by omega)))
  clear v7_9
  have v8_p9 : Hid ((w9.setCell ⟨w.heap.size + 1, 5, none⟩ (.slice p9 x9.length k9)).ownsRow (w.heap.size + 2) 136 2 (.slice p8 x8.length k8) x8.length (wtCells x8)) := v8_9.out.kept (grown_set _ _ _ _) (.inr (own_ne v8_9.out (by omega)))
  clear v8_9
  have v9_p9 : Hid ((w9.setCell ⟨w.heap.size + 1, 5, none⟩ (.slice p9 x9.length k9)).ownsRow (w.heap.size + 2) 136 2 (.slice p9 x9.length k9) x9.length (wtCells x9)) := v9_9.out.kept (grown_set _ _ _ _) (.inr (own_ne v9_9.out (by omega)))
  clear v9_9
  clear S9
  go_wp2_with fail
  refine (D10.out _ P9.out.rd).mono ?_
  rintro e w10 ⟨rfl, h1, h2⟩
  have S10 : Hid (RSt w w10 R q10 _ _ _ _ _ _) := P9.out.call h1 h2
  have v7_10 : Hid (w10.ownsRow (w.heap.size + 2) 9 1 (.slice p7 x7.length k7) x7.length (strCells x7)) := v7_p9.out.kept h2 (.inr (own_ne v7_p9.out (by omega)))
  clear v7_p9
  have v8_10 : Hid (w10.ownsRow (w.heap.size + 2) 136 2 (.slice p8 x8.length k8) x8.length (wtCells x8)) := v8_p9.out.kept h2 (.inr (own_ne v8_p9.out (by omega)))
  clear v8_p9
  have v9_10 : Hid (w10.ownsRow (w.heap.size + 2) 136 2 (.slice p9 x9.length k9) x9.length (wtCells x9)) := v9_p9.out.kept h2 (.inr (own_ne v9_p9.out (by omega)))
  clear v9_p9
  obtain ⟨⟨a0, a1, a2, a3, a4, a5⟩, b0, b1, b2, b3, b4, b5⟩ := six_cells S10.out.var
  clear h1 h2 P9 D10
  obtain ⟨⟨c0, c1, c2, c3, c4, c5⟩, d0, d1, d2, d3, d4, d5⟩ := six_cells S10.out.res
  go_wp2
  refine bodyPost_ret (v := .agg #[.string x1, .string x3, .string x5, (.slice p7 x7.length k7), (.slice p8 x8.length k8), (.slice p9 x9.length k9)]) (by simp [results, Tryd.results67, go_sem, c0, c1, c2, c3, c4, c5]) rfl ⟨(.slice p7 x7.length k7), (.slice p8 x8.length k8), (.slice p9 x9.length k9), by rw [HU.out], ?_, ?_, ?_, ?_, ?_⟩
  · rw [HU.out]
    have q := v7_10.out
    replace q := q.kept (grown_set _ w.heap.size 0 (.string x1)) (.inr (own_ne q (by omega)))
    replace q := q.kept (grown_set _ w.heap.size 1 (.string x3)) (.inr (own_ne q (by omega)))
    replace q := q.kept (grown_set _ w.heap.size 2 (.string x5)) (.inr (own_ne q (by omega)))
    replace q := q.kept (grown_set _ w.heap.size 3 ((.slice p7 x7.length k7))) (.inr (own_ne q (by omega)))
    replace q := q.kept (grown_set _ w.heap.size 4 ((.slice p8 x8.length k8))) (.inr (own_ne q (by omega)))
    replace q := q.kept (grown_set _ w.heap.size 5 ((.slice p9 x9.length k9))) (.inr (own_ne q (by omega)))
    exact owns_mono q (by omega)
  · rw [HU.out]
    have q := v8_10.out
    replace q := q.kept (grown_set _ w.heap.size 0 (.string x1)) (.inr (own_ne q (by omega)))
    replace q := q.kept (grown_set _ w.heap.size 1 (.string x3)) (.inr (own_ne q (by omega)))
    replace q := q.kept (grown_set _ w.heap.size 2 (.string x5)) (.inr (own_ne q (by omega)))
    replace q := q.kept (grown_set _ w.heap.size 3 ((.slice p7 x7.length k7))) (.inr (own_ne q (by omega)))
    replace q := q.kept (grown_set _ w.heap.size 4 ((.slice p8 x8.length k8))) (.inr (own_ne q (by omega)))
    replace q := q.kept (grown_set _ w.heap.size 5 ((.slice p9 x9.length k9))) (.inr (own_ne q (by omega)))
    exact owns_mono q (by omega)
  · rw [HU.out]
    have q := v9_10.out
    replace q := q.kept (grown_set _ w.heap.size 0 (.string x1)) (.inr (own_ne q (by omega)))
    replace q := q.kept (grown_set _ w.heap.size 1 (.string x3)) (.inr (own_ne q (by omega)))
    replace q := q.kept (grown_set _ w.heap.size 2 (.string x5)) (.inr (own_ne q (by omega)))
    replace q := q.kept (grown_set _ w.heap.size 3 ((.slice p7 x7.length k7))) (.inr (own_ne q (by omega)))
    replace q := q.kept (grown_set _ w.heap.size 4 ((.slice p8 x8.length k8))) (.inr (own_ne q (by omega)))
    replace q := q.kept (grown_set _ w.heap.size 5 ((.slice p9 x9.length k9))) (.inr (own_ne q (by omega)))
    exact owns_mono q (by omega)
  · rw [HU.out]
    have q := S10.out.rd
    replace q := q.far hR 0 (.string x1)
    replace q := q.far hR 1 (.string x3)
    replace q := q.far hR 2 (.string x5)
    replace q := q.far hR 3 ((.slice p7 x7.length k7))
    replace q := q.far hR 4 ((.slice p8 x8.length k8))
    replace q := q.far hR 5 ((.slice p9 x9.length k9))
    exact q
  · have q := S10.out.gr
    replace q := grown_new q (Nat.le_refl _) 0 (.string x1)
    replace q := grown_new q (Nat.le_refl _) 1 (.string x3)
    replace q := grown_new q (Nat.le_refl _) 2 (.string x5)
    replace q := grown_new q (Nat.le_refl _) 3 ((.slice p7 x7.length k7))
    replace q := grown_new q (Nat.le_refl _) 4 ((.slice p8 x8.length k8))
    replace q := grown_new q (Nat.le_refl _) 5 ((.slice p9 x9.length k9))
    exact q

end Go.Proofs.YtbifcicipkhohaaDoor
