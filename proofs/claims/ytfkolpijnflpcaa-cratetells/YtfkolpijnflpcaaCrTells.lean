/-
  The law's own 'tells': what stands at a place, in both crates: a contract.
-/
import Derived.Test.YtfkolpijnflpcaaCrLaw
namespace Go.Proofs.Ytfkolpijnflpcaa
open Go.RowKit

theorem thAt_its (l : List It) (i k : Int) : thAt (l.map It.th) i k = (itAt l i).bind fun x => if x.th.k = k then some x.th else none := by
  unfold thAt itAt
  by_cases hi : i < 0
  · simp [hi]
  · simp only [if_neg hi, List.getElem?_map]
    cases l[i.toNat]? <;> rfl
theorem tell_num (l : List It) (i : Int) : (numOf (itAt l i)).1 = (thOr (thAt (l.map It.th) i 1)).n ∧ (numOf (itAt l i)).2 = (thAt (l.map It.th) i 1).isSome := by
  rw [thAt_its]
  rcases itAt l i with _ | (n | s | b) <;> exact ⟨rfl, rfl⟩
theorem tell_text (l : List It) (i : Int) : (textOf (itAt l i)).1 = (thOr (thAt (l.map It.th) i 2)).s ∧ (textOf (itAt l i)).2 = (thAt (l.map It.th) i 2).isSome := by
  rw [thAt_its]
  rcases itAt l i with _ | (n | s | b) <;> exact ⟨rfl, rfl⟩
theorem tell_truth (l : List It) (i : Int) : (truthOf (itAt l i)).1 = (thOr (thAt (l.map It.th) i 3)).b ∧ (truthOf (itAt l i)).2 = (thAt (l.map It.th) i 3).isSome := by
  rw [thAt_its]
  rcases itAt l i with _ | (n | s | b) <;> exact ⟨rfl, rfl⟩

/-- All texts are short. -/
def Small (l : List It) : Prop := ∀ i, (textOf (itAt l i)).1.size ≤ 281474976710656

set_option maxRecDepth 1000000 in
set_option maxHeartbeats 2000000 in
theorem tells_any (p q : Value) (l : List It) (i : Int) (w : World) (hp : Reads w p l) (hq : ReadsT w q (l.map It.th)) (hz : Small l) :
    Calls Try.prog 12 #[p, q, .int .i64 i] w fun e w' => e = .returned (.bool true) ∧ Below w.heap.size w w' := by
  have HP : Hid (Reads w p l) := hp
  have HQ : Hid (ReadsT w q (l.map It.th)) := hq
  have N := tell_num l i
  have T := tell_text l i
  have U := tell_truth l i
  have hz1 := hz i
  clear hp hq hz
  generalize hn : numOf (itAt l i) = n at *
  generalize ht : textOf (itAt l i) = t at *
  generalize hu : truthOf (itAt l i) = u at *
  generalize h1 : thAt (l.map It.th) i 1 = x1 at *
  generalize h2 : thAt (l.map It.th) i 2 = x2 at *
  generalize h3 : thAt (l.map It.th) i 3 = x3 at *
  obtain ⟨n1, n2⟩ := n
  obtain ⟨t1, t2⟩ := t
  obtain ⟨u1, u2⟩ := u
  obtain ⟨N1, N2⟩ := N
  obtain ⟨T1, T2⟩ := T
  obtain ⟨U1, U2⟩ := U
  simp only at N1 N2 T1 T2 U1 U2
  have Hn : Hid (numOf (itAt l i) = (n1, n2)) := hn
  have Ht : Hid (textOf (itAt l i) = (t1, t2)) := ht
  have Hu : Hid (truthOf (itAt l i) = (u1, u2)) := hu
  have H1 : Hid (thAt (l.map It.th) i 1 = x1) := h1
  have H2 : Hid (thAt (l.map It.th) i 2 = x2) := h2
  have H3 : Hid (thAt (l.map It.th) i 3 = x3) := h3
  clear hn ht hu h1 h2 h3
  generalize hy1 : thOr x1 = y1 at *
  generalize hy2 : thOr x2 = y2 at *
  generalize hy3 : thOr x3 = y3 at *
  generalize hb1 : x1.isSome = b1 at *
  generalize hb2 : x2.isSome = b2 at *
  generalize hb3 : x3.isSome = b3 at *
  obtain ⟨k1, y1n, s1, c1⟩ := y1
  obtain ⟨k2, m2, y2s, c2⟩ := y2
  obtain ⟨k3, m3, s3, y3b⟩ := y3
  simp only at N1 N2 T1 T2 U1 U2 hz1
  subst N1 N2 T1 T2 U1 U2
  have Y1 : Hid (thOr x1 = ⟨k1, n1, s1, c1⟩) := hy1
  have Y2 : Hid (thOr x2 = ⟨k2, m2, t1, c2⟩) := hy2
  have Y3 : Hid (thOr x3 = ⟨k3, m3, s3, u1⟩) := hy3
  have B1 : Hid (x1.isSome = n2) := hb1
  have B2 : Hid (x2.isSome = t2) := hb2
  have B3 : Hid (x3.isSome = u2) := hb3
  clear hy1 hy2 hy3 hb1 hb2 hb3
  go_enter Try.func12, Try.ntmps12
  go_wp2_with fail
  refine (int_any _ l _ _ HP.out).mono ?_
  rw [Hn.out]
  rintro e w1 ⟨rfl, hw⟩
  obtain rfl := hw.symm
  go_wp2_with fail
  refine (text_any _ l _ _ HP.out (by rw [Ht.out]; exact hz1)).mono ?_
  rw [Ht.out]
  rintro e w1 ⟨rfl, hb⟩
  have HP1 : Hid (Reads w1 p l) := HP.out.below hb
  have HQ1 : Hid (ReadsT w1 q (l.map It.th)) := HQ.out.below hb
  go_wp2_with fail
  refine (bool_any _ l _ _ HP1.out).mono ?_
  rw [Hu.out]
  rintro e w2 ⟨rfl, hw⟩
  obtain rfl := hw.symm
  go_wp2_with fail
  refine (at_any _ _ _ _ _ HQ1.out).mono ?_
  rw [H1.out, Y1.out, B1.out]
  simp only [Th.val]
  rintro e w2 ⟨rfl, hb2⟩
  have HQ2 : Hid (ReadsT w2 q (l.map It.th)) := HQ1.out.below hb2
  go_wp2_with fail
  have ha2 : Below w2.heap.size w2 (w2.alloc (.cells #[.int .i64 k1, .int .i64 n1, .string s1, .bool c1] 35)) := (Below.refl _ _).alloc (Nat.le_refl _) _
  have hc2 : (w2.alloc (.cells #[.int .i64 k1, .int .i64 n1, .string s1, .bool c1] 35)).cell? ⟨w2.heap.size, 1, none⟩ = some (.int .i64 n1) := by simp
  have HQ3 : Hid (ReadsT (w2.alloc (.cells #[.int .i64 k1, .int .i64 n1, .string s1, .bool c1] 35)) q (l.map It.th)) := HQ2.out.below ha2
  refine (at_any _ _ _ _ _ HQ3.out).mono ?_
  rw [H2.out, Y2.out, B2.out]
  simp only [Th.val]
  rintro e w3 ⟨rfl, hb3⟩
  have hc3 : w3.cell? ⟨w2.heap.size, 1, none⟩ = some (.int .i64 n1) := (hb3.cell (p := ⟨w2.heap.size, 1, none⟩) (World.block_lt_of_cell? _ _ hc2)).trans hc2
  have HQ4 : Hid (ReadsT w3 q (l.map It.th)) := HQ3.out.below hb3
  have HB3 : Hid (Below w.heap.size w w3) := ((hb.trans (hb2.mono hb.size)).trans (ha2.mono (Nat.le_trans hb.size hb2.size))).trans (hb3.mono (Nat.le_trans hb.size (Nat.le_trans hb2.size ha2.size)))
  clear hc2 hb hb2 hb3 ha2 HQ1 HQ2 HQ3 HQ HP HP1
  go_wp2_with fail
  have ha3 : Below w3.heap.size w3 (w3.alloc (.cells #[.int .i64 k2, .int .i64 m2, .string t1, .bool c2] 35)) := (Below.refl _ _).alloc (Nat.le_refl _) _
  have hd3 : (w3.alloc (.cells #[.int .i64 k2, .int .i64 m2, .string t1, .bool c2] 35)).cell? ⟨w3.heap.size, 2, none⟩ = some (.string t1) := by simp
  have hc4 : (w3.alloc (.cells #[.int .i64 k2, .int .i64 m2, .string t1, .bool c2] 35)).cell? ⟨w2.heap.size, 1, none⟩ = some (.int .i64 n1) := (ha3.cell (p := ⟨w2.heap.size, 1, none⟩) (World.block_lt_of_cell? _ _ hc3)).trans hc3
  refine (at_any _ _ _ _ _ (HQ4.out.below ha3)).mono ?_
  rw [H3.out, Y3.out, B3.out]
  simp only [Th.val]
  rintro e w4 ⟨rfl, hb4⟩
  have hc5 : w4.cell? ⟨w2.heap.size, 1, none⟩ = some (.int .i64 n1) := (hb4.cell (p := ⟨w2.heap.size, 1, none⟩) (World.block_lt_of_cell? _ _ hc4)).trans hc4
  have hd5 : w4.cell? ⟨w3.heap.size, 2, none⟩ = some (.string t1) := (hb4.cell (p := ⟨w3.heap.size, 2, none⟩) (World.block_lt_of_cell? _ _ hd3)).trans hd3
  have HB4 : Hid (Below w.heap.size w w4) := (HB3.out.trans (ha3.mono HB3.out.size)).trans (hb4.mono (Nat.le_trans HB3.out.size ha3.size))
  have ha4 : Below w4.heap.size w4 (w4.alloc (.cells #[.int .i64 k3, .int .i64 m3, .string s3, .bool u1] 35)) := (Below.refl _ _).alloc (Nat.le_refl _) _
  have HA4 : Hid _ := ha4
  have hc6 := (ha4.cell (p := ⟨w2.heap.size, 1, none⟩) (World.block_lt_of_cell? _ _ hc5)).trans hc5
  have hd6 := (ha4.cell (p := ⟨w3.heap.size, 2, none⟩) (World.block_lt_of_cell? _ _ hd5)).trans hd5
  clear hc3 hd3 hc4 hc5 hd5 hb4 ha3 ha4 HQ4 HB3
  go_wp2
  go_ret
  exact ⟨rfl, HB4.out.trans ((Below.refl _ _).alloc HB4.out.size _)⟩

theorem small_its (l : List Th) (hz : ∀ y ∈ l, y.s.size ≤ 140737488355328) : Small ((l.map plainI).take 100) := by
  intro i
  unfold itAt
  split
  · show (0 : Nat) ≤ _; omega
  · cases h : ((l.map plainI).take 100)[i.toNat]? with
    | none => show (0 : Nat) ≤ _; omega
    | some y =>
      have hm : y ∈ l.map plainI := List.mem_of_mem_take (List.mem_of_getElem? h)
      obtain ⟨t, ht, rfl⟩ := List.mem_map.1 hm
      have := hz t ht
      unfold plainI
      split
      · show (0 : Nat) ≤ _; omega
      · split
        · show t.s.size ≤ _; omega
        · show (0 : Nat) ≤ _; omega

end Go.Proofs.Ytfkolpijnflpcaa
