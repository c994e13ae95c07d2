/-
  The law's own 'made' (a crate of things, in both), by a contract.
-/
import Derived.Test.YtfkolpijnflpcaaCrLong
import Derived.Deep.RegionWith
namespace Go.Proofs.Ytfkolpijnflpcaa
open Go.RowKit

/-- Both crates, and a thing that lies beside them. -/
structure Both (w : World) (B c x k : Nat) (t : Th) (v u : Value) (l : List It) (m : List Th) : Prop where
  cr : Crate w B c v l
  rf : RefC w B x u m
  ap : Apart c v x u
  bk : w.heap[k]? = some (.cells #[.int .i64 t.k, .int .i64 t.n, .string t.s, .bool t.b] 35 (0, 0))
  n1 : ¬ foot c v k
  n2 : ¬ foot x u k

theorem no_foot {w w' : World} {c : Nat} {v v' : Value} {k : Nat} (ht : Turn w w' c v v') (hk : k < w.heap.size) (h : ¬ foot c v k) : ¬ foot c v' k := by
  rintro (rfl | hf)
  · exact h (.inl rfl)
  · rcases ht.feet with e | ⟨j, hj, e⟩
    · exact h (.inr (by rw [← e]; exact hf))
    · rw [hf] at e
      have := Option.some.inj e
      omega
theorem Both.klt {w : World} {B c x k : Nat} {t : Th} {v u : Value} {l : List It} {m : List Th} (h : Both w B c x k t v u l m) : k < w.heap.size := (Array.getElem?_eq_some_iff.1 h.bk).1
theorem Both.first {w w' : World} {B c x k : Nat} {t : Th} {v u v' : Value} {l l' : List It} {m : List Th} (h : Both w B c x k t v u l m) (hc : Crate w' B c v' l') (ht : Turn w w' c v v') : Both w' B c x k t v' u l' m := by
  obtain ⟨h1, h2⟩ := h.rf.1.other ht h.ap
  exact ⟨hc, ⟨h1, h.rf.2⟩, h2, (ht.block k h.klt h.n1).trans h.bk, no_foot ht h.klt h.n1, h.n2⟩
theorem Both.second {w w' : World} {B c x k : Nat} {t : Th} {v u u' : Value} {l : List It} {m m' : List Th} (h : Both w B c x k t v u l m) (hc : RefC w' B x u' m') (ht : Turn w w' x u u') : Both w' B c x k t v u' l m' := by
  obtain ⟨h1, h2⟩ := h.cr.1.other ht h.ap.symm
  exact ⟨⟨h1, h.cr.2⟩, hc, h2.symm, (ht.block k h.klt h.n2).trans h.bk, h.n1, no_foot ht h.klt h.n2⟩
theorem Box.drew {t e : TypeId} {size : Nat} {w : World} {B c n : Nat} {v : Value} {xs : List Value} (h : Box t e size w B c v n xs) : Box t e size w.drew B c v n xs := ⟨h.cell, h.own, h.base, h.apart⟩
theorem Both.drew {w : World} {B c x k : Nat} {t : Th} {v u : Value} {l : List It} {m : List Th} (h : Both w B c x k t v u l m) : Both w.drew B c x k t v u l m :=
  ⟨⟨h.cr.1.drew, h.cr.2⟩, ⟨h.rf.1.drew, h.rf.2⟩, h.ap, h.bk, h.n1, h.n2⟩
theorem Both.cells {w : World} {B c x k : Nat} {t : Th} {v u : Value} {l : List It} {m : List Th} (h : Both w B c x k t v u l m) :
    w.cell? ⟨k, 0, none⟩ = some (.int .i64 t.k) ∧ w.cell? ⟨k, 1, none⟩ = some (.int .i64 t.n) ∧ w.cell? ⟨k, 2, none⟩ = some (.string t.s) ∧ w.cell? ⟨k, 3, none⟩ = some (.bool t.b) := by
  have := h.bk
  exact ⟨by simp [World.cell?, this], by simp [World.cell?, this], by simp [World.cell?, this], by simp [World.cell?, this]⟩

theorem addBoth_any (w : World) (B c x k : Nat) (t : Th) (v u : Value) (l : List It) (m : List Th) (h : Both w B c x k t v u l m) (hs : t.s.size ≤ 281474976710656) :
    Calls Try.prog 25 #[.pointer (some ⟨c, 0, none⟩), .agg #[.int .i64 t.k, .int .i64 t.n, .string t.s, .bool t.b]] w fun e w' => ∃ v', e = .returned (.bool (decide (l.length < 100))) ∧ Both w' B c x k t v' u (put l (plainI t)) m ∧ Below B w w' ∧
      w'.cell? ⟨k, 0, none⟩ = some (.int .i64 t.k) ∧ w'.cell? ⟨k, 1, none⟩ = some (.int .i64 t.n) ∧ w'.cell? ⟨k, 2, none⟩ = some (.string t.s) ∧ w'.cell? ⟨k, 3, none⟩ = some (.bool t.b) := by
  refine (addT_any t l w B c v h.cr hs).mono ?_
  rintro e w' ⟨v', he, h1, h2⟩
  have := h.first h1 h2
  exact ⟨v', he, this, h.cr.1.turnBelow h2, this.cells⟩
theorem refBoth_any (w : World) (B c x k : Nat) (t : Th) (v u : Value) (l : List It) (m : List Th) (h : Both w B c x k t v u l m) :
    Calls Try.prog 27 #[.pointer (some ⟨x, 0, none⟩), .agg #[.int .i64 t.k, .int .i64 t.n, .string t.s, .bool t.b]] w fun e w' => ∃ u', e = .returned (.bool (decide (m.length < 100))) ∧ Both w' B c x k t v u' l (putT m t) ∧ Below B w w' ∧
      w'.cell? ⟨k, 0, none⟩ = some (.int .i64 t.k) ∧ w'.cell? ⟨k, 1, none⟩ = some (.int .i64 t.n) ∧ w'.cell? ⟨k, 2, none⟩ = some (.string t.s) ∧ w'.cell? ⟨k, 3, none⟩ = some (.bool t.b) := by
  refine (refAdd_any t m w B x u h.rf).mono ?_
  rintro e w' ⟨v', he, h1, h2⟩
  have := h.second h1 h2
  exact ⟨v', he, this, h.rf.1.turnBelow h2, this.cells⟩

theorem put_take (l : List Th) (k : Nat) (x : Th) (h : l[k]? = some x) : put (((l.take k).map plainI).take 100) (plainI x) = ((l.take (k + 1)).map plainI).take 100 := by
  obtain ⟨hl, rfl⟩ := List.getElem?_eq_some_iff.1 h
  have e : ((l.take (k + 1)).map plainI) = (l.take k).map plainI ++ [plainI l[k]] := by rw [List.take_succ_eq_append_getElem hl, List.map_append]; rfl
  have el : ((l.take k).map plainI).length = k := by rw [List.length_map, List.length_take]; omega
  rw [e, put, List.length_take, el]
  generalize (l.take k).map plainI = L at *
  by_cases hk : k < 100
  · rw [if_pos (by omega), List.take_of_length_le (by omega), List.take_of_length_le (by rw [List.length_append]; simp; omega)]
  · rw [if_neg (by omega), List.take_append_of_le_length (by omega)]
theorem putT_map (l : List It) (x : It) : putT (l.map It.th) x.th = (put l x).map It.th := by
  unfold putT put
  rw [List.length_map]
  split
  · rw [List.map_append]; rfl
  · rfl
theorem plainI_th (x : It) : plainI x.th = x := by
  rcases x with x | x | x <;> simp [plainI, It.th]

set_option maxRecDepth 1000000 in
set_option maxHeartbeats 4000000 in
theorem made_any (oa : Option Addr) (n cap : Nat) (l : List Th) (w : World) (hn : l.length = n) (hS : hasThs w oa l) (hl : n ≤ 3000) (hz : ∀ x ∈ l, x.s.size ≤ 140737488355328) :
    Calls Try.prog 10 #[.slice oa n cap] w fun e w' => ∃ c x v u, e = .returned (.tuple #[.pointer (some ⟨c, 0, none⟩), .pointer (some ⟨x, 0, none⟩)]) ∧
      Crate w' w.heap.size c v ((l.map plainI).take 100) ∧ RefC w' w.heap.size x u (((l.map plainI).take 100).map It.th) ∧ Apart c v x u ∧ Below w.heap.size w w' := by
  have HN : Hid (l.length = n) := hn
  have HS : Hid (hasThs w oa l) := hS
  have HZ : Hid (∀ x ∈ l, x.s.size ≤ 140737488355328) := hz
  have H0 := crate_new w
  obtain ⟨w1, hw1⟩ : ∃ w1, w1 = w.alloc (.cells #[.slice none 0 0] 59) := ⟨_, rfl⟩
  rw [← hw1] at H0
  have hb1 : Below w.heap.size w w1 := by rw [hw1]; exact (Below.refl _ _).alloc (Nat.le_refl _) _
  have hs1 : w1.heap.size = w.heap.size + 1 := by rw [hw1]; simp
  have hb2 : Below w1.heap.size w1 (w1.alloc (.cells #[.slice none 0 0] 30)) := (Below.refl _ _).alloc (Nat.le_refl _) _
  have R0 : Hid (RefC (w1.alloc (.cells #[.slice none 0 0] 30)) w.heap.size w1.heap.size (.slice none 0 0) []) :=
    ⟨⟨heap_alloc_new w1 _, World.ownsRow_nil _ _ _ _, by omega, by simp [Value.ownBlock]⟩, by simp⟩
  have C0 : Hid (Crate (w1.alloc (.cells #[.slice none 0 0] 30)) w.heap.size w.heap.size (.slice none 0 0) []) := ⟨H0.1.below hb2, H0.2⟩
  have A0 : Hid (Apart w.heap.size (.slice none 0 0) w1.heap.size (.slice none 0 0)) := fun k h h' => by simp [foot, Value.ownBlock] at h h'; omega
  have B0 : Hid (Below w.heap.size w (w1.alloc (.cells #[.slice none 0 0] 30))) := hb1.trans (hb2.mono (by omega))
  have HW1 : Hid (w1 = w.alloc (.cells #[.slice none 0 0] 59)) := hw1
  clear hn hS hz hb1 hs1 hb2 H0 hw1
  go_enter Try.func10, Try.ntmps10
  go_wp2_with fail
  refine (new_any _).mono ?_
  rw [← HW1.out]
  rintro e w2 ⟨rfl, hw⟩
  obtain rfl := hw.symm
  go_wp2
  go_loopw [6] (fun i wr => ∃ (k : Nat) (v u : Value), i = .int .i64 k ∧ k ≤ n ∧ Crate wr w.heap.size w.heap.size v (((l.take k).map plainI).take 100) ∧ RefC wr w.heap.size w1.heap.size u ((((l.take k).map plainI).take 100).map It.th) ∧ Apart w.heap.size v w1.heap.size u ∧ Below w.heap.size w wr) (fun i _ => n - (intOf i).toNat)
  case atStart => exact ⟨0, _, _, rfl, by omega, C0.out, R0.out, A0.out, B0.out⟩
  case round =>
    obtain ⟨k, v, u, rfl, hk, hc, hr, ha, hb⟩ := hrel
    have HC : Hid (Crate wr w.heap.size w.heap.size v (((l.take k).map plainI).take 100)) := hc
    have HR : Hid (RefC wr w.heap.size w1.heap.size u ((((l.take k).map plainI).take 100).map It.th)) := hr
    have HA : Hid (Apart w.heap.size v w1.heap.size u) := ha
    have HB : Hid (Below w.heap.size w wr) := hb
    clear hc hr ha hb C0 R0 A0 B0 HW1
    by_cases hlt : k < n
    · have hki : (k : Int) < (n : Int) := by omega
      have d1 : decide ((k : Int) < (n : Int)) = true := by simp; omega
      obtain ⟨y, hy⟩ : ∃ y, l[k]? = some y := ⟨l[k]'(by rw [HN.out]; exact hlt), List.getElem?_eq_getElem _⟩
      have hS2 : hasThs wr oa l := fun j z hj => by
        obtain ⟨b, off, e, k1, k2, k3, k4⟩ := HS.out j z hj
        have hlt0 := World.block_lt_of_cell? w _ k1
        have hlt : ∀ o, (⟨b, o, none⟩ : Addr).block < w.heap.size := fun _ => hlt0
        exact ⟨b, off, e, (HB.out.cell (hlt _)).trans k1, (HB.out.cell (hlt _)).trans k2, (HB.out.cell (hlt _)).trans k3, (HB.out.cell (hlt _)).trans k4⟩
      obtain ⟨b, off, rfl, c1, c2, c3, c4⟩ := hS2 k y hy
      have HSZ : Hid ((plainI y).th.s.size ≤ 281474976710656) := by
        have := HZ.out y (List.mem_of_getElem? hy)
        rw [Hid, plainI]
        split
        · show (0 : Nat) ≤ _; omega
        · split
          · show y.s.size ≤ _; omega
          · show (0 : Nat) ≤ _; omega
      have HP : Hid (put (((l.take k).map plainI).take 100) (plainI y) = ((l.take (k + 1)).map plainI).take 100) := put_take l k y hy
      clear hy hS2
      generalize hits : ((l.take k).map plainI).take 100 = its at *
      go_wp2_with fail
      refine (plain_any y _).mono ?_
      have HPT : Hid (plainI (plainI y).th = plainI y) := plainI_th _
      generalize hth : (plainI y).th = t at *
      rintro e wr1 ⟨rfl, hb1⟩
      go_wp2
      have hb2 : Below wr1.heap.size wr1 (wr1.alloc (.cells #[.int .i64 t.k, .int .i64 t.n, .string t.s, .bool t.b] 35)) := (Below.refl _ _).alloc (Nat.le_refl _) _
      have c1' := HC.out.1.below hb1
      have r1' := HR.out.1.below hb1
      have HBo : Hid (Both (wr1.alloc (.cells #[.int .i64 t.k, .int .i64 t.n, .string t.s, .bool t.b] 35)).drew w.heap.size w.heap.size w1.heap.size wr1.heap.size t v u its (its.map It.th)) :=
        Both.drew ⟨⟨c1'.below hb2, HC.out.2⟩, ⟨r1'.below hb2, HR.out.2⟩, HA.out, heap_alloc_new wr1 _, fun hf => Nat.lt_irrefl _ (c1'.lt hf).2, fun hf => Nat.lt_irrefl _ (r1'.lt hf).2⟩
      have HB2 : Hid (Below w.heap.size w (wr1.alloc (.cells #[.int .i64 t.k, .int .i64 t.n, .string t.s, .bool t.b] 35)).drew) := ((HB.out.trans (hb1.mono HB.out.size)).trans (hb2.mono (Nat.le_trans HB.out.size hb1.size))).drew
      obtain ⟨d0, d1', d2, d3⟩ := HBo.out.cells
      clear hb1 hb2 c1' r1' c1 c2 c3 c4 HC HR HA HB
      generalize hW : wr1.alloc (.cells #[.int .i64 t.k, .int .i64 t.n, .string t.s, .bool t.b] 35) = W at *
      generalize hkk : wr1.heap.size = kk at *
      clear hW hkk
      have hlm : (its.map It.th).length = its.length := List.length_map _
      have HLM : Hid ((its.map It.th).length = its.length) := hlm
      clear hlm
      generalize hq : decide (its.length < 100) = q at *
      have HQ : Hid (decide (its.length < 100) = q) := hq
      clear hq
      go_region_with (first | (go_at_call 25; refine (addBoth_any _ _ _ _ _ t _ _ _ _ HBo.out HSZ.out).mono ?_; rw [HQ.out]; rintro e w2 ⟨v2, rfl, hB, hbl, x0, x1, x2, x3⟩; have HB3 : Hid _ := hB; have HL3 : Hid _ := hbl; clear hB hbl) | (go_at_call 27; refine (refBoth_any _ _ _ _ _ t _ _ _ _ HB3.out).mono ?_; rw [HLM.out, HQ.out]; rintro e w3 ⟨u3', rfl, hB, hbl, y0, y1, y2, y3⟩; have HB4 : Hid _ := hB; have HL4 : Hid _ := hbl; clear hB hbl))
      all_goals
        go_wp2
        have e1 : put its (plainI t) = ((l.take (k + 1)).map plainI).take 100 := by rw [HPT.out]; exact HP.out
        have e2 : putT (its.map It.th) t = (((l.take (k + 1)).map plainI).take 100).map It.th := by rw [← HP.out, ← putT_map, hth]
        have hB4 := HB4.out
        rw [e1, e2] at hB4
        exact ⟨⟨k + 1, v2, u3', by go_num, by omega, hB4.cr, hB4.rf, hB4.ap, (HB2.out.trans HL3.out).trans HL4.out⟩, by simp [intOf]; omega⟩
    · have d1 : decide ((k : Int) < (n : Int)) = false := by simp; omega
      have HT : Hid (l.take k = l) := List.take_of_length_le (by rw [HN.out]; omega)
      go_wp2
      go_ret2
      rw [HT.out] at HC HR
      exact ⟨_, _, v, u, rfl, HC.out, HR.out, HA.out, HB.out⟩

end Go.Proofs.Ytfkolpijnflpcaa
