/-
  The laws' own long, made, alike, known, each by a contract.
-/
import Derived.Test.YtfcoanlegjddpaaWrUnpack
import Derived.Test.YtfcoanlegjddpaaWrRefPack
import Derived.Test.YtfcoanlegjddpaaCrLong
import Derived.Deep.QuietTactic
import Derived.BigQuiet
namespace Go.Proofs.Ytfcoanlegjddpaa
open Go.RowKit

def longF (l : List Th) : Bool := decide (9000 < sumTh l) || decide (100 < l.length)
set_option maxRecDepth 1000000 in
set_option maxHeartbeats 2000000 in
theorem long_any (oa : Option Addr) (n cap : Nat) (l : List Th) (w : World) (hn : l.length = n) (hS : hasThs w oa l) (hl : n ≤ 140737488355328) (hz : ∀ x ∈ l, x.s.size ≤ 140737488355328) :
    Calls Try.prog 9 #[.slice oa n cap] w fun e w' => e = .returned (.bool (longF l)) ∧ w' = w := by
  have HN : Hid (l.length = n) := hn
  have HS : Hid (hasThs w oa l) := hS
  have HZ : Hid (∀ x ∈ l, x.s.size ≤ 140737488355328) := hz
  clear hn hS hz
  go_enter Try.func9, Try.ntmps9
  go_wp2
  go_loopw [3, 4] (fun s i wr => ∃ k m : Nat, s = .int .i64 m ∧ i = .int .i64 k ∧ k ≤ n ∧ m = sumTh (l.take k) ∧ m ≤ 140737488365328 ∧ wr = w) (fun _ i _ => n - (intOf i).toNat)
  case atStart => exact ⟨0, 0, rfl, rfl, by omega, by simp [sumTh], by omega, rfl⟩
  case round =>
    obtain ⟨k, m, rfl, rfl, hk, hm, hm2, rfl⟩ := hrel
    have HM : Hid (m = sumTh (l.take k)) := hm
    clear hm
    by_cases hlt : k < n
    · have d1 : decide ((k : Int) < (n : Int)) = true := by simp; omega
      have hki : (k : Int) < (n : Int) := by omega
      by_cases h3 : m ≤ 9000
      · have d2 : decide ((m : Int) ≤ 9000) = true := by simp; omega
        obtain ⟨x, hx⟩ : ∃ x, l[k]? = some x := ⟨l[k]'(by rw [HN.out]; exact hlt), List.getElem?_eq_getElem _⟩
        obtain ⟨b, off, rfl, c1, c2, c3, c4⟩ := HS.out k x hx
        have hsz : x.s.size ≤ 140737488355328 := HZ.out x (List.mem_of_getElem? hx)
        have HX : Hid (sumTh (l.take (k + 1)) = sumTh (l.take k) + (1 + x.s.size)) := sumTh_more hx
        clear hx
        go_wp2
        go_roundw
        case rel => exact ⟨k + 1, m + (1 + x.s.size), by go_num, by go_num, by omega, by rw [HX.out, ← HM.out], by omega, by trivial⟩
        case measure => simp [intOf]; omega
      · have d2 : decide ((m : Int) ≤ 9000) = false := by simp; omega
        have d3 : decide ((9000 : Int) < (m : Int)) = true := by simp; omega
        have HD : Hid (longF l = true) := by
          have := sumTh_take l k
          have := HM.out
          show longF l = true
          unfold longF
          rw [Bool.or_eq_true, decide_eq_true_eq]
          exact .inl (by omega)
        go_wp2
        go_ret
        exact ⟨ret_bool HD.out.symm, rfl⟩
    · have d1 : decide ((k : Int) < (n : Int)) = false := by simp; omega
      have hms : m = sumTh l := by
        have := HM.out
        rwa [List.take_of_length_le (by rw [HN.out]; omega)] at this
      by_cases h9 : 9000 < m
      · have d3 : decide ((9000 : Int) < (m : Int)) = true := by simp; omega
        have HD : Hid (longF l = true) := by
          show longF l = true
          unfold longF
          rw [Bool.or_eq_true, decide_eq_true_eq]
          exact .inl (by omega)
        clear hms
        go_wp2
        go_ret
        exact ⟨ret_bool HD.out.symm, rfl⟩
      · have d3 : decide ((9000 : Int) < (m : Int)) = false := by simp; omega
        have HD : Hid (longF l = decide ((100 : Int) < (n : Int))) := by
          show longF l = _
          unfold longF
          rw [← hms, HN.out, decide_eq_false (by omega), Bool.false_or, Bool.eq_iff_iff, decide_eq_true_eq, decide_eq_true_eq]
          omega
        clear hms
        go_wp2
        go_ret
        exact ⟨ret_bool HD.out.symm, rfl⟩

theorem put_next {l : List Th} {k : Nat} {y : Th} (h : l[k]? = some y) (hk : k < 100) : put ((l.take k).map plainI) (plainI y) = (l.take (k + 1)).map plainI := by
  obtain ⟨hl, rfl⟩ := List.getElem?_eq_some_iff.1 h
  have el : ((l.take k).map plainI).length = k := by rw [List.length_map, List.length_take]; omega
  rw [put, el, if_pos hk, List.take_succ_eq_append_getElem hl, List.map_append]
  rfl
theorem putT_next {l : List Th} {k : Nat} {y : Th} (h : l[k]? = some y) (hk : k < 100) : putT (((l.take k).map plainI).map It.th) (plainI y).th = ((l.take (k + 1)).map plainI).map It.th := by
  rw [← put_next h hk]
  unfold putT put
  rw [List.length_map]
  split
  · rw [List.map_append]; rfl
  · rfl
/-- Both crates. -/
def Two2 (w0 wr : World) (c x : Nat) (v u : Value) (l : List It) : Prop := Crate wr w0.heap.size c v l ∧ RefC wr w0.heap.size x u (l.map It.th) ∧ Apart c v x u ∧ Below w0.heap.size w0 wr
theorem two_add {w0 wr w1 w2 : World} {c x : Nat} {v u v' u' : Value} {l l' : List It} (h : Two2 w0 wr c x v u l) (h1 : Crate w1 w0.heap.size c v' l') (t1 : Turn wr w1 c v v')
    (h2 : RefC w2 w0.heap.size x u' (l'.map It.th)) (t2 : Turn w1 w2 x u u') : Two2 w0 w2 c x v' u' l' := by
  obtain ⟨a1, a2, a3, a4⟩ := h
  obtain ⟨b1, b2⟩ := a2.1.other t1 a3
  obtain ⟨c1, c2⟩ := h1.1.other t2 b2.symm
  exact ⟨⟨c1, h1.2⟩, h2, c2.symm, (a4.trans (a1.1.turnBelow t1)).trans (b1.turnBelow t2)⟩
theorem two_mid {w0 wr w1 : World} {c x : Nat} {v u v' : Value} {l : List It} {l' : List It} (h : Two2 w0 wr c x v u l) (_h1 : Crate w1 w0.heap.size c v' l') (t1 : Turn wr w1 c v v') : RefC w1 w0.heap.size x u (l.map It.th) := by
  obtain ⟨a1, a2, a3, a4⟩ := h
  exact ⟨(a2.1.other t1 a3).1, a2.2⟩

set_option maxRecDepth 1000000 in
set_option maxHeartbeats 2000000 in
theorem made_any (oa : Option Addr) (n cap : Nat) (l : List Th) (w : World) (hn : l.length = n) (hS : hasThs w oa l) (hl : n ≤ 100) (hz : ∀ x ∈ l, x.s.size ≤ 140737488355328) :
    Calls Try.prog 10 #[.slice oa n cap] w fun e w' => ∃ c x v u, e = .returned (.tuple #[.pointer (some ⟨c, 0, none⟩), .pointer (some ⟨x, 0, none⟩)]) ∧
      Two2 w w' c x v u (l.map plainI) := by
  have HN : Hid (l.length = n) := hn
  have HS : Hid (hasThs w oa l) := hS
  have HZ : Hid (∀ x ∈ l, x.s.size ≤ 140737488355328) := hz
  have H0 := crate_new w
  obtain ⟨w1, hw1⟩ : ∃ w1, w1 = w.alloc (.cells #[.slice none 0 0] 78) := ⟨_, rfl⟩
  rw [← hw1] at H0
  have hb1 : Below w.heap.size w w1 := by rw [hw1]; exact (Below.refl _ _).alloc (Nat.le_refl _) _
  have hs1 : w1.heap.size = w.heap.size + 1 := by rw [hw1]; simp
  have hb2 : Below w1.heap.size w1 (w1.alloc (.cells #[.slice none 0 0] 53)) := (Below.refl _ _).alloc (Nat.le_refl _) _
  have T0 : Hid (Two2 w (w1.alloc (.cells #[.slice none 0 0] 53)) w.heap.size w1.heap.size (.slice none 0 0) (.slice none 0 0) []) :=
    ⟨⟨H0.1.below hb2, H0.2⟩, ⟨⟨heap_alloc_new w1 _, World.ownsRow_nil _ _ _ _, by omega, by simp [Value.ownBlock]⟩, by simp⟩, fun k h h' => by simp [foot, Value.ownBlock] at h h'; omega, hb1.trans (hb2.mono (by omega))⟩
  have HW1 : Hid (w1 = w.alloc (.cells #[.slice none 0 0] 78)) := hw1
  clear hn hS hz hb1 hs1 hb2 H0 hw1
  go_enter Try.func10, Try.ntmps10
  go_wp2_with fail
  refine (new_any _).mono ?_
  rw [← HW1.out]
  rintro e w2 ⟨rfl, hw⟩
  obtain rfl := hw.symm
  go_wp2
  go_loopw [6] (fun i wr => ∃ (k : Nat) (v u : Value), i = .int .i64 k ∧ k ≤ n ∧ Two2 w wr w.heap.size w1.heap.size v u ((l.take k).map plainI)) (fun i _ => n - (intOf i).toNat)
  case atStart => exact ⟨0, _, _, rfl, by omega, T0.out⟩
  case round =>
    obtain ⟨k, v, u, rfl, hk, hT⟩ := hrel
    have HT : Hid (Two2 w wr w.heap.size w1.heap.size v u ((l.take k).map plainI)) := hT
    clear hT T0 HW1
    by_cases hlt : k < n
    · have hki : (k : Int) < (n : Int) := by omega
      have d1 : decide ((k : Int) < (n : Int)) = true := by simp; omega
      obtain ⟨y, hy⟩ : ∃ y, l[k]? = some y := ⟨l[k]'(by rw [HN.out]; exact hlt), List.getElem?_eq_getElem _⟩
      obtain ⟨b, off, rfl, c1, c2, c3, c4⟩ := HS.out k y hy
      have hS0 := World.block_lt_of_cell? _ _ c1
      have hlt0 : b < w.heap.size := hS0
      have HSZ : Hid (y.s.size ≤ 281474976710656) := by
        have := HZ.out y (List.mem_of_getElem? hy)
        show _ ≤ _
        omega
      have HP : Hid (put ((l.take k).map plainI) (plainI y) = (l.take (k + 1)).map plainI ∧ putT (((l.take k).map plainI).map It.th) (plainI y).th = ((l.take (k + 1)).map plainI).map It.th) := ⟨put_next hy (by omega), putT_next hy (by omega)⟩
      have HLN : Hid (((l.take k).map plainI).length = k ∧ (((l.take k).map plainI).map It.th).length = k) := by
        have := HN.out
        refine ⟨?_, ?_⟩ <;> simp <;> omega
      have HDD : Hid (decide (((l.take k).map plainI).length < 100) = true ∧ decide ((((l.take k).map plainI).map It.th).length < 100) = true) := by
        rw [HLN.out.1, HLN.out.2]
        exact ⟨decide_eq_true (by omega), decide_eq_true (by omega)⟩
      clear hS0
      obtain ⟨yk, yn, ys, yb⟩ := y
      simp only at c1 c2 c3 c4 HSZ
      have c1' := (HT.out.2.2.2.cell (p := ⟨b, off + k * 4, none⟩) hlt0).trans c1
      have c2' := (HT.out.2.2.2.cell (p := ⟨b, off + k * 4 + 1, none⟩) hlt0).trans c2
      have c3' := (HT.out.2.2.2.cell (p := ⟨b, off + k * 4 + 2, none⟩) hlt0).trans c3
      have c4' := (HT.out.2.2.2.cell (p := ⟨b, off + k * 4 + 3, none⟩) hlt0).trans c4
      by_cases h1 : yk = 1
      · subst h1
        have HPI : Hid (plainI ⟨1, yn, ys, yb⟩ = .inl yn) := rfl
        go_wp2_with fail
        refine (addInt_any yn ((l.take k).map plainI) wr _ _ _ HT.out.1).mono ?_
        rw [HDD.out.1]
        rintro e w2 ⟨v', rfl, h1, t1⟩
        have HB2 : Hid (Below w.heap.size w w2) := HT.out.2.2.2.trans (HT.out.1.1.turnBelow t1)
        have e2 := (HB2.out.cell (p := ⟨b, off + k * 4 + 1, none⟩) hlt0).trans c2
        have HM : Hid (Crate w2 w.heap.size w.heap.size v' (put ((l.take k).map plainI) (.inl yn)) ∧ Turn wr w2 w.heap.size v v' ∧ RefC w2 w.heap.size w1.heap.size u (((l.take k).map plainI).map It.th)) := ⟨h1, t1, two_mid HT.out h1 t1⟩
        clear h1 t1
        go_wp2_with fail
        refine (refAdd_any (It.th (.inl yn)) (((l.take k).map plainI).map It.th) w2 _ _ _ HM.out.2.2).mono ?_
        rw [HDD.out.2]
        rintro e w3 ⟨u', rfl, h2, t2⟩
        have HE : Hid (Two2 w w3 w.heap.size w1.heap.size v' u' ((l.take (k + 1)).map plainI)) := by
          refine two_add HT.out (l' := (l.take (k + 1)).map plainI) ?_ HM.out.2.1 ?_ t2
          · have := HM.out.1
            rw [← HPI.out, HP.out.1] at this
            exact this
          · rw [← HPI.out, HP.out.2] at h2
            exact h2
        clear h2 t2 e2
        go_wp2
        go_roundw
        case rel => exact ⟨k + 1, v', u', by go_num, by omega, HE.out⟩
        case measure => simp [intOf]; omega
      · by_cases h2 : yk = 2
        · subst h2
          have HPI : Hid (plainI ⟨2, yn, ys, yb⟩ = .inr (.inl ys)) := rfl
          go_wp2_with fail
          refine (addText_any ys ((l.take k).map plainI) wr _ _ _ HT.out.1 HSZ.out).mono ?_
          rw [HDD.out.1]
          rintro e w2 ⟨v', rfl, h1, t1⟩
          have HB2 : Hid (Below w.heap.size w w2) := HT.out.2.2.2.trans (HT.out.1.1.turnBelow t1)
          have e2 := (HB2.out.cell (p := ⟨b, off + k * 4 + 2, none⟩) hlt0).trans c3
          have HM : Hid (Crate w2 w.heap.size w.heap.size v' (put ((l.take k).map plainI) (.inr (.inl ys))) ∧ Turn wr w2 w.heap.size v v' ∧ RefC w2 w.heap.size w1.heap.size u (((l.take k).map plainI).map It.th)) := ⟨h1, t1, two_mid HT.out h1 t1⟩
          clear h1 t1
          go_wp2_with fail
          refine (refAdd_any (It.th (.inr (.inl ys))) (((l.take k).map plainI).map It.th) w2 _ _ _ HM.out.2.2).mono ?_
          rw [HDD.out.2]
          rintro e w3 ⟨u', rfl, h2, t2⟩
          have HE : Hid (Two2 w w3 w.heap.size w1.heap.size v' u' ((l.take (k + 1)).map plainI)) := by
            refine two_add HT.out (l' := (l.take (k + 1)).map plainI) ?_ HM.out.2.1 ?_ t2
            · have := HM.out.1
              rw [← HPI.out, HP.out.1] at this
              exact this
            · rw [← HPI.out, HP.out.2] at h2
              exact h2
          clear h2 t2 e2
          go_wp2
          go_roundw
          case rel => exact ⟨k + 1, v', u', by go_num, by omega, HE.out⟩
          case measure => simp [intOf]; omega
        · have HPI : Hid (plainI ⟨yk, yn, ys, yb⟩ = .inr (.inr yb)) := by show _ = _; simp [plainI, h1, h2]
          have e1 : (yk == 1) = false := by simp [h1]
          have e3 : (yk == 2) = false := by simp [h2]
          clear h1 h2
          go_wp2_with fail
          refine (addBool_any yb ((l.take k).map plainI) wr _ _ _ HT.out.1).mono ?_
          rw [HDD.out.1]
          rintro e w2 ⟨v', rfl, h1, t1⟩
          have HB2 : Hid (Below w.heap.size w w2) := HT.out.2.2.2.trans (HT.out.1.1.turnBelow t1)
          have e2 := (HB2.out.cell (p := ⟨b, off + k * 4 + 3, none⟩) hlt0).trans c4
          have HM : Hid (Crate w2 w.heap.size w.heap.size v' (put ((l.take k).map plainI) (.inr (.inr yb))) ∧ Turn wr w2 w.heap.size v v' ∧ RefC w2 w.heap.size w1.heap.size u (((l.take k).map plainI).map It.th)) := ⟨h1, t1, two_mid HT.out h1 t1⟩
          clear h1 t1
          go_wp2_with fail
          refine (refAdd_any (It.th (.inr (.inr yb))) (((l.take k).map plainI).map It.th) w2 _ _ _ HM.out.2.2).mono ?_
          rw [HDD.out.2]
          rintro e w3 ⟨u', rfl, h2, t2⟩
          have HE : Hid (Two2 w w3 w.heap.size w1.heap.size v' u' ((l.take (k + 1)).map plainI)) := by
            refine two_add HT.out (l' := (l.take (k + 1)).map plainI) ?_ HM.out.2.1 ?_ t2
            · have := HM.out.1
              rw [← HPI.out, HP.out.1] at this
              exact this
            · rw [← HPI.out, HP.out.2] at h2
              exact h2
          clear h2 t2 e2
          go_wp2
          go_roundw
          case rel => exact ⟨k + 1, v', u', by go_num, by omega, HE.out⟩
          case measure => simp [intOf]; omega
    · have d1 : decide ((k : Int) < (n : Int)) = false := by simp; omega
      have HF : Hid (l.take k = l) := List.take_of_length_le (by rw [HN.out]; omega)
      go_wp2
      go_ret2
      have := HT.out
      rw [HF.out] at this
      exact ⟨_, _, v, u, rfl, this⟩

theorem its_small {l : List Th} (hz : ∀ y ∈ l, y.s.size ≤ 140737488355328) : SmallL (l.map plainI) := small_of fun x hx => by
  obtain ⟨t, ht, rfl⟩ := List.mem_map.1 hx
  have := hz t ht
  unfold smT plainI
  split
  · show (0 : Nat) ≤ _; omega
  · split
    · show t.s.size ≤ _; omega
    · show (0 : Nat) ≤ _; omega
def packK : List (BitVec 8) := telV [1#8, 3#8, 1#8]
theorem packK_eq : packV [.inr (.inr true)] = some packK := rfl
theorem packK_len : packK.length = 9 := by decide +kernel
theorem packK_at : packK[5]? = some 3#8 ∧ packK[6]? = some 1#8 ∧ packK[7]? = some 3#8 ∧ packK[8]? = some 1#8 := by decide +kernel
theorem cell_u8 {w : World} {oa : Option Addr} {q : List (BitVec 8)} (h : hasBytes w oa q) {k : Nat} {x : BitVec 8} (hx : q[k]? = some x) {g off : Nat} (e : oa = some ⟨g, off, none⟩) : w.cell? ⟨g, off + k, none⟩ = some (.int .u8 (x.toNat : Int)) := by
  obtain ⟨g', off', e', hc⟩ := h k x hx
  rw [e] at e'
  injection e' with e'
  injection e' with e1 e2
  subst e1 e2
  exact hc

set_option maxRecDepth 1000000 in
set_option maxHeartbeats 2000000 in
theorem known_any (w : World) :
    Calls Try.prog 13 #[] w fun e w' => e = .returned (.bool true) ∧ Below w.heap.size w w' := by
  have H0 : Hid (Crate (w.alloc (.cells #[.slice none 0 0] 78)) w.heap.size w.heap.size (.slice none 0 0) []) := crate_new w
  go_enter Try.func13, Try.ntmps13
  go_wp2_with fail
  refine (new_any _).mono ?_
  rintro e w1 ⟨rfl, rfl⟩
  go_wp2_with fail
  refine (addBool_any true [] _ _ _ _ H0.out).mono ?_
  rintro e w2 ⟨v1, rfl, h1, t1⟩
  have HX : Hid (Reads w2 (.pointer (some ⟨w.heap.size, 0, none⟩)) [.inr (.inr true)] ∧ Below w.heap.size w w2) :=
    ⟨h1.reads, ((Below.refl w.heap.size w).alloc (Nat.le_refl _) _).trans (H0.out.1.turnBelow t1)⟩
  clear h1 t1 H0
  have HE : Hid (packE [.inr (.inr true)] = 0 ∧ (packV [.inr (.inr true)]).getD [] = packK) := ⟨rfl, rfl⟩
  go_wp2_with fail
  refine (pack_any w.heap.size [.inr (.inr true)] w2 HX.out.1 (by decide) (small_of fun x hx => by rw [List.mem_singleton.1 hx]; show (0 : Nat) ≤ _; omega)).mono ?_
  rw [HE.out.1, HE.out.2]
  rintro e w3 ⟨v3, rfl, h3, h4⟩
  obtain ⟨oa, cap, ev, hby⟩ := h3.bytes
  rw [packK_len] at ev
  subst ev
  obtain ⟨g, off, ea, -⟩ := hby 5 _ packK_at.1
  have d5 := cell_u8 hby packK_at.1 ea
  have d6 := cell_u8 hby packK_at.2.1 ea
  have d7 := cell_u8 hby packK_at.2.2.1 ea
  have d8 := cell_u8 hby packK_at.2.2.2 ea
  subst ea
  have n3 : ((3#8).toNat : Int) = 3 := rfl
  have n1 : ((1#8).toNat : Int) = 1 := rfl
  rw [n3] at d5 d7
  rw [n1] at d6 d8
  have HB : Hid (Below w.heap.size w w3) := HX.out.2.trans (h4.mono HX.out.2.size)
  clear h3 h4 hby n3 n1 HX
  go_wp2
  go_ret
  exact ⟨rfl, HB.out⟩
theorem th_num (x : It) : (numOf (some x)).1 = x.th.n ∧ (textOf (some x)).1 = x.th.s ∧ (truthOf (some x)).1 = x.th.b ∧ (numOf (some x)).2 = decide (x.th.k = 1) ∧ (textOf (some x)).2 = decide (x.th.k = 2) ∧ (truthOf (some x)).2 = decide (x.th.k = 3) := by
  rcases x with n | s | b <;> exact ⟨rfl, rfl, rfl, rfl, rfl, rfl⟩

set_option maxRecDepth 1000000 in
set_option maxHeartbeats 2000000 in
theorem alike_any (c : Nat) (q : Value) (l : List It) (w : World) (hp : Reads w (.pointer (some ⟨c, 0, none⟩)) l) (hq : ReadsT w q (l.map It.th)) (hz : SmallL l) :
    Calls Try.prog 16 #[.pointer (some ⟨c, 0, none⟩), q] w fun e w' => e = .returned (.bool true) ∧ Below w.heap.size w w' := by
  have HP : Hid (Reads w (.pointer (some ⟨c, 0, none⟩)) l) := hp
  have HQ : Hid (ReadsT w q (l.map It.th)) := hq
  have HZ : Hid (SmallL l) := hz
  obtain ⟨xb, oa0, cap0, rfl, hcell0, _⟩ := id hq
  obtain ⟨oa, cap, hcell, hcs⟩ := th_cells hq
  have HCS : Hid (∀ k x, l[k]? = some x → ∃ g, oa = some ⟨g, 0, none⟩ ∧ w.cell? ⟨g, k * 4, none⟩ = some (.int .i64 x.th.k) ∧ w.cell? ⟨g, k * 4 + 1, none⟩ = some (.int .i64 x.th.n) ∧ w.cell? ⟨g, k * 4 + 2, none⟩ = some (.string x.th.s) ∧ w.cell? ⟨g, k * 4 + 3, none⟩ = some (.bool x.th.b)) := hcs
  obtain ⟨n, hn⟩ : ∃ n, n = l.length := ⟨_, rfl⟩
  have HN : Hid (l.length = n) := hn.symm
  rw [← hn] at hcell
  have hn1000 : n ≤ 1000 := by rw [hn]; exact hp.len
  clear hp hq hz hn hcs hcell0
  have hne : ((n : Int) != (n : Int)) = false := by simp
  have HLEN : Hid (∀ m, Calls Try.prog 24 #[.pointer (some ⟨c, 0, none⟩)] (w.drewN m) fun e w' => e = .returned (.int .i64 n) ∧ w' = w.drewN m) := fun m => by
    have := len_any _ l _ (HP.out.below (below_drewN (Below.refl _ _) m))
    rw [HN.out] at this
    exact this
  go_enter Try.func16, Try.ntmps16
  go_wp2
  go_quiet (first | (go_at_call 24; refine Calls.quiet_of_same (HLEN.out _)))
  generalize hwq : w.drewN _ = wq at *
  have HBQ : Hid (Below w.heap.size w wq) := by rw [Hid, ← hwq]; exact below_drewN (Below.refl _ _) _
  clear hwq
  go_wp2
  go_loopw [5] (fun i wr => ∃ k : Nat, i = .int .i64 (k : Int) ∧ k ≤ n ∧ Below w.heap.size w wr) (fun i _ => n - (intOf i).toNat)
  case atStart => exact ⟨0, rfl, by omega, HBQ.out⟩
  case round =>
    obtain ⟨k, rfl, hk, hbr⟩ := hrel
    have HBR : Hid (Below w.heap.size w wr) := hbr
    have hcell2 : wr.cell? ⟨xb, 0, none⟩ = some (.slice oa n cap) := (hbr.cell (p := ⟨xb, 0, none⟩) (World.block_lt_of_cell? w _ hcell)).trans hcell
    clear hbr
    by_cases hlt : k < n
    · have hki : (k : Int) < (n : Int) := by omega
      obtain ⟨x, hx⟩ : ∃ x, l[k]? = some x := ⟨l[k]'(by rw [HN.out]; exact hlt), List.getElem?_eq_getElem _⟩
      have HI : Hid (itAt l k = some x) := by show _ = _; rw [itAt_nat]; exact hx
      obtain ⟨t1, t2, t3, t4, t5, t6⟩ := th_num x
      have HT : Hid (numOf (itAt l k) = (x.th.n, decide (x.th.k = 1)) ∧ textOf (itAt l k) = (x.th.s, decide (x.th.k = 2)) ∧ truthOf (itAt l k) = (x.th.b, decide (x.th.k = 3))) := by
        rw [HI.out]
        exact ⟨Prod.ext t1 t4, Prod.ext t2 t5, Prod.ext t3 t6⟩
      have hzk := HZ.out k
      rw [HT.out.2.1] at hzk
      have HZK : Hid (x.th.s.size ≤ 281474976710656) := hzk
      obtain ⟨g, rfl, k1, k2, k3, k4⟩ := HCS.out k x hx
      have hg0 := World.block_lt_of_cell? _ _ k1
      have hg : g < w.heap.size := hg0
      clear t1 t2 t3 t4 t5 t6 hx hzk hg0
      obtain ⟨xk, xn, xs, xbb, HX⟩ : ∃ a b c d, Hid (x.th.k = a ∧ x.th.n = b ∧ x.th.s = c ∧ x.th.b = d) := ⟨_, _, _, _, rfl, rfl, rfl, rfl⟩
      rw [HX.out.1] at k1
      rw [HX.out.2.1] at k2
      rw [HX.out.2.2.1] at k3
      rw [HX.out.2.2.2] at k4
      rw [HX.out.1, HX.out.2.1, HX.out.2.2.1, HX.out.2.2.2] at HT
      rw [HX.out.2.2.1] at HZK
      go_wp2_with fail
      refine (int_any _ l _ _ (HP.out.below HBR.out)).mono ?_
      rw [HT.out.1]
      rintro e w1 ⟨rfl, hw⟩
      obtain rfl := hw.symm
      go_wp2_with fail
      refine (text_any _ l _ _ (HP.out.below HBR.out) (by rw [HT.out.2.1]; exact HZK.out)).mono ?_
      rw [HT.out.2.1]
      rintro e w2 ⟨rfl, hb2⟩
      have HB2 : Hid (Below w.heap.size w w2) := HBR.out.trans (hb2.mono HBR.out.size)
      clear hb2
      go_wp2_with fail
      refine (bool_any _ l _ _ (HP.out.below HB2.out)).mono ?_
      rw [HT.out.2.2]
      rintro e w3 ⟨rfl, hw⟩
      obtain rfl := hw.symm
      have hcell3 : w2.cell? ⟨xb, 0, none⟩ = some (.slice (some ⟨g, 0, none⟩) n cap) := (HB2.out.cell (p := ⟨xb, 0, none⟩) (World.block_lt_of_cell? w _ hcell)).trans hcell
      have d1 := (HB2.out.cell (p := ⟨g, k * 4, none⟩) hg).trans k1
      have d2 := (HB2.out.cell (p := ⟨g, k * 4 + 1, none⟩) hg).trans k2
      have d3 := (HB2.out.cell (p := ⟨g, k * 4 + 2, none⟩) hg).trans k3
      have d4 := (HB2.out.cell (p := ⟨g, k * 4 + 3, none⟩) hg).trans k4
      have BA : Hid (∀ o, Below w.heap.size w (w2.alloc o)) := fun o => HB2.out.alloc HB2.out.size _
      clear k1 k2 k3 k4 hcell2
      have b1 : (decide (xk = 1) != (xk == 1)) = false := by by_cases h : xk = 1 <;> simp [h]
      have b2 : (decide (xk = 2) != (xk == 2)) = false := by by_cases h : xk = 2 <;> simp [h]
      have b3 : (decide (xk = 3) != (xk == 3)) = false := by by_cases h : xk = 3 <;> simp [h]
      go_wp2
      go_roundw
      case rel => exact ⟨k + 1, by go_num, by omega, BA.out _⟩
      case measure => simp [intOf]; omega
    · have hki : ¬ (k : Int) < (n : Int) := by omega
      go_wp2
      go_ret
      exact ⟨rfl, HBR.out⟩
end Go.Proofs.Ytfcoanlegjddpaa
