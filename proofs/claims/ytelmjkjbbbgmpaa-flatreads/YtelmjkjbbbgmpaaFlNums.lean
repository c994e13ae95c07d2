/-
  Package flat: numbers, Read: by contracts.
-/
import Derived.Test.YtelmjkjbbbgmpaaFlRP
import Derived.Test.YtelmjkjbbbgmpaaFlTake
namespace Go.Proofs.Ytelmjkjbbbgmpaa
open Go.RowKit

def NuAns (w : World) (B : Nat) (o : Option (List Int)) (e : Ending) : Prop :=
  (∃ l v, o = some l ∧ e = .returned (.tuple #[v, .bool true]) ∧ IRow w B v l) ∨ (o = none ∧ e = .returned (.tuple #[.slice none 0 0, .bool false]))
theorem state_eq (s : ByteArray) : (s.toList == [115, 116, 97, 116, 101]) = decide (s = stateS) := by
  rw [← ftoList_eq]
  congr 1
  rw [Lib.toList_data]
  rfl
theorem numOf_none {l : List It} {k : Nat} (h : ∀ n, l[k]? ≠ some (.inl n)) : numOf (itAt l (k : Int)) = (0, false) := by
  rw [itAt_nat]
  cases hx : l[k]? with
  | none => rfl
  | some x =>
    rcases x with n | s | b
    · exact absurd hx (h n)
    · rfl
    · rfl

set_option maxRecDepth 1000000 in
set_option maxHeartbeats 4000000 in
theorem numbers_any (p : Value) (l : List It) (w : World) (h : Reads w p l) (hz : (textOf (itAt l 0)).1.size ≤ 281474976710656) :
    Calls Try.prog 38 #[p] w fun e w' => NuAns w' w.heap.size (numV l) e ∧ Below w.heap.size w w' := by
  have hl := h.len
  have HR : Hid (Reads w p l) := h
  clear h
  have T := text_any p l 0 w HR.out hz
  by_cases hh : headB l = true
  · have hht := of_decide_eq_true hh
    rw [hht] at T
    have HN : Hid (numV l = nuT l (l.length - 1)) := by show numV l = _; rw [numV, if_pos hh]
    have hne : (stateS.toList == [115, 116, 97, 116, 101]) = true := by rw [state_eq]; exact decide_eq_true rfl
    have hpos : 0 < l.length := by
      obtain ⟨rest, rfl⟩ := headB_iff.1 hh
      simp
    obtain ⟨m, hm⟩ : ∃ m, l.length = m + 1 := ⟨l.length - 1, by omega⟩
    rw [hm, Nat.add_sub_cancel] at HN
    have HM : Hid (l.length = m + 1) := hm
    rw [hm] at hl
    clear hht hpos hm hh
    go_enter Try.func38, Try.ntmps38
    go_wp2_with fail
    refine T.mono ?_
    rintro e w1 ⟨rfl, hb1⟩
    have H1 : Hid (Below w.heap.size w w1) := hb1
    clear hb1 T
    go_wp2
    go_loopg [6, 7, 8, 9] m (fun gk v i _ _ wr => ∃ k j : Nat, ∃ acc, gk = m - k ∧ i = .int .i64 (j : Int) ∧ j = k + 1 ∧ k ≤ m ∧ nuT l k = some acc ∧ IRow wr w.heap.size v acc ∧ Below w.heap.size w wr)
    case atStart => exact ⟨0, 1, [], rfl, rfl, rfl, by omega, rfl, World.ownsRow_nil _ _ _ _, H1.out⟩
    case round =>
      obtain ⟨k, j, acc, rfl, rfl, hj, hk, k1, k2, k3⟩ := hrel
      have HK : Hid (nuT l k = some acc ∧ IRow wr w.heap.size u6 acc ∧ Below w.heap.size w wr) := ⟨k1, k2, k3⟩
      have HAL : Hid (acc.length = k) := nuT_len k1
      clear k1 k2 k3
      have L := len_any p l wr (HR.out.below HK.out.2.2)
      rw [HM.out] at L
      have HJ : Hid (j = k + 1) := hj
      by_cases hlt : k < m
      · have hji : (j : Int) < (m : Int) + 1 := by omega
        by_cases hx : ∃ n, l[j]? = some (.inl n)
        · obtain ⟨n, hx⟩ := hx
          have HX : Hid (nuT l (k + 1) = some (acc ++ [n])) := nuT_next HK.out.1 (by rw [← hj]; exact hx)
          have I := int_any p l (j : Int) wr (HR.out.below HK.out.2.2)
          rw [itAt_nat, hx] at I
          have hba : Below wr.heap.size wr (wr.alloc (.cells #[.int .i64 n] 3)) := (Below.refl _ _).alloc (Nat.le_refl _) _
          have hbw := HK.out.2.2.trans (hba.mono HK.out.2.2.size)
          obtain ⟨v3, w3, r3, i3, b3⟩ := app_int _ w.heap.size u6 (.slice (some ⟨wr.heap.size, 0, none⟩) 1 1) acc [n] (HK.out.2.1.below hba) hbw.size
            (row_blk (cs := iC) (fun _ => rfl) [n] (blk_new _ _) rfl) (by rw [HAL.out]; show k + 1 ≤ _; omega)
          have H3 : Hid (IRow w3 w.heap.size v3 (acc ++ [n]) ∧ Below w.heap.size w w3) := ⟨i3, hbw.trans b3⟩
          clear hba hbw i3 b3 hx hj
          simp only [numOf] at I
          go_wp2_with fail
          refine L.mono ?_
          rintro e w2 ⟨rfl, hw⟩
          obtain rfl := hw.symm
          go_wp2_with fail
          refine I.mono ?_
          rintro e w4 ⟨rfl, hw⟩
          obtain rfl := hw.symm
          go_wp2_with (at_builtin; refine wpList_app_run rfl _ _ 23 rfl _ _ rfl rfl v3 w3 r3 ?_)
          go_roundg (m - (k + 1))
          case rel => exact ⟨k + 1, j + 1, _, rfl, by go_num, by have := HJ.out; omega, by omega, HX.out, H3.out⟩
          case measure => omega
        · have HX : Hid (numV l = none) := by
            show numV l = none
            rw [HN.out]
            exact nuT_stop (k := k) (fun n hn => hx ⟨n, by rw [hj]; exact hn⟩) m hlt
          have I := int_any p l (j : Int) wr (HR.out.below HK.out.2.2)
          rw [numOf_none fun n hn => hx ⟨n, hn⟩] at I
          clear hx hj
          go_wp2_with fail
          refine L.mono ?_
          rintro e w2 ⟨rfl, hw⟩
          obtain rfl := hw.symm
          go_wp2_with fail
          refine I.mono ?_
          rintro e w4 ⟨rfl, hw⟩
          obtain rfl := hw.symm
          go_wp2
          go_ret2
          exact ⟨.inr ⟨HX.out, rfl⟩, HK.out.2.2⟩
      · have hke : k = m := by omega
        have hji : ¬ (j : Int) < (m : Int) + 1 := by omega
        subst hke
        clear hj
        rw [← HN.out] at HK
        go_wp2_with fail
        refine L.mono ?_
        rintro e w2 ⟨rfl, hw⟩
        obtain rfl := hw.symm
        go_wp2
        go_ret2
        exact ⟨.inl ⟨acc, _, HK.out.1, rfl, HK.out.2.1⟩, HK.out.2.2⟩
  · have HX : Hid (numV l = none) := by show numV l = none; rw [numV, if_neg hh]
    have ht : ∀ s b, textOf (itAt l 0) = (s, b) → b = false ∨ ¬ s = stateS := fun s b e => by
      cases b
      · exact .inl rfl
      · refine .inr fun es => hh ?_
        rw [headB, e, es]
        exact decide_eq_true rfl
    generalize textOf (itAt l 0) = q at *
    obtain ⟨s, b⟩ := q
    have hsb := ht s b rfl
    clear ht hh
    rcases hsb with rfl | hs
    · go_enter Try.func38, Try.ntmps38
      go_wp2_with fail
      refine T.mono ?_
      rintro e w1 ⟨rfl, hb1⟩
      have H1 : Hid (Below w.heap.size w w1) := hb1
      clear hb1 T
      go_wp2
      go_ret2
      exact ⟨.inr ⟨HX.out, rfl⟩, H1.out⟩
    · have hne : (s.toList == [115, 116, 97, 116, 101]) = false := by rw [state_eq]; exact decide_eq_false hs
      cases b
      all_goals
        go_enter Try.func38, Try.ntmps38
        go_wp2_with fail
        refine T.mono ?_
        rintro e w1 ⟨rfl, hb1⟩
        have H1 : Hid (Below w.heap.size w w1) := hb1
        clear hb1 T
        go_wp2
        go_ret2
        exact ⟨.inr ⟨HX.out, rfl⟩, H1.out⟩
end Go.Proofs.Ytelmjkjbbbgmpaa
