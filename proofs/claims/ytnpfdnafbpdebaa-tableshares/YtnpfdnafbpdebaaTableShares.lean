/-
  Of any two rows of numbers: TableShares returns true.
-/
import Derived.Test.YtnpfdnafbpdebaaRows
import Derived.Test.YtnpfdnafbpdebaaTbTwo
import Derived.Test.YtnpfdnafbpdebaaLawInts
import Derived.WalkKit
import Derived.ProofKit
import Derived.OpenShut
import Derived.ShutString
import Derived.ChangeOld
import Derived.Below
import Derived.SizedLaws
import Derived.PinnedBridge
import Derived.Lib.LaidU8T
import Derived.Lay
import Derived.LaidOnce
import Derived.SevenTiedAt
import Derived.Deep.DeepHandedRow
namespace Go.Proofs.Ytnpfdnafbpdebaa.tableShares
open Go.ChangeShapes Go.WideShapes Go.ChangeAt Go.RowKit

/-- A row without what is there already. -/
def ded : List Int → List Int → List Int
  | acc, [] => acc
  | acc, x :: t => ded (if inB acc x = true then acc else acc ++ [x]) t
theorem ded_mem (y : Int) : ∀ (l acc : List Int), y ∈ ded acc l ↔ y ∈ acc ∨ y ∈ l
  | [], acc => by simp [ded]
  | x :: t, acc => by
    rw [ded, ded_mem y t]
    split
    · rename_i h
      rw [inB_iff] at h
      constructor
      · rintro (h1 | h1)
        · exact .inl h1
        · exact .inr (List.mem_cons_of_mem _ h1)
      · rintro (h1 | h1)
        · exact .inl h1
        · rcases List.mem_cons.1 h1 with rfl | h1
          · exact .inl h
          · exact .inr h1
    · simp [or_assoc]
theorem ded_nodup : ∀ (l acc : List Int), acc.Nodup → (ded acc l).Nodup
  | [], acc, h => h
  | x :: t, acc, h => by
    rw [ded]
    refine ded_nodup t _ ?_
    split
    · exact h
    · rename_i hx
      rw [inB_iff] at hx
      refine List.nodup_append.2 ⟨h, by simp, fun a ha b hb => ?_⟩
      simp at hb
      subst hb
      intro e
      exact hx (e ▸ ha)
theorem ded_len : ∀ (l acc : List Int), (ded acc l).length ≤ acc.length + l.length
  | [], acc => by simp [ded]
  | x :: t, acc => by
    rw [ded]
    refine Nat.le_trans (ded_len t _) ?_
    split
    · simp
    · simp; omega
def m4 (l : List Int) : List Int := l.map (· % 4)
theorem m4_drop {l : List Int} {k : Nat} {x : Int} (h : l[k]? = some x) : (m4 l).drop k = x % 4 :: (m4 l).drop (k + 1) := drop_at (by rw [m4, List.getElem?_map, h]; rfl)
theorem is_two (P Q : List Int) (hP : 1 ≤ P.length ∧ P.length ≤ 4 ∧ P.Nodup ∧ ∀ i ∈ P, 0 ≤ i ∧ i < 4) (hQ : 1 ≤ Q.length ∧ Q.length ≤ 4 ∧ Q.Nodup ∧ ∀ i ∈ Q, 0 ≤ i ∧ i < 4) : isB (layTwo P Q) = true := by
  have h1 : boundsB (layTwo P Q) = true := by kernel_rfl
  have h2 : secsB (layTwo P Q) = true := by kernel_rfl
  have h3 : namesAll (layTwo P Q) = true := by kernel_rfl
  have one : ∀ (nm : ByteArray) (f : Int) (R : List Int), (f = 0 ∨ f = 1) → (1 ≤ R.length ∧ R.length ≤ 4 ∧ R.Nodup ∧ ∀ i ∈ R, 0 ≤ i ∧ i < 4) → routeB (layTwo P Q) ⟨nm, f, 2, R, [], []⟩ = true := fun nm f R hf hR => by
    have a1 : headB (layTwo P Q) ⟨nm, f, 2, R, [], []⟩ = true := decide_eq_true (by
      show (0 ≤ f ∧ f < ((3 : Nat) : Int)) ∧ (0 ≤ (2 : Int) ∧ (2 : Int) < ((3 : Nat) : Int)) ∧ f ≠ 2 ∧ 1 ≤ R.length ∧ R.length ≤ 5
      omega)
    have a2 : pathB (layTwo P Q) R = true := decide_eq_true ⟨hR.2.2.1, fun i hi => hR.2.2.2 i hi⟩
    have a3 : restB (layTwo P Q) ⟨nm, f, 2, R, [], []⟩ = true := by kernel_rfl
    rw [routeB, a1, a2, a3]
    rfl
  have h4 : (layTwo P Q).routes.all (routeB (layTwo P Q)) = true := by
    have e : (layTwo P Q).routes = [⟨⟨#[114]⟩, 0, 2, P, [], []⟩, ⟨⟨#[113]⟩, 1, 2, Q, [], []⟩] := rfl
    rw [e, List.all_cons, List.all_cons, one _ 0 P (.inl rfl) hP, one _ 1 Q (.inr rfl) hQ]
    rfl
  rw [isB, h1, h2, h3, h4]
  rfl
theorem share_iff (a b : List Int) : shareB (ded [] (m4 a)) (ded [] (m4 b)) = (m4 b).any (inB (ded [] (m4 a))) := by
  rw [Bool.eq_iff_iff, shareB, List.any_eq_true, List.any_eq_true]
  simp only [inB_iff, ded_mem]
  constructor
  · rintro ⟨x, h1, h2⟩
    exact ⟨x, by simpa using h2, h1⟩
  · rintro ⟨x, h1, h2⟩
    exact ⟨x, h2, .inr h1⟩
theorem share_iff2 (a b : List Int) : shareB (ded [] (m4 b)) (ded [] (m4 a)) = (m4 b).any (inB (ded [] (m4 a))) := by
  rw [Bool.eq_iff_iff, shareB, List.any_eq_true, List.any_eq_true]
  simp only [inB_iff, ded_mem]
  constructor
  · rintro ⟨x, h1, h2⟩
    exact ⟨x, by simpa using h1, h2⟩
  · rintro ⟨x, h1, h2⟩
    exact ⟨x, .inr h1, h2⟩
theorem ded_ok (l : List Int) (h : 1 ≤ l.length ∧ l.length ≤ 4) : 1 ≤ (ded [] (m4 l)).length ∧ (ded [] (m4 l)).length ≤ 4 ∧ (ded [] (m4 l)).Nodup ∧ ∀ i ∈ ded [] (m4 l), 0 ≤ i ∧ i < 4 := by
  refine ⟨?_, ?_, ded_nodup _ _ List.nodup_nil, fun i hi => ?_⟩
  · cases l with
    | nil => simp at h
    | cons x t => exact List.length_pos_of_mem ((ded_mem (x % 4) _ _).2 (.inr (by simp [m4])))
  · have h1 := ded_len (m4 l) []
    have h2 : (m4 l).length = l.length := by simp [m4]
    have h3 : ([] : List Int).length = 0 := rfl
    omega
  · have := (ded_mem i _ _).1 hi
    simp [m4] at this
    obtain ⟨x, _, rfl⟩ := this
    omega
theorem any_next {l : List Int} {P : List Int} {k : Nat} {x : Int} (h : l[k]? = some x) : ((m4 l).take (k + 1)).any (inB P) = (((m4 l).take k).any (inB P) || inB P (x % 4)) := by
  rw [List.take_add_one, show (m4 l)[k]? = some (x % 4) by rw [m4, List.getElem?_map, h]; rfl, List.any_append]
  simp

set_option maxRecDepth 1000000 in
set_option maxHeartbeats 32000000 in
theorem walk (w : World) (oa : Option Addr) (la ca : Nat) (A : List Int) (e1 : A.length = la) (m1 : la ≤ maxLen) (hI : hasInts w oa A) (ob : Option Addr) (lb cb : Nat) (B : List Int) (e2 : B.length = lb) (m2 : lb ≤ maxLen) (hJ : hasInts w ob B) : Calls Try.prog 3 #[.slice oa la ca, .slice ob lb cb] w fun e w' => e = .returned (.bool true) ∧ Below w.heap.size w w' := by
  unfold maxLen at m1 m2
  obtain ⟨i0, hii, hz0, hz1, hz2⟩ := info_parts infoInt
  by_cases h1 : la < 1
  · have q1 : (la : Int) < 1 := by omega
    clear e1 e2 hI hJ
    go_enter Try.func3, Try.ntmps3
    go_wp2
    go_ret
    exact ⟨rfl, Below.refl _ _⟩
  by_cases h2 : 4 < la
  · have q1 : ¬ (la : Int) < 1 := by omega
    have q2 : (4 : Int) < (la : Int) := by omega
    clear e1 e2 hI hJ
    go_enter Try.func3, Try.ntmps3
    go_wp2
    go_ret
    exact ⟨rfl, Below.refl _ _⟩
  by_cases h3 : lb < 1
  · have q1 : ¬ (la : Int) < 1 := by omega
    have q2 : ¬ (4 : Int) < (la : Int) := by omega
    have q3 : (lb : Int) < 1 := by omega
    clear e1 e2 hI hJ
    go_enter Try.func3, Try.ntmps3
    go_wp2
    go_ret
    exact ⟨rfl, Below.refl _ _⟩
  by_cases h4 : 4 < lb
  · have q1 : ¬ (la : Int) < 1 := by omega
    have q2 : ¬ (4 : Int) < (la : Int) := by omega
    have q3 : ¬ (lb : Int) < 1 := by omega
    have q4 : (4 : Int) < (lb : Int) := by omega
    clear e1 e2 hI hJ
    go_enter Try.func3, Try.ntmps3
    go_wp2
    go_ret
    exact ⟨rfl, Below.refl _ _⟩
  have q1 : ¬ (la : Int) < 1 := by omega
  have q2 : ¬ (4 : Int) < (la : Int) := by omega
  have q3 : ¬ (lb : Int) < 1 := by omega
  have q4 : ¬ (4 : Int) < (lb : Int) := by omega
  have hla : la ≤ 4 := by omega
  have hlb : lb ≤ 4 := by omega
  have OKA := (show Hid _ from ded_ok A (by omega))
  have OKB := (show Hid _ from ded_ok B (by omega))
  have HEA : Hid (A.length = la) := e1
  have HEB : Hid (B.length = lb) := e2
  have HIA : Hid (hasInts w oa A) := hI
  have HIB : Hid (hasInts w ob B) := hJ
  clear e1 e2 hI hJ m1 m2 h1 h2 h3 h4
  go_enter Try.func3, Try.ntmps3
  go_wp2
  clear q1 q2 q3 q4
  go_loopg [5, 7] la (fun gk vo i wr => ∃ (k : Nat) (P : List Int), gk = la - k ∧ i = .int .i64 k ∧ k ≤ la ∧ P.length ≤ k ∧ ded P ((m4 A).drop k) = ded [] (m4 A) ∧ wr.ownsRow w.heap.size 3 1 vo P.length (P.flatMap iC) ∧ Below w.heap.size w wr)
  case atStart => exact ⟨0, [], rfl, rfl, by omega, Nat.le_refl _, rfl, World.ownsRow_nil _ _ _ _, Below.refl _ _⟩
  case round =>
    obtain ⟨k, P, rfl, rfl, hk, hPk, hd, hown, hb⟩ := hrel
    obtain ⟨ov, cv, hvo⟩ := owns_slice hown
    subst hvo
    have HDD : Hid (ded P ((m4 A).drop k) = ded [] (m4 A)) := hd
    have HOW : Hid (wr.ownsRow w.heap.size 3 1 (.slice ov P.length cv) P.length (P.flatMap iC)) := hown
    have HB : Hid (Below w.heap.size w wr) := hb
    clear hd hown hb
    by_cases hlt : k < la
    · have hki : (k : Int) < (la : Int) := by omega
      obtain ⟨x, hxk⟩ : ∃ x, A[k]? = some x := at_of (by rw [HEA.out]; exact hlt)
      obtain ⟨b0, off, rfl, a0⟩ := HIA.out k x hxk
      have d0 := up_cell HB.out a0
      have hand3 := i64_and3 x
      have D := in_any (.slice ov P.length cv) P (x % 4) wr (rowAt_of_owns (fun _ => rfl) HOW.out) (by omega)
      rw [m4_drop hxk, ded] at HDD
      clear hxk a0
      by_cases hin : inB P (x % 4) = true
      · rw [hin] at D
        rw [if_pos hin] at HDD
        go_wp2_with fail
        refine D.mono ?_
        rintro e w3 ⟨rfl, hw⟩
        rw [hw]
        clear D hw w3
        go_wp2
        go_roundg (la - (k + 1))
        case rel => exact ⟨k + 1, P, rfl, by go_num, by omega, by omega, HDD.out, HOW.out, HB.out⟩
        case measure => omega
      · have hin2 : inB P (x % 4) = false := by simpa using hin
        rw [hin2] at D
        rw [if_neg hin] at HDD
        have hx : (P ++ [x % 4]).flatMap iC = P.flatMap iC ++ [.int .i64 (x % 4)] := by rw [List.flatMap_append]; rfl
        have HX := (show Hid _ from hx)
        have hown5 := HOW.out
        have hsz5 := HB.out.size
        clear hx hin hin2
        generalize P.flatMap iC = cells at *
        have HPL : Hid ((P ++ [x % 4]).length = P.length + 1) := by show _ = _; simp
        go_wp2_with fail
        refine D.mono ?_
        rintro e w3 ⟨rfl, hw⟩
        rw [hw]
        clear D hw w3
        go_wp2_with (at_builtin; refine wpList_append_own _ rfl _ _ 22 rfl w.heap.size 3 i0 (.int .i64 0) 1 8 Try.underlying22 hii hz0 hz1 hz2 rfl (by decide) _ _ _ rfl (hown5.alloc _) ⟨wr.heap.size, 0, none⟩ 1 1 [.int .i64 (x % 4)] rfl rfl (by intro j u hj; match j, hj with | 0, hj => (simp at hj; subst hj; simp [addr_add]) | j + 1, hj => simp at hj) (one_int _) (by unfold maxLen; omega) (by omega) (by simp; omega) ?_)
        intro v' w6 hown6 hgrow _
        have HO6 := (show Hid (w6.ownsRow w.heap.size 3 1 v' (P.length + 1) (cells ++ [.int .i64 (x % 4)])) from hown6)
        have HB6 : Hid (Below w.heap.size w w6) := (HB.out.alloc HB.out.size _).grown hgrow (by simp; omega) (fun j e => (HOW.out.lt j e).1)
        clear hown5 hown6 hgrow hand3 d0
        go_wp2
        go_roundg (la - (k + 1))
        case rel => exact ⟨k + 1, P ++ [x % 4], rfl, by go_num, by omega, by rw [HPL.out]; omega, HDD.out, by rw [HPL.out, HX.out]; exact HO6.out, HB6.out⟩
        case measure => omega
    · have hkn : ¬ (k : Int) < (la : Int) := by omega
      have hPP : P = ded [] (m4 A) := by
        have h1 := HDD.out
        rw [List.drop_of_length_le (by rw [m4, List.length_map, HEA.out]; omega), ded] at h1
        exact h1
      have HPP := (show Hid (P = ded [] (m4 A)) from hPP)
      have HPN : Hid (P.length ≤ 4) := by show P.length ≤ 4; omega
      clear hPP HDD
      go_wp2
      have HRP : Hid (rowAt wr (.slice ov P.length cv) 1 iC P) := rowAt_of_owns (fun _ => rfl) HOW.out
      have HCP : Hid (P.length ≤ cv) := by
        rcases HOW.out.2 with ⟨e0, _⟩ | ⟨g, cap, cur, e0, _, _, h1, _⟩
        · injection e0 with e1 e2 e3; show _ ≤ _; omega
        · injection e0 with e1 e2 e3; show _ ≤ _; omega
      clear HOW
      generalize wr = wp at *
      go_loopg [6, 8, 9] lb (fun gk vq vs i wr => ∃ (k : Nat) (Q : List Int), gk = lb - k ∧ i = .int .i64 k ∧ k ≤ lb ∧ Q.length ≤ k ∧ ded Q ((m4 B).drop k) = ded [] (m4 B) ∧ vs = .bool (((m4 B).take k).any (inB P)) ∧ wr.ownsRow wp.heap.size 3 1 vq Q.length (Q.flatMap iC) ∧ Below wp.heap.size wp wr)
      case atStart => exact ⟨0, [], rfl, rfl, by omega, Nat.le_refl _, rfl, rfl, World.ownsRow_nil _ _ _ _, Below.refl _ _⟩
      case round =>
        obtain ⟨k, Q, rfl, rfl, hk, hQk, hd, rfl, hown, hb⟩ := hrel
        obtain ⟨oq, cq, hvo⟩ := owns_slice hown
        subst hvo
        have HDD : Hid (ded Q ((m4 B).drop k) = ded [] (m4 B)) := hd
        have HOW : Hid (wr.ownsRow wp.heap.size 3 1 (.slice oq Q.length cq) Q.length (Q.flatMap iC)) := hown
        have HB2 : Hid (Below wp.heap.size wp wr) := hb
        have HB0 : Hid (Below w.heap.size w wr) := HB.out.trans (hb.mono HB.out.size)
        clear hd hown hb
        by_cases hlt : k < lb
        · have hki : (k : Int) < (lb : Int) := by omega
          obtain ⟨x, hxk⟩ : ∃ x, B[k]? = some x := at_of (by rw [HEB.out]; exact hlt)
          obtain ⟨b0, off, rfl, a0⟩ := HIB.out k x hxk
          have d0 := up_cell HB0.out a0
          have hand3 := i64_and3 x
          have D := in_any (.slice oq Q.length cq) Q (x % 4) wr (rowAt_of_owns (fun _ => rfl) HOW.out) (by omega)
          have E := fun W (hW : Below wp.heap.size wp W) => in_any (.slice ov P.length cv) P (x % 4) W (HRP.out.below hW) (by have := HPN.out; omega)
          have hnx := any_next (P := P) hxk
          have HNX := (show Hid (((m4 B).take (k + 1)).any (inB P) = (((m4 B).take k).any (inB P) || inB P (x % 4))) from hnx)
          rw [m4_drop hxk, ded] at HDD
          clear hxk hnx
          generalize ((m4 B).take k).any (inB P) = sh at *
          generalize inB P (x % 4) = ip at *
          generalize hP : P.length = pl at *
          clear hP
          by_cases hin : inB Q (x % 4) = true
          · rw [hin] at D
            rw [if_pos hin] at HDD
            have E0 := E wr HB2.out
            clear a0
            go_wp2_with fail
            refine D.mono ?_
            rintro e w3 ⟨rfl, hw⟩
            rw [hw]
            clear D hw w3
            cases sh
            · go_wp2_with fail
              refine E0.mono ?_
              rintro e w3 ⟨rfl, hw⟩
              rw [hw]
              clear hw w3
              go_wp2
              go_roundg (lb - (k + 1))
              case rel => exact ⟨k + 1, Q, rfl, by go_num, by omega, by omega, HDD.out, by rw [HNX.out]; rfl, HOW.out, HB2.out⟩
              case measure => omega
            · go_wp2
              go_roundg (lb - (k + 1))
              case rel => exact ⟨k + 1, Q, rfl, by go_num, by omega, by omega, HDD.out, by rw [HNX.out]; rfl, HOW.out, HB2.out⟩
              case measure => omega
          · have hin2 : inB Q (x % 4) = false := by simpa using hin
            rw [hin2] at D
            rw [if_neg hin] at HDD
            have hx : (Q ++ [x % 4]).flatMap iC = Q.flatMap iC ++ [.int .i64 (x % 4)] := by rw [List.flatMap_append]; rfl
            have HX := (show Hid ((Q ++ [x % 4]).flatMap iC = Q.flatMap iC ++ [.int .i64 (x % 4)]) from hx)
            have hown5 := HOW.out
            have hsz5 := HB2.out.size
            clear hx hin hin2
            generalize Q.flatMap iC = cells at *
            have HPL : Hid ((Q ++ [x % 4]).length = Q.length + 1) := by show _ = _; simp
            go_wp2_with fail
            refine D.mono ?_
            rintro e w3 ⟨rfl, hw⟩
            rw [hw]
            clear D hw w3
            go_wp2_with (at_builtin; refine wpList_append_own _ rfl _ _ 22 rfl wp.heap.size 3 i0 (.int .i64 0) 1 8 Try.underlying22 hii hz0 hz1 hz2 rfl (by decide) _ _ _ rfl (hown5.alloc _) ⟨wr.heap.size, 0, none⟩ 1 1 [.int .i64 (x % 4)] rfl rfl (by intro j u hj; match j, hj with | 0, hj => (simp at hj; subst hj; simp [addr_add]) | j + 1, hj => simp at hj) (one_int _) (by unfold maxLen; omega) (by omega) (by simp; omega) ?_)
            intro v' w6 hown6 hgrow _
            have HO6 := (show Hid (w6.ownsRow wp.heap.size 3 1 v' (Q.length + 1) (cells ++ [.int .i64 (x % 4)])) from hown6)
            have HB6 : Hid (Below wp.heap.size wp w6) := (HB2.out.alloc HB2.out.size _).grown hgrow (by simp; omega) (fun j e => (HOW.out.lt j e).1)
            have d6 := up_cell (HB.out.trans (HB6.out.mono HB.out.size)) a0
            have E6 := E w6 HB6.out
            clear hown5 hown6 hgrow d0 E a0
            cases sh
            · go_wp2_with fail
              refine E6.mono ?_
              rintro e w3 ⟨rfl, hw⟩
              rw [hw]
              clear hw w3
              go_wp2
              go_roundg (lb - (k + 1))
              case rel => exact ⟨k + 1, Q ++ [x % 4], rfl, by go_num, by omega, by rw [HPL.out]; omega, HDD.out, by rw [HNX.out]; rfl, by rw [HPL.out, HX.out]; exact HO6.out, HB6.out⟩
              case measure => omega
            · go_wp2
              go_roundg (lb - (k + 1))
              case rel => exact ⟨k + 1, Q ++ [x % 4], rfl, by go_num, by omega, by rw [HPL.out]; omega, HDD.out, by rw [HNX.out]; rfl, by rw [HPL.out, HX.out]; exact HO6.out, HB6.out⟩
              case measure => omega
        · have hkn : ¬ (k : Int) < (lb : Int) := by omega
          have hQQ : Q = ded [] (m4 B) := by
            have h1 := HDD.out
            rw [List.drop_of_length_le (by rw [m4, List.length_map, HEB.out]; omega), ded] at h1
            exact h1
          have hsh : ((m4 B).take k).any (inB P) = (m4 B).any (inB P) := by rw [List.take_of_length_le (by rw [m4, List.length_map, HEB.out]; omega)]
          rw [hsh]
          have hP := HPP.out
          have hcq : Q.length ≤ cq := by
            rcases HOW.out.2 with ⟨e0, _⟩ | ⟨g, cap, cur, e0, _, _, h1, _⟩
            · injection e0 with e1 e2 e3; omega
            · injection e0 with e1 e2 e3; omega
          have IS : isB (layTwo P Q) = true := is_two P Q (by rw [hP]; exact OKA.out) (by rw [hQQ]; exact OKB.out)
          have C1 : shareB P Q = (m4 B).any (inB P) := by rw [hP, hQQ]; exact share_iff A B
          have C2 : shareB Q P = (m4 B).any (inB P) := by rw [hP, hQQ]; exact share_iff2 A B
          generalize (m4 B).any (inB P) = sh at *
          have RQ := rowAt_of_owns (cs := iC) (fun _ => rfl) HOW.out
          have RP := HRP.out.below HB2.out
          have FEW := few_two (B := wr.heap.size) ov oq P.length cv Q.length cq P Q HCP.out hcq (by have := HPN.out; omega) (by omega)
          have HQL : Hid (Q.length ≤ 4) := by show _ ≤ _; omega
          have HFEW := (show Hid _ from FEW)
          have HIS := (show Hid (isB (layTwo P Q) = true) from IS)
          have HC1 := (show Hid (shareB P Q = sh) from C1)
          have HC2 := (show Hid (shareB Q P = sh) from C2)
          have HRPW := (show Hid (rowAt wr (.slice ov P.length cv) 1 iC P) from RP)
          have HRQW := (show Hid (rowAt wr (.slice oq Q.length cq) 1 iC Q) from RQ)
          clear hQQ hP hsh hcq IS C1 C2 RQ RP FEW HPP HDD
          generalize P.length = pl at *
          generalize Q.length = ql at *
          go_wp2_with (go_at_call 6; refine (two_at _ _ _ _ _ _ _).mono ?_; rintro e w' ⟨rfl, rfl⟩)
          refine with_world (fun W hW => ?_)
          have HBW : Hid (Below wr.heap.size wr W) := by
            show Below _ _ _
            rw [hW]
            repeat' (with_reducible first | exact Below.refl _ _ | refine Below.alloc ?_ ?_ _ | exact Nat.le_refl _ | (simp; done) | (simp; omega))
          have L := lay_of_two (W := W) (B := wr.heap.size) ov oq pl cv ql cq P Q (by rw [hW]; repeat (first | (refine blk_new' ?_; simp; done) | refine blk_old ?_)) (by rw [hW]; repeat (first | (refine blk_new' ?_; simp; done) | refine blk_old ?_)) (by rw [hW]; repeat (first | (refine blk_new' ?_; simp; done) | refine blk_old ?_)) (HRPW.out.below HBW.out) (HRQW.out.below HBW.out)
          have VL : Hid (W.cell? ⟨wr.heap.size + 1 + 1 + 1 + 1, 0, none⟩ = some (.slice (some ⟨wr.heap.size + 1, 0, none⟩) 4 4) ∧ W.cell? ⟨wr.heap.size + 1 + 1 + 1 + 1, 1, none⟩ = some (.slice none 0 0) ∧ W.cell? ⟨wr.heap.size + 1 + 1 + 1 + 1, 2, none⟩ = some (.slice (some ⟨wr.heap.size + 1 + 1, 0, none⟩) 3 3) ∧ W.cell? ⟨wr.heap.size + 1 + 1 + 1 + 1, 3, none⟩ = some (.slice (some ⟨wr.heap.size + 1 + 1 + 1, 0, none⟩) 2 2)) := by
            show _ ∧ _
            rw [hW]
            refine ⟨?_, ?_, ?_, ?_⟩ <;> go_simp
          have I := is_few L HFEW.out true HIS.out
          have CF1 : Hid (∀ W', Below W.heap.size W W' → Calls Try.prog 8 #[.agg #[.slice (some ⟨wr.heap.size + 1, 0, none⟩) 4 4, .slice none 0 0, .slice (some ⟨wr.heap.size + 1 + 1, 0, none⟩) 3 3, .slice (some ⟨wr.heap.size + 1 + 1 + 1, 0, none⟩) 2 2], .int .i64 0, .int .i64 1] W' fun e w' => e = .returned (.bool sh) ∧ Below W'.heap.size W' w') := fun W' hW' => conf_few (L.below hW') HFEW.out 0 1 _ _ rfl rfl sh (by rw [← HC1.out]; show (false || (false || (shareB P Q || false))) = _; simp)
          have CF2 : Hid (∀ W', Below W.heap.size W W' → Calls Try.prog 8 #[.agg #[.slice (some ⟨wr.heap.size + 1, 0, none⟩) 4 4, .slice none 0 0, .slice (some ⟨wr.heap.size + 1 + 1, 0, none⟩) 3 3, .slice (some ⟨wr.heap.size + 1 + 1 + 1, 0, none⟩) 2 2], .int .i64 1, .int .i64 0] W' fun e w' => e = .returned (.bool sh) ∧ Below W'.heap.size W' w') := fun W' hW' => conf_few (L.below hW') HFEW.out 1 0 _ _ rfl rfl sh (by rw [← HC2.out]; show (false || (false || (shareB Q P || false))) = _; simp)
          clear hW L
          refine I.mono ?_
          rintro e w1 ⟨rfl, hb1⟩
          clear I
          have m0 := up_cell hb1 VL.out.1
          have m1 := up_cell hb1 VL.out.2.1
          have m2 := up_cell hb1 VL.out.2.2.1
          have m3 := up_cell hb1 VL.out.2.2.2
          go_wp2_with fail
          refine (CF1.out _ hb1).mono ?_
          rintro e w2 ⟨rfl, hb2⟩
          have hb2 := hb1.trans (hb2.mono hb1.size)
          clear m0 m1 m2 m3
          have m0 := up_cell hb2 VL.out.1
          have m1 := up_cell hb2 VL.out.2.1
          have m2 := up_cell hb2 VL.out.2.2.1
          have m3 := up_cell hb2 VL.out.2.2.2
          cases sh
          all_goals
            go_wp2_with fail
            refine (CF2.out _ hb2).mono ?_
            rintro e w3 ⟨rfl, hb3⟩
            have hb3 := hb2.trans (hb3.mono hb2.size)
            go_wp2_with fail
            refine (known_any _).mono ?_
            rintro e w4 ⟨rfl, hb4⟩
            have hb4 := hb3.trans (hb4.mono hb3.size)
            go_wp2
            go_ret
            exact ⟨rfl, (HB0.out.trans (HBW.out.mono HB0.out.size)).trans (hb4.mono (HB0.out.trans (HBW.out.mono HB0.out.size)).size)⟩

theorem own : ownKnob Try.prog.godebug = none := by kernel_rfl

set_option maxRecDepth 100000 in
theorem lifted (os : Os) (started : os.Started) (H : Type) (enc : TypeId × Value → H) :
    ReturnsInHanded {} Try.checked os 3 .any (Rows.tableSharesSpec.pre6 enc Try.prog Try.f3 Rows.tableSharesRow.domain false) (Rows.tableSharesSpec.post enc Try.prog Try.f3 false true false false) := by
  refine returnsInHanded_of_change (C := Try.checked) own started (by kernel_rfl) Try.func3
    (ChangeSpec.witness6 (enc := enc) (C := Try.checked) false ⟨#[], #[.slice none 0 0, .slice none 0 0], []⟩ 8 (by kernel_rfl) (by kernel_rfl) (by kernel_rfl) (by kernel_rfl)) ?_
  intro W base args ds gs before hval0 hW _ _
  have hval : ∀ (j : Nat) t v, Try.f3.params[j]? = some t → args[j]? = some v → Value.okWide Try.prog W .any base t v := hval0
  have hW' := hW
  obtain ⟨p, q, hA0, hV, rfl, _, _⟩ := hW
  have hA : DataW.TrodAll enc Try.prog W 0 (fun _ => true) true Try.f3.params.toList args.toList ds p := hA0
  rw [Try.params3] at hA hval
  obtain ⟨v0, vs0, d0, ds0, p0, q0, hargs, rfl, rfl, h0, r0⟩ := trodAll_cons hA
  obtain ⟨v1, vs1, d1, ds1, p1, q1, rfl, rfl, rfl, h1, r1⟩ := trodAll_cons r0
  obtain ⟨rfl, rfl, rfl⟩ := trodAll_nil r1
  obtain rfl : args = #[v0, v1] := by cases args; simp_all
  obtain ⟨rfl, rfl⟩ := trodVars_none hV
  obtain ⟨a0, len0, cap0, rfl⟩ := okWide_slice Try.underlying22 (hval 0 22 v0 rfl rfl)
  have k0 := h0
  have lt0 : ∀ x ∈ p0, x.block < W.heap.size := by obtain ⟨m, hm⟩ := k0; exact DataW.trod_lt m _ _ _ hm
  obtain ⟨z0, e0, m0, s0⟩ : ∃ l : List Int, l.length = len0 ∧ len0 ≤ maxLen ∧ hasInts W a0 l := by
    obtain ⟨fuel, hf⟩ := h0
    rcases open_ints Try.underlying22 Try.underlying3 (by kernel_rfl) hf with ⟨hcs, _⟩ | ⟨x, l, c, ss, hcs, _, hl, hm, hz, _, hcell, _⟩
    · simp [Value.cells] at hcs
      obtain ⟨rfl, rfl, rfl⟩ := hcs
      exact ⟨[], rfl, by unfold maxLen; omega, fun j x hj => by simp at hj⟩
    · simp [Value.cells] at hcs
      obtain ⟨rfl, rfl, rfl⟩ := hcs
      have hz' : ss.length = cap0 := by simpa using hz
      have q := ints_of (len := len0) (by omega) hcell
      exact ⟨ss.take len0, q.1, by omega, q.2⟩
  obtain ⟨a1, len1, cap1, rfl⟩ := okWide_slice Try.underlying22 (hval 1 22 v1 rfl rfl)
  have k1 := h1
  have lt1 : ∀ x ∈ p1, x.block < W.heap.size := by obtain ⟨m, hm⟩ := k1; exact DataW.trod_lt m _ _ _ hm
  obtain ⟨z1, e1, m1, s1⟩ : ∃ l : List Int, l.length = len1 ∧ len1 ≤ maxLen ∧ hasInts W a1 l := by
    obtain ⟨fuel, hf⟩ := h1
    rcases open_ints Try.underlying22 Try.underlying3 (by kernel_rfl) hf with ⟨hcs, _⟩ | ⟨x, l, c, ss, hcs, _, hl, hm, hz, _, hcell, _⟩
    · simp [Value.cells] at hcs
      obtain ⟨rfl, rfl, rfl⟩ := hcs
      exact ⟨[], rfl, by unfold maxLen; omega, fun j x hj => by simp at hj⟩
    · simp [Value.cells] at hcs
      obtain ⟨rfl, rfl, rfl⟩ := hcs
      have hz' : ss.length = cap1 := by simpa using hz
      have q := ints_of (len := len1) (by omega) hcell
      exact ⟨ss.take len1, q.1, by omega, q.2⟩
  clear hA0 hval0
  refine (walk W a0 len0 cap0 z0 e0 m0 s0 a1 len1 cap1 z1 e1 m1 s1 ).mono fun e W' ⟨he, bel⟩ => ?_
  subst he
  exact ⟨_, rfl, _, _, _, [], _, [], hW', trodAll_mk1 (shut_bool Try.underlying4 _), (trodAll_cons_mk (Below.trod laidOut (by kernel_rfl) (of_decide_eq_true (by kernel_rfl)) k0 bel lt0) (trodAll_cons_mk (Below.trod laidOut (by kernel_rfl) (of_decide_eq_true (by kernel_rfl)) k1 bel lt1) trodAll_mk0)), rfl, bel.frame _, fun h => by cases h⟩

theorem over : Rows.tableSharesRow.holds Try.pinned (OpenSpec.ofChange Rows.tableSharesSpec) :=
  OpenClaim.holds_of_wide 3 Try.f3 rfl rfl rfl rfl rfl rfl rfl ⟨rfl, rfl, rfl, rfl, rfl⟩ rfl rfl rfl rfl rfl (by kernel_rfl) Try.func3 (by kernel_rfl)
    (of_decide_eq_true (by kernel_rfl)) (by unfold Func.isWrapper; first | (rw [if_pos (by decide +kernel)]; kernel_rfl) | (rw [if_neg (by decide +kernel)]; exact ⟨rfl, rfl⟩))
    (fun os started H enc _ => lifted os started H enc)

end Go.Proofs.Ytnpfdnafbpdebaa.tableShares
namespace Go.Proofs.Ytnpfdnafbpdebaa
theorem tableShares_holds : Rows.TableSharesSaid := tableShares.over
#print axioms tableShares_holds
end Go.Proofs.Ytnpfdnafbpdebaa
