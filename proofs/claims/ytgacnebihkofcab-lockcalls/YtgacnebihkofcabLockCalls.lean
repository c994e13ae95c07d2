/-
  Of every two numbers: LockCalls returns true.
-/
import Derived.Test.YtgacnebihkofcabRows
import Derived.Test.YtgacnebihkofcabLkKnown
import Derived.WalkKit
import Derived.ProofKit
import Derived.OpenShut
import Derived.ShutString
import Derived.ChangeOld
import Derived.Below
import Derived.SizedLaws
import Derived.PinnedBridge
import Derived.Lib.LaidU8T
import Derived.Lay
import Derived.LaidOnce
import Derived.SevenTiedAt
import Derived.Deep.DeepHandedRow
namespace Go.Proofs.Ytgacnebihkofcab.lockCalls
open Go.ChangeShapes Go.WideShapes Go.ChangeAt Go.RowKit

theorem call0 : ∀ (n : Fin 8) (m : Fin 3), cmdL [idleS, idleS] (bitsF n.1) [(m.1 : Int)] 1 0 = if n.1 % 4 = 0 then (0, [(1, 0, 0, false), idleS]) else (8, [idleS, idleS]) := by decide +kernel
theorem call1 : ∀ (n : Fin 8) (m : Fin 3), cmdL (if n.1 % 4 = 0 then [(1, 0, 0, false), idleS] else [idleS, idleS]) (bitsF n.1) [(m.1 : Int)] 1 1 = if n.1 / 4 % 2 = 0 then (0, (if n.1 % 4 = 0 then [(1, 0, 0, false), (1, 0, 0, false)] else [idleS, (1, 0, 0, false)])) else (8, if n.1 % 4 = 0 then [(1, 0, 0, false), idleS] else [idleS, idleS]) := by decide +kernel
theorem call2 : ∀ (n : Fin 8) (m : Fin 3), cmdL (if n.1 % 4 = 0 then (if n.1 / 4 % 2 = 0 then [(1, 0, 0, false), (1, 0, 0, false)] else [(1, 0, 0, false), idleS]) else (if n.1 / 4 % 2 = 0 then [idleS, (1, 0, 0, false)] else [idleS, idleS])) (bitsF n.1) [(m.1 : Int)] 1 1 = (if n.1 / 4 % 2 = 0 then 7 else 8, if n.1 % 4 = 0 then (if n.1 / 4 % 2 = 0 then [(1, 0, 0, false), (1, 0, 0, false)] else [(1, 0, 0, false), idleS]) else (if n.1 / 4 % 2 = 0 then [idleS, (1, 0, 0, false)] else [idleS, idleS])) := by decide +kernel
theorem odd3 (ss : List St) : ∀ (n : Fin 8) (m : Fin 3), cmdL ss (bitsF n.1) [(m.1 : Int)] 3 0 = (1, ss) := by
  intro n m
  unfold cmdL cmdF
  rw [if_pos (by simp)]
theorem none_ (ss : List St) (r : Int) (hr : r = 2 ∨ r = -1) : ∀ (n : Fin 8) (m : Fin 3), cmdL ss (bitsF n.1) [(m.1 : Int)] 1 r = (5, ss) := by
  intro n m
  have h : inB2 (bitsF n.1) [(m.1 : Int)] 3 1 = true := by
    have : ∀ (n : Fin 8) (m : Fin 3), inB2 (bitsF n.1) [(m.1 : Int)] 3 1 = true := by decide +kernel
    exact this n m
  unfold cmdL cmdF
  rw [if_neg (by intro hc; simp at hc; exact absurd (h.symm.trans hc) (by decide)), if_pos (by rcases hr with rfl | rfl; exact .inr (by decide); exact .inl (by decide))]
theorem and3 : ∀ n : Fin 8, (bits BinOp.and IntKind.i64 (n.1 : Int) 3 == 0) = decide (n.1 % 4 = 0) := by decide +kernel
theorem and4 : ∀ n : Fin 8, (bits BinOp.and IntKind.i64 (n.1 : Int) 4 == 0) = decide (n.1 / 4 % 2 = 0) := by decide +kernel

set_option maxRecDepth 1000000 in
set_option maxHeartbeats 32000000 in
theorem walk (n m : Int) (_ : (Lit.int IntKind.i64 n).wf = true) (_ : (Lit.int IntKind.i64 m).wf = true) (w : World) : Calls Try.prog 3 #[.int .i64 n, .int .i64 m] w fun e w' => e = .returned (.bool true) ∧ Below w.heap.size w w' := by
  by_cases h0 : n < 0
  · go_enter Try.func3, Try.ntmps3
    go_wp2
    go_ret
    exact ⟨rfl, Below.refl _ _⟩
  by_cases h1 : 7 < n
  · go_enter Try.func3, Try.ntmps3
    go_wp2
    go_ret
    exact ⟨rfl, Below.refl _ _⟩
  by_cases h2 : m < 0
  · go_enter Try.func3, Try.ntmps3
    go_wp2
    go_ret
    exact ⟨rfl, Below.refl _ _⟩
  by_cases h3 : 2 < m
  · go_enter Try.func3, Try.ntmps3
    go_wp2
    go_ret
    exact ⟨rfl, Below.refl _ _⟩
  obtain ⟨N, rfl, hN⟩ := nat_of (n := 8) (i := n) ⟨by omega, by omega⟩
  obtain ⟨M, rfl, hM⟩ := nat_of (n := 3) (i := m) ⟨by omega, by omega⟩
  have c0 := call0 ⟨N, hN⟩ ⟨M, hM⟩
  have c1 := call1 ⟨N, hN⟩ ⟨M, hM⟩
  have c2 := call2 ⟨N, hN⟩ ⟨M, hM⟩
  have c3 := fun ss => odd3 ss ⟨N, hN⟩ ⟨M, hM⟩
  have c4 := fun ss => none_ ss 2 (.inl rfl) ⟨N, hN⟩ ⟨M, hM⟩
  have c5 := fun ss => none_ ss (-1) (.inr rfl) ⟨N, hN⟩ ⟨M, hM⟩
  have a3 := and3 ⟨N, hN⟩
  have a4 := and4 ⟨N, hN⟩
  simp only at c0 c1 c2 c3 c4 c5 a3 a4
  have C3 : Hid (∀ ss, cmdL ss (bitsF (N : Int)) [(M : Int)] 3 0 = (1, ss)) := c3
  have C4 : Hid (∀ ss, cmdL ss (bitsF (N : Int)) [(M : Int)] 1 2 = (5, ss)) := c4
  have C5 : Hid (∀ ss, cmdL ss (bitsF (N : Int)) [(M : Int)] 1 (-1) = (5, ss)) := c5
  clear c3 c4 c5
  by_cases hp : N % 4 = 0
  · by_cases hq : N / 4 % 2 = 0
    · simp only [eq_true hp, eq_true hq, if_true] at c0 c1 c2
      rw [decide_eq_true hp] at a3
      rw [decide_eq_true hq] at a4
      have C0 : Hid (cmdL [idleS, idleS] (bitsF (N : Int)) [(M : Int)] 1 0 = (0, [(1, 0, 0, false), idleS])) := c0
      have C1 : Hid (cmdL [(1, 0, 0, false), idleS] (bitsF (N : Int)) [(M : Int)] 1 1 = (0, [(1, 0, 0, false), (1, 0, 0, false)])) := c1
      have C2 : Hid (cmdL [(1, 0, 0, false), (1, 0, 0, false)] (bitsF (N : Int)) [(M : Int)] 1 1 = (7, [(1, 0, 0, false), (1, 0, 0, false)])) := c2
      clear c0 c1 c2
      go_enter Try.func3, Try.ntmps3
      go_wp2_with fail
      refine (line_any w).mono ?_
      rintro e w1 ⟨v, a, b, c, d, e', f, rfl, hL, hF, hb1⟩
      have D := new_l w w1 v a b c d e' f hL hF hb1
      clear hL hF
      go_wp2_with fail
      refine D.mono ?_
      rintro e w2 ⟨kb, rfl, hK, hb2⟩
      clear D
      have HK2 : Hid (LkL w w2 kb [idleS, idleS]) := hK
      clear hK hb1 hb2
      go_wp2_with fail
      refine (at_any N M w2 ⟨by omega, by omega⟩).mono ?_
      rintro e w3 ⟨v3, rfl, hi, hb⟩
      have HIw3 : Hid (InNew w3 v3 (bitsF (N : Int)) [(M : Int)] ∧ Below w2.heap.size w2 w3) := ⟨hi, hb⟩
      clear hi hb
      obtain ⟨q0, d0, e0, _⟩ := (HIw3.out.1 _ (TC.refl _)).o
      obtain ⟨q1, d1, e1, _⟩ := (HIw3.out.1 _ (TC.refl _)).l
      have e0 : v3 0 = .slice q0 3 d0 := e0
      have e1 : v3 1 = .slice q1 1 d1 := e1
      rw [e0, e1]
      generalize hch : w3.alloc (.cells #[.slice q0 3 d0, .slice q1 1 d1] 35) = w4
      have HB4 : Hid (Below w3.heap.size w3 w4) := by show Below _ _ _; rw [← hch]; exact (Below.refl _ _).alloc (Nat.le_refl _) _
      have HXw4 : Hid (w4.heap[w3.heap.size]? = some (.cells #[.slice q0 3 d0, .slice q1 1 d1] 35 (0, 0))) := by show _ = _; rw [← hch]; exact blk_new _ _
      have HIw4 : Hid (InNew w4 v3 (bitsF (N : Int)) [(M : Int)]) := HIw3.out.1.step (TC.of_below HB4.out)
      have HK4 : Hid (LkL w w4 kb [idleS, idleS]) := (HK2.out.step HIw3.out.2).step HB4.out
      have D := cmd_l w w4 kb _ v3 (bitsF (N : Int)) [(M : Int)] 1 0 (HK4.out) HIw4.out (by simp) 0 [(1, 0, 0, false), idleS] (C0.out) ⟨_, _, rfl, by decide, by decide⟩
      rw [e0, e1] at D
      obtain ⟨x0, x1⟩ := cells2 HXw4.out
      go_wp2_with fail
      clear hch
      refine D.mono ?_
      rintro e w5 ⟨rfl, hk, hc⟩
      have HKw5 : Hid (LkL w w5 kb [(1, 0, 0, false), idleS]) := hk
      have HIw5 : Hid (InNew w5 v3 (bitsF (N : Int)) [(M : Int)]) := HIw4.out.step hc
      have HXw5 : Hid (w5.heap[w3.heap.size]? = some (.cells #[.slice q0 3 d0, .slice q1 1 d1] 35 (0, 0))) := hc.blk HXw4.out (by decide)
      clear D hk hc x0 x1
      have D := cmd_l w w5 kb _ v3 (bitsF (N : Int)) [(M : Int)] 1 1 (HKw5.out) HIw5.out (by simp) 0 [(1, 0, 0, false), (1, 0, 0, false)] (C1.out) ⟨_, _, rfl, by decide, by decide⟩
      rw [e0, e1] at D
      obtain ⟨x0, x1⟩ := cells2 HXw5.out
      go_wp2_with fail
      refine D.mono ?_
      rintro e w6 ⟨rfl, hk, hc⟩
      have HKw6 : Hid (LkL w w6 kb [(1, 0, 0, false), (1, 0, 0, false)]) := hk
      have HIw6 : Hid (InNew w6 v3 (bitsF (N : Int)) [(M : Int)]) := HIw5.out.step hc
      have HXw6 : Hid (w6.heap[w3.heap.size]? = some (.cells #[.slice q0 3 d0, .slice q1 1 d1] 35 (0, 0))) := hc.blk HXw5.out (by decide)
      clear D hk hc x0 x1
      have D := cmd_l w w6 kb _ v3 (bitsF (N : Int)) [(M : Int)] 1 1 (HKw6.out) HIw6.out (by simp) 7 [(1, 0, 0, false), (1, 0, 0, false)] (C2.out) ⟨_, _, rfl, by decide, by decide⟩
      rw [e0, e1] at D
      obtain ⟨x0, x1⟩ := cells2 HXw6.out
      go_wp2_with fail
      refine D.mono ?_
      rintro e w7 ⟨rfl, hk, hc⟩
      have HKw7 : Hid (LkL w w7 kb [(1, 0, 0, false), (1, 0, 0, false)]) := hk
      have HIw7 : Hid (InNew w7 v3 (bitsF (N : Int)) [(M : Int)]) := HIw6.out.step hc
      have HXw7 : Hid (w7.heap[w3.heap.size]? = some (.cells #[.slice q0 3 d0, .slice q1 1 d1] 35 (0, 0))) := hc.blk HXw6.out (by decide)
      clear D hk hc x0 x1
      have D := cmd_l w w7 kb _ v3 (bitsF (N : Int)) [(M : Int)] 3 0 (HKw7.out) HIw7.out (by simp) 1 [(1, 0, 0, false), (1, 0, 0, false)] (C3.out _) ⟨_, _, rfl, by decide, by decide⟩
      rw [e0, e1] at D
      obtain ⟨x0, x1⟩ := cells2 HXw7.out
      go_wp2_with fail
      refine D.mono ?_
      rintro e w8 ⟨rfl, hk, hc⟩
      have HKw8 : Hid (LkL w w8 kb [(1, 0, 0, false), (1, 0, 0, false)]) := hk
      have HIw8 : Hid (InNew w8 v3 (bitsF (N : Int)) [(M : Int)]) := HIw7.out.step hc
      have HXw8 : Hid (w8.heap[w3.heap.size]? = some (.cells #[.slice q0 3 d0, .slice q1 1 d1] 35 (0, 0))) := hc.blk HXw7.out (by decide)
      clear D hk hc x0 x1
      have D := cmd_l w w8 kb _ v3 (bitsF (N : Int)) [(M : Int)] 1 2 (HKw8.out) HIw8.out (by simp) 5 [(1, 0, 0, false), (1, 0, 0, false)] (C4.out _) ⟨_, _, rfl, by decide, by decide⟩
      rw [e0, e1] at D
      obtain ⟨x0, x1⟩ := cells2 HXw8.out
      go_wp2_with fail
      refine D.mono ?_
      rintro e w9 ⟨rfl, hk, hc⟩
      have HKw9 : Hid (LkL w w9 kb [(1, 0, 0, false), (1, 0, 0, false)]) := hk
      have HIw9 : Hid (InNew w9 v3 (bitsF (N : Int)) [(M : Int)]) := HIw8.out.step hc
      have HXw9 : Hid (w9.heap[w3.heap.size]? = some (.cells #[.slice q0 3 d0, .slice q1 1 d1] 35 (0, 0))) := hc.blk HXw8.out (by decide)
      clear D hk hc x0 x1
      have D := cmd_l w w9 kb _ v3 (bitsF (N : Int)) [(M : Int)] 1 (-1) (HKw9.out) HIw9.out (by simp) 5 [(1, 0, 0, false), (1, 0, 0, false)] (C5.out _) ⟨_, _, rfl, by decide, by decide⟩
      rw [e0, e1] at D
      obtain ⟨x0, x1⟩ := cells2 HXw9.out
      go_wp2_with fail
      refine D.mono ?_
      rintro e wa ⟨rfl, hk, hc⟩
      have HKwa : Hid (LkL w wa kb [(1, 0, 0, false), (1, 0, 0, false)]) := hk
      have HIwa : Hid (InNew wa v3 (bitsF (N : Int)) [(M : Int)]) := HIw9.out.step hc
      have HXwa : Hid (wa.heap[w3.heap.size]? = some (.cells #[.slice q0 3 d0, .slice q1 1 d1] 35 (0, 0))) := hc.blk HXw9.out (by decide)
      clear D hk hc x0 x1
      go_wp2_with fail
      refine (known_any _).mono ?_
      rintro e wb ⟨rfl, hbb⟩
      go_wp2
      go_ret
      exact ⟨rfl, HKwa.out.bl.trans (hbb.mono HKwa.out.bl.size)⟩
    · simp only [eq_true hp, eq_false hq, if_true, if_false] at c0 c1 c2
      rw [decide_eq_true hp] at a3
      rw [decide_eq_false hq] at a4
      have C0 : Hid (cmdL [idleS, idleS] (bitsF (N : Int)) [(M : Int)] 1 0 = (0, [(1, 0, 0, false), idleS])) := c0
      have C1 : Hid (cmdL [(1, 0, 0, false), idleS] (bitsF (N : Int)) [(M : Int)] 1 1 = (8, [(1, 0, 0, false), idleS])) := c1
      have C2 : Hid (cmdL [(1, 0, 0, false), idleS] (bitsF (N : Int)) [(M : Int)] 1 1 = (8, [(1, 0, 0, false), idleS])) := c2
      clear c0 c1 c2
      go_enter Try.func3, Try.ntmps3
      go_wp2_with fail
      refine (line_any w).mono ?_
      rintro e w1 ⟨v, a, b, c, d, e', f, rfl, hL, hF, hb1⟩
      have D := new_l w w1 v a b c d e' f hL hF hb1
      clear hL hF
      go_wp2_with fail
      refine D.mono ?_
      rintro e w2 ⟨kb, rfl, hK, hb2⟩
      clear D
      have HK2 : Hid (LkL w w2 kb [idleS, idleS]) := hK
      clear hK hb1 hb2
      go_wp2_with fail
      refine (at_any N M w2 ⟨by omega, by omega⟩).mono ?_
      rintro e w3 ⟨v3, rfl, hi, hb⟩
      have HIw3 : Hid (InNew w3 v3 (bitsF (N : Int)) [(M : Int)] ∧ Below w2.heap.size w2 w3) := ⟨hi, hb⟩
      clear hi hb
      obtain ⟨q0, d0, e0, _⟩ := (HIw3.out.1 _ (TC.refl _)).o
      obtain ⟨q1, d1, e1, _⟩ := (HIw3.out.1 _ (TC.refl _)).l
      have e0 : v3 0 = .slice q0 3 d0 := e0
      have e1 : v3 1 = .slice q1 1 d1 := e1
      rw [e0, e1]
      generalize hch : w3.alloc (.cells #[.slice q0 3 d0, .slice q1 1 d1] 35) = w4
      have HB4 : Hid (Below w3.heap.size w3 w4) := by show Below _ _ _; rw [← hch]; exact (Below.refl _ _).alloc (Nat.le_refl _) _
      have HXw4 : Hid (w4.heap[w3.heap.size]? = some (.cells #[.slice q0 3 d0, .slice q1 1 d1] 35 (0, 0))) := by show _ = _; rw [← hch]; exact blk_new _ _
      have HIw4 : Hid (InNew w4 v3 (bitsF (N : Int)) [(M : Int)]) := HIw3.out.1.step (TC.of_below HB4.out)
      have HK4 : Hid (LkL w w4 kb [idleS, idleS]) := (HK2.out.step HIw3.out.2).step HB4.out
      have D := cmd_l w w4 kb _ v3 (bitsF (N : Int)) [(M : Int)] 1 0 (HK4.out) HIw4.out (by simp) 0 [(1, 0, 0, false), idleS] (C0.out) ⟨_, _, rfl, by decide, by decide⟩
      rw [e0, e1] at D
      obtain ⟨x0, x1⟩ := cells2 HXw4.out
      go_wp2_with fail
      clear hch
      refine D.mono ?_
      rintro e w5 ⟨rfl, hk, hc⟩
      have HKw5 : Hid (LkL w w5 kb [(1, 0, 0, false), idleS]) := hk
      have HIw5 : Hid (InNew w5 v3 (bitsF (N : Int)) [(M : Int)]) := HIw4.out.step hc
      have HXw5 : Hid (w5.heap[w3.heap.size]? = some (.cells #[.slice q0 3 d0, .slice q1 1 d1] 35 (0, 0))) := hc.blk HXw4.out (by decide)
      clear D hk hc x0 x1
      have D := cmd_l w w5 kb _ v3 (bitsF (N : Int)) [(M : Int)] 1 1 (HKw5.out) HIw5.out (by simp) 8 [(1, 0, 0, false), idleS] (C1.out) ⟨_, _, rfl, by decide, by decide⟩
      rw [e0, e1] at D
      obtain ⟨x0, x1⟩ := cells2 HXw5.out
      go_wp2_with fail
      refine D.mono ?_
      rintro e w6 ⟨rfl, hk, hc⟩
      have HKw6 : Hid (LkL w w6 kb [(1, 0, 0, false), idleS]) := hk
      have HIw6 : Hid (InNew w6 v3 (bitsF (N : Int)) [(M : Int)]) := HIw5.out.step hc
      have HXw6 : Hid (w6.heap[w3.heap.size]? = some (.cells #[.slice q0 3 d0, .slice q1 1 d1] 35 (0, 0))) := hc.blk HXw5.out (by decide)
      clear D hk hc x0 x1
      have D := cmd_l w w6 kb _ v3 (bitsF (N : Int)) [(M : Int)] 1 1 (HKw6.out) HIw6.out (by simp) 8 [(1, 0, 0, false), idleS] (C2.out) ⟨_, _, rfl, by decide, by decide⟩
      rw [e0, e1] at D
      obtain ⟨x0, x1⟩ := cells2 HXw6.out
      go_wp2_with fail
      refine D.mono ?_
      rintro e w7 ⟨rfl, hk, hc⟩
      have HKw7 : Hid (LkL w w7 kb [(1, 0, 0, false), idleS]) := hk
      have HIw7 : Hid (InNew w7 v3 (bitsF (N : Int)) [(M : Int)]) := HIw6.out.step hc
      have HXw7 : Hid (w7.heap[w3.heap.size]? = some (.cells #[.slice q0 3 d0, .slice q1 1 d1] 35 (0, 0))) := hc.blk HXw6.out (by decide)
      clear D hk hc x0 x1
      have D := cmd_l w w7 kb _ v3 (bitsF (N : Int)) [(M : Int)] 3 0 (HKw7.out) HIw7.out (by simp) 1 [(1, 0, 0, false), idleS] (C3.out _) ⟨_, _, rfl, by decide, by decide⟩
      rw [e0, e1] at D
      obtain ⟨x0, x1⟩ := cells2 HXw7.out
      go_wp2_with fail
      refine D.mono ?_
      rintro e w8 ⟨rfl, hk, hc⟩
      have HKw8 : Hid (LkL w w8 kb [(1, 0, 0, false), idleS]) := hk
      have HIw8 : Hid (InNew w8 v3 (bitsF (N : Int)) [(M : Int)]) := HIw7.out.step hc
      have HXw8 : Hid (w8.heap[w3.heap.size]? = some (.cells #[.slice q0 3 d0, .slice q1 1 d1] 35 (0, 0))) := hc.blk HXw7.out (by decide)
      clear D hk hc x0 x1
      have D := cmd_l w w8 kb _ v3 (bitsF (N : Int)) [(M : Int)] 1 2 (HKw8.out) HIw8.out (by simp) 5 [(1, 0, 0, false), idleS] (C4.out _) ⟨_, _, rfl, by decide, by decide⟩
      rw [e0, e1] at D
      obtain ⟨x0, x1⟩ := cells2 HXw8.out
      go_wp2_with fail
      refine D.mono ?_
      rintro e w9 ⟨rfl, hk, hc⟩
      have HKw9 : Hid (LkL w w9 kb [(1, 0, 0, false), idleS]) := hk
      have HIw9 : Hid (InNew w9 v3 (bitsF (N : Int)) [(M : Int)]) := HIw8.out.step hc
      have HXw9 : Hid (w9.heap[w3.heap.size]? = some (.cells #[.slice q0 3 d0, .slice q1 1 d1] 35 (0, 0))) := hc.blk HXw8.out (by decide)
      clear D hk hc x0 x1
      have D := cmd_l w w9 kb _ v3 (bitsF (N : Int)) [(M : Int)] 1 (-1) (HKw9.out) HIw9.out (by simp) 5 [(1, 0, 0, false), idleS] (C5.out _) ⟨_, _, rfl, by decide, by decide⟩
      rw [e0, e1] at D
      obtain ⟨x0, x1⟩ := cells2 HXw9.out
      go_wp2_with fail
      refine D.mono ?_
      rintro e wa ⟨rfl, hk, hc⟩
      have HKwa : Hid (LkL w wa kb [(1, 0, 0, false), idleS]) := hk
      have HIwa : Hid (InNew wa v3 (bitsF (N : Int)) [(M : Int)]) := HIw9.out.step hc
      have HXwa : Hid (wa.heap[w3.heap.size]? = some (.cells #[.slice q0 3 d0, .slice q1 1 d1] 35 (0, 0))) := hc.blk HXw9.out (by decide)
      clear D hk hc x0 x1
      go_wp2_with fail
      refine (known_any _).mono ?_
      rintro e wb ⟨rfl, hbb⟩
      go_wp2
      go_ret
      exact ⟨rfl, HKwa.out.bl.trans (hbb.mono HKwa.out.bl.size)⟩
  · by_cases hq : N / 4 % 2 = 0
    · simp only [eq_false hp, eq_true hq, if_true, if_false] at c0 c1 c2
      rw [decide_eq_false hp] at a3
      rw [decide_eq_true hq] at a4
      have C0 : Hid (cmdL [idleS, idleS] (bitsF (N : Int)) [(M : Int)] 1 0 = (8, [idleS, idleS])) := c0
      have C1 : Hid (cmdL [idleS, idleS] (bitsF (N : Int)) [(M : Int)] 1 1 = (0, [idleS, (1, 0, 0, false)])) := c1
      have C2 : Hid (cmdL [idleS, (1, 0, 0, false)] (bitsF (N : Int)) [(M : Int)] 1 1 = (7, [idleS, (1, 0, 0, false)])) := c2
      clear c0 c1 c2
      go_enter Try.func3, Try.ntmps3
      go_wp2_with fail
      refine (line_any w).mono ?_
      rintro e w1 ⟨v, a, b, c, d, e', f, rfl, hL, hF, hb1⟩
      have D := new_l w w1 v a b c d e' f hL hF hb1
      clear hL hF
      go_wp2_with fail
      refine D.mono ?_
      rintro e w2 ⟨kb, rfl, hK, hb2⟩
      clear D
      have HK2 : Hid (LkL w w2 kb [idleS, idleS]) := hK
      clear hK hb1 hb2
      go_wp2_with fail
      refine (at_any N M w2 ⟨by omega, by omega⟩).mono ?_
      rintro e w3 ⟨v3, rfl, hi, hb⟩
      have HIw3 : Hid (InNew w3 v3 (bitsF (N : Int)) [(M : Int)] ∧ Below w2.heap.size w2 w3) := ⟨hi, hb⟩
      clear hi hb
      obtain ⟨q0, d0, e0, _⟩ := (HIw3.out.1 _ (TC.refl _)).o
      obtain ⟨q1, d1, e1, _⟩ := (HIw3.out.1 _ (TC.refl _)).l
      have e0 : v3 0 = .slice q0 3 d0 := e0
      have e1 : v3 1 = .slice q1 1 d1 := e1
      rw [e0, e1]
      generalize hch : w3.alloc (.cells #[.slice q0 3 d0, .slice q1 1 d1] 35) = w4
      have HB4 : Hid (Below w3.heap.size w3 w4) := by show Below _ _ _; rw [← hch]; exact (Below.refl _ _).alloc (Nat.le_refl _) _
      have HXw4 : Hid (w4.heap[w3.heap.size]? = some (.cells #[.slice q0 3 d0, .slice q1 1 d1] 35 (0, 0))) := by show _ = _; rw [← hch]; exact blk_new _ _
      have HIw4 : Hid (InNew w4 v3 (bitsF (N : Int)) [(M : Int)]) := HIw3.out.1.step (TC.of_below HB4.out)
      have HK4 : Hid (LkL w w4 kb [idleS, idleS]) := (HK2.out.step HIw3.out.2).step HB4.out
      have D := cmd_l w w4 kb _ v3 (bitsF (N : Int)) [(M : Int)] 1 0 (HK4.out) HIw4.out (by simp) 8 [idleS, idleS] (C0.out) ⟨_, _, rfl, by decide, by decide⟩
      rw [e0, e1] at D
      obtain ⟨x0, x1⟩ := cells2 HXw4.out
      go_wp2_with fail
      clear hch
      refine D.mono ?_
      rintro e w5 ⟨rfl, hk, hc⟩
      have HKw5 : Hid (LkL w w5 kb [idleS, idleS]) := hk
      have HIw5 : Hid (InNew w5 v3 (bitsF (N : Int)) [(M : Int)]) := HIw4.out.step hc
      have HXw5 : Hid (w5.heap[w3.heap.size]? = some (.cells #[.slice q0 3 d0, .slice q1 1 d1] 35 (0, 0))) := hc.blk HXw4.out (by decide)
      clear D hk hc x0 x1
      have D := cmd_l w w5 kb _ v3 (bitsF (N : Int)) [(M : Int)] 1 1 (HKw5.out) HIw5.out (by simp) 0 [idleS, (1, 0, 0, false)] (C1.out) ⟨_, _, rfl, by decide, by decide⟩
      rw [e0, e1] at D
      obtain ⟨x0, x1⟩ := cells2 HXw5.out
      go_wp2_with fail
      refine D.mono ?_
      rintro e w6 ⟨rfl, hk, hc⟩
      have HKw6 : Hid (LkL w w6 kb [idleS, (1, 0, 0, false)]) := hk
      have HIw6 : Hid (InNew w6 v3 (bitsF (N : Int)) [(M : Int)]) := HIw5.out.step hc
      have HXw6 : Hid (w6.heap[w3.heap.size]? = some (.cells #[.slice q0 3 d0, .slice q1 1 d1] 35 (0, 0))) := hc.blk HXw5.out (by decide)
      clear D hk hc x0 x1
      have D := cmd_l w w6 kb _ v3 (bitsF (N : Int)) [(M : Int)] 1 1 (HKw6.out) HIw6.out (by simp) 7 [idleS, (1, 0, 0, false)] (C2.out) ⟨_, _, rfl, by decide, by decide⟩
      rw [e0, e1] at D
      obtain ⟨x0, x1⟩ := cells2 HXw6.out
      go_wp2_with fail
      refine D.mono ?_
      rintro e w7 ⟨rfl, hk, hc⟩
      have HKw7 : Hid (LkL w w7 kb [idleS, (1, 0, 0, false)]) := hk
      have HIw7 : Hid (InNew w7 v3 (bitsF (N : Int)) [(M : Int)]) := HIw6.out.step hc
      have HXw7 : Hid (w7.heap[w3.heap.size]? = some (.cells #[.slice q0 3 d0, .slice q1 1 d1] 35 (0, 0))) := hc.blk HXw6.out (by decide)
      clear D hk hc x0 x1
      have D := cmd_l w w7 kb _ v3 (bitsF (N : Int)) [(M : Int)] 3 0 (HKw7.out) HIw7.out (by simp) 1 [idleS, (1, 0, 0, false)] (C3.out _) ⟨_, _, rfl, by decide, by decide⟩
      rw [e0, e1] at D
      obtain ⟨x0, x1⟩ := cells2 HXw7.out
      go_wp2_with fail
      refine D.mono ?_
      rintro e w8 ⟨rfl, hk, hc⟩
      have HKw8 : Hid (LkL w w8 kb [idleS, (1, 0, 0, false)]) := hk
      have HIw8 : Hid (InNew w8 v3 (bitsF (N : Int)) [(M : Int)]) := HIw7.out.step hc
      have HXw8 : Hid (w8.heap[w3.heap.size]? = some (.cells #[.slice q0 3 d0, .slice q1 1 d1] 35 (0, 0))) := hc.blk HXw7.out (by decide)
      clear D hk hc x0 x1
      have D := cmd_l w w8 kb _ v3 (bitsF (N : Int)) [(M : Int)] 1 2 (HKw8.out) HIw8.out (by simp) 5 [idleS, (1, 0, 0, false)] (C4.out _) ⟨_, _, rfl, by decide, by decide⟩
      rw [e0, e1] at D
      obtain ⟨x0, x1⟩ := cells2 HXw8.out
      go_wp2_with fail
      refine D.mono ?_
      rintro e w9 ⟨rfl, hk, hc⟩
      have HKw9 : Hid (LkL w w9 kb [idleS, (1, 0, 0, false)]) := hk
      have HIw9 : Hid (InNew w9 v3 (bitsF (N : Int)) [(M : Int)]) := HIw8.out.step hc
      have HXw9 : Hid (w9.heap[w3.heap.size]? = some (.cells #[.slice q0 3 d0, .slice q1 1 d1] 35 (0, 0))) := hc.blk HXw8.out (by decide)
      clear D hk hc x0 x1
      have D := cmd_l w w9 kb _ v3 (bitsF (N : Int)) [(M : Int)] 1 (-1) (HKw9.out) HIw9.out (by simp) 5 [idleS, (1, 0, 0, false)] (C5.out _) ⟨_, _, rfl, by decide, by decide⟩
      rw [e0, e1] at D
      obtain ⟨x0, x1⟩ := cells2 HXw9.out
      go_wp2_with fail
      refine D.mono ?_
      rintro e wa ⟨rfl, hk, hc⟩
      have HKwa : Hid (LkL w wa kb [idleS, (1, 0, 0, false)]) := hk
      have HIwa : Hid (InNew wa v3 (bitsF (N : Int)) [(M : Int)]) := HIw9.out.step hc
      have HXwa : Hid (wa.heap[w3.heap.size]? = some (.cells #[.slice q0 3 d0, .slice q1 1 d1] 35 (0, 0))) := hc.blk HXw9.out (by decide)
      clear D hk hc x0 x1
      go_wp2_with fail
      refine (known_any _).mono ?_
      rintro e wb ⟨rfl, hbb⟩
      go_wp2
      go_ret
      exact ⟨rfl, HKwa.out.bl.trans (hbb.mono HKwa.out.bl.size)⟩
    · simp only [eq_false hp, eq_false hq, if_false] at c0 c1 c2
      rw [decide_eq_false hp] at a3
      rw [decide_eq_false hq] at a4
      have C0 : Hid (cmdL [idleS, idleS] (bitsF (N : Int)) [(M : Int)] 1 0 = (8, [idleS, idleS])) := c0
      have C1 : Hid (cmdL [idleS, idleS] (bitsF (N : Int)) [(M : Int)] 1 1 = (8, [idleS, idleS])) := c1
      have C2 : Hid (cmdL [idleS, idleS] (bitsF (N : Int)) [(M : Int)] 1 1 = (8, [idleS, idleS])) := c2
      clear c0 c1 c2
      go_enter Try.func3, Try.ntmps3
      go_wp2_with fail
      refine (line_any w).mono ?_
      rintro e w1 ⟨v, a, b, c, d, e', f, rfl, hL, hF, hb1⟩
      have D := new_l w w1 v a b c d e' f hL hF hb1
      clear hL hF
      go_wp2_with fail
      refine D.mono ?_
      rintro e w2 ⟨kb, rfl, hK, hb2⟩
      clear D
      have HK2 : Hid (LkL w w2 kb [idleS, idleS]) := hK
      clear hK hb1 hb2
      go_wp2_with fail
      refine (at_any N M w2 ⟨by omega, by omega⟩).mono ?_
      rintro e w3 ⟨v3, rfl, hi, hb⟩
      have HIw3 : Hid (InNew w3 v3 (bitsF (N : Int)) [(M : Int)] ∧ Below w2.heap.size w2 w3) := ⟨hi, hb⟩
      clear hi hb
      obtain ⟨q0, d0, e0, _⟩ := (HIw3.out.1 _ (TC.refl _)).o
      obtain ⟨q1, d1, e1, _⟩ := (HIw3.out.1 _ (TC.refl _)).l
      have e0 : v3 0 = .slice q0 3 d0 := e0
      have e1 : v3 1 = .slice q1 1 d1 := e1
      rw [e0, e1]
      generalize hch : w3.alloc (.cells #[.slice q0 3 d0, .slice q1 1 d1] 35) = w4
      have HB4 : Hid (Below w3.heap.size w3 w4) := by show Below _ _ _; rw [← hch]; exact (Below.refl _ _).alloc (Nat.le_refl _) _
      have HXw4 : Hid (w4.heap[w3.heap.size]? = some (.cells #[.slice q0 3 d0, .slice q1 1 d1] 35 (0, 0))) := by show _ = _; rw [← hch]; exact blk_new _ _
      have HIw4 : Hid (InNew w4 v3 (bitsF (N : Int)) [(M : Int)]) := HIw3.out.1.step (TC.of_below HB4.out)
      have HK4 : Hid (LkL w w4 kb [idleS, idleS]) := (HK2.out.step HIw3.out.2).step HB4.out
      have D := cmd_l w w4 kb _ v3 (bitsF (N : Int)) [(M : Int)] 1 0 (HK4.out) HIw4.out (by simp) 8 [idleS, idleS] (C0.out) ⟨_, _, rfl, by decide, by decide⟩
      rw [e0, e1] at D
      obtain ⟨x0, x1⟩ := cells2 HXw4.out
      go_wp2_with fail
      clear hch
      refine D.mono ?_
      rintro e w5 ⟨rfl, hk, hc⟩
      have HKw5 : Hid (LkL w w5 kb [idleS, idleS]) := hk
      have HIw5 : Hid (InNew w5 v3 (bitsF (N : Int)) [(M : Int)]) := HIw4.out.step hc
      have HXw5 : Hid (w5.heap[w3.heap.size]? = some (.cells #[.slice q0 3 d0, .slice q1 1 d1] 35 (0, 0))) := hc.blk HXw4.out (by decide)
      clear D hk hc x0 x1
      have D := cmd_l w w5 kb _ v3 (bitsF (N : Int)) [(M : Int)] 1 1 (HKw5.out) HIw5.out (by simp) 8 [idleS, idleS] (C1.out) ⟨_, _, rfl, by decide, by decide⟩
      rw [e0, e1] at D
      obtain ⟨x0, x1⟩ := cells2 HXw5.out
      go_wp2_with fail
      refine D.mono ?_
      rintro e w6 ⟨rfl, hk, hc⟩
      have HKw6 : Hid (LkL w w6 kb [idleS, idleS]) := hk
      have HIw6 : Hid (InNew w6 v3 (bitsF (N : Int)) [(M : Int)]) := HIw5.out.step hc
      have HXw6 : Hid (w6.heap[w3.heap.size]? = some (.cells #[.slice q0 3 d0, .slice q1 1 d1] 35 (0, 0))) := hc.blk HXw5.out (by decide)
      clear D hk hc x0 x1
      have D := cmd_l w w6 kb _ v3 (bitsF (N : Int)) [(M : Int)] 1 1 (HKw6.out) HIw6.out (by simp) 8 [idleS, idleS] (C2.out) ⟨_, _, rfl, by decide, by decide⟩
      rw [e0, e1] at D
      obtain ⟨x0, x1⟩ := cells2 HXw6.out
      go_wp2_with fail
      refine D.mono ?_
      rintro e w7 ⟨rfl, hk, hc⟩
      have HKw7 : Hid (LkL w w7 kb [idleS, idleS]) := hk
      have HIw7 : Hid (InNew w7 v3 (bitsF (N : Int)) [(M : Int)]) := HIw6.out.step hc
      have HXw7 : Hid (w7.heap[w3.heap.size]? = some (.cells #[.slice q0 3 d0, .slice q1 1 d1] 35 (0, 0))) := hc.blk HXw6.out (by decide)
      clear D hk hc x0 x1
      have D := cmd_l w w7 kb _ v3 (bitsF (N : Int)) [(M : Int)] 3 0 (HKw7.out) HIw7.out (by simp) 1 [idleS, idleS] (C3.out _) ⟨_, _, rfl, by decide, by decide⟩
      rw [e0, e1] at D
      obtain ⟨x0, x1⟩ := cells2 HXw7.out
      go_wp2_with fail
      refine D.mono ?_
      rintro e w8 ⟨rfl, hk, hc⟩
      have HKw8 : Hid (LkL w w8 kb [idleS, idleS]) := hk
      have HIw8 : Hid (InNew w8 v3 (bitsF (N : Int)) [(M : Int)]) := HIw7.out.step hc
      have HXw8 : Hid (w8.heap[w3.heap.size]? = some (.cells #[.slice q0 3 d0, .slice q1 1 d1] 35 (0, 0))) := hc.blk HXw7.out (by decide)
      clear D hk hc x0 x1
      have D := cmd_l w w8 kb _ v3 (bitsF (N : Int)) [(M : Int)] 1 2 (HKw8.out) HIw8.out (by simp) 5 [idleS, idleS] (C4.out _) ⟨_, _, rfl, by decide, by decide⟩
      rw [e0, e1] at D
      obtain ⟨x0, x1⟩ := cells2 HXw8.out
      go_wp2_with fail
      refine D.mono ?_
      rintro e w9 ⟨rfl, hk, hc⟩
      have HKw9 : Hid (LkL w w9 kb [idleS, idleS]) := hk
      have HIw9 : Hid (InNew w9 v3 (bitsF (N : Int)) [(M : Int)]) := HIw8.out.step hc
      have HXw9 : Hid (w9.heap[w3.heap.size]? = some (.cells #[.slice q0 3 d0, .slice q1 1 d1] 35 (0, 0))) := hc.blk HXw8.out (by decide)
      clear D hk hc x0 x1
      have D := cmd_l w w9 kb _ v3 (bitsF (N : Int)) [(M : Int)] 1 (-1) (HKw9.out) HIw9.out (by simp) 5 [idleS, idleS] (C5.out _) ⟨_, _, rfl, by decide, by decide⟩
      rw [e0, e1] at D
      obtain ⟨x0, x1⟩ := cells2 HXw9.out
      go_wp2_with fail
      refine D.mono ?_
      rintro e wa ⟨rfl, hk, hc⟩
      have HKwa : Hid (LkL w wa kb [idleS, idleS]) := hk
      have HIwa : Hid (InNew wa v3 (bitsF (N : Int)) [(M : Int)]) := HIw9.out.step hc
      have HXwa : Hid (wa.heap[w3.heap.size]? = some (.cells #[.slice q0 3 d0, .slice q1 1 d1] 35 (0, 0))) := hc.blk HXw9.out (by decide)
      clear D hk hc x0 x1
      go_wp2_with fail
      refine (known_any _).mono ?_
      rintro e wb ⟨rfl, hbb⟩
      go_wp2
      go_ret
      exact ⟨rfl, HKwa.out.bl.trans (hbb.mono HKwa.out.bl.size)⟩

theorem own : ownKnob Try.prog.godebug = none := by kernel_rfl

set_option maxRecDepth 100000 in
theorem lifted (os : Os) (started : os.Started) (H : Type) (enc : TypeId × Value → H) :
    ReturnsInHanded {} Try.checked os 3 .any (Rows.lockCallsSpec.pre6 enc Try.prog Try.f3 Rows.lockCallsRow.domain false) (Rows.lockCallsSpec.post enc Try.prog Try.f3 false true false false) := by
  refine returnsInHanded_of_change (C := Try.checked) own started (by kernel_rfl) Try.func3
    (ChangeSpec.witness6 (enc := enc) (C := Try.checked) false ⟨#[], #[.int .i64 0, .int .i64 0], []⟩ 8 (by kernel_rfl) (by kernel_rfl) (by kernel_rfl) (by kernel_rfl)) ?_
  intro W base args ds gs before hval0 hW _ _
  have hval : ∀ (j : Nat) t v, Try.f3.params[j]? = some t → args[j]? = some v → Value.okWide Try.prog W .any base t v := hval0
  have hW' := hW
  obtain ⟨p, q, hA0, hV, rfl, _, _⟩ := hW
  have hA : DataW.TrodAll enc Try.prog W 0 (fun _ => true) true Try.f3.params.toList args.toList ds p := hA0
  rw [Try.params3] at hA hval
  obtain ⟨v0, vs0, d0, ds0, p0, q0, hargs, rfl, rfl, h0, r0⟩ := trodAll_cons hA
  obtain ⟨v1, vs1, d1, ds1, p1, q1, rfl, rfl, rfl, h1, r1⟩ := trodAll_cons r0
  obtain ⟨rfl, rfl, rfl⟩ := trodAll_nil r1
  obtain rfl : args = #[v0, v1] := by cases args; simp_all
  obtain ⟨rfl, rfl⟩ := trodVars_none hV
  obtain ⟨a0, rfl, rfl, rfl, w0⟩ := open_int Try.underlying3 (hval 0 3 v0 rfl rfl) h0
  obtain ⟨a1, rfl, rfl, rfl, w1⟩ := open_int Try.underlying3 (hval 1 3 v1 rfl rfl) h1
  clear hA0 hval0
  refine (walk a0 a1 w0 w1 W).mono fun e W' ⟨he, bel⟩ => ?_
  subst he
  exact ⟨_, rfl, _, _, _, [], _, [], hW', trodAll_mk1 (shut_bool Try.underlying4 _), (trodAll_cons_mk (shut_int Try.underlying3 w0) (trodAll_cons_mk (shut_int Try.underlying3 w1) trodAll_mk0)), rfl, bel.frame _, fun h => by cases h⟩

theorem over : Rows.lockCallsRow.holds Try.pinned (OpenSpec.ofChange Rows.lockCallsSpec) :=
  OpenClaim.holds_of_wide 3 Try.f3 rfl rfl rfl rfl rfl rfl rfl ⟨rfl, rfl, rfl, rfl, rfl⟩ rfl rfl rfl rfl rfl (by kernel_rfl) Try.func3 (by kernel_rfl)
    (of_decide_eq_true (by kernel_rfl)) (by unfold Func.isWrapper; first | (rw [if_pos (by decide +kernel)]; kernel_rfl) | (rw [if_neg (by decide +kernel)]; exact ⟨rfl, rfl⟩))
    (fun os started H enc _ => lifted os started H enc)

end Go.Proofs.Ytgacnebihkofcab.lockCalls
namespace Go.Proofs.Ytgacnebihkofcab
theorem lockCalls_holds : Rows.LockCallsSaid := lockCalls.over
#print axioms lockCalls_holds
end Go.Proofs.Ytgacnebihkofcab
