/-
  slices.Chunk of numbers, in fours: the function that it hands back, round by round.
-/
import Derived.Test.YtelmjkjbbbgmpaaFlBase
import Derived.RangeFuncNested
import Derived.RangeFuncBound
import Derived.RangeFuncCalls
import Derived.RangeFuncLeaves
import Derived.RangeFuncBox
import Derived.Shelf.Abstract
import Derived.OwnWalkIn
import Derived.TacticsInMore
import Derived.LoopNIn
import Derived.LoopIn
import Derived.Laws.Cover1
namespace Go.Proofs.Ytelmjkjbbbgmpaa
open Go.RowKit Go.Shelf

attribute [local go_sem] Oper.semAt_some

/-- The rounds' numbers. -/
abbrev Rd (m : Nat) := { j : Nat // j < m }
def uptoR (m : Nat) : (k : Nat) → k ≤ m → List (Rd m)
  | 0, _ => []
  | k + 1, h => uptoR m k (by omega) ++ [⟨k, by omega⟩]
theorem uptoR_len (m : Nat) : ∀ (k : Nat) (h : k ≤ m), (uptoR m k h).length = k
  | 0, _ => rfl
  | k + 1, h => by rw [uptoR, List.length_append, uptoR_len m k]; rfl

set_option maxRecDepth 1000000 in
set_option maxHeartbeats 4000000 in
theorem chunk1_in (n : Nat) (hn : 1 ≤ n) (l Bs Bn b off m cap : Nat) (hm : m ≤ 1000) (hcap : 4 * m ≤ cap) (J Jx : List (Rd m) → World → Prop)
    (hY : ∀ pre x W, J pre W → pre.length < m → YieldAt Fence.wide (n - 1) Try.prog l #[.slice (some ⟨b, off + 4 * x.1, none⟩) 4 4] W fun e W' =>
      (e = .returned (.bool true) ∧ J (pre ++ [x]) W' ∧ (W'.heap[Bs]? = W.heap[Bs]? ∧ W'.heap[Bn]? = W.heap[Bn]?)) ∨ (e = .returned (.bool false) ∧ Jx (pre ++ [x]) W'))
    (W : World) (hBs : Boxed W Bs 23 (.slice (some ⟨b, off, none⟩) (4 * m) cap)) (hBn : Boxed W Bn 3 (.int .i64 4)) (hJd : ∀ pre W j, J pre W → J pre (W.drewN j)) (h0 : J [] W) :
    CallsIn Fence.wide n Try.prog 43 #[.func (.yield l) #[] #[], .pointer (some ⟨Bs, 0, none⟩), .pointer (some ⟨Bn, 0, none⟩)] W fun e W' => (∃ v, e = .returned v) ∧
      ((∃ ys, ys = uptoR m m (Nat.le_refl _) ∧ J ys W') ∨ (∃ pre, (∃ k, ∃ h : k ≤ m, pre = uptoR m k h) ∧ Jx pre W')) := by
  refine callsIn_of_wp Try.func43 rfl trivial ?_ rfl
  simp only [Try.ntmps43, List.size_toArray, List.length_cons, List.length_nil, Nat.reduceAdd, Nat.reduceSub, Array.replicate_succ, Array.replicate_zero, List.push_toArray, List.append_toArray, List.nil_append, List.cons_append]
  gi_wp2
  gi_loopw [4] (fun i wr => ∃ k q : Nat, ∃ h : k ≤ m, i = .int .i64 (q : Int) ∧ q = 4 * k ∧ J (uptoR m k h) wr ∧ Boxed wr Bs 23 (.slice (some ⟨b, off, none⟩) (4 * m) cap) ∧ Boxed wr Bn 3 (.int .i64 4))
    (fun i _ => 4 * m - (intOf i).toNat)
  case atStart => exact ⟨0, 0, Nat.zero_le _, rfl, rfl, h0, hBs, hBn⟩
  case round =>
    obtain ⟨k, q, h, rfl, hq, hJs, h1, h2⟩ := hrel
    have c1 := h1.cell
    have c2 := h2.cell
    have HQ : Hid (q = 4 * k) := hq
    by_cases hlt : k < m
    · have hqi : (q : Int) < 4 * (m : Int) := by omega
      have hcm : (q : Int) ≤ (cap : Int) := by omega
      have hmin : ∀ (W : World) (ts : Array TypeId) (t : TypeId), (Builtin.min_ ts t #[.int .i64 4, .int .i64 ((4 * m - q : Nat) : Int)]).run Try.prog W = .ok (.int .i64 4) W := fun W ts t => by
        rw [run_min_int2, if_neg (by omega)]
      have hq4 : (q : Int) + 4 ≤ (cap : Int) := by omega
      have HJ : Hid (∀ j, J (uptoR m k h) (wr.drewN j) ∧ Boxed (wr.drewN j) Bs 23 (.slice (some ⟨b, off, none⟩) (4 * m) cap) ∧ Boxed (wr.drewN j) Bn 3 (.int .i64 4)) := fun j =>
        have hbd : Below wr.heap.size wr (wr.drewN j) := _root_.Go.below_drewN (Below.refl _ wr) j
        ⟨hJd _ _ j hJs, blk_below hbd h1, blk_below hbd h2⟩
      have HQ3 : Hid (q + 4 ≤ 4 * m ∧ 4 * m ≤ cap) := ⟨by omega, hcap⟩
      clear hq hJs h1 h2
      gi_wp2
      refine wpIn_wide.2 ?_
      go_quiet (fail)
      obtain ⟨j1, j2, j3⟩ := HJ.out nq
      have c3 := j2.cell
      have c4 := j3.cell
      obtain ⟨fn, tmps, assign, body, hy, hR⟩ := hY _ ⟨k, hlt⟩ _ j1 (by rw [uptoR_len]; exact hlt)
      rw [show 4 * k = q from HQ.out.symm] at hy
      generalize wr.drewN nq = wd at *
      gi_wp2
      refine hR.mono ?_
      rintro e W3 (⟨rfl, hJ3, hk3⟩ | ⟨rfl, hJx3⟩)
      · have b1 : Boxed W3 Bs 23 (.slice (some ⟨b, off, none⟩) (4 * m) cap) := hk3.1.trans j2
        have b2 : Boxed W3 Bn 3 (.int .i64 4) := hk3.2.trans j3
        have c5 := b2.cell
        clear hY hy hR c1 c2 c3 c4 hk3
        gi_wp2
        go_roundw
        case rel => exact ⟨k + 1, q + 4, by omega, by go_num, by have := HQ.out; omega, hJ3, b1, b2⟩
        case measure => have := HQ3.out; simp [intOf]; omega
      · clear hY hy hR
        gi_wp2
        refine bodyPost_ret (results_none rfl _ _ _) rfl ?_
        exact ⟨⟨_, rfl⟩, .inr ⟨_, ⟨k + 1, by omega, rfl⟩, hJx3⟩⟩
    · obtain rfl : k = m := by omega
      have hqi : ¬ (q : Int) < 4 * (k : Int) := by omega
      clear hq
      gi_wp2
      go_end0
      exact ⟨⟨_, rfl⟩, .inl (by first | exact ⟨_, rfl, hJs⟩ | exact hJs)⟩

set_option maxRecDepth 1000000 in
set_option maxHeartbeats 1000000 in
/-- Of none: no round. -/
theorem chunk0_in (n : Nat) (l Bs Bn : Nat) (o : Option Addr) (cap : Nat) (J : List (Rd 0) → World → Prop) (W : World) (hBs : Boxed W Bs 23 (.slice o 0 cap)) (h0 : J [] W) :
    CallsIn Fence.wide n Try.prog 43 #[.func (.yield l) #[] #[], .pointer (some ⟨Bs, 0, none⟩), .pointer (some ⟨Bn, 0, none⟩)] W fun e W' => (∃ v, e = .returned v) ∧ J [] W' := by
  refine callsIn_of_wp Try.func43 rfl trivial ?_ rfl
  simp only [Try.ntmps43, List.size_toArray, List.length_cons, List.length_nil, Nat.reduceAdd, Nat.reduceSub, Array.replicate_succ, Array.replicate_zero, List.push_toArray, List.append_toArray, List.nil_append, List.cons_append]
  gi_wp2
  gi_loopw [4] (fun i wr => i = .int .i64 0 ∧ J [] wr ∧ Boxed wr Bs 23 (.slice o 0 cap)) (fun _ _ => 0)
  case atStart => exact ⟨rfl, h0, hBs⟩
  case round =>
    obtain ⟨rfl, hJs, hb⟩ := hrel
    have c1 := hb.cell
    gi_wp2
    go_end0
    exact ⟨⟨_, rfl⟩, hJs⟩

set_option maxRecDepth 1000000 in
set_option maxHeartbeats 1000000 in
/-- Chunk itself: the slice and the number are boxed. -/
theorem chunk_in (n : Nat) (o : Option Addr) (k c : Nat) (w : World) :
    CallsIn Fence.wide n Try.prog 31 #[.slice o k c, .int .i64 4] w fun e w' => e = .returned (.func (.func 43) #[] #[.pointer (some ⟨w.heap.size, 0, none⟩), .pointer (some ⟨w.heap.size + 1, 0, none⟩)]) ∧ w' = (w.alloc (.cells #[.slice o k c] 23)).alloc (.cells #[.int .i64 4] 3) := by
  refine callsIn_of_wp Try.func31 rfl trivial ?_ rfl
  simp only [Try.ntmps31, List.size_toArray, List.length_cons, List.length_nil, Nat.reduceAdd, Nat.reduceSub, Array.replicate_succ, Array.replicate_zero, List.push_toArray, List.append_toArray, List.nil_append, List.cons_append]
  gi_wp2
  go_ret
  exact ⟨rfl, rfl⟩

/-- What Chunk hands back: all rounds, or the first of them. -/
theorem chunk_stops (n : Nat) (hn : 1 ≤ n) (Bs Bn b off m cap : Nat) (hm : m ≤ 1000) (hcap : 4 * m ≤ cap) (w : World) (hBs : Boxed w Bs 23 (.slice (some ⟨b, off, none⟩) (4 * m) cap)) (hBn : Boxed w Bn 3 (.int .i64 4)) :
    SeqStopsK Fence.wide n Try.prog 43 #[.pointer (some ⟨Bs, 0, none⟩), .pointer (some ⟨Bn, 0, none⟩)] (fun x : Rd m => #[.slice (some ⟨b, off + 4 * x.1, none⟩) 4 4]) (fun W W' => W'.heap[Bs]? = W.heap[Bs]? ∧ W'.heap[Bn]? = W.heap[Bn]?)
      (fun ys => ys = uptoR m m (Nat.le_refl _)) (fun pre => ∃ k, ∃ h : k ≤ m, pre = uptoR m k h) m w := fun l J Jx W hW hJ _ hY h0 =>
  chunk1_in n hn l Bs Bn b off m cap hm hcap J Jx hY W (blk_below hW hBs) (blk_below hW hBn) (fun pre W1 j h => hJ pre W1 _ none h (grown_of_below (_root_.Go.below_drewN (Below.refl _ W1) j)) (fun r e => by cases e)) h0
theorem chunk_stops0 (n : Nat) (Bs Bn : Nat) (o : Option Addr) (cap : Nat) (w : World) (hBs : Boxed w Bs 23 (.slice o 0 cap)) :
    SeqStopsK Fence.wide n Try.prog 43 #[.pointer (some ⟨Bs, 0, none⟩), .pointer (some ⟨Bn, 0, none⟩)] (fun x : Rd 0 => #[.slice (some ⟨0, 0 + 4 * x.1, none⟩) 4 4]) (fun W W' => W'.heap[Bs]? = W.heap[Bs]? ∧ W'.heap[Bn]? = W.heap[Bn]?)
      (fun ys => ys = uptoR 0 0 (Nat.le_refl _)) (fun pre => ∃ k, ∃ h : k ≤ 0, pre = uptoR 0 k h) 0 w := fun l J _ W hW _ _ _ h0 =>
  (chunk0_in n l Bs Bn o cap J W (blk_below hW hBs) h0).mono fun _ _ ⟨he, hj⟩ => ⟨he, .inl ⟨_, rfl, hj⟩⟩
end Go.Proofs.Ytelmjkjbbbgmpaa
