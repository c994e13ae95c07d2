/-
  wire's reader: take and number, each by a contract.
-/
import Derived.Test.YtfcoanlegjddpabWrNum
import Derived.Test.YtfcoanlegjddpabWrSlice
import Derived.Deep.LoopGhost
namespace Go.Proofs.Ytfcoanlegjddpab
open Go.RowKit

/-- A reader of the call's own: what is left. -/
def RdAt (w : World) (r : Nat) (p : List (BitVec 8)) : Prop := ∃ oa cap, w.heap[r]? = some (.cells #[.slice oa p.length cap] 76 (0, 0)) ∧ hasBytes w oa p ∧ p.length ≤ cap ∧ (∀ g, oa = some g → g.block < r)
/-- Only the reader has turned. -/
structure Rd1 (r : Nat) (w w' : World) : Prop where
  os : w'.os = w.os
  tape : w'.tape = w.tape
  output : w'.output = w.output
  size : w'.heap.size = w.heap.size
  block : ∀ k, k ≠ r → w'.heap[k]? = w.heap[k]?
theorem Rd1.refl (r : Nat) (w : World) : Rd1 r w w := ⟨rfl, rfl, rfl, rfl, fun _ _ => rfl⟩
theorem Rd1.trans {r : Nat} {w w' w'' : World} (h : Rd1 r w w') (k : Rd1 r w' w'') : Rd1 r w w'' :=
  ⟨k.os.trans h.os, k.tape.trans h.tape, k.output.trans h.output, k.size.trans h.size, fun i hi => (k.block i hi).trans (h.block i hi)⟩
theorem Rd1.set {r : Nat} {w : World} (v : Value) : Rd1 r w (w.setCell ⟨r, 0, none⟩ v) :=
  ⟨rfl, rfl, rfl, by simp [World.setCell], fun k hk => Below.heap_setCell _ _ _ _ (fun e => hk e)⟩
theorem Rd1.cell {r : Nat} {w w' : World} (h : Rd1 r w w') {p : Addr} (hp : p.block ≠ r) : w'.cell? p = w.cell? p := by
  unfold World.cell?
  rw [h.block _ hp]
theorem Rd1.below {r B : Nat} {w w' : World} (h : Rd1 r w w') (hr : B ≤ r) : Below B w w' :=
  ⟨h.os, h.tape, h.output, Nat.le_of_eq h.size.symm, fun k hk => h.block k (by omega)⟩
theorem Rd1.bytes {r : Nat} {w w' : World} (h : Rd1 r w w') {oa : Option Addr} {p : List (BitVec 8)} (hb : hasBytes w oa p) (hr : ∀ g, oa = some g → g.block < r) : hasBytes w' oa p := fun j x hj => by
  obtain ⟨b, off, rfl, hc⟩ := hb j x hj
  exact ⟨b, off, rfl, (h.cell (p := ⟨b, off + j, none⟩) (Nat.ne_of_lt (hr ⟨b, off, none⟩ rfl))).trans hc⟩
/-- A slice that is the head or the tail of another one lies in its block. -/
theorem rd_heap {w : World} {r : Nat} {v : Value} {t : TypeId} (h : w.heap[r]? = some (.cells #[v] t (0, 0))) (u : Value) : (w.setCell ⟨r, 0, none⟩ u).heap[r]? = some (.cells #[u] t (0, 0)) := by
  simp [World.setCell, Array.getElem?_modify, h]

set_option maxRecDepth 1000000 in
set_option maxHeartbeats 1000000 in
theorem take_any (r size : Nat) (p : List (BitVec 8)) (w : World) (h : RdAt w r p) :
    Calls Try.prog 34 #[.pointer (some ⟨r, 0, none⟩), .int .i64 (size : Int)] w fun e w' => ∃ oa cap, e = .returned (.slice oa (p.take size).length cap) ∧ hasBytes w' oa (p.take size) ∧ (∀ g, oa = some g → g.block < r) ∧ RdAt w' r (p.drop size) ∧ Rd1 r w w' := by
  obtain ⟨oa, cap, hr, hb, hc, ho⟩ := h
  have hcell : w.cell? ⟨r, 0, none⟩ = some (.slice oa p.length cap) := by simp [World.cell?, hr]
  have hfz : w.frozen? ⟨r, 0, none⟩ = false := by simp [World.frozen?, hr]
  have HR : Hid (w.heap[r]? = some (.cells #[.slice oa p.length cap] 76 (0, 0)) ∧ hasBytes w oa p ∧ ∀ g, oa = some g → g.block < r) := ⟨hr, hb, ho⟩
  clear hr hb ho
  obtain ⟨s, hsz⟩ : ∃ s : Nat, s = min size p.length := ⟨_, rfl⟩
  have hmin : min (size : Int) (p.length : Int) = (s : Int) := by omega
  have HT : Hid (p.take size = p.take s ∧ p.drop size = p.drop s ∧ (p.take s).length = s ∧ (p.drop s).length = p.length - s) := by
    refine ⟨?_, ?_, by rw [List.length_take]; omega, List.length_drop⟩
    · rw [hsz, List.take_eq_take_iff]; omega
    · by_cases hlt : size ≤ p.length
      · rw [hsz, Nat.min_eq_left hlt]
      · rw [hsz, Nat.min_eq_right (by omega), List.drop_eq_nil_of_le (by omega), List.drop_eq_nil_of_le (Nat.le_refl _)]
  have hsn : s ≤ p.length := by omega
  clear hsz
  obtain ⟨o1, r1, k1, b1⟩ := slice_h oa p.length cap s (by omega)
  obtain ⟨o2, r2, k2, b2⟩ := slice_l oa p.length cap s hsn hc
  have HK : Hid ((∀ w p, hasBytes w oa p → hasBytes w o1 (p.take s)) ∧ (∀ g, o1 = some g → g.block < r) ∧ (∀ w q, hasBytes w oa q → q.length = p.length → hasBytes w o2 (q.drop s)) ∧ (∀ g, o2 = some g → g.block < r)) := ⟨k1, b1 (· < r) HR.out.2.2, k2, b2 (· < r) HR.out.2.2⟩
  clear k1 b1 k2 b2
  go_enter Try.func34, Try.ntmps34
  go_wp2
  go_ret
  obtain ⟨t1, t2, t3, t4⟩ := HT.out
  rw [t1, t2, t3]
  have hrd := Rd1.set (r := r) (w := w) (.slice o2 (p.length - s) (cap - s))
  refine ⟨o1, cap, rfl, hrd.bytes (HK.out.1 w p HR.out.2.1) HK.out.2.1, HK.out.2.1, ⟨o2, cap - s, ?_, hrd.bytes (HK.out.2.2.1 w p HR.out.2.1 rfl) HK.out.2.2.2, by rw [t4]; omega, HK.out.2.2.2⟩, hrd⟩
  rw [t4]
  exact rd_heap HR.out.1 _

set_option maxRecDepth 1000000 in
set_option maxHeartbeats 1000000 in
theorem number_any (r size : Nat) (p : List (BitVec 8)) (w : World) (h : RdAt w r p) (hs : size ≤ 8) :
    Calls Try.prog 35 #[.pointer (some ⟨r, 0, none⟩), .int .i64 (size : Int)] w fun e w' => e = .returned (.int .u64 (numV (p.take size) : Int)) ∧ RdAt w' r (p.drop size) ∧ Rd1 r w w' := by
  have HR : Hid (RdAt w r p) := h
  clear h
  have hn8 : (p.take size).length ≤ 8 := by rw [List.length_take]; omega
  obtain ⟨q, hq⟩ : ∃ q, q = p.take size := ⟨_, rfl⟩
  have HQ : Hid (p.take size = q) := hq.symm
  rw [← hq] at hn8 ⊢
  clear hq
  go_enter Try.func35, Try.ntmps35
  go_wp2_with fail
  refine (take_any r size p w HR.out).mono ?_
  rw [HQ.out]
  rintro e w1 ⟨oa, cap, rfl, h1, _, h2, h3⟩
  have HB : Hid (hasBytes w1 oa q ∧ RdAt w1 r (p.drop size) ∧ Rd1 r w w1) := ⟨h1, h2, h3⟩
  clear h1 h2 h3
  go_wp2
  go_loopg [5, 12] q.length (fun gk x i wr => ∃ k : Nat, gk = q.length - k ∧ i = .int .i64 k ∧ k ≤ q.length ∧ x = .int .u64 (numV (q.take k) : Int) ∧ wr = w1)
  case atStart => exact ⟨0, rfl, rfl, by omega, rfl, rfl⟩
  case round =>
    obtain ⟨k, rfl, rfl, hk, rfl, rfl⟩ := hrel
    by_cases hlt : k < q.length
    · have hki : (k : Int) < (q.length : Int) := by omega
      obtain ⟨x, hx⟩ : ∃ x, q[k]? = some x := ⟨q[k], List.getElem?_eq_getElem hlt⟩
      obtain ⟨b, off, rfl, hc⟩ := HB.out.1 k x hx
      have HN : Hid (numV (q.take (k + 1)) = numV (q.take k) * 256 + x.toNat) := by
        show _ = _
        rw [List.take_add_one, hx]
        exact num_snoc _ _
      have hlt2 := num_lt (q.take k)
      have hp7 : 256 ^ (q.take k).length ≤ 256 ^ 7 := Nat.pow_le_pow_right (by decide) (by rw [List.length_take]; omega)
      have hb72 : numV (q.take k) < 72057594037927936 := by omega
      clear hlt2 hp7 hx
      generalize numV (q.take k) = y at *
      have hux : u8 x = (x.toNat : Int) := rfl
      have hx8 := x.isLt
      rw [hux] at hc
      clear hux
      generalize x.toNat = z at *
      go_wp2
      go_roundg (q.length - (k + 1))
      case rel => exact ⟨k + 1, rfl, by go_num, by omega, by rw [HN.out]; go_num, rfl⟩
      case measure => omega
    · have hkq : k = q.length := by omega
      subst hkq
      have HT : Hid (q.take q.length = q) := List.take_length
      rw [HT.out]
      go_wp2
      go_ret
      exact ⟨rfl, HB.out.2.1, HB.out.2.2⟩
end Go.Proofs.Ytfcoanlegjddpab
