/-
  The reference's lease: an epoch, an end, whether it holds; each function by a contract over the same plain lease.
-/
import Derived.Test.YtfllogbpbldibaaLsAt
namespace Go.Proofs.Ytfllogbpbldibaa
open Go.RowKit

/-- The three cells of the reference's lease. -/
def RxRaw (W : World) (b : Nat) (on : Bool) (ep till : Int) : Prop :=
  W.heap[b]? = some (.cells #[.int .i64 ep, .int .i64 till, .bool on] 28 (0, 0))
theorem RxRaw.cells {W : World} {b : Nat} {on : Bool} {ep till : Int} (h : RxRaw W b on ep till) :
    W.cell? ⟨b, 0, none⟩ = some (.int .i64 ep) ∧ W.cell? ⟨b, 1, none⟩ = some (.int .i64 till) ∧ W.cell? ⟨b, 2, none⟩ = some (.bool on) := by
  unfold RxRaw at h
  refine ⟨?_, ?_, ?_⟩ <;> simp [World.cell?, h]
theorem RxRaw.froz {W : World} {b : Nat} {on : Bool} {ep till : Int} (h : RxRaw W b on ep till) (i : Nat) : W.frozen? ⟨b, i, none⟩ = false := froz2 h i
theorem RxRaw.p0 {W : World} {b : Nat} {on : Bool} {ep till : Int} (h : RxRaw W b on ep till) (x : Int) : RxRaw (W.setCell ⟨b, 0, none⟩ (.int .i64 x)) b on x till := by
  have := heap_put (i := 0) h (.int .i64 x); simpa [RxRaw] using this
theorem RxRaw.p1 {W : World} {b : Nat} {on : Bool} {ep till : Int} (h : RxRaw W b on ep till) (x : Int) : RxRaw (W.setCell ⟨b, 1, none⟩ (.int .i64 x)) b on ep x := by
  have := heap_put (i := 1) h (.int .i64 x); simpa [RxRaw] using this
theorem RxRaw.p2 {W : World} {b : Nat} {on : Bool} {ep till : Int} (h : RxRaw W b on ep till) (x : Bool) : RxRaw (W.setCell ⟨b, 2, none⟩ (.bool x)) b x ep till := by
  have := heap_put (i := 2) h (.bool x); simpa [RxRaw] using this
/-- The reference's lease at that block stands as the plain one. -/
def RxAt (W : World) (b : Nat) (s : Le) : Prop := RxRaw W b s.on s.epoch s.till
theorem RxAt.below {W W' : World} {b : Nat} {s : Le} (h : RxAt W b s) (hb : Below W.heap.size W W') : RxAt W' b s := blk_below hb h

set_option maxRecDepth 1000000 in
set_option maxHeartbeats 4000000 in
theorem rxGrant_any (W : World) (b : Nat) (s : Le) (ep t : Int) (h : RxAt W b s) (h0 : 0 ≤ t ∧ t ≤ 1099511627776) :
    Calls Try.prog 10 #[.pointer (some ⟨b, 0, none⟩), .int .i64 ep, .int .i64 t] W fun e w' => e = .returned (.tuple #[]) ∧ RxAt w' b (grantX ep t) ∧ Chg (is_ b) W w' := by
  obtain ⟨on, ep0, till⟩ := s
  have h' : RxRaw W b on ep0 till := h
  have HP : Hid (RxRaw (((W.setCell ⟨b, 0, none⟩ (.int .i64 ep)).setCell ⟨b, 1, none⟩ (.int .i64 (t + 8 - 3))).setCell ⟨b, 2, none⟩ (.bool true)) b true ep (t + 5) ∧ Chg (is_ b) W (((W.setCell ⟨b, 0, none⟩ (.int .i64 ep)).setCell ⟨b, 1, none⟩ (.int .i64 (t + 8 - 3))).setCell ⟨b, 2, none⟩ (.bool true))) := by
    have e : t + 8 - 3 = t + 5 := by omega
    refine ⟨?_, (((Chg.refl _ _).put _ _).put _ _).put _ _⟩
    rw [e]
    exact ((h'.p0 ep).p1 (t + 5)).p2 true
  obtain ⟨c0, c1, c2⟩ := h'.cells
  have f0 := h'.froz 0
  have f1 := h'.froz 1
  have f2 := h'.froz 2
  obtain ⟨h1, h2⟩ := h0
  clear h h'
  go_enter Try.func10, Try.ntmps10
  go_wp2
  go_end0
  exact ⟨rfl, HP.out⟩

set_option maxRecDepth 1000000 in
set_option maxHeartbeats 4000000 in
theorem rxLive_any (W : World) (b : Nat) (s : Le) (t : Int) (h : RxAt W b s) :
    Calls Try.prog 15 #[.pointer (some ⟨b, 0, none⟩), .int .i64 t] W fun e w' => e = .returned (.bool (liveX s t)) ∧ w' = W := by
  obtain ⟨on, ep, till⟩ := s
  obtain ⟨c0, c1, c2⟩ := RxRaw.cells h
  clear h
  rw [liveX]
  dsimp only at *
  cases on
  all_goals
    go_enter Try.func15, Try.ntmps15
    go_wp2
    go_ret
    refine ⟨fret_bool ?_, rfl⟩
    first | rfl | (rw [Bool.eq_iff_iff]; simp)

set_option maxRecDepth 1000000 in
set_option maxHeartbeats 4000000 in
theorem rxDrop_any (W : World) (b : Nat) (s : Le) (h : RxAt W b s) :
    Calls Try.prog 12 #[.pointer (some ⟨b, 0, none⟩)] W fun e w' => e = .returned (.tuple #[]) ∧ RxAt w' b (dropX s) ∧ Chg (is_ b) W w' := by
  obtain ⟨on, ep, till⟩ := s
  have h' : RxRaw W b on ep till := h
  have HP : Hid (RxRaw (W.setCell ⟨b, 2, none⟩ (.bool false)) b false ep till ∧ Chg (is_ b) W (W.setCell ⟨b, 2, none⟩ (.bool false))) := ⟨h'.p2 false, (Chg.refl _ _).put _ _⟩
  obtain ⟨c0, c1, c2⟩ := h'.cells
  have f2 := h'.froz 2
  clear h h'
  go_enter Try.func12, Try.ntmps12
  go_wp2
  go_end0
  exact ⟨rfl, HP.out⟩
end Go.Proofs.Ytfllogbpbldibaa
