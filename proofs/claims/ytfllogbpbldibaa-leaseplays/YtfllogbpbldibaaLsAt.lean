/-
  Package lease: a lease, plain; a lease of the call's own: its three cells, each function by a contract; what is known of the law's lease.
-/
import Derived.Test.YtfllogbpbldibaaFlBase
namespace Go.Proofs.Ytfllogbpbldibaa
open Go.RowKit

/-- A lease: whether it was granted and not dropped since, its epoch, its end. -/
structure Le where
  on : Bool
  epoch : Int
  till : Int
def newX : Le := ⟨false, 0, 0⟩
def grantX (e t : Int) : Le := ⟨true, e, t + 5⟩
def dropX (s : Le) : Le := ⟨false, s.epoch, s.till⟩
def liveX (s : Le) (t : Int) : Bool := s.on && decide (t < s.till)
theorem live_yes {e t u : Int} (h : u < t + 5) : liveX (grantX e t) u = true := by
  show (true && decide (u < t + 5)) = true
  rw [decide_eq_true h]
  rfl
theorem live_no {e t u : Int} (h : t + 5 ≤ u) : liveX (grantX e t) u = false := by
  show (true && decide (u < t + 5)) = false
  rw [decide_eq_false (by omega)]
  rfl
theorem live_drop (s : Le) (u : Int) : liveX (dropX s) u = false := rfl
def is_ (b : Nat) (k : Nat) : Prop := k = b
theorem Chg.put {W W' : World} {b : Nat} (h : Chg (is_ b) W W') (i : Nat) (u : Value) : Chg (is_ b) W (W'.setCell ⟨b, i, none⟩ u) := by
  refine h.trans ⟨rfl, rfl, rfl, by simp [World.setCell], fun k hk hn => ?_⟩
  have hne : b ≠ k := fun e => hn e.symm
  simp [World.setCell, Array.getElem?_modify, hne]

/-- The three cells of a lease. -/
def LsRaw (W : World) (b : Nat) (on : Bool) (ep till : Int) : Prop :=
  W.heap[b]? = some (.cells #[.bool on, .int .i64 ep, .int .i64 till] 41 (0, 0))
theorem LsRaw.cells {W : World} {b : Nat} {on : Bool} {ep till : Int} (h : LsRaw W b on ep till) :
    W.cell? ⟨b, 0, none⟩ = some (.bool on) ∧ W.cell? ⟨b, 1, none⟩ = some (.int .i64 ep) ∧ W.cell? ⟨b, 2, none⟩ = some (.int .i64 till) := by
  unfold LsRaw at h
  refine ⟨?_, ?_, ?_⟩ <;> simp [World.cell?, h]
theorem LsRaw.froz {W : World} {b : Nat} {on : Bool} {ep till : Int} (h : LsRaw W b on ep till) (i : Nat) : W.frozen? ⟨b, i, none⟩ = false := froz2 h i
theorem LsRaw.p0 {W : World} {b : Nat} {on : Bool} {ep till : Int} (h : LsRaw W b on ep till) (x : Bool) : LsRaw (W.setCell ⟨b, 0, none⟩ (.bool x)) b x ep till := by
  have := heap_put (i := 0) h (.bool x); simpa [LsRaw] using this
theorem LsRaw.p1 {W : World} {b : Nat} {on : Bool} {ep till : Int} (h : LsRaw W b on ep till) (x : Int) : LsRaw (W.setCell ⟨b, 1, none⟩ (.int .i64 x)) b on x till := by
  have := heap_put (i := 1) h (.int .i64 x); simpa [LsRaw] using this
theorem LsRaw.p2 {W : World} {b : Nat} {on : Bool} {ep till : Int} (h : LsRaw W b on ep till) (x : Int) : LsRaw (W.setCell ⟨b, 2, none⟩ (.int .i64 x)) b on ep x := by
  have := heap_put (i := 2) h (.int .i64 x); simpa [LsRaw] using this
/-- The lease at that block stands as the plain one. -/
def LsAt (W : World) (b : Nat) (s : Le) : Prop := LsRaw W b s.on s.epoch s.till
theorem LsAt.below {W W' : World} {b : Nat} {s : Le} (h : LsAt W b s) (hb : Below W.heap.size W W') : LsAt W' b s := blk_below hb h

set_option maxRecDepth 1000000 in
set_option maxHeartbeats 4000000 in
theorem lsNew_any (W : World) : Calls Try.prog 8 #[] W fun e w' => e = .returned (.pointer (some ⟨W.heap.size, 0, none⟩)) ∧ LsAt w' W.heap.size newX ∧ Below W.heap.size W w' := by
  go_enter Try.func8, Try.ntmps8
  go_wp2
  go_ret
  exact ⟨rfl, blk_new _ _, (Below.refl _ _).alloc (Nat.le_refl _) _⟩

set_option maxRecDepth 1000000 in
set_option maxHeartbeats 4000000 in
theorem lsGrant_any (W : World) (b : Nat) (s : Le) (ep t : Int) (h : LsAt W b s) (h0 : 0 ≤ t ∧ t ≤ 1099511627776) :
    Calls Try.prog 9 #[.pointer (some ⟨b, 0, none⟩), .int .i64 ep, .int .i64 t] W fun e w' => e = .returned (.tuple #[]) ∧ LsAt w' b (grantX ep t) ∧ Chg (is_ b) W w' := by
  obtain ⟨on, ep0, till⟩ := s
  have h' : LsRaw W b on ep0 till := h
  have HP : Hid (LsRaw (((W.setCell ⟨b, 0, none⟩ (.bool true)).setCell ⟨b, 1, none⟩ (.int .i64 ep)).setCell ⟨b, 2, none⟩ (.int .i64 (t + 5))) b true ep (t + 5) ∧ Chg (is_ b) W (((W.setCell ⟨b, 0, none⟩ (.bool true)).setCell ⟨b, 1, none⟩ (.int .i64 ep)).setCell ⟨b, 2, none⟩ (.int .i64 (t + 5)))) := ⟨((h'.p0 true).p1 ep).p2 (t + 5), (((Chg.refl _ _).put _ _).put _ _).put _ _⟩
  obtain ⟨c0, c1, c2⟩ := h'.cells
  have f0 := h'.froz 0
  have f1 := h'.froz 1
  have f2 := h'.froz 2
  obtain ⟨h1, h2⟩ := h0
  clear h h'
  go_enter Try.func9, Try.ntmps9
  go_wp2
  go_end0
  exact ⟨rfl, HP.out⟩

set_option maxRecDepth 1000000 in
set_option maxHeartbeats 4000000 in
theorem lsLive_any (W : World) (b : Nat) (s : Le) (t : Int) (h : LsAt W b s) :
    Calls Try.prog 14 #[.pointer (some ⟨b, 0, none⟩), .int .i64 t] W fun e w' => e = .returned (.bool (liveX s t)) ∧ w' = W := by
  obtain ⟨on, ep, till⟩ := s
  obtain ⟨c0, c1, c2⟩ := LsRaw.cells h
  clear h
  rw [liveX]
  dsimp only at *
  cases on
  all_goals
    go_enter Try.func14, Try.ntmps14
    go_wp2
    go_ret
    refine ⟨fret_bool ?_, rfl⟩
    first | rfl | (rw [Bool.eq_iff_iff]; simp)

set_option maxRecDepth 1000000 in
set_option maxHeartbeats 4000000 in
theorem lsEpoch_any (W : World) (b : Nat) (s : Le) (h : LsAt W b s) :
    Calls Try.prog 13 #[.pointer (some ⟨b, 0, none⟩)] W fun e w' => e = .returned (.int .i64 s.epoch) ∧ w' = W := by
  obtain ⟨on, ep, till⟩ := s
  obtain ⟨c0, c1, c2⟩ := LsRaw.cells h
  clear h
  dsimp only at *
  go_enter Try.func13, Try.ntmps13
  go_wp2
  go_ret
  exact ⟨rfl, rfl⟩

set_option maxRecDepth 1000000 in
set_option maxHeartbeats 4000000 in
theorem lsDrop_any (W : World) (b : Nat) (s : Le) (h : LsAt W b s) :
    Calls Try.prog 11 #[.pointer (some ⟨b, 0, none⟩)] W fun e w' => e = .returned (.tuple #[]) ∧ LsAt w' b (dropX s) ∧ Chg (is_ b) W w' := by
  obtain ⟨on, ep, till⟩ := s
  have h' : LsRaw W b on ep till := h
  have HP : Hid (LsRaw (W.setCell ⟨b, 0, none⟩ (.bool false)) b false ep till ∧ Chg (is_ b) W (W.setCell ⟨b, 0, none⟩ (.bool false))) := ⟨h'.p0 false, (Chg.refl _ _).put _ _⟩
  obtain ⟨c0, -, -⟩ := h'.cells
  have f0 := h'.froz 0
  clear h h'
  go_enter Try.func11, Try.ntmps11
  go_wp2
  go_end0
  exact ⟨rfl, HP.out⟩

/-- A lease that the law made, behind all that was there. -/
structure LsL (w0 W : World) (b : Nat) (s : Le) : Prop where
  at_ : LsAt W b s
  ge : w0.heap.size ≤ b
  bl : Below w0.heap.size w0 W
theorem LsL.below {w0 W W' : World} {b : Nat} {s : Le} (h : LsL w0 W b s) (hb : Below W.heap.size W W') : LsL w0 W' b s := ⟨h.at_.below hb, h.ge, h.bl.trans (hb.mono h.bl.size)⟩
theorem LsL.of {w0 W W' : World} {b : Nat} {s s' : Le} (h : LsL w0 W b s) (ha : LsAt W' b s') (hc : Chg (is_ b) W W') : LsL w0 W' b s' := ⟨ha, h.ge, h.bl.trans (hc.below (fun k hk => by have := h.ge; rw [hk]; exact this) h.bl.size)⟩
theorem new_l (w0 W : World) (hb : Below w0.heap.size w0 W) : Calls Try.prog 8 #[] W fun e w' => ∃ b, e = .returned (.pointer (some ⟨b, 0, none⟩)) ∧ LsL w0 w' b newX ∧ Below W.heap.size W w' ∧ b = W.heap.size := by
  refine (lsNew_any W).mono ?_
  rintro e w' ⟨rfl, h1, h2⟩
  exact ⟨_, rfl, ⟨h1, hb.size, hb.trans (h2.mono hb.size)⟩, h2, rfl⟩
theorem grant_l (w0 W : World) (b : Nat) (s : Le) (ep t : Int) (h : LsL w0 W b s) (h0 : 0 ≤ t ∧ t ≤ 1099511627776) :
    Calls Try.prog 9 #[.pointer (some ⟨b, 0, none⟩), .int .i64 ep, .int .i64 t] W fun e w' => e = .returned (.tuple #[]) ∧ LsL w0 w' b (grantX ep t) ∧ Chg (is_ b) W w' := by
  refine (lsGrant_any W b s ep t h.at_ h0).mono ?_
  rintro e w' ⟨rfl, h1, h2⟩
  exact ⟨rfl, h.of h1 h2, h2⟩
theorem drop_l (w0 W : World) (b : Nat) (s : Le) (h : LsL w0 W b s) :
    Calls Try.prog 11 #[.pointer (some ⟨b, 0, none⟩)] W fun e w' => e = .returned (.tuple #[]) ∧ LsL w0 w' b (dropX s) ∧ Chg (is_ b) W w' := by
  refine (lsDrop_any W b s h.at_).mono ?_
  rintro e w' ⟨rfl, h1, h2⟩
  exact ⟨rfl, h.of h1 h2, h2⟩
theorem live_l {w0 W : World} {b : Nat} {s : Le} (h : LsL w0 W b s) (t : Int) (c : Bool) (hc : liveX s t = c) :
    Calls Try.prog 14 #[.pointer (some ⟨b, 0, none⟩), .int .i64 t] W fun e w' => e = .returned (.bool c) ∧ w' = W := hc ▸ lsLive_any W b s t h.at_
theorem epoch_l {w0 W : World} {b : Nat} {s : Le} (h : LsL w0 W b s) (c : Int) (hc : s.epoch = c) :
    Calls Try.prog 13 #[.pointer (some ⟨b, 0, none⟩)] W fun e w' => e = .returned (.int .i64 c) ∧ w' = W := hc ▸ lsEpoch_any W b s h.at_

set_option maxRecDepth 1000000 in
set_option maxHeartbeats 4000000 in
theorem known_any (w : World) : Calls Try.prog 16 #[] w fun e w' => e = .returned (.bool true) ∧ Below w.heap.size w w' := by
  go_enter Try.func16, Try.ntmps16
  go_wp2_with fail
  refine (new_l w w (Below.refl _ _)).mono ?_
  rintro e w1 ⟨b, rfl, h1, -, -⟩
  have D := grant_l w w1 b _ 1 4 h1 (by decide)
  clear h1
  go_wp2_with fail
  refine D.mono ?_
  rintro e w2 ⟨rfl, h2, -⟩
  have L8 := live_l h2 8 true rfl
  have L9 := live_l h2 9 false rfl
  have E := epoch_l h2 1 rfl
  have HB : Hid (Below w.heap.size w w2) := h2.bl
  clear D h2
  go_wp2_with fail
  refine L8.mono ?_
  rintro e w9 ⟨rfl, hw⟩
  rw [hw]
  clear hw w9 L8
  go_wp2_with fail
  refine L9.mono ?_
  rintro e w9 ⟨rfl, hw⟩
  rw [hw]
  clear hw w9 L9
  go_wp2_with fail
  refine E.mono ?_
  rintro e w9 ⟨rfl, hw⟩
  rw [hw]
  clear hw w9 E
  go_wp2
  go_ret
  exact ⟨rfl, HB.out⟩
end Go.Proofs.Ytfllogbpbldibaa
