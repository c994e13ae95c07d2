/-
  What the field tells, as an argument: whether it may be (the program's, the reference's), wide; two answers that are one; a lock that is told of old memory.
-/
import Derived.Test.YtceebimgfajbcaaGreatDoorLkLay
import Derived.Test.YtceebimgfajbcaaGreatDoorLawInts
import Derived.Lib.SmallJoins
namespace Go.Proofs.YtceebimgfajbcaaGreatDoor
open Go.RowKit

section
variable {H : Type} {enc : TypeId × Value → H} {W : World}
theorem row_of_ints {oa : Option Addr} {c : Nat} {l : List Int} (h : hasInts W oa l) : rowAt W (.slice oa l.length c) 1 iC l := ⟨oa, c, rfl, fun j x hj => by
  obtain ⟨b, off, e, hc⟩ := h j x hj
  refine ⟨b, off, e, fun i u hu => ?_⟩
  cases i with
  | zero =>
    obtain rfl := Option.some.inj hu
    simpa using hc
  | succ i => simp [iC] at hu⟩
theorem row_of_bools {oa : Option Addr} {c : Nat} {l : List Bool} (h : hasBools W oa l) : rowAt W (.slice oa l.length c) 1 bC l := ⟨oa, c, rfl, fun j x hj => by
  obtain ⟨b, off, e, hc⟩ := h j x hj
  refine ⟨b, off, e, fun i u hu => ?_⟩
  cases i with
  | zero =>
    obtain rfl := Option.some.inj hu
    simpa using hc
  | succ i => simp [bC] at hu⟩
theorem open_introw {fuel : Nat} {v : Value} {x : DataW H × List MemPlace} (h : DataW.trod enc Tryz.prog W 0 (fun _ => true) true fuel 36 [v] = some x) : ∃ l, rowAt W v 1 iC l := by
  rcases Go.ChangeShapes.open_ints Tryz.underlying36 Tryz.underlying3 (by kernel_rfl) h with ⟨hcs, _⟩ | ⟨a, len, cap, ss, hcs, _, hl, hm, hz, _, hcell, _⟩
  · obtain rfl : v = .slice none 0 0 := by simpa using hcs
    exact ⟨[], row_of_ints (oa := none) (l := []) fun j x hj => by simp at hj⟩
  · obtain rfl : v = .slice (some a) len cap := by simpa using hcs
    have hz' : ss.length = cap := by simpa using hz
    have q := ints_of (len := len) (by omega) hcell
    have r := row_of_ints (c := cap) q.2
    rw [q.1] at r
    exact ⟨_, r⟩
theorem open_boolrow {fuel : Nat} {v : Value} {x : DataW H × List MemPlace} (h : DataW.trod enc Tryz.prog W 0 (fun _ => true) true fuel 35 [v] = some x) : ∃ l, rowAt W v 1 bC l := by
  rcases Go.Deep.open_bools Tryz.underlying35 Tryz.underlying4 (by kernel_rfl) h with ⟨hcs, _⟩ | ⟨a, len, cap, B, hcs, _, hl, hm, _, hcell⟩
  · obtain rfl : v = .slice none 0 0 := by simpa using hcs
    exact ⟨[], row_of_bools (oa := none) (l := []) fun j x hj => by simp at hj⟩
  · obtain rfl : v = .slice (some a) len cap := by simpa using hcs
    have q := bools_of hl hcell
    have r := row_of_bools (c := cap) q.2
    rw [q.1] at r
    exact ⟨_, r⟩
set_option maxRecDepth 100000 in
theorem open_in {base : Nat} {v : Value} {d : DataW H} {p : List MemPlace} (hv : Value.okWide Tryz.prog W .any base 38 v) (h : DataW.Trod enc Tryz.prog W 0 (fun _ => true) true 38 v d p) :
    ∃ (u : Nat → Value) (occ : List Bool) (lies : List Int), v = .agg #[u 0, u 1] ∧ InRd W u occ lies := by
  obtain ⟨v0, v1, y0, y1, n, rfl, -, -, h0, h1⟩ := Go.Joins.open_agg2 Tryz.underlying38 (by kernel_rfl) (by kernel_rfl) hv h
  obtain ⟨occ, r0⟩ := open_boolrow h0
  obtain ⟨lies, r1⟩ := open_introw h1
  exact ⟨v4 v0 v1 .nilIface .nilIface, occ, lies, rfl, r0, r1⟩
end
theorem wide_any (v : Nat → Value) (occ : List Bool) (lies : List Int) (w : World) (h : InRd w v occ lies) : Calls Tryz.prog 22 #[.agg #[v 0, v 1]] w fun e w' => e = .returned (.bool (decide (50 < occ.length) || decide (50 < lies.length))) ∧ Below w.heap.size w w' := by
  obtain ⟨o1, c1, e0, _⟩ := h.o
  obtain ⟨o2, c2, e1, _⟩ := h.l
  rw [e0, e1]
  clear h e0 e1
  generalize occ.length = n1
  generalize lies.length = n2
  go_enter Tryz.func22, Tryz.ntmps22
  by_cases q1 : 50 < n1
  · have d1 : (50 : Int) < (n1 : Int) := by omega
    go_wp2
    go_ret
    exact ⟨by simp [q1], (by repeat' (with_reducible first | exact Below.refl _ _ | refine Below.drew ?_ | refine _root_.Go.below_drewN ?_ _ | refine Below.alloc ?_ ?_ _ | refine Below.setCell ?_ ?_ _ | exact Nat.le_refl _ | (simp; done) | (simp; omega)))⟩
  have d1 : ¬ (50 : Int) < (n1 : Int) := by omega
  by_cases q2 : 50 < n2
  · have d2 : (50 : Int) < (n2 : Int) := by omega
    go_wp2
    go_ret
    exact ⟨by simp, (by repeat' (with_reducible first | exact Below.refl _ _ | refine Below.drew ?_ | refine _root_.Go.below_drewN ?_ _ | refine Below.alloc ?_ ?_ _ | refine Below.setCell ?_ ?_ _ | exact Nat.le_refl _ | (simp; done) | (simp; omega)))⟩
  have d2 : ¬ (50 : Int) < (n2 : Int) := by omega
  go_wp2
  go_ret
  exact ⟨by simp, (by repeat' (with_reducible first | exact Below.refl _ _ | refine Below.drew ?_ | refine _root_.Go.below_drewN ?_ _ | refine Below.alloc ?_ ?_ _ | refine Below.setCell ?_ ?_ _ | exact Nat.le_refl _ | (simp; done) | (simp; omega)))⟩

/-- A lock that is told of old memory. -/
theorem cmd_o (w0 W : World) (l : Lay) (rs : List RtV) (kb : Nat) (ss : List St) (v : Nat → Value) (occ : List Bool) (lies : List Int) (kind r : Int) (h : LkG w0 W l rs kb ss) (hin : InRd w0 v occ lies) (hl : lies.length ≤ 4294967296) :
    Calls Tryz.prog 9 #[.pointer (some ⟨kb, 0, none⟩), .agg #[v 0, v 1], .agg #[.int .i64 kind, .int .i64 r]] W fun e w' => e = .returned (.int .i64 (cmdG l rs ss occ lies kind r).1) ∧ LkG w0 w' l rs kb (cmdG l rs ss occ lies kind r).2 ∧ TC W w' :=
  cmd_g w0 W l rs kb ss v occ lies kind r h (hin.below h.bl) hl
theorem cyc_o (w0 W : World) (l : Lay) (rs : List RtV) (kb : Nat) (ss : List St) (v : Nat → Value) (occ : List Bool) (lies : List Int) (h : LkG w0 W l rs kb ss) (hin : InRd w0 v occ lies) (hl : lies.length ≤ 4294967296) :
    Calls Tryz.prog 10 #[.pointer (some ⟨kb, 0, none⟩), .agg #[v 0, v 1]] W fun e w' => ∃ b1 b2, e = .returned (outV b1 b2 l.points.length l.signals.length) ∧ OutAt w' W.heap.size b1 b2 (cycG l rs ss occ lies).2.1 (cycG l rs ss occ lies).2.2 ∧ LkG w0 w' l rs kb (cycG l rs ss occ lies).1 ∧ TC W w' := by
  obtain ⟨u, ws, h1, h2⟩ := h.ex
  refine (cycle_any w0.heap.size kb u _ _ _ ws ss v occ lies W h1 (by rw [h2]; exact h.ok) (fun W' hW => hin.below (h.bl.trans (hW.below (fun k hk => (h1.foot hk).1) h.bl.size))) hl).mono ?_
  rintro e w' ⟨b1, b2, rfl, ho, h3, h4⟩
  rw [h2] at h3 ho
  exact ⟨b1, b2, by rw [List.length_map], ho, ⟨⟨u, ws, h3, h2⟩, h.ok.cyc occ lies, h.bl.trans (h4.below (fun k hk => (h1.foot hk).1) h.bl.size)⟩, h4.mono fun k _ hk => foot_ty h1 hk⟩
end Go.Proofs.YtceebimgfajbcaaGreatDoor
