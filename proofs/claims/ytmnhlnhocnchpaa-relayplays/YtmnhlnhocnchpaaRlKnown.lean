/-
  A relay in a law: each function by a contract that carries all that a law needs; what is known of the law's relay.
-/
import Derived.Test.YtmnhlnhocnchpaaRlAt
namespace Go.Proofs.Ytmnhlnhocnchpaa
open Go.RowKit

/-- A relay that the law made, behind all that was there. -/
structure RlL (w0 W : World) (b : Nat) (s : Rl) (n : Int) : Prop where
  at_ : RlAt W b s n
  ge : w0.heap.size ≤ b
  bl : Below w0.heap.size w0 W
theorem RlL.below {w0 W W' : World} {b : Nat} {s : Rl} {n : Int} (h : RlL w0 W b s n) (hb : Below W.heap.size W W') : RlL w0 W' b s n := ⟨h.at_.below hb, h.ge, h.bl.trans (hb.mono h.bl.size)⟩
theorem RlL.mono {w0 W : World} {b : Nat} {s : Rl} {n m : Int} (h : RlL w0 W b s n) (hm : n ≤ m) : RlL w0 W b s m := ⟨⟨h.at_.ex, h.at_.ok.mono hm⟩, h.ge, h.bl⟩
theorem RlL.of {w0 W W' : World} {b : Nat} {s s' : Rl} {n m : Int} (h : RlL w0 W b s n) (ha : RlAt W' b s' m) (hc : Chg (is_ b) W W') : RlL w0 W' b s' m := ⟨ha, h.ge, h.bl.trans (hc.below (fun k hk => by have := h.ge; rw [hk]; exact this) h.bl.size)⟩
theorem RlL.eq {w0 W : World} {b : Nat} {s s' : Rl} {n : Int} (h : RlL w0 W b s n) (e : s = s') : RlL w0 W b s' n := e ▸ h

theorem new_l (w0 W : World) (hb : Below w0.heap.size w0 W) : Calls Try.prog 9 #[] W fun e w' => ∃ b, e = .returned (.pointer (some ⟨b, 0, none⟩)) ∧ RlL w0 w' b newR 0 ∧ Below W.heap.size W w' ∧ b = W.heap.size := by
  refine (rlNew_any W).mono ?_
  rintro e w' ⟨rfl, h1, h2⟩
  exact ⟨_, rfl, ⟨⟨⟨false, 0, false, h1, rfl, rfl, fun _ => rfl, by omega, by omega⟩, newR_ok⟩, hb.size, hb.trans (h2.mono hb.size)⟩, h2, rfl⟩
theorem begin_l (w0 W : World) (b : Nat) (s : Rl) (n now : Int) (h : RlL w0 W b s n) (s' : Rl) (hs : beginR s now = s') :
    Calls Try.prog 11 #[.pointer (some ⟨b, 0, none⟩), .int .i64 now] W fun e w' => e = .returned (.tuple #[]) ∧ RlL w0 w' b s' n ∧ Chg (is_ b) W w' := by
  subst hs
  refine (rlBegin_any W b s n now h.at_).mono ?_
  rintro e w' ⟨rfl, h1, h2⟩
  exact ⟨rfl, h.of h1 h2, h2⟩
theorem ask_l (w0 W : World) (b : Nat) (s : Rl) (n unit count : Int) (h : RlL w0 W b s n) (hn : n ≤ 100000) (p q e : Int) (s' : Rl) (hs : askA s unit count = (p, q, e) ∧ askR s unit count = s') :
    Calls Try.prog 13 #[.pointer (some ⟨b, 0, none⟩), .int .i64 unit, .int .i64 count] W fun e' w' => e' = .returned (.tuple #[.int .i64 p, .int .i64 q, .int .i64 e]) ∧ RlL w0 w' b s' (n + 1) ∧ Chg (is_ b) W w' := by
  refine (rlAsk_any W b s n unit count h.at_ hn).mono ?_
  rintro e w' ⟨rfl, h1, h2⟩
  rw [hs.1, hs.2] at *
  exact ⟨rfl, h.of h1 h2, h2⟩
theorem yield_l (w0 W : World) (b : Nat) (s : Rl) (n unit : Int) (h : RlL w0 W b s n) (e : Int) (s' : Rl) (hs : yieldA s unit = e ∧ yieldR s unit = s') :
    Calls Try.prog 15 #[.pointer (some ⟨b, 0, none⟩), .int .i64 unit] W fun e' w' => e' = .returned (.int .i64 e) ∧ RlL w0 w' b s' n ∧ Chg (is_ b) W w' := by
  refine (rlYield_any W b s n unit h.at_).mono ?_
  rintro e w' ⟨rfl, h1, h2⟩
  rw [hs.1, hs.2] at *
  exact ⟨rfl, h.of h1 h2, h2⟩
theorem con_l {w0 W : World} {b : Nat} {s : Rl} {n : Int} (h : RlL w0 W b s n) (c : Int) (hc : s.con = c) :
    Calls Try.prog 18 #[.pointer (some ⟨b, 0, none⟩)] W fun e w' => e = .returned (.int .i64 c) ∧ w' = W := hc ▸ rlCon_any W b s n h.at_
theorem own_l {w0 W : World} {b : Nat} {s : Rl} {n : Int} (h : RlL w0 W b s n) (c : Int) (hc : s.own = c) :
    Calls Try.prog 17 #[.pointer (some ⟨b, 0, none⟩)] W fun e w' => e = .returned (.int .i64 c) ∧ w' = W := hc ▸ rlOwn_any W b s n h.at_
theorem epoch_l {w0 W : World} {b : Nat} {s : Rl} {n : Int} (h : RlL w0 W b s n) (c : Int) (hc : s.epoch = c) :
    Calls Try.prog 19 #[.pointer (some ⟨b, 0, none⟩)] W fun e w' => e = .returned (.int .i64 c) ∧ w' = W := hc ▸ rlEpoch_any W b s n h.at_

set_option maxRecDepth 1000000 in
set_option maxHeartbeats 4000000 in
theorem known_any (w : World) : Calls Try.prog 20 #[] w fun e w' => e = .returned (.bool true) ∧ Below w.heap.size w w' := by
  go_enter Try.func20, Try.ntmps20
  go_wp2_with fail
  refine (new_l w w (Below.refl _ _)).mono ?_
  rintro e w1 ⟨b, rfl, h1, -, -⟩
  have D := begin_l w w1 b _ _ 1 h1 ⟨1, -1, -1, 0, 0, 0, 0⟩ rfl
  clear h1
  go_wp2_with fail
  refine D.mono ?_
  rintro e w2 ⟨rfl, h2, -⟩
  have E := ask_l w w2 b _ _ 0 0 h2 (by decide) 1 0 0 ⟨1, 0, -1, 1, 0, 1, 0⟩ ⟨rfl, rfl⟩
  clear D h2
  go_wp2_with fail
  refine E.mono ?_
  rintro e w3 ⟨rfl, h3, -⟩
  have F := ask_l w w3 b _ _ 1 0 h3 (by decide) 0 0 8 ⟨1, 0, -1, 1, 0, 1, 0⟩ ⟨rfl, rfl⟩
  clear E h3
  go_wp2_with fail
  refine F.mono ?_
  rintro e w4 ⟨rfl, h4, -⟩
  have O := own_l h4 0 rfl
  have C := con_l h4 (-1) rfl
  have HB : Hid (Below w.heap.size w w4) := h4.bl
  clear F h4
  go_wp2_with fail
  refine O.mono ?_
  rintro e w9 ⟨rfl, hw⟩
  rw [hw]
  clear hw w9
  go_wp2_with fail
  refine C.mono ?_
  rintro e w9 ⟨rfl, hw⟩
  rw [hw]
  clear hw w9 C O
  go_wp2
  go_ret
  exact ⟨rfl, HB.out⟩
end Go.Proofs.Ytmnhlnhocnchpaa
