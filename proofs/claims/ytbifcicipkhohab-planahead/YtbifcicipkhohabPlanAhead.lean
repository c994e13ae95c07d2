/-
  Of every number: PlanAhead returns true. No condition.
-/
import Derived.Test.YtbifcicipkhohabRows
import Derived.Test.YtbifcicipkhohabPlKnown
import Derived.Test.YtbifcicipkhohabPlBy
import Derived.WalkKit
import Derived.ProofKit
import Derived.OpenShut
import Derived.ShutString
import Derived.ChangeOld
import Derived.Below
import Derived.SizedLaws
namespace Go.Proofs.Ytbifcicipkhohab.planAhead
open Go.ChangeShapes Go.WideShapes Go.ChangeAt Go.RowKit

theorem parse_call (hby : BySaid) (T : ByteArray) (hz : T.size ≤ 4294967295) (n e : Nat) (h : (parseP T).2 = (n, e)) (W : World) :
    Calls Try.prog 5 #[.string T] W fun en w' => ∃ o0 n0 c0 o1 n1 c1 o2 n2 c2 o3 n3 c3, en = .returned (.tuple #[.agg #[.slice o0 n0 c0, .slice o1 n1 c1, .slice o2 n2 c2, .slice o3 n3 c3], .int .i64 n, .int .i64 e]) ∧ Below W.heap.size W w' := by
  refine (parse_any hby T W hz).mono ?_
  rintro en w' ⟨v, rs, rfl, _, hs, hb⟩
  obtain ⟨o0, n0, c0, h0⟩ := hs 0
  obtain ⟨o1, n1, c1, h1⟩ := hs 1
  obtain ⟨o2, n2, c2, h2⟩ := hs 2
  obtain ⟨o3, n3, c3, h3⟩ := hs 3
  refine ⟨o0, n0, c0, o1, n1, c1, o2, n2, c2, o3, n3, c3, ?_, hb⟩
  rw [h, h0, h1, h2, h3]

theorem pa0 : (parseP ⟨#[115, 105, 103, 110, 97, 108, 32, 115, 10, 115, 105, 103, 110, 97, 108, 32, 116, 10, 112, 111, 105, 110, 116, 32, 112, 32, 105, 110, 32, 97, 10, 114, 111, 117, 116, 101, 32, 114, 32, 102, 114, 111, 109, 32, 115, 32, 116, 111, 32, 116, 32, 118, 105, 97, 32, 97, 32, 115, 101, 116, 32, 112, 43, 10, 115, 101, 99, 116, 105, 111, 110, 32, 97, 10]⟩).2 = (3, 5) := by decide +kernel
theorem pb0 : (parseP ⟨#[115, 105, 103, 110, 97, 108, 32, 115, 10, 115, 105, 103, 110, 97, 108, 32, 116, 10, 112, 111, 105, 110, 116, 32, 112, 32, 105, 110, 32, 97, 10, 114, 111, 117, 116, 101, 32, 114, 32, 102, 114, 111, 109, 32, 115, 32, 116, 111, 32, 116, 32, 118, 105, 97, 32, 97, 32, 115, 101, 116, 32, 112, 43, 10]⟩).2 = (3, 5) := by decide +kernel
set_option maxRecDepth 1000000 in
set_option maxHeartbeats 4000000 in
theorem walk0 (hby : BySaid) (w : World) : Calls Try.prog 3 #[.int .i64 0] w fun e w' => e = .returned (.bool true) ∧ Below w.heap.size w w' := by
  have HBY : Hid BySaid := hby
  have D1 : Hid (∀ W T, T = ⟨#[115, 105, 103, 110, 97, 108, 32, 115, 10, 115, 105, 103, 110, 97, 108, 32, 116, 10, 112, 111, 105, 110, 116, 32, 112, 32, 105, 110, 32, 97, 10, 114, 111, 117, 116, 101, 32, 114, 32, 102, 114, 111, 109, 32, 115, 32, 116, 111, 32, 116, 32, 118, 105, 97, 32, 97, 32, 115, 101, 116, 32, 112, 43, 10, 115, 101, 99, 116, 105, 111, 110, 32, 97, 10]⟩ → Calls Try.prog 5 #[.string T] W fun en w' => ∃ o0 n0 c0 o1 n1 c1 o2 n2 c2 o3 n3 c3, en = .returned (.tuple #[.agg #[.slice o0 n0 c0, .slice o1 n1 c1, .slice o2 n2 c2, .slice o3 n3 c3], .int .i64 3, .int .i64 5]) ∧ Below W.heap.size W w') := fun W T hT => by
    subst hT
    exact parse_call hby _ (by decide +kernel) 3 5 pa0 W
  have D2 : Hid (∀ W T, T = ⟨#[115, 105, 103, 110, 97, 108, 32, 115, 10, 115, 105, 103, 110, 97, 108, 32, 116, 10, 112, 111, 105, 110, 116, 32, 112, 32, 105, 110, 32, 97, 10, 114, 111, 117, 116, 101, 32, 114, 32, 102, 114, 111, 109, 32, 115, 32, 116, 111, 32, 116, 32, 118, 105, 97, 32, 97, 32, 115, 101, 116, 32, 112, 43, 10]⟩ → Calls Try.prog 5 #[.string T] W fun en w' => ∃ o0 n0 c0 o1 n1 c1 o2 n2 c2 o3 n3 c3, en = .returned (.tuple #[.agg #[.slice o0 n0 c0, .slice o1 n1 c1, .slice o2 n2 c2, .slice o3 n3 c3], .int .i64 3, .int .i64 5]) ∧ Below W.heap.size W w') := fun W T hT => by
    subst hT
    exact parse_call hby _ (by decide +kernel) 3 5 pb0 W
  clear hby
  go_enter Try.func3, Try.ntmps3
  go_wp2
  go_loop [4, 5] (fun s i => (i = .int .i64 0 ∧ s = .string ⟨#[]⟩) ∨ (i = .int .i64 1 ∧ s = .string ⟨#[]⟩) ∨ (i = .int .i64 2 ∧ s = .string ⟨#[115, 105, 103, 110, 97, 108, 32, 115, 10]⟩) ∨ (i = .int .i64 3 ∧ s = .string ⟨#[115, 105, 103, 110, 97, 108, 32, 115, 10, 115, 105, 103, 110, 97, 108, 32, 116, 10]⟩) ∨ (i = .int .i64 4 ∧ s = .string ⟨#[115, 105, 103, 110, 97, 108, 32, 115, 10, 115, 105, 103, 110, 97, 108, 32, 116, 10, 112, 111, 105, 110, 116, 32, 112, 32, 105, 110, 32, 97, 10]⟩) ∨ (i = .int .i64 5 ∧ s = .string ⟨#[115, 105, 103, 110, 97, 108, 32, 115, 10, 115, 105, 103, 110, 97, 108, 32, 116, 10, 112, 111, 105, 110, 116, 32, 112, 32, 105, 110, 32, 97, 10, 114, 111, 117, 116, 101, 32, 114, 32, 102, 114, 111, 109, 32, 115, 32, 116, 111, 32, 116, 32, 118, 105, 97, 32, 97, 32, 115, 101, 116, 32, 112, 43, 10]⟩)) (fun _ i => 5 - (intOf i).toNat)
  case atStart => exact .inl ⟨rfl, rfl⟩
  case round =>
    rcases hrel with ⟨rfl, rfl⟩ | ⟨rfl, rfl⟩ | ⟨rfl, rfl⟩ | ⟨rfl, rfl⟩ | ⟨rfl, rfl⟩ | ⟨rfl, rfl⟩

    · go_wp2
      go_round
      case rel => exact .inr (.inl ⟨by go_num, rfl⟩)
      case measure => simp [intOf]

    · go_wp2
      go_round
      case rel => exact .inr (.inr (.inl ⟨by go_num, congrArg Value.string (by decide +kernel)⟩))
      case measure => simp [intOf]

    · go_wp2
      go_round
      case rel => exact .inr (.inr (.inr (.inl ⟨by go_num, congrArg Value.string (by decide +kernel)⟩)))
      case measure => simp [intOf]

    · go_wp2
      go_round
      case rel => exact .inr (.inr (.inr (.inr (.inl ⟨by go_num, congrArg Value.string (by decide +kernel)⟩))))
      case measure => simp [intOf]

    · go_wp2
      go_round
      case rel => exact .inr (.inr (.inr (.inr (.inr (⟨by go_num, congrArg Value.string (by decide +kernel)⟩)))))
      case measure => simp [intOf]

    · go_wp2_with fail
      refine (D1.out _ _ (by decide +kernel)).mono ?_
      rintro en w2 ⟨o0, n0, c0, o1, n1, c1, o2, n2, c2, o3, n3, c3, rfl, hb2⟩
      have HB2 : Hid (Below w.heap.size w w2) := stepB (by repeat' (first | exact Below.refl _ _ | refine Below.alloc ?_ ?_ _ | (simp; done))) hb2
      clear hb2
      go_wp2_with fail
      refine (D2.out _ _ (by decide +kernel)).mono ?_
      rintro en w3 ⟨p0, m0, d0, p1, m1, d1, p2, m2, d2, p3, m3, d3, rfl, hb3⟩
      have HB3 : Hid (Below w.heap.size w w3) := stepB (HB2.out.alloc HB2.out.size _) hb3
      clear hb3
      go_wp2_with (go_at_call 6; refine (known_any HBY.out _).mono ?_; rintro e w4 ⟨rfl, hb4⟩)
      go_ret
      exact ⟨rfl, stepB ((HB3.out.alloc HB3.out.size _).alloc (by have := HB3.out.size; simp; omega) _) hb4⟩

theorem pa1 : (parseP ⟨#[115, 101, 99, 116, 105, 111, 110, 32, 97, 10, 115, 105, 103, 110, 97, 108, 32, 116, 10, 112, 111, 105, 110, 116, 32, 112, 32, 105, 110, 32, 97, 10, 114, 111, 117, 116, 101, 32, 114, 32, 102, 114, 111, 109, 32, 115, 32, 116, 111, 32, 116, 32, 118, 105, 97, 32, 97, 32, 115, 101, 116, 32, 112, 43, 10, 115, 105, 103, 110, 97, 108, 32, 115, 10]⟩).2 = (4, 5) := by decide +kernel
theorem pb1 : (parseP ⟨#[115, 101, 99, 116, 105, 111, 110, 32, 97, 10, 115, 105, 103, 110, 97, 108, 32, 116, 10, 112, 111, 105, 110, 116, 32, 112, 32, 105, 110, 32, 97, 10, 114, 111, 117, 116, 101, 32, 114, 32, 102, 114, 111, 109, 32, 115, 32, 116, 111, 32, 116, 32, 118, 105, 97, 32, 97, 32, 115, 101, 116, 32, 112, 43, 10]⟩).2 = (4, 5) := by decide +kernel
set_option maxRecDepth 1000000 in
set_option maxHeartbeats 4000000 in
theorem walk1 (hby : BySaid) (w : World) : Calls Try.prog 3 #[.int .i64 1] w fun e w' => e = .returned (.bool true) ∧ Below w.heap.size w w' := by
  have HBY : Hid BySaid := hby
  have D1 : Hid (∀ W T, T = ⟨#[115, 101, 99, 116, 105, 111, 110, 32, 97, 10, 115, 105, 103, 110, 97, 108, 32, 116, 10, 112, 111, 105, 110, 116, 32, 112, 32, 105, 110, 32, 97, 10, 114, 111, 117, 116, 101, 32, 114, 32, 102, 114, 111, 109, 32, 115, 32, 116, 111, 32, 116, 32, 118, 105, 97, 32, 97, 32, 115, 101, 116, 32, 112, 43, 10, 115, 105, 103, 110, 97, 108, 32, 115, 10]⟩ → Calls Try.prog 5 #[.string T] W fun en w' => ∃ o0 n0 c0 o1 n1 c1 o2 n2 c2 o3 n3 c3, en = .returned (.tuple #[.agg #[.slice o0 n0 c0, .slice o1 n1 c1, .slice o2 n2 c2, .slice o3 n3 c3], .int .i64 4, .int .i64 5]) ∧ Below W.heap.size W w') := fun W T hT => by
    subst hT
    exact parse_call hby _ (by decide +kernel) 4 5 pa1 W
  have D2 : Hid (∀ W T, T = ⟨#[115, 101, 99, 116, 105, 111, 110, 32, 97, 10, 115, 105, 103, 110, 97, 108, 32, 116, 10, 112, 111, 105, 110, 116, 32, 112, 32, 105, 110, 32, 97, 10, 114, 111, 117, 116, 101, 32, 114, 32, 102, 114, 111, 109, 32, 115, 32, 116, 111, 32, 116, 32, 118, 105, 97, 32, 97, 32, 115, 101, 116, 32, 112, 43, 10]⟩ → Calls Try.prog 5 #[.string T] W fun en w' => ∃ o0 n0 c0 o1 n1 c1 o2 n2 c2 o3 n3 c3, en = .returned (.tuple #[.agg #[.slice o0 n0 c0, .slice o1 n1 c1, .slice o2 n2 c2, .slice o3 n3 c3], .int .i64 4, .int .i64 5]) ∧ Below W.heap.size W w') := fun W T hT => by
    subst hT
    exact parse_call hby _ (by decide +kernel) 4 5 pb1 W
  clear hby
  go_enter Try.func3, Try.ntmps3
  go_wp2
  go_loop [4, 5] (fun s i => (i = .int .i64 0 ∧ s = .string ⟨#[]⟩) ∨ (i = .int .i64 1 ∧ s = .string ⟨#[115, 101, 99, 116, 105, 111, 110, 32, 97, 10]⟩) ∨ (i = .int .i64 2 ∧ s = .string ⟨#[115, 101, 99, 116, 105, 111, 110, 32, 97, 10]⟩) ∨ (i = .int .i64 3 ∧ s = .string ⟨#[115, 101, 99, 116, 105, 111, 110, 32, 97, 10, 115, 105, 103, 110, 97, 108, 32, 116, 10]⟩) ∨ (i = .int .i64 4 ∧ s = .string ⟨#[115, 101, 99, 116, 105, 111, 110, 32, 97, 10, 115, 105, 103, 110, 97, 108, 32, 116, 10, 112, 111, 105, 110, 116, 32, 112, 32, 105, 110, 32, 97, 10]⟩) ∨ (i = .int .i64 5 ∧ s = .string ⟨#[115, 101, 99, 116, 105, 111, 110, 32, 97, 10, 115, 105, 103, 110, 97, 108, 32, 116, 10, 112, 111, 105, 110, 116, 32, 112, 32, 105, 110, 32, 97, 10, 114, 111, 117, 116, 101, 32, 114, 32, 102, 114, 111, 109, 32, 115, 32, 116, 111, 32, 116, 32, 118, 105, 97, 32, 97, 32, 115, 101, 116, 32, 112, 43, 10]⟩)) (fun _ i => 5 - (intOf i).toNat)
  case atStart => exact .inl ⟨rfl, rfl⟩
  case round =>
    rcases hrel with ⟨rfl, rfl⟩ | ⟨rfl, rfl⟩ | ⟨rfl, rfl⟩ | ⟨rfl, rfl⟩ | ⟨rfl, rfl⟩ | ⟨rfl, rfl⟩

    · go_wp2
      go_round
      case rel => exact .inr (.inl ⟨by go_num, congrArg Value.string (by decide +kernel)⟩)
      case measure => simp [intOf]

    · go_wp2
      go_round
      case rel => exact .inr (.inr (.inl ⟨by go_num, rfl⟩))
      case measure => simp [intOf]

    · go_wp2
      go_round
      case rel => exact .inr (.inr (.inr (.inl ⟨by go_num, congrArg Value.string (by decide +kernel)⟩)))
      case measure => simp [intOf]

    · go_wp2
      go_round
      case rel => exact .inr (.inr (.inr (.inr (.inl ⟨by go_num, congrArg Value.string (by decide +kernel)⟩))))
      case measure => simp [intOf]

    · go_wp2
      go_round
      case rel => exact .inr (.inr (.inr (.inr (.inr (⟨by go_num, congrArg Value.string (by decide +kernel)⟩)))))
      case measure => simp [intOf]

    · go_wp2_with fail
      refine (D1.out _ _ (by decide +kernel)).mono ?_
      rintro en w2 ⟨o0, n0, c0, o1, n1, c1, o2, n2, c2, o3, n3, c3, rfl, hb2⟩
      have HB2 : Hid (Below w.heap.size w w2) := stepB (by repeat' (first | exact Below.refl _ _ | refine Below.alloc ?_ ?_ _ | (simp; done))) hb2
      clear hb2
      go_wp2_with fail
      refine (D2.out _ _ (by decide +kernel)).mono ?_
      rintro en w3 ⟨p0, m0, d0, p1, m1, d1, p2, m2, d2, p3, m3, d3, rfl, hb3⟩
      have HB3 : Hid (Below w.heap.size w w3) := stepB (HB2.out.alloc HB2.out.size _) hb3
      clear hb3
      go_wp2_with (go_at_call 6; refine (known_any HBY.out _).mono ?_; rintro e w4 ⟨rfl, hb4⟩)
      go_ret
      exact ⟨rfl, stepB ((HB3.out.alloc HB3.out.size _).alloc (by have := HB3.out.size; simp; omega) _) hb4⟩

theorem pa2 : (parseP ⟨#[115, 101, 99, 116, 105, 111, 110, 32, 97, 10, 115, 105, 103, 110, 97, 108, 32, 115, 10, 112, 111, 105, 110, 116, 32, 112, 32, 105, 110, 32, 97, 10, 114, 111, 117, 116, 101, 32, 114, 32, 102, 114, 111, 109, 32, 115, 32, 116, 111, 32, 116, 32, 118, 105, 97, 32, 97, 32, 115, 101, 116, 32, 112, 43, 10, 115, 105, 103, 110, 97, 108, 32, 116, 10]⟩).2 = (4, 5) := by decide +kernel
theorem pb2 : (parseP ⟨#[115, 101, 99, 116, 105, 111, 110, 32, 97, 10, 115, 105, 103, 110, 97, 108, 32, 115, 10, 112, 111, 105, 110, 116, 32, 112, 32, 105, 110, 32, 97, 10, 114, 111, 117, 116, 101, 32, 114, 32, 102, 114, 111, 109, 32, 115, 32, 116, 111, 32, 116, 32, 118, 105, 97, 32, 97, 32, 115, 101, 116, 32, 112, 43, 10]⟩).2 = (4, 5) := by decide +kernel
set_option maxRecDepth 1000000 in
set_option maxHeartbeats 4000000 in
theorem walk2 (hby : BySaid) (w : World) : Calls Try.prog 3 #[.int .i64 2] w fun e w' => e = .returned (.bool true) ∧ Below w.heap.size w w' := by
  have HBY : Hid BySaid := hby
  have D1 : Hid (∀ W T, T = ⟨#[115, 101, 99, 116, 105, 111, 110, 32, 97, 10, 115, 105, 103, 110, 97, 108, 32, 115, 10, 112, 111, 105, 110, 116, 32, 112, 32, 105, 110, 32, 97, 10, 114, 111, 117, 116, 101, 32, 114, 32, 102, 114, 111, 109, 32, 115, 32, 116, 111, 32, 116, 32, 118, 105, 97, 32, 97, 32, 115, 101, 116, 32, 112, 43, 10, 115, 105, 103, 110, 97, 108, 32, 116, 10]⟩ → Calls Try.prog 5 #[.string T] W fun en w' => ∃ o0 n0 c0 o1 n1 c1 o2 n2 c2 o3 n3 c3, en = .returned (.tuple #[.agg #[.slice o0 n0 c0, .slice o1 n1 c1, .slice o2 n2 c2, .slice o3 n3 c3], .int .i64 4, .int .i64 5]) ∧ Below W.heap.size W w') := fun W T hT => by
    subst hT
    exact parse_call hby _ (by decide +kernel) 4 5 pa2 W
  have D2 : Hid (∀ W T, T = ⟨#[115, 101, 99, 116, 105, 111, 110, 32, 97, 10, 115, 105, 103, 110, 97, 108, 32, 115, 10, 112, 111, 105, 110, 116, 32, 112, 32, 105, 110, 32, 97, 10, 114, 111, 117, 116, 101, 32, 114, 32, 102, 114, 111, 109, 32, 115, 32, 116, 111, 32, 116, 32, 118, 105, 97, 32, 97, 32, 115, 101, 116, 32, 112, 43, 10]⟩ → Calls Try.prog 5 #[.string T] W fun en w' => ∃ o0 n0 c0 o1 n1 c1 o2 n2 c2 o3 n3 c3, en = .returned (.tuple #[.agg #[.slice o0 n0 c0, .slice o1 n1 c1, .slice o2 n2 c2, .slice o3 n3 c3], .int .i64 4, .int .i64 5]) ∧ Below W.heap.size W w') := fun W T hT => by
    subst hT
    exact parse_call hby _ (by decide +kernel) 4 5 pb2 W
  clear hby
  go_enter Try.func3, Try.ntmps3
  go_wp2
  go_loop [4, 5] (fun s i => (i = .int .i64 0 ∧ s = .string ⟨#[]⟩) ∨ (i = .int .i64 1 ∧ s = .string ⟨#[115, 101, 99, 116, 105, 111, 110, 32, 97, 10]⟩) ∨ (i = .int .i64 2 ∧ s = .string ⟨#[115, 101, 99, 116, 105, 111, 110, 32, 97, 10, 115, 105, 103, 110, 97, 108, 32, 115, 10]⟩) ∨ (i = .int .i64 3 ∧ s = .string ⟨#[115, 101, 99, 116, 105, 111, 110, 32, 97, 10, 115, 105, 103, 110, 97, 108, 32, 115, 10]⟩) ∨ (i = .int .i64 4 ∧ s = .string ⟨#[115, 101, 99, 116, 105, 111, 110, 32, 97, 10, 115, 105, 103, 110, 97, 108, 32, 115, 10, 112, 111, 105, 110, 116, 32, 112, 32, 105, 110, 32, 97, 10]⟩) ∨ (i = .int .i64 5 ∧ s = .string ⟨#[115, 101, 99, 116, 105, 111, 110, 32, 97, 10, 115, 105, 103, 110, 97, 108, 32, 115, 10, 112, 111, 105, 110, 116, 32, 112, 32, 105, 110, 32, 97, 10, 114, 111, 117, 116, 101, 32, 114, 32, 102, 114, 111, 109, 32, 115, 32, 116, 111, 32, 116, 32, 118, 105, 97, 32, 97, 32, 115, 101, 116, 32, 112, 43, 10]⟩)) (fun _ i => 5 - (intOf i).toNat)
  case atStart => exact .inl ⟨rfl, rfl⟩
  case round =>
    rcases hrel with ⟨rfl, rfl⟩ | ⟨rfl, rfl⟩ | ⟨rfl, rfl⟩ | ⟨rfl, rfl⟩ | ⟨rfl, rfl⟩ | ⟨rfl, rfl⟩

    · go_wp2
      go_round
      case rel => exact .inr (.inl ⟨by go_num, congrArg Value.string (by decide +kernel)⟩)
      case measure => simp [intOf]

    · go_wp2
      go_round
      case rel => exact .inr (.inr (.inl ⟨by go_num, congrArg Value.string (by decide +kernel)⟩))
      case measure => simp [intOf]

    · go_wp2
      go_round
      case rel => exact .inr (.inr (.inr (.inl ⟨by go_num, rfl⟩)))
      case measure => simp [intOf]

    · go_wp2
      go_round
      case rel => exact .inr (.inr (.inr (.inr (.inl ⟨by go_num, congrArg Value.string (by decide +kernel)⟩))))
      case measure => simp [intOf]

    · go_wp2
      go_round
      case rel => exact .inr (.inr (.inr (.inr (.inr (⟨by go_num, congrArg Value.string (by decide +kernel)⟩)))))
      case measure => simp [intOf]

    · go_wp2_with fail
      refine (D1.out _ _ (by decide +kernel)).mono ?_
      rintro en w2 ⟨o0, n0, c0, o1, n1, c1, o2, n2, c2, o3, n3, c3, rfl, hb2⟩
      have HB2 : Hid (Below w.heap.size w w2) := stepB (by repeat' (first | exact Below.refl _ _ | refine Below.alloc ?_ ?_ _ | (simp; done))) hb2
      clear hb2
      go_wp2_with fail
      refine (D2.out _ _ (by decide +kernel)).mono ?_
      rintro en w3 ⟨p0, m0, d0, p1, m1, d1, p2, m2, d2, p3, m3, d3, rfl, hb3⟩
      have HB3 : Hid (Below w.heap.size w w3) := stepB (HB2.out.alloc HB2.out.size _) hb3
      clear hb3
      go_wp2_with (go_at_call 6; refine (known_any HBY.out _).mono ?_; rintro e w4 ⟨rfl, hb4⟩)
      go_ret
      exact ⟨rfl, stepB ((HB3.out.alloc HB3.out.size _).alloc (by have := HB3.out.size; simp; omega) _) hb4⟩

theorem pa3 : (parseP ⟨#[115, 101, 99, 116, 105, 111, 110, 32, 97, 10, 115, 105, 103, 110, 97, 108, 32, 115, 10, 115, 105, 103, 110, 97, 108, 32, 116, 10, 114, 111, 117, 116, 101, 32, 114, 32, 102, 114, 111, 109, 32, 115, 32, 116, 111, 32, 116, 32, 118, 105, 97, 32, 97, 32, 115, 101, 116, 32, 112, 43, 10, 112, 111, 105, 110, 116, 32, 112, 32, 105, 110, 32, 97, 10]⟩).2 = (4, 5) := by decide +kernel
theorem pb3 : (parseP ⟨#[115, 101, 99, 116, 105, 111, 110, 32, 97, 10, 115, 105, 103, 110, 97, 108, 32, 115, 10, 115, 105, 103, 110, 97, 108, 32, 116, 10, 114, 111, 117, 116, 101, 32, 114, 32, 102, 114, 111, 109, 32, 115, 32, 116, 111, 32, 116, 32, 118, 105, 97, 32, 97, 32, 115, 101, 116, 32, 112, 43, 10]⟩).2 = (4, 5) := by decide +kernel
set_option maxRecDepth 1000000 in
set_option maxHeartbeats 4000000 in
theorem walk3 (hby : BySaid) (w : World) : Calls Try.prog 3 #[.int .i64 3] w fun e w' => e = .returned (.bool true) ∧ Below w.heap.size w w' := by
  have HBY : Hid BySaid := hby
  have D1 : Hid (∀ W T, T = ⟨#[115, 101, 99, 116, 105, 111, 110, 32, 97, 10, 115, 105, 103, 110, 97, 108, 32, 115, 10, 115, 105, 103, 110, 97, 108, 32, 116, 10, 114, 111, 117, 116, 101, 32, 114, 32, 102, 114, 111, 109, 32, 115, 32, 116, 111, 32, 116, 32, 118, 105, 97, 32, 97, 32, 115, 101, 116, 32, 112, 43, 10, 112, 111, 105, 110, 116, 32, 112, 32, 105, 110, 32, 97, 10]⟩ → Calls Try.prog 5 #[.string T] W fun en w' => ∃ o0 n0 c0 o1 n1 c1 o2 n2 c2 o3 n3 c3, en = .returned (.tuple #[.agg #[.slice o0 n0 c0, .slice o1 n1 c1, .slice o2 n2 c2, .slice o3 n3 c3], .int .i64 4, .int .i64 5]) ∧ Below W.heap.size W w') := fun W T hT => by
    subst hT
    exact parse_call hby _ (by decide +kernel) 4 5 pa3 W
  have D2 : Hid (∀ W T, T = ⟨#[115, 101, 99, 116, 105, 111, 110, 32, 97, 10, 115, 105, 103, 110, 97, 108, 32, 115, 10, 115, 105, 103, 110, 97, 108, 32, 116, 10, 114, 111, 117, 116, 101, 32, 114, 32, 102, 114, 111, 109, 32, 115, 32, 116, 111, 32, 116, 32, 118, 105, 97, 32, 97, 32, 115, 101, 116, 32, 112, 43, 10]⟩ → Calls Try.prog 5 #[.string T] W fun en w' => ∃ o0 n0 c0 o1 n1 c1 o2 n2 c2 o3 n3 c3, en = .returned (.tuple #[.agg #[.slice o0 n0 c0, .slice o1 n1 c1, .slice o2 n2 c2, .slice o3 n3 c3], .int .i64 4, .int .i64 5]) ∧ Below W.heap.size W w') := fun W T hT => by
    subst hT
    exact parse_call hby _ (by decide +kernel) 4 5 pb3 W
  clear hby
  go_enter Try.func3, Try.ntmps3
  go_wp2
  go_loop [4, 5] (fun s i => (i = .int .i64 0 ∧ s = .string ⟨#[]⟩) ∨ (i = .int .i64 1 ∧ s = .string ⟨#[115, 101, 99, 116, 105, 111, 110, 32, 97, 10]⟩) ∨ (i = .int .i64 2 ∧ s = .string ⟨#[115, 101, 99, 116, 105, 111, 110, 32, 97, 10, 115, 105, 103, 110, 97, 108, 32, 115, 10]⟩) ∨ (i = .int .i64 3 ∧ s = .string ⟨#[115, 101, 99, 116, 105, 111, 110, 32, 97, 10, 115, 105, 103, 110, 97, 108, 32, 115, 10, 115, 105, 103, 110, 97, 108, 32, 116, 10]⟩) ∨ (i = .int .i64 4 ∧ s = .string ⟨#[115, 101, 99, 116, 105, 111, 110, 32, 97, 10, 115, 105, 103, 110, 97, 108, 32, 115, 10, 115, 105, 103, 110, 97, 108, 32, 116, 10]⟩) ∨ (i = .int .i64 5 ∧ s = .string ⟨#[115, 101, 99, 116, 105, 111, 110, 32, 97, 10, 115, 105, 103, 110, 97, 108, 32, 115, 10, 115, 105, 103, 110, 97, 108, 32, 116, 10, 114, 111, 117, 116, 101, 32, 114, 32, 102, 114, 111, 109, 32, 115, 32, 116, 111, 32, 116, 32, 118, 105, 97, 32, 97, 32, 115, 101, 116, 32, 112, 43, 10]⟩)) (fun _ i => 5 - (intOf i).toNat)
  case atStart => exact .inl ⟨rfl, rfl⟩
  case round =>
    rcases hrel with ⟨rfl, rfl⟩ | ⟨rfl, rfl⟩ | ⟨rfl, rfl⟩ | ⟨rfl, rfl⟩ | ⟨rfl, rfl⟩ | ⟨rfl, rfl⟩

    · go_wp2
      go_round
      case rel => exact .inr (.inl ⟨by go_num, congrArg Value.string (by decide +kernel)⟩)
      case measure => simp [intOf]

    · go_wp2
      go_round
      case rel => exact .inr (.inr (.inl ⟨by go_num, congrArg Value.string (by decide +kernel)⟩))
      case measure => simp [intOf]

    · go_wp2
      go_round
      case rel => exact .inr (.inr (.inr (.inl ⟨by go_num, congrArg Value.string (by decide +kernel)⟩)))
      case measure => simp [intOf]

    · go_wp2
      go_round
      case rel => exact .inr (.inr (.inr (.inr (.inl ⟨by go_num, rfl⟩))))
      case measure => simp [intOf]

    · go_wp2
      go_round
      case rel => exact .inr (.inr (.inr (.inr (.inr (⟨by go_num, congrArg Value.string (by decide +kernel)⟩)))))
      case measure => simp [intOf]

    · go_wp2_with fail
      refine (D1.out _ _ (by decide +kernel)).mono ?_
      rintro en w2 ⟨o0, n0, c0, o1, n1, c1, o2, n2, c2, o3, n3, c3, rfl, hb2⟩
      have HB2 : Hid (Below w.heap.size w w2) := stepB (by repeat' (first | exact Below.refl _ _ | refine Below.alloc ?_ ?_ _ | (simp; done))) hb2
      clear hb2
      go_wp2_with fail
      refine (D2.out _ _ (by decide +kernel)).mono ?_
      rintro en w3 ⟨p0, m0, d0, p1, m1, d1, p2, m2, d2, p3, m3, d3, rfl, hb3⟩
      have HB3 : Hid (Below w.heap.size w w3) := stepB (HB2.out.alloc HB2.out.size _) hb3
      clear hb3
      go_wp2_with (go_at_call 6; refine (known_any HBY.out _).mono ?_; rintro e w4 ⟨rfl, hb4⟩)
      go_ret
      exact ⟨rfl, stepB ((HB3.out.alloc HB3.out.size _).alloc (by have := HB3.out.size; simp; omega) _) hb4⟩

theorem pa4 : (parseP ⟨#[115, 101, 99, 116, 105, 111, 110, 32, 97, 10, 115, 105, 103, 110, 97, 108, 32, 115, 10, 115, 105, 103, 110, 97, 108, 32, 116, 10, 112, 111, 105, 110, 116, 32, 112, 32, 105, 110, 32, 97, 10, 114, 111, 117, 116, 101, 32, 114, 32, 102, 114, 111, 109, 32, 115, 32, 116, 111, 32, 116, 32, 118, 105, 97, 32, 97, 32, 115, 101, 116, 32, 112, 43, 10]⟩).2 = (5, 0) := by decide +kernel
theorem pb4 : (parseP ⟨#[115, 101, 99, 116, 105, 111, 110, 32, 97, 10, 115, 105, 103, 110, 97, 108, 32, 115, 10, 115, 105, 103, 110, 97, 108, 32, 116, 10, 112, 111, 105, 110, 116, 32, 112, 32, 105, 110, 32, 97, 10]⟩).2 = (4, 0) := by decide +kernel
set_option maxRecDepth 1000000 in
set_option maxHeartbeats 4000000 in
theorem walk4 (hby : BySaid) (w : World) : Calls Try.prog 3 #[.int .i64 4] w fun e w' => e = .returned (.bool true) ∧ Below w.heap.size w w' := by
  have HBY : Hid BySaid := hby
  have D1 : Hid (∀ W T, T = ⟨#[115, 101, 99, 116, 105, 111, 110, 32, 97, 10, 115, 105, 103, 110, 97, 108, 32, 115, 10, 115, 105, 103, 110, 97, 108, 32, 116, 10, 112, 111, 105, 110, 116, 32, 112, 32, 105, 110, 32, 97, 10, 114, 111, 117, 116, 101, 32, 114, 32, 102, 114, 111, 109, 32, 115, 32, 116, 111, 32, 116, 32, 118, 105, 97, 32, 97, 32, 115, 101, 116, 32, 112, 43, 10]⟩ → Calls Try.prog 5 #[.string T] W fun en w' => ∃ o0 n0 c0 o1 n1 c1 o2 n2 c2 o3 n3 c3, en = .returned (.tuple #[.agg #[.slice o0 n0 c0, .slice o1 n1 c1, .slice o2 n2 c2, .slice o3 n3 c3], .int .i64 5, .int .i64 0]) ∧ Below W.heap.size W w') := fun W T hT => by
    subst hT
    exact parse_call hby _ (by decide +kernel) 5 0 pa4 W
  have D2 : Hid (∀ W T, T = ⟨#[115, 101, 99, 116, 105, 111, 110, 32, 97, 10, 115, 105, 103, 110, 97, 108, 32, 115, 10, 115, 105, 103, 110, 97, 108, 32, 116, 10, 112, 111, 105, 110, 116, 32, 112, 32, 105, 110, 32, 97, 10]⟩ → Calls Try.prog 5 #[.string T] W fun en w' => ∃ o0 n0 c0 o1 n1 c1 o2 n2 c2 o3 n3 c3, en = .returned (.tuple #[.agg #[.slice o0 n0 c0, .slice o1 n1 c1, .slice o2 n2 c2, .slice o3 n3 c3], .int .i64 4, .int .i64 0]) ∧ Below W.heap.size W w') := fun W T hT => by
    subst hT
    exact parse_call hby _ (by decide +kernel) 4 0 pb4 W
  clear hby
  go_enter Try.func3, Try.ntmps3
  go_wp2
  go_loop [4, 5] (fun s i => (i = .int .i64 0 ∧ s = .string ⟨#[]⟩) ∨ (i = .int .i64 1 ∧ s = .string ⟨#[115, 101, 99, 116, 105, 111, 110, 32, 97, 10]⟩) ∨ (i = .int .i64 2 ∧ s = .string ⟨#[115, 101, 99, 116, 105, 111, 110, 32, 97, 10, 115, 105, 103, 110, 97, 108, 32, 115, 10]⟩) ∨ (i = .int .i64 3 ∧ s = .string ⟨#[115, 101, 99, 116, 105, 111, 110, 32, 97, 10, 115, 105, 103, 110, 97, 108, 32, 115, 10, 115, 105, 103, 110, 97, 108, 32, 116, 10]⟩) ∨ (i = .int .i64 4 ∧ s = .string ⟨#[115, 101, 99, 116, 105, 111, 110, 32, 97, 10, 115, 105, 103, 110, 97, 108, 32, 115, 10, 115, 105, 103, 110, 97, 108, 32, 116, 10, 112, 111, 105, 110, 116, 32, 112, 32, 105, 110, 32, 97, 10]⟩) ∨ (i = .int .i64 5 ∧ s = .string ⟨#[115, 101, 99, 116, 105, 111, 110, 32, 97, 10, 115, 105, 103, 110, 97, 108, 32, 115, 10, 115, 105, 103, 110, 97, 108, 32, 116, 10, 112, 111, 105, 110, 116, 32, 112, 32, 105, 110, 32, 97, 10]⟩)) (fun _ i => 5 - (intOf i).toNat)
  case atStart => exact .inl ⟨rfl, rfl⟩
  case round =>
    rcases hrel with ⟨rfl, rfl⟩ | ⟨rfl, rfl⟩ | ⟨rfl, rfl⟩ | ⟨rfl, rfl⟩ | ⟨rfl, rfl⟩ | ⟨rfl, rfl⟩

    · go_wp2
      go_round
      case rel => exact .inr (.inl ⟨by go_num, congrArg Value.string (by decide +kernel)⟩)
      case measure => simp [intOf]

    · go_wp2
      go_round
      case rel => exact .inr (.inr (.inl ⟨by go_num, congrArg Value.string (by decide +kernel)⟩))
      case measure => simp [intOf]

    · go_wp2
      go_round
      case rel => exact .inr (.inr (.inr (.inl ⟨by go_num, congrArg Value.string (by decide +kernel)⟩)))
      case measure => simp [intOf]

    · go_wp2
      go_round
      case rel => exact .inr (.inr (.inr (.inr (.inl ⟨by go_num, congrArg Value.string (by decide +kernel)⟩))))
      case measure => simp [intOf]

    · go_wp2
      go_round
      case rel => exact .inr (.inr (.inr (.inr (.inr (⟨by go_num, rfl⟩)))))
      case measure => simp [intOf]

    · go_wp2_with fail
      refine (D1.out _ _ (by decide +kernel)).mono ?_
      rintro en w2 ⟨o0, n0, c0, o1, n1, c1, o2, n2, c2, o3, n3, c3, rfl, hb2⟩
      have HB2 : Hid (Below w.heap.size w w2) := stepB (by repeat' (first | exact Below.refl _ _ | refine Below.alloc ?_ ?_ _ | (simp; done))) hb2
      clear hb2
      go_wp2_with fail
      refine (D2.out _ _ (by decide +kernel)).mono ?_
      rintro en w3 ⟨p0, m0, d0, p1, m1, d1, p2, m2, d2, p3, m3, d3, rfl, hb3⟩
      have HB3 : Hid (Below w.heap.size w w3) := stepB (HB2.out.alloc HB2.out.size _) hb3
      clear hb3
      go_wp2_with (go_at_call 6; refine (known_any HBY.out _).mono ?_; rintro e w4 ⟨rfl, hb4⟩)
      go_ret
      exact ⟨rfl, stepB ((HB3.out.alloc HB3.out.size _).alloc (by have := HB3.out.size; simp; omega) _) hb4⟩

set_option maxRecDepth 1000000 in
set_option maxHeartbeats 2000000 in
theorem walk_out (a : Int) (w : World) (h : a < 0 ∨ 5 ≤ a) : Calls Try.prog 3 #[.int .i64 a] w fun e w' => e = .returned (.bool true) ∧ Below w.heap.size w w' := by
  by_cases h1 : a < 0
  · go_enter Try.func3, Try.ntmps3
    go_wp2
    go_ret
    exact ⟨rfl, (Below.refl _ _).alloc (Nat.le_refl _) _⟩
  · have h2 : 5 ≤ a := by omega
    go_enter Try.func3, Try.ntmps3
    go_wp2
    go_ret
    exact ⟨rfl, (Below.refl _ _).alloc (Nat.le_refl _) _⟩
theorem walk (a : Int) (_ : (Lit.int .i64 a).wf = true) (w : World) : Calls Try.prog 3 #[.int .i64 a] w fun e w' => e = .returned (.bool true) ∧ Below w.heap.size w w' := by
  by_cases h : a < 0 ∨ 5 ≤ a
  · exact walk_out a w h
  · rcases (show a = 0 ∨ a = 1 ∨ a = 2 ∨ a = 3 ∨ a = 4 by omega) with rfl | rfl | rfl | rfl | rfl
    · exact walk0 byPlaces_any w
    · exact walk1 byPlaces_any w
    · exact walk2 byPlaces_any w
    · exact walk3 byPlaces_any w
    · exact walk4 byPlaces_any w

theorem own : ownKnob Try.prog.godebug = none := by kernel_rfl

set_option maxRecDepth 100000 in
theorem lifted (os : Os) (started : os.Started) (H : Type) (enc : TypeId × Value → H) :
    ReturnsInHanded {} Try.checked os 3 .any (Rows.planAheadSpec.pre6 enc Try.prog Try.f3 Rows.planAheadRow.domain false) (Rows.planAheadSpec.post enc Try.prog Try.f3 false true false false) := by
  refine returnsInHanded_of_change (C := Try.checked) own started (by kernel_rfl) Try.func3
    (ChangeSpec.witness6 (enc := enc) (C := Try.checked) false ⟨#[], #[.int .i64 0], []⟩ 8 (by kernel_rfl) (by kernel_rfl) (by kernel_rfl) (by kernel_rfl)) ?_
  intro W base args ds gs before hval0 hW _ _
  have hval : ∀ (j : Nat) t v, Try.f3.params[j]? = some t → args[j]? = some v → Value.okWide Try.prog W .any base t v := hval0
  have hW' := hW
  obtain ⟨p, q, hA0, hV, rfl, _, _⟩ := hW
  have hA : DataW.TrodAll enc Try.prog W 0 (fun _ => true) true Try.f3.params.toList args.toList ds p := hA0
  rw [Try.params3] at hA hval
  obtain ⟨v0, vs0, d0, ds0, p0, q0, hargs, rfl, rfl, h0, r0⟩ := trodAll_cons hA
  obtain ⟨rfl, rfl, rfl⟩ := trodAll_nil r0
  obtain rfl : args = #[v0] := by cases args; simp_all
  obtain ⟨rfl, rfl⟩ := trodVars_none hV
  obtain ⟨a0, rfl, rfl, rfl, w0⟩ := open_int Try.underlying3 (hval 0 3 v0 rfl rfl) h0
  clear hA0 hval0
  refine (walk a0 w0 W).mono fun e W' ⟨he, bel⟩ => ?_
  subst he
  exact ⟨_, rfl, _, _, _, [], _, [], hW', trodAll_mk1 (shut_bool Try.underlying4 _), (trodAll_cons_mk (shut_int Try.underlying3 w0) trodAll_mk0), rfl, bel.frame _, fun h => by cases h⟩

theorem over : Rows.planAheadRow.holds Try.pinned (OpenSpec.ofChange Rows.planAheadSpec) :=
  OpenClaim.holds_of_wide 3 Try.f3 rfl rfl rfl rfl rfl rfl rfl ⟨rfl, rfl, rfl, rfl, rfl⟩ rfl rfl rfl rfl rfl (by kernel_rfl) Try.func3 (by kernel_rfl)
    (of_decide_eq_true (by kernel_rfl)) (by unfold Func.isWrapper; first | (rw [if_pos (by decide +kernel)]; kernel_rfl) | (rw [if_neg (by decide +kernel)]; exact ⟨rfl, rfl⟩))
    (fun os started H enc _ => lifted os started H enc)


end Go.Proofs.Ytbifcicipkhohab.planAhead
namespace Go.Proofs.Ytbifcicipkhohab
theorem planAhead_holds : Rows.PlanAheadSaid := planAhead.over
#print axioms planAhead_holds
end Go.Proofs.Ytbifcicipkhohab
