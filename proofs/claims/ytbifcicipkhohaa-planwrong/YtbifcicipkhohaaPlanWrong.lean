/-
  Of every two numbers: PlanWrong returns true. No condition.
-/
import Derived.Test.YtbifcicipkhohaaRows
import Derived.Test.YtbifcicipkhohaaPlKnown
import Derived.Test.YtbifcicipkhohaaPlBy
import Derived.WalkKit
import Derived.ProofKit
import Derived.OpenShut
import Derived.ShutString
import Derived.ChangeOld
import Derived.Below
import Derived.SizedLaws
namespace Go.Proofs.Ytbifcicipkhohaa.planWrong
open Go.ChangeShapes Go.WideShapes Go.ChangeAt Go.RowKit

def lw : Lay := ⟨[⟨#[120]⟩], [(⟨#[112]⟩, 0)], [⟨#[115]⟩, ⟨#[116]⟩], []⟩
def baseL : List UInt8 := [115, 101, 99, 116, 105, 111, 110, 32, 120, 10, 115, 105, 103, 110, 97, 108, 32, 115, 10, 115, 105, 103, 110, 97, 108, 32, 116, 10, 112, 111, 105, 110, 116, 32, 112, 32, 105, 110, 32, 120, 10]
def rep : Nat → List UInt8
  | 0 => []
  | k + 1 => [35, 32, 110, 111, 116, 104, 105, 110, 103, 10] ++ rep k
theorem rep_snoc : ∀ k, rep k ++ [35, 32, 110, 111, 116, 104, 105, 110, 103, 10] = rep (k + 1)
  | 0 => rfl
  | k + 1 => by
    rw [rep, List.append_assoc, rep_snoc k]
    rfl
theorem rem_line : addLineP lw ⟨#[35, 32, 110, 111, 116, 104, 105, 110, 103]⟩ = (0, lw) := by kernel_rfl
theorem parse_rem : ∀ (k f n : Nat) (rest : List UInt8), n + k ≤ 60 → parseF (f + k) lw n ⟨(rep k ++ rest).toArray⟩ = parseF f lw (n + k) ⟨rest.toArray⟩
  | 0, f, n, rest, _ => rfl
  | k + 1, f, n, rest, h => by
    rw [show f + (k + 1) = (f + k) + 1 by omega, parse_ok (a := [35, 32, 110, 111, 116, 104, 105, 110, 103]) (rest := rep k ++ rest) (l' := lw) (by simp [rep]) (by decide) (by omega) rem_line, parse_rem k f (n + 1) rest (by omega)]
    congr 1
    omega
theorem base0 : addLineP Lay.zero ⟨#[115, 101, 99, 116, 105, 111, 110, 32, 120]⟩ = (0, (⟨[⟨#[120]⟩], [], [], []⟩ : Lay)) := by kernel_rfl
theorem base1 : addLineP (⟨[⟨#[120]⟩], [], [], []⟩ : Lay) ⟨#[115, 105, 103, 110, 97, 108, 32, 115]⟩ = (0, (⟨[⟨#[120]⟩], [], [⟨#[115]⟩], []⟩ : Lay)) := by kernel_rfl
theorem base2 : addLineP (⟨[⟨#[120]⟩], [], [⟨#[115]⟩], []⟩ : Lay) ⟨#[115, 105, 103, 110, 97, 108, 32, 116]⟩ = (0, (⟨[⟨#[120]⟩], [], [⟨#[115]⟩, ⟨#[116]⟩], []⟩ : Lay)) := by kernel_rfl
theorem base3 : addLineP (⟨[⟨#[120]⟩], [], [⟨#[115]⟩, ⟨#[116]⟩], []⟩ : Lay) ⟨#[112, 111, 105, 110, 116, 32, 112, 32, 105, 110, 32, 120]⟩ = (0, lw) := by kernel_rfl
theorem parse_base (rest : List UInt8) : parseF 61 Lay.zero 0 ⟨(baseL ++ rest).toArray⟩ = parseF 57 lw 4 ⟨rest.toArray⟩ := by
  rw [parse_ok (f := 60) (n := 0) (a := [115, 101, 99, 116, 105, 111, 110, 32, 120]) (rest := [115, 105, 103, 110, 97, 108, 32, 115, 10, 115, 105, 103, 110, 97, 108, 32, 116, 10, 112, 111, 105, 110, 116, 32, 112, 32, 105, 110, 32, 120, 10] ++ rest) (by simp [baseL]) (by decide) (by omega) base0]
  rw [parse_ok (f := 59) (n := 1) (a := [115, 105, 103, 110, 97, 108, 32, 115]) (rest := [115, 105, 103, 110, 97, 108, 32, 116, 10, 112, 111, 105, 110, 116, 32, 112, 32, 105, 110, 32, 120, 10] ++ rest) (by simp) (by decide) (by omega) base1]
  rw [parse_ok (f := 58) (n := 2) (a := [115, 105, 103, 110, 97, 108, 32, 116]) (rest := [112, 111, 105, 110, 116, 32, 112, 32, 105, 110, 32, 120, 10] ++ rest) (by simp) (by decide) (by omega) base2]
  rw [parse_ok (f := 57) (n := 3) (a := [112, 111, 105, 110, 116, 32, 112, 32, 105, 110, 32, 120]) (rest := rest) (by simp) (by decide) (by omega) base3]

theorem parse_all (n : Nat) (hn : n ≤ 20) (a : List UInt8) (e : Nat) (l' : Lay) (T : ByteArray) (hT : T.data.toList = baseL ++ rep n ++ (a ++ [10])) (ha : (10 : UInt8) ∉ a) (he : addLineP lw ⟨a.toArray⟩ = (e, l')) :
    parseP T = if e = 0 then (l', n + 5, 0) else (.zero, n + 5, e) := by
  rw [parseP, bytes_ext hT, List.append_assoc, parse_base, show (57 : Nat) = (57 - n) + n by omega, parse_rem n _ _ _ (by omega), show 57 - n = (56 - n) + 1 by omega]
  by_cases h0 : e = 0
  · subst h0
    rw [parse_ok (a := a) (rest := []) (l' := l') (by simp) ha (by omega) he, if_pos rfl]
    rw [show (⟨([] : List UInt8).toArray⟩ : ByteArray) = ⟨#[]⟩ from rfl, parse_end]
    congr 2
    omega
  · rw [parse_bad (a := a) (rest := []) (by simp) ha (by omega) he h0, if_neg h0]
    congr 2
    omega

theorem parse_call (hby : BySaid) (n : Nat) (hn : n ≤ 20) (a : List UInt8) (e : Nat) (l' : Lay) (hl : l'.signals.length = 2) (T : ByteArray) (hT : T.data.toList = baseL ++ rep n ++ (a ++ [10])) (ha : (10 : UInt8) ∉ a) (he : addLineP lw ⟨a.toArray⟩ = (e, l')) (hz : T.size ≤ 4294967295) (W : World) :
    Calls Try.prog 5 #[.string T] W fun en w' => ∃ o0 n0 c0 o1 n1 c1 o2 c2 o3 n3 c3, en = .returned (.tuple #[.agg #[.slice o0 n0 c0, .slice o1 n1 c1, .slice o2 (if e = 0 then 2 else 0) c2, .slice o3 n3 c3], .int .i64 ((n : Int) + 5), .int .i64 e]) ∧ Below W.heap.size W w' := by
  refine (parse_any hby T W hz).mono ?_
  rintro en w' ⟨v, rs, rfl, hr, hs, hb⟩
  rw [parse_all n hn a e l' T hT ha he] at hr ⊢
  obtain ⟨o0, n0, c0, h0⟩ := hs 0
  obtain ⟨o1, n1, c1, h1⟩ := hs 1
  obtain ⟨o3, n3, c3, h3⟩ := hs 3
  obtain ⟨o2, c2, h2, _⟩ := hr.g
  refine ⟨o0, n0, c0, o1, n1, c1, o2, c2, o3, n3, c3, ?_, hb⟩
  by_cases h : e = 0
  · subst h
    rw [h0, h1, h2, h3]
    simp [hl]
  · rw [h0, h1, h2, h3]
    simp [h, Lay.zero]

theorem line0 : ∃ l', addLineP lw ⟨#[]⟩ = (0, l') ∧ l'.signals.length = 2 := ⟨lw, by kernel_rfl, rfl⟩
set_option maxRecDepth 1000000 in
set_option maxHeartbeats 2000000 in
theorem walk0 (hby : BySaid) (n : Nat) (hn : n ≤ 20) (w : World) :
    Calls Try.prog 3 #[.int .i64 0, .int .i64 n] w fun e w' => e = .returned (.bool true) ∧ Below w.heap.size w w' := by
  have HBY : Hid BySaid := hby
  have D : Hid (∀ W T, T.data.toList = baseL ++ rep n ++ ([] ++ [10]) → T.size ≤ 4294967295 → Calls Try.prog 5 #[.string T] W fun en w' => ∃ o0 n0 c0 o1 n1 c1 o2 c2 o3 n3 c3, en = .returned (.tuple #[.agg #[.slice o0 n0 c0, .slice o1 n1 c1, .slice o2 2 c2, .slice o3 n3 c3], .int .i64 ((n : Int) + 5), .int .i64 0]) ∧ Below W.heap.size W w') := fun W T hT hz => by
    obtain ⟨l', h1, h2⟩ := line0
    exact parse_call hby n hn [] 0 l' h2 T hT (by decide) h1 hz W
  clear hby
  go_enter Try.func3, Try.ntmps3
  go_wp2
  go_loop [7, 8] (fun s i => ∃ (k : Nat) (S : ByteArray), k ≤ n ∧ i = .int .i64 k ∧ s = .string S ∧ S.data.toList = baseL ++ rep k ∧ S.size = 41 + 10 * k) (fun _ i => n - (intOf i).toNat)
  case atStart => exact ⟨0, _, by omega, rfl, rfl, rfl, rfl⟩
  case round =>
    obtain ⟨k, S, hk, rfl, rfl, hS, hz⟩ := hrel
    have HS : Hid (S.data.toList = baseL ++ rep k) := hS
    have HZ : Hid (S.size = 41 + 10 * k) := hz
    have hz' : S.size ≤ 300 := by omega
    clear hS hz
    by_cases hlt : k < n
    · go_wp2
      go_round
      case rel => exact ⟨k + 1, S ++ ⟨#[35, 32, 110, 111, 116, 104, 105, 110, 103, 10]⟩, by omega, by go_num, rfl, by rw [← rep_snoc, ← List.append_assoc, ← HS.out]; simp, by rw [ByteArray.size_append, HZ.out]; show 41 + 10 * k + 10 = _; omega⟩
      case measure => simp [intOf]; omega
    · have ek : k = n := by omega
      subst ek
      go_wp2_with fail
      refine (D.out _ _ (by simp [HS.out]) (by simp only [ByteArray.size_append]; show S.size + 0 + 1 ≤ _; omega)).mono ?_
      rintro en w2 ⟨o0, n0, c0, o1, n1, c1, o2, c2, o3, n3, c3, rfl, hb2⟩
      have ce : w2.cell? ⟨w.heap.size + 1, 0, none⟩ = some (.int .i64 0) := (hb2.cell (p := ⟨w.heap.size + 1, 0, none⟩) (by simp)).trans (by simp)
      have hlt : w.heap.size + 1 < w2.heap.size := by have := hb2.size; simp at this; omega
      have HB2 : Hid (Below w.heap.size w w2) := stepB (by repeat' (first | exact Below.refl _ _ | refine Below.alloc ?_ ?_ _ | (simp; done))) hb2
      clear hb2 D
      go_wp2_with (go_at_call 6; refine (known_any HBY.out _).mono ?_; rintro e w4 ⟨rfl, hb4⟩)
      go_ret
      exact ⟨rfl, stepB (HB2.out.alloc HB2.out.size _) hb4⟩

theorem line1 : ∃ l', addLineP lw ⟨#[115, 101, 99, 116, 105, 111, 110, 115, 32, 97]⟩ = (2, l') ∧ l'.signals.length = 2 := ⟨lw, by kernel_rfl, rfl⟩
set_option maxRecDepth 1000000 in
set_option maxHeartbeats 2000000 in
theorem walk1 (hby : BySaid) (n : Nat) (hn : n ≤ 20) (w : World) :
    Calls Try.prog 3 #[.int .i64 1, .int .i64 n] w fun e w' => e = .returned (.bool true) ∧ Below w.heap.size w w' := by
  have HBY : Hid BySaid := hby
  have D : Hid (∀ W T, T.data.toList = baseL ++ rep n ++ ([115, 101, 99, 116, 105, 111, 110, 115, 32, 97] ++ [10]) → T.size ≤ 4294967295 → Calls Try.prog 5 #[.string T] W fun en w' => ∃ o0 n0 c0 o1 n1 c1 o2 c2 o3 n3 c3, en = .returned (.tuple #[.agg #[.slice o0 n0 c0, .slice o1 n1 c1, .slice o2 0 c2, .slice o3 n3 c3], .int .i64 ((n : Int) + 5), .int .i64 2]) ∧ Below W.heap.size W w') := fun W T hT hz => by
    obtain ⟨l', h1, h2⟩ := line1
    exact parse_call hby n hn [115, 101, 99, 116, 105, 111, 110, 115, 32, 97] 2 l' h2 T hT (by decide) h1 hz W
  clear hby
  go_enter Try.func3, Try.ntmps3
  go_wp2
  go_loop [7, 8] (fun s i => ∃ (k : Nat) (S : ByteArray), k ≤ n ∧ i = .int .i64 k ∧ s = .string S ∧ S.data.toList = baseL ++ rep k ∧ S.size = 41 + 10 * k) (fun _ i => n - (intOf i).toNat)
  case atStart => exact ⟨0, _, by omega, rfl, rfl, rfl, rfl⟩
  case round =>
    obtain ⟨k, S, hk, rfl, rfl, hS, hz⟩ := hrel
    have HS : Hid (S.data.toList = baseL ++ rep k) := hS
    have HZ : Hid (S.size = 41 + 10 * k) := hz
    have hz' : S.size ≤ 300 := by omega
    clear hS hz
    by_cases hlt : k < n
    · go_wp2
      go_round
      case rel => exact ⟨k + 1, S ++ ⟨#[35, 32, 110, 111, 116, 104, 105, 110, 103, 10]⟩, by omega, by go_num, rfl, by rw [← rep_snoc, ← List.append_assoc, ← HS.out]; simp, by rw [ByteArray.size_append, HZ.out]; show 41 + 10 * k + 10 = _; omega⟩
      case measure => simp [intOf]; omega
    · have ek : k = n := by omega
      subst ek
      go_wp2_with fail
      refine (D.out _ _ (by simp [HS.out]) (by simp only [ByteArray.size_append]; show S.size + 10 + 1 ≤ _; omega)).mono ?_
      rintro en w2 ⟨o0, n0, c0, o1, n1, c1, o2, c2, o3, n3, c3, rfl, hb2⟩
      have ce : w2.cell? ⟨w.heap.size + 1, 1, none⟩ = some (.int .i64 2) := (hb2.cell (p := ⟨w.heap.size + 1, 1, none⟩) (by simp)).trans (by simp)
      have hlt : w.heap.size + 1 < w2.heap.size := by have := hb2.size; simp at this; omega
      have HB2 : Hid (Below w.heap.size w w2) := stepB (by repeat' (first | exact Below.refl _ _ | refine Below.alloc ?_ ?_ _ | (simp; done))) hb2
      clear hb2 D
      go_wp2_with (go_at_call 6; refine (known_any HBY.out _).mono ?_; rintro e w4 ⟨rfl, hb4⟩)
      go_ret
      exact ⟨rfl, stepB (HB2.out.alloc HB2.out.size _) hb4⟩

theorem line2 : ∃ l', addLineP lw ⟨#[115, 101, 99, 116, 105, 111, 110]⟩ = (2, l') ∧ l'.signals.length = 2 := ⟨lw, by kernel_rfl, rfl⟩
set_option maxRecDepth 1000000 in
set_option maxHeartbeats 2000000 in
theorem walk2 (hby : BySaid) (n : Nat) (hn : n ≤ 20) (w : World) :
    Calls Try.prog 3 #[.int .i64 2, .int .i64 n] w fun e w' => e = .returned (.bool true) ∧ Below w.heap.size w w' := by
  have HBY : Hid BySaid := hby
  have D : Hid (∀ W T, T.data.toList = baseL ++ rep n ++ ([115, 101, 99, 116, 105, 111, 110] ++ [10]) → T.size ≤ 4294967295 → Calls Try.prog 5 #[.string T] W fun en w' => ∃ o0 n0 c0 o1 n1 c1 o2 c2 o3 n3 c3, en = .returned (.tuple #[.agg #[.slice o0 n0 c0, .slice o1 n1 c1, .slice o2 0 c2, .slice o3 n3 c3], .int .i64 ((n : Int) + 5), .int .i64 2]) ∧ Below W.heap.size W w') := fun W T hT hz => by
    obtain ⟨l', h1, h2⟩ := line2
    exact parse_call hby n hn [115, 101, 99, 116, 105, 111, 110] 2 l' h2 T hT (by decide) h1 hz W
  clear hby
  go_enter Try.func3, Try.ntmps3
  go_wp2
  go_loop [7, 8] (fun s i => ∃ (k : Nat) (S : ByteArray), k ≤ n ∧ i = .int .i64 k ∧ s = .string S ∧ S.data.toList = baseL ++ rep k ∧ S.size = 41 + 10 * k) (fun _ i => n - (intOf i).toNat)
  case atStart => exact ⟨0, _, by omega, rfl, rfl, rfl, rfl⟩
  case round =>
    obtain ⟨k, S, hk, rfl, rfl, hS, hz⟩ := hrel
    have HS : Hid (S.data.toList = baseL ++ rep k) := hS
    have HZ : Hid (S.size = 41 + 10 * k) := hz
    have hz' : S.size ≤ 300 := by omega
    clear hS hz
    by_cases hlt : k < n
    · go_wp2
      go_round
      case rel => exact ⟨k + 1, S ++ ⟨#[35, 32, 110, 111, 116, 104, 105, 110, 103, 10]⟩, by omega, by go_num, rfl, by rw [← rep_snoc, ← List.append_assoc, ← HS.out]; simp, by rw [ByteArray.size_append, HZ.out]; show 41 + 10 * k + 10 = _; omega⟩
      case measure => simp [intOf]; omega
    · have ek : k = n := by omega
      subst ek
      go_wp2_with fail
      refine (D.out _ _ (by simp [HS.out]) (by simp only [ByteArray.size_append]; show S.size + 7 + 1 ≤ _; omega)).mono ?_
      rintro en w2 ⟨o0, n0, c0, o1, n1, c1, o2, c2, o3, n3, c3, rfl, hb2⟩
      have ce : w2.cell? ⟨w.heap.size + 1, 2, none⟩ = some (.int .i64 2) := (hb2.cell (p := ⟨w.heap.size + 1, 2, none⟩) (by simp)).trans (by simp)
      have hlt : w.heap.size + 1 < w2.heap.size := by have := hb2.size; simp at this; omega
      have HB2 : Hid (Below w.heap.size w w2) := stepB (by repeat' (first | exact Below.refl _ _ | refine Below.alloc ?_ ?_ _ | (simp; done))) hb2
      clear hb2 D
      go_wp2_with (go_at_call 6; refine (known_any HBY.out _).mono ?_; rintro e w4 ⟨rfl, hb4⟩)
      go_ret
      exact ⟨rfl, stepB (HB2.out.alloc HB2.out.size _) hb4⟩

theorem line3 : ∃ l', addLineP lw ⟨#[115, 101, 99, 116, 105, 111, 110, 32, 97, 32, 98]⟩ = (2, l') ∧ l'.signals.length = 2 := ⟨lw, by kernel_rfl, rfl⟩
set_option maxRecDepth 1000000 in
set_option maxHeartbeats 2000000 in
theorem walk3 (hby : BySaid) (n : Nat) (hn : n ≤ 20) (w : World) :
    Calls Try.prog 3 #[.int .i64 3, .int .i64 n] w fun e w' => e = .returned (.bool true) ∧ Below w.heap.size w w' := by
  have HBY : Hid BySaid := hby
  have D : Hid (∀ W T, T.data.toList = baseL ++ rep n ++ ([115, 101, 99, 116, 105, 111, 110, 32, 97, 32, 98] ++ [10]) → T.size ≤ 4294967295 → Calls Try.prog 5 #[.string T] W fun en w' => ∃ o0 n0 c0 o1 n1 c1 o2 c2 o3 n3 c3, en = .returned (.tuple #[.agg #[.slice o0 n0 c0, .slice o1 n1 c1, .slice o2 0 c2, .slice o3 n3 c3], .int .i64 ((n : Int) + 5), .int .i64 2]) ∧ Below W.heap.size W w') := fun W T hT hz => by
    obtain ⟨l', h1, h2⟩ := line3
    exact parse_call hby n hn [115, 101, 99, 116, 105, 111, 110, 32, 97, 32, 98] 2 l' h2 T hT (by decide) h1 hz W
  clear hby
  go_enter Try.func3, Try.ntmps3
  go_wp2
  go_loop [7, 8] (fun s i => ∃ (k : Nat) (S : ByteArray), k ≤ n ∧ i = .int .i64 k ∧ s = .string S ∧ S.data.toList = baseL ++ rep k ∧ S.size = 41 + 10 * k) (fun _ i => n - (intOf i).toNat)
  case atStart => exact ⟨0, _, by omega, rfl, rfl, rfl, rfl⟩
  case round =>
    obtain ⟨k, S, hk, rfl, rfl, hS, hz⟩ := hrel
    have HS : Hid (S.data.toList = baseL ++ rep k) := hS
    have HZ : Hid (S.size = 41 + 10 * k) := hz
    have hz' : S.size ≤ 300 := by omega
    clear hS hz
    by_cases hlt : k < n
    · go_wp2
      go_round
      case rel => exact ⟨k + 1, S ++ ⟨#[35, 32, 110, 111, 116, 104, 105, 110, 103, 10]⟩, by omega, by go_num, rfl, by rw [← rep_snoc, ← List.append_assoc, ← HS.out]; simp, by rw [ByteArray.size_append, HZ.out]; show 41 + 10 * k + 10 = _; omega⟩
      case measure => simp [intOf]; omega
    · have ek : k = n := by omega
      subst ek
      go_wp2_with fail
      refine (D.out _ _ (by simp [HS.out]) (by simp only [ByteArray.size_append]; show S.size + 11 + 1 ≤ _; omega)).mono ?_
      rintro en w2 ⟨o0, n0, c0, o1, n1, c1, o2, c2, o3, n3, c3, rfl, hb2⟩
      have ce : w2.cell? ⟨w.heap.size + 1, 3, none⟩ = some (.int .i64 2) := (hb2.cell (p := ⟨w.heap.size + 1, 3, none⟩) (by simp)).trans (by simp)
      have hlt : w.heap.size + 1 < w2.heap.size := by have := hb2.size; simp at this; omega
      have HB2 : Hid (Below w.heap.size w w2) := stepB (by repeat' (first | exact Below.refl _ _ | refine Below.alloc ?_ ?_ _ | (simp; done))) hb2
      clear hb2 D
      go_wp2_with (go_at_call 6; refine (known_any HBY.out _).mono ?_; rintro e w4 ⟨rfl, hb4⟩)
      go_ret
      exact ⟨rfl, stepB (HB2.out.alloc HB2.out.size _) hb4⟩

theorem line4 : ∃ l', addLineP lw ⟨#[115, 101, 99, 116, 105, 111, 110, 32, 55]⟩ = (3, l') ∧ l'.signals.length = 2 := ⟨lw, by kernel_rfl, rfl⟩
set_option maxRecDepth 1000000 in
set_option maxHeartbeats 2000000 in
theorem walk4 (hby : BySaid) (n : Nat) (hn : n ≤ 20) (w : World) :
    Calls Try.prog 3 #[.int .i64 4, .int .i64 n] w fun e w' => e = .returned (.bool true) ∧ Below w.heap.size w w' := by
  have HBY : Hid BySaid := hby
  have D : Hid (∀ W T, T.data.toList = baseL ++ rep n ++ ([115, 101, 99, 116, 105, 111, 110, 32, 55] ++ [10]) → T.size ≤ 4294967295 → Calls Try.prog 5 #[.string T] W fun en w' => ∃ o0 n0 c0 o1 n1 c1 o2 c2 o3 n3 c3, en = .returned (.tuple #[.agg #[.slice o0 n0 c0, .slice o1 n1 c1, .slice o2 0 c2, .slice o3 n3 c3], .int .i64 ((n : Int) + 5), .int .i64 3]) ∧ Below W.heap.size W w') := fun W T hT hz => by
    obtain ⟨l', h1, h2⟩ := line4
    exact parse_call hby n hn [115, 101, 99, 116, 105, 111, 110, 32, 55] 3 l' h2 T hT (by decide) h1 hz W
  clear hby
  go_enter Try.func3, Try.ntmps3
  go_wp2
  go_loop [7, 8] (fun s i => ∃ (k : Nat) (S : ByteArray), k ≤ n ∧ i = .int .i64 k ∧ s = .string S ∧ S.data.toList = baseL ++ rep k ∧ S.size = 41 + 10 * k) (fun _ i => n - (intOf i).toNat)
  case atStart => exact ⟨0, _, by omega, rfl, rfl, rfl, rfl⟩
  case round =>
    obtain ⟨k, S, hk, rfl, rfl, hS, hz⟩ := hrel
    have HS : Hid (S.data.toList = baseL ++ rep k) := hS
    have HZ : Hid (S.size = 41 + 10 * k) := hz
    have hz' : S.size ≤ 300 := by omega
    clear hS hz
    by_cases hlt : k < n
    · go_wp2
      go_round
      case rel => exact ⟨k + 1, S ++ ⟨#[35, 32, 110, 111, 116, 104, 105, 110, 103, 10]⟩, by omega, by go_num, rfl, by rw [← rep_snoc, ← List.append_assoc, ← HS.out]; simp, by rw [ByteArray.size_append, HZ.out]; show 41 + 10 * k + 10 = _; omega⟩
      case measure => simp [intOf]; omega
    · have ek : k = n := by omega
      subst ek
      go_wp2_with fail
      refine (D.out _ _ (by simp [HS.out]) (by simp only [ByteArray.size_append]; show S.size + 9 + 1 ≤ _; omega)).mono ?_
      rintro en w2 ⟨o0, n0, c0, o1, n1, c1, o2, c2, o3, n3, c3, rfl, hb2⟩
      have ce : w2.cell? ⟨w.heap.size + 1, 4, none⟩ = some (.int .i64 3) := (hb2.cell (p := ⟨w.heap.size + 1, 4, none⟩) (by simp)).trans (by simp)
      have hlt : w.heap.size + 1 < w2.heap.size := by have := hb2.size; simp at this; omega
      have HB2 : Hid (Below w.heap.size w w2) := stepB (by repeat' (first | exact Below.refl _ _ | refine Below.alloc ?_ ?_ _ | (simp; done))) hb2
      clear hb2 D
      go_wp2_with (go_at_call 6; refine (known_any HBY.out _).mono ?_; rintro e w4 ⟨rfl, hb4⟩)
      go_ret
      exact ⟨rfl, stepB (HB2.out.alloc HB2.out.size _) hb4⟩

theorem line5 : ∃ l', addLineP lw ⟨#[115, 101, 99, 116, 105, 111, 110, 32, 120]⟩ = (4, l') ∧ l'.signals.length = 2 := ⟨lw, by kernel_rfl, rfl⟩
set_option maxRecDepth 1000000 in
set_option maxHeartbeats 2000000 in
theorem walk5 (hby : BySaid) (n : Nat) (hn : n ≤ 20) (w : World) :
    Calls Try.prog 3 #[.int .i64 5, .int .i64 n] w fun e w' => e = .returned (.bool true) ∧ Below w.heap.size w w' := by
  have HBY : Hid BySaid := hby
  have D : Hid (∀ W T, T.data.toList = baseL ++ rep n ++ ([115, 101, 99, 116, 105, 111, 110, 32, 120] ++ [10]) → T.size ≤ 4294967295 → Calls Try.prog 5 #[.string T] W fun en w' => ∃ o0 n0 c0 o1 n1 c1 o2 c2 o3 n3 c3, en = .returned (.tuple #[.agg #[.slice o0 n0 c0, .slice o1 n1 c1, .slice o2 0 c2, .slice o3 n3 c3], .int .i64 ((n : Int) + 5), .int .i64 4]) ∧ Below W.heap.size W w') := fun W T hT hz => by
    obtain ⟨l', h1, h2⟩ := line5
    exact parse_call hby n hn [115, 101, 99, 116, 105, 111, 110, 32, 120] 4 l' h2 T hT (by decide) h1 hz W
  clear hby
  go_enter Try.func3, Try.ntmps3
  go_wp2
  go_loop [7, 8] (fun s i => ∃ (k : Nat) (S : ByteArray), k ≤ n ∧ i = .int .i64 k ∧ s = .string S ∧ S.data.toList = baseL ++ rep k ∧ S.size = 41 + 10 * k) (fun _ i => n - (intOf i).toNat)
  case atStart => exact ⟨0, _, by omega, rfl, rfl, rfl, rfl⟩
  case round =>
    obtain ⟨k, S, hk, rfl, rfl, hS, hz⟩ := hrel
    have HS : Hid (S.data.toList = baseL ++ rep k) := hS
    have HZ : Hid (S.size = 41 + 10 * k) := hz
    have hz' : S.size ≤ 300 := by omega
    clear hS hz
    by_cases hlt : k < n
    · go_wp2
      go_round
      case rel => exact ⟨k + 1, S ++ ⟨#[35, 32, 110, 111, 116, 104, 105, 110, 103, 10]⟩, by omega, by go_num, rfl, by rw [← rep_snoc, ← List.append_assoc, ← HS.out]; simp, by rw [ByteArray.size_append, HZ.out]; show 41 + 10 * k + 10 = _; omega⟩
      case measure => simp [intOf]; omega
    · have ek : k = n := by omega
      subst ek
      go_wp2_with fail
      refine (D.out _ _ (by simp [HS.out]) (by simp only [ByteArray.size_append]; show S.size + 9 + 1 ≤ _; omega)).mono ?_
      rintro en w2 ⟨o0, n0, c0, o1, n1, c1, o2, c2, o3, n3, c3, rfl, hb2⟩
      have ce : w2.cell? ⟨w.heap.size + 1, 5, none⟩ = some (.int .i64 4) := (hb2.cell (p := ⟨w.heap.size + 1, 5, none⟩) (by simp)).trans (by simp)
      have hlt : w.heap.size + 1 < w2.heap.size := by have := hb2.size; simp at this; omega
      have HB2 : Hid (Below w.heap.size w w2) := stepB (by repeat' (first | exact Below.refl _ _ | refine Below.alloc ?_ ?_ _ | (simp; done))) hb2
      clear hb2 D
      go_wp2_with (go_at_call 6; refine (known_any HBY.out _).mono ?_; rintro e w4 ⟨rfl, hb4⟩)
      go_ret
      exact ⟨rfl, stepB (HB2.out.alloc HB2.out.size _) hb4⟩

theorem line6 : ∃ l', addLineP lw ⟨#[112, 111, 105, 110, 116, 32, 113, 32, 105, 110, 32, 121]⟩ = (5, l') ∧ l'.signals.length = 2 := ⟨lw, by kernel_rfl, rfl⟩
set_option maxRecDepth 1000000 in
set_option maxHeartbeats 2000000 in
theorem walk6 (hby : BySaid) (n : Nat) (hn : n ≤ 20) (w : World) :
    Calls Try.prog 3 #[.int .i64 6, .int .i64 n] w fun e w' => e = .returned (.bool true) ∧ Below w.heap.size w w' := by
  have HBY : Hid BySaid := hby
  have D : Hid (∀ W T, T.data.toList = baseL ++ rep n ++ ([112, 111, 105, 110, 116, 32, 113, 32, 105, 110, 32, 121] ++ [10]) → T.size ≤ 4294967295 → Calls Try.prog 5 #[.string T] W fun en w' => ∃ o0 n0 c0 o1 n1 c1 o2 c2 o3 n3 c3, en = .returned (.tuple #[.agg #[.slice o0 n0 c0, .slice o1 n1 c1, .slice o2 0 c2, .slice o3 n3 c3], .int .i64 ((n : Int) + 5), .int .i64 5]) ∧ Below W.heap.size W w') := fun W T hT hz => by
    obtain ⟨l', h1, h2⟩ := line6
    exact parse_call hby n hn [112, 111, 105, 110, 116, 32, 113, 32, 105, 110, 32, 121] 5 l' h2 T hT (by decide) h1 hz W
  clear hby
  go_enter Try.func3, Try.ntmps3
  go_wp2
  go_loop [7, 8] (fun s i => ∃ (k : Nat) (S : ByteArray), k ≤ n ∧ i = .int .i64 k ∧ s = .string S ∧ S.data.toList = baseL ++ rep k ∧ S.size = 41 + 10 * k) (fun _ i => n - (intOf i).toNat)
  case atStart => exact ⟨0, _, by omega, rfl, rfl, rfl, rfl⟩
  case round =>
    obtain ⟨k, S, hk, rfl, rfl, hS, hz⟩ := hrel
    have HS : Hid (S.data.toList = baseL ++ rep k) := hS
    have HZ : Hid (S.size = 41 + 10 * k) := hz
    have hz' : S.size ≤ 300 := by omega
    clear hS hz
    by_cases hlt : k < n
    · go_wp2
      go_round
      case rel => exact ⟨k + 1, S ++ ⟨#[35, 32, 110, 111, 116, 104, 105, 110, 103, 10]⟩, by omega, by go_num, rfl, by rw [← rep_snoc, ← List.append_assoc, ← HS.out]; simp, by rw [ByteArray.size_append, HZ.out]; show 41 + 10 * k + 10 = _; omega⟩
      case measure => simp [intOf]; omega
    · have ek : k = n := by omega
      subst ek
      go_wp2_with fail
      refine (D.out _ _ (by simp [HS.out]) (by simp only [ByteArray.size_append]; show S.size + 12 + 1 ≤ _; omega)).mono ?_
      rintro en w2 ⟨o0, n0, c0, o1, n1, c1, o2, c2, o3, n3, c3, rfl, hb2⟩
      have ce : w2.cell? ⟨w.heap.size + 1, 6, none⟩ = some (.int .i64 5) := (hb2.cell (p := ⟨w.heap.size + 1, 6, none⟩) (by simp)).trans (by simp)
      have hlt : w.heap.size + 1 < w2.heap.size := by have := hb2.size; simp at this; omega
      have HB2 : Hid (Below w.heap.size w w2) := stepB (by repeat' (first | exact Below.refl _ _ | refine Below.alloc ?_ ?_ _ | (simp; done))) hb2
      clear hb2 D
      go_wp2_with (go_at_call 6; refine (known_any HBY.out _).mono ?_; rintro e w4 ⟨rfl, hb4⟩)
      go_ret
      exact ⟨rfl, stepB (HB2.out.alloc HB2.out.size _) hb4⟩

theorem line7 : ∃ l', addLineP lw ⟨#[112, 111, 105, 110, 116, 32, 112, 32, 111, 110, 32, 120]⟩ = (2, l') ∧ l'.signals.length = 2 := ⟨lw, by kernel_rfl, rfl⟩
set_option maxRecDepth 1000000 in
set_option maxHeartbeats 2000000 in
theorem walk7 (hby : BySaid) (n : Nat) (hn : n ≤ 20) (w : World) :
    Calls Try.prog 3 #[.int .i64 7, .int .i64 n] w fun e w' => e = .returned (.bool true) ∧ Below w.heap.size w w' := by
  have HBY : Hid BySaid := hby
  have D : Hid (∀ W T, T.data.toList = baseL ++ rep n ++ ([112, 111, 105, 110, 116, 32, 112, 32, 111, 110, 32, 120] ++ [10]) → T.size ≤ 4294967295 → Calls Try.prog 5 #[.string T] W fun en w' => ∃ o0 n0 c0 o1 n1 c1 o2 c2 o3 n3 c3, en = .returned (.tuple #[.agg #[.slice o0 n0 c0, .slice o1 n1 c1, .slice o2 0 c2, .slice o3 n3 c3], .int .i64 ((n : Int) + 5), .int .i64 2]) ∧ Below W.heap.size W w') := fun W T hT hz => by
    obtain ⟨l', h1, h2⟩ := line7
    exact parse_call hby n hn [112, 111, 105, 110, 116, 32, 112, 32, 111, 110, 32, 120] 2 l' h2 T hT (by decide) h1 hz W
  clear hby
  go_enter Try.func3, Try.ntmps3
  go_wp2
  go_loop [7, 8] (fun s i => ∃ (k : Nat) (S : ByteArray), k ≤ n ∧ i = .int .i64 k ∧ s = .string S ∧ S.data.toList = baseL ++ rep k ∧ S.size = 41 + 10 * k) (fun _ i => n - (intOf i).toNat)
  case atStart => exact ⟨0, _, by omega, rfl, rfl, rfl, rfl⟩
  case round =>
    obtain ⟨k, S, hk, rfl, rfl, hS, hz⟩ := hrel
    have HS : Hid (S.data.toList = baseL ++ rep k) := hS
    have HZ : Hid (S.size = 41 + 10 * k) := hz
    have hz' : S.size ≤ 300 := by omega
    clear hS hz
    by_cases hlt : k < n
    · go_wp2
      go_round
      case rel => exact ⟨k + 1, S ++ ⟨#[35, 32, 110, 111, 116, 104, 105, 110, 103, 10]⟩, by omega, by go_num, rfl, by rw [← rep_snoc, ← List.append_assoc, ← HS.out]; simp, by rw [ByteArray.size_append, HZ.out]; show 41 + 10 * k + 10 = _; omega⟩
      case measure => simp [intOf]; omega
    · have ek : k = n := by omega
      subst ek
      go_wp2_with fail
      refine (D.out _ _ (by simp [HS.out]) (by simp only [ByteArray.size_append]; show S.size + 12 + 1 ≤ _; omega)).mono ?_
      rintro en w2 ⟨o0, n0, c0, o1, n1, c1, o2, c2, o3, n3, c3, rfl, hb2⟩
      have ce : w2.cell? ⟨w.heap.size + 1, 7, none⟩ = some (.int .i64 2) := (hb2.cell (p := ⟨w.heap.size + 1, 7, none⟩) (by simp)).trans (by simp)
      have hlt : w.heap.size + 1 < w2.heap.size := by have := hb2.size; simp at this; omega
      have HB2 : Hid (Below w.heap.size w w2) := stepB (by repeat' (first | exact Below.refl _ _ | refine Below.alloc ?_ ?_ _ | (simp; done))) hb2
      clear hb2 D
      go_wp2_with (go_at_call 6; refine (known_any HBY.out _).mono ?_; rintro e w4 ⟨rfl, hb4⟩)
      go_ret
      exact ⟨rfl, stepB (HB2.out.alloc HB2.out.size _) hb4⟩

theorem line8 : ∃ l', addLineP lw ⟨#[114, 111, 117, 116, 101, 32, 114, 32, 102, 114, 111, 109, 32, 115, 32, 116, 111, 32, 116, 32, 118, 105, 97, 32, 115, 101, 116]⟩ = (3, l') ∧ l'.signals.length = 2 := ⟨lw, by kernel_rfl, rfl⟩
set_option maxRecDepth 1000000 in
set_option maxHeartbeats 2000000 in
theorem walk8 (hby : BySaid) (n : Nat) (hn : n ≤ 20) (w : World) :
    Calls Try.prog 3 #[.int .i64 8, .int .i64 n] w fun e w' => e = .returned (.bool true) ∧ Below w.heap.size w w' := by
  have HBY : Hid BySaid := hby
  have D : Hid (∀ W T, T.data.toList = baseL ++ rep n ++ ([114, 111, 117, 116, 101, 32, 114, 32, 102, 114, 111, 109, 32, 115, 32, 116, 111, 32, 116, 32, 118, 105, 97, 32, 115, 101, 116] ++ [10]) → T.size ≤ 4294967295 → Calls Try.prog 5 #[.string T] W fun en w' => ∃ o0 n0 c0 o1 n1 c1 o2 c2 o3 n3 c3, en = .returned (.tuple #[.agg #[.slice o0 n0 c0, .slice o1 n1 c1, .slice o2 0 c2, .slice o3 n3 c3], .int .i64 ((n : Int) + 5), .int .i64 3]) ∧ Below W.heap.size W w') := fun W T hT hz => by
    obtain ⟨l', h1, h2⟩ := line8
    exact parse_call hby n hn [114, 111, 117, 116, 101, 32, 114, 32, 102, 114, 111, 109, 32, 115, 32, 116, 111, 32, 116, 32, 118, 105, 97, 32, 115, 101, 116] 3 l' h2 T hT (by decide) h1 hz W
  clear hby
  go_enter Try.func3, Try.ntmps3
  go_wp2
  go_loop [7, 8] (fun s i => ∃ (k : Nat) (S : ByteArray), k ≤ n ∧ i = .int .i64 k ∧ s = .string S ∧ S.data.toList = baseL ++ rep k ∧ S.size = 41 + 10 * k) (fun _ i => n - (intOf i).toNat)
  case atStart => exact ⟨0, _, by omega, rfl, rfl, rfl, rfl⟩
  case round =>
    obtain ⟨k, S, hk, rfl, rfl, hS, hz⟩ := hrel
    have HS : Hid (S.data.toList = baseL ++ rep k) := hS
    have HZ : Hid (S.size = 41 + 10 * k) := hz
    have hz' : S.size ≤ 300 := by omega
    clear hS hz
    by_cases hlt : k < n
    · go_wp2
      go_round
      case rel => exact ⟨k + 1, S ++ ⟨#[35, 32, 110, 111, 116, 104, 105, 110, 103, 10]⟩, by omega, by go_num, rfl, by rw [← rep_snoc, ← List.append_assoc, ← HS.out]; simp, by rw [ByteArray.size_append, HZ.out]; show 41 + 10 * k + 10 = _; omega⟩
      case measure => simp [intOf]; omega
    · have ek : k = n := by omega
      subst ek
      go_wp2_with fail
      refine (D.out _ _ (by simp [HS.out]) (by simp only [ByteArray.size_append]; show S.size + 27 + 1 ≤ _; omega)).mono ?_
      rintro en w2 ⟨o0, n0, c0, o1, n1, c1, o2, c2, o3, n3, c3, rfl, hb2⟩
      have ce : w2.cell? ⟨w.heap.size + 1, 8, none⟩ = some (.int .i64 3) := (hb2.cell (p := ⟨w.heap.size + 1, 8, none⟩) (by simp)).trans (by simp)
      have hlt : w.heap.size + 1 < w2.heap.size := by have := hb2.size; simp at this; omega
      have HB2 : Hid (Below w.heap.size w w2) := stepB (by repeat' (first | exact Below.refl _ _ | refine Below.alloc ?_ ?_ _ | (simp; done))) hb2
      clear hb2 D
      go_wp2_with (go_at_call 6; refine (known_any HBY.out _).mono ?_; rintro e w4 ⟨rfl, hb4⟩)
      go_ret
      exact ⟨rfl, stepB (HB2.out.alloc HB2.out.size _) hb4⟩

theorem line9 : ∃ l', addLineP lw ⟨#[114, 111, 117, 116, 101, 32, 114, 32, 102, 114, 111, 109, 32, 115, 32, 116, 111, 32, 116, 32, 118, 105, 97, 32, 120, 32, 115, 101, 116, 32, 112]⟩ = (2, l') ∧ l'.signals.length = 2 := ⟨lw, by kernel_rfl, rfl⟩
set_option maxRecDepth 1000000 in
set_option maxHeartbeats 2000000 in
theorem walk9 (hby : BySaid) (n : Nat) (hn : n ≤ 20) (w : World) :
    Calls Try.prog 3 #[.int .i64 9, .int .i64 n] w fun e w' => e = .returned (.bool true) ∧ Below w.heap.size w w' := by
  have HBY : Hid BySaid := hby
  have D : Hid (∀ W T, T.data.toList = baseL ++ rep n ++ ([114, 111, 117, 116, 101, 32, 114, 32, 102, 114, 111, 109, 32, 115, 32, 116, 111, 32, 116, 32, 118, 105, 97, 32, 120, 32, 115, 101, 116, 32, 112] ++ [10]) → T.size ≤ 4294967295 → Calls Try.prog 5 #[.string T] W fun en w' => ∃ o0 n0 c0 o1 n1 c1 o2 c2 o3 n3 c3, en = .returned (.tuple #[.agg #[.slice o0 n0 c0, .slice o1 n1 c1, .slice o2 0 c2, .slice o3 n3 c3], .int .i64 ((n : Int) + 5), .int .i64 2]) ∧ Below W.heap.size W w') := fun W T hT hz => by
    obtain ⟨l', h1, h2⟩ := line9
    exact parse_call hby n hn [114, 111, 117, 116, 101, 32, 114, 32, 102, 114, 111, 109, 32, 115, 32, 116, 111, 32, 116, 32, 118, 105, 97, 32, 120, 32, 115, 101, 116, 32, 112] 2 l' h2 T hT (by decide) h1 hz W
  clear hby
  go_enter Try.func3, Try.ntmps3
  go_wp2
  go_loop [7, 8] (fun s i => ∃ (k : Nat) (S : ByteArray), k ≤ n ∧ i = .int .i64 k ∧ s = .string S ∧ S.data.toList = baseL ++ rep k ∧ S.size = 41 + 10 * k) (fun _ i => n - (intOf i).toNat)
  case atStart => exact ⟨0, _, by omega, rfl, rfl, rfl, rfl⟩
  case round =>
    obtain ⟨k, S, hk, rfl, rfl, hS, hz⟩ := hrel
    have HS : Hid (S.data.toList = baseL ++ rep k) := hS
    have HZ : Hid (S.size = 41 + 10 * k) := hz
    have hz' : S.size ≤ 300 := by omega
    clear hS hz
    by_cases hlt : k < n
    · go_wp2
      go_round
      case rel => exact ⟨k + 1, S ++ ⟨#[35, 32, 110, 111, 116, 104, 105, 110, 103, 10]⟩, by omega, by go_num, rfl, by rw [← rep_snoc, ← List.append_assoc, ← HS.out]; simp, by rw [ByteArray.size_append, HZ.out]; show 41 + 10 * k + 10 = _; omega⟩
      case measure => simp [intOf]; omega
    · have ek : k = n := by omega
      subst ek
      go_wp2_with fail
      refine (D.out _ _ (by simp [HS.out]) (by simp only [ByteArray.size_append]; show S.size + 31 + 1 ≤ _; omega)).mono ?_
      rintro en w2 ⟨o0, n0, c0, o1, n1, c1, o2, c2, o3, n3, c3, rfl, hb2⟩
      have ce : w2.cell? ⟨w.heap.size + 1, 9, none⟩ = some (.int .i64 2) := (hb2.cell (p := ⟨w.heap.size + 1, 9, none⟩) (by simp)).trans (by simp)
      have hlt : w.heap.size + 1 < w2.heap.size := by have := hb2.size; simp at this; omega
      have HB2 : Hid (Below w.heap.size w w2) := stepB (by repeat' (first | exact Below.refl _ _ | refine Below.alloc ?_ ?_ _ | (simp; done))) hb2
      clear hb2 D
      go_wp2_with (go_at_call 6; refine (known_any HBY.out _).mono ?_; rintro e w4 ⟨rfl, hb4⟩)
      go_ret
      exact ⟨rfl, stepB (HB2.out.alloc HB2.out.size _) hb4⟩

theorem line10 : ∃ l', addLineP lw ⟨#[114, 111, 117, 116, 101, 32, 114, 32, 102, 114, 111, 109, 32, 115, 32, 116, 111, 32, 116, 32, 118, 105, 97, 32, 120, 32, 115, 101, 116, 32, 112, 42]⟩ = (2, l') ∧ l'.signals.length = 2 := ⟨lw, by kernel_rfl, rfl⟩
set_option maxRecDepth 1000000 in
set_option maxHeartbeats 2000000 in
theorem walk10 (hby : BySaid) (n : Nat) (hn : n ≤ 20) (w : World) :
    Calls Try.prog 3 #[.int .i64 10, .int .i64 n] w fun e w' => e = .returned (.bool true) ∧ Below w.heap.size w w' := by
  have HBY : Hid BySaid := hby
  have D : Hid (∀ W T, T.data.toList = baseL ++ rep n ++ ([114, 111, 117, 116, 101, 32, 114, 32, 102, 114, 111, 109, 32, 115, 32, 116, 111, 32, 116, 32, 118, 105, 97, 32, 120, 32, 115, 101, 116, 32, 112, 42] ++ [10]) → T.size ≤ 4294967295 → Calls Try.prog 5 #[.string T] W fun en w' => ∃ o0 n0 c0 o1 n1 c1 o2 c2 o3 n3 c3, en = .returned (.tuple #[.agg #[.slice o0 n0 c0, .slice o1 n1 c1, .slice o2 0 c2, .slice o3 n3 c3], .int .i64 ((n : Int) + 5), .int .i64 2]) ∧ Below W.heap.size W w') := fun W T hT hz => by
    obtain ⟨l', h1, h2⟩ := line10
    exact parse_call hby n hn [114, 111, 117, 116, 101, 32, 114, 32, 102, 114, 111, 109, 32, 115, 32, 116, 111, 32, 116, 32, 118, 105, 97, 32, 120, 32, 115, 101, 116, 32, 112, 42] 2 l' h2 T hT (by decide) h1 hz W
  clear hby
  go_enter Try.func3, Try.ntmps3
  go_wp2
  go_loop [7, 8] (fun s i => ∃ (k : Nat) (S : ByteArray), k ≤ n ∧ i = .int .i64 k ∧ s = .string S ∧ S.data.toList = baseL ++ rep k ∧ S.size = 41 + 10 * k) (fun _ i => n - (intOf i).toNat)
  case atStart => exact ⟨0, _, by omega, rfl, rfl, rfl, rfl⟩
  case round =>
    obtain ⟨k, S, hk, rfl, rfl, hS, hz⟩ := hrel
    have HS : Hid (S.data.toList = baseL ++ rep k) := hS
    have HZ : Hid (S.size = 41 + 10 * k) := hz
    have hz' : S.size ≤ 300 := by omega
    clear hS hz
    by_cases hlt : k < n
    · go_wp2
      go_round
      case rel => exact ⟨k + 1, S ++ ⟨#[35, 32, 110, 111, 116, 104, 105, 110, 103, 10]⟩, by omega, by go_num, rfl, by rw [← rep_snoc, ← List.append_assoc, ← HS.out]; simp, by rw [ByteArray.size_append, HZ.out]; show 41 + 10 * k + 10 = _; omega⟩
      case measure => simp [intOf]; omega
    · have ek : k = n := by omega
      subst ek
      go_wp2_with fail
      refine (D.out _ _ (by simp [HS.out]) (by simp only [ByteArray.size_append]; show S.size + 32 + 1 ≤ _; omega)).mono ?_
      rintro en w2 ⟨o0, n0, c0, o1, n1, c1, o2, c2, o3, n3, c3, rfl, hb2⟩
      have ce : w2.cell? ⟨w.heap.size + 1, 10, none⟩ = some (.int .i64 2) := (hb2.cell (p := ⟨w.heap.size + 1, 10, none⟩) (by simp)).trans (by simp)
      have hlt : w.heap.size + 1 < w2.heap.size := by have := hb2.size; simp at this; omega
      have HB2 : Hid (Below w.heap.size w w2) := stepB (by repeat' (first | exact Below.refl _ _ | refine Below.alloc ?_ ?_ _ | (simp; done))) hb2
      clear hb2 D
      go_wp2_with (go_at_call 6; refine (known_any HBY.out _).mono ?_; rintro e w4 ⟨rfl, hb4⟩)
      go_ret
      exact ⟨rfl, stepB (HB2.out.alloc HB2.out.size _) hb4⟩

theorem line11 : ∃ l', addLineP lw ⟨#[114, 111, 117, 116, 101, 32, 114, 32, 102, 114, 111, 109, 32, 115, 32, 116, 111, 32, 116, 32, 118, 105, 97, 32, 120, 32, 102, 108, 97, 110, 107, 32, 113, 43]⟩ = (5, l') ∧ l'.signals.length = 2 := ⟨lw, by kernel_rfl, rfl⟩
set_option maxRecDepth 1000000 in
set_option maxHeartbeats 2000000 in
theorem walk11 (hby : BySaid) (n : Nat) (hn : n ≤ 20) (w : World) :
    Calls Try.prog 3 #[.int .i64 11, .int .i64 n] w fun e w' => e = .returned (.bool true) ∧ Below w.heap.size w w' := by
  have HBY : Hid BySaid := hby
  have D : Hid (∀ W T, T.data.toList = baseL ++ rep n ++ ([114, 111, 117, 116, 101, 32, 114, 32, 102, 114, 111, 109, 32, 115, 32, 116, 111, 32, 116, 32, 118, 105, 97, 32, 120, 32, 102, 108, 97, 110, 107, 32, 113, 43] ++ [10]) → T.size ≤ 4294967295 → Calls Try.prog 5 #[.string T] W fun en w' => ∃ o0 n0 c0 o1 n1 c1 o2 c2 o3 n3 c3, en = .returned (.tuple #[.agg #[.slice o0 n0 c0, .slice o1 n1 c1, .slice o2 0 c2, .slice o3 n3 c3], .int .i64 ((n : Int) + 5), .int .i64 5]) ∧ Below W.heap.size W w') := fun W T hT hz => by
    obtain ⟨l', h1, h2⟩ := line11
    exact parse_call hby n hn [114, 111, 117, 116, 101, 32, 114, 32, 102, 114, 111, 109, 32, 115, 32, 116, 111, 32, 116, 32, 118, 105, 97, 32, 120, 32, 102, 108, 97, 110, 107, 32, 113, 43] 5 l' h2 T hT (by decide) h1 hz W
  clear hby
  go_enter Try.func3, Try.ntmps3
  go_wp2
  go_loop [7, 8] (fun s i => ∃ (k : Nat) (S : ByteArray), k ≤ n ∧ i = .int .i64 k ∧ s = .string S ∧ S.data.toList = baseL ++ rep k ∧ S.size = 41 + 10 * k) (fun _ i => n - (intOf i).toNat)
  case atStart => exact ⟨0, _, by omega, rfl, rfl, rfl, rfl⟩
  case round =>
    obtain ⟨k, S, hk, rfl, rfl, hS, hz⟩ := hrel
    have HS : Hid (S.data.toList = baseL ++ rep k) := hS
    have HZ : Hid (S.size = 41 + 10 * k) := hz
    have hz' : S.size ≤ 300 := by omega
    clear hS hz
    by_cases hlt : k < n
    · go_wp2
      go_round
      case rel => exact ⟨k + 1, S ++ ⟨#[35, 32, 110, 111, 116, 104, 105, 110, 103, 10]⟩, by omega, by go_num, rfl, by rw [← rep_snoc, ← List.append_assoc, ← HS.out]; simp, by rw [ByteArray.size_append, HZ.out]; show 41 + 10 * k + 10 = _; omega⟩
      case measure => simp [intOf]; omega
    · have ek : k = n := by omega
      subst ek
      go_wp2_with fail
      refine (D.out _ _ (by simp [HS.out]) (by simp only [ByteArray.size_append]; show S.size + 34 + 1 ≤ _; omega)).mono ?_
      rintro en w2 ⟨o0, n0, c0, o1, n1, c1, o2, c2, o3, n3, c3, rfl, hb2⟩
      have ce : w2.cell? ⟨w.heap.size + 1, 11, none⟩ = some (.int .i64 5) := (hb2.cell (p := ⟨w.heap.size + 1, 11, none⟩) (by simp)).trans (by simp)
      have hlt : w.heap.size + 1 < w2.heap.size := by have := hb2.size; simp at this; omega
      have HB2 : Hid (Below w.heap.size w w2) := stepB (by repeat' (first | exact Below.refl _ _ | refine Below.alloc ?_ ?_ _ | (simp; done))) hb2
      clear hb2 D
      go_wp2_with (go_at_call 6; refine (known_any HBY.out _).mono ?_; rintro e w4 ⟨rfl, hb4⟩)
      go_ret
      exact ⟨rfl, stepB (HB2.out.alloc HB2.out.size _) hb4⟩

theorem line12 : ∃ l', addLineP lw ⟨#[114, 111, 117, 116, 101, 32, 114, 32, 102, 114, 111, 109, 32, 115, 32, 116, 111, 32, 117, 32, 118, 105, 97, 32, 120]⟩ = (5, l') ∧ l'.signals.length = 2 := ⟨lw, by kernel_rfl, rfl⟩
set_option maxRecDepth 1000000 in
set_option maxHeartbeats 2000000 in
theorem walk12 (hby : BySaid) (n : Nat) (hn : n ≤ 20) (w : World) :
    Calls Try.prog 3 #[.int .i64 12, .int .i64 n] w fun e w' => e = .returned (.bool true) ∧ Below w.heap.size w w' := by
  have HBY : Hid BySaid := hby
  have D : Hid (∀ W T, T.data.toList = baseL ++ rep n ++ ([114, 111, 117, 116, 101, 32, 114, 32, 102, 114, 111, 109, 32, 115, 32, 116, 111, 32, 117, 32, 118, 105, 97, 32, 120] ++ [10]) → T.size ≤ 4294967295 → Calls Try.prog 5 #[.string T] W fun en w' => ∃ o0 n0 c0 o1 n1 c1 o2 c2 o3 n3 c3, en = .returned (.tuple #[.agg #[.slice o0 n0 c0, .slice o1 n1 c1, .slice o2 0 c2, .slice o3 n3 c3], .int .i64 ((n : Int) + 5), .int .i64 5]) ∧ Below W.heap.size W w') := fun W T hT hz => by
    obtain ⟨l', h1, h2⟩ := line12
    exact parse_call hby n hn [114, 111, 117, 116, 101, 32, 114, 32, 102, 114, 111, 109, 32, 115, 32, 116, 111, 32, 117, 32, 118, 105, 97, 32, 120] 5 l' h2 T hT (by decide) h1 hz W
  clear hby
  go_enter Try.func3, Try.ntmps3
  go_wp2
  go_loop [7, 8] (fun s i => ∃ (k : Nat) (S : ByteArray), k ≤ n ∧ i = .int .i64 k ∧ s = .string S ∧ S.data.toList = baseL ++ rep k ∧ S.size = 41 + 10 * k) (fun _ i => n - (intOf i).toNat)
  case atStart => exact ⟨0, _, by omega, rfl, rfl, rfl, rfl⟩
  case round =>
    obtain ⟨k, S, hk, rfl, rfl, hS, hz⟩ := hrel
    have HS : Hid (S.data.toList = baseL ++ rep k) := hS
    have HZ : Hid (S.size = 41 + 10 * k) := hz
    have hz' : S.size ≤ 300 := by omega
    clear hS hz
    by_cases hlt : k < n
    · go_wp2
      go_round
      case rel => exact ⟨k + 1, S ++ ⟨#[35, 32, 110, 111, 116, 104, 105, 110, 103, 10]⟩, by omega, by go_num, rfl, by rw [← rep_snoc, ← List.append_assoc, ← HS.out]; simp, by rw [ByteArray.size_append, HZ.out]; show 41 + 10 * k + 10 = _; omega⟩
      case measure => simp [intOf]; omega
    · have ek : k = n := by omega
      subst ek
      go_wp2_with fail
      refine (D.out _ _ (by simp [HS.out]) (by simp only [ByteArray.size_append]; show S.size + 25 + 1 ≤ _; omega)).mono ?_
      rintro en w2 ⟨o0, n0, c0, o1, n1, c1, o2, c2, o3, n3, c3, rfl, hb2⟩
      have ce : w2.cell? ⟨w.heap.size + 1, 12, none⟩ = some (.int .i64 5) := (hb2.cell (p := ⟨w.heap.size + 1, 12, none⟩) (by simp)).trans (by simp)
      have hlt : w.heap.size + 1 < w2.heap.size := by have := hb2.size; simp at this; omega
      have HB2 : Hid (Below w.heap.size w w2) := stepB (by repeat' (first | exact Below.refl _ _ | refine Below.alloc ?_ ?_ _ | (simp; done))) hb2
      clear hb2 D
      go_wp2_with (go_at_call 6; refine (known_any HBY.out _).mono ?_; rintro e w4 ⟨rfl, hb4⟩)
      go_ret
      exact ⟨rfl, stepB (HB2.out.alloc HB2.out.size _) hb4⟩

theorem line13 : ∃ l', addLineP lw ⟨#[115, 101, 99, 116, 105, 111, 110, 32, 115, 101, 116]⟩ = (3, l') ∧ l'.signals.length = 2 := ⟨lw, by kernel_rfl, rfl⟩
set_option maxRecDepth 1000000 in
set_option maxHeartbeats 2000000 in
theorem walk13 (hby : BySaid) (n : Nat) (hn : n ≤ 20) (w : World) :
    Calls Try.prog 3 #[.int .i64 13, .int .i64 n] w fun e w' => e = .returned (.bool true) ∧ Below w.heap.size w w' := by
  have HBY : Hid BySaid := hby
  have D : Hid (∀ W T, T.data.toList = baseL ++ rep n ++ ([115, 101, 99, 116, 105, 111, 110, 32, 115, 101, 116] ++ [10]) → T.size ≤ 4294967295 → Calls Try.prog 5 #[.string T] W fun en w' => ∃ o0 n0 c0 o1 n1 c1 o2 c2 o3 n3 c3, en = .returned (.tuple #[.agg #[.slice o0 n0 c0, .slice o1 n1 c1, .slice o2 0 c2, .slice o3 n3 c3], .int .i64 ((n : Int) + 5), .int .i64 3]) ∧ Below W.heap.size W w') := fun W T hT hz => by
    obtain ⟨l', h1, h2⟩ := line13
    exact parse_call hby n hn [115, 101, 99, 116, 105, 111, 110, 32, 115, 101, 116] 3 l' h2 T hT (by decide) h1 hz W
  clear hby
  go_enter Try.func3, Try.ntmps3
  go_wp2
  go_loop [7, 8] (fun s i => ∃ (k : Nat) (S : ByteArray), k ≤ n ∧ i = .int .i64 k ∧ s = .string S ∧ S.data.toList = baseL ++ rep k ∧ S.size = 41 + 10 * k) (fun _ i => n - (intOf i).toNat)
  case atStart => exact ⟨0, _, by omega, rfl, rfl, rfl, rfl⟩
  case round =>
    obtain ⟨k, S, hk, rfl, rfl, hS, hz⟩ := hrel
    have HS : Hid (S.data.toList = baseL ++ rep k) := hS
    have HZ : Hid (S.size = 41 + 10 * k) := hz
    have hz' : S.size ≤ 300 := by omega
    clear hS hz
    by_cases hlt : k < n
    · go_wp2
      go_round
      case rel => exact ⟨k + 1, S ++ ⟨#[35, 32, 110, 111, 116, 104, 105, 110, 103, 10]⟩, by omega, by go_num, rfl, by rw [← rep_snoc, ← List.append_assoc, ← HS.out]; simp, by rw [ByteArray.size_append, HZ.out]; show 41 + 10 * k + 10 = _; omega⟩
      case measure => simp [intOf]; omega
    · have ek : k = n := by omega
      subst ek
      go_wp2_with fail
      refine (D.out _ _ (by simp [HS.out]) (by simp only [ByteArray.size_append]; show S.size + 11 + 1 ≤ _; omega)).mono ?_
      rintro en w2 ⟨o0, n0, c0, o1, n1, c1, o2, c2, o3, n3, c3, rfl, hb2⟩
      have ce : w2.cell? ⟨w.heap.size + 1, 13, none⟩ = some (.int .i64 3) := (hb2.cell (p := ⟨w.heap.size + 1, 13, none⟩) (by simp)).trans (by simp)
      have hlt : w.heap.size + 1 < w2.heap.size := by have := hb2.size; simp at this; omega
      have HB2 : Hid (Below w.heap.size w w2) := stepB (by repeat' (first | exact Below.refl _ _ | refine Below.alloc ?_ ?_ _ | (simp; done))) hb2
      clear hb2 D
      go_wp2_with (go_at_call 6; refine (known_any HBY.out _).mono ?_; rintro e w4 ⟨rfl, hb4⟩)
      go_ret
      exact ⟨rfl, stepB (HB2.out.alloc HB2.out.size _) hb4⟩

theorem line14 : ∃ l', addLineP lw ⟨#[115, 105, 103, 110, 97, 108, 32, 255]⟩ = (2, l') ∧ l'.signals.length = 2 := ⟨lw, by kernel_rfl, rfl⟩
set_option maxRecDepth 1000000 in
set_option maxHeartbeats 2000000 in
theorem walk14 (hby : BySaid) (n : Nat) (hn : n ≤ 20) (w : World) :
    Calls Try.prog 3 #[.int .i64 14, .int .i64 n] w fun e w' => e = .returned (.bool true) ∧ Below w.heap.size w w' := by
  have HBY : Hid BySaid := hby
  have D : Hid (∀ W T, T.data.toList = baseL ++ rep n ++ ([115, 105, 103, 110, 97, 108, 32, 255] ++ [10]) → T.size ≤ 4294967295 → Calls Try.prog 5 #[.string T] W fun en w' => ∃ o0 n0 c0 o1 n1 c1 o2 c2 o3 n3 c3, en = .returned (.tuple #[.agg #[.slice o0 n0 c0, .slice o1 n1 c1, .slice o2 0 c2, .slice o3 n3 c3], .int .i64 ((n : Int) + 5), .int .i64 2]) ∧ Below W.heap.size W w') := fun W T hT hz => by
    obtain ⟨l', h1, h2⟩ := line14
    exact parse_call hby n hn [115, 105, 103, 110, 97, 108, 32, 255] 2 l' h2 T hT (by decide) h1 hz W
  clear hby
  go_enter Try.func3, Try.ntmps3
  go_wp2
  go_loop [7, 8] (fun s i => ∃ (k : Nat) (S : ByteArray), k ≤ n ∧ i = .int .i64 k ∧ s = .string S ∧ S.data.toList = baseL ++ rep k ∧ S.size = 41 + 10 * k) (fun _ i => n - (intOf i).toNat)
  case atStart => exact ⟨0, _, by omega, rfl, rfl, rfl, rfl⟩
  case round =>
    obtain ⟨k, S, hk, rfl, rfl, hS, hz⟩ := hrel
    have HS : Hid (S.data.toList = baseL ++ rep k) := hS
    have HZ : Hid (S.size = 41 + 10 * k) := hz
    have hz' : S.size ≤ 300 := by omega
    clear hS hz
    by_cases hlt : k < n
    · go_wp2
      go_round
      case rel => exact ⟨k + 1, S ++ ⟨#[35, 32, 110, 111, 116, 104, 105, 110, 103, 10]⟩, by omega, by go_num, rfl, by rw [← rep_snoc, ← List.append_assoc, ← HS.out]; simp, by rw [ByteArray.size_append, HZ.out]; show 41 + 10 * k + 10 = _; omega⟩
      case measure => simp [intOf]; omega
    · have ek : k = n := by omega
      subst ek
      go_wp2_with fail
      refine (D.out _ _ (by simp [HS.out]) (by simp only [ByteArray.size_append]; show S.size + 8 + 1 ≤ _; omega)).mono ?_
      rintro en w2 ⟨o0, n0, c0, o1, n1, c1, o2, c2, o3, n3, c3, rfl, hb2⟩
      have ce : w2.cell? ⟨w.heap.size + 1, 14, none⟩ = some (.int .i64 2) := (hb2.cell (p := ⟨w.heap.size + 1, 14, none⟩) (by simp)).trans (by simp)
      have hlt : w.heap.size + 1 < w2.heap.size := by have := hb2.size; simp at this; omega
      have HB2 : Hid (Below w.heap.size w w2) := stepB (by repeat' (first | exact Below.refl _ _ | refine Below.alloc ?_ ?_ _ | (simp; done))) hb2
      clear hb2 D
      go_wp2_with (go_at_call 6; refine (known_any HBY.out _).mono ?_; rintro e w4 ⟨rfl, hb4⟩)
      go_ret
      exact ⟨rfl, stepB (HB2.out.alloc HB2.out.size _) hb4⟩

set_option maxRecDepth 1000000 in
set_option maxHeartbeats 2000000 in
theorem walk_out (a b : Int) (w : World) (h : a < 0 ∨ 15 ≤ a ∨ b < 0 ∨ 20 < b) :
    Calls Try.prog 3 #[.int .i64 a, .int .i64 b] w fun e w' => e = .returned (.bool true) ∧ Below w.heap.size w w' := by
  by_cases h1 : a < 0
  · go_enter Try.func3, Try.ntmps3
    go_wp2
    go_ret
    exact ⟨rfl, ((Below.refl _ _).alloc (Nat.le_refl _) _).alloc (by simp) _⟩
  · by_cases h2 : 15 ≤ a
    · go_enter Try.func3, Try.ntmps3
      go_wp2
      go_ret
      exact ⟨rfl, ((Below.refl _ _).alloc (Nat.le_refl _) _).alloc (by simp) _⟩
    · by_cases h3 : b < 0
      · go_enter Try.func3, Try.ntmps3
        go_wp2
        go_ret
        exact ⟨rfl, ((Below.refl _ _).alloc (Nat.le_refl _) _).alloc (by simp) _⟩
      · have h4 : 20 < b := by omega
        go_enter Try.func3, Try.ntmps3
        go_wp2
        go_ret
        exact ⟨rfl, ((Below.refl _ _).alloc (Nat.le_refl _) _).alloc (by simp) _⟩
theorem walk (a b : Int) (_ : (Lit.int .i64 a).wf = true) (_ : (Lit.int .i64 b).wf = true) (w : World) :
    Calls Try.prog 3 #[.int .i64 a, .int .i64 b] w fun e w' => e = .returned (.bool true) ∧ Below w.heap.size w w' := by
  by_cases h : a < 0 ∨ 15 ≤ a ∨ b < 0 ∨ 20 < b
  · exact walk_out a b w h
  · obtain ⟨n, rfl⟩ := Int.eq_ofNat_of_zero_le (show 0 ≤ b by omega)
    have hn : n ≤ 20 := by omega
    rcases (show a = 0 ∨ a = 1 ∨ a = 2 ∨ a = 3 ∨ a = 4 ∨ a = 5 ∨ a = 6 ∨ a = 7 ∨ a = 8 ∨ a = 9 ∨ a = 10 ∨ a = 11 ∨ a = 12 ∨ a = 13 ∨ a = 14 by omega) with rfl | rfl | rfl | rfl | rfl | rfl | rfl | rfl | rfl | rfl | rfl | rfl | rfl | rfl | rfl

    · exact walk0 byPlaces_any n hn w
    · exact walk1 byPlaces_any n hn w
    · exact walk2 byPlaces_any n hn w
    · exact walk3 byPlaces_any n hn w
    · exact walk4 byPlaces_any n hn w
    · exact walk5 byPlaces_any n hn w
    · exact walk6 byPlaces_any n hn w
    · exact walk7 byPlaces_any n hn w
    · exact walk8 byPlaces_any n hn w
    · exact walk9 byPlaces_any n hn w
    · exact walk10 byPlaces_any n hn w
    · exact walk11 byPlaces_any n hn w
    · exact walk12 byPlaces_any n hn w
    · exact walk13 byPlaces_any n hn w
    · exact walk14 byPlaces_any n hn w

theorem own : ownKnob Try.prog.godebug = none := by kernel_rfl

set_option maxRecDepth 100000 in
theorem lifted (os : Os) (started : os.Started) (H : Type) (enc : TypeId × Value → H) :
    ReturnsInHanded {} Try.checked os 3 .any (Rows.planWrongSpec.pre6 enc Try.prog Try.f3 Rows.planWrongRow.domain false) (Rows.planWrongSpec.post enc Try.prog Try.f3 false true false false) := by
  refine returnsInHanded_of_change (C := Try.checked) own started (by kernel_rfl) Try.func3
    (ChangeSpec.witness6 (enc := enc) (C := Try.checked) false ⟨#[], #[.int .i64 0, .int .i64 0], []⟩ 8 (by kernel_rfl) (by kernel_rfl) (by kernel_rfl) (by kernel_rfl)) ?_
  intro W base args ds gs before hval0 hW _ _
  have hval : ∀ (j : Nat) t v, Try.f3.params[j]? = some t → args[j]? = some v → Value.okWide Try.prog W .any base t v := hval0
  have hW' := hW
  obtain ⟨p, q, hA0, hV, rfl, _, _⟩ := hW
  have hA : DataW.TrodAll enc Try.prog W 0 (fun _ => true) true Try.f3.params.toList args.toList ds p := hA0
  rw [Try.params3] at hA hval
  obtain ⟨v0, vs0, d0, ds0, p0, q0, hargs, rfl, rfl, h0, r0⟩ := trodAll_cons hA
  obtain ⟨v1, vs1, d1, ds1, p1, q1, rfl, rfl, rfl, h1, r1⟩ := trodAll_cons r0
  obtain ⟨rfl, rfl, rfl⟩ := trodAll_nil r1
  obtain rfl : args = #[v0, v1] := by cases args; simp_all
  obtain ⟨rfl, rfl⟩ := trodVars_none hV
  obtain ⟨a0, rfl, rfl, rfl, w0⟩ := open_int Try.underlying3 (hval 0 3 v0 rfl rfl) h0
  obtain ⟨a1, rfl, rfl, rfl, w1⟩ := open_int Try.underlying3 (hval 1 3 v1 rfl rfl) h1
  clear hA0 hval0
  refine (walk a0 a1 w0 w1 W).mono fun e W' ⟨he, bel⟩ => ?_
  subst he
  exact ⟨_, rfl, _, _, _, [], _, [], hW', trodAll_mk1 (shut_bool Try.underlying4 _), (trodAll_cons_mk (shut_int Try.underlying3 w0) (trodAll_cons_mk (shut_int Try.underlying3 w1) trodAll_mk0)), rfl, bel.frame _, fun h => by cases h⟩

theorem over : Rows.planWrongRow.holds Try.pinned (OpenSpec.ofChange Rows.planWrongSpec) :=
  OpenClaim.holds_of_wide 3 Try.f3 rfl rfl rfl rfl rfl rfl rfl ⟨rfl, rfl, rfl, rfl, rfl⟩ rfl rfl rfl rfl rfl (by kernel_rfl) Try.func3 (by kernel_rfl)
    (of_decide_eq_true (by kernel_rfl)) (by unfold Func.isWrapper; first | (rw [if_pos (by decide +kernel)]; kernel_rfl) | (rw [if_neg (by decide +kernel)]; exact ⟨rfl, rfl⟩))
    (fun os started H enc _ => lifted os started H enc)


end Go.Proofs.Ytbifcicipkhohaa.planWrong
namespace Go.Proofs.Ytbifcicipkhohaa
theorem planWrong_holds : Rows.PlanWrongSaid := planWrong.over
#print axioms planWrong_holds
end Go.Proofs.Ytbifcicipkhohaa
