/-
  Of every two numbers: PlanFull returns true. No condition.
-/
import Derived.Test.YtbifcicipkhohaaRows
import Derived.Test.YtbifcicipkhohaaPlKnown
import Derived.Test.YtbifcicipkhohaaPlBy
import Derived.Laws.IdiomStrings
import Derived.WalkKit
import Derived.ProofKit
import Derived.OpenShut
import Derived.ShutString
import Derived.ChangeOld
import Derived.Below
import Derived.SizedLaws
namespace Go.Proofs.Ytbifcicipkhohaa.planFull
open Go.ChangeShapes Go.WideShapes Go.ChangeAt Go.RowKit

def baseL : List UInt8 := [115, 101, 99, 116, 105, 111, 110, 32, 122, 122, 10, 115, 105, 103, 110, 97, 108, 32, 121, 121, 10, 115, 105, 103, 110, 97, 108, 32, 120, 120, 10]
def nm (i : Nat) : List UInt8 := [UInt8.ofNat (97 + i % 26), UInt8.ofNat (97 + i / 26)]
/-- The i-th line of a kind, without its line feed. -/
def lineL : Nat → Nat → List UInt8
  | 0, i => [115, 101, 99, 116, 105, 111, 110, 32] ++ nm i
  | 1, i => [115, 105, 103, 110, 97, 108, 32] ++ nm i
  | 2, i => [112, 111, 105, 110, 116, 32] ++ (nm i ++ [32, 105, 110, 32, 122, 122])
  | 3, i => [114, 111, 117, 116, 101, 32] ++ (nm i ++ [32, 102, 114, 111, 109, 32, 121, 121, 32, 116, 111, 32, 120, 120, 32, 118, 105, 97, 32, 122, 122])
  | _, _ => []
def linesL (kind : Nat) : Nat → List UInt8
  | 0 => []
  | n + 1 => linesL kind n ++ (lineL kind n ++ [10])
theorem no_ten (kind i : Nat) (hi : i < 70) : (10 : UInt8) ∉ lineL kind i := by
  have h1 : (10 : UInt8) ∉ nm i := by
    intro h
    have h2 : (10 : UInt8).toNat = (UInt8.ofNat (97 + i % 26)).toNat ∨ (10 : UInt8).toNat = (UInt8.ofNat (97 + i / 26)).toNat := by
      rcases List.mem_cons.1 h with h | h
      · exact .inl (congrArg UInt8.toNat h)
      · exact .inr (congrArg UInt8.toNat (List.mem_singleton.1 h))
    rw [UInt8.toNat_ofNat', UInt8.toNat_ofNat'] at h2
    have h3 : (10 : UInt8).toNat = 10 := rfl
    omega
  match kind with
  | 0 => simp [lineL, h1]
  | 1 => simp [lineL, h1]
  | 2 => simp [lineL, h1]
  | 3 => simp [lineL, h1]
  | k + 4 => simp [lineL]

theorem base0 : addLineP Lay.zero ⟨#[115, 101, 99, 116, 105, 111, 110, 32, 122, 122]⟩ = (0, (⟨[⟨#[122, 122]⟩], [], [], []⟩ : Lay)) := by kernel_rfl
theorem base1 : addLineP (⟨[⟨#[122, 122]⟩], [], [], []⟩ : Lay) ⟨#[115, 105, 103, 110, 97, 108, 32, 121, 121]⟩ = (0, (⟨[⟨#[122, 122]⟩], [], [⟨#[121, 121]⟩], []⟩ : Lay)) := by kernel_rfl
theorem base2 : addLineP (⟨[⟨#[122, 122]⟩], [], [⟨#[121, 121]⟩], []⟩ : Lay) ⟨#[115, 105, 103, 110, 97, 108, 32, 120, 120]⟩ = (0, (⟨[⟨#[122, 122]⟩], [], [⟨#[121, 121]⟩, ⟨#[120, 120]⟩], []⟩ : Lay)) := by kernel_rfl
theorem parse_base (rest : List UInt8) : parseF 61 Lay.zero 0 ⟨(baseL ++ rest).toArray⟩ = parseF 58 (⟨[⟨#[122, 122]⟩], [], [⟨#[121, 121]⟩, ⟨#[120, 120]⟩], []⟩ : Lay) 3 ⟨rest.toArray⟩ := by
  rw [parse_ok (f := 60) (n := 0) (a := [115, 101, 99, 116, 105, 111, 110, 32, 122, 122]) (rest := [115, 105, 103, 110, 97, 108, 32, 121, 121, 10, 115, 105, 103, 110, 97, 108, 32, 120, 120, 10] ++ rest) (by simp [baseL]) (by decide) (by omega) base0]
  rw [parse_ok (f := 59) (n := 1) (a := [115, 105, 103, 110, 97, 108, 32, 121, 121]) (rest := [115, 105, 103, 110, 97, 108, 32, 120, 120, 10] ++ rest) (by simp) (by decide) (by omega) base1]
  rw [parse_ok (f := 58) (n := 2) (a := [115, 105, 103, 110, 97, 108, 32, 120, 120]) (rest := rest) (by simp) (by decide) (by omega) base2]

def lay0 : Nat → Lay
  | 0 => (⟨[⟨#[122, 122]⟩], [], [⟨#[121, 121]⟩, ⟨#[120, 120]⟩], []⟩ : Lay)
  | 1 => (⟨[⟨#[122, 122]⟩, ⟨#[97, 97]⟩], [], [⟨#[121, 121]⟩, ⟨#[120, 120]⟩], []⟩ : Lay)
  | 2 => (⟨[⟨#[122, 122]⟩, ⟨#[97, 97]⟩, ⟨#[98, 97]⟩], [], [⟨#[121, 121]⟩, ⟨#[120, 120]⟩], []⟩ : Lay)
  | 3 => (⟨[⟨#[122, 122]⟩, ⟨#[97, 97]⟩, ⟨#[98, 97]⟩, ⟨#[99, 97]⟩], [], [⟨#[121, 121]⟩, ⟨#[120, 120]⟩], []⟩ : Lay)
  | 4 => (⟨[⟨#[122, 122]⟩, ⟨#[97, 97]⟩, ⟨#[98, 97]⟩, ⟨#[99, 97]⟩, ⟨#[100, 97]⟩], [], [⟨#[121, 121]⟩, ⟨#[120, 120]⟩], []⟩ : Lay)
  | 5 => (⟨[⟨#[122, 122]⟩, ⟨#[97, 97]⟩, ⟨#[98, 97]⟩, ⟨#[99, 97]⟩, ⟨#[100, 97]⟩, ⟨#[101, 97]⟩], [], [⟨#[121, 121]⟩, ⟨#[120, 120]⟩], []⟩ : Lay)
  | 6 => (⟨[⟨#[122, 122]⟩, ⟨#[97, 97]⟩, ⟨#[98, 97]⟩, ⟨#[99, 97]⟩, ⟨#[100, 97]⟩, ⟨#[101, 97]⟩, ⟨#[102, 97]⟩], [], [⟨#[121, 121]⟩, ⟨#[120, 120]⟩], []⟩ : Lay)
  | 7 => (⟨[⟨#[122, 122]⟩, ⟨#[97, 97]⟩, ⟨#[98, 97]⟩, ⟨#[99, 97]⟩, ⟨#[100, 97]⟩, ⟨#[101, 97]⟩, ⟨#[102, 97]⟩, ⟨#[103, 97]⟩], [], [⟨#[121, 121]⟩, ⟨#[120, 120]⟩], []⟩ : Lay)
  | 8 => (⟨[⟨#[122, 122]⟩, ⟨#[97, 97]⟩, ⟨#[98, 97]⟩, ⟨#[99, 97]⟩, ⟨#[100, 97]⟩, ⟨#[101, 97]⟩, ⟨#[102, 97]⟩, ⟨#[103, 97]⟩, ⟨#[104, 97]⟩], [], [⟨#[121, 121]⟩, ⟨#[120, 120]⟩], []⟩ : Lay)
  | 9 => (⟨[⟨#[122, 122]⟩, ⟨#[97, 97]⟩, ⟨#[98, 97]⟩, ⟨#[99, 97]⟩, ⟨#[100, 97]⟩, ⟨#[101, 97]⟩, ⟨#[102, 97]⟩, ⟨#[103, 97]⟩, ⟨#[104, 97]⟩, ⟨#[105, 97]⟩], [], [⟨#[121, 121]⟩, ⟨#[120, 120]⟩], []⟩ : Lay)
  | _ => Lay.zero
theorem step0 : ∀ i, i < 9 → addLineP (lay0 i) ⟨(lineL 0 i).toArray⟩ = (0, lay0 (i + 1))
  | 0, _ => by kernel_rfl
  | 1, _ => by kernel_rfl
  | 2, _ => by kernel_rfl
  | 3, _ => by kernel_rfl
  | 4, _ => by kernel_rfl
  | 5, _ => by kernel_rfl
  | 6, _ => by kernel_rfl
  | 7, _ => by kernel_rfl
  | 8, _ => by kernel_rfl
  | i + 9, h => by omega
theorem over0 : ∃ l', addLineP (lay0 9) ⟨(lineL 0 9).toArray⟩ = (6, l') := ⟨lay0 9, by kernel_rfl⟩
def lay1 : Nat → Lay
  | 0 => (⟨[⟨#[122, 122]⟩], [], [⟨#[121, 121]⟩, ⟨#[120, 120]⟩], []⟩ : Lay)
  | 1 => (⟨[⟨#[122, 122]⟩], [], [⟨#[121, 121]⟩, ⟨#[120, 120]⟩, ⟨#[97, 97]⟩], []⟩ : Lay)
  | 2 => (⟨[⟨#[122, 122]⟩], [], [⟨#[121, 121]⟩, ⟨#[120, 120]⟩, ⟨#[97, 97]⟩, ⟨#[98, 97]⟩], []⟩ : Lay)
  | 3 => (⟨[⟨#[122, 122]⟩], [], [⟨#[121, 121]⟩, ⟨#[120, 120]⟩, ⟨#[97, 97]⟩, ⟨#[98, 97]⟩, ⟨#[99, 97]⟩], []⟩ : Lay)
  | 4 => (⟨[⟨#[122, 122]⟩], [], [⟨#[121, 121]⟩, ⟨#[120, 120]⟩, ⟨#[97, 97]⟩, ⟨#[98, 97]⟩, ⟨#[99, 97]⟩, ⟨#[100, 97]⟩], []⟩ : Lay)
  | _ => Lay.zero
theorem step1 : ∀ i, i < 4 → addLineP (lay1 i) ⟨(lineL 1 i).toArray⟩ = (0, lay1 (i + 1))
  | 0, _ => by kernel_rfl
  | 1, _ => by kernel_rfl
  | 2, _ => by kernel_rfl
  | 3, _ => by kernel_rfl
  | i + 4, h => by omega
theorem over1 : ∃ l', addLineP (lay1 4) ⟨(lineL 1 4).toArray⟩ = (6, l') := ⟨lay1 4, by kernel_rfl⟩
def lay2 : Nat → Lay
  | 0 => (⟨[⟨#[122, 122]⟩], [], [⟨#[121, 121]⟩, ⟨#[120, 120]⟩], []⟩ : Lay)
  | 1 => (⟨[⟨#[122, 122]⟩], [(⟨#[97, 97]⟩, 0)], [⟨#[121, 121]⟩, ⟨#[120, 120]⟩], []⟩ : Lay)
  | 2 => (⟨[⟨#[122, 122]⟩], [(⟨#[97, 97]⟩, 0), (⟨#[98, 97]⟩, 0)], [⟨#[121, 121]⟩, ⟨#[120, 120]⟩], []⟩ : Lay)
  | 3 => (⟨[⟨#[122, 122]⟩], [(⟨#[97, 97]⟩, 0), (⟨#[98, 97]⟩, 0), (⟨#[99, 97]⟩, 0)], [⟨#[121, 121]⟩, ⟨#[120, 120]⟩], []⟩ : Lay)
  | 4 => (⟨[⟨#[122, 122]⟩], [(⟨#[97, 97]⟩, 0), (⟨#[98, 97]⟩, 0), (⟨#[99, 97]⟩, 0), (⟨#[100, 97]⟩, 0)], [⟨#[121, 121]⟩, ⟨#[120, 120]⟩], []⟩ : Lay)
  | 5 => (⟨[⟨#[122, 122]⟩], [(⟨#[97, 97]⟩, 0), (⟨#[98, 97]⟩, 0), (⟨#[99, 97]⟩, 0), (⟨#[100, 97]⟩, 0), (⟨#[101, 97]⟩, 0)], [⟨#[121, 121]⟩, ⟨#[120, 120]⟩], []⟩ : Lay)
  | _ => Lay.zero
theorem step2 : ∀ i, i < 5 → addLineP (lay2 i) ⟨(lineL 2 i).toArray⟩ = (0, lay2 (i + 1))
  | 0, _ => by kernel_rfl
  | 1, _ => by kernel_rfl
  | 2, _ => by kernel_rfl
  | 3, _ => by kernel_rfl
  | 4, _ => by kernel_rfl
  | i + 5, h => by omega
theorem over2 : ∃ l', addLineP (lay2 5) ⟨(lineL 2 5).toArray⟩ = (6, l') := ⟨lay2 5, by kernel_rfl⟩
def lay3 : Nat → Lay
  | 0 => (⟨[⟨#[122, 122]⟩], [], [⟨#[121, 121]⟩, ⟨#[120, 120]⟩], []⟩ : Lay)
  | 1 => (⟨[⟨#[122, 122]⟩], [], [⟨#[121, 121]⟩, ⟨#[120, 120]⟩], [⟨⟨#[97, 97]⟩, 0, 1, [0], [], []⟩]⟩ : Lay)
  | 2 => (⟨[⟨#[122, 122]⟩], [], [⟨#[121, 121]⟩, ⟨#[120, 120]⟩], [⟨⟨#[97, 97]⟩, 0, 1, [0], [], []⟩, ⟨⟨#[98, 97]⟩, 0, 1, [0], [], []⟩]⟩ : Lay)
  | 3 => (⟨[⟨#[122, 122]⟩], [], [⟨#[121, 121]⟩, ⟨#[120, 120]⟩], [⟨⟨#[97, 97]⟩, 0, 1, [0], [], []⟩, ⟨⟨#[98, 97]⟩, 0, 1, [0], [], []⟩, ⟨⟨#[99, 97]⟩, 0, 1, [0], [], []⟩]⟩ : Lay)
  | 4 => (⟨[⟨#[122, 122]⟩], [], [⟨#[121, 121]⟩, ⟨#[120, 120]⟩], [⟨⟨#[97, 97]⟩, 0, 1, [0], [], []⟩, ⟨⟨#[98, 97]⟩, 0, 1, [0], [], []⟩, ⟨⟨#[99, 97]⟩, 0, 1, [0], [], []⟩, ⟨⟨#[100, 97]⟩, 0, 1, [0], [], []⟩]⟩ : Lay)
  | 5 => (⟨[⟨#[122, 122]⟩], [], [⟨#[121, 121]⟩, ⟨#[120, 120]⟩], [⟨⟨#[97, 97]⟩, 0, 1, [0], [], []⟩, ⟨⟨#[98, 97]⟩, 0, 1, [0], [], []⟩, ⟨⟨#[99, 97]⟩, 0, 1, [0], [], []⟩, ⟨⟨#[100, 97]⟩, 0, 1, [0], [], []⟩, ⟨⟨#[101, 97]⟩, 0, 1, [0], [], []⟩]⟩ : Lay)
  | 6 => (⟨[⟨#[122, 122]⟩], [], [⟨#[121, 121]⟩, ⟨#[120, 120]⟩], [⟨⟨#[97, 97]⟩, 0, 1, [0], [], []⟩, ⟨⟨#[98, 97]⟩, 0, 1, [0], [], []⟩, ⟨⟨#[99, 97]⟩, 0, 1, [0], [], []⟩, ⟨⟨#[100, 97]⟩, 0, 1, [0], [], []⟩, ⟨⟨#[101, 97]⟩, 0, 1, [0], [], []⟩, ⟨⟨#[102, 97]⟩, 0, 1, [0], [], []⟩]⟩ : Lay)
  | _ => Lay.zero
theorem step3 : ∀ i, i < 6 → addLineP (lay3 i) ⟨(lineL 3 i).toArray⟩ = (0, lay3 (i + 1))
  | 0, _ => by kernel_rfl
  | 1, _ => by kernel_rfl
  | 2, _ => by kernel_rfl
  | 3, _ => by kernel_rfl
  | 4, _ => by kernel_rfl
  | 5, _ => by kernel_rfl
  | i + 6, h => by omega
theorem over3 : ∃ l', addLineP (lay3 6) ⟨(lineL 3 6).toArray⟩ = (6, l') := ⟨lay3 6, by kernel_rfl⟩
def lay4 (_ : Nat) : Lay := (⟨[⟨#[122, 122]⟩], [], [⟨#[121, 121]⟩, ⟨#[120, 120]⟩], []⟩ : Lay)
theorem step4 : ∀ i, i < 57 → addLineP (lay4 i) ⟨(lineL 4 i).toArray⟩ = (0, lay4 (i + 1)) := fun _ _ => by
  show addLineP (⟨[⟨#[122, 122]⟩], [], [⟨#[121, 121]⟩, ⟨#[120, 120]⟩], []⟩ : Lay) ⟨#[]⟩ = (0, (⟨[⟨#[122, 122]⟩], [], [⟨#[121, 121]⟩, ⟨#[120, 120]⟩], []⟩ : Lay))
  kernel_rfl

theorem parse_lines {kind most : Nat} {lay : Nat → Lay} (hm : most ≤ 57) (step : ∀ i, i < most → addLineP (lay i) ⟨(lineL kind i).toArray⟩ = (0, lay (i + 1))) :
    ∀ (n : Nat) (rest : List UInt8), n ≤ most → parseF 58 (lay 0) 3 ⟨(linesL kind n ++ rest).toArray⟩ = parseF (58 - n) (lay n) (3 + n) ⟨rest.toArray⟩
  | 0, rest, _ => rfl
  | n + 1, rest, h => by
    rw [linesL, List.append_assoc, List.append_assoc, parse_lines hm step n _ (by omega), show 58 - n = (58 - (n + 1)) + 1 by omega,
      parse_ok (a := lineL kind n) (rest := rest) (by simp) (no_ten kind n (by omega)) (by omega) (step n (by omega))]
    rfl
theorem lines_split (kind : Nat) : ∀ (m k : Nat), ∃ rest, linesL kind (m + k + 1) = linesL kind m ++ (lineL kind m ++ 10 :: rest)
  | m, 0 => ⟨[], rfl⟩
  | m, k + 1 => by
    obtain ⟨rest, h⟩ := lines_split kind m k
    refine ⟨rest ++ (lineL kind (m + k + 1) ++ [10]), ?_⟩
    rw [show m + (k + 1) + 1 = (m + k + 1) + 1 by omega, linesL, h]
    simp

theorem all0 (n : Nat) (T : ByteArray) (hT : T.data.toList = baseL ++ linesL 0 n) : (parseP T).2 = if 9 < n then (13, 6) else (n + 3, 0) := by
  rw [parseP, bytes_ext hT, parse_base]
  show (parseF 58 (lay0 0) 3 _).2 = _
  by_cases h : 9 < n
  · obtain ⟨rest, hr⟩ := lines_split 0 9 (n - 10)
    obtain ⟨l', ho⟩ := over0
    rw [show 9 + (n - 10) + 1 = n by omega] at hr
    rw [if_pos h, hr, parse_lines (by decide) step0 9 _ (Nat.le_refl _), parse_bad (f := 48) (a := lineL 0 9) (rest := rest) (by simp) (no_ten 0 9 (by decide)) (by decide) ho (by decide)]
  · have := parse_lines (by decide) step0 n [] (by omega)
    rw [List.append_nil] at this
    rw [if_neg h, this, show (⟨([] : List UInt8).toArray⟩ : ByteArray) = ⟨#[]⟩ from rfl, parse_end, Nat.add_comm]

theorem all1 (n : Nat) (T : ByteArray) (hT : T.data.toList = baseL ++ linesL 1 n) : (parseP T).2 = if 4 < n then (8, 6) else (n + 3, 0) := by
  rw [parseP, bytes_ext hT, parse_base]
  show (parseF 58 (lay1 0) 3 _).2 = _
  by_cases h : 4 < n
  · obtain ⟨rest, hr⟩ := lines_split 1 4 (n - 5)
    obtain ⟨l', ho⟩ := over1
    rw [show 4 + (n - 5) + 1 = n by omega] at hr
    rw [if_pos h, hr, parse_lines (by decide) step1 4 _ (Nat.le_refl _), parse_bad (f := 53) (a := lineL 1 4) (rest := rest) (by simp) (no_ten 1 4 (by decide)) (by decide) ho (by decide)]
  · have := parse_lines (by decide) step1 n [] (by omega)
    rw [List.append_nil] at this
    rw [if_neg h, this, show (⟨([] : List UInt8).toArray⟩ : ByteArray) = ⟨#[]⟩ from rfl, parse_end, Nat.add_comm]

theorem all2 (n : Nat) (T : ByteArray) (hT : T.data.toList = baseL ++ linesL 2 n) : (parseP T).2 = if 5 < n then (9, 6) else (n + 3, 0) := by
  rw [parseP, bytes_ext hT, parse_base]
  show (parseF 58 (lay2 0) 3 _).2 = _
  by_cases h : 5 < n
  · obtain ⟨rest, hr⟩ := lines_split 2 5 (n - 6)
    obtain ⟨l', ho⟩ := over2
    rw [show 5 + (n - 6) + 1 = n by omega] at hr
    rw [if_pos h, hr, parse_lines (by decide) step2 5 _ (Nat.le_refl _), parse_bad (f := 52) (a := lineL 2 5) (rest := rest) (by simp) (no_ten 2 5 (by decide)) (by decide) ho (by decide)]
  · have := parse_lines (by decide) step2 n [] (by omega)
    rw [List.append_nil] at this
    rw [if_neg h, this, show (⟨([] : List UInt8).toArray⟩ : ByteArray) = ⟨#[]⟩ from rfl, parse_end, Nat.add_comm]

theorem all3 (n : Nat) (T : ByteArray) (hT : T.data.toList = baseL ++ linesL 3 n) : (parseP T).2 = if 6 < n then (10, 6) else (n + 3, 0) := by
  rw [parseP, bytes_ext hT, parse_base]
  show (parseF 58 (lay3 0) 3 _).2 = _
  by_cases h : 6 < n
  · obtain ⟨rest, hr⟩ := lines_split 3 6 (n - 7)
    obtain ⟨l', ho⟩ := over3
    rw [show 6 + (n - 7) + 1 = n by omega] at hr
    rw [if_pos h, hr, parse_lines (by decide) step3 6 _ (Nat.le_refl _), parse_bad (f := 51) (a := lineL 3 6) (rest := rest) (by simp) (no_ten 3 6 (by decide)) (by decide) ho (by decide)]
  · have := parse_lines (by decide) step3 n [] (by omega)
    rw [List.append_nil] at this
    rw [if_neg h, this, show (⟨([] : List UInt8).toArray⟩ : ByteArray) = ⟨#[]⟩ from rfl, parse_end, Nat.add_comm]

theorem all4 (n : Nat) (T : ByteArray) (hT : T.data.toList = baseL ++ linesL 4 n) : (parseP T).2 = if 57 < n then (61, 6) else (n + 3, 0) := by
  rw [parseP, bytes_ext hT, parse_base]
  show (parseF 58 (lay4 0) 3 _).2 = _
  by_cases h : 57 < n
  · obtain ⟨rest, hr⟩ := lines_split 4 57 (n - 58)
    rw [show 57 + (n - 58) + 1 = n by omega] at hr
    rw [if_pos h, hr, parse_lines (by decide) step4 57 _ (Nat.le_refl _), parse_full (f := 0) (by simp [ByteArray.size, lineL])]
  · have := parse_lines (by decide) step4 n [] (by omega)
    rw [List.append_nil] at this
    rw [if_neg h, this, show (⟨([] : List UInt8).toArray⟩ : ByteArray) = ⟨#[]⟩ from rfl, parse_end, Nat.add_comm]

theorem parse_call (hby : BySaid) (T : ByteArray) (hz : T.size ≤ 4294967295) (n e : Nat) (h : (parseP T).2 = (n, e)) (W : World) :
    Calls Try.prog 5 #[.string T] W fun en w' => ∃ o0 n0 c0 o1 n1 c1 o2 n2 c2 o3 n3 c3, en = .returned (.tuple #[.agg #[.slice o0 n0 c0, .slice o1 n1 c1, .slice o2 n2 c2, .slice o3 n3 c3], .int .i64 n, .int .i64 e]) ∧ Below W.heap.size W w' := by
  refine (parse_any hby T W hz).mono ?_
  rintro en w' ⟨v, rs, rfl, _, hs, hb⟩
  obtain ⟨o0, n0, c0, h0⟩ := hs 0
  obtain ⟨o1, n1, c1, h1⟩ := hs 1
  obtain ⟨o2, n2, c2, h2⟩ := hs 2
  obtain ⟨o3, n3, c3, h3⟩ := hs 3
  refine ⟨o0, n0, c0, o1, n1, c1, o2, n2, c2, o3, n3, c3, ?_, hb⟩
  rw [h, h0, h1, h2, h3]

theorem conv_nm (w : World) (k : Nat) (hk : k < 70) : (convert 33 9 (.slice (some ⟨w.heap.size, 0, none⟩) 2 2)).run Try.prog (w.alloc (.cells #[.int .u8 (97 + (k : Int) % 26), .int .u8 (97 + (k : Int) / 26)] 5)) = .ok (.string ⟨(nm k).toArray⟩) (w.alloc (.cells #[.int .u8 (97 + (k : Int) % 26), .int .u8 (97 + (k : Int) / 26)] 5)) := by
  have hb := two_cells (blk_new w (.cells #[.int .u8 (97 + (k : Int) % 26), .int .u8 (97 + (k : Int) / 26)] 5))
  have e0 : ((UInt8.ofNat (97 + k % 26)).toNat : Int) = 97 + (k : Int) % 26 := by rw [UInt8.toNat_ofNat']; omega
  have e1 : ((UInt8.ofNat (97 + k / 26)).toNat : Int) = 97 + (k : Int) / 26 := by rw [UInt8.toNat_ofNat']; omega
  refine run_convert_bytes_back _ 33 9 5 ⟨w.heap.size, 0, none⟩ 2 (nm k) Try.underlying33 Try.underlying5 Try.underlying9 (fun j hj => ?_)
  rw [addr_add]
  match j, hj with
  | 0, _ =>
    rw [hb.1]
    exact congrArg (fun z => some (Value.int .u8 z)) e0.symm
  | 1, _ =>
    rw [hb.2.1]
    exact congrArg (fun z => some (Value.int .u8 z)) e1.symm
  | j + 2, hj => exact absurd hj (by show ¬ j + 2 < 2; omega)

set_option maxRecDepth 1000000 in
set_option maxHeartbeats 4000000 in
theorem walk0 (hby : BySaid) (n : Nat) (h1 : 1 ≤ n) (h70 : n ≤ 70) (w : World) : Calls Try.prog 4 #[.int .i64 0, .int .i64 n] w fun e w' => e = .returned (.bool true) ∧ Below w.heap.size w w' := by
  have HBY : Hid BySaid := hby
  clear hby
  have z1 : decide ((n : Int) < 1) = false := by simp; omega
  have z2 : decide ((70 : Int) < (n : Int)) = false := by simp; omega
  go_enter Try.func4, Try.ntmps4
  go_wp2
  go_loopw [5, 6, 7] (fun s i _ wr => ∃ (k : Nat) (S : ByteArray), k ≤ n ∧ i = .int .i64 k ∧ s = .string S ∧ S.data.toList = baseL ++ linesL 0 k ∧ S.size ≤ 31 + 40 * k ∧ Below w.heap.size w wr) (fun _ i _ _ => n - (intOf i).toNat)
  case atStart => exact ⟨0, _, by omega, rfl, rfl, rfl, by decide, Below.refl _ _⟩
  case round =>
    obtain ⟨k, S, hk, rfl, rfl, hS, hz, hbl⟩ := hrel
    have HS : Hid (S.data.toList = baseL ++ linesL 0 k) := hS
    have hz' : S.size ≤ 3000 := by omega
    clear hS
    by_cases hlt : k < n
    · have hcv := conv_nm wr k (by omega)
      obtain ⟨K, hK⟩ : ∃ K : ByteArray, K = ⟨(nm k).toArray⟩ := ⟨_, rfl⟩
      rw [← hK] at hcv
      have hks : K.size ≤ 2 := by rw [hK]; exact Nat.le_refl 2
      have HK : Hid (K.data.toList = nm k) := by rw [Hid, hK]
      clear hK
      go_wp2
      go_roundw
      case rel => exact ⟨k + 1, S ++ ⟨#[115, 101, 99, 116, 105, 111, 110, 32]⟩ ++ K ++ ⟨#[10]⟩, by omega, by go_num, rfl, by simp [HS.out, HK.out, linesL, lineL], by simp only [ByteArray.size_append]; show S.size + 8 + K.size + 1 ≤ _; omega, hbl.alloc hbl.size _⟩
      case measure => simp [intOf]; omega
    · have ek : k = n := by omega
      subst ek
      have PA := all0 k S HS.out
      have hzz : S.size ≤ 4294967295 := by omega
      by_cases hm : 9 < k
      · rw [if_pos hm] at PA
        have D : Hid (∀ W, Calls Try.prog 5 #[.string S] W fun en w' => ∃ o0 n0 c0 o1 n1 c1 o2 n2 c2 o3 n3 c3, en = .returned (.tuple #[.agg #[.slice o0 n0 c0, .slice o1 n1 c1, .slice o2 n2 c2, .slice o3 n3 c3], .int .i64 13, .int .i64 6]) ∧ Below W.heap.size W w') := fun W => parse_call HBY.out S hzz 13 6 PA W
        have hm' : (9 : Int) < (k : Int) := by omega
        clear PA
        go_wp2_with fail
        refine (D.out _).mono ?_
        rintro en w2 ⟨o0, n0, c0, o1, n1, c1, o2, n2, c2, o3, n3, c3, rfl, hb2⟩
        have HB2 : Hid (Below w.heap.size w w2) := stepB (hbl.alloc hbl.size _) hb2
        clear hb2 D
        go_wp2_with (go_at_call 6; refine (known_any HBY.out _).mono ?_; rintro e w4 ⟨rfl, hb4⟩)
        go_ret
        exact ⟨rfl, stepB (HB2.out.alloc HB2.out.size _) hb4⟩
      · rw [if_neg hm] at PA
        have D : Hid (∀ W, Calls Try.prog 5 #[.string S] W fun en w' => ∃ o0 n0 c0 o1 n1 c1 o2 n2 c2 o3 n3 c3, en = .returned (.tuple #[.agg #[.slice o0 n0 c0, .slice o1 n1 c1, .slice o2 n2 c2, .slice o3 n3 c3], .int .i64 ((k : Int) + 3), .int .i64 0]) ∧ Below W.heap.size W w') := fun W => parse_call HBY.out S hzz (k + 3) 0 PA W
        have hm' : ¬ (9 : Int) < (k : Int) := by omega
        clear PA
        go_wp2_with fail
        refine (D.out _).mono ?_
        rintro en w2 ⟨o0, n0, c0, o1, n1, c1, o2, n2, c2, o3, n3, c3, rfl, hb2⟩
        have HB2 : Hid (Below w.heap.size w w2) := stepB (hbl.alloc hbl.size _) hb2
        clear hb2 D
        go_wp2_with (go_at_call 6; refine (known_any HBY.out _).mono ?_; rintro e w4 ⟨rfl, hb4⟩)
        go_ret
        exact ⟨rfl, stepB (HB2.out.alloc HB2.out.size _) hb4⟩

set_option maxRecDepth 1000000 in
set_option maxHeartbeats 4000000 in
theorem walk1 (hby : BySaid) (n : Nat) (h1 : 1 ≤ n) (h70 : n ≤ 70) (w : World) : Calls Try.prog 4 #[.int .i64 1, .int .i64 n] w fun e w' => e = .returned (.bool true) ∧ Below w.heap.size w w' := by
  have HBY : Hid BySaid := hby
  clear hby
  have z1 : decide ((n : Int) < 1) = false := by simp; omega
  have z2 : decide ((70 : Int) < (n : Int)) = false := by simp; omega
  go_enter Try.func4, Try.ntmps4
  go_wp2
  go_loopw [5, 6, 7] (fun s i _ wr => ∃ (k : Nat) (S : ByteArray), k ≤ n ∧ i = .int .i64 k ∧ s = .string S ∧ S.data.toList = baseL ++ linesL 1 k ∧ S.size ≤ 31 + 40 * k ∧ Below w.heap.size w wr) (fun _ i _ _ => n - (intOf i).toNat)
  case atStart => exact ⟨0, _, by omega, rfl, rfl, rfl, by decide, Below.refl _ _⟩
  case round =>
    obtain ⟨k, S, hk, rfl, rfl, hS, hz, hbl⟩ := hrel
    have HS : Hid (S.data.toList = baseL ++ linesL 1 k) := hS
    have hz' : S.size ≤ 3000 := by omega
    clear hS
    by_cases hlt : k < n
    · have hcv := conv_nm wr k (by omega)
      obtain ⟨K, hK⟩ : ∃ K : ByteArray, K = ⟨(nm k).toArray⟩ := ⟨_, rfl⟩
      rw [← hK] at hcv
      have hks : K.size ≤ 2 := by rw [hK]; exact Nat.le_refl 2
      have HK : Hid (K.data.toList = nm k) := by rw [Hid, hK]
      clear hK
      go_wp2
      go_roundw
      case rel => exact ⟨k + 1, S ++ ⟨#[115, 105, 103, 110, 97, 108, 32]⟩ ++ K ++ ⟨#[10]⟩, by omega, by go_num, rfl, by simp [HS.out, HK.out, linesL, lineL], by simp only [ByteArray.size_append]; show S.size + 7 + K.size + 1 ≤ _; omega, hbl.alloc hbl.size _⟩
      case measure => simp [intOf]; omega
    · have ek : k = n := by omega
      subst ek
      have PA := all1 k S HS.out
      have hzz : S.size ≤ 4294967295 := by omega
      by_cases hm : 4 < k
      · rw [if_pos hm] at PA
        have D : Hid (∀ W, Calls Try.prog 5 #[.string S] W fun en w' => ∃ o0 n0 c0 o1 n1 c1 o2 n2 c2 o3 n3 c3, en = .returned (.tuple #[.agg #[.slice o0 n0 c0, .slice o1 n1 c1, .slice o2 n2 c2, .slice o3 n3 c3], .int .i64 8, .int .i64 6]) ∧ Below W.heap.size W w') := fun W => parse_call HBY.out S hzz 8 6 PA W
        have hm' : (4 : Int) < (k : Int) := by omega
        clear PA
        go_wp2_with fail
        refine (D.out _).mono ?_
        rintro en w2 ⟨o0, n0, c0, o1, n1, c1, o2, n2, c2, o3, n3, c3, rfl, hb2⟩
        have HB2 : Hid (Below w.heap.size w w2) := stepB (hbl.alloc hbl.size _) hb2
        clear hb2 D
        go_wp2_with (go_at_call 6; refine (known_any HBY.out _).mono ?_; rintro e w4 ⟨rfl, hb4⟩)
        go_ret
        exact ⟨rfl, stepB (HB2.out.alloc HB2.out.size _) hb4⟩
      · rw [if_neg hm] at PA
        have D : Hid (∀ W, Calls Try.prog 5 #[.string S] W fun en w' => ∃ o0 n0 c0 o1 n1 c1 o2 n2 c2 o3 n3 c3, en = .returned (.tuple #[.agg #[.slice o0 n0 c0, .slice o1 n1 c1, .slice o2 n2 c2, .slice o3 n3 c3], .int .i64 ((k : Int) + 3), .int .i64 0]) ∧ Below W.heap.size W w') := fun W => parse_call HBY.out S hzz (k + 3) 0 PA W
        have hm' : ¬ (4 : Int) < (k : Int) := by omega
        clear PA
        go_wp2_with fail
        refine (D.out _).mono ?_
        rintro en w2 ⟨o0, n0, c0, o1, n1, c1, o2, n2, c2, o3, n3, c3, rfl, hb2⟩
        have HB2 : Hid (Below w.heap.size w w2) := stepB (hbl.alloc hbl.size _) hb2
        clear hb2 D
        go_wp2_with (go_at_call 6; refine (known_any HBY.out _).mono ?_; rintro e w4 ⟨rfl, hb4⟩)
        go_ret
        exact ⟨rfl, stepB (HB2.out.alloc HB2.out.size _) hb4⟩

set_option maxRecDepth 1000000 in
set_option maxHeartbeats 4000000 in
theorem walk2 (hby : BySaid) (n : Nat) (h1 : 1 ≤ n) (h70 : n ≤ 70) (w : World) : Calls Try.prog 4 #[.int .i64 2, .int .i64 n] w fun e w' => e = .returned (.bool true) ∧ Below w.heap.size w w' := by
  have HBY : Hid BySaid := hby
  clear hby
  have z1 : decide ((n : Int) < 1) = false := by simp; omega
  have z2 : decide ((70 : Int) < (n : Int)) = false := by simp; omega
  go_enter Try.func4, Try.ntmps4
  go_wp2
  go_loopw [5, 6, 7] (fun s i _ wr => ∃ (k : Nat) (S : ByteArray), k ≤ n ∧ i = .int .i64 k ∧ s = .string S ∧ S.data.toList = baseL ++ linesL 2 k ∧ S.size ≤ 31 + 40 * k ∧ Below w.heap.size w wr) (fun _ i _ _ => n - (intOf i).toNat)
  case atStart => exact ⟨0, _, by omega, rfl, rfl, rfl, by decide, Below.refl _ _⟩
  case round =>
    obtain ⟨k, S, hk, rfl, rfl, hS, hz, hbl⟩ := hrel
    have HS : Hid (S.data.toList = baseL ++ linesL 2 k) := hS
    have hz' : S.size ≤ 3000 := by omega
    clear hS
    by_cases hlt : k < n
    · have hcv := conv_nm wr k (by omega)
      obtain ⟨K, hK⟩ : ∃ K : ByteArray, K = ⟨(nm k).toArray⟩ := ⟨_, rfl⟩
      rw [← hK] at hcv
      have hks : K.size ≤ 2 := by rw [hK]; exact Nat.le_refl 2
      have HK : Hid (K.data.toList = nm k) := by rw [Hid, hK]
      clear hK
      go_wp2
      go_roundw
      case rel => exact ⟨k + 1, S ++ ⟨#[112, 111, 105, 110, 116, 32]⟩ ++ K ++ ⟨#[32, 105, 110, 32, 122, 122, 10]⟩, by omega, by go_num, rfl, by simp [HS.out, HK.out, linesL, lineL], by simp only [ByteArray.size_append]; show S.size + 6 + K.size + 7 ≤ _; omega, hbl.alloc hbl.size _⟩
      case measure => simp [intOf]; omega
    · have ek : k = n := by omega
      subst ek
      have PA := all2 k S HS.out
      have hzz : S.size ≤ 4294967295 := by omega
      by_cases hm : 5 < k
      · rw [if_pos hm] at PA
        have D : Hid (∀ W, Calls Try.prog 5 #[.string S] W fun en w' => ∃ o0 n0 c0 o1 n1 c1 o2 n2 c2 o3 n3 c3, en = .returned (.tuple #[.agg #[.slice o0 n0 c0, .slice o1 n1 c1, .slice o2 n2 c2, .slice o3 n3 c3], .int .i64 9, .int .i64 6]) ∧ Below W.heap.size W w') := fun W => parse_call HBY.out S hzz 9 6 PA W
        have hm' : (5 : Int) < (k : Int) := by omega
        clear PA
        go_wp2_with fail
        refine (D.out _).mono ?_
        rintro en w2 ⟨o0, n0, c0, o1, n1, c1, o2, n2, c2, o3, n3, c3, rfl, hb2⟩
        have HB2 : Hid (Below w.heap.size w w2) := stepB (hbl.alloc hbl.size _) hb2
        clear hb2 D
        go_wp2_with (go_at_call 6; refine (known_any HBY.out _).mono ?_; rintro e w4 ⟨rfl, hb4⟩)
        go_ret
        exact ⟨rfl, stepB (HB2.out.alloc HB2.out.size _) hb4⟩
      · rw [if_neg hm] at PA
        have D : Hid (∀ W, Calls Try.prog 5 #[.string S] W fun en w' => ∃ o0 n0 c0 o1 n1 c1 o2 n2 c2 o3 n3 c3, en = .returned (.tuple #[.agg #[.slice o0 n0 c0, .slice o1 n1 c1, .slice o2 n2 c2, .slice o3 n3 c3], .int .i64 ((k : Int) + 3), .int .i64 0]) ∧ Below W.heap.size W w') := fun W => parse_call HBY.out S hzz (k + 3) 0 PA W
        have hm' : ¬ (5 : Int) < (k : Int) := by omega
        clear PA
        go_wp2_with fail
        refine (D.out _).mono ?_
        rintro en w2 ⟨o0, n0, c0, o1, n1, c1, o2, n2, c2, o3, n3, c3, rfl, hb2⟩
        have HB2 : Hid (Below w.heap.size w w2) := stepB (hbl.alloc hbl.size _) hb2
        clear hb2 D
        go_wp2_with (go_at_call 6; refine (known_any HBY.out _).mono ?_; rintro e w4 ⟨rfl, hb4⟩)
        go_ret
        exact ⟨rfl, stepB (HB2.out.alloc HB2.out.size _) hb4⟩

set_option maxRecDepth 1000000 in
set_option maxHeartbeats 4000000 in
theorem walk3 (hby : BySaid) (n : Nat) (h1 : 1 ≤ n) (h70 : n ≤ 70) (w : World) : Calls Try.prog 4 #[.int .i64 3, .int .i64 n] w fun e w' => e = .returned (.bool true) ∧ Below w.heap.size w w' := by
  have HBY : Hid BySaid := hby
  clear hby
  have z1 : decide ((n : Int) < 1) = false := by simp; omega
  have z2 : decide ((70 : Int) < (n : Int)) = false := by simp; omega
  go_enter Try.func4, Try.ntmps4
  go_wp2
  go_loopw [5, 6, 7] (fun s i _ wr => ∃ (k : Nat) (S : ByteArray), k ≤ n ∧ i = .int .i64 k ∧ s = .string S ∧ S.data.toList = baseL ++ linesL 3 k ∧ S.size ≤ 31 + 40 * k ∧ Below w.heap.size w wr) (fun _ i _ _ => n - (intOf i).toNat)
  case atStart => exact ⟨0, _, by omega, rfl, rfl, rfl, by decide, Below.refl _ _⟩
  case round =>
    obtain ⟨k, S, hk, rfl, rfl, hS, hz, hbl⟩ := hrel
    have HS : Hid (S.data.toList = baseL ++ linesL 3 k) := hS
    have hz' : S.size ≤ 3000 := by omega
    clear hS
    by_cases hlt : k < n
    · have hcv := conv_nm wr k (by omega)
      obtain ⟨K, hK⟩ : ∃ K : ByteArray, K = ⟨(nm k).toArray⟩ := ⟨_, rfl⟩
      rw [← hK] at hcv
      have hks : K.size ≤ 2 := by rw [hK]; exact Nat.le_refl 2
      have HK : Hid (K.data.toList = nm k) := by rw [Hid, hK]
      clear hK
      go_wp2
      go_roundw
      case rel => exact ⟨k + 1, S ++ ⟨#[114, 111, 117, 116, 101, 32]⟩ ++ K ++ ⟨#[32, 102, 114, 111, 109, 32, 121, 121, 32, 116, 111, 32, 120, 120, 32, 118, 105, 97, 32, 122, 122, 10]⟩, by omega, by go_num, rfl, by simp [HS.out, HK.out, linesL, lineL], by simp only [ByteArray.size_append]; show S.size + 6 + K.size + 22 ≤ _; omega, hbl.alloc hbl.size _⟩
      case measure => simp [intOf]; omega
    · have ek : k = n := by omega
      subst ek
      have PA := all3 k S HS.out
      have hzz : S.size ≤ 4294967295 := by omega
      by_cases hm : 6 < k
      · rw [if_pos hm] at PA
        have D : Hid (∀ W, Calls Try.prog 5 #[.string S] W fun en w' => ∃ o0 n0 c0 o1 n1 c1 o2 n2 c2 o3 n3 c3, en = .returned (.tuple #[.agg #[.slice o0 n0 c0, .slice o1 n1 c1, .slice o2 n2 c2, .slice o3 n3 c3], .int .i64 10, .int .i64 6]) ∧ Below W.heap.size W w') := fun W => parse_call HBY.out S hzz 10 6 PA W
        have hm' : (6 : Int) < (k : Int) := by omega
        clear PA
        go_wp2_with fail
        refine (D.out _).mono ?_
        rintro en w2 ⟨o0, n0, c0, o1, n1, c1, o2, n2, c2, o3, n3, c3, rfl, hb2⟩
        have HB2 : Hid (Below w.heap.size w w2) := stepB (hbl.alloc hbl.size _) hb2
        clear hb2 D
        go_wp2_with (go_at_call 6; refine (known_any HBY.out _).mono ?_; rintro e w4 ⟨rfl, hb4⟩)
        go_ret
        exact ⟨rfl, stepB (HB2.out.alloc HB2.out.size _) hb4⟩
      · rw [if_neg hm] at PA
        have D : Hid (∀ W, Calls Try.prog 5 #[.string S] W fun en w' => ∃ o0 n0 c0 o1 n1 c1 o2 n2 c2 o3 n3 c3, en = .returned (.tuple #[.agg #[.slice o0 n0 c0, .slice o1 n1 c1, .slice o2 n2 c2, .slice o3 n3 c3], .int .i64 ((k : Int) + 3), .int .i64 0]) ∧ Below W.heap.size W w') := fun W => parse_call HBY.out S hzz (k + 3) 0 PA W
        have hm' : ¬ (6 : Int) < (k : Int) := by omega
        clear PA
        go_wp2_with fail
        refine (D.out _).mono ?_
        rintro en w2 ⟨o0, n0, c0, o1, n1, c1, o2, n2, c2, o3, n3, c3, rfl, hb2⟩
        have HB2 : Hid (Below w.heap.size w w2) := stepB (hbl.alloc hbl.size _) hb2
        clear hb2 D
        go_wp2_with (go_at_call 6; refine (known_any HBY.out _).mono ?_; rintro e w4 ⟨rfl, hb4⟩)
        go_ret
        exact ⟨rfl, stepB (HB2.out.alloc HB2.out.size _) hb4⟩

set_option maxRecDepth 1000000 in
set_option maxHeartbeats 4000000 in
theorem walk4 (hby : BySaid) (n : Nat) (h1 : 1 ≤ n) (h70 : n ≤ 70) (w : World) : Calls Try.prog 4 #[.int .i64 4, .int .i64 n] w fun e w' => e = .returned (.bool true) ∧ Below w.heap.size w w' := by
  have HBY : Hid BySaid := hby
  clear hby
  have z1 : decide ((n : Int) < 1) = false := by simp; omega
  have z2 : decide ((70 : Int) < (n : Int)) = false := by simp; omega
  go_enter Try.func4, Try.ntmps4
  go_wp2
  go_loopw [5, 6, 7] (fun s i _ wr => ∃ (k : Nat) (S : ByteArray), k ≤ n ∧ i = .int .i64 k ∧ s = .string S ∧ S.data.toList = baseL ++ linesL 4 k ∧ S.size ≤ 31 + 40 * k ∧ Below w.heap.size w wr) (fun _ i _ _ => n - (intOf i).toNat)
  case atStart => exact ⟨0, _, by omega, rfl, rfl, rfl, by decide, Below.refl _ _⟩
  case round =>
    obtain ⟨k, S, hk, rfl, rfl, hS, hz, hbl⟩ := hrel
    have HS : Hid (S.data.toList = baseL ++ linesL 4 k) := hS
    have hz' : S.size ≤ 3000 := by omega
    clear hS
    by_cases hlt : k < n
    · have hcv := conv_nm wr k (by omega)
      obtain ⟨K, hK⟩ : ∃ K : ByteArray, K = ⟨(nm k).toArray⟩ := ⟨_, rfl⟩
      rw [← hK] at hcv
      have hks : K.size ≤ 2 := by rw [hK]; exact Nat.le_refl 2
      have HK : Hid (K.data.toList = nm k) := by rw [Hid, hK]
      clear hK
      go_wp2
      go_roundw
      case rel => exact ⟨k + 1, S ++ ⟨#[10]⟩, by omega, by go_num, rfl, by simp [HS.out, linesL, lineL], by simp only [ByteArray.size_append]; show S.size + 1 ≤ _; omega, hbl.alloc hbl.size _⟩
      case measure => simp [intOf]; omega
    · have ek : k = n := by omega
      subst ek
      have PA := all4 k S HS.out
      have hzz : S.size ≤ 4294967295 := by omega
      by_cases hm : 57 < k
      · rw [if_pos hm] at PA
        have D : Hid (∀ W, Calls Try.prog 5 #[.string S] W fun en w' => ∃ o0 n0 c0 o1 n1 c1 o2 n2 c2 o3 n3 c3, en = .returned (.tuple #[.agg #[.slice o0 n0 c0, .slice o1 n1 c1, .slice o2 n2 c2, .slice o3 n3 c3], .int .i64 61, .int .i64 6]) ∧ Below W.heap.size W w') := fun W => parse_call HBY.out S hzz 61 6 PA W
        have hm' : (57 : Int) < (k : Int) := by omega
        clear PA
        go_wp2_with fail
        refine (D.out _).mono ?_
        rintro en w2 ⟨o0, n0, c0, o1, n1, c1, o2, n2, c2, o3, n3, c3, rfl, hb2⟩
        have HB2 : Hid (Below w.heap.size w w2) := stepB (hbl.alloc hbl.size _) hb2
        clear hb2 D
        go_wp2_with (go_at_call 6; refine (known_any HBY.out _).mono ?_; rintro e w4 ⟨rfl, hb4⟩)
        go_ret
        exact ⟨rfl, stepB (HB2.out.alloc HB2.out.size _) hb4⟩
      · rw [if_neg hm] at PA
        have D : Hid (∀ W, Calls Try.prog 5 #[.string S] W fun en w' => ∃ o0 n0 c0 o1 n1 c1 o2 n2 c2 o3 n3 c3, en = .returned (.tuple #[.agg #[.slice o0 n0 c0, .slice o1 n1 c1, .slice o2 n2 c2, .slice o3 n3 c3], .int .i64 ((k : Int) + 3), .int .i64 0]) ∧ Below W.heap.size W w') := fun W => parse_call HBY.out S hzz (k + 3) 0 PA W
        have hm' : ¬ (57 : Int) < (k : Int) := by omega
        clear PA
        go_wp2_with fail
        refine (D.out _).mono ?_
        rintro en w2 ⟨o0, n0, c0, o1, n1, c1, o2, n2, c2, o3, n3, c3, rfl, hb2⟩
        have HB2 : Hid (Below w.heap.size w w2) := stepB (hbl.alloc hbl.size _) hb2
        clear hb2 D
        go_wp2_with (go_at_call 6; refine (known_any HBY.out _).mono ?_; rintro e w4 ⟨rfl, hb4⟩)
        go_ret
        exact ⟨rfl, stepB (HB2.out.alloc HB2.out.size _) hb4⟩

set_option maxRecDepth 1000000 in
set_option maxHeartbeats 2000000 in
theorem walk_out (a b : Int) (w : World) (h : a < 0 ∨ 4 < a ∨ b < 1 ∨ 70 < b) : Calls Try.prog 4 #[.int .i64 a, .int .i64 b] w fun e w' => e = .returned (.bool true) ∧ Below w.heap.size w w' := by
  by_cases h1 : a < 0
  · go_enter Try.func4, Try.ntmps4
    go_wp2
    go_ret
    exact ⟨rfl, Below.refl _ _⟩
  · by_cases h2 : 4 < a
    · go_enter Try.func4, Try.ntmps4
      go_wp2
      go_ret
      exact ⟨rfl, Below.refl _ _⟩
    · by_cases h3 : b < 1
      · go_enter Try.func4, Try.ntmps4
        go_wp2
        go_ret
        exact ⟨rfl, Below.refl _ _⟩
      · have h4 : 70 < b := by omega
        go_enter Try.func4, Try.ntmps4
        go_wp2
        go_ret
        exact ⟨rfl, Below.refl _ _⟩
theorem walk (a b : Int) (_ : (Lit.int .i64 a).wf = true) (_ : (Lit.int .i64 b).wf = true) (w : World) : Calls Try.prog 4 #[.int .i64 a, .int .i64 b] w fun e w' => e = .returned (.bool true) ∧ Below w.heap.size w w' := by
  by_cases h : a < 0 ∨ 4 < a ∨ b < 1 ∨ 70 < b
  · exact walk_out a b w h
  · obtain ⟨n, rfl⟩ := Int.eq_ofNat_of_zero_le (show 0 ≤ b by omega)
    have h1 : 1 ≤ n := by omega
    have h2 : n ≤ 70 := by omega
    rcases (show a = 0 ∨ a = 1 ∨ a = 2 ∨ a = 3 ∨ a = 4 by omega) with rfl | rfl | rfl | rfl | rfl
    · exact walk0 byPlaces_any n h1 h2 w
    · exact walk1 byPlaces_any n h1 h2 w
    · exact walk2 byPlaces_any n h1 h2 w
    · exact walk3 byPlaces_any n h1 h2 w
    · exact walk4 byPlaces_any n h1 h2 w

theorem own : ownKnob Try.prog.godebug = none := by kernel_rfl

set_option maxRecDepth 100000 in
theorem lifted (os : Os) (started : os.Started) (H : Type) (enc : TypeId × Value → H) :
    ReturnsInHanded {} Try.checked os 4 .any (Rows.planFullSpec.pre6 enc Try.prog Try.f4 Rows.planFullRow.domain false) (Rows.planFullSpec.post enc Try.prog Try.f4 false true false false) := by
  refine returnsInHanded_of_change (C := Try.checked) own started (by kernel_rfl) Try.func4
    (ChangeSpec.witness6 (enc := enc) (C := Try.checked) false ⟨#[], #[.int .i64 0, .int .i64 0], []⟩ 8 (by kernel_rfl) (by kernel_rfl) (by kernel_rfl) (by kernel_rfl)) ?_
  intro W base args ds gs before hval0 hW _ _
  have hval : ∀ (j : Nat) t v, Try.f4.params[j]? = some t → args[j]? = some v → Value.okWide Try.prog W .any base t v := hval0
  have hW' := hW
  obtain ⟨p, q, hA0, hV, rfl, _, _⟩ := hW
  have hA : DataW.TrodAll enc Try.prog W 0 (fun _ => true) true Try.f4.params.toList args.toList ds p := hA0
  rw [Try.params4] at hA hval
  obtain ⟨v0, vs0, d0, ds0, p0, q0, hargs, rfl, rfl, h0, r0⟩ := trodAll_cons hA
  obtain ⟨v1, vs1, d1, ds1, p1, q1, rfl, rfl, rfl, h1, r1⟩ := trodAll_cons r0
  obtain ⟨rfl, rfl, rfl⟩ := trodAll_nil r1
  obtain rfl : args = #[v0, v1] := by cases args; simp_all
  obtain ⟨rfl, rfl⟩ := trodVars_none hV
  obtain ⟨a0, rfl, rfl, rfl, w0⟩ := open_int Try.underlying3 (hval 0 3 v0 rfl rfl) h0
  obtain ⟨a1, rfl, rfl, rfl, w1⟩ := open_int Try.underlying3 (hval 1 3 v1 rfl rfl) h1
  clear hA0 hval0
  refine (walk a0 a1 w0 w1 W).mono fun e W' ⟨he, bel⟩ => ?_
  subst he
  exact ⟨_, rfl, _, _, _, [], _, [], hW', trodAll_mk1 (shut_bool Try.underlying4 _), (trodAll_cons_mk (shut_int Try.underlying3 w0) (trodAll_cons_mk (shut_int Try.underlying3 w1) trodAll_mk0)), rfl, bel.frame _, fun h => by cases h⟩

theorem over : Rows.planFullRow.holds Try.pinned (OpenSpec.ofChange Rows.planFullSpec) :=
  OpenClaim.holds_of_wide 4 Try.f4 rfl rfl rfl rfl rfl rfl rfl ⟨rfl, rfl, rfl, rfl, rfl⟩ rfl rfl rfl rfl rfl (by kernel_rfl) Try.func4 (by kernel_rfl)
    (of_decide_eq_true (by kernel_rfl)) (by unfold Func.isWrapper; first | (rw [if_pos (by decide +kernel)]; kernel_rfl) | (rw [if_neg (by decide +kernel)]; exact ⟨rfl, rfl⟩))
    (fun os started H enc _ => lifted os started H enc)


end Go.Proofs.Ytbifcicipkhohaa.planFull
namespace Go.Proofs.Ytbifcicipkhohaa
theorem planFull_holds : Rows.PlanFullSaid := planFull.over
#print axioms planFull_holds
end Go.Proofs.Ytbifcicipkhohaa
