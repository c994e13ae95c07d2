/-
  Sums by themselves: one step of 32 binary digits, bytes one behind the other; what two rows that differ in one byte have.
-/
import Derived.Test.YtfcoanlegjddpabProg
import Derived.WalkKit
namespace Go.Proofs.Ytfcoanlegjddpab

def u32 (x : BitVec 32) : Int := (x.toNat : Int)
def u8 (x : BitVec 8) : Int := (x.toNat : Int)
def polyV : BitVec 32 := 2197175160#32
/-- One of the eight steps. -/
def stepV (x : BitVec 32) : BitVec 32 := (x >>> 1) ^^^ (if x.getLsbD 0 then polyV else 0#32)
def stepsV : Nat → BitVec 32 → BitVec 32
  | 0, x => x
  | k + 1, x => stepV (stepsV k x)
def behindV (d : BitVec 32) (b : BitVec 8) : BitVec 32 := stepsV 8 (d ^^^ b.setWidth 32)
def bytesV (d : BitVec 32) (p : List (BitVec 8)) : BitVec 32 := p.foldl behindV d
def rowsV (d : BitVec 32) (l : List (List (BitVec 8))) : BitVec 32 := l.foldl bytesV d
def onesV : BitVec 32 := BitVec.allOnes 32
/-- Rows' sum. -/
def sumV (p : List (BitVec 8)) : BitVec 32 := ~~~ bytesV onesV p
def sumsV (l : List (List (BitVec 8))) : BitVec 32 := ~~~ rowsV onesV l

theorem rows_flat : ∀ (l : List (List (BitVec 8))) (d : BitVec 32), rowsV d l = bytesV d l.flatten
  | [], d => rfl
  | r :: l, d => by rw [List.flatten_cons]; unfold rowsV; rw [List.foldl_cons]; refine (rows_flat l _).trans ?_; unfold bytesV; rw [List.foldl_append]

theorem step_xor (x y : BitVec 32) : stepV (x ^^^ y) = stepV x ^^^ stepV y := by
  unfold stepV
  rw [BitVec.ushiftRight_xor_distrib, BitVec.getLsbD_xor]
  cases x.getLsbD 0 <;> cases y.getLsbD 0 <;> simp
  · rw [BitVec.xor_assoc]
  · rw [BitVec.xor_assoc, BitVec.xor_assoc, BitVec.xor_comm polyV]
  · rw [BitVec.xor_assoc, ← BitVec.xor_assoc polyV, BitVec.xor_comm polyV, BitVec.xor_assoc, BitVec.xor_self, BitVec.xor_zero]
theorem steps_xor : ∀ (k : Nat) (x y : BitVec 32), stepsV k (x ^^^ y) = stepsV k x ^^^ stepsV k y
  | 0, _, _ => rfl
  | k + 1, x, y => by rw [stepsV, steps_xor k, step_xor]; rfl
theorem step_zero (x : BitVec 32) (h : stepV x = 0#32) : x = 0#32 := by
  unfold stepV at h
  have h31 := congrArg (fun v => BitVec.getLsbD v 31) h
  have p31 : polyV[31] = true := by decide
  by_cases h0 : x.getLsbD 0 = true
  · simp [h0, p31] at h31
  · have h0' : x.getLsbD 0 = false := by simpa using h0
    rw [h0'] at h
    have h' : x >>> 1 = 0#32 := by simpa using h
    apply BitVec.eq_of_getLsbD_eq
    intro i hi
    cases i with
    | zero => simpa using h0'
    | succ i =>
      have := congrArg (fun v => BitVec.getLsbD v i) h'
      simp [BitVec.getLsbD_ushiftRight] at this
      rw [Nat.add_comm] at this
      simpa using this
theorem steps_zero : ∀ (k : Nat) (x : BitVec 32), stepsV k x = 0#32 → x = 0#32
  | 0, _, h => h
  | k + 1, x, h => steps_zero k x (step_zero _ h)
theorem xor_eq_zero {n : Nat} {x y : BitVec n} (h : x ^^^ y = 0#n) : x = y := by
  have := congrArg (· ^^^ y) h
  simpa [BitVec.xor_assoc] using this
theorem steps_inj (k : Nat) {x y : BitVec 32} (h : stepsV k x = stepsV k y) : x = y := by
  apply xor_eq_zero
  apply steps_zero k
  rw [steps_xor, h, BitVec.xor_self]
theorem width_inj {a b : BitVec 8} (h : a.setWidth 32 = b.setWidth 32) : a = b := by
  have := congrArg BitVec.toNat h
  rw [BitVec.toNat_setWidth, BitVec.toNat_setWidth] at this
  apply BitVec.eq_of_toNat_eq
  have := a.isLt
  have := b.isLt
  omega
theorem xor_left {n : Nat} {d x y : BitVec n} (h : d ^^^ x = d ^^^ y) : x = y := by
  have := congrArg (d ^^^ ·) h
  simpa [← BitVec.xor_assoc] using this
theorem behind_byte {d : BitVec 32} {a b : BitVec 8} (h : behindV d a = behindV d b) : a = b := width_inj (xor_left (steps_inj 8 h))
theorem behind_inj {d e : BitVec 32} {a : BitVec 8} (h : behindV d a = behindV e a) : d = e := by
  have := steps_inj 8 h
  rw [BitVec.xor_comm d, BitVec.xor_comm e] at this
  exact xor_left this
theorem bytes_inj : ∀ (p : List (BitVec 8)) {d e : BitVec 32}, bytesV d p = bytesV e p → d = e
  | [], _, _, h => h
  | a :: p, d, e, h => behind_inj (bytes_inj p (d := behindV d a) (e := behindV e a) h)
theorem not_inj {x y : BitVec 32} (h : ~~~ x = ~~~ y) : x = y := by
  have := congrArg (fun v => ~~~ v) h
  simpa using this
/-- Two rows that differ in one byte have unlike sums. -/
theorem sum_turned (p r : List (BitVec 8)) (a b : BitVec 8) (h : sumV (p ++ a :: r) = sumV (p ++ b :: r)) : a = b := by
  unfold sumV bytesV at h
  rw [List.foldl_append, List.foldl_append, List.foldl_cons, List.foldl_cons] at h
  exact behind_byte (bytes_inj r (not_inj h))
theorem sum_set (p : List (BitVec 8)) (k : Nat) (a b : BitVec 8) (hk : k < p.length) (h : sumV (p.set k a) = sumV (p.set k b)) : a = b := by
  have e : ∀ x, p.set k x = p.take k ++ x :: p.drop (k + 1) := fun x => by rw [List.set_eq_take_append_cons_drop, if_pos hk]
  rw [e, e] at h
  exact sum_turned _ _ _ _ h
/-- The step as the code has it: the product is nought or the polynomial. -/
theorem step_mul (x : BitVec 32) : (x >>> 1) ^^^ (polyV * (x &&& 1#32)) = stepV x := by
  unfold stepV
  have e : x &&& 1#32 = if x.getLsbD 0 then 1#32 else 0#32 := by
    apply BitVec.eq_of_getLsbD_eq
    intro i hi
    rw [BitVec.getLsbD_and]
    cases i with
    | zero => cases h : x.getLsbD 0 <;> simp
    | succ i =>
      have h1 : (1#32).getLsbD (i + 1) = false := by simp
      rw [h1, Bool.and_false]
      cases x.getLsbD 0 <;> simp
  rw [e]
  cases x.getLsbD 0 <;> simp
/-- The sum of three rows, xored, is the xor of theirs. -/
theorem bytes_xor3 : ∀ (p x y : List (BitVec 8)) (d e f : BitVec 32), p.length = x.length → x.length = y.length →
    bytesV (d ^^^ e ^^^ f) ((p.zip (x.zip y)).map fun t => t.1 ^^^ t.2.1 ^^^ t.2.2) = bytesV d p ^^^ bytesV e x ^^^ bytesV f y
  | [], [], [], _, _, _, _, _ => rfl
  | a :: p, b :: x, c :: y, d, e, f, h1, h2 => by
    have key : behindV (d ^^^ e ^^^ f) (a ^^^ b ^^^ c) = behindV d a ^^^ behindV e b ^^^ behindV f c := by
      unfold behindV
      rw [← steps_xor, ← steps_xor, BitVec.setWidth_xor, BitVec.setWidth_xor]
      congr 1
      ac_rfl
    have := bytes_xor3 p x y (behindV d a) (behindV e b) (behindV f c) (by simpa using h1) (by simpa using h2)
    rw [← key] at this
    exact this
  | [], _ :: _, _, _, _, _, h, _ => by cases h
  | _ :: _, [], _, _, _, _, h, _ => by cases h
  | _ :: _, _ :: _, [], _, _, _, _, h => by cases h
  | [], [], _ :: _, _, _, _, _, h => by cases h

/-! How the walk writes them. -/
theorem u32_nat (x : BitVec 32) : BitVec.ofInt 32 (u32 x) = x := by
  unfold u32
  rw [BitVec.ofInt_natCast, BitVec.ofNat_toNat, BitVec.setWidth_eq]
theorem u8_nat (x : BitVec 8) : BitVec.ofInt 8 (u8 x) = x := by
  unfold u8
  rw [BitVec.ofInt_natCast, BitVec.ofNat_toNat, BitVec.setWidth_eq]
theorem wrap_u32 (n : Int) : IntKind.u32.wrap n = u32 (BitVec.ofInt 32 n) := by
  unfold u32
  rw [BitVec.toNat_ofInt]
  simp [IntKind.wrap, IntKind.bits, IntKind.signed]
  omega
theorem wrap_u8 (n : Int) : IntKind.u8.wrap n = u8 (BitVec.ofInt 8 n) := by
  unfold u8
  rw [BitVec.toNat_ofInt]
  simp [IntKind.wrap, IntKind.bits, IntKind.signed]
  omega
theorem u32_xor (x y : BitVec 32) : bits .xor .u32 (u32 x) (u32 y) = u32 (x ^^^ y) := by
  show IntKind.u32.wrap ((BitVec.ofInt 32 (u32 x) ^^^ BitVec.ofInt 32 (u32 y)).toNat : Int) = _
  rw [u32_nat, u32_nat]
  exact (wrap_u32 _).trans (congrArg u32 (u32_nat _))
theorem u8_xor (x y : BitVec 8) : bits .xor .u8 (u8 x) (u8 y) = u8 (x ^^^ y) := by
  show IntKind.u8.wrap ((BitVec.ofInt 8 (u8 x) ^^^ BitVec.ofInt 8 (u8 y)).toNat : Int) = _
  rw [u8_nat, u8_nat]
  exact (wrap_u8 _).trans (congrArg u8 (u8_nat _))
theorem u32_inj {x y : BitVec 32} (h : u32 x = u32 y) : x = y := BitVec.eq_of_toNat_eq (by unfold u32 at h; omega)
theorem u8_inj {x y : BitVec 8} (h : u8 x = u8 y) : x = y := BitVec.eq_of_toNat_eq (by unfold u8 at h; omega)
end Go.Proofs.Ytfcoanlegjddpab
