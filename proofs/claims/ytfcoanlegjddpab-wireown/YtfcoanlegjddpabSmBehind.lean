/-
  Package sum's step by a byte, by a contract.
-/
import Derived.Test.YtfcoanlegjddpabSmP
import Derived.Deep.LoopGhost
import Derived.WalkLawsBesides
namespace Go.Proofs.Ytfcoanlegjddpab
open Go.RowKit

theorem ret_u32 {a b : BitVec 32} (h : a = b) : Ending.returned (.int .u32 (u32 a)) = .returned (.int .u32 (u32 b)) := by rw [h]
theorem u32_of_u8 (b : BitVec 8) : IntKind.u32.wrap (u8 b) = u32 (b.setWidth 32) := by
  rw [wrap_u32]
  unfold u8
  rw [BitVec.ofInt_natCast, BitVec.ofNat_toNat]
theorem u32_and1 (x : BitVec 32) : bits .and .u32 (u32 x) 1 = u32 (x &&& 1#32) := by
  show IntKind.u32.wrap ((BitVec.ofInt 32 (u32 x) &&& BitVec.ofInt 32 1).toNat : Int) = _
  rw [u32_nat]
  exact (wrap_u32 _).trans (congrArg u32 (u32_nat _))
theorem u32_mul (x : BitVec 32) : IntKind.u32.wrap (2197175160 * u32 x) = u32 (polyV * x) := by
  rw [wrap_u32]
  rw [BitVec.ofInt_mul, u32_nat]
  rfl
theorem u32_half (x : BitVec 32) : (u32 x / 2 : Int) = u32 (x >>> 1) := by
  unfold u32
  rw [BitVec.toNat_ushiftRight, Nat.shiftRight_eq_div_pow]
  rfl

set_option maxRecDepth 1000000 in
theorem behind_any (d : BitVec 32) (b : BitVec 8) (w : World) :
    Calls Try.prog 33 #[.int .u32 (u32 d), .int .u8 (u8 b)] w fun e w' => e = .returned (.int .u32 (u32 (behindV d b))) ∧ w' = w := by
  have e0 := u32_of_u8 b
  have e1 := u32_xor d (b.setWidth 32)
  go_enter Try.func33, Try.ntmps33
  go_wp2
  go_loopg [9, 0] 8 (fun gk i x wr => ∃ k : Nat, gk = 8 - k ∧ i = .int .i64 k ∧ k ≤ 8 ∧ x = .int .u32 (u32 (stepsV k (d ^^^ b.setWidth 32))) ∧ wr = w)
  case atStart => exact ⟨0, rfl, rfl, by omega, rfl, rfl⟩
  case round =>
    obtain ⟨k, rfl, rfl, hk, rfl, rfl⟩ := hrel
    clear e0 e1
    have hs : Hid (stepsV (k + 1) (d ^^^ b.setWidth 32) = stepV (stepsV k (d ^^^ b.setWidth 32))) := rfl
    have h8 : Hid (k = 8 → stepsV k (d ^^^ b.setWidth 32) = behindV d b) := fun h => by rw [h]; rfl
    generalize stepsV k (d ^^^ b.setWidth 32) = x at *
    by_cases hlt : k < 8
    · have e2 := u32_and1 x
      have e3 := u32_mul (x &&& 1#32)
      have e5 : bits .xor .u32 (u32 x / 2) (u32 (polyV * (x &&& 1#32))) = u32 ((x >>> 1) ^^^ (polyV * (x &&& 1#32))) := by rw [u32_half]; exact u32_xor _ _
      go_wp2
      go_roundg (8 - (k + 1))
      case rel => exact ⟨k + 1, rfl, by go_num, by omega, by rw [hs.out, ← step_mul], rfl⟩
      case measure => omega
    · have hk8 : k = 8 := by omega
      subst hk8
      obtain rfl := h8.out rfl
      go_wp2
      go_ret
      exact ⟨rfl, rfl⟩
end Go.Proofs.Ytfcoanlegjddpab
