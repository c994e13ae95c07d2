/-
  The reference's sum of one row, by a contract.
-/
import Derived.Test.YtfcoanlegjddpabSmOf
namespace Go.Proofs.Ytfcoanlegjddpab
open Go.RowKit

theorem and_one (x : BitVec 32) : x &&& 1#32 = if x.getLsbD 0 then 1#32 else 0#32 := by
  apply BitVec.eq_of_getLsbD_eq
  intro i hi
  rw [BitVec.getLsbD_and]
  cases i with
  | zero => cases h : x.getLsbD 0 <;> simp
  | succ i =>
    have h1 : (1#32).getLsbD (i + 1) = false := by simp
    rw [h1, Bool.and_false]
    cases x.getLsbD 0 <;> simp

set_option maxRecDepth 1000000 in
theorem refOf_any (oa : Option Addr) (cap : Nat) (p : List (BitVec 8)) (w : World) (hp : hasBytes w oa p) (hm : p.length ≤ 9223372036854775807) :
    Calls Try.prog 24 #[.slice oa p.length cap] w fun e w' => e = .returned (.int .u32 (u32 (sumV p))) ∧ w' = w := by
  have HP : Hid (hasBytes w oa p) := hp
  clear hp
  have ones : Hid ((4294967295 : Int) = u32 (bytesV onesV (p.take 0))) := rfl
  go_enter Try.func24, Try.ntmps24
  go_wp2
  go_loopg [3, 4] p.length (fun gk x i wr => ∃ k : Nat, gk = p.length - k ∧ i = .int .i64 k ∧ k ≤ p.length ∧ x = .int .u32 (u32 (bytesV onesV (p.take k))) ∧ wr = w)
  case atStart => exact ⟨0, rfl, rfl, by omega, by rw [← ones.out], rfl⟩
  case round =>
    obtain ⟨k, rfl, rfl, hk, rfl, rfl⟩ := hrel
    by_cases hlt : k < p.length
    · obtain ⟨b, hb⟩ : ∃ b, p[k]? = some b := ⟨p[k], List.getElem?_eq_getElem hlt⟩
      obtain ⟨g, o, rfl, hc⟩ := HP.out k b hb
      have ht : Hid (bytesV onesV (p.take (k + 1)) = behindV (bytesV onesV (p.take k)) b) := bytes_take p k b hb onesV
      have hki : (k : Int) < (p.length : Int) := by omega
      clear hb
      generalize bytesV onesV (p.take k) = d at *
      have e0 := u32_of_u8 b
      have e1 := u32_xor d (b.setWidth 32)
      go_wp2
      clear e0 e1 hc
      go_loopg [3, 5] 8 (fun gk x i wr' => ∃ j : Nat, gk = 8 - j ∧ i = .int .i64 j ∧ j ≤ 8 ∧ x = .int .u32 (u32 (stepsV j (d ^^^ b.setWidth 32))) ∧ wr' = wr)
      case atStart => exact ⟨0, rfl, rfl, by omega, rfl, rfl⟩
      case round =>
        obtain ⟨j, rfl, rfl, hj, rfl, rfl⟩ := hrel
        have hs : Hid (stepsV (j + 1) (d ^^^ b.setWidth 32) = stepV (stepsV j (d ^^^ b.setWidth 32))) := rfl
        have h8 : Hid (j = 8 → stepsV j (d ^^^ b.setWidth 32) = behindV d b) := fun h => by rw [h]; rfl
        generalize stepsV j (d ^^^ b.setWidth 32) = y at *
        by_cases hlj : j < 8
        · by_cases hbit : y.getLsbD 0 = true
          · have e2 : bits .and .u32 (u32 y) 1 = 1 := by rw [u32_and1, and_one, if_pos hbit]; rfl
            have e5 : bits .xor .u32 (u32 y / 2) 2197175160 = u32 (stepV y) := by
              rw [u32_half]
              refine (u32_xor (y >>> 1) polyV).trans ?_
              unfold stepV
              rw [if_pos hbit]
            clear hbit
            go_wp2
            go_roundg (8 - (j + 1))
            case rel => exact ⟨j + 1, rfl, by go_num, by omega, by rw [hs.out], rfl⟩
            case measure => omega
          · have e2 : bits .and .u32 (u32 y) 1 = 0 := by rw [u32_and1, and_one, if_neg hbit]; rfl
            have e5 : (u32 y / 2 : Int) = u32 (stepV y) := by
              rw [u32_half]
              unfold stepV
              rw [if_neg hbit, BitVec.xor_zero]
            clear hbit
            go_wp2
            go_roundg (8 - (j + 1))
            case rel => exact ⟨j + 1, rfl, by go_num, by omega, by rw [hs.out], rfl⟩
            case measure => omega
        · have hj8 : j = 8 := by omega
          subst hj8
          obtain rfl := h8.out rfl
          go_wp2
          go_roundg (p.length - (k + 1))
          case rel => exact ⟨k + 1, rfl, by go_num, by omega, by rw [ht.out], rfl⟩
          case measure => omega
    · have hkl : k = p.length := by omega
      subst hkl
      have hf : Hid (bytesV onesV (p.take p.length) = bytesV onesV p) := by
        show _ = _
        rw [List.take_length]
      generalize bytesV onesV (p.take p.length) = y at *
      obtain rfl := hf.out
      have e9 := u32_not (bytesV onesV p)
      go_wp2
      go_ret
      exact ⟨rfl, rfl⟩
end Go.Proofs.Ytfcoanlegjddpab
