/-
  The reference's telegrams: big, thing, number, each by a contract.
-/
import Derived.Test.YtfcoanlegjddpabWrThing
import Derived.Test.YtfcoanlegjddpabWrPack
import Derived.Test.YtfcoanlegjddpabCrRef
import Derived.Laws.IdiomStrings
namespace Go.Proofs.Ytfcoanlegjddpab
open Go.RowKit

theorem bytes_at {w : World} {oa : Option Addr} {q : List (BitVec 8)} (h : hasBytes w oa q) (k : Nat) (x : BitVec 8) (hx : q[k]? = some x) : ∃ b off, oa = some ⟨b, off, none⟩ ∧ w.cell? ⟨b, off + k, none⟩ = some (.int .u8 (x.toNat : Int)) := h k x hx
theorem or_nat (y z : Nat) (hz : z < 256) : y * 256 ||| z = y * 256 + z := by
  have := Nat.shiftLeft_add_eq_or_of_lt (show z < 2 ^ 8 from hz) y
  rw [Nat.shiftLeft_eq] at this
  exact this.symm
theorem or_u64 (y z : Nat) (hy : y < 72057594037927936) (hz : z < 256) : bits .or .u64 ((y : Int) * 256) (z : Int) = ((y * 256 + z : Nat) : Int) := by
  have e1 : BitVec.ofInt 64 ((y : Int) * 256) = BitVec.ofNat 64 (y * 256) := by
    rw [show (y : Int) * 256 = ((y * 256 : Nat) : Int) by omega, BitVec.ofInt_natCast]
  show IntKind.u64.wrap ((BitVec.ofInt 64 ((y : Int) * 256) ||| BitVec.ofInt 64 (z : Int)).toNat : Int) = _
  rw [e1, BitVec.ofInt_natCast, BitVec.toNat_or, BitVec.toNat_ofNat, BitVec.toNat_ofNat, Nat.mod_eq_of_lt (by omega), Nat.mod_eq_of_lt (by omega), or_nat y z hz, num_u64]
  omega

set_option maxRecDepth 1000000 in
set_option maxHeartbeats 1000000 in
theorem refNumber_any (oa : Option Addr) (cap : Nat) (q : List (BitVec 8)) (w : World) (h : hasBytes w oa q) (hs : q.length ≤ 8) :
    Calls Try.prog 23 #[.slice oa q.length cap] w fun e w' => e = .returned (.int .u64 (numV q : Int)) ∧ w' = w := by
  have HB : Hid (hasBytes w oa q) := h
  clear h
  go_enter Try.func23, Try.ntmps23
  go_wp2
  go_loopg [3, 4] q.length (fun gk x i wr => ∃ k : Nat, gk = q.length - k ∧ i = .int .i64 k ∧ k ≤ q.length ∧ x = .int .u64 (numV (q.take k) : Int) ∧ wr = w)
  case atStart => exact ⟨0, rfl, rfl, by omega, rfl, rfl⟩
  case round =>
    obtain ⟨k, rfl, rfl, hk, rfl, rfl⟩ := hrel
    by_cases hlt : k < q.length
    · have hki : (k : Int) < (q.length : Int) := by omega
      obtain ⟨x, hx⟩ : ∃ x, q[k]? = some x := ⟨q[k], List.getElem?_eq_getElem hlt⟩
      obtain ⟨b, off, rfl, hc⟩ := bytes_at HB.out k x hx
      have HN : Hid (numV (q.take (k + 1)) = numV (q.take k) * 256 + x.toNat) := by
        show _ = _
        rw [List.take_add_one, hx]
        exact num_snoc _ _
      have hlt2 := num_lt (q.take k)
      have hp7 : 256 ^ (q.take k).length ≤ 256 ^ 7 := Nat.pow_le_pow_right (by decide) (by rw [List.length_take]; omega)
      have hb72 : numV (q.take k) < 72057594037927936 := by omega
      clear hlt2 hp7 hx
      generalize numV (q.take k) = y at *
      have hx8 := x.isLt
      generalize x.toNat = z at *
      have ho := or_u64 y z hb72 (by omega)
      go_wp2
      go_roundg (q.length - (k + 1))
      case rel => exact ⟨k + 1, rfl, by go_num, by omega, by rw [HN.out]; go_num, rfl⟩
      case measure => omega
    · have hkq : k = q.length := by omega
      subst hkq
      have HT : Hid (q.take q.length = q) := List.take_length
      rw [HT.out]
      go_wp2
      go_ret
      exact ⟨rfl, rfl⟩

/-- A string's bytes as a row of their own. -/
theorem str_row (s : ByteArray) : ∃ (cp : World → Nat) (nx : World → World), (∀ W, (convert 9 22 (.string s)).run Try.prog W = .ok (.slice (some ⟨W.heap.size, 0, none⟩) s.size (cp W)) (nx W)) ∧
    ∀ W, Below W.heap.size W (nx W) ∧ hasBytes (nx W) (some ⟨W.heap.size, 0, none⟩) (bytesS s) := by
  refine ⟨_, _, fun W => run_bytes_of_string W 9 22 5 s Try.underlying9 Try.underlying22 Try.underlying5, fun W => ⟨((Below.refl _ _).drew).alloc (Nat.le_refl _) _, fun j x hj => ⟨W.heap.size, 0, rfl, ?_⟩⟩⟩
  have h1 : (W.drew.alloc (.cells (bytesRow s (grownCap W s.size 0 5)) 5 ((bytesRow s (grownCap W s.size 0 5)).size, (bytesRow s (grownCap W s.size 0 5)).size + 1))).heap[W.heap.size]? = some (.cells (bytesRow s (grownCap W s.size 0 5)) 5 ((bytesRow s (grownCap W s.size 0 5)).size, (bytesRow s (grownCap W s.size 0 5)).size + 1)) := sblk_new W.drew _
  have hlt : j < s.data.size := by
    have := (List.getElem?_eq_some_iff.1 hj).1
    rw [bytes_len] at this
    exact this
  simp only [World.cell?, h1]
  have h2 : (bytesRow s (grownCap W s.size 0 5))[0 + j]? = some (.int .u8 (u8 x)) := by
    rw [Nat.zero_add, bytesRow, Array.getElem?_append_left (by simpa using hlt)]
    unfold bytesS at hj
    rw [List.getElem?_map, Option.map_eq_some_iff] at hj
    obtain ⟨y, hy, rfl⟩ := hj
    rw [Array.getElem?_map, ← Array.getElem?_toList, hy]
    rfl
  exact h2

end Go.Proofs.Ytfcoanlegjddpab
