/-
  Package sum's Of by a contract; rows of bytes, read; known.
-/
import Derived.Test.YtfcoanlegjddpabSmBehind
import Derived.ChangeOld
namespace Go.Proofs.Ytfcoanlegjddpab
open Go.RowKit

def hasBytes (w : World) (oa : Option Addr) (ls : List (BitVec 8)) : Prop := ∀ j x, ls[j]? = some x → ∃ b off, oa = some ⟨b, off, none⟩ ∧ w.cell? ⟨b, off + j, none⟩ = some (.int .u8 (u8 x))
/-- A slice of bytes. -/
def isRow (w : World) (v : Value) (r : List (BitVec 8)) : Prop := ∃ oa cap, v = .slice oa r.length cap ∧ hasBytes w oa r
def hasRows (w : World) (oa : Option Addr) (ls : List (List (BitVec 8))) : Prop := ∀ j r, ls[j]? = some r → ∃ b off oe cap, oa = some ⟨b, off, none⟩ ∧ w.cell? ⟨b, off + j, none⟩ = some (.slice oe r.length cap) ∧ hasBytes w oe r ∧ r.length ≤ 9223372036854775807
theorem hasBytes.below {w w' : World} (hb : Below w.heap.size w w') {oa : Option Addr} {l : List (BitVec 8)} (h : hasBytes w oa l) : hasBytes w' oa l := fun j x hj => by
  obtain ⟨b, off, e, hc⟩ := h j x hj
  exact ⟨b, off, e, (hb.cell (World.block_lt_of_cell? _ _ hc)).trans hc⟩
theorem hasRows.below {w w' : World} (hb : Below w.heap.size w w') {oa : Option Addr} {l : List (List (BitVec 8))} (h : hasRows w oa l) : hasRows w' oa l := fun j r hj => by
  obtain ⟨b, off, oe, cap, e, hc, hr, hl⟩ := h j r hj
  exact ⟨b, off, oe, cap, e, (hb.cell (World.block_lt_of_cell? _ _ hc)).trans hc, hr.below hb, hl⟩
theorem rows_take (l : List (List (BitVec 8))) (k : Nat) (r : List (BitVec 8)) (h : l[k]? = some r) (d : BitVec 32) : rowsV d (l.take (k + 1)) = bytesV (rowsV d (l.take k)) r := by
  unfold rowsV
  rw [List.take_add_one, List.foldl_append, h]
  rfl
theorem bytes_take (p : List (BitVec 8)) (k : Nat) (x : BitVec 8) (h : p[k]? = some x) (d : BitVec 32) : bytesV d (p.take (k + 1)) = behindV (bytesV d (p.take k)) x := by
  unfold bytesV
  rw [List.take_add_one, List.foldl_append, h]
  rfl

theorem u32_not (x : BitVec 32) : bits .xor .u32 IntKind.u32.max (u32 x) = u32 (~~~ x) := by
  have h := u32_xor (BitVec.allOnes 32) x
  rw [BitVec.allOnes_xor] at h
  exact h
set_option maxRecDepth 1000000 in
theorem of_any (oa : Option Addr) (cap : Nat) (l : List (List (BitVec 8))) (w : World) (hl : hasRows w oa l) (hm : l.length ≤ 9223372036854775807) :
    Calls Try.prog 20 #[.slice oa l.length cap] w fun e w' => e = .returned (.int .u32 (u32 (sumsV l))) ∧ w' = w := by
  have HL : Hid (hasRows w oa l) := hl
  clear hl
  have ones : Hid ((4294967295 : Int) = u32 (rowsV onesV (l.take 0))) := rfl
  go_enter Try.func20, Try.ntmps20
  go_wp2
  go_loopg [10, 3] l.length (fun gk i x wr => ∃ k : Nat, gk = l.length - k ∧ i = .int .i64 k ∧ k ≤ l.length ∧ x = .int .u32 (u32 (rowsV onesV (l.take k))) ∧ wr = w)
  case atStart => exact ⟨0, rfl, rfl, by omega, by rw [← ones.out], rfl⟩
  case round =>
    obtain ⟨k, rfl, rfl, hk, rfl, rfl⟩ := hrel
    by_cases hlt : k < l.length
    · obtain ⟨r, hr⟩ : ∃ r, l[k]? = some r := ⟨l[k], List.getElem?_eq_getElem hlt⟩
      obtain ⟨b, off, oe, c, rfl, hc, hB, hrl⟩ := HL.out k r hr
      have ht : Hid (rowsV onesV (l.take (k + 1)) = bytesV (rowsV onesV (l.take k)) r) := rows_take l k r hr _
      have HB : Hid (hasBytes wr oe r) := hB
      have hki : (k : Int) < (l.length : Int) := by omega
      clear hB hr
      generalize rowsV onesV (l.take k) = d at *
      go_wp2
      go_loopg [16, 3] r.length (fun gk i x wr' => ∃ j : Nat, gk = r.length - j ∧ i = .int .i64 j ∧ j ≤ r.length ∧ x = .int .u32 (u32 (bytesV d (r.take j))) ∧ wr' = wr)
      case atStart => exact ⟨0, rfl, rfl, by omega, rfl, rfl⟩
      case round =>
        obtain ⟨j, rfl, rfl, hj, rfl, rfl⟩ := hrel
        clear hc
        by_cases hlj : j < r.length
        · obtain ⟨x, hx⟩ : ∃ x, r[j]? = some x := ⟨r[j], List.getElem?_eq_getElem hlj⟩
          obtain ⟨g, o, rfl, hc⟩ := HB.out j x hx
          have ht' : Hid (bytesV d (r.take (j + 1)) = behindV (bytesV d (r.take j)) x) := bytes_take r j x hx d
          have hji : (j : Int) < (r.length : Int) := by omega
          clear hx
          generalize bytesV d (r.take j) = y at *
          go_wp2_with fail
          refine (behind_any y x _).mono ?_
          rintro e w1 ⟨rfl, rfl⟩
          go_wp2
          go_roundg (r.length - (j + 1))
          case rel => exact ⟨j + 1, rfl, by go_num, by omega, by rw [ht'.out], rfl⟩
          case measure => omega
        · have hjr : j = r.length := by omega
          subst hjr
          have hf : Hid (bytesV d (r.take r.length) = rowsV onesV (l.take (k + 1))) := by
            show _ = _
            rw [List.take_length, ht.out]
          generalize bytesV d (r.take r.length) = y at *
          obtain rfl := hf.out
          go_wp2
          go_roundg (l.length - (k + 1))
          case rel => exact ⟨k + 1, rfl, by go_num, by omega, rfl, rfl⟩
          case measure => omega
    · have hkl : k = l.length := by omega
      subst hkl
      have hf : Hid (rowsV onesV (l.take l.length) = rowsV onesV l) := by
        show _ = _
        rw [List.take_length]
      generalize rowsV onesV (l.take l.length) = y at *
      obtain rfl := hf.out
      have e9 := u32_not (rowsV onesV l)
      go_wp2
      go_ret
      exact ⟨rfl, rfl⟩
end Go.Proofs.Ytfcoanlegjddpab
