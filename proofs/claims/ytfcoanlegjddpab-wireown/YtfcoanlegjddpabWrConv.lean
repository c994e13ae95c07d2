/-
  A row of bytes as a string; bytes.Equal.
-/
import Derived.Test.YtfcoanlegjddpabWrP
import Derived.Test.YtfcoanlegjddpabSmOf
import Derived.Laws.IdiomStrings
namespace Go.Proofs.Ytfcoanlegjddpab
open Go.RowKit

theorem push_bytes (q : List (BitVec 8)) : (q.map u8).foldl (fun r n => r.push (UInt8.ofNat n.toNat)) ByteArray.empty = strV q := by
  have e : q.map u8 = (q.map UInt8.ofBitVec).map (fun b => (b.toNat : Int)) := by
    rw [List.map_map]
    rfl
  rw [e, foldl_push_byteCells]
  have he0 : ByteArray.empty.data = #[] := rfl
  rw [he0]
  simp [strV]
theorem conv_any (oa : Option Addr) (q : List (BitVec 8)) (cap : Nat) (W : World) (h : hasBytes W oa q) : (convert 22 9 (.slice oa q.length cap)).run Try.prog W = .ok (.string (strV q)) W := by
  rw [run_convert_bytes_string W 22 9 5 oa q.length cap Try.underlying22 Try.underlying5 Try.underlying9]
  cases oa with
  | none =>
    cases q with
    | nil => simp [Conv.bytesToString]; rfl
    | cons x q =>
      obtain ⟨b, off, e, _⟩ := h 0 x rfl
      cases e
  | some a =>
    have hl : (loadCells a q.length).run Try.prog W = .ok ((q.map u8).map (Value.int .u8)).toArray W := by
      have := run_loadCells_list (P := Try.prog) W a ((q.map u8).map (Value.int .u8)) (fun j v hj => by
        rw [List.getElem?_map, List.getElem?_map] at hj
        cases hx : q[j]? with
        | none => rw [hx] at hj; cases hj
        | some x =>
          rw [hx] at hj
          obtain ⟨b, off, e, hc⟩ := h j x hx
          injection e with e
          subst e
          have ha : (⟨b, off, none⟩ : Addr).add j = ⟨b, off + j, none⟩ := by unfold Addr.add; split <;> simp_all
          rw [ha, hc]
          exact hj)
      rw [List.length_map, List.length_map] at this
      exact this
    rw [run_bytesToString W a q.length cap (q.map u8) hl, push_bytes]
theorem beq_str (a b : ByteArray) : (a.toList == b.toList) = decide (a = b) := by
  rw [Lib.toList_data, Lib.toList_data, Bool.eq_iff_iff]
  simp only [beq_iff_eq, decide_eq_true_eq]
  exact ⟨fun h => ByteArray.ext (Array.ext' h), fun h => by rw [h]⟩
theorem strV_inj {p q : List (BitVec 8)} (h : strV p = strV q) : p = q := by rw [← bytes_str p, h, bytes_str]

set_option maxRecDepth 1000000 in
theorem equal_any (oa ob : Option Addr) (ca cb : Nat) (p q : List (BitVec 8)) (w : World) (hp : hasBytes w oa p) (hq : hasBytes w ob q) :
    Calls Try.prog 22 #[.slice oa p.length ca, .slice ob q.length cb] w fun e w' => e = .returned (.bool (decide (p = q))) ∧ w' = w := by
  have r1 := conv_any oa p ca w hp
  have r2 := conv_any ob q cb w hq
  have HE : Hid (decide (strV p = strV q) = decide (p = q)) := by
    show _ = _
    rw [Bool.eq_iff_iff, decide_eq_true_eq, decide_eq_true_eq]
    exact ⟨strV_inj, fun h => by rw [h]⟩
  clear hp hq
  go_enter Try.func22, Try.ntmps22
  go_wp2
  go_ret
  refine ⟨?_, rfl⟩
  exact congrArg (fun b => Ending.returned (Value.bool b)) ((beq_str _ _).trans HE.out)
end Go.Proofs.Ytfcoanlegjddpab
