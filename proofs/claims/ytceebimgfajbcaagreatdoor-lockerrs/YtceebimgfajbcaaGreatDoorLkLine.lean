/-
  The law's layout of two routes, and a lock of it: by contracts.
-/
import Derived.Test.YtceebimgfajbcaaGreatDoorLkNew
import Derived.Test.YtceebimgfajbcaaGreatDoorTbFew
namespace Go.Proofs.YtceebimgfajbcaaGreatDoor
open Go.RowKit

def rt0 : Rt := ⟨⟨#[114]⟩, 0, 1, [0, 1], [(0, false)], []⟩
def rt1 : Rt := ⟨⟨#[113]⟩, 1, 2, [2], [], []⟩
def lineLay : Lay := ⟨[⟨#[97]⟩, ⟨#[98]⟩, ⟨#[99]⟩], [(⟨#[112]⟩, 1)], [⟨#[115]⟩, ⟨#[116]⟩, ⟨#[117]⟩], [rt0, rt1]⟩
def lineW : List Wy := [⟨0, [0, 1], [(0, false)], []⟩, ⟨1, [2], [], []⟩]

set_option maxRecDepth 1000000 in
set_option maxHeartbeats 4000000 in
theorem line_any (w : World) : Calls Tryz.prog 39 #[] w fun e w' => ∃ v a b c d e' f, e = .returned (.agg #[v 0, v 1, v 2, v 3]) ∧ LayRd w' v lineLay [(rt0, a, b, c), (rt1, d, e', f)] ∧ Few lineLay [(rt0, a, b, c), (rt1, d, e', f)] v ∧ Below w.heap.size w w' := by
  generalize hch : (((((((w.alloc (.cells #[.slice (some ⟨w.heap.size + 1, 0, none⟩) 3 3, .slice (some ⟨w.heap.size + 1 + 1, 0, none⟩) 1 1, .slice (some ⟨w.heap.size + 1 + 1 + 1, 0, none⟩) 3 3, .slice (some ⟨w.heap.size + 1 + 1 + 1 + 1 + 1 + 1 + 1, 0, none⟩) 2 2] 26)).alloc (.cells #[.string ⟨#[97]⟩, .string ⟨#[98]⟩, .string ⟨#[99]⟩] 9)).alloc (.cells #[.string ⟨#[112]⟩, .int .i64 1] 63)).alloc (.cells #[.string ⟨#[115]⟩, .string ⟨#[116]⟩, .string ⟨#[117]⟩] 9)).alloc (.cells #[.int .i64 0, .int .i64 1] 3)).alloc (.cells #[.int .i64 0, .bool false] 96)).alloc (.cells #[.int .i64 2] 3)).alloc (.cells #[.string ⟨#[114]⟩, .int .i64 0, .int .i64 1, .slice (some ⟨w.heap.size + 1 + 1 + 1 + 1, 0, none⟩) 2 2, .slice (some ⟨w.heap.size + 1 + 1 + 1 + 1 + 1, 0, none⟩) 1 1, .slice none 0 0, .string ⟨#[113]⟩, .int .i64 1, .int .i64 2, .slice (some ⟨w.heap.size + 1 + 1 + 1 + 1 + 1 + 1, 0, none⟩) 1 1, .slice none 0 0, .slice none 0 0] 66) = W
  have HB : Hid (Below w.heap.size w W) := by show Below _ _ _; rw [← hch]; exact (by repeat' (with_reducible first | exact Below.refl _ _ | refine Below.drew ?_ | refine _root_.Go.below_drewN ?_ _ | refine Below.alloc ?_ ?_ _ | refine Below.setCell ?_ ?_ _ | exact Nat.le_refl _ | (simp; done) | (simp; omega)))
  have H1 : Hid (W.heap[w.heap.size + 1]? = some (.cells #[.string ⟨#[97]⟩, .string ⟨#[98]⟩, .string ⟨#[99]⟩] 9 (0, 0))) := by show _ = _; rw [← hch]; repeat (first | (refine blk_new' ?_; simp; done) | refine blk_old ?_)
  have H2 : Hid (W.heap[w.heap.size + 1 + 1]? = some (.cells #[.string ⟨#[112]⟩, .int .i64 1] 63 (0, 0))) := by show _ = _; rw [← hch]; repeat (first | (refine blk_new' ?_; simp; done) | refine blk_old ?_)
  have H3 : Hid (W.heap[w.heap.size + 1 + 1 + 1]? = some (.cells #[.string ⟨#[115]⟩, .string ⟨#[116]⟩, .string ⟨#[117]⟩] 9 (0, 0))) := by show _ = _; rw [← hch]; repeat (first | (refine blk_new' ?_; simp; done) | refine blk_old ?_)
  have H4 : Hid (W.heap[w.heap.size + 1 + 1 + 1 + 1]? = some (.cells #[.int .i64 0, .int .i64 1] 3 (0, 0))) := by show _ = _; rw [← hch]; repeat (first | (refine blk_new' ?_; simp; done) | refine blk_old ?_)
  have H5 : Hid (W.heap[w.heap.size + 1 + 1 + 1 + 1 + 1]? = some (.cells #[.int .i64 0, .bool false] 96 (0, 0))) := by show _ = _; rw [← hch]; repeat (first | (refine blk_new' ?_; simp; done) | refine blk_old ?_)
  have H6 : Hid (W.heap[w.heap.size + 1 + 1 + 1 + 1 + 1 + 1]? = some (.cells #[.int .i64 2] 3 (0, 0))) := by show _ = _; rw [← hch]; repeat (first | (refine blk_new' ?_; simp; done) | refine blk_old ?_)
  have H7 : Hid (W.heap[w.heap.size + 1 + 1 + 1 + 1 + 1 + 1 + 1]? = some (.cells #[.string ⟨#[114]⟩, .int .i64 0, .int .i64 1, .slice (some ⟨w.heap.size + 1 + 1 + 1 + 1, 0, none⟩) 2 2, .slice (some ⟨w.heap.size + 1 + 1 + 1 + 1 + 1, 0, none⟩) 1 1, .slice none 0 0, .string ⟨#[113]⟩, .int .i64 1, .int .i64 2, .slice (some ⟨w.heap.size + 1 + 1 + 1 + 1 + 1 + 1, 0, none⟩) 1 1, .slice none 0 0, .slice none 0 0] 66 (0, 0))) := by show _ = _; rw [← hch]; repeat (first | (refine blk_new' ?_; simp; done) | refine blk_old ?_)
  have HC : Hid (W = (((((((w.alloc (.cells #[.slice (some ⟨w.heap.size + 1, 0, none⟩) 3 3, .slice (some ⟨w.heap.size + 1 + 1, 0, none⟩) 1 1, .slice (some ⟨w.heap.size + 1 + 1 + 1, 0, none⟩) 3 3, .slice (some ⟨w.heap.size + 1 + 1 + 1 + 1 + 1 + 1 + 1, 0, none⟩) 2 2] 26)).alloc (.cells #[.string ⟨#[97]⟩, .string ⟨#[98]⟩, .string ⟨#[99]⟩] 9)).alloc (.cells #[.string ⟨#[112]⟩, .int .i64 1] 63)).alloc (.cells #[.string ⟨#[115]⟩, .string ⟨#[116]⟩, .string ⟨#[117]⟩] 9)).alloc (.cells #[.int .i64 0, .int .i64 1] 3)).alloc (.cells #[.int .i64 0, .bool false] 96)).alloc (.cells #[.int .i64 2] 3)).alloc (.cells #[.string ⟨#[114]⟩, .int .i64 0, .int .i64 1, .slice (some ⟨w.heap.size + 1 + 1 + 1 + 1, 0, none⟩) 2 2, .slice (some ⟨w.heap.size + 1 + 1 + 1 + 1 + 1, 0, none⟩) 1 1, .slice none 0 0, .string ⟨#[113]⟩, .int .i64 1, .int .i64 2, .slice (some ⟨w.heap.size + 1 + 1 + 1 + 1 + 1 + 1, 0, none⟩) 1 1, .slice none 0 0, .slice none 0 0] 66)) := hch.symm
  clear hch
  go_enter Tryz.func39, Tryz.ntmps39
  go_wp2
  refine bodyPost_ret (v := .agg #[.slice (some ⟨w.heap.size + 1, 0, none⟩) 3 3, .slice (some ⟨w.heap.size + 1 + 1, 0, none⟩) 1 1, .slice (some ⟨w.heap.size + 1 + 1 + 1, 0, none⟩) 3 3, .slice (some ⟨w.heap.size + 1 + 1 + 1 + 1 + 1 + 1 + 1, 0, none⟩) 2 2]) (by simp [results, Tryz.results39, go_sem]) rfl ?_
  rw [← HC.out]
  refine ⟨v4 (.slice (some ⟨w.heap.size + 1, 0, none⟩) 3 3) (.slice (some ⟨w.heap.size + 1 + 1, 0, none⟩) 1 1) (.slice (some ⟨w.heap.size + 1 + 1 + 1, 0, none⟩) 3 3) (.slice (some ⟨w.heap.size + 1 + 1 + 1 + 1 + 1 + 1 + 1, 0, none⟩) 2 2), .slice (some ⟨w.heap.size + 1 + 1 + 1 + 1, 0, none⟩) 2 2, .slice (some ⟨w.heap.size + 1 + 1 + 1 + 1 + 1, 0, none⟩) 1 1, .slice none 0 0, .slice (some ⟨w.heap.size + 1 + 1 + 1 + 1 + 1 + 1, 0, none⟩) 1 1, .slice none 0 0, .slice none 0 0, rfl, ?_, ?_, HB.out⟩
  · exact lay_two (ks := 3) (kg := 3) lineLay.sections lineLay.signals _ lineLay.points (rt0, _, _, _) (rt1, _, _, _) H1.out rfl H3.out rfl H7.out rfl (row_blk (cs := pC) (fun _ => rfl) lineLay.points H2.out rfl)
      ⟨row_blk (cs := iC) (fun _ => rfl) [0, 1] H4.out rfl, row_blk (cs := nC) (fun _ => rfl) [(0, false)] H5.out rfl, rowAt.nil _ _ _⟩ ⟨row_blk (cs := iC) (fun _ => rfl) [2] H6.out rfl, rowAt.nil _ _ _, rowAt.nil _ _ _⟩
  · refine ⟨by simp [lineLay], fun x hx => ?_, cap_of (Nat.le_refl _), cap_of (Nat.le_refl _)⟩
    rcases List.mem_cons.1 hx with rfl | hx
    · exact ⟨cap_of (Nat.le_refl _), by simp [rt0], by simp [rt0], by simp [rt0]⟩
    · rw [List.mem_singleton.1 hx]
      exact ⟨cap_of (Nat.le_refl _), by simp [rt1], by simp [rt1], by simp [rt1]⟩

/-- Two states that may be. -/
def okS (ss : List St) : Prop := ∃ s0 s1, ss = [s0, s1] ∧ mayBeF s0 2 = true ∧ mayBeF s1 1 = true
theorem okL {ss : List St} (h : okS ss) : LkOk 3 3 [1] lineW ss := by
  obtain ⟨s0, s1, rfl, h0, h1⟩ := h
  refine ⟨rfl, ?_, ?_, by simp, ?_, by simp [lineW]⟩
  · intro x hx
    simp only [lineW, List.mem_cons, List.not_mem_nil, or_false] at hx
    rcases hx with rfl | rfl
    · exact ⟨by simp, by simp, by simp, by simp, by simp⟩
    · exact ⟨by simp, by simp, by simp, by simp, by simp⟩
  · intro x hx f hf
    simp only [lineW, List.mem_cons, List.not_mem_nil, or_false] at hx
    rcases hx with rfl | rfl <;> simp at hf
  · intro k x s hx hs
    match k, hx, hs with
    | 0, hx, hs => simp [lineW] at hx hs; subst hx hs; exact h0
    | 1, hx, hs => simp [lineW] at hx hs; subst hx hs; exact h1
    | k + 2, hx, hs => simp at hs
end Go.Proofs.YtceebimgfajbcaaGreatDoor
