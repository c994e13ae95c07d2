/-
  Of every number and any two truth values: TablePoints returns true. No condition.
-/
import Derived.Test.YtkeefaacaimicaaRows
import Derived.Test.YtkeefaacaimicaaTbTwo
import Derived.WalkKit
import Derived.ProofKit
import Derived.OpenShut
import Derived.ShutString
import Derived.ChangeOld
import Derived.Below
import Derived.SizedLaws
namespace Go.Proofs.Ytkeefaacaimicaa.tablePoints
open Go.ChangeShapes Go.WideShapes Go.ChangeAt Go.RowKit

theorem few_lay {w : World} {l : Lay} {rs : List RtV} {v : Nat → Value} (_ : LayRd w v l rs) (h : Few l rs v) : Few l rs v := h

set_option maxRecDepth 1000000 in
set_option maxHeartbeats 4000000 in
theorem pts0tt (w : World) : Calls Try.prog 4 #[.int .i64 0, .bool true, .bool true] w fun e w' => e = .returned (.bool true) ∧ Below w.heap.size w w' := by
  go_enter Try.func4, Try.ntmps4
  go_wp2_with (go_at_call 7; refine (two_at _ _ _ _ _ _ _).mono ?_; rintro e w' ⟨rfl, rfl⟩)
  refine with_world (fun W hW => ?_)
  have HB : Hid (Below w.heap.size w W) := by
    show Below _ _ _
    rw [hW]
    repeat' (with_reducible first | exact Below.refl _ _ | refine Below.alloc ?_ ?_ _ | exact Nat.le_refl _ | (simp; done) | (simp; omega))
  have L := lay_two (W := W) (bs := w.heap.size + 1 + 1 + 1) (bg := w.heap.size + 1 + 1 + 1 + 1) (br := w.heap.size + 1 + 1 + 1 + 1 + 1) (cs := #[.string ⟨#[97]⟩, .string ⟨#[98]⟩, .string ⟨#[99]⟩, .string ⟨#[100]⟩]) (cg := #[.string ⟨#[115]⟩, .string ⟨#[116]⟩, .string ⟨#[117]⟩]) (cr := #[.string ⟨#[114]⟩, .int .i64 0, .int .i64 2, .slice (some ⟨w.heap.size, 0, none⟩) 1 1, .slice (some ⟨w.heap.size + 1 + 1 + 1 + 1 + 1 + 1 + 1 + 1, 0, none⟩) 1 1, .slice (some ⟨w.heap.size + 1 + 1 + 1 + 1 + 1 + 1 + 1 + 1 + 1, 0, none⟩) 1 1, .string ⟨#[113]⟩, .int .i64 1, .int .i64 2, .slice (some ⟨w.heap.size + 1, 0, none⟩) 1 1, .slice none 0 0, .slice (some ⟨w.heap.size + 1 + 1 + 1 + 1 + 1 + 1 + 1 + 1 + 1 + 1, 0, none⟩) 1 1]) (ts := 9) (tg := 9) (tr := 40) (zs := (0, 0)) (zg := (0, 0)) (zr := (0, 0)) (ks := 4) (kg := 3) [⟨#[97]⟩, ⟨#[98]⟩, ⟨#[99]⟩, ⟨#[100]⟩] [⟨#[115]⟩, ⟨#[116]⟩, ⟨#[117]⟩] (.slice (some ⟨w.heap.size + 1 + 1 + 1 + 1 + 1 + 1 + 1, 0, none⟩) 2 2) [(⟨#[112]⟩, 0), (⟨#[113]⟩, 3)] ((⟨⟨#[114]⟩, 0, 2, [0], [(0, false)], [(1, true)]⟩, .slice (some ⟨w.heap.size, 0, none⟩) 1 1, .slice (some ⟨w.heap.size + 1 + 1 + 1 + 1 + 1 + 1 + 1 + 1, 0, none⟩) 1 1, .slice (some ⟨w.heap.size + 1 + 1 + 1 + 1 + 1 + 1 + 1 + 1 + 1, 0, none⟩) 1 1) : RtV) ((⟨⟨#[113]⟩, 1, 2, [1], [], [(1, true)]⟩, .slice (some ⟨w.heap.size + 1, 0, none⟩) 1 1, .slice none 0 0, .slice (some ⟨w.heap.size + 1 + 1 + 1 + 1 + 1 + 1 + 1 + 1 + 1 + 1, 0, none⟩) 1 1) : RtV) (by rw [hW]; repeat (first | (refine blk_new' ?_; simp; done) | refine blk_old ?_)) rfl (by rw [hW]; repeat (first | (refine blk_new' ?_; simp; done) | refine blk_old ?_)) rfl (by rw [hW]; repeat (first | (refine blk_new' ?_; simp; done) | refine blk_old ?_)) rfl (row_blk (cs := pC) (c := #[.string ⟨#[112]⟩, .int .i64 0, .string ⟨#[113]⟩, .int .i64 3]) (t := 35) (z := (0, 0)) (cap := 2) (fun _ => rfl) [(⟨#[112]⟩, 0), (⟨#[113]⟩, 3)] (by rw [hW]; repeat (first | (refine blk_new' ?_; simp; done) | refine blk_old ?_)) rfl) ⟨(row_blk (cs := iC) (c := #[.int .i64 0]) (t := 3) (z := (0, 0)) (cap := 1) (fun _ => rfl) [0] (by rw [hW]; repeat (first | (refine blk_new' ?_; simp; done) | refine blk_old ?_)) rfl), (row_blk (cs := nC) (c := #[.int .i64 0, .bool false]) (t := 37) (z := (0, 0)) (cap := 1) (fun _ => rfl) [(0, false)] (by rw [hW]; repeat (first | (refine blk_new' ?_; simp; done) | refine blk_old ?_)) rfl), (row_blk (cs := nC) (c := #[.int .i64 1, .bool true]) (t := 37) (z := (0, 0)) (cap := 1) (fun _ => rfl) [(1, true)] (by rw [hW]; repeat (first | (refine blk_new' ?_; simp; done) | refine blk_old ?_)) rfl)⟩ ⟨(row_blk (cs := iC) (c := #[.int .i64 1]) (t := 3) (z := (0, 0)) (cap := 1) (fun _ => rfl) [1] (by rw [hW]; repeat (first | (refine blk_new' ?_; simp; done) | refine blk_old ?_)) rfl), (rowAt.nil _ _ _), (row_blk (cs := nC) (c := #[.int .i64 1, .bool true]) (t := 37) (z := (0, 0)) (cap := 1) (fun _ => rfl) [(1, true)] (by rw [hW]; repeat (first | (refine blk_new' ?_; simp; done) | refine blk_old ?_)) rfl)⟩
  have FW := few_lay L ⟨by simp, fun x hx => (by
    rcases List.mem_cons.1 hx with rfl | hx
    · exact ⟨cap_of (by omega), by simp, by simp, by simp⟩
    · rw [List.mem_singleton.1 hx]
      exact ⟨cap_of (by omega), by simp, by simp, by simp⟩), cap_of (by simp), cap_of (by simp)⟩
  have I := is_few L FW true (by kernel_rfl)
  have CF : Hid (∀ W', Below W.heap.size W W' → Calls Try.prog 9 #[.agg #[.slice (some ⟨w.heap.size + 1 + 1 + 1, 0, none⟩) 4 4, .slice (some ⟨w.heap.size + 1 + 1 + 1 + 1 + 1 + 1 + 1, 0, none⟩) 2 2, .slice (some ⟨w.heap.size + 1 + 1 + 1 + 1, 0, none⟩) 3 3, .slice (some ⟨w.heap.size + 1 + 1 + 1 + 1 + 1, 0, none⟩) 2 2], .int .i64 0, .int .i64 1] W' fun e w' => e = .returned (.bool false) ∧ Below W'.heap.size W' w') := fun W' hW' => conf_few (L.below hW') FW 0 1 _ _ rfl rfl false (by kernel_rfl)
  have ND : Hid (∀ W', Below W.heap.size W W' → Calls Try.prog 11 #[.agg #[.slice (some ⟨w.heap.size + 1 + 1 + 1, 0, none⟩) 4 4, .slice (some ⟨w.heap.size + 1 + 1 + 1 + 1 + 1 + 1 + 1, 0, none⟩) 2 2, .slice (some ⟨w.heap.size + 1 + 1 + 1 + 1, 0, none⟩) 3 3, .slice (some ⟨w.heap.size + 1 + 1 + 1 + 1 + 1, 0, none⟩) 2 2], .int .i64 0] W' fun e w' => ∃ u, e = .returned u ∧ rowAt w' u 2 nC [(0, false), (1, true)] ∧ Below W'.heap.size W' w') := fun W' hW' => tableNeeds_any _ _ _ 0 _ W' (L.below hW') rfl (by simp)
  have VL : Hid (W.cell? ⟨w.heap.size + 1 + 1 + 1 + 1 + 1 + 1, 0, none⟩ = some (.slice (some ⟨w.heap.size + 1 + 1 + 1, 0, none⟩) 4 4) ∧ W.cell? ⟨w.heap.size + 1 + 1 + 1 + 1 + 1 + 1, 1, none⟩ = some (.slice (some ⟨w.heap.size + 1 + 1 + 1 + 1 + 1 + 1 + 1, 0, none⟩) 2 2) ∧ W.cell? ⟨w.heap.size + 1 + 1 + 1 + 1 + 1 + 1, 2, none⟩ = some (.slice (some ⟨w.heap.size + 1 + 1 + 1 + 1, 0, none⟩) 3 3) ∧ W.cell? ⟨w.heap.size + 1 + 1 + 1 + 1 + 1 + 1, 3, none⟩ = some (.slice (some ⟨w.heap.size + 1 + 1 + 1 + 1 + 1, 0, none⟩) 2 2)) := by
    show _ ∧ _
    rw [hW]
    refine ⟨?_, ?_, ?_, ?_⟩ <;> go_simp
  clear hW L FW
  refine I.mono ?_
  rintro e w1 ⟨rfl, hb1⟩
  have up1 : ∀ {p : Addr} {u : Value}, W.cell? p = some u → w1.cell? p = some u := fun h => (hb1.cell (World.block_lt_of_cell? _ _ h)).trans h
  have m0 := up1 VL.out.1
  have m1 := up1 VL.out.2.1
  have m2 := up1 VL.out.2.2.1
  have m3 := up1 VL.out.2.2.2
  go_wp2_with fail
  refine (CF.out _ hb1).mono ?_
  rintro e w2 ⟨rfl, hb2⟩
  have hb2 := hb1.trans (hb2.mono hb1.size)
  have up2 : ∀ {p : Addr} {u : Value}, W.cell? p = some u → w2.cell? p = some u := fun h => (hb2.cell (World.block_lt_of_cell? _ _ h)).trans h
  clear m0 m1 m2 m3
  have m0 := up2 VL.out.1
  have m1 := up2 VL.out.2.1
  have m2 := up2 VL.out.2.2.1
  have m3 := up2 VL.out.2.2.2
  go_wp2_with fail
  refine (ND.out _ hb2).mono ?_
  rintro e w3 ⟨u3, rfl, ⟨o3, c3, rfl, _⟩, hb3⟩
  have hb3 := hb2.trans (hb3.mono hb2.size)
  (try simp only [List.length_cons, List.length_nil])
  go_wp2_with fail
  refine (known_any _).mono ?_
  rintro e w4 ⟨rfl, hb4⟩
  have hb4 := hb3.trans (hb4.mono hb3.size)
  go_wp2
  go_ret
  exact ⟨rfl, HB.out.trans (hb4.mono HB.out.size)⟩

set_option maxRecDepth 1000000 in
set_option maxHeartbeats 4000000 in
theorem pts0tf (w : World) : Calls Try.prog 4 #[.int .i64 0, .bool true, .bool false] w fun e w' => e = .returned (.bool true) ∧ Below w.heap.size w w' := by
  go_enter Try.func4, Try.ntmps4
  go_wp2_with (go_at_call 7; refine (two_at _ _ _ _ _ _ _).mono ?_; rintro e w' ⟨rfl, rfl⟩)
  refine with_world (fun W hW => ?_)
  have HB : Hid (Below w.heap.size w W) := by
    show Below _ _ _
    rw [hW]
    repeat' (with_reducible first | exact Below.refl _ _ | refine Below.alloc ?_ ?_ _ | exact Nat.le_refl _ | (simp; done) | (simp; omega))
  have L := lay_two (W := W) (bs := w.heap.size + 1 + 1 + 1) (bg := w.heap.size + 1 + 1 + 1 + 1) (br := w.heap.size + 1 + 1 + 1 + 1 + 1) (cs := #[.string ⟨#[97]⟩, .string ⟨#[98]⟩, .string ⟨#[99]⟩, .string ⟨#[100]⟩]) (cg := #[.string ⟨#[115]⟩, .string ⟨#[116]⟩, .string ⟨#[117]⟩]) (cr := #[.string ⟨#[114]⟩, .int .i64 0, .int .i64 2, .slice (some ⟨w.heap.size, 0, none⟩) 1 1, .slice (some ⟨w.heap.size + 1 + 1 + 1 + 1 + 1 + 1 + 1 + 1, 0, none⟩) 1 1, .slice (some ⟨w.heap.size + 1 + 1 + 1 + 1 + 1 + 1 + 1 + 1 + 1, 0, none⟩) 1 1, .string ⟨#[113]⟩, .int .i64 1, .int .i64 2, .slice (some ⟨w.heap.size + 1, 0, none⟩) 1 1, .slice none 0 0, .slice (some ⟨w.heap.size + 1 + 1 + 1 + 1 + 1 + 1 + 1 + 1 + 1 + 1, 0, none⟩) 1 1]) (ts := 9) (tg := 9) (tr := 40) (zs := (0, 0)) (zg := (0, 0)) (zr := (0, 0)) (ks := 4) (kg := 3) [⟨#[97]⟩, ⟨#[98]⟩, ⟨#[99]⟩, ⟨#[100]⟩] [⟨#[115]⟩, ⟨#[116]⟩, ⟨#[117]⟩] (.slice (some ⟨w.heap.size + 1 + 1 + 1 + 1 + 1 + 1 + 1, 0, none⟩) 2 2) [(⟨#[112]⟩, 0), (⟨#[113]⟩, 3)] ((⟨⟨#[114]⟩, 0, 2, [0], [(0, false)], [(1, true)]⟩, .slice (some ⟨w.heap.size, 0, none⟩) 1 1, .slice (some ⟨w.heap.size + 1 + 1 + 1 + 1 + 1 + 1 + 1 + 1, 0, none⟩) 1 1, .slice (some ⟨w.heap.size + 1 + 1 + 1 + 1 + 1 + 1 + 1 + 1 + 1, 0, none⟩) 1 1) : RtV) ((⟨⟨#[113]⟩, 1, 2, [1], [], [(1, false)]⟩, .slice (some ⟨w.heap.size + 1, 0, none⟩) 1 1, .slice none 0 0, .slice (some ⟨w.heap.size + 1 + 1 + 1 + 1 + 1 + 1 + 1 + 1 + 1 + 1, 0, none⟩) 1 1) : RtV) (by rw [hW]; repeat (first | (refine blk_new' ?_; simp; done) | refine blk_old ?_)) rfl (by rw [hW]; repeat (first | (refine blk_new' ?_; simp; done) | refine blk_old ?_)) rfl (by rw [hW]; repeat (first | (refine blk_new' ?_; simp; done) | refine blk_old ?_)) rfl (row_blk (cs := pC) (c := #[.string ⟨#[112]⟩, .int .i64 0, .string ⟨#[113]⟩, .int .i64 3]) (t := 35) (z := (0, 0)) (cap := 2) (fun _ => rfl) [(⟨#[112]⟩, 0), (⟨#[113]⟩, 3)] (by rw [hW]; repeat (first | (refine blk_new' ?_; simp; done) | refine blk_old ?_)) rfl) ⟨(row_blk (cs := iC) (c := #[.int .i64 0]) (t := 3) (z := (0, 0)) (cap := 1) (fun _ => rfl) [0] (by rw [hW]; repeat (first | (refine blk_new' ?_; simp; done) | refine blk_old ?_)) rfl), (row_blk (cs := nC) (c := #[.int .i64 0, .bool false]) (t := 37) (z := (0, 0)) (cap := 1) (fun _ => rfl) [(0, false)] (by rw [hW]; repeat (first | (refine blk_new' ?_; simp; done) | refine blk_old ?_)) rfl), (row_blk (cs := nC) (c := #[.int .i64 1, .bool true]) (t := 37) (z := (0, 0)) (cap := 1) (fun _ => rfl) [(1, true)] (by rw [hW]; repeat (first | (refine blk_new' ?_; simp; done) | refine blk_old ?_)) rfl)⟩ ⟨(row_blk (cs := iC) (c := #[.int .i64 1]) (t := 3) (z := (0, 0)) (cap := 1) (fun _ => rfl) [1] (by rw [hW]; repeat (first | (refine blk_new' ?_; simp; done) | refine blk_old ?_)) rfl), (rowAt.nil _ _ _), (row_blk (cs := nC) (c := #[.int .i64 1, .bool false]) (t := 37) (z := (0, 0)) (cap := 1) (fun _ => rfl) [(1, false)] (by rw [hW]; repeat (first | (refine blk_new' ?_; simp; done) | refine blk_old ?_)) rfl)⟩
  have FW := few_lay L ⟨by simp, fun x hx => (by
    rcases List.mem_cons.1 hx with rfl | hx
    · exact ⟨cap_of (by omega), by simp, by simp, by simp⟩
    · rw [List.mem_singleton.1 hx]
      exact ⟨cap_of (by omega), by simp, by simp, by simp⟩), cap_of (by simp), cap_of (by simp)⟩
  have I := is_few L FW true (by kernel_rfl)
  have CF : Hid (∀ W', Below W.heap.size W W' → Calls Try.prog 9 #[.agg #[.slice (some ⟨w.heap.size + 1 + 1 + 1, 0, none⟩) 4 4, .slice (some ⟨w.heap.size + 1 + 1 + 1 + 1 + 1 + 1 + 1, 0, none⟩) 2 2, .slice (some ⟨w.heap.size + 1 + 1 + 1 + 1, 0, none⟩) 3 3, .slice (some ⟨w.heap.size + 1 + 1 + 1 + 1 + 1, 0, none⟩) 2 2], .int .i64 0, .int .i64 1] W' fun e w' => e = .returned (.bool true) ∧ Below W'.heap.size W' w') := fun W' hW' => conf_few (L.below hW') FW 0 1 _ _ rfl rfl true (by kernel_rfl)
  have ND : Hid (∀ W', Below W.heap.size W W' → Calls Try.prog 11 #[.agg #[.slice (some ⟨w.heap.size + 1 + 1 + 1, 0, none⟩) 4 4, .slice (some ⟨w.heap.size + 1 + 1 + 1 + 1 + 1 + 1 + 1, 0, none⟩) 2 2, .slice (some ⟨w.heap.size + 1 + 1 + 1 + 1, 0, none⟩) 3 3, .slice (some ⟨w.heap.size + 1 + 1 + 1 + 1 + 1, 0, none⟩) 2 2], .int .i64 0] W' fun e w' => ∃ u, e = .returned u ∧ rowAt w' u 2 nC [(0, false), (1, true)] ∧ Below W'.heap.size W' w') := fun W' hW' => tableNeeds_any _ _ _ 0 _ W' (L.below hW') rfl (by simp)
  have VL : Hid (W.cell? ⟨w.heap.size + 1 + 1 + 1 + 1 + 1 + 1, 0, none⟩ = some (.slice (some ⟨w.heap.size + 1 + 1 + 1, 0, none⟩) 4 4) ∧ W.cell? ⟨w.heap.size + 1 + 1 + 1 + 1 + 1 + 1, 1, none⟩ = some (.slice (some ⟨w.heap.size + 1 + 1 + 1 + 1 + 1 + 1 + 1, 0, none⟩) 2 2) ∧ W.cell? ⟨w.heap.size + 1 + 1 + 1 + 1 + 1 + 1, 2, none⟩ = some (.slice (some ⟨w.heap.size + 1 + 1 + 1 + 1, 0, none⟩) 3 3) ∧ W.cell? ⟨w.heap.size + 1 + 1 + 1 + 1 + 1 + 1, 3, none⟩ = some (.slice (some ⟨w.heap.size + 1 + 1 + 1 + 1 + 1, 0, none⟩) 2 2)) := by
    show _ ∧ _
    rw [hW]
    refine ⟨?_, ?_, ?_, ?_⟩ <;> go_simp
  clear hW L FW
  refine I.mono ?_
  rintro e w1 ⟨rfl, hb1⟩
  have up1 : ∀ {p : Addr} {u : Value}, W.cell? p = some u → w1.cell? p = some u := fun h => (hb1.cell (World.block_lt_of_cell? _ _ h)).trans h
  have m0 := up1 VL.out.1
  have m1 := up1 VL.out.2.1
  have m2 := up1 VL.out.2.2.1
  have m3 := up1 VL.out.2.2.2
  go_wp2_with fail
  refine (CF.out _ hb1).mono ?_
  rintro e w2 ⟨rfl, hb2⟩
  have hb2 := hb1.trans (hb2.mono hb1.size)
  have up2 : ∀ {p : Addr} {u : Value}, W.cell? p = some u → w2.cell? p = some u := fun h => (hb2.cell (World.block_lt_of_cell? _ _ h)).trans h
  clear m0 m1 m2 m3
  have m0 := up2 VL.out.1
  have m1 := up2 VL.out.2.1
  have m2 := up2 VL.out.2.2.1
  have m3 := up2 VL.out.2.2.2
  go_wp2_with fail
  refine (ND.out _ hb2).mono ?_
  rintro e w3 ⟨u3, rfl, ⟨o3, c3, rfl, _⟩, hb3⟩
  have hb3 := hb2.trans (hb3.mono hb2.size)
  (try simp only [List.length_cons, List.length_nil])
  go_wp2_with fail
  refine (known_any _).mono ?_
  rintro e w4 ⟨rfl, hb4⟩
  have hb4 := hb3.trans (hb4.mono hb3.size)
  go_wp2
  go_ret
  exact ⟨rfl, HB.out.trans (hb4.mono HB.out.size)⟩

set_option maxRecDepth 1000000 in
set_option maxHeartbeats 4000000 in
theorem pts0ft (w : World) : Calls Try.prog 4 #[.int .i64 0, .bool false, .bool true] w fun e w' => e = .returned (.bool true) ∧ Below w.heap.size w w' := by
  go_enter Try.func4, Try.ntmps4
  go_wp2_with (go_at_call 7; refine (two_at _ _ _ _ _ _ _).mono ?_; rintro e w' ⟨rfl, rfl⟩)
  refine with_world (fun W hW => ?_)
  have HB : Hid (Below w.heap.size w W) := by
    show Below _ _ _
    rw [hW]
    repeat' (with_reducible first | exact Below.refl _ _ | refine Below.alloc ?_ ?_ _ | exact Nat.le_refl _ | (simp; done) | (simp; omega))
  have L := lay_two (W := W) (bs := w.heap.size + 1 + 1 + 1) (bg := w.heap.size + 1 + 1 + 1 + 1) (br := w.heap.size + 1 + 1 + 1 + 1 + 1) (cs := #[.string ⟨#[97]⟩, .string ⟨#[98]⟩, .string ⟨#[99]⟩, .string ⟨#[100]⟩]) (cg := #[.string ⟨#[115]⟩, .string ⟨#[116]⟩, .string ⟨#[117]⟩]) (cr := #[.string ⟨#[114]⟩, .int .i64 0, .int .i64 2, .slice (some ⟨w.heap.size, 0, none⟩) 1 1, .slice (some ⟨w.heap.size + 1 + 1 + 1 + 1 + 1 + 1 + 1 + 1, 0, none⟩) 1 1, .slice (some ⟨w.heap.size + 1 + 1 + 1 + 1 + 1 + 1 + 1 + 1 + 1, 0, none⟩) 1 1, .string ⟨#[113]⟩, .int .i64 1, .int .i64 2, .slice (some ⟨w.heap.size + 1, 0, none⟩) 1 1, .slice none 0 0, .slice (some ⟨w.heap.size + 1 + 1 + 1 + 1 + 1 + 1 + 1 + 1 + 1 + 1, 0, none⟩) 1 1]) (ts := 9) (tg := 9) (tr := 40) (zs := (0, 0)) (zg := (0, 0)) (zr := (0, 0)) (ks := 4) (kg := 3) [⟨#[97]⟩, ⟨#[98]⟩, ⟨#[99]⟩, ⟨#[100]⟩] [⟨#[115]⟩, ⟨#[116]⟩, ⟨#[117]⟩] (.slice (some ⟨w.heap.size + 1 + 1 + 1 + 1 + 1 + 1 + 1, 0, none⟩) 2 2) [(⟨#[112]⟩, 0), (⟨#[113]⟩, 3)] ((⟨⟨#[114]⟩, 0, 2, [0], [(0, false)], [(1, false)]⟩, .slice (some ⟨w.heap.size, 0, none⟩) 1 1, .slice (some ⟨w.heap.size + 1 + 1 + 1 + 1 + 1 + 1 + 1 + 1, 0, none⟩) 1 1, .slice (some ⟨w.heap.size + 1 + 1 + 1 + 1 + 1 + 1 + 1 + 1 + 1, 0, none⟩) 1 1) : RtV) ((⟨⟨#[113]⟩, 1, 2, [1], [], [(1, true)]⟩, .slice (some ⟨w.heap.size + 1, 0, none⟩) 1 1, .slice none 0 0, .slice (some ⟨w.heap.size + 1 + 1 + 1 + 1 + 1 + 1 + 1 + 1 + 1 + 1, 0, none⟩) 1 1) : RtV) (by rw [hW]; repeat (first | (refine blk_new' ?_; simp; done) | refine blk_old ?_)) rfl (by rw [hW]; repeat (first | (refine blk_new' ?_; simp; done) | refine blk_old ?_)) rfl (by rw [hW]; repeat (first | (refine blk_new' ?_; simp; done) | refine blk_old ?_)) rfl (row_blk (cs := pC) (c := #[.string ⟨#[112]⟩, .int .i64 0, .string ⟨#[113]⟩, .int .i64 3]) (t := 35) (z := (0, 0)) (cap := 2) (fun _ => rfl) [(⟨#[112]⟩, 0), (⟨#[113]⟩, 3)] (by rw [hW]; repeat (first | (refine blk_new' ?_; simp; done) | refine blk_old ?_)) rfl) ⟨(row_blk (cs := iC) (c := #[.int .i64 0]) (t := 3) (z := (0, 0)) (cap := 1) (fun _ => rfl) [0] (by rw [hW]; repeat (first | (refine blk_new' ?_; simp; done) | refine blk_old ?_)) rfl), (row_blk (cs := nC) (c := #[.int .i64 0, .bool false]) (t := 37) (z := (0, 0)) (cap := 1) (fun _ => rfl) [(0, false)] (by rw [hW]; repeat (first | (refine blk_new' ?_; simp; done) | refine blk_old ?_)) rfl), (row_blk (cs := nC) (c := #[.int .i64 1, .bool false]) (t := 37) (z := (0, 0)) (cap := 1) (fun _ => rfl) [(1, false)] (by rw [hW]; repeat (first | (refine blk_new' ?_; simp; done) | refine blk_old ?_)) rfl)⟩ ⟨(row_blk (cs := iC) (c := #[.int .i64 1]) (t := 3) (z := (0, 0)) (cap := 1) (fun _ => rfl) [1] (by rw [hW]; repeat (first | (refine blk_new' ?_; simp; done) | refine blk_old ?_)) rfl), (rowAt.nil _ _ _), (row_blk (cs := nC) (c := #[.int .i64 1, .bool true]) (t := 37) (z := (0, 0)) (cap := 1) (fun _ => rfl) [(1, true)] (by rw [hW]; repeat (first | (refine blk_new' ?_; simp; done) | refine blk_old ?_)) rfl)⟩
  have FW := few_lay L ⟨by simp, fun x hx => (by
    rcases List.mem_cons.1 hx with rfl | hx
    · exact ⟨cap_of (by omega), by simp, by simp, by simp⟩
    · rw [List.mem_singleton.1 hx]
      exact ⟨cap_of (by omega), by simp, by simp, by simp⟩), cap_of (by simp), cap_of (by simp)⟩
  have I := is_few L FW true (by kernel_rfl)
  have CF : Hid (∀ W', Below W.heap.size W W' → Calls Try.prog 9 #[.agg #[.slice (some ⟨w.heap.size + 1 + 1 + 1, 0, none⟩) 4 4, .slice (some ⟨w.heap.size + 1 + 1 + 1 + 1 + 1 + 1 + 1, 0, none⟩) 2 2, .slice (some ⟨w.heap.size + 1 + 1 + 1 + 1, 0, none⟩) 3 3, .slice (some ⟨w.heap.size + 1 + 1 + 1 + 1 + 1, 0, none⟩) 2 2], .int .i64 0, .int .i64 1] W' fun e w' => e = .returned (.bool true) ∧ Below W'.heap.size W' w') := fun W' hW' => conf_few (L.below hW') FW 0 1 _ _ rfl rfl true (by kernel_rfl)
  have ND : Hid (∀ W', Below W.heap.size W W' → Calls Try.prog 11 #[.agg #[.slice (some ⟨w.heap.size + 1 + 1 + 1, 0, none⟩) 4 4, .slice (some ⟨w.heap.size + 1 + 1 + 1 + 1 + 1 + 1 + 1, 0, none⟩) 2 2, .slice (some ⟨w.heap.size + 1 + 1 + 1 + 1, 0, none⟩) 3 3, .slice (some ⟨w.heap.size + 1 + 1 + 1 + 1 + 1, 0, none⟩) 2 2], .int .i64 0] W' fun e w' => ∃ u, e = .returned u ∧ rowAt w' u 2 nC [(0, false), (1, false)] ∧ Below W'.heap.size W' w') := fun W' hW' => tableNeeds_any _ _ _ 0 _ W' (L.below hW') rfl (by simp)
  have VL : Hid (W.cell? ⟨w.heap.size + 1 + 1 + 1 + 1 + 1 + 1, 0, none⟩ = some (.slice (some ⟨w.heap.size + 1 + 1 + 1, 0, none⟩) 4 4) ∧ W.cell? ⟨w.heap.size + 1 + 1 + 1 + 1 + 1 + 1, 1, none⟩ = some (.slice (some ⟨w.heap.size + 1 + 1 + 1 + 1 + 1 + 1 + 1, 0, none⟩) 2 2) ∧ W.cell? ⟨w.heap.size + 1 + 1 + 1 + 1 + 1 + 1, 2, none⟩ = some (.slice (some ⟨w.heap.size + 1 + 1 + 1 + 1, 0, none⟩) 3 3) ∧ W.cell? ⟨w.heap.size + 1 + 1 + 1 + 1 + 1 + 1, 3, none⟩ = some (.slice (some ⟨w.heap.size + 1 + 1 + 1 + 1 + 1, 0, none⟩) 2 2)) := by
    show _ ∧ _
    rw [hW]
    refine ⟨?_, ?_, ?_, ?_⟩ <;> go_simp
  clear hW L FW
  refine I.mono ?_
  rintro e w1 ⟨rfl, hb1⟩
  have up1 : ∀ {p : Addr} {u : Value}, W.cell? p = some u → w1.cell? p = some u := fun h => (hb1.cell (World.block_lt_of_cell? _ _ h)).trans h
  have m0 := up1 VL.out.1
  have m1 := up1 VL.out.2.1
  have m2 := up1 VL.out.2.2.1
  have m3 := up1 VL.out.2.2.2
  go_wp2_with fail
  refine (CF.out _ hb1).mono ?_
  rintro e w2 ⟨rfl, hb2⟩
  have hb2 := hb1.trans (hb2.mono hb1.size)
  have up2 : ∀ {p : Addr} {u : Value}, W.cell? p = some u → w2.cell? p = some u := fun h => (hb2.cell (World.block_lt_of_cell? _ _ h)).trans h
  clear m0 m1 m2 m3
  have m0 := up2 VL.out.1
  have m1 := up2 VL.out.2.1
  have m2 := up2 VL.out.2.2.1
  have m3 := up2 VL.out.2.2.2
  go_wp2_with fail
  refine (ND.out _ hb2).mono ?_
  rintro e w3 ⟨u3, rfl, ⟨o3, c3, rfl, _⟩, hb3⟩
  have hb3 := hb2.trans (hb3.mono hb2.size)
  (try simp only [List.length_cons, List.length_nil])
  go_wp2_with fail
  refine (known_any _).mono ?_
  rintro e w4 ⟨rfl, hb4⟩
  have hb4 := hb3.trans (hb4.mono hb3.size)
  go_wp2
  go_ret
  exact ⟨rfl, HB.out.trans (hb4.mono HB.out.size)⟩

set_option maxRecDepth 1000000 in
set_option maxHeartbeats 4000000 in
theorem pts0ff (w : World) : Calls Try.prog 4 #[.int .i64 0, .bool false, .bool false] w fun e w' => e = .returned (.bool true) ∧ Below w.heap.size w w' := by
  go_enter Try.func4, Try.ntmps4
  go_wp2_with (go_at_call 7; refine (two_at _ _ _ _ _ _ _).mono ?_; rintro e w' ⟨rfl, rfl⟩)
  refine with_world (fun W hW => ?_)
  have HB : Hid (Below w.heap.size w W) := by
    show Below _ _ _
    rw [hW]
    repeat' (with_reducible first | exact Below.refl _ _ | refine Below.alloc ?_ ?_ _ | exact Nat.le_refl _ | (simp; done) | (simp; omega))
  have L := lay_two (W := W) (bs := w.heap.size + 1 + 1 + 1) (bg := w.heap.size + 1 + 1 + 1 + 1) (br := w.heap.size + 1 + 1 + 1 + 1 + 1) (cs := #[.string ⟨#[97]⟩, .string ⟨#[98]⟩, .string ⟨#[99]⟩, .string ⟨#[100]⟩]) (cg := #[.string ⟨#[115]⟩, .string ⟨#[116]⟩, .string ⟨#[117]⟩]) (cr := #[.string ⟨#[114]⟩, .int .i64 0, .int .i64 2, .slice (some ⟨w.heap.size, 0, none⟩) 1 1, .slice (some ⟨w.heap.size + 1 + 1 + 1 + 1 + 1 + 1 + 1 + 1, 0, none⟩) 1 1, .slice (some ⟨w.heap.size + 1 + 1 + 1 + 1 + 1 + 1 + 1 + 1 + 1, 0, none⟩) 1 1, .string ⟨#[113]⟩, .int .i64 1, .int .i64 2, .slice (some ⟨w.heap.size + 1, 0, none⟩) 1 1, .slice none 0 0, .slice (some ⟨w.heap.size + 1 + 1 + 1 + 1 + 1 + 1 + 1 + 1 + 1 + 1, 0, none⟩) 1 1]) (ts := 9) (tg := 9) (tr := 40) (zs := (0, 0)) (zg := (0, 0)) (zr := (0, 0)) (ks := 4) (kg := 3) [⟨#[97]⟩, ⟨#[98]⟩, ⟨#[99]⟩, ⟨#[100]⟩] [⟨#[115]⟩, ⟨#[116]⟩, ⟨#[117]⟩] (.slice (some ⟨w.heap.size + 1 + 1 + 1 + 1 + 1 + 1 + 1, 0, none⟩) 2 2) [(⟨#[112]⟩, 0), (⟨#[113]⟩, 3)] ((⟨⟨#[114]⟩, 0, 2, [0], [(0, false)], [(1, false)]⟩, .slice (some ⟨w.heap.size, 0, none⟩) 1 1, .slice (some ⟨w.heap.size + 1 + 1 + 1 + 1 + 1 + 1 + 1 + 1, 0, none⟩) 1 1, .slice (some ⟨w.heap.size + 1 + 1 + 1 + 1 + 1 + 1 + 1 + 1 + 1, 0, none⟩) 1 1) : RtV) ((⟨⟨#[113]⟩, 1, 2, [1], [], [(1, false)]⟩, .slice (some ⟨w.heap.size + 1, 0, none⟩) 1 1, .slice none 0 0, .slice (some ⟨w.heap.size + 1 + 1 + 1 + 1 + 1 + 1 + 1 + 1 + 1 + 1, 0, none⟩) 1 1) : RtV) (by rw [hW]; repeat (first | (refine blk_new' ?_; simp; done) | refine blk_old ?_)) rfl (by rw [hW]; repeat (first | (refine blk_new' ?_; simp; done) | refine blk_old ?_)) rfl (by rw [hW]; repeat (first | (refine blk_new' ?_; simp; done) | refine blk_old ?_)) rfl (row_blk (cs := pC) (c := #[.string ⟨#[112]⟩, .int .i64 0, .string ⟨#[113]⟩, .int .i64 3]) (t := 35) (z := (0, 0)) (cap := 2) (fun _ => rfl) [(⟨#[112]⟩, 0), (⟨#[113]⟩, 3)] (by rw [hW]; repeat (first | (refine blk_new' ?_; simp; done) | refine blk_old ?_)) rfl) ⟨(row_blk (cs := iC) (c := #[.int .i64 0]) (t := 3) (z := (0, 0)) (cap := 1) (fun _ => rfl) [0] (by rw [hW]; repeat (first | (refine blk_new' ?_; simp; done) | refine blk_old ?_)) rfl), (row_blk (cs := nC) (c := #[.int .i64 0, .bool false]) (t := 37) (z := (0, 0)) (cap := 1) (fun _ => rfl) [(0, false)] (by rw [hW]; repeat (first | (refine blk_new' ?_; simp; done) | refine blk_old ?_)) rfl), (row_blk (cs := nC) (c := #[.int .i64 1, .bool false]) (t := 37) (z := (0, 0)) (cap := 1) (fun _ => rfl) [(1, false)] (by rw [hW]; repeat (first | (refine blk_new' ?_; simp; done) | refine blk_old ?_)) rfl)⟩ ⟨(row_blk (cs := iC) (c := #[.int .i64 1]) (t := 3) (z := (0, 0)) (cap := 1) (fun _ => rfl) [1] (by rw [hW]; repeat (first | (refine blk_new' ?_; simp; done) | refine blk_old ?_)) rfl), (rowAt.nil _ _ _), (row_blk (cs := nC) (c := #[.int .i64 1, .bool false]) (t := 37) (z := (0, 0)) (cap := 1) (fun _ => rfl) [(1, false)] (by rw [hW]; repeat (first | (refine blk_new' ?_; simp; done) | refine blk_old ?_)) rfl)⟩
  have FW := few_lay L ⟨by simp, fun x hx => (by
    rcases List.mem_cons.1 hx with rfl | hx
    · exact ⟨cap_of (by omega), by simp, by simp, by simp⟩
    · rw [List.mem_singleton.1 hx]
      exact ⟨cap_of (by omega), by simp, by simp, by simp⟩), cap_of (by simp), cap_of (by simp)⟩
  have I := is_few L FW true (by kernel_rfl)
  have CF : Hid (∀ W', Below W.heap.size W W' → Calls Try.prog 9 #[.agg #[.slice (some ⟨w.heap.size + 1 + 1 + 1, 0, none⟩) 4 4, .slice (some ⟨w.heap.size + 1 + 1 + 1 + 1 + 1 + 1 + 1, 0, none⟩) 2 2, .slice (some ⟨w.heap.size + 1 + 1 + 1 + 1, 0, none⟩) 3 3, .slice (some ⟨w.heap.size + 1 + 1 + 1 + 1 + 1, 0, none⟩) 2 2], .int .i64 0, .int .i64 1] W' fun e w' => e = .returned (.bool false) ∧ Below W'.heap.size W' w') := fun W' hW' => conf_few (L.below hW') FW 0 1 _ _ rfl rfl false (by kernel_rfl)
  have ND : Hid (∀ W', Below W.heap.size W W' → Calls Try.prog 11 #[.agg #[.slice (some ⟨w.heap.size + 1 + 1 + 1, 0, none⟩) 4 4, .slice (some ⟨w.heap.size + 1 + 1 + 1 + 1 + 1 + 1 + 1, 0, none⟩) 2 2, .slice (some ⟨w.heap.size + 1 + 1 + 1 + 1, 0, none⟩) 3 3, .slice (some ⟨w.heap.size + 1 + 1 + 1 + 1 + 1, 0, none⟩) 2 2], .int .i64 0] W' fun e w' => ∃ u, e = .returned u ∧ rowAt w' u 2 nC [(0, false), (1, false)] ∧ Below W'.heap.size W' w') := fun W' hW' => tableNeeds_any _ _ _ 0 _ W' (L.below hW') rfl (by simp)
  have VL : Hid (W.cell? ⟨w.heap.size + 1 + 1 + 1 + 1 + 1 + 1, 0, none⟩ = some (.slice (some ⟨w.heap.size + 1 + 1 + 1, 0, none⟩) 4 4) ∧ W.cell? ⟨w.heap.size + 1 + 1 + 1 + 1 + 1 + 1, 1, none⟩ = some (.slice (some ⟨w.heap.size + 1 + 1 + 1 + 1 + 1 + 1 + 1, 0, none⟩) 2 2) ∧ W.cell? ⟨w.heap.size + 1 + 1 + 1 + 1 + 1 + 1, 2, none⟩ = some (.slice (some ⟨w.heap.size + 1 + 1 + 1 + 1, 0, none⟩) 3 3) ∧ W.cell? ⟨w.heap.size + 1 + 1 + 1 + 1 + 1 + 1, 3, none⟩ = some (.slice (some ⟨w.heap.size + 1 + 1 + 1 + 1 + 1, 0, none⟩) 2 2)) := by
    show _ ∧ _
    rw [hW]
    refine ⟨?_, ?_, ?_, ?_⟩ <;> go_simp
  clear hW L FW
  refine I.mono ?_
  rintro e w1 ⟨rfl, hb1⟩
  have up1 : ∀ {p : Addr} {u : Value}, W.cell? p = some u → w1.cell? p = some u := fun h => (hb1.cell (World.block_lt_of_cell? _ _ h)).trans h
  have m0 := up1 VL.out.1
  have m1 := up1 VL.out.2.1
  have m2 := up1 VL.out.2.2.1
  have m3 := up1 VL.out.2.2.2
  go_wp2_with fail
  refine (CF.out _ hb1).mono ?_
  rintro e w2 ⟨rfl, hb2⟩
  have hb2 := hb1.trans (hb2.mono hb1.size)
  have up2 : ∀ {p : Addr} {u : Value}, W.cell? p = some u → w2.cell? p = some u := fun h => (hb2.cell (World.block_lt_of_cell? _ _ h)).trans h
  clear m0 m1 m2 m3
  have m0 := up2 VL.out.1
  have m1 := up2 VL.out.2.1
  have m2 := up2 VL.out.2.2.1
  have m3 := up2 VL.out.2.2.2
  go_wp2_with fail
  refine (ND.out _ hb2).mono ?_
  rintro e w3 ⟨u3, rfl, ⟨o3, c3, rfl, _⟩, hb3⟩
  have hb3 := hb2.trans (hb3.mono hb2.size)
  (try simp only [List.length_cons, List.length_nil])
  go_wp2_with fail
  refine (known_any _).mono ?_
  rintro e w4 ⟨rfl, hb4⟩
  have hb4 := hb3.trans (hb4.mono hb3.size)
  go_wp2
  go_ret
  exact ⟨rfl, HB.out.trans (hb4.mono HB.out.size)⟩

set_option maxRecDepth 1000000 in
set_option maxHeartbeats 4000000 in
theorem pts1tt (w : World) : Calls Try.prog 4 #[.int .i64 1, .bool true, .bool true] w fun e w' => e = .returned (.bool true) ∧ Below w.heap.size w w' := by
  go_enter Try.func4, Try.ntmps4
  go_wp2_with (go_at_call 7; refine (two_at _ _ _ _ _ _ _).mono ?_; rintro e w' ⟨rfl, rfl⟩)
  refine with_world (fun W hW => ?_)
  have HB : Hid (Below w.heap.size w W) := by
    show Below _ _ _
    rw [hW]
    repeat' (with_reducible first | exact Below.refl _ _ | refine Below.alloc ?_ ?_ _ | exact Nat.le_refl _ | (simp; done) | (simp; omega))
  have L := lay_two (W := W) (bs := w.heap.size + 1 + 1 + 1) (bg := w.heap.size + 1 + 1 + 1 + 1) (br := w.heap.size + 1 + 1 + 1 + 1 + 1) (cs := #[.string ⟨#[97]⟩, .string ⟨#[98]⟩, .string ⟨#[99]⟩, .string ⟨#[100]⟩]) (cg := #[.string ⟨#[115]⟩, .string ⟨#[116]⟩, .string ⟨#[117]⟩]) (cr := #[.string ⟨#[114]⟩, .int .i64 0, .int .i64 2, .slice (some ⟨w.heap.size, 0, none⟩) 1 1, .slice none 0 0, .slice (some ⟨w.heap.size + 1 + 1 + 1 + 1 + 1 + 1 + 1 + 1 + 1, 0, none⟩) 1 1, .string ⟨#[113]⟩, .int .i64 1, .int .i64 2, .slice (some ⟨w.heap.size + 1, 0, none⟩) 1 1, .slice none 0 0, .slice (some ⟨w.heap.size + 1 + 1 + 1 + 1 + 1 + 1 + 1 + 1 + 1 + 1, 0, none⟩) 1 1]) (ts := 9) (tg := 9) (tr := 40) (zs := (0, 0)) (zg := (0, 0)) (zr := (0, 0)) (ks := 4) (kg := 3) [⟨#[97]⟩, ⟨#[98]⟩, ⟨#[99]⟩, ⟨#[100]⟩] [⟨#[115]⟩, ⟨#[116]⟩, ⟨#[117]⟩] (.slice (some ⟨w.heap.size + 1 + 1 + 1 + 1 + 1 + 1 + 1, 0, none⟩) 2 2) [(⟨#[112]⟩, 0), (⟨#[113]⟩, 3)] ((⟨⟨#[114]⟩, 0, 2, [0], [], [(1, true)]⟩, .slice (some ⟨w.heap.size, 0, none⟩) 1 1, .slice none 0 0, .slice (some ⟨w.heap.size + 1 + 1 + 1 + 1 + 1 + 1 + 1 + 1 + 1, 0, none⟩) 1 1) : RtV) ((⟨⟨#[113]⟩, 1, 2, [1], [], [(1, true)]⟩, .slice (some ⟨w.heap.size + 1, 0, none⟩) 1 1, .slice none 0 0, .slice (some ⟨w.heap.size + 1 + 1 + 1 + 1 + 1 + 1 + 1 + 1 + 1 + 1, 0, none⟩) 1 1) : RtV) (by rw [hW]; repeat (first | (refine blk_new' ?_; simp; done) | refine blk_old ?_)) rfl (by rw [hW]; repeat (first | (refine blk_new' ?_; simp; done) | refine blk_old ?_)) rfl (by rw [hW]; repeat (first | (refine blk_new' ?_; simp; done) | refine blk_old ?_)) rfl (row_blk (cs := pC) (c := #[.string ⟨#[112]⟩, .int .i64 0, .string ⟨#[113]⟩, .int .i64 3]) (t := 35) (z := (0, 0)) (cap := 2) (fun _ => rfl) [(⟨#[112]⟩, 0), (⟨#[113]⟩, 3)] (by rw [hW]; repeat (first | (refine blk_new' ?_; simp; done) | refine blk_old ?_)) rfl) ⟨(row_blk (cs := iC) (c := #[.int .i64 0]) (t := 3) (z := (0, 0)) (cap := 1) (fun _ => rfl) [0] (by rw [hW]; repeat (first | (refine blk_new' ?_; simp; done) | refine blk_old ?_)) rfl), (rowAt.nil _ _ _), (row_blk (cs := nC) (c := #[.int .i64 1, .bool true]) (t := 37) (z := (0, 0)) (cap := 1) (fun _ => rfl) [(1, true)] (by rw [hW]; repeat (first | (refine blk_new' ?_; simp; done) | refine blk_old ?_)) rfl)⟩ ⟨(row_blk (cs := iC) (c := #[.int .i64 1]) (t := 3) (z := (0, 0)) (cap := 1) (fun _ => rfl) [1] (by rw [hW]; repeat (first | (refine blk_new' ?_; simp; done) | refine blk_old ?_)) rfl), (rowAt.nil _ _ _), (row_blk (cs := nC) (c := #[.int .i64 1, .bool true]) (t := 37) (z := (0, 0)) (cap := 1) (fun _ => rfl) [(1, true)] (by rw [hW]; repeat (first | (refine blk_new' ?_; simp; done) | refine blk_old ?_)) rfl)⟩
  have I := is_few L ⟨by simp, fun x hx => (by
    rcases List.mem_cons.1 hx with rfl | hx
    · exact ⟨cap_of (by omega), by simp, by simp, by simp⟩
    · rw [List.mem_singleton.1 hx]
      exact ⟨cap_of (by omega), by simp, by simp, by simp⟩), cap_of (by simp), cap_of (by simp)⟩ false (by kernel_rfl)
  clear hW L
  refine I.mono ?_
  rintro e w1 ⟨rfl, hb1⟩
  go_wp2_with fail
  refine (known_any _).mono ?_
  rintro e w2 ⟨rfl, hb2⟩
  go_wp2
  go_ret
  exact ⟨rfl, HB.out.trans ((hb1.trans (hb2.mono hb1.size)).mono HB.out.size)⟩

set_option maxRecDepth 1000000 in
set_option maxHeartbeats 4000000 in
theorem pts1tf (w : World) : Calls Try.prog 4 #[.int .i64 1, .bool true, .bool false] w fun e w' => e = .returned (.bool true) ∧ Below w.heap.size w w' := by
  go_enter Try.func4, Try.ntmps4
  go_wp2_with (go_at_call 7; refine (two_at _ _ _ _ _ _ _).mono ?_; rintro e w' ⟨rfl, rfl⟩)
  refine with_world (fun W hW => ?_)
  have HB : Hid (Below w.heap.size w W) := by
    show Below _ _ _
    rw [hW]
    repeat' (with_reducible first | exact Below.refl _ _ | refine Below.alloc ?_ ?_ _ | exact Nat.le_refl _ | (simp; done) | (simp; omega))
  have L := lay_two (W := W) (bs := w.heap.size + 1 + 1 + 1) (bg := w.heap.size + 1 + 1 + 1 + 1) (br := w.heap.size + 1 + 1 + 1 + 1 + 1) (cs := #[.string ⟨#[97]⟩, .string ⟨#[98]⟩, .string ⟨#[99]⟩, .string ⟨#[100]⟩]) (cg := #[.string ⟨#[115]⟩, .string ⟨#[116]⟩, .string ⟨#[117]⟩]) (cr := #[.string ⟨#[114]⟩, .int .i64 0, .int .i64 2, .slice (some ⟨w.heap.size, 0, none⟩) 1 1, .slice none 0 0, .slice (some ⟨w.heap.size + 1 + 1 + 1 + 1 + 1 + 1 + 1 + 1 + 1, 0, none⟩) 1 1, .string ⟨#[113]⟩, .int .i64 1, .int .i64 2, .slice (some ⟨w.heap.size + 1, 0, none⟩) 1 1, .slice none 0 0, .slice (some ⟨w.heap.size + 1 + 1 + 1 + 1 + 1 + 1 + 1 + 1 + 1 + 1, 0, none⟩) 1 1]) (ts := 9) (tg := 9) (tr := 40) (zs := (0, 0)) (zg := (0, 0)) (zr := (0, 0)) (ks := 4) (kg := 3) [⟨#[97]⟩, ⟨#[98]⟩, ⟨#[99]⟩, ⟨#[100]⟩] [⟨#[115]⟩, ⟨#[116]⟩, ⟨#[117]⟩] (.slice (some ⟨w.heap.size + 1 + 1 + 1 + 1 + 1 + 1 + 1, 0, none⟩) 2 2) [(⟨#[112]⟩, 0), (⟨#[113]⟩, 3)] ((⟨⟨#[114]⟩, 0, 2, [0], [], [(1, true)]⟩, .slice (some ⟨w.heap.size, 0, none⟩) 1 1, .slice none 0 0, .slice (some ⟨w.heap.size + 1 + 1 + 1 + 1 + 1 + 1 + 1 + 1 + 1, 0, none⟩) 1 1) : RtV) ((⟨⟨#[113]⟩, 1, 2, [1], [], [(1, false)]⟩, .slice (some ⟨w.heap.size + 1, 0, none⟩) 1 1, .slice none 0 0, .slice (some ⟨w.heap.size + 1 + 1 + 1 + 1 + 1 + 1 + 1 + 1 + 1 + 1, 0, none⟩) 1 1) : RtV) (by rw [hW]; repeat (first | (refine blk_new' ?_; simp; done) | refine blk_old ?_)) rfl (by rw [hW]; repeat (first | (refine blk_new' ?_; simp; done) | refine blk_old ?_)) rfl (by rw [hW]; repeat (first | (refine blk_new' ?_; simp; done) | refine blk_old ?_)) rfl (row_blk (cs := pC) (c := #[.string ⟨#[112]⟩, .int .i64 0, .string ⟨#[113]⟩, .int .i64 3]) (t := 35) (z := (0, 0)) (cap := 2) (fun _ => rfl) [(⟨#[112]⟩, 0), (⟨#[113]⟩, 3)] (by rw [hW]; repeat (first | (refine blk_new' ?_; simp; done) | refine blk_old ?_)) rfl) ⟨(row_blk (cs := iC) (c := #[.int .i64 0]) (t := 3) (z := (0, 0)) (cap := 1) (fun _ => rfl) [0] (by rw [hW]; repeat (first | (refine blk_new' ?_; simp; done) | refine blk_old ?_)) rfl), (rowAt.nil _ _ _), (row_blk (cs := nC) (c := #[.int .i64 1, .bool true]) (t := 37) (z := (0, 0)) (cap := 1) (fun _ => rfl) [(1, true)] (by rw [hW]; repeat (first | (refine blk_new' ?_; simp; done) | refine blk_old ?_)) rfl)⟩ ⟨(row_blk (cs := iC) (c := #[.int .i64 1]) (t := 3) (z := (0, 0)) (cap := 1) (fun _ => rfl) [1] (by rw [hW]; repeat (first | (refine blk_new' ?_; simp; done) | refine blk_old ?_)) rfl), (rowAt.nil _ _ _), (row_blk (cs := nC) (c := #[.int .i64 1, .bool false]) (t := 37) (z := (0, 0)) (cap := 1) (fun _ => rfl) [(1, false)] (by rw [hW]; repeat (first | (refine blk_new' ?_; simp; done) | refine blk_old ?_)) rfl)⟩
  have I := is_few L ⟨by simp, fun x hx => (by
    rcases List.mem_cons.1 hx with rfl | hx
    · exact ⟨cap_of (by omega), by simp, by simp, by simp⟩
    · rw [List.mem_singleton.1 hx]
      exact ⟨cap_of (by omega), by simp, by simp, by simp⟩), cap_of (by simp), cap_of (by simp)⟩ false (by kernel_rfl)
  clear hW L
  refine I.mono ?_
  rintro e w1 ⟨rfl, hb1⟩
  go_wp2_with fail
  refine (known_any _).mono ?_
  rintro e w2 ⟨rfl, hb2⟩
  go_wp2
  go_ret
  exact ⟨rfl, HB.out.trans ((hb1.trans (hb2.mono hb1.size)).mono HB.out.size)⟩

set_option maxRecDepth 1000000 in
set_option maxHeartbeats 4000000 in
theorem pts1ft (w : World) : Calls Try.prog 4 #[.int .i64 1, .bool false, .bool true] w fun e w' => e = .returned (.bool true) ∧ Below w.heap.size w w' := by
  go_enter Try.func4, Try.ntmps4
  go_wp2_with (go_at_call 7; refine (two_at _ _ _ _ _ _ _).mono ?_; rintro e w' ⟨rfl, rfl⟩)
  refine with_world (fun W hW => ?_)
  have HB : Hid (Below w.heap.size w W) := by
    show Below _ _ _
    rw [hW]
    repeat' (with_reducible first | exact Below.refl _ _ | refine Below.alloc ?_ ?_ _ | exact Nat.le_refl _ | (simp; done) | (simp; omega))
  have L := lay_two (W := W) (bs := w.heap.size + 1 + 1 + 1) (bg := w.heap.size + 1 + 1 + 1 + 1) (br := w.heap.size + 1 + 1 + 1 + 1 + 1) (cs := #[.string ⟨#[97]⟩, .string ⟨#[98]⟩, .string ⟨#[99]⟩, .string ⟨#[100]⟩]) (cg := #[.string ⟨#[115]⟩, .string ⟨#[116]⟩, .string ⟨#[117]⟩]) (cr := #[.string ⟨#[114]⟩, .int .i64 0, .int .i64 2, .slice (some ⟨w.heap.size, 0, none⟩) 1 1, .slice none 0 0, .slice (some ⟨w.heap.size + 1 + 1 + 1 + 1 + 1 + 1 + 1 + 1 + 1, 0, none⟩) 1 1, .string ⟨#[113]⟩, .int .i64 1, .int .i64 2, .slice (some ⟨w.heap.size + 1, 0, none⟩) 1 1, .slice none 0 0, .slice (some ⟨w.heap.size + 1 + 1 + 1 + 1 + 1 + 1 + 1 + 1 + 1 + 1, 0, none⟩) 1 1]) (ts := 9) (tg := 9) (tr := 40) (zs := (0, 0)) (zg := (0, 0)) (zr := (0, 0)) (ks := 4) (kg := 3) [⟨#[97]⟩, ⟨#[98]⟩, ⟨#[99]⟩, ⟨#[100]⟩] [⟨#[115]⟩, ⟨#[116]⟩, ⟨#[117]⟩] (.slice (some ⟨w.heap.size + 1 + 1 + 1 + 1 + 1 + 1 + 1, 0, none⟩) 2 2) [(⟨#[112]⟩, 0), (⟨#[113]⟩, 3)] ((⟨⟨#[114]⟩, 0, 2, [0], [], [(1, false)]⟩, .slice (some ⟨w.heap.size, 0, none⟩) 1 1, .slice none 0 0, .slice (some ⟨w.heap.size + 1 + 1 + 1 + 1 + 1 + 1 + 1 + 1 + 1, 0, none⟩) 1 1) : RtV) ((⟨⟨#[113]⟩, 1, 2, [1], [], [(1, true)]⟩, .slice (some ⟨w.heap.size + 1, 0, none⟩) 1 1, .slice none 0 0, .slice (some ⟨w.heap.size + 1 + 1 + 1 + 1 + 1 + 1 + 1 + 1 + 1 + 1, 0, none⟩) 1 1) : RtV) (by rw [hW]; repeat (first | (refine blk_new' ?_; simp; done) | refine blk_old ?_)) rfl (by rw [hW]; repeat (first | (refine blk_new' ?_; simp; done) | refine blk_old ?_)) rfl (by rw [hW]; repeat (first | (refine blk_new' ?_; simp; done) | refine blk_old ?_)) rfl (row_blk (cs := pC) (c := #[.string ⟨#[112]⟩, .int .i64 0, .string ⟨#[113]⟩, .int .i64 3]) (t := 35) (z := (0, 0)) (cap := 2) (fun _ => rfl) [(⟨#[112]⟩, 0), (⟨#[113]⟩, 3)] (by rw [hW]; repeat (first | (refine blk_new' ?_; simp; done) | refine blk_old ?_)) rfl) ⟨(row_blk (cs := iC) (c := #[.int .i64 0]) (t := 3) (z := (0, 0)) (cap := 1) (fun _ => rfl) [0] (by rw [hW]; repeat (first | (refine blk_new' ?_; simp; done) | refine blk_old ?_)) rfl), (rowAt.nil _ _ _), (row_blk (cs := nC) (c := #[.int .i64 1, .bool false]) (t := 37) (z := (0, 0)) (cap := 1) (fun _ => rfl) [(1, false)] (by rw [hW]; repeat (first | (refine blk_new' ?_; simp; done) | refine blk_old ?_)) rfl)⟩ ⟨(row_blk (cs := iC) (c := #[.int .i64 1]) (t := 3) (z := (0, 0)) (cap := 1) (fun _ => rfl) [1] (by rw [hW]; repeat (first | (refine blk_new' ?_; simp; done) | refine blk_old ?_)) rfl), (rowAt.nil _ _ _), (row_blk (cs := nC) (c := #[.int .i64 1, .bool true]) (t := 37) (z := (0, 0)) (cap := 1) (fun _ => rfl) [(1, true)] (by rw [hW]; repeat (first | (refine blk_new' ?_; simp; done) | refine blk_old ?_)) rfl)⟩
  have I := is_few L ⟨by simp, fun x hx => (by
    rcases List.mem_cons.1 hx with rfl | hx
    · exact ⟨cap_of (by omega), by simp, by simp, by simp⟩
    · rw [List.mem_singleton.1 hx]
      exact ⟨cap_of (by omega), by simp, by simp, by simp⟩), cap_of (by simp), cap_of (by simp)⟩ false (by kernel_rfl)
  clear hW L
  refine I.mono ?_
  rintro e w1 ⟨rfl, hb1⟩
  go_wp2_with fail
  refine (known_any _).mono ?_
  rintro e w2 ⟨rfl, hb2⟩
  go_wp2
  go_ret
  exact ⟨rfl, HB.out.trans ((hb1.trans (hb2.mono hb1.size)).mono HB.out.size)⟩

set_option maxRecDepth 1000000 in
set_option maxHeartbeats 4000000 in
theorem pts1ff (w : World) : Calls Try.prog 4 #[.int .i64 1, .bool false, .bool false] w fun e w' => e = .returned (.bool true) ∧ Below w.heap.size w w' := by
  go_enter Try.func4, Try.ntmps4
  go_wp2_with (go_at_call 7; refine (two_at _ _ _ _ _ _ _).mono ?_; rintro e w' ⟨rfl, rfl⟩)
  refine with_world (fun W hW => ?_)
  have HB : Hid (Below w.heap.size w W) := by
    show Below _ _ _
    rw [hW]
    repeat' (with_reducible first | exact Below.refl _ _ | refine Below.alloc ?_ ?_ _ | exact Nat.le_refl _ | (simp; done) | (simp; omega))
  have L := lay_two (W := W) (bs := w.heap.size + 1 + 1 + 1) (bg := w.heap.size + 1 + 1 + 1 + 1) (br := w.heap.size + 1 + 1 + 1 + 1 + 1) (cs := #[.string ⟨#[97]⟩, .string ⟨#[98]⟩, .string ⟨#[99]⟩, .string ⟨#[100]⟩]) (cg := #[.string ⟨#[115]⟩, .string ⟨#[116]⟩, .string ⟨#[117]⟩]) (cr := #[.string ⟨#[114]⟩, .int .i64 0, .int .i64 2, .slice (some ⟨w.heap.size, 0, none⟩) 1 1, .slice none 0 0, .slice (some ⟨w.heap.size + 1 + 1 + 1 + 1 + 1 + 1 + 1 + 1 + 1, 0, none⟩) 1 1, .string ⟨#[113]⟩, .int .i64 1, .int .i64 2, .slice (some ⟨w.heap.size + 1, 0, none⟩) 1 1, .slice none 0 0, .slice (some ⟨w.heap.size + 1 + 1 + 1 + 1 + 1 + 1 + 1 + 1 + 1 + 1, 0, none⟩) 1 1]) (ts := 9) (tg := 9) (tr := 40) (zs := (0, 0)) (zg := (0, 0)) (zr := (0, 0)) (ks := 4) (kg := 3) [⟨#[97]⟩, ⟨#[98]⟩, ⟨#[99]⟩, ⟨#[100]⟩] [⟨#[115]⟩, ⟨#[116]⟩, ⟨#[117]⟩] (.slice (some ⟨w.heap.size + 1 + 1 + 1 + 1 + 1 + 1 + 1, 0, none⟩) 2 2) [(⟨#[112]⟩, 0), (⟨#[113]⟩, 3)] ((⟨⟨#[114]⟩, 0, 2, [0], [], [(1, false)]⟩, .slice (some ⟨w.heap.size, 0, none⟩) 1 1, .slice none 0 0, .slice (some ⟨w.heap.size + 1 + 1 + 1 + 1 + 1 + 1 + 1 + 1 + 1, 0, none⟩) 1 1) : RtV) ((⟨⟨#[113]⟩, 1, 2, [1], [], [(1, false)]⟩, .slice (some ⟨w.heap.size + 1, 0, none⟩) 1 1, .slice none 0 0, .slice (some ⟨w.heap.size + 1 + 1 + 1 + 1 + 1 + 1 + 1 + 1 + 1 + 1, 0, none⟩) 1 1) : RtV) (by rw [hW]; repeat (first | (refine blk_new' ?_; simp; done) | refine blk_old ?_)) rfl (by rw [hW]; repeat (first | (refine blk_new' ?_; simp; done) | refine blk_old ?_)) rfl (by rw [hW]; repeat (first | (refine blk_new' ?_; simp; done) | refine blk_old ?_)) rfl (row_blk (cs := pC) (c := #[.string ⟨#[112]⟩, .int .i64 0, .string ⟨#[113]⟩, .int .i64 3]) (t := 35) (z := (0, 0)) (cap := 2) (fun _ => rfl) [(⟨#[112]⟩, 0), (⟨#[113]⟩, 3)] (by rw [hW]; repeat (first | (refine blk_new' ?_; simp; done) | refine blk_old ?_)) rfl) ⟨(row_blk (cs := iC) (c := #[.int .i64 0]) (t := 3) (z := (0, 0)) (cap := 1) (fun _ => rfl) [0] (by rw [hW]; repeat (first | (refine blk_new' ?_; simp; done) | refine blk_old ?_)) rfl), (rowAt.nil _ _ _), (row_blk (cs := nC) (c := #[.int .i64 1, .bool false]) (t := 37) (z := (0, 0)) (cap := 1) (fun _ => rfl) [(1, false)] (by rw [hW]; repeat (first | (refine blk_new' ?_; simp; done) | refine blk_old ?_)) rfl)⟩ ⟨(row_blk (cs := iC) (c := #[.int .i64 1]) (t := 3) (z := (0, 0)) (cap := 1) (fun _ => rfl) [1] (by rw [hW]; repeat (first | (refine blk_new' ?_; simp; done) | refine blk_old ?_)) rfl), (rowAt.nil _ _ _), (row_blk (cs := nC) (c := #[.int .i64 1, .bool false]) (t := 37) (z := (0, 0)) (cap := 1) (fun _ => rfl) [(1, false)] (by rw [hW]; repeat (first | (refine blk_new' ?_; simp; done) | refine blk_old ?_)) rfl)⟩
  have I := is_few L ⟨by simp, fun x hx => (by
    rcases List.mem_cons.1 hx with rfl | hx
    · exact ⟨cap_of (by omega), by simp, by simp, by simp⟩
    · rw [List.mem_singleton.1 hx]
      exact ⟨cap_of (by omega), by simp, by simp, by simp⟩), cap_of (by simp), cap_of (by simp)⟩ false (by kernel_rfl)
  clear hW L
  refine I.mono ?_
  rintro e w1 ⟨rfl, hb1⟩
  go_wp2_with fail
  refine (known_any _).mono ?_
  rintro e w2 ⟨rfl, hb2⟩
  go_wp2
  go_ret
  exact ⟨rfl, HB.out.trans ((hb1.trans (hb2.mono hb1.size)).mono HB.out.size)⟩

set_option maxRecDepth 1000000 in
set_option maxHeartbeats 4000000 in
theorem pts2tt (w : World) : Calls Try.prog 4 #[.int .i64 2, .bool true, .bool true] w fun e w' => e = .returned (.bool true) ∧ Below w.heap.size w w' := by
  go_enter Try.func4, Try.ntmps4
  go_wp2_with (go_at_call 7; refine (two_at _ _ _ _ _ _ _).mono ?_; rintro e w' ⟨rfl, rfl⟩)
  refine with_world (fun W hW => ?_)
  have HB : Hid (Below w.heap.size w W) := by
    show Below _ _ _
    rw [hW]
    repeat' (with_reducible first | exact Below.refl _ _ | refine Below.alloc ?_ ?_ _ | exact Nat.le_refl _ | (simp; done) | (simp; omega))
  have L := lay_two (W := W) (bs := w.heap.size + 1 + 1 + 1) (bg := w.heap.size + 1 + 1 + 1 + 1) (br := w.heap.size + 1 + 1 + 1 + 1 + 1) (cs := #[.string ⟨#[97]⟩, .string ⟨#[98]⟩, .string ⟨#[99]⟩, .string ⟨#[100]⟩]) (cg := #[.string ⟨#[115]⟩, .string ⟨#[116]⟩, .string ⟨#[117]⟩]) (cr := #[.string ⟨#[114]⟩, .int .i64 0, .int .i64 2, .slice (some ⟨w.heap.size, 0, none⟩) 1 1, .slice (some ⟨w.heap.size + 1 + 1 + 1 + 1 + 1 + 1 + 1 + 1 + 1 + 1 + 1, 0, none⟩) 1 1, .slice (some ⟨w.heap.size + 1 + 1 + 1 + 1 + 1 + 1 + 1 + 1 + 1, 0, none⟩) 1 1, .string ⟨#[113]⟩, .int .i64 1, .int .i64 2, .slice (some ⟨w.heap.size + 1, 0, none⟩) 1 1, .slice none 0 0, .slice (some ⟨w.heap.size + 1 + 1 + 1 + 1 + 1 + 1 + 1 + 1 + 1 + 1, 0, none⟩) 1 1]) (ts := 9) (tg := 9) (tr := 40) (zs := (0, 0)) (zg := (0, 0)) (zr := (0, 0)) (ks := 4) (kg := 3) [⟨#[97]⟩, ⟨#[98]⟩, ⟨#[99]⟩, ⟨#[100]⟩] [⟨#[115]⟩, ⟨#[116]⟩, ⟨#[117]⟩] (.slice (some ⟨w.heap.size + 1 + 1 + 1 + 1 + 1 + 1 + 1, 0, none⟩) 2 2) [(⟨#[112]⟩, 0), (⟨#[113]⟩, 3)] ((⟨⟨#[114]⟩, 0, 2, [0], [(1, false)], [(1, true)]⟩, .slice (some ⟨w.heap.size, 0, none⟩) 1 1, .slice (some ⟨w.heap.size + 1 + 1 + 1 + 1 + 1 + 1 + 1 + 1 + 1 + 1 + 1, 0, none⟩) 1 1, .slice (some ⟨w.heap.size + 1 + 1 + 1 + 1 + 1 + 1 + 1 + 1 + 1, 0, none⟩) 1 1) : RtV) ((⟨⟨#[113]⟩, 1, 2, [1], [], [(1, true)]⟩, .slice (some ⟨w.heap.size + 1, 0, none⟩) 1 1, .slice none 0 0, .slice (some ⟨w.heap.size + 1 + 1 + 1 + 1 + 1 + 1 + 1 + 1 + 1 + 1, 0, none⟩) 1 1) : RtV) (by rw [hW]; repeat (first | (refine blk_new' ?_; simp; done) | refine blk_old ?_)) rfl (by rw [hW]; repeat (first | (refine blk_new' ?_; simp; done) | refine blk_old ?_)) rfl (by rw [hW]; repeat (first | (refine blk_new' ?_; simp; done) | refine blk_old ?_)) rfl (row_blk (cs := pC) (c := #[.string ⟨#[112]⟩, .int .i64 0, .string ⟨#[113]⟩, .int .i64 3]) (t := 35) (z := (0, 0)) (cap := 2) (fun _ => rfl) [(⟨#[112]⟩, 0), (⟨#[113]⟩, 3)] (by rw [hW]; repeat (first | (refine blk_new' ?_; simp; done) | refine blk_old ?_)) rfl) ⟨(row_blk (cs := iC) (c := #[.int .i64 0]) (t := 3) (z := (0, 0)) (cap := 1) (fun _ => rfl) [0] (by rw [hW]; repeat (first | (refine blk_new' ?_; simp; done) | refine blk_old ?_)) rfl), (row_blk (cs := nC) (c := #[.int .i64 1, .bool false]) (t := 37) (z := (0, 0)) (cap := 1) (fun _ => rfl) [(1, false)] (by rw [hW]; repeat (first | (refine blk_new' ?_; simp; done) | refine blk_old ?_)) rfl), (row_blk (cs := nC) (c := #[.int .i64 1, .bool true]) (t := 37) (z := (0, 0)) (cap := 1) (fun _ => rfl) [(1, true)] (by rw [hW]; repeat (first | (refine blk_new' ?_; simp; done) | refine blk_old ?_)) rfl)⟩ ⟨(row_blk (cs := iC) (c := #[.int .i64 1]) (t := 3) (z := (0, 0)) (cap := 1) (fun _ => rfl) [1] (by rw [hW]; repeat (first | (refine blk_new' ?_; simp; done) | refine blk_old ?_)) rfl), (rowAt.nil _ _ _), (row_blk (cs := nC) (c := #[.int .i64 1, .bool true]) (t := 37) (z := (0, 0)) (cap := 1) (fun _ => rfl) [(1, true)] (by rw [hW]; repeat (first | (refine blk_new' ?_; simp; done) | refine blk_old ?_)) rfl)⟩
  have I := is_few L ⟨by simp, fun x hx => (by
    rcases List.mem_cons.1 hx with rfl | hx
    · exact ⟨cap_of (by omega), by simp, by simp, by simp⟩
    · rw [List.mem_singleton.1 hx]
      exact ⟨cap_of (by omega), by simp, by simp, by simp⟩), cap_of (by simp), cap_of (by simp)⟩ false (by kernel_rfl)
  clear hW L
  refine I.mono ?_
  rintro e w1 ⟨rfl, hb1⟩
  go_wp2_with fail
  refine (known_any _).mono ?_
  rintro e w2 ⟨rfl, hb2⟩
  go_wp2
  go_ret
  exact ⟨rfl, HB.out.trans ((hb1.trans (hb2.mono hb1.size)).mono HB.out.size)⟩

set_option maxRecDepth 1000000 in
set_option maxHeartbeats 4000000 in
theorem pts2tf (w : World) : Calls Try.prog 4 #[.int .i64 2, .bool true, .bool false] w fun e w' => e = .returned (.bool true) ∧ Below w.heap.size w w' := by
  go_enter Try.func4, Try.ntmps4
  go_wp2_with (go_at_call 7; refine (two_at _ _ _ _ _ _ _).mono ?_; rintro e w' ⟨rfl, rfl⟩)
  refine with_world (fun W hW => ?_)
  have HB : Hid (Below w.heap.size w W) := by
    show Below _ _ _
    rw [hW]
    repeat' (with_reducible first | exact Below.refl _ _ | refine Below.alloc ?_ ?_ _ | exact Nat.le_refl _ | (simp; done) | (simp; omega))
  have L := lay_two (W := W) (bs := w.heap.size + 1 + 1 + 1) (bg := w.heap.size + 1 + 1 + 1 + 1) (br := w.heap.size + 1 + 1 + 1 + 1 + 1) (cs := #[.string ⟨#[97]⟩, .string ⟨#[98]⟩, .string ⟨#[99]⟩, .string ⟨#[100]⟩]) (cg := #[.string ⟨#[115]⟩, .string ⟨#[116]⟩, .string ⟨#[117]⟩]) (cr := #[.string ⟨#[114]⟩, .int .i64 0, .int .i64 2, .slice (some ⟨w.heap.size, 0, none⟩) 1 1, .slice (some ⟨w.heap.size + 1 + 1 + 1 + 1 + 1 + 1 + 1 + 1 + 1 + 1 + 1, 0, none⟩) 1 1, .slice (some ⟨w.heap.size + 1 + 1 + 1 + 1 + 1 + 1 + 1 + 1 + 1, 0, none⟩) 1 1, .string ⟨#[113]⟩, .int .i64 1, .int .i64 2, .slice (some ⟨w.heap.size + 1, 0, none⟩) 1 1, .slice none 0 0, .slice (some ⟨w.heap.size + 1 + 1 + 1 + 1 + 1 + 1 + 1 + 1 + 1 + 1, 0, none⟩) 1 1]) (ts := 9) (tg := 9) (tr := 40) (zs := (0, 0)) (zg := (0, 0)) (zr := (0, 0)) (ks := 4) (kg := 3) [⟨#[97]⟩, ⟨#[98]⟩, ⟨#[99]⟩, ⟨#[100]⟩] [⟨#[115]⟩, ⟨#[116]⟩, ⟨#[117]⟩] (.slice (some ⟨w.heap.size + 1 + 1 + 1 + 1 + 1 + 1 + 1, 0, none⟩) 2 2) [(⟨#[112]⟩, 0), (⟨#[113]⟩, 3)] ((⟨⟨#[114]⟩, 0, 2, [0], [(1, false)], [(1, true)]⟩, .slice (some ⟨w.heap.size, 0, none⟩) 1 1, .slice (some ⟨w.heap.size + 1 + 1 + 1 + 1 + 1 + 1 + 1 + 1 + 1 + 1 + 1, 0, none⟩) 1 1, .slice (some ⟨w.heap.size + 1 + 1 + 1 + 1 + 1 + 1 + 1 + 1 + 1, 0, none⟩) 1 1) : RtV) ((⟨⟨#[113]⟩, 1, 2, [1], [], [(1, false)]⟩, .slice (some ⟨w.heap.size + 1, 0, none⟩) 1 1, .slice none 0 0, .slice (some ⟨w.heap.size + 1 + 1 + 1 + 1 + 1 + 1 + 1 + 1 + 1 + 1, 0, none⟩) 1 1) : RtV) (by rw [hW]; repeat (first | (refine blk_new' ?_; simp; done) | refine blk_old ?_)) rfl (by rw [hW]; repeat (first | (refine blk_new' ?_; simp; done) | refine blk_old ?_)) rfl (by rw [hW]; repeat (first | (refine blk_new' ?_; simp; done) | refine blk_old ?_)) rfl (row_blk (cs := pC) (c := #[.string ⟨#[112]⟩, .int .i64 0, .string ⟨#[113]⟩, .int .i64 3]) (t := 35) (z := (0, 0)) (cap := 2) (fun _ => rfl) [(⟨#[112]⟩, 0), (⟨#[113]⟩, 3)] (by rw [hW]; repeat (first | (refine blk_new' ?_; simp; done) | refine blk_old ?_)) rfl) ⟨(row_blk (cs := iC) (c := #[.int .i64 0]) (t := 3) (z := (0, 0)) (cap := 1) (fun _ => rfl) [0] (by rw [hW]; repeat (first | (refine blk_new' ?_; simp; done) | refine blk_old ?_)) rfl), (row_blk (cs := nC) (c := #[.int .i64 1, .bool false]) (t := 37) (z := (0, 0)) (cap := 1) (fun _ => rfl) [(1, false)] (by rw [hW]; repeat (first | (refine blk_new' ?_; simp; done) | refine blk_old ?_)) rfl), (row_blk (cs := nC) (c := #[.int .i64 1, .bool true]) (t := 37) (z := (0, 0)) (cap := 1) (fun _ => rfl) [(1, true)] (by rw [hW]; repeat (first | (refine blk_new' ?_; simp; done) | refine blk_old ?_)) rfl)⟩ ⟨(row_blk (cs := iC) (c := #[.int .i64 1]) (t := 3) (z := (0, 0)) (cap := 1) (fun _ => rfl) [1] (by rw [hW]; repeat (first | (refine blk_new' ?_; simp; done) | refine blk_old ?_)) rfl), (rowAt.nil _ _ _), (row_blk (cs := nC) (c := #[.int .i64 1, .bool false]) (t := 37) (z := (0, 0)) (cap := 1) (fun _ => rfl) [(1, false)] (by rw [hW]; repeat (first | (refine blk_new' ?_; simp; done) | refine blk_old ?_)) rfl)⟩
  have I := is_few L ⟨by simp, fun x hx => (by
    rcases List.mem_cons.1 hx with rfl | hx
    · exact ⟨cap_of (by omega), by simp, by simp, by simp⟩
    · rw [List.mem_singleton.1 hx]
      exact ⟨cap_of (by omega), by simp, by simp, by simp⟩), cap_of (by simp), cap_of (by simp)⟩ false (by kernel_rfl)
  clear hW L
  refine I.mono ?_
  rintro e w1 ⟨rfl, hb1⟩
  go_wp2_with fail
  refine (known_any _).mono ?_
  rintro e w2 ⟨rfl, hb2⟩
  go_wp2
  go_ret
  exact ⟨rfl, HB.out.trans ((hb1.trans (hb2.mono hb1.size)).mono HB.out.size)⟩

set_option maxRecDepth 1000000 in
set_option maxHeartbeats 4000000 in
theorem pts2ft (w : World) : Calls Try.prog 4 #[.int .i64 2, .bool false, .bool true] w fun e w' => e = .returned (.bool true) ∧ Below w.heap.size w w' := by
  go_enter Try.func4, Try.ntmps4
  go_wp2_with (go_at_call 7; refine (two_at _ _ _ _ _ _ _).mono ?_; rintro e w' ⟨rfl, rfl⟩)
  refine with_world (fun W hW => ?_)
  have HB : Hid (Below w.heap.size w W) := by
    show Below _ _ _
    rw [hW]
    repeat' (with_reducible first | exact Below.refl _ _ | refine Below.alloc ?_ ?_ _ | exact Nat.le_refl _ | (simp; done) | (simp; omega))
  have L := lay_two (W := W) (bs := w.heap.size + 1 + 1 + 1) (bg := w.heap.size + 1 + 1 + 1 + 1) (br := w.heap.size + 1 + 1 + 1 + 1 + 1) (cs := #[.string ⟨#[97]⟩, .string ⟨#[98]⟩, .string ⟨#[99]⟩, .string ⟨#[100]⟩]) (cg := #[.string ⟨#[115]⟩, .string ⟨#[116]⟩, .string ⟨#[117]⟩]) (cr := #[.string ⟨#[114]⟩, .int .i64 0, .int .i64 2, .slice (some ⟨w.heap.size, 0, none⟩) 1 1, .slice (some ⟨w.heap.size + 1 + 1 + 1 + 1 + 1 + 1 + 1 + 1 + 1 + 1 + 1, 0, none⟩) 1 1, .slice (some ⟨w.heap.size + 1 + 1 + 1 + 1 + 1 + 1 + 1 + 1 + 1, 0, none⟩) 1 1, .string ⟨#[113]⟩, .int .i64 1, .int .i64 2, .slice (some ⟨w.heap.size + 1, 0, none⟩) 1 1, .slice none 0 0, .slice (some ⟨w.heap.size + 1 + 1 + 1 + 1 + 1 + 1 + 1 + 1 + 1 + 1, 0, none⟩) 1 1]) (ts := 9) (tg := 9) (tr := 40) (zs := (0, 0)) (zg := (0, 0)) (zr := (0, 0)) (ks := 4) (kg := 3) [⟨#[97]⟩, ⟨#[98]⟩, ⟨#[99]⟩, ⟨#[100]⟩] [⟨#[115]⟩, ⟨#[116]⟩, ⟨#[117]⟩] (.slice (some ⟨w.heap.size + 1 + 1 + 1 + 1 + 1 + 1 + 1, 0, none⟩) 2 2) [(⟨#[112]⟩, 0), (⟨#[113]⟩, 3)] ((⟨⟨#[114]⟩, 0, 2, [0], [(1, false)], [(1, false)]⟩, .slice (some ⟨w.heap.size, 0, none⟩) 1 1, .slice (some ⟨w.heap.size + 1 + 1 + 1 + 1 + 1 + 1 + 1 + 1 + 1 + 1 + 1, 0, none⟩) 1 1, .slice (some ⟨w.heap.size + 1 + 1 + 1 + 1 + 1 + 1 + 1 + 1 + 1, 0, none⟩) 1 1) : RtV) ((⟨⟨#[113]⟩, 1, 2, [1], [], [(1, true)]⟩, .slice (some ⟨w.heap.size + 1, 0, none⟩) 1 1, .slice none 0 0, .slice (some ⟨w.heap.size + 1 + 1 + 1 + 1 + 1 + 1 + 1 + 1 + 1 + 1, 0, none⟩) 1 1) : RtV) (by rw [hW]; repeat (first | (refine blk_new' ?_; simp; done) | refine blk_old ?_)) rfl (by rw [hW]; repeat (first | (refine blk_new' ?_; simp; done) | refine blk_old ?_)) rfl (by rw [hW]; repeat (first | (refine blk_new' ?_; simp; done) | refine blk_old ?_)) rfl (row_blk (cs := pC) (c := #[.string ⟨#[112]⟩, .int .i64 0, .string ⟨#[113]⟩, .int .i64 3]) (t := 35) (z := (0, 0)) (cap := 2) (fun _ => rfl) [(⟨#[112]⟩, 0), (⟨#[113]⟩, 3)] (by rw [hW]; repeat (first | (refine blk_new' ?_; simp; done) | refine blk_old ?_)) rfl) ⟨(row_blk (cs := iC) (c := #[.int .i64 0]) (t := 3) (z := (0, 0)) (cap := 1) (fun _ => rfl) [0] (by rw [hW]; repeat (first | (refine blk_new' ?_; simp; done) | refine blk_old ?_)) rfl), (row_blk (cs := nC) (c := #[.int .i64 1, .bool false]) (t := 37) (z := (0, 0)) (cap := 1) (fun _ => rfl) [(1, false)] (by rw [hW]; repeat (first | (refine blk_new' ?_; simp; done) | refine blk_old ?_)) rfl), (row_blk (cs := nC) (c := #[.int .i64 1, .bool false]) (t := 37) (z := (0, 0)) (cap := 1) (fun _ => rfl) [(1, false)] (by rw [hW]; repeat (first | (refine blk_new' ?_; simp; done) | refine blk_old ?_)) rfl)⟩ ⟨(row_blk (cs := iC) (c := #[.int .i64 1]) (t := 3) (z := (0, 0)) (cap := 1) (fun _ => rfl) [1] (by rw [hW]; repeat (first | (refine blk_new' ?_; simp; done) | refine blk_old ?_)) rfl), (rowAt.nil _ _ _), (row_blk (cs := nC) (c := #[.int .i64 1, .bool true]) (t := 37) (z := (0, 0)) (cap := 1) (fun _ => rfl) [(1, true)] (by rw [hW]; repeat (first | (refine blk_new' ?_; simp; done) | refine blk_old ?_)) rfl)⟩
  have I := is_few L ⟨by simp, fun x hx => (by
    rcases List.mem_cons.1 hx with rfl | hx
    · exact ⟨cap_of (by omega), by simp, by simp, by simp⟩
    · rw [List.mem_singleton.1 hx]
      exact ⟨cap_of (by omega), by simp, by simp, by simp⟩), cap_of (by simp), cap_of (by simp)⟩ false (by kernel_rfl)
  clear hW L
  refine I.mono ?_
  rintro e w1 ⟨rfl, hb1⟩
  go_wp2_with fail
  refine (known_any _).mono ?_
  rintro e w2 ⟨rfl, hb2⟩
  go_wp2
  go_ret
  exact ⟨rfl, HB.out.trans ((hb1.trans (hb2.mono hb1.size)).mono HB.out.size)⟩

set_option maxRecDepth 1000000 in
set_option maxHeartbeats 4000000 in
theorem pts2ff (w : World) : Calls Try.prog 4 #[.int .i64 2, .bool false, .bool false] w fun e w' => e = .returned (.bool true) ∧ Below w.heap.size w w' := by
  go_enter Try.func4, Try.ntmps4
  go_wp2_with (go_at_call 7; refine (two_at _ _ _ _ _ _ _).mono ?_; rintro e w' ⟨rfl, rfl⟩)
  refine with_world (fun W hW => ?_)
  have HB : Hid (Below w.heap.size w W) := by
    show Below _ _ _
    rw [hW]
    repeat' (with_reducible first | exact Below.refl _ _ | refine Below.alloc ?_ ?_ _ | exact Nat.le_refl _ | (simp; done) | (simp; omega))
  have L := lay_two (W := W) (bs := w.heap.size + 1 + 1 + 1) (bg := w.heap.size + 1 + 1 + 1 + 1) (br := w.heap.size + 1 + 1 + 1 + 1 + 1) (cs := #[.string ⟨#[97]⟩, .string ⟨#[98]⟩, .string ⟨#[99]⟩, .string ⟨#[100]⟩]) (cg := #[.string ⟨#[115]⟩, .string ⟨#[116]⟩, .string ⟨#[117]⟩]) (cr := #[.string ⟨#[114]⟩, .int .i64 0, .int .i64 2, .slice (some ⟨w.heap.size, 0, none⟩) 1 1, .slice (some ⟨w.heap.size + 1 + 1 + 1 + 1 + 1 + 1 + 1 + 1 + 1 + 1 + 1, 0, none⟩) 1 1, .slice (some ⟨w.heap.size + 1 + 1 + 1 + 1 + 1 + 1 + 1 + 1 + 1, 0, none⟩) 1 1, .string ⟨#[113]⟩, .int .i64 1, .int .i64 2, .slice (some ⟨w.heap.size + 1, 0, none⟩) 1 1, .slice none 0 0, .slice (some ⟨w.heap.size + 1 + 1 + 1 + 1 + 1 + 1 + 1 + 1 + 1 + 1, 0, none⟩) 1 1]) (ts := 9) (tg := 9) (tr := 40) (zs := (0, 0)) (zg := (0, 0)) (zr := (0, 0)) (ks := 4) (kg := 3) [⟨#[97]⟩, ⟨#[98]⟩, ⟨#[99]⟩, ⟨#[100]⟩] [⟨#[115]⟩, ⟨#[116]⟩, ⟨#[117]⟩] (.slice (some ⟨w.heap.size + 1 + 1 + 1 + 1 + 1 + 1 + 1, 0, none⟩) 2 2) [(⟨#[112]⟩, 0), (⟨#[113]⟩, 3)] ((⟨⟨#[114]⟩, 0, 2, [0], [(1, false)], [(1, false)]⟩, .slice (some ⟨w.heap.size, 0, none⟩) 1 1, .slice (some ⟨w.heap.size + 1 + 1 + 1 + 1 + 1 + 1 + 1 + 1 + 1 + 1 + 1, 0, none⟩) 1 1, .slice (some ⟨w.heap.size + 1 + 1 + 1 + 1 + 1 + 1 + 1 + 1 + 1, 0, none⟩) 1 1) : RtV) ((⟨⟨#[113]⟩, 1, 2, [1], [], [(1, false)]⟩, .slice (some ⟨w.heap.size + 1, 0, none⟩) 1 1, .slice none 0 0, .slice (some ⟨w.heap.size + 1 + 1 + 1 + 1 + 1 + 1 + 1 + 1 + 1 + 1, 0, none⟩) 1 1) : RtV) (by rw [hW]; repeat (first | (refine blk_new' ?_; simp; done) | refine blk_old ?_)) rfl (by rw [hW]; repeat (first | (refine blk_new' ?_; simp; done) | refine blk_old ?_)) rfl (by rw [hW]; repeat (first | (refine blk_new' ?_; simp; done) | refine blk_old ?_)) rfl (row_blk (cs := pC) (c := #[.string ⟨#[112]⟩, .int .i64 0, .string ⟨#[113]⟩, .int .i64 3]) (t := 35) (z := (0, 0)) (cap := 2) (fun _ => rfl) [(⟨#[112]⟩, 0), (⟨#[113]⟩, 3)] (by rw [hW]; repeat (first | (refine blk_new' ?_; simp; done) | refine blk_old ?_)) rfl) ⟨(row_blk (cs := iC) (c := #[.int .i64 0]) (t := 3) (z := (0, 0)) (cap := 1) (fun _ => rfl) [0] (by rw [hW]; repeat (first | (refine blk_new' ?_; simp; done) | refine blk_old ?_)) rfl), (row_blk (cs := nC) (c := #[.int .i64 1, .bool false]) (t := 37) (z := (0, 0)) (cap := 1) (fun _ => rfl) [(1, false)] (by rw [hW]; repeat (first | (refine blk_new' ?_; simp; done) | refine blk_old ?_)) rfl), (row_blk (cs := nC) (c := #[.int .i64 1, .bool false]) (t := 37) (z := (0, 0)) (cap := 1) (fun _ => rfl) [(1, false)] (by rw [hW]; repeat (first | (refine blk_new' ?_; simp; done) | refine blk_old ?_)) rfl)⟩ ⟨(row_blk (cs := iC) (c := #[.int .i64 1]) (t := 3) (z := (0, 0)) (cap := 1) (fun _ => rfl) [1] (by rw [hW]; repeat (first | (refine blk_new' ?_; simp; done) | refine blk_old ?_)) rfl), (rowAt.nil _ _ _), (row_blk (cs := nC) (c := #[.int .i64 1, .bool false]) (t := 37) (z := (0, 0)) (cap := 1) (fun _ => rfl) [(1, false)] (by rw [hW]; repeat (first | (refine blk_new' ?_; simp; done) | refine blk_old ?_)) rfl)⟩
  have I := is_few L ⟨by simp, fun x hx => (by
    rcases List.mem_cons.1 hx with rfl | hx
    · exact ⟨cap_of (by omega), by simp, by simp, by simp⟩
    · rw [List.mem_singleton.1 hx]
      exact ⟨cap_of (by omega), by simp, by simp, by simp⟩), cap_of (by simp), cap_of (by simp)⟩ false (by kernel_rfl)
  clear hW L
  refine I.mono ?_
  rintro e w1 ⟨rfl, hb1⟩
  go_wp2_with fail
  refine (known_any _).mono ?_
  rintro e w2 ⟨rfl, hb2⟩
  go_wp2
  go_ret
  exact ⟨rfl, HB.out.trans ((hb1.trans (hb2.mono hb1.size)).mono HB.out.size)⟩

set_option maxRecDepth 1000000 in
set_option maxHeartbeats 4000000 in
theorem pts3tt (w : World) : Calls Try.prog 4 #[.int .i64 3, .bool true, .bool true] w fun e w' => e = .returned (.bool true) ∧ Below w.heap.size w w' := by
  go_enter Try.func4, Try.ntmps4
  go_wp2_with (go_at_call 7; refine (two_at _ _ _ _ _ _ _).mono ?_; rintro e w' ⟨rfl, rfl⟩)
  refine with_world (fun W hW => ?_)
  have HB : Hid (Below w.heap.size w W) := by
    show Below _ _ _
    rw [hW]
    repeat' (with_reducible first | exact Below.refl _ _ | refine Below.alloc ?_ ?_ _ | exact Nat.le_refl _ | (simp; done) | (simp; omega))
  have L := lay_two (W := W) (bs := w.heap.size + 1 + 1 + 1) (bg := w.heap.size + 1 + 1 + 1 + 1) (br := w.heap.size + 1 + 1 + 1 + 1 + 1) (cs := #[.string ⟨#[97]⟩, .string ⟨#[98]⟩, .string ⟨#[99]⟩, .string ⟨#[100]⟩]) (cg := #[.string ⟨#[115]⟩, .string ⟨#[116]⟩, .string ⟨#[117]⟩]) (cr := #[.string ⟨#[114]⟩, .int .i64 0, .int .i64 2, .slice (some ⟨w.heap.size, 0, none⟩) 1 1, .slice (some ⟨w.heap.size + 1 + 1 + 1 + 1 + 1 + 1 + 1 + 1, 0, none⟩) 1 1, .slice (some ⟨w.heap.size + 1 + 1 + 1 + 1 + 1 + 1 + 1 + 1 + 1 + 1 + 1, 0, none⟩) 1 1, .string ⟨#[113]⟩, .int .i64 1, .int .i64 2, .slice (some ⟨w.heap.size + 1, 0, none⟩) 1 1, .slice none 0 0, .slice (some ⟨w.heap.size + 1 + 1 + 1 + 1 + 1 + 1 + 1 + 1 + 1 + 1, 0, none⟩) 1 1]) (ts := 9) (tg := 9) (tr := 40) (zs := (0, 0)) (zg := (0, 0)) (zr := (0, 0)) (ks := 4) (kg := 3) [⟨#[97]⟩, ⟨#[98]⟩, ⟨#[99]⟩, ⟨#[100]⟩] [⟨#[115]⟩, ⟨#[116]⟩, ⟨#[117]⟩] (.slice (some ⟨w.heap.size + 1 + 1 + 1 + 1 + 1 + 1 + 1, 0, none⟩) 2 2) [(⟨#[112]⟩, 0), (⟨#[113]⟩, 3)] ((⟨⟨#[114]⟩, 0, 2, [0], [(0, false)], [(0, false)]⟩, .slice (some ⟨w.heap.size, 0, none⟩) 1 1, .slice (some ⟨w.heap.size + 1 + 1 + 1 + 1 + 1 + 1 + 1 + 1, 0, none⟩) 1 1, .slice (some ⟨w.heap.size + 1 + 1 + 1 + 1 + 1 + 1 + 1 + 1 + 1 + 1 + 1, 0, none⟩) 1 1) : RtV) ((⟨⟨#[113]⟩, 1, 2, [1], [], [(1, true)]⟩, .slice (some ⟨w.heap.size + 1, 0, none⟩) 1 1, .slice none 0 0, .slice (some ⟨w.heap.size + 1 + 1 + 1 + 1 + 1 + 1 + 1 + 1 + 1 + 1, 0, none⟩) 1 1) : RtV) (by rw [hW]; repeat (first | (refine blk_new' ?_; simp; done) | refine blk_old ?_)) rfl (by rw [hW]; repeat (first | (refine blk_new' ?_; simp; done) | refine blk_old ?_)) rfl (by rw [hW]; repeat (first | (refine blk_new' ?_; simp; done) | refine blk_old ?_)) rfl (row_blk (cs := pC) (c := #[.string ⟨#[112]⟩, .int .i64 0, .string ⟨#[113]⟩, .int .i64 3]) (t := 35) (z := (0, 0)) (cap := 2) (fun _ => rfl) [(⟨#[112]⟩, 0), (⟨#[113]⟩, 3)] (by rw [hW]; repeat (first | (refine blk_new' ?_; simp; done) | refine blk_old ?_)) rfl) ⟨(row_blk (cs := iC) (c := #[.int .i64 0]) (t := 3) (z := (0, 0)) (cap := 1) (fun _ => rfl) [0] (by rw [hW]; repeat (first | (refine blk_new' ?_; simp; done) | refine blk_old ?_)) rfl), (row_blk (cs := nC) (c := #[.int .i64 0, .bool false]) (t := 37) (z := (0, 0)) (cap := 1) (fun _ => rfl) [(0, false)] (by rw [hW]; repeat (first | (refine blk_new' ?_; simp; done) | refine blk_old ?_)) rfl), (row_blk (cs := nC) (c := #[.int .i64 0, .bool false]) (t := 37) (z := (0, 0)) (cap := 1) (fun _ => rfl) [(0, false)] (by rw [hW]; repeat (first | (refine blk_new' ?_; simp; done) | refine blk_old ?_)) rfl)⟩ ⟨(row_blk (cs := iC) (c := #[.int .i64 1]) (t := 3) (z := (0, 0)) (cap := 1) (fun _ => rfl) [1] (by rw [hW]; repeat (first | (refine blk_new' ?_; simp; done) | refine blk_old ?_)) rfl), (rowAt.nil _ _ _), (row_blk (cs := nC) (c := #[.int .i64 1, .bool true]) (t := 37) (z := (0, 0)) (cap := 1) (fun _ => rfl) [(1, true)] (by rw [hW]; repeat (first | (refine blk_new' ?_; simp; done) | refine blk_old ?_)) rfl)⟩
  have I := is_few L ⟨by simp, fun x hx => (by
    rcases List.mem_cons.1 hx with rfl | hx
    · exact ⟨cap_of (by omega), by simp, by simp, by simp⟩
    · rw [List.mem_singleton.1 hx]
      exact ⟨cap_of (by omega), by simp, by simp, by simp⟩), cap_of (by simp), cap_of (by simp)⟩ false (by kernel_rfl)
  clear hW L
  refine I.mono ?_
  rintro e w1 ⟨rfl, hb1⟩
  go_wp2_with fail
  refine (known_any _).mono ?_
  rintro e w2 ⟨rfl, hb2⟩
  go_wp2
  go_ret
  exact ⟨rfl, HB.out.trans ((hb1.trans (hb2.mono hb1.size)).mono HB.out.size)⟩

set_option maxRecDepth 1000000 in
set_option maxHeartbeats 4000000 in
theorem pts3tf (w : World) : Calls Try.prog 4 #[.int .i64 3, .bool true, .bool false] w fun e w' => e = .returned (.bool true) ∧ Below w.heap.size w w' := by
  go_enter Try.func4, Try.ntmps4
  go_wp2_with (go_at_call 7; refine (two_at _ _ _ _ _ _ _).mono ?_; rintro e w' ⟨rfl, rfl⟩)
  refine with_world (fun W hW => ?_)
  have HB : Hid (Below w.heap.size w W) := by
    show Below _ _ _
    rw [hW]
    repeat' (with_reducible first | exact Below.refl _ _ | refine Below.alloc ?_ ?_ _ | exact Nat.le_refl _ | (simp; done) | (simp; omega))
  have L := lay_two (W := W) (bs := w.heap.size + 1 + 1 + 1) (bg := w.heap.size + 1 + 1 + 1 + 1) (br := w.heap.size + 1 + 1 + 1 + 1 + 1) (cs := #[.string ⟨#[97]⟩, .string ⟨#[98]⟩, .string ⟨#[99]⟩, .string ⟨#[100]⟩]) (cg := #[.string ⟨#[115]⟩, .string ⟨#[116]⟩, .string ⟨#[117]⟩]) (cr := #[.string ⟨#[114]⟩, .int .i64 0, .int .i64 2, .slice (some ⟨w.heap.size, 0, none⟩) 1 1, .slice (some ⟨w.heap.size + 1 + 1 + 1 + 1 + 1 + 1 + 1 + 1, 0, none⟩) 1 1, .slice (some ⟨w.heap.size + 1 + 1 + 1 + 1 + 1 + 1 + 1 + 1 + 1 + 1 + 1, 0, none⟩) 1 1, .string ⟨#[113]⟩, .int .i64 1, .int .i64 2, .slice (some ⟨w.heap.size + 1, 0, none⟩) 1 1, .slice none 0 0, .slice (some ⟨w.heap.size + 1 + 1 + 1 + 1 + 1 + 1 + 1 + 1 + 1 + 1, 0, none⟩) 1 1]) (ts := 9) (tg := 9) (tr := 40) (zs := (0, 0)) (zg := (0, 0)) (zr := (0, 0)) (ks := 4) (kg := 3) [⟨#[97]⟩, ⟨#[98]⟩, ⟨#[99]⟩, ⟨#[100]⟩] [⟨#[115]⟩, ⟨#[116]⟩, ⟨#[117]⟩] (.slice (some ⟨w.heap.size + 1 + 1 + 1 + 1 + 1 + 1 + 1, 0, none⟩) 2 2) [(⟨#[112]⟩, 0), (⟨#[113]⟩, 3)] ((⟨⟨#[114]⟩, 0, 2, [0], [(0, false)], [(0, false)]⟩, .slice (some ⟨w.heap.size, 0, none⟩) 1 1, .slice (some ⟨w.heap.size + 1 + 1 + 1 + 1 + 1 + 1 + 1 + 1, 0, none⟩) 1 1, .slice (some ⟨w.heap.size + 1 + 1 + 1 + 1 + 1 + 1 + 1 + 1 + 1 + 1 + 1, 0, none⟩) 1 1) : RtV) ((⟨⟨#[113]⟩, 1, 2, [1], [], [(1, false)]⟩, .slice (some ⟨w.heap.size + 1, 0, none⟩) 1 1, .slice none 0 0, .slice (some ⟨w.heap.size + 1 + 1 + 1 + 1 + 1 + 1 + 1 + 1 + 1 + 1, 0, none⟩) 1 1) : RtV) (by rw [hW]; repeat (first | (refine blk_new' ?_; simp; done) | refine blk_old ?_)) rfl (by rw [hW]; repeat (first | (refine blk_new' ?_; simp; done) | refine blk_old ?_)) rfl (by rw [hW]; repeat (first | (refine blk_new' ?_; simp; done) | refine blk_old ?_)) rfl (row_blk (cs := pC) (c := #[.string ⟨#[112]⟩, .int .i64 0, .string ⟨#[113]⟩, .int .i64 3]) (t := 35) (z := (0, 0)) (cap := 2) (fun _ => rfl) [(⟨#[112]⟩, 0), (⟨#[113]⟩, 3)] (by rw [hW]; repeat (first | (refine blk_new' ?_; simp; done) | refine blk_old ?_)) rfl) ⟨(row_blk (cs := iC) (c := #[.int .i64 0]) (t := 3) (z := (0, 0)) (cap := 1) (fun _ => rfl) [0] (by rw [hW]; repeat (first | (refine blk_new' ?_; simp; done) | refine blk_old ?_)) rfl), (row_blk (cs := nC) (c := #[.int .i64 0, .bool false]) (t := 37) (z := (0, 0)) (cap := 1) (fun _ => rfl) [(0, false)] (by rw [hW]; repeat (first | (refine blk_new' ?_; simp; done) | refine blk_old ?_)) rfl), (row_blk (cs := nC) (c := #[.int .i64 0, .bool false]) (t := 37) (z := (0, 0)) (cap := 1) (fun _ => rfl) [(0, false)] (by rw [hW]; repeat (first | (refine blk_new' ?_; simp; done) | refine blk_old ?_)) rfl)⟩ ⟨(row_blk (cs := iC) (c := #[.int .i64 1]) (t := 3) (z := (0, 0)) (cap := 1) (fun _ => rfl) [1] (by rw [hW]; repeat (first | (refine blk_new' ?_; simp; done) | refine blk_old ?_)) rfl), (rowAt.nil _ _ _), (row_blk (cs := nC) (c := #[.int .i64 1, .bool false]) (t := 37) (z := (0, 0)) (cap := 1) (fun _ => rfl) [(1, false)] (by rw [hW]; repeat (first | (refine blk_new' ?_; simp; done) | refine blk_old ?_)) rfl)⟩
  have I := is_few L ⟨by simp, fun x hx => (by
    rcases List.mem_cons.1 hx with rfl | hx
    · exact ⟨cap_of (by omega), by simp, by simp, by simp⟩
    · rw [List.mem_singleton.1 hx]
      exact ⟨cap_of (by omega), by simp, by simp, by simp⟩), cap_of (by simp), cap_of (by simp)⟩ false (by kernel_rfl)
  clear hW L
  refine I.mono ?_
  rintro e w1 ⟨rfl, hb1⟩
  go_wp2_with fail
  refine (known_any _).mono ?_
  rintro e w2 ⟨rfl, hb2⟩
  go_wp2
  go_ret
  exact ⟨rfl, HB.out.trans ((hb1.trans (hb2.mono hb1.size)).mono HB.out.size)⟩

set_option maxRecDepth 1000000 in
set_option maxHeartbeats 4000000 in
theorem pts3ft (w : World) : Calls Try.prog 4 #[.int .i64 3, .bool false, .bool true] w fun e w' => e = .returned (.bool true) ∧ Below w.heap.size w w' := by
  go_enter Try.func4, Try.ntmps4
  go_wp2_with (go_at_call 7; refine (two_at _ _ _ _ _ _ _).mono ?_; rintro e w' ⟨rfl, rfl⟩)
  refine with_world (fun W hW => ?_)
  have HB : Hid (Below w.heap.size w W) := by
    show Below _ _ _
    rw [hW]
    repeat' (with_reducible first | exact Below.refl _ _ | refine Below.alloc ?_ ?_ _ | exact Nat.le_refl _ | (simp; done) | (simp; omega))
  have L := lay_two (W := W) (bs := w.heap.size + 1 + 1 + 1) (bg := w.heap.size + 1 + 1 + 1 + 1) (br := w.heap.size + 1 + 1 + 1 + 1 + 1) (cs := #[.string ⟨#[97]⟩, .string ⟨#[98]⟩, .string ⟨#[99]⟩, .string ⟨#[100]⟩]) (cg := #[.string ⟨#[115]⟩, .string ⟨#[116]⟩, .string ⟨#[117]⟩]) (cr := #[.string ⟨#[114]⟩, .int .i64 0, .int .i64 2, .slice (some ⟨w.heap.size, 0, none⟩) 1 1, .slice (some ⟨w.heap.size + 1 + 1 + 1 + 1 + 1 + 1 + 1 + 1, 0, none⟩) 1 1, .slice (some ⟨w.heap.size + 1 + 1 + 1 + 1 + 1 + 1 + 1 + 1 + 1 + 1 + 1, 0, none⟩) 1 1, .string ⟨#[113]⟩, .int .i64 1, .int .i64 2, .slice (some ⟨w.heap.size + 1, 0, none⟩) 1 1, .slice none 0 0, .slice (some ⟨w.heap.size + 1 + 1 + 1 + 1 + 1 + 1 + 1 + 1 + 1 + 1, 0, none⟩) 1 1]) (ts := 9) (tg := 9) (tr := 40) (zs := (0, 0)) (zg := (0, 0)) (zr := (0, 0)) (ks := 4) (kg := 3) [⟨#[97]⟩, ⟨#[98]⟩, ⟨#[99]⟩, ⟨#[100]⟩] [⟨#[115]⟩, ⟨#[116]⟩, ⟨#[117]⟩] (.slice (some ⟨w.heap.size + 1 + 1 + 1 + 1 + 1 + 1 + 1, 0, none⟩) 2 2) [(⟨#[112]⟩, 0), (⟨#[113]⟩, 3)] ((⟨⟨#[114]⟩, 0, 2, [0], [(0, false)], [(0, false)]⟩, .slice (some ⟨w.heap.size, 0, none⟩) 1 1, .slice (some ⟨w.heap.size + 1 + 1 + 1 + 1 + 1 + 1 + 1 + 1, 0, none⟩) 1 1, .slice (some ⟨w.heap.size + 1 + 1 + 1 + 1 + 1 + 1 + 1 + 1 + 1 + 1 + 1, 0, none⟩) 1 1) : RtV) ((⟨⟨#[113]⟩, 1, 2, [1], [], [(1, true)]⟩, .slice (some ⟨w.heap.size + 1, 0, none⟩) 1 1, .slice none 0 0, .slice (some ⟨w.heap.size + 1 + 1 + 1 + 1 + 1 + 1 + 1 + 1 + 1 + 1, 0, none⟩) 1 1) : RtV) (by rw [hW]; repeat (first | (refine blk_new' ?_; simp; done) | refine blk_old ?_)) rfl (by rw [hW]; repeat (first | (refine blk_new' ?_; simp; done) | refine blk_old ?_)) rfl (by rw [hW]; repeat (first | (refine blk_new' ?_; simp; done) | refine blk_old ?_)) rfl (row_blk (cs := pC) (c := #[.string ⟨#[112]⟩, .int .i64 0, .string ⟨#[113]⟩, .int .i64 3]) (t := 35) (z := (0, 0)) (cap := 2) (fun _ => rfl) [(⟨#[112]⟩, 0), (⟨#[113]⟩, 3)] (by rw [hW]; repeat (first | (refine blk_new' ?_; simp; done) | refine blk_old ?_)) rfl) ⟨(row_blk (cs := iC) (c := #[.int .i64 0]) (t := 3) (z := (0, 0)) (cap := 1) (fun _ => rfl) [0] (by rw [hW]; repeat (first | (refine blk_new' ?_; simp; done) | refine blk_old ?_)) rfl), (row_blk (cs := nC) (c := #[.int .i64 0, .bool false]) (t := 37) (z := (0, 0)) (cap := 1) (fun _ => rfl) [(0, false)] (by rw [hW]; repeat (first | (refine blk_new' ?_; simp; done) | refine blk_old ?_)) rfl), (row_blk (cs := nC) (c := #[.int .i64 0, .bool false]) (t := 37) (z := (0, 0)) (cap := 1) (fun _ => rfl) [(0, false)] (by rw [hW]; repeat (first | (refine blk_new' ?_; simp; done) | refine blk_old ?_)) rfl)⟩ ⟨(row_blk (cs := iC) (c := #[.int .i64 1]) (t := 3) (z := (0, 0)) (cap := 1) (fun _ => rfl) [1] (by rw [hW]; repeat (first | (refine blk_new' ?_; simp; done) | refine blk_old ?_)) rfl), (rowAt.nil _ _ _), (row_blk (cs := nC) (c := #[.int .i64 1, .bool true]) (t := 37) (z := (0, 0)) (cap := 1) (fun _ => rfl) [(1, true)] (by rw [hW]; repeat (first | (refine blk_new' ?_; simp; done) | refine blk_old ?_)) rfl)⟩
  have I := is_few L ⟨by simp, fun x hx => (by
    rcases List.mem_cons.1 hx with rfl | hx
    · exact ⟨cap_of (by omega), by simp, by simp, by simp⟩
    · rw [List.mem_singleton.1 hx]
      exact ⟨cap_of (by omega), by simp, by simp, by simp⟩), cap_of (by simp), cap_of (by simp)⟩ false (by kernel_rfl)
  clear hW L
  refine I.mono ?_
  rintro e w1 ⟨rfl, hb1⟩
  go_wp2_with fail
  refine (known_any _).mono ?_
  rintro e w2 ⟨rfl, hb2⟩
  go_wp2
  go_ret
  exact ⟨rfl, HB.out.trans ((hb1.trans (hb2.mono hb1.size)).mono HB.out.size)⟩

set_option maxRecDepth 1000000 in
set_option maxHeartbeats 4000000 in
theorem pts3ff (w : World) : Calls Try.prog 4 #[.int .i64 3, .bool false, .bool false] w fun e w' => e = .returned (.bool true) ∧ Below w.heap.size w w' := by
  go_enter Try.func4, Try.ntmps4
  go_wp2_with (go_at_call 7; refine (two_at _ _ _ _ _ _ _).mono ?_; rintro e w' ⟨rfl, rfl⟩)
  refine with_world (fun W hW => ?_)
  have HB : Hid (Below w.heap.size w W) := by
    show Below _ _ _
    rw [hW]
    repeat' (with_reducible first | exact Below.refl _ _ | refine Below.alloc ?_ ?_ _ | exact Nat.le_refl _ | (simp; done) | (simp; omega))
  have L := lay_two (W := W) (bs := w.heap.size + 1 + 1 + 1) (bg := w.heap.size + 1 + 1 + 1 + 1) (br := w.heap.size + 1 + 1 + 1 + 1 + 1) (cs := #[.string ⟨#[97]⟩, .string ⟨#[98]⟩, .string ⟨#[99]⟩, .string ⟨#[100]⟩]) (cg := #[.string ⟨#[115]⟩, .string ⟨#[116]⟩, .string ⟨#[117]⟩]) (cr := #[.string ⟨#[114]⟩, .int .i64 0, .int .i64 2, .slice (some ⟨w.heap.size, 0, none⟩) 1 1, .slice (some ⟨w.heap.size + 1 + 1 + 1 + 1 + 1 + 1 + 1 + 1, 0, none⟩) 1 1, .slice (some ⟨w.heap.size + 1 + 1 + 1 + 1 + 1 + 1 + 1 + 1 + 1 + 1 + 1, 0, none⟩) 1 1, .string ⟨#[113]⟩, .int .i64 1, .int .i64 2, .slice (some ⟨w.heap.size + 1, 0, none⟩) 1 1, .slice none 0 0, .slice (some ⟨w.heap.size + 1 + 1 + 1 + 1 + 1 + 1 + 1 + 1 + 1 + 1, 0, none⟩) 1 1]) (ts := 9) (tg := 9) (tr := 40) (zs := (0, 0)) (zg := (0, 0)) (zr := (0, 0)) (ks := 4) (kg := 3) [⟨#[97]⟩, ⟨#[98]⟩, ⟨#[99]⟩, ⟨#[100]⟩] [⟨#[115]⟩, ⟨#[116]⟩, ⟨#[117]⟩] (.slice (some ⟨w.heap.size + 1 + 1 + 1 + 1 + 1 + 1 + 1, 0, none⟩) 2 2) [(⟨#[112]⟩, 0), (⟨#[113]⟩, 3)] ((⟨⟨#[114]⟩, 0, 2, [0], [(0, false)], [(0, false)]⟩, .slice (some ⟨w.heap.size, 0, none⟩) 1 1, .slice (some ⟨w.heap.size + 1 + 1 + 1 + 1 + 1 + 1 + 1 + 1, 0, none⟩) 1 1, .slice (some ⟨w.heap.size + 1 + 1 + 1 + 1 + 1 + 1 + 1 + 1 + 1 + 1 + 1, 0, none⟩) 1 1) : RtV) ((⟨⟨#[113]⟩, 1, 2, [1], [], [(1, false)]⟩, .slice (some ⟨w.heap.size + 1, 0, none⟩) 1 1, .slice none 0 0, .slice (some ⟨w.heap.size + 1 + 1 + 1 + 1 + 1 + 1 + 1 + 1 + 1 + 1, 0, none⟩) 1 1) : RtV) (by rw [hW]; repeat (first | (refine blk_new' ?_; simp; done) | refine blk_old ?_)) rfl (by rw [hW]; repeat (first | (refine blk_new' ?_; simp; done) | refine blk_old ?_)) rfl (by rw [hW]; repeat (first | (refine blk_new' ?_; simp; done) | refine blk_old ?_)) rfl (row_blk (cs := pC) (c := #[.string ⟨#[112]⟩, .int .i64 0, .string ⟨#[113]⟩, .int .i64 3]) (t := 35) (z := (0, 0)) (cap := 2) (fun _ => rfl) [(⟨#[112]⟩, 0), (⟨#[113]⟩, 3)] (by rw [hW]; repeat (first | (refine blk_new' ?_; simp; done) | refine blk_old ?_)) rfl) ⟨(row_blk (cs := iC) (c := #[.int .i64 0]) (t := 3) (z := (0, 0)) (cap := 1) (fun _ => rfl) [0] (by rw [hW]; repeat (first | (refine blk_new' ?_; simp; done) | refine blk_old ?_)) rfl), (row_blk (cs := nC) (c := #[.int .i64 0, .bool false]) (t := 37) (z := (0, 0)) (cap := 1) (fun _ => rfl) [(0, false)] (by rw [hW]; repeat (first | (refine blk_new' ?_; simp; done) | refine blk_old ?_)) rfl), (row_blk (cs := nC) (c := #[.int .i64 0, .bool false]) (t := 37) (z := (0, 0)) (cap := 1) (fun _ => rfl) [(0, false)] (by rw [hW]; repeat (first | (refine blk_new' ?_; simp; done) | refine blk_old ?_)) rfl)⟩ ⟨(row_blk (cs := iC) (c := #[.int .i64 1]) (t := 3) (z := (0, 0)) (cap := 1) (fun _ => rfl) [1] (by rw [hW]; repeat (first | (refine blk_new' ?_; simp; done) | refine blk_old ?_)) rfl), (rowAt.nil _ _ _), (row_blk (cs := nC) (c := #[.int .i64 1, .bool false]) (t := 37) (z := (0, 0)) (cap := 1) (fun _ => rfl) [(1, false)] (by rw [hW]; repeat (first | (refine blk_new' ?_; simp; done) | refine blk_old ?_)) rfl)⟩
  have I := is_few L ⟨by simp, fun x hx => (by
    rcases List.mem_cons.1 hx with rfl | hx
    · exact ⟨cap_of (by omega), by simp, by simp, by simp⟩
    · rw [List.mem_singleton.1 hx]
      exact ⟨cap_of (by omega), by simp, by simp, by simp⟩), cap_of (by simp), cap_of (by simp)⟩ false (by kernel_rfl)
  clear hW L
  refine I.mono ?_
  rintro e w1 ⟨rfl, hb1⟩
  go_wp2_with fail
  refine (known_any _).mono ?_
  rintro e w2 ⟨rfl, hb2⟩
  go_wp2
  go_ret
  exact ⟨rfl, HB.out.trans ((hb1.trans (hb2.mono hb1.size)).mono HB.out.size)⟩

set_option maxRecDepth 1000000 in
set_option maxHeartbeats 4000000 in
theorem pts4tt (w : World) : Calls Try.prog 4 #[.int .i64 4, .bool true, .bool true] w fun e w' => e = .returned (.bool true) ∧ Below w.heap.size w w' := by
  go_enter Try.func4, Try.ntmps4
  go_wp2_with (go_at_call 7; refine (two_at _ _ _ _ _ _ _).mono ?_; rintro e w' ⟨rfl, rfl⟩)
  refine with_world (fun W hW => ?_)
  have HB : Hid (Below w.heap.size w W) := by
    show Below _ _ _
    rw [hW]
    repeat' (with_reducible first | exact Below.refl _ _ | refine Below.alloc ?_ ?_ _ | exact Nat.le_refl _ | (simp; done) | (simp; omega))
  have L := lay_two (W := W) (bs := w.heap.size + 1 + 1 + 1) (bg := w.heap.size + 1 + 1 + 1 + 1) (br := w.heap.size + 1 + 1 + 1 + 1 + 1) (cs := #[.string ⟨#[97]⟩, .string ⟨#[98]⟩, .string ⟨#[99]⟩, .string ⟨#[100]⟩]) (cg := #[.string ⟨#[115]⟩, .string ⟨#[116]⟩, .string ⟨#[117]⟩]) (cr := #[.string ⟨#[114]⟩, .int .i64 0, .int .i64 2, .slice (some ⟨w.heap.size, 0, none⟩) 1 1, .slice (some ⟨w.heap.size + 1 + 1 + 1 + 1 + 1 + 1 + 1 + 1, 0, none⟩) 1 1, .slice (some ⟨w.heap.size + 1 + 1 + 1 + 1 + 1 + 1 + 1 + 1 + 1, 0, none⟩) 1 1, .string ⟨#[113]⟩, .int .i64 1, .int .i64 2, .slice (some ⟨w.heap.size + 1, 0, none⟩) 1 1, .slice none 0 0, .slice (some ⟨w.heap.size + 1 + 1 + 1 + 1 + 1 + 1 + 1 + 1 + 1 + 1 + 1, 0, none⟩) 2 2]) (ts := 9) (tg := 9) (tr := 40) (zs := (0, 0)) (zg := (0, 0)) (zr := (0, 0)) (ks := 4) (kg := 3) [⟨#[97]⟩, ⟨#[98]⟩, ⟨#[99]⟩, ⟨#[100]⟩] [⟨#[115]⟩, ⟨#[116]⟩, ⟨#[117]⟩] (.slice (some ⟨w.heap.size + 1 + 1 + 1 + 1 + 1 + 1 + 1, 0, none⟩) 2 2) [(⟨#[112]⟩, 0), (⟨#[113]⟩, 3)] ((⟨⟨#[114]⟩, 0, 2, [0], [(0, false)], [(1, true)]⟩, .slice (some ⟨w.heap.size, 0, none⟩) 1 1, .slice (some ⟨w.heap.size + 1 + 1 + 1 + 1 + 1 + 1 + 1 + 1, 0, none⟩) 1 1, .slice (some ⟨w.heap.size + 1 + 1 + 1 + 1 + 1 + 1 + 1 + 1 + 1, 0, none⟩) 1 1) : RtV) ((⟨⟨#[113]⟩, 1, 2, [1], [], [(1, false), (1, false)]⟩, .slice (some ⟨w.heap.size + 1, 0, none⟩) 1 1, .slice none 0 0, .slice (some ⟨w.heap.size + 1 + 1 + 1 + 1 + 1 + 1 + 1 + 1 + 1 + 1 + 1, 0, none⟩) 2 2) : RtV) (by rw [hW]; repeat (first | (refine blk_new' ?_; simp; done) | refine blk_old ?_)) rfl (by rw [hW]; repeat (first | (refine blk_new' ?_; simp; done) | refine blk_old ?_)) rfl (by rw [hW]; repeat (first | (refine blk_new' ?_; simp; done) | refine blk_old ?_)) rfl (row_blk (cs := pC) (c := #[.string ⟨#[112]⟩, .int .i64 0, .string ⟨#[113]⟩, .int .i64 3]) (t := 35) (z := (0, 0)) (cap := 2) (fun _ => rfl) [(⟨#[112]⟩, 0), (⟨#[113]⟩, 3)] (by rw [hW]; repeat (first | (refine blk_new' ?_; simp; done) | refine blk_old ?_)) rfl) ⟨(row_blk (cs := iC) (c := #[.int .i64 0]) (t := 3) (z := (0, 0)) (cap := 1) (fun _ => rfl) [0] (by rw [hW]; repeat (first | (refine blk_new' ?_; simp; done) | refine blk_old ?_)) rfl), (row_blk (cs := nC) (c := #[.int .i64 0, .bool false]) (t := 37) (z := (0, 0)) (cap := 1) (fun _ => rfl) [(0, false)] (by rw [hW]; repeat (first | (refine blk_new' ?_; simp; done) | refine blk_old ?_)) rfl), (row_blk (cs := nC) (c := #[.int .i64 1, .bool true]) (t := 37) (z := (0, 0)) (cap := 1) (fun _ => rfl) [(1, true)] (by rw [hW]; repeat (first | (refine blk_new' ?_; simp; done) | refine blk_old ?_)) rfl)⟩ ⟨(row_blk (cs := iC) (c := #[.int .i64 1]) (t := 3) (z := (0, 0)) (cap := 1) (fun _ => rfl) [1] (by rw [hW]; repeat (first | (refine blk_new' ?_; simp; done) | refine blk_old ?_)) rfl), (rowAt.nil _ _ _), (row_blk (cs := nC) (c := #[.int .i64 1, .bool false, .int .i64 1, .bool false]) (t := 37) (z := (0, 0)) (cap := 2) (fun _ => rfl) [(1, false), (1, false)] (by rw [hW]; repeat (first | (refine blk_new' ?_; simp; done) | refine blk_old ?_)) rfl)⟩
  have I := is_few L ⟨by simp, fun x hx => (by
    rcases List.mem_cons.1 hx with rfl | hx
    · exact ⟨cap_of (by omega), by simp, by simp, by simp⟩
    · rw [List.mem_singleton.1 hx]
      exact ⟨cap_of (by omega), by simp, by simp, by simp⟩), cap_of (by simp), cap_of (by simp)⟩ false (by kernel_rfl)
  clear hW L
  refine I.mono ?_
  rintro e w1 ⟨rfl, hb1⟩
  go_wp2_with fail
  refine (known_any _).mono ?_
  rintro e w2 ⟨rfl, hb2⟩
  go_wp2
  go_ret
  exact ⟨rfl, HB.out.trans ((hb1.trans (hb2.mono hb1.size)).mono HB.out.size)⟩

set_option maxRecDepth 1000000 in
set_option maxHeartbeats 4000000 in
theorem pts4tf (w : World) : Calls Try.prog 4 #[.int .i64 4, .bool true, .bool false] w fun e w' => e = .returned (.bool true) ∧ Below w.heap.size w w' := by
  go_enter Try.func4, Try.ntmps4
  go_wp2_with (go_at_call 7; refine (two_at _ _ _ _ _ _ _).mono ?_; rintro e w' ⟨rfl, rfl⟩)
  refine with_world (fun W hW => ?_)
  have HB : Hid (Below w.heap.size w W) := by
    show Below _ _ _
    rw [hW]
    repeat' (with_reducible first | exact Below.refl _ _ | refine Below.alloc ?_ ?_ _ | exact Nat.le_refl _ | (simp; done) | (simp; omega))
  have L := lay_two (W := W) (bs := w.heap.size + 1 + 1 + 1) (bg := w.heap.size + 1 + 1 + 1 + 1) (br := w.heap.size + 1 + 1 + 1 + 1 + 1) (cs := #[.string ⟨#[97]⟩, .string ⟨#[98]⟩, .string ⟨#[99]⟩, .string ⟨#[100]⟩]) (cg := #[.string ⟨#[115]⟩, .string ⟨#[116]⟩, .string ⟨#[117]⟩]) (cr := #[.string ⟨#[114]⟩, .int .i64 0, .int .i64 2, .slice (some ⟨w.heap.size, 0, none⟩) 1 1, .slice (some ⟨w.heap.size + 1 + 1 + 1 + 1 + 1 + 1 + 1 + 1, 0, none⟩) 1 1, .slice (some ⟨w.heap.size + 1 + 1 + 1 + 1 + 1 + 1 + 1 + 1 + 1, 0, none⟩) 1 1, .string ⟨#[113]⟩, .int .i64 1, .int .i64 2, .slice (some ⟨w.heap.size + 1, 0, none⟩) 1 1, .slice none 0 0, .slice (some ⟨w.heap.size + 1 + 1 + 1 + 1 + 1 + 1 + 1 + 1 + 1 + 1 + 1, 0, none⟩) 2 2]) (ts := 9) (tg := 9) (tr := 40) (zs := (0, 0)) (zg := (0, 0)) (zr := (0, 0)) (ks := 4) (kg := 3) [⟨#[97]⟩, ⟨#[98]⟩, ⟨#[99]⟩, ⟨#[100]⟩] [⟨#[115]⟩, ⟨#[116]⟩, ⟨#[117]⟩] (.slice (some ⟨w.heap.size + 1 + 1 + 1 + 1 + 1 + 1 + 1, 0, none⟩) 2 2) [(⟨#[112]⟩, 0), (⟨#[113]⟩, 3)] ((⟨⟨#[114]⟩, 0, 2, [0], [(0, false)], [(1, true)]⟩, .slice (some ⟨w.heap.size, 0, none⟩) 1 1, .slice (some ⟨w.heap.size + 1 + 1 + 1 + 1 + 1 + 1 + 1 + 1, 0, none⟩) 1 1, .slice (some ⟨w.heap.size + 1 + 1 + 1 + 1 + 1 + 1 + 1 + 1 + 1, 0, none⟩) 1 1) : RtV) ((⟨⟨#[113]⟩, 1, 2, [1], [], [(1, false), (1, false)]⟩, .slice (some ⟨w.heap.size + 1, 0, none⟩) 1 1, .slice none 0 0, .slice (some ⟨w.heap.size + 1 + 1 + 1 + 1 + 1 + 1 + 1 + 1 + 1 + 1 + 1, 0, none⟩) 2 2) : RtV) (by rw [hW]; repeat (first | (refine blk_new' ?_; simp; done) | refine blk_old ?_)) rfl (by rw [hW]; repeat (first | (refine blk_new' ?_; simp; done) | refine blk_old ?_)) rfl (by rw [hW]; repeat (first | (refine blk_new' ?_; simp; done) | refine blk_old ?_)) rfl (row_blk (cs := pC) (c := #[.string ⟨#[112]⟩, .int .i64 0, .string ⟨#[113]⟩, .int .i64 3]) (t := 35) (z := (0, 0)) (cap := 2) (fun _ => rfl) [(⟨#[112]⟩, 0), (⟨#[113]⟩, 3)] (by rw [hW]; repeat (first | (refine blk_new' ?_; simp; done) | refine blk_old ?_)) rfl) ⟨(row_blk (cs := iC) (c := #[.int .i64 0]) (t := 3) (z := (0, 0)) (cap := 1) (fun _ => rfl) [0] (by rw [hW]; repeat (first | (refine blk_new' ?_; simp; done) | refine blk_old ?_)) rfl), (row_blk (cs := nC) (c := #[.int .i64 0, .bool false]) (t := 37) (z := (0, 0)) (cap := 1) (fun _ => rfl) [(0, false)] (by rw [hW]; repeat (first | (refine blk_new' ?_; simp; done) | refine blk_old ?_)) rfl), (row_blk (cs := nC) (c := #[.int .i64 1, .bool true]) (t := 37) (z := (0, 0)) (cap := 1) (fun _ => rfl) [(1, true)] (by rw [hW]; repeat (first | (refine blk_new' ?_; simp; done) | refine blk_old ?_)) rfl)⟩ ⟨(row_blk (cs := iC) (c := #[.int .i64 1]) (t := 3) (z := (0, 0)) (cap := 1) (fun _ => rfl) [1] (by rw [hW]; repeat (first | (refine blk_new' ?_; simp; done) | refine blk_old ?_)) rfl), (rowAt.nil _ _ _), (row_blk (cs := nC) (c := #[.int .i64 1, .bool false, .int .i64 1, .bool false]) (t := 37) (z := (0, 0)) (cap := 2) (fun _ => rfl) [(1, false), (1, false)] (by rw [hW]; repeat (first | (refine blk_new' ?_; simp; done) | refine blk_old ?_)) rfl)⟩
  have I := is_few L ⟨by simp, fun x hx => (by
    rcases List.mem_cons.1 hx with rfl | hx
    · exact ⟨cap_of (by omega), by simp, by simp, by simp⟩
    · rw [List.mem_singleton.1 hx]
      exact ⟨cap_of (by omega), by simp, by simp, by simp⟩), cap_of (by simp), cap_of (by simp)⟩ false (by kernel_rfl)
  clear hW L
  refine I.mono ?_
  rintro e w1 ⟨rfl, hb1⟩
  go_wp2_with fail
  refine (known_any _).mono ?_
  rintro e w2 ⟨rfl, hb2⟩
  go_wp2
  go_ret
  exact ⟨rfl, HB.out.trans ((hb1.trans (hb2.mono hb1.size)).mono HB.out.size)⟩

set_option maxRecDepth 1000000 in
set_option maxHeartbeats 4000000 in
theorem pts4ft (w : World) : Calls Try.prog 4 #[.int .i64 4, .bool false, .bool true] w fun e w' => e = .returned (.bool true) ∧ Below w.heap.size w w' := by
  go_enter Try.func4, Try.ntmps4
  go_wp2_with (go_at_call 7; refine (two_at _ _ _ _ _ _ _).mono ?_; rintro e w' ⟨rfl, rfl⟩)
  refine with_world (fun W hW => ?_)
  have HB : Hid (Below w.heap.size w W) := by
    show Below _ _ _
    rw [hW]
    repeat' (with_reducible first | exact Below.refl _ _ | refine Below.alloc ?_ ?_ _ | exact Nat.le_refl _ | (simp; done) | (simp; omega))
  have L := lay_two (W := W) (bs := w.heap.size + 1 + 1 + 1) (bg := w.heap.size + 1 + 1 + 1 + 1) (br := w.heap.size + 1 + 1 + 1 + 1 + 1) (cs := #[.string ⟨#[97]⟩, .string ⟨#[98]⟩, .string ⟨#[99]⟩, .string ⟨#[100]⟩]) (cg := #[.string ⟨#[115]⟩, .string ⟨#[116]⟩, .string ⟨#[117]⟩]) (cr := #[.string ⟨#[114]⟩, .int .i64 0, .int .i64 2, .slice (some ⟨w.heap.size, 0, none⟩) 1 1, .slice (some ⟨w.heap.size + 1 + 1 + 1 + 1 + 1 + 1 + 1 + 1, 0, none⟩) 1 1, .slice (some ⟨w.heap.size + 1 + 1 + 1 + 1 + 1 + 1 + 1 + 1 + 1, 0, none⟩) 1 1, .string ⟨#[113]⟩, .int .i64 1, .int .i64 2, .slice (some ⟨w.heap.size + 1, 0, none⟩) 1 1, .slice none 0 0, .slice (some ⟨w.heap.size + 1 + 1 + 1 + 1 + 1 + 1 + 1 + 1 + 1 + 1 + 1, 0, none⟩) 2 2]) (ts := 9) (tg := 9) (tr := 40) (zs := (0, 0)) (zg := (0, 0)) (zr := (0, 0)) (ks := 4) (kg := 3) [⟨#[97]⟩, ⟨#[98]⟩, ⟨#[99]⟩, ⟨#[100]⟩] [⟨#[115]⟩, ⟨#[116]⟩, ⟨#[117]⟩] (.slice (some ⟨w.heap.size + 1 + 1 + 1 + 1 + 1 + 1 + 1, 0, none⟩) 2 2) [(⟨#[112]⟩, 0), (⟨#[113]⟩, 3)] ((⟨⟨#[114]⟩, 0, 2, [0], [(0, false)], [(1, false)]⟩, .slice (some ⟨w.heap.size, 0, none⟩) 1 1, .slice (some ⟨w.heap.size + 1 + 1 + 1 + 1 + 1 + 1 + 1 + 1, 0, none⟩) 1 1, .slice (some ⟨w.heap.size + 1 + 1 + 1 + 1 + 1 + 1 + 1 + 1 + 1, 0, none⟩) 1 1) : RtV) ((⟨⟨#[113]⟩, 1, 2, [1], [], [(1, false), (1, false)]⟩, .slice (some ⟨w.heap.size + 1, 0, none⟩) 1 1, .slice none 0 0, .slice (some ⟨w.heap.size + 1 + 1 + 1 + 1 + 1 + 1 + 1 + 1 + 1 + 1 + 1, 0, none⟩) 2 2) : RtV) (by rw [hW]; repeat (first | (refine blk_new' ?_; simp; done) | refine blk_old ?_)) rfl (by rw [hW]; repeat (first | (refine blk_new' ?_; simp; done) | refine blk_old ?_)) rfl (by rw [hW]; repeat (first | (refine blk_new' ?_; simp; done) | refine blk_old ?_)) rfl (row_blk (cs := pC) (c := #[.string ⟨#[112]⟩, .int .i64 0, .string ⟨#[113]⟩, .int .i64 3]) (t := 35) (z := (0, 0)) (cap := 2) (fun _ => rfl) [(⟨#[112]⟩, 0), (⟨#[113]⟩, 3)] (by rw [hW]; repeat (first | (refine blk_new' ?_; simp; done) | refine blk_old ?_)) rfl) ⟨(row_blk (cs := iC) (c := #[.int .i64 0]) (t := 3) (z := (0, 0)) (cap := 1) (fun _ => rfl) [0] (by rw [hW]; repeat (first | (refine blk_new' ?_; simp; done) | refine blk_old ?_)) rfl), (row_blk (cs := nC) (c := #[.int .i64 0, .bool false]) (t := 37) (z := (0, 0)) (cap := 1) (fun _ => rfl) [(0, false)] (by rw [hW]; repeat (first | (refine blk_new' ?_; simp; done) | refine blk_old ?_)) rfl), (row_blk (cs := nC) (c := #[.int .i64 1, .bool false]) (t := 37) (z := (0, 0)) (cap := 1) (fun _ => rfl) [(1, false)] (by rw [hW]; repeat (first | (refine blk_new' ?_; simp; done) | refine blk_old ?_)) rfl)⟩ ⟨(row_blk (cs := iC) (c := #[.int .i64 1]) (t := 3) (z := (0, 0)) (cap := 1) (fun _ => rfl) [1] (by rw [hW]; repeat (first | (refine blk_new' ?_; simp; done) | refine blk_old ?_)) rfl), (rowAt.nil _ _ _), (row_blk (cs := nC) (c := #[.int .i64 1, .bool false, .int .i64 1, .bool false]) (t := 37) (z := (0, 0)) (cap := 2) (fun _ => rfl) [(1, false), (1, false)] (by rw [hW]; repeat (first | (refine blk_new' ?_; simp; done) | refine blk_old ?_)) rfl)⟩
  have I := is_few L ⟨by simp, fun x hx => (by
    rcases List.mem_cons.1 hx with rfl | hx
    · exact ⟨cap_of (by omega), by simp, by simp, by simp⟩
    · rw [List.mem_singleton.1 hx]
      exact ⟨cap_of (by omega), by simp, by simp, by simp⟩), cap_of (by simp), cap_of (by simp)⟩ false (by kernel_rfl)
  clear hW L
  refine I.mono ?_
  rintro e w1 ⟨rfl, hb1⟩
  go_wp2_with fail
  refine (known_any _).mono ?_
  rintro e w2 ⟨rfl, hb2⟩
  go_wp2
  go_ret
  exact ⟨rfl, HB.out.trans ((hb1.trans (hb2.mono hb1.size)).mono HB.out.size)⟩

set_option maxRecDepth 1000000 in
set_option maxHeartbeats 4000000 in
theorem pts4ff (w : World) : Calls Try.prog 4 #[.int .i64 4, .bool false, .bool false] w fun e w' => e = .returned (.bool true) ∧ Below w.heap.size w w' := by
  go_enter Try.func4, Try.ntmps4
  go_wp2_with (go_at_call 7; refine (two_at _ _ _ _ _ _ _).mono ?_; rintro e w' ⟨rfl, rfl⟩)
  refine with_world (fun W hW => ?_)
  have HB : Hid (Below w.heap.size w W) := by
    show Below _ _ _
    rw [hW]
    repeat' (with_reducible first | exact Below.refl _ _ | refine Below.alloc ?_ ?_ _ | exact Nat.le_refl _ | (simp; done) | (simp; omega))
  have L := lay_two (W := W) (bs := w.heap.size + 1 + 1 + 1) (bg := w.heap.size + 1 + 1 + 1 + 1) (br := w.heap.size + 1 + 1 + 1 + 1 + 1) (cs := #[.string ⟨#[97]⟩, .string ⟨#[98]⟩, .string ⟨#[99]⟩, .string ⟨#[100]⟩]) (cg := #[.string ⟨#[115]⟩, .string ⟨#[116]⟩, .string ⟨#[117]⟩]) (cr := #[.string ⟨#[114]⟩, .int .i64 0, .int .i64 2, .slice (some ⟨w.heap.size, 0, none⟩) 1 1, .slice (some ⟨w.heap.size + 1 + 1 + 1 + 1 + 1 + 1 + 1 + 1, 0, none⟩) 1 1, .slice (some ⟨w.heap.size + 1 + 1 + 1 + 1 + 1 + 1 + 1 + 1 + 1, 0, none⟩) 1 1, .string ⟨#[113]⟩, .int .i64 1, .int .i64 2, .slice (some ⟨w.heap.size + 1, 0, none⟩) 1 1, .slice none 0 0, .slice (some ⟨w.heap.size + 1 + 1 + 1 + 1 + 1 + 1 + 1 + 1 + 1 + 1 + 1, 0, none⟩) 2 2]) (ts := 9) (tg := 9) (tr := 40) (zs := (0, 0)) (zg := (0, 0)) (zr := (0, 0)) (ks := 4) (kg := 3) [⟨#[97]⟩, ⟨#[98]⟩, ⟨#[99]⟩, ⟨#[100]⟩] [⟨#[115]⟩, ⟨#[116]⟩, ⟨#[117]⟩] (.slice (some ⟨w.heap.size + 1 + 1 + 1 + 1 + 1 + 1 + 1, 0, none⟩) 2 2) [(⟨#[112]⟩, 0), (⟨#[113]⟩, 3)] ((⟨⟨#[114]⟩, 0, 2, [0], [(0, false)], [(1, false)]⟩, .slice (some ⟨w.heap.size, 0, none⟩) 1 1, .slice (some ⟨w.heap.size + 1 + 1 + 1 + 1 + 1 + 1 + 1 + 1, 0, none⟩) 1 1, .slice (some ⟨w.heap.size + 1 + 1 + 1 + 1 + 1 + 1 + 1 + 1 + 1, 0, none⟩) 1 1) : RtV) ((⟨⟨#[113]⟩, 1, 2, [1], [], [(1, false), (1, false)]⟩, .slice (some ⟨w.heap.size + 1, 0, none⟩) 1 1, .slice none 0 0, .slice (some ⟨w.heap.size + 1 + 1 + 1 + 1 + 1 + 1 + 1 + 1 + 1 + 1 + 1, 0, none⟩) 2 2) : RtV) (by rw [hW]; repeat (first | (refine blk_new' ?_; simp; done) | refine blk_old ?_)) rfl (by rw [hW]; repeat (first | (refine blk_new' ?_; simp; done) | refine blk_old ?_)) rfl (by rw [hW]; repeat (first | (refine blk_new' ?_; simp; done) | refine blk_old ?_)) rfl (row_blk (cs := pC) (c := #[.string ⟨#[112]⟩, .int .i64 0, .string ⟨#[113]⟩, .int .i64 3]) (t := 35) (z := (0, 0)) (cap := 2) (fun _ => rfl) [(⟨#[112]⟩, 0), (⟨#[113]⟩, 3)] (by rw [hW]; repeat (first | (refine blk_new' ?_; simp; done) | refine blk_old ?_)) rfl) ⟨(row_blk (cs := iC) (c := #[.int .i64 0]) (t := 3) (z := (0, 0)) (cap := 1) (fun _ => rfl) [0] (by rw [hW]; repeat (first | (refine blk_new' ?_; simp; done) | refine blk_old ?_)) rfl), (row_blk (cs := nC) (c := #[.int .i64 0, .bool false]) (t := 37) (z := (0, 0)) (cap := 1) (fun _ => rfl) [(0, false)] (by rw [hW]; repeat (first | (refine blk_new' ?_; simp; done) | refine blk_old ?_)) rfl), (row_blk (cs := nC) (c := #[.int .i64 1, .bool false]) (t := 37) (z := (0, 0)) (cap := 1) (fun _ => rfl) [(1, false)] (by rw [hW]; repeat (first | (refine blk_new' ?_; simp; done) | refine blk_old ?_)) rfl)⟩ ⟨(row_blk (cs := iC) (c := #[.int .i64 1]) (t := 3) (z := (0, 0)) (cap := 1) (fun _ => rfl) [1] (by rw [hW]; repeat (first | (refine blk_new' ?_; simp; done) | refine blk_old ?_)) rfl), (rowAt.nil _ _ _), (row_blk (cs := nC) (c := #[.int .i64 1, .bool false, .int .i64 1, .bool false]) (t := 37) (z := (0, 0)) (cap := 2) (fun _ => rfl) [(1, false), (1, false)] (by rw [hW]; repeat (first | (refine blk_new' ?_; simp; done) | refine blk_old ?_)) rfl)⟩
  have I := is_few L ⟨by simp, fun x hx => (by
    rcases List.mem_cons.1 hx with rfl | hx
    · exact ⟨cap_of (by omega), by simp, by simp, by simp⟩
    · rw [List.mem_singleton.1 hx]
      exact ⟨cap_of (by omega), by simp, by simp, by simp⟩), cap_of (by simp), cap_of (by simp)⟩ false (by kernel_rfl)
  clear hW L
  refine I.mono ?_
  rintro e w1 ⟨rfl, hb1⟩
  go_wp2_with fail
  refine (known_any _).mono ?_
  rintro e w2 ⟨rfl, hb2⟩
  go_wp2
  go_ret
  exact ⟨rfl, HB.out.trans ((hb1.trans (hb2.mono hb1.size)).mono HB.out.size)⟩

theorem walk_out (k : Int) (a b : Bool) (w : World) (h : k < 0 ∨ 4 < k) : Calls Try.prog 4 #[.int .i64 k, .bool a, .bool b] w fun e w' => e = .returned (.bool true) ∧ Below w.heap.size w w' := by
  by_cases h1 : k < 0
  · go_enter Try.func4, Try.ntmps4
    go_wp2
    go_ret
    exact ⟨rfl, Below.refl _ _⟩
  · have h2 : 4 < k := by omega
    have h3 : decide (k < 0) = false := decide_eq_false h1
    go_enter Try.func4, Try.ntmps4
    go_wp2
    go_ret
    exact ⟨rfl, Below.refl _ _⟩

theorem walk (k : Int) (a b : Bool) (_ : (Lit.int .i64 k).wf = true) (w : World) : Calls Try.prog 4 #[.int .i64 k, .bool a, .bool b] w fun e w' => e = .returned (.bool true) ∧ Below w.heap.size w w' := by
  by_cases h : k < 0 ∨ 4 < k
  · exact walk_out k a b w h
  · rcases (show k = 0 ∨ k = 1 ∨ k = 2 ∨ k = 3 ∨ k = 4 by omega) with rfl | rfl | rfl | rfl | rfl
    · cases a <;> cases b
      · exact pts0ff w
      · exact pts0ft w
      · exact pts0tf w
      · exact pts0tt w
    · cases a <;> cases b
      · exact pts1ff w
      · exact pts1ft w
      · exact pts1tf w
      · exact pts1tt w
    · cases a <;> cases b
      · exact pts2ff w
      · exact pts2ft w
      · exact pts2tf w
      · exact pts2tt w
    · cases a <;> cases b
      · exact pts3ff w
      · exact pts3ft w
      · exact pts3tf w
      · exact pts3tt w
    · cases a <;> cases b
      · exact pts4ff w
      · exact pts4ft w
      · exact pts4tf w
      · exact pts4tt w

theorem own : ownKnob Try.prog.godebug = none := by kernel_rfl

set_option maxRecDepth 100000 in
theorem lifted (os : Os) (started : os.Started) (H : Type) (enc : TypeId × Value → H) :
    ReturnsInHanded {} Try.checked os 4 .any (Rows.tablePointsSpec.pre6 enc Try.prog Try.f4 Rows.tablePointsRow.domain false) (Rows.tablePointsSpec.post enc Try.prog Try.f4 false true false false) := by
  refine returnsInHanded_of_change (C := Try.checked) own started (by kernel_rfl) Try.func4
    (ChangeSpec.witness6 (enc := enc) (C := Try.checked) false ⟨#[], #[.int .i64 0, .bool false, .bool false], []⟩ 8 (by kernel_rfl) (by kernel_rfl) (by kernel_rfl) (by kernel_rfl)) ?_
  intro W base args ds gs before hval0 hW _ _
  have hval : ∀ (j : Nat) t v, Try.f4.params[j]? = some t → args[j]? = some v → Value.okWide Try.prog W .any base t v := hval0
  have hW' := hW
  obtain ⟨p, q, hA0, hV, rfl, _, _⟩ := hW
  have hA : DataW.TrodAll enc Try.prog W 0 (fun _ => true) true Try.f4.params.toList args.toList ds p := hA0
  rw [Try.params4] at hA hval
  obtain ⟨v0, vs0, d0, ds0, p0, q0, hargs, rfl, rfl, h0, r0⟩ := trodAll_cons hA
  obtain ⟨v1, vs1, d1, ds1, p1, q1, rfl, rfl, rfl, h1, r1⟩ := trodAll_cons r0
  obtain ⟨v2, vs2, d2, ds2, p2, q2, rfl, rfl, rfl, h2, r2⟩ := trodAll_cons r1
  obtain ⟨rfl, rfl, rfl⟩ := trodAll_nil r2
  obtain rfl : args = #[v0, v1, v2] := by cases args; simp_all
  obtain ⟨rfl, rfl⟩ := trodVars_none hV
  obtain ⟨a0, rfl, rfl, rfl, w0⟩ := open_int Try.underlying3 (hval 0 3 v0 rfl rfl) h0
  obtain ⟨a1, rfl, rfl, rfl⟩ := open_bool Try.underlying4 (hval 1 4 v1 rfl rfl) h1
  obtain ⟨a2, rfl, rfl, rfl⟩ := open_bool Try.underlying4 (hval 2 4 v2 rfl rfl) h2
  clear hA0 hval0
  refine (walk a0 a1 a2 w0 W).mono fun e W' ⟨he, bel⟩ => ?_
  subst he
  exact ⟨_, rfl, _, _, _, [], _, [], hW', trodAll_mk1 (shut_bool Try.underlying4 _), (trodAll_cons_mk (shut_int Try.underlying3 w0) (trodAll_cons_mk (shut_bool Try.underlying4 _) (trodAll_cons_mk (shut_bool Try.underlying4 _) trodAll_mk0))), rfl, bel.frame _, fun h => by cases h⟩

theorem over : Rows.tablePointsRow.holds Try.pinned (OpenSpec.ofChange Rows.tablePointsSpec) :=
  OpenClaim.holds_of_wide 4 Try.f4 rfl rfl rfl rfl rfl rfl rfl ⟨rfl, rfl, rfl, rfl, rfl⟩ rfl rfl rfl rfl rfl (by kernel_rfl) Try.func4 (by kernel_rfl)
    (of_decide_eq_true (by kernel_rfl)) (by unfold Func.isWrapper; first | (rw [if_pos (by decide +kernel)]; kernel_rfl) | (rw [if_neg (by decide +kernel)]; exact ⟨rfl, rfl⟩))
    (fun os started H enc _ => lifted os started H enc)


end Go.Proofs.Ytkeefaacaimicaa.tablePoints
namespace Go.Proofs.Ytkeefaacaimicaa
theorem tablePoints_holds : Rows.TablePointsSaid := tablePoints.over
#print axioms tablePoints_holds
end Go.Proofs.Ytkeefaacaimicaa
