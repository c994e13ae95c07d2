/-
  Of every number: TableOdd returns true. No condition.
-/
import Derived.Test.YtkeefaacaimicaaRows
import Derived.Test.YtkeefaacaimicaaTbTwo
import Derived.WalkKit
import Derived.ProofKit
import Derived.OpenShut
import Derived.ShutString
import Derived.ChangeOld
import Derived.Below
import Derived.SizedLaws
namespace Go.Proofs.Ytkeefaacaimicaa.tableOdd
open Go.ChangeShapes Go.WideShapes Go.ChangeAt Go.RowKit

set_option maxRecDepth 1000000 in
set_option maxHeartbeats 4000000 in
theorem odd0 (w : World) : Calls Try.prog 5 #[.int .i64 0] w fun e w' => e = .returned (.bool true) ∧ Below w.heap.size w w' := by
  go_enter Try.func5, Try.ntmps5
  go_wp2_with (go_at_call 7; refine (two_at _ _ _ _ _ _ _).mono ?_; rintro e w' ⟨rfl, rfl⟩)
  refine with_world (fun W hW => ?_)
  have HB : Hid (Below w.heap.size w W) := by
    show Below _ _ _
    rw [hW]
    repeat' (with_reducible first | exact Below.refl _ _ | refine Below.alloc ?_ ?_ _ | exact Nat.le_refl _ | (simp; done) | (simp; omega))
  have L := lay_two (W := W) (bs := w.heap.size + 1 + 1 + 1) (bg := w.heap.size + 1 + 1 + 1 + 1) (br := w.heap.size + 1 + 1 + 1 + 1 + 1) (cs := #[.string ⟨#[97]⟩, .string ⟨#[98]⟩, .string ⟨#[99]⟩, .string ⟨#[100]⟩]) (cg := #[.string ⟨#[115]⟩, .string ⟨#[116]⟩, .string ⟨#[117]⟩]) (cr := #[.string ⟨#[114]⟩, .int .i64 0, .int .i64 2, .slice (some ⟨w.heap.size, 0, none⟩) 2 2, .slice none 0 0, .slice none 0 0, .string ⟨#[113]⟩, .int .i64 1, .int .i64 2, .slice (some ⟨w.heap.size + 1, 0, none⟩) 1 1, .slice none 0 0, .slice none 0 0]) (ts := 9) (tg := 9) (tr := 40) (zs := (0, 0)) (zg := (0, 0)) (zr := (0, 0)) (ks := 4) (kg := 3) [⟨#[97]⟩, ⟨#[98]⟩, ⟨#[99]⟩, ⟨#[100]⟩] [⟨#[115]⟩, ⟨#[116]⟩, ⟨#[117]⟩] (.slice none 0 0) [] ((⟨⟨#[114]⟩, 0, 2, [0, 1], [], []⟩, .slice (some ⟨w.heap.size, 0, none⟩) 2 2, .slice none 0 0, .slice none 0 0) : RtV) ((⟨⟨#[113]⟩, 1, 2, [2], [], []⟩, .slice (some ⟨w.heap.size + 1, 0, none⟩) 1 1, .slice none 0 0, .slice none 0 0) : RtV) (by rw [hW]; repeat (first | (refine blk_new' ?_; simp; done) | refine blk_old ?_)) rfl (by rw [hW]; repeat (first | (refine blk_new' ?_; simp; done) | refine blk_old ?_)) rfl (by rw [hW]; repeat (first | (refine blk_new' ?_; simp; done) | refine blk_old ?_)) rfl (rowAt.nil _ _ _) ⟨(row_blk (cs := iC) (c := #[.int .i64 0, .int .i64 1]) (t := 3) (z := (0, 0)) (cap := 2) (fun _ => rfl) [0, 1] (by rw [hW]; repeat (first | (refine blk_new' ?_; simp; done) | refine blk_old ?_)) rfl), (rowAt.nil _ _ _), (rowAt.nil _ _ _)⟩ ⟨(row_blk (cs := iC) (c := #[.int .i64 2]) (t := 3) (z := (0, 0)) (cap := 1) (fun _ => rfl) [2] (by rw [hW]; repeat (first | (refine blk_new' ?_; simp; done) | refine blk_old ?_)) rfl), (rowAt.nil _ _ _), (rowAt.nil _ _ _)⟩
  have I := is_few L ⟨by simp, fun x hx => (by
    rcases List.mem_cons.1 hx with rfl | hx
    · exact ⟨cap_of (by omega), by simp, by simp, by simp⟩
    · rw [List.mem_singleton.1 hx]
      exact ⟨cap_of (by omega), by simp, by simp, by simp⟩), cap_of (by simp), cap_of (by simp)⟩ true (by kernel_rfl)
  clear hW L
  refine I.mono ?_
  rintro e w1 ⟨rfl, hb1⟩
  go_wp2_with fail
  refine (known_any _).mono ?_
  rintro e w2 ⟨rfl, hb2⟩
  go_wp2
  go_ret
  exact ⟨rfl, HB.out.trans ((hb1.trans (hb2.mono hb1.size)).mono HB.out.size)⟩

set_option maxRecDepth 1000000 in
set_option maxHeartbeats 4000000 in
theorem odd1 (w : World) : Calls Try.prog 5 #[.int .i64 1] w fun e w' => e = .returned (.bool true) ∧ Below w.heap.size w w' := by
  go_enter Try.func5, Try.ntmps5
  go_wp2_with (go_at_call 7; refine (two_at _ _ _ _ _ _ _).mono ?_; rintro e w' ⟨rfl, rfl⟩)
  refine with_world (fun W hW => ?_)
  have HB : Hid (Below w.heap.size w W) := by
    show Below _ _ _
    rw [hW]
    repeat' (with_reducible first | exact Below.refl _ _ | refine Below.alloc ?_ ?_ _ | exact Nat.le_refl _ | (simp; done) | (simp; omega))
  have L := lay_two (W := W) (bs := w.heap.size + 1 + 1 + 1) (bg := w.heap.size + 1 + 1 + 1 + 1) (br := w.heap.size + 1 + 1 + 1 + 1 + 1) (cs := #[.string ⟨#[97]⟩, .string ⟨#[97]⟩, .string ⟨#[99]⟩, .string ⟨#[100]⟩]) (cg := #[.string ⟨#[115]⟩, .string ⟨#[116]⟩, .string ⟨#[117]⟩]) (cr := #[.string ⟨#[114]⟩, .int .i64 0, .int .i64 2, .slice (some ⟨w.heap.size, 0, none⟩) 2 2, .slice none 0 0, .slice none 0 0, .string ⟨#[113]⟩, .int .i64 1, .int .i64 2, .slice (some ⟨w.heap.size + 1, 0, none⟩) 1 1, .slice none 0 0, .slice none 0 0]) (ts := 9) (tg := 9) (tr := 40) (zs := (0, 0)) (zg := (0, 0)) (zr := (0, 0)) (ks := 4) (kg := 3) [⟨#[97]⟩, ⟨#[97]⟩, ⟨#[99]⟩, ⟨#[100]⟩] [⟨#[115]⟩, ⟨#[116]⟩, ⟨#[117]⟩] (.slice none 0 0) [] ((⟨⟨#[114]⟩, 0, 2, [0, 1], [], []⟩, .slice (some ⟨w.heap.size, 0, none⟩) 2 2, .slice none 0 0, .slice none 0 0) : RtV) ((⟨⟨#[113]⟩, 1, 2, [2], [], []⟩, .slice (some ⟨w.heap.size + 1, 0, none⟩) 1 1, .slice none 0 0, .slice none 0 0) : RtV) (by rw [hW]; repeat (first | (refine blk_new' ?_; simp; done) | refine blk_old ?_)) rfl (by rw [hW]; repeat (first | (refine blk_new' ?_; simp; done) | refine blk_old ?_)) rfl (by rw [hW]; repeat (first | (refine blk_new' ?_; simp; done) | refine blk_old ?_)) rfl (rowAt.nil _ _ _) ⟨(row_blk (cs := iC) (c := #[.int .i64 0, .int .i64 1]) (t := 3) (z := (0, 0)) (cap := 2) (fun _ => rfl) [0, 1] (by rw [hW]; repeat (first | (refine blk_new' ?_; simp; done) | refine blk_old ?_)) rfl), (rowAt.nil _ _ _), (rowAt.nil _ _ _)⟩ ⟨(row_blk (cs := iC) (c := #[.int .i64 2]) (t := 3) (z := (0, 0)) (cap := 1) (fun _ => rfl) [2] (by rw [hW]; repeat (first | (refine blk_new' ?_; simp; done) | refine blk_old ?_)) rfl), (rowAt.nil _ _ _), (rowAt.nil _ _ _)⟩
  have I := is_few L ⟨by simp, fun x hx => (by
    rcases List.mem_cons.1 hx with rfl | hx
    · exact ⟨cap_of (by omega), by simp, by simp, by simp⟩
    · rw [List.mem_singleton.1 hx]
      exact ⟨cap_of (by omega), by simp, by simp, by simp⟩), cap_of (by simp), cap_of (by simp)⟩ false (by kernel_rfl)
  clear hW L
  refine I.mono ?_
  rintro e w1 ⟨rfl, hb1⟩
  go_wp2_with fail
  refine (known_any _).mono ?_
  rintro e w2 ⟨rfl, hb2⟩
  go_wp2
  go_ret
  exact ⟨rfl, HB.out.trans ((hb1.trans (hb2.mono hb1.size)).mono HB.out.size)⟩

set_option maxRecDepth 1000000 in
set_option maxHeartbeats 4000000 in
theorem odd2 (w : World) : Calls Try.prog 5 #[.int .i64 2] w fun e w' => e = .returned (.bool true) ∧ Below w.heap.size w w' := by
  go_enter Try.func5, Try.ntmps5
  go_wp2_with (go_at_call 7; refine (two_at _ _ _ _ _ _ _).mono ?_; rintro e w' ⟨rfl, rfl⟩)
  refine with_world (fun W hW => ?_)
  have HB : Hid (Below w.heap.size w W) := by
    show Below _ _ _
    rw [hW]
    repeat' (with_reducible first | exact Below.refl _ _ | refine Below.alloc ?_ ?_ _ | exact Nat.le_refl _ | (simp; done) | (simp; omega))
  have L := lay_two (W := W) (bs := w.heap.size + 1 + 1 + 1) (bg := w.heap.size + 1 + 1 + 1 + 1) (br := w.heap.size + 1 + 1 + 1 + 1 + 1) (cs := #[.string ⟨#[97]⟩, .string ⟨#[98]⟩, .string ⟨#[99]⟩, .string ⟨#[100]⟩]) (cg := #[.string ⟨#[115, 101, 116]⟩, .string ⟨#[116]⟩, .string ⟨#[117]⟩]) (cr := #[.string ⟨#[114]⟩, .int .i64 0, .int .i64 2, .slice (some ⟨w.heap.size, 0, none⟩) 2 2, .slice none 0 0, .slice none 0 0, .string ⟨#[113]⟩, .int .i64 1, .int .i64 2, .slice (some ⟨w.heap.size + 1, 0, none⟩) 1 1, .slice none 0 0, .slice none 0 0]) (ts := 9) (tg := 9) (tr := 40) (zs := (0, 0)) (zg := (0, 0)) (zr := (0, 0)) (ks := 4) (kg := 3) [⟨#[97]⟩, ⟨#[98]⟩, ⟨#[99]⟩, ⟨#[100]⟩] [⟨#[115, 101, 116]⟩, ⟨#[116]⟩, ⟨#[117]⟩] (.slice none 0 0) [] ((⟨⟨#[114]⟩, 0, 2, [0, 1], [], []⟩, .slice (some ⟨w.heap.size, 0, none⟩) 2 2, .slice none 0 0, .slice none 0 0) : RtV) ((⟨⟨#[113]⟩, 1, 2, [2], [], []⟩, .slice (some ⟨w.heap.size + 1, 0, none⟩) 1 1, .slice none 0 0, .slice none 0 0) : RtV) (by rw [hW]; repeat (first | (refine blk_new' ?_; simp; done) | refine blk_old ?_)) rfl (by rw [hW]; repeat (first | (refine blk_new' ?_; simp; done) | refine blk_old ?_)) rfl (by rw [hW]; repeat (first | (refine blk_new' ?_; simp; done) | refine blk_old ?_)) rfl (rowAt.nil _ _ _) ⟨(row_blk (cs := iC) (c := #[.int .i64 0, .int .i64 1]) (t := 3) (z := (0, 0)) (cap := 2) (fun _ => rfl) [0, 1] (by rw [hW]; repeat (first | (refine blk_new' ?_; simp; done) | refine blk_old ?_)) rfl), (rowAt.nil _ _ _), (rowAt.nil _ _ _)⟩ ⟨(row_blk (cs := iC) (c := #[.int .i64 2]) (t := 3) (z := (0, 0)) (cap := 1) (fun _ => rfl) [2] (by rw [hW]; repeat (first | (refine blk_new' ?_; simp; done) | refine blk_old ?_)) rfl), (rowAt.nil _ _ _), (rowAt.nil _ _ _)⟩
  have I := is_few L ⟨by simp, fun x hx => (by
    rcases List.mem_cons.1 hx with rfl | hx
    · exact ⟨cap_of (by omega), by simp, by simp, by simp⟩
    · rw [List.mem_singleton.1 hx]
      exact ⟨cap_of (by omega), by simp, by simp, by simp⟩), cap_of (by simp), cap_of (by simp)⟩ false (by kernel_rfl)
  clear hW L
  refine I.mono ?_
  rintro e w1 ⟨rfl, hb1⟩
  go_wp2_with fail
  refine (known_any _).mono ?_
  rintro e w2 ⟨rfl, hb2⟩
  go_wp2
  go_ret
  exact ⟨rfl, HB.out.trans ((hb1.trans (hb2.mono hb1.size)).mono HB.out.size)⟩

set_option maxRecDepth 1000000 in
set_option maxHeartbeats 4000000 in
theorem odd3 (w : World) : Calls Try.prog 5 #[.int .i64 3] w fun e w' => e = .returned (.bool true) ∧ Below w.heap.size w w' := by
  go_enter Try.func5, Try.ntmps5
  go_wp2_with (go_at_call 7; refine (two_at _ _ _ _ _ _ _).mono ?_; rintro e w' ⟨rfl, rfl⟩)
  refine with_world (fun W hW => ?_)
  have HB : Hid (Below w.heap.size w W) := by
    show Below _ _ _
    rw [hW]
    repeat' (with_reducible first | exact Below.refl _ _ | refine Below.alloc ?_ ?_ _ | exact Nat.le_refl _ | (simp; done) | (simp; omega))
  have L := lay_two (W := W) (bs := w.heap.size + 1 + 1 + 1) (bg := w.heap.size + 1 + 1 + 1 + 1) (br := w.heap.size + 1 + 1 + 1 + 1 + 1) (cs := #[.string ⟨#[97]⟩, .string ⟨#[98]⟩, .string ⟨#[99]⟩, .string ⟨#[100]⟩]) (cg := #[.string ⟨#[115]⟩, .string ⟨#[116]⟩, .string ⟨#[117]⟩]) (cr := #[.string ⟨#[114]⟩, .int .i64 0, .int .i64 0, .slice (some ⟨w.heap.size, 0, none⟩) 2 2, .slice none 0 0, .slice none 0 0, .string ⟨#[113]⟩, .int .i64 1, .int .i64 2, .slice (some ⟨w.heap.size + 1, 0, none⟩) 1 1, .slice none 0 0, .slice none 0 0]) (ts := 9) (tg := 9) (tr := 40) (zs := (0, 0)) (zg := (0, 0)) (zr := (0, 0)) (ks := 4) (kg := 3) [⟨#[97]⟩, ⟨#[98]⟩, ⟨#[99]⟩, ⟨#[100]⟩] [⟨#[115]⟩, ⟨#[116]⟩, ⟨#[117]⟩] (.slice none 0 0) [] ((⟨⟨#[114]⟩, 0, 0, [0, 1], [], []⟩, .slice (some ⟨w.heap.size, 0, none⟩) 2 2, .slice none 0 0, .slice none 0 0) : RtV) ((⟨⟨#[113]⟩, 1, 2, [2], [], []⟩, .slice (some ⟨w.heap.size + 1, 0, none⟩) 1 1, .slice none 0 0, .slice none 0 0) : RtV) (by rw [hW]; repeat (first | (refine blk_new' ?_; simp; done) | refine blk_old ?_)) rfl (by rw [hW]; repeat (first | (refine blk_new' ?_; simp; done) | refine blk_old ?_)) rfl (by rw [hW]; repeat (first | (refine blk_new' ?_; simp; done) | refine blk_old ?_)) rfl (rowAt.nil _ _ _) ⟨(row_blk (cs := iC) (c := #[.int .i64 0, .int .i64 1]) (t := 3) (z := (0, 0)) (cap := 2) (fun _ => rfl) [0, 1] (by rw [hW]; repeat (first | (refine blk_new' ?_; simp; done) | refine blk_old ?_)) rfl), (rowAt.nil _ _ _), (rowAt.nil _ _ _)⟩ ⟨(row_blk (cs := iC) (c := #[.int .i64 2]) (t := 3) (z := (0, 0)) (cap := 1) (fun _ => rfl) [2] (by rw [hW]; repeat (first | (refine blk_new' ?_; simp; done) | refine blk_old ?_)) rfl), (rowAt.nil _ _ _), (rowAt.nil _ _ _)⟩
  have I := is_few L ⟨by simp, fun x hx => (by
    rcases List.mem_cons.1 hx with rfl | hx
    · exact ⟨cap_of (by omega), by simp, by simp, by simp⟩
    · rw [List.mem_singleton.1 hx]
      exact ⟨cap_of (by omega), by simp, by simp, by simp⟩), cap_of (by simp), cap_of (by simp)⟩ false (by kernel_rfl)
  clear hW L
  refine I.mono ?_
  rintro e w1 ⟨rfl, hb1⟩
  go_wp2_with fail
  refine (known_any _).mono ?_
  rintro e w2 ⟨rfl, hb2⟩
  go_wp2
  go_ret
  exact ⟨rfl, HB.out.trans ((hb1.trans (hb2.mono hb1.size)).mono HB.out.size)⟩

set_option maxRecDepth 1000000 in
set_option maxHeartbeats 4000000 in
theorem odd4 (w : World) : Calls Try.prog 5 #[.int .i64 4] w fun e w' => e = .returned (.bool true) ∧ Below w.heap.size w w' := by
  go_enter Try.func5, Try.ntmps5
  go_wp2_with (go_at_call 7; refine (two_at _ _ _ _ _ _ _).mono ?_; rintro e w' ⟨rfl, rfl⟩)
  refine with_world (fun W hW => ?_)
  have HB : Hid (Below w.heap.size w W) := by
    show Below _ _ _
    rw [hW]
    repeat' (with_reducible first | exact Below.refl _ _ | refine Below.alloc ?_ ?_ _ | exact Nat.le_refl _ | (simp; done) | (simp; omega))
  have L := lay_two (W := W) (bs := w.heap.size + 1 + 1 + 1) (bg := w.heap.size + 1 + 1 + 1 + 1) (br := w.heap.size + 1 + 1 + 1 + 1 + 1) (cs := #[.string ⟨#[97]⟩, .string ⟨#[98]⟩, .string ⟨#[99]⟩, .string ⟨#[100]⟩]) (cg := #[.string ⟨#[115]⟩, .string ⟨#[116]⟩, .string ⟨#[117]⟩]) (cr := #[.string ⟨#[114]⟩, .int .i64 0, .int .i64 2, .slice (some ⟨w.heap.size + 1 + 1 + 1 + 1 + 1 + 1 + 1, 0, none⟩) 2 2, .slice none 0 0, .slice none 0 0, .string ⟨#[113]⟩, .int .i64 1, .int .i64 2, .slice (some ⟨w.heap.size + 1, 0, none⟩) 1 1, .slice none 0 0, .slice none 0 0]) (ts := 9) (tg := 9) (tr := 40) (zs := (0, 0)) (zg := (0, 0)) (zr := (0, 0)) (ks := 4) (kg := 3) [⟨#[97]⟩, ⟨#[98]⟩, ⟨#[99]⟩, ⟨#[100]⟩] [⟨#[115]⟩, ⟨#[116]⟩, ⟨#[117]⟩] (.slice none 0 0) [] ((⟨⟨#[114]⟩, 0, 2, [1, 1], [], []⟩, .slice (some ⟨w.heap.size + 1 + 1 + 1 + 1 + 1 + 1 + 1, 0, none⟩) 2 2, .slice none 0 0, .slice none 0 0) : RtV) ((⟨⟨#[113]⟩, 1, 2, [2], [], []⟩, .slice (some ⟨w.heap.size + 1, 0, none⟩) 1 1, .slice none 0 0, .slice none 0 0) : RtV) (by rw [hW]; repeat (first | (refine blk_new' ?_; simp; done) | refine blk_old ?_)) rfl (by rw [hW]; repeat (first | (refine blk_new' ?_; simp; done) | refine blk_old ?_)) rfl (by rw [hW]; repeat (first | (refine blk_new' ?_; simp; done) | refine blk_old ?_)) rfl (rowAt.nil _ _ _) ⟨(row_blk (cs := iC) (c := #[.int .i64 1, .int .i64 1]) (t := 3) (z := (0, 0)) (cap := 2) (fun _ => rfl) [1, 1] (by rw [hW]; repeat (first | (refine blk_new' ?_; simp; done) | refine blk_old ?_)) rfl), (rowAt.nil _ _ _), (rowAt.nil _ _ _)⟩ ⟨(row_blk (cs := iC) (c := #[.int .i64 2]) (t := 3) (z := (0, 0)) (cap := 1) (fun _ => rfl) [2] (by rw [hW]; repeat (first | (refine blk_new' ?_; simp; done) | refine blk_old ?_)) rfl), (rowAt.nil _ _ _), (rowAt.nil _ _ _)⟩
  have I := is_few L ⟨by simp, fun x hx => (by
    rcases List.mem_cons.1 hx with rfl | hx
    · exact ⟨cap_of (by omega), by simp, by simp, by simp⟩
    · rw [List.mem_singleton.1 hx]
      exact ⟨cap_of (by omega), by simp, by simp, by simp⟩), cap_of (by simp), cap_of (by simp)⟩ false (by kernel_rfl)
  clear hW L
  refine I.mono ?_
  rintro e w1 ⟨rfl, hb1⟩
  go_wp2_with fail
  refine (known_any _).mono ?_
  rintro e w2 ⟨rfl, hb2⟩
  go_wp2
  go_ret
  exact ⟨rfl, HB.out.trans ((hb1.trans (hb2.mono hb1.size)).mono HB.out.size)⟩

set_option maxRecDepth 1000000 in
set_option maxHeartbeats 4000000 in
theorem odd5 (w : World) : Calls Try.prog 5 #[.int .i64 5] w fun e w' => e = .returned (.bool true) ∧ Below w.heap.size w w' := by
  go_enter Try.func5, Try.ntmps5
  go_wp2_with (go_at_call 7; refine (two_at _ _ _ _ _ _ _).mono ?_; rintro e w' ⟨rfl, rfl⟩)
  refine with_world (fun W hW => ?_)
  have HB : Hid (Below w.heap.size w W) := by
    show Below _ _ _
    rw [hW]
    repeat' (with_reducible first | exact Below.refl _ _ | refine Below.alloc ?_ ?_ _ | exact Nat.le_refl _ | (simp; done) | (simp; omega))
  have L := lay_two (W := W) (bs := w.heap.size + 1 + 1 + 1) (bg := w.heap.size + 1 + 1 + 1 + 1) (br := w.heap.size + 1 + 1 + 1 + 1 + 1) (cs := #[.string ⟨#[97]⟩, .string ⟨#[98]⟩, .string ⟨#[99]⟩, .string ⟨#[100]⟩]) (cg := #[.string ⟨#[115]⟩, .string ⟨#[116]⟩, .string ⟨#[117]⟩]) (cr := #[.string ⟨#[114]⟩, .int .i64 0, .int .i64 2, .slice none 0 0, .slice none 0 0, .slice none 0 0, .string ⟨#[113]⟩, .int .i64 1, .int .i64 2, .slice (some ⟨w.heap.size + 1, 0, none⟩) 1 1, .slice none 0 0, .slice none 0 0]) (ts := 9) (tg := 9) (tr := 40) (zs := (0, 0)) (zg := (0, 0)) (zr := (0, 0)) (ks := 4) (kg := 3) [⟨#[97]⟩, ⟨#[98]⟩, ⟨#[99]⟩, ⟨#[100]⟩] [⟨#[115]⟩, ⟨#[116]⟩, ⟨#[117]⟩] (.slice none 0 0) [] ((⟨⟨#[114]⟩, 0, 2, [], [], []⟩, .slice none 0 0, .slice none 0 0, .slice none 0 0) : RtV) ((⟨⟨#[113]⟩, 1, 2, [2], [], []⟩, .slice (some ⟨w.heap.size + 1, 0, none⟩) 1 1, .slice none 0 0, .slice none 0 0) : RtV) (by rw [hW]; repeat (first | (refine blk_new' ?_; simp; done) | refine blk_old ?_)) rfl (by rw [hW]; repeat (first | (refine blk_new' ?_; simp; done) | refine blk_old ?_)) rfl (by rw [hW]; repeat (first | (refine blk_new' ?_; simp; done) | refine blk_old ?_)) rfl (rowAt.nil _ _ _) ⟨(rowAt.nil _ _ _), (rowAt.nil _ _ _), (rowAt.nil _ _ _)⟩ ⟨(row_blk (cs := iC) (c := #[.int .i64 2]) (t := 3) (z := (0, 0)) (cap := 1) (fun _ => rfl) [2] (by rw [hW]; repeat (first | (refine blk_new' ?_; simp; done) | refine blk_old ?_)) rfl), (rowAt.nil _ _ _), (rowAt.nil _ _ _)⟩
  have I := is_few L ⟨by simp, fun x hx => (by
    rcases List.mem_cons.1 hx with rfl | hx
    · exact ⟨cap_of (by omega), by simp, by simp, by simp⟩
    · rw [List.mem_singleton.1 hx]
      exact ⟨cap_of (by omega), by simp, by simp, by simp⟩), cap_of (by simp), cap_of (by simp)⟩ false (by kernel_rfl)
  clear hW L
  refine I.mono ?_
  rintro e w1 ⟨rfl, hb1⟩
  go_wp2_with fail
  refine (known_any _).mono ?_
  rintro e w2 ⟨rfl, hb2⟩
  go_wp2
  go_ret
  exact ⟨rfl, HB.out.trans ((hb1.trans (hb2.mono hb1.size)).mono HB.out.size)⟩

set_option maxRecDepth 1000000 in
set_option maxHeartbeats 4000000 in
theorem odd6 (w : World) : Calls Try.prog 5 #[.int .i64 6] w fun e w' => e = .returned (.bool true) ∧ Below w.heap.size w w' := by
  go_enter Try.func5, Try.ntmps5
  go_wp2_with (go_at_call 7; refine (two_at _ _ _ _ _ _ _).mono ?_; rintro e w' ⟨rfl, rfl⟩)
  refine with_world (fun W hW => ?_)
  have HB : Hid (Below w.heap.size w W) := by
    show Below _ _ _
    rw [hW]
    repeat' (with_reducible first | exact Below.refl _ _ | refine Below.alloc ?_ ?_ _ | exact Nat.le_refl _ | (simp; done) | (simp; omega))
  have L := lay_two (W := W) (bs := w.heap.size + 1 + 1 + 1) (bg := w.heap.size + 1 + 1 + 1 + 1) (br := w.heap.size + 1 + 1 + 1 + 1 + 1) (cs := #[.string ⟨#[97]⟩, .string ⟨#[98]⟩, .string ⟨#[99]⟩, .string ⟨#[100]⟩]) (cg := #[.string ⟨#[115]⟩, .string ⟨#[116]⟩, .string ⟨#[117]⟩]) (cr := #[.string ⟨#[114]⟩, .int .i64 0, .int .i64 2, .slice (some ⟨w.heap.size, 0, none⟩) 2 2, .slice none 0 0, .slice none 0 0, .string ⟨#[113]⟩, .int .i64 1, .int .i64 2, .slice (some ⟨w.heap.size + 1 + 1 + 1 + 1 + 1 + 1 + 1, 0, none⟩) 1 1, .slice none 0 0, .slice none 0 0]) (ts := 9) (tg := 9) (tr := 40) (zs := (0, 0)) (zg := (0, 0)) (zr := (0, 0)) (ks := 4) (kg := 3) [⟨#[97]⟩, ⟨#[98]⟩, ⟨#[99]⟩, ⟨#[100]⟩] [⟨#[115]⟩, ⟨#[116]⟩, ⟨#[117]⟩] (.slice none 0 0) [] ((⟨⟨#[114]⟩, 0, 2, [0, 1], [], []⟩, .slice (some ⟨w.heap.size, 0, none⟩) 2 2, .slice none 0 0, .slice none 0 0) : RtV) ((⟨⟨#[113]⟩, 1, 2, [4], [], []⟩, .slice (some ⟨w.heap.size + 1 + 1 + 1 + 1 + 1 + 1 + 1, 0, none⟩) 1 1, .slice none 0 0, .slice none 0 0) : RtV) (by rw [hW]; repeat (first | (refine blk_new' ?_; simp; done) | refine blk_old ?_)) rfl (by rw [hW]; repeat (first | (refine blk_new' ?_; simp; done) | refine blk_old ?_)) rfl (by rw [hW]; repeat (first | (refine blk_new' ?_; simp; done) | refine blk_old ?_)) rfl (rowAt.nil _ _ _) ⟨(row_blk (cs := iC) (c := #[.int .i64 0, .int .i64 1]) (t := 3) (z := (0, 0)) (cap := 2) (fun _ => rfl) [0, 1] (by rw [hW]; repeat (first | (refine blk_new' ?_; simp; done) | refine blk_old ?_)) rfl), (rowAt.nil _ _ _), (rowAt.nil _ _ _)⟩ ⟨(row_blk (cs := iC) (c := #[.int .i64 4]) (t := 3) (z := (0, 0)) (cap := 1) (fun _ => rfl) [4] (by rw [hW]; repeat (first | (refine blk_new' ?_; simp; done) | refine blk_old ?_)) rfl), (rowAt.nil _ _ _), (rowAt.nil _ _ _)⟩
  have I := is_few L ⟨by simp, fun x hx => (by
    rcases List.mem_cons.1 hx with rfl | hx
    · exact ⟨cap_of (by omega), by simp, by simp, by simp⟩
    · rw [List.mem_singleton.1 hx]
      exact ⟨cap_of (by omega), by simp, by simp, by simp⟩), cap_of (by simp), cap_of (by simp)⟩ false (by kernel_rfl)
  clear hW L
  refine I.mono ?_
  rintro e w1 ⟨rfl, hb1⟩
  go_wp2_with fail
  refine (known_any _).mono ?_
  rintro e w2 ⟨rfl, hb2⟩
  go_wp2
  go_ret
  exact ⟨rfl, HB.out.trans ((hb1.trans (hb2.mono hb1.size)).mono HB.out.size)⟩

set_option maxRecDepth 1000000 in
set_option maxHeartbeats 4000000 in
theorem odd7 (w : World) : Calls Try.prog 5 #[.int .i64 7] w fun e w' => e = .returned (.bool true) ∧ Below w.heap.size w w' := by
  go_enter Try.func5, Try.ntmps5
  go_wp2_with (go_at_call 7; refine (two_at _ _ _ _ _ _ _).mono ?_; rintro e w' ⟨rfl, rfl⟩)
  refine with_world (fun W hW => ?_)
  have HB : Hid (Below w.heap.size w W) := by
    show Below _ _ _
    rw [hW]
    repeat' (with_reducible first | exact Below.refl _ _ | refine Below.alloc ?_ ?_ _ | exact Nat.le_refl _ | (simp; done) | (simp; omega))
  have L := lay_two (W := W) (bs := w.heap.size + 1 + 1 + 1) (bg := w.heap.size + 1 + 1 + 1 + 1) (br := w.heap.size + 1 + 1 + 1 + 1 + 1) (cs := #[.string ⟨#[97]⟩, .string ⟨#[98]⟩, .string ⟨#[99]⟩, .string ⟨#[100]⟩]) (cg := #[.string ⟨#[115]⟩, .string ⟨#[116]⟩, .string ⟨#[117]⟩]) (cr := #[.string ⟨#[114]⟩, .int .i64 0, .int .i64 2, .slice (some ⟨w.heap.size, 0, none⟩) 2 2, .slice none 0 0, .slice none 0 0, .string ⟨#[113]⟩, .int .i64 1, .int .i64 2, .slice (some ⟨w.heap.size + 1, 0, none⟩) 1 1, .slice none 0 0, .slice none 0 0]) (ts := 9) (tg := 9) (tr := 40) (zs := (0, 0)) (zg := (0, 0)) (zr := (0, 0)) (ks := 4) (kg := 3) [⟨#[97]⟩, ⟨#[98]⟩, ⟨#[99]⟩, ⟨#[100]⟩] [⟨#[115]⟩, ⟨#[116]⟩, ⟨#[117]⟩] (.slice (some ⟨w.heap.size + 1 + 1 + 1 + 1 + 1 + 1 + 1, 0, none⟩) 1 1) [(⟨#[112]⟩, 4)] ((⟨⟨#[114]⟩, 0, 2, [0, 1], [], []⟩, .slice (some ⟨w.heap.size, 0, none⟩) 2 2, .slice none 0 0, .slice none 0 0) : RtV) ((⟨⟨#[113]⟩, 1, 2, [2], [], []⟩, .slice (some ⟨w.heap.size + 1, 0, none⟩) 1 1, .slice none 0 0, .slice none 0 0) : RtV) (by rw [hW]; repeat (first | (refine blk_new' ?_; simp; done) | refine blk_old ?_)) rfl (by rw [hW]; repeat (first | (refine blk_new' ?_; simp; done) | refine blk_old ?_)) rfl (by rw [hW]; repeat (first | (refine blk_new' ?_; simp; done) | refine blk_old ?_)) rfl (row_blk (cs := pC) (c := #[.string ⟨#[112]⟩, .int .i64 4]) (t := 35) (z := (0, 0)) (cap := 1) (fun _ => rfl) [(⟨#[112]⟩, 4)] (by rw [hW]; repeat (first | (refine blk_new' ?_; simp; done) | refine blk_old ?_)) rfl) ⟨(row_blk (cs := iC) (c := #[.int .i64 0, .int .i64 1]) (t := 3) (z := (0, 0)) (cap := 2) (fun _ => rfl) [0, 1] (by rw [hW]; repeat (first | (refine blk_new' ?_; simp; done) | refine blk_old ?_)) rfl), (rowAt.nil _ _ _), (rowAt.nil _ _ _)⟩ ⟨(row_blk (cs := iC) (c := #[.int .i64 2]) (t := 3) (z := (0, 0)) (cap := 1) (fun _ => rfl) [2] (by rw [hW]; repeat (first | (refine blk_new' ?_; simp; done) | refine blk_old ?_)) rfl), (rowAt.nil _ _ _), (rowAt.nil _ _ _)⟩
  have I := is_few L ⟨by simp, fun x hx => (by
    rcases List.mem_cons.1 hx with rfl | hx
    · exact ⟨cap_of (by omega), by simp, by simp, by simp⟩
    · rw [List.mem_singleton.1 hx]
      exact ⟨cap_of (by omega), by simp, by simp, by simp⟩), cap_of (by simp), cap_of (by simp)⟩ false (by kernel_rfl)
  clear hW L
  refine I.mono ?_
  rintro e w1 ⟨rfl, hb1⟩
  go_wp2_with fail
  refine (known_any _).mono ?_
  rintro e w2 ⟨rfl, hb2⟩
  go_wp2
  go_ret
  exact ⟨rfl, HB.out.trans ((hb1.trans (hb2.mono hb1.size)).mono HB.out.size)⟩

set_option maxRecDepth 1000000 in
set_option maxHeartbeats 4000000 in
theorem odd8 (w : World) : Calls Try.prog 5 #[.int .i64 8] w fun e w' => e = .returned (.bool true) ∧ Below w.heap.size w w' := by
  go_enter Try.func5, Try.ntmps5
  go_wp2_with (go_at_call 7; refine (two_at _ _ _ _ _ _ _).mono ?_; rintro e w' ⟨rfl, rfl⟩)
  refine with_world (fun W hW => ?_)
  have HB : Hid (Below w.heap.size w W) := by
    show Below _ _ _
    rw [hW]
    repeat' (with_reducible first | exact Below.refl _ _ | refine Below.alloc ?_ ?_ _ | exact Nat.le_refl _ | (simp; done) | (simp; omega))
  have L := lay_two (W := W) (bs := w.heap.size + 1 + 1 + 1) (bg := w.heap.size + 1 + 1 + 1 + 1) (br := w.heap.size + 1 + 1 + 1 + 1 + 1) (cs := #[.string ⟨#[97]⟩, .string ⟨#[98]⟩, .string ⟨#[99]⟩, .string ⟨#[100]⟩]) (cg := #[.string ⟨#[115]⟩, .string ⟨#[116]⟩, .string ⟨#[117]⟩]) (cr := #[.string ⟨#[114]⟩, .int .i64 0, .int .i64 2, .slice (some ⟨w.heap.size, 0, none⟩) 2 2, .slice none 0 0, .slice none 0 0, .string ⟨#[114]⟩, .int .i64 1, .int .i64 2, .slice (some ⟨w.heap.size + 1, 0, none⟩) 1 1, .slice none 0 0, .slice none 0 0]) (ts := 9) (tg := 9) (tr := 40) (zs := (0, 0)) (zg := (0, 0)) (zr := (0, 0)) (ks := 4) (kg := 3) [⟨#[97]⟩, ⟨#[98]⟩, ⟨#[99]⟩, ⟨#[100]⟩] [⟨#[115]⟩, ⟨#[116]⟩, ⟨#[117]⟩] (.slice none 0 0) [] ((⟨⟨#[114]⟩, 0, 2, [0, 1], [], []⟩, .slice (some ⟨w.heap.size, 0, none⟩) 2 2, .slice none 0 0, .slice none 0 0) : RtV) ((⟨⟨#[114]⟩, 1, 2, [2], [], []⟩, .slice (some ⟨w.heap.size + 1, 0, none⟩) 1 1, .slice none 0 0, .slice none 0 0) : RtV) (by rw [hW]; repeat (first | (refine blk_new' ?_; simp; done) | refine blk_old ?_)) rfl (by rw [hW]; repeat (first | (refine blk_new' ?_; simp; done) | refine blk_old ?_)) rfl (by rw [hW]; repeat (first | (refine blk_new' ?_; simp; done) | refine blk_old ?_)) rfl (rowAt.nil _ _ _) ⟨(row_blk (cs := iC) (c := #[.int .i64 0, .int .i64 1]) (t := 3) (z := (0, 0)) (cap := 2) (fun _ => rfl) [0, 1] (by rw [hW]; repeat (first | (refine blk_new' ?_; simp; done) | refine blk_old ?_)) rfl), (rowAt.nil _ _ _), (rowAt.nil _ _ _)⟩ ⟨(row_blk (cs := iC) (c := #[.int .i64 2]) (t := 3) (z := (0, 0)) (cap := 1) (fun _ => rfl) [2] (by rw [hW]; repeat (first | (refine blk_new' ?_; simp; done) | refine blk_old ?_)) rfl), (rowAt.nil _ _ _), (rowAt.nil _ _ _)⟩
  have I := is_few L ⟨by simp, fun x hx => (by
    rcases List.mem_cons.1 hx with rfl | hx
    · exact ⟨cap_of (by omega), by simp, by simp, by simp⟩
    · rw [List.mem_singleton.1 hx]
      exact ⟨cap_of (by omega), by simp, by simp, by simp⟩), cap_of (by simp), cap_of (by simp)⟩ false (by kernel_rfl)
  clear hW L
  refine I.mono ?_
  rintro e w1 ⟨rfl, hb1⟩
  go_wp2_with fail
  refine (known_any _).mono ?_
  rintro e w2 ⟨rfl, hb2⟩
  go_wp2
  go_ret
  exact ⟨rfl, HB.out.trans ((hb1.trans (hb2.mono hb1.size)).mono HB.out.size)⟩

set_option maxRecDepth 1000000 in
set_option maxHeartbeats 4000000 in
theorem odd9 (w : World) : Calls Try.prog 5 #[.int .i64 9] w fun e w' => e = .returned (.bool true) ∧ Below w.heap.size w w' := by
  go_enter Try.func5, Try.ntmps5
  go_wp2_with (go_at_call 7; refine (two_at _ _ _ _ _ _ _).mono ?_; rintro e w' ⟨rfl, rfl⟩)
  refine with_world (fun W hW => ?_)
  have HB : Hid (Below w.heap.size w W) := by
    show Below _ _ _
    rw [hW]
    repeat' (with_reducible first | exact Below.refl _ _ | refine Below.alloc ?_ ?_ _ | exact Nat.le_refl _ | (simp; done) | (simp; omega))
  have L := lay_two (W := W) (bs := w.heap.size + 1 + 1 + 1) (bg := w.heap.size + 1 + 1 + 1 + 1) (br := w.heap.size + 1 + 1 + 1 + 1 + 1) (cs := #[.string ⟨#[97]⟩, .string ⟨#[98]⟩, .string ⟨#[99]⟩, .string ⟨#[100]⟩]) (cg := #[.string ⟨#[115]⟩, .string ⟨#[116]⟩, .string ⟨#[117]⟩]) (cr := #[.string ⟨#[114]⟩, .int .i64 0, .int .i64 2, .slice (some ⟨w.heap.size, 0, none⟩) 2 2, .slice none 0 0, .slice none 0 0, .string ⟨#[113]⟩, .int .i64 3, .int .i64 2, .slice (some ⟨w.heap.size + 1, 0, none⟩) 1 1, .slice none 0 0, .slice none 0 0]) (ts := 9) (tg := 9) (tr := 40) (zs := (0, 0)) (zg := (0, 0)) (zr := (0, 0)) (ks := 4) (kg := 3) [⟨#[97]⟩, ⟨#[98]⟩, ⟨#[99]⟩, ⟨#[100]⟩] [⟨#[115]⟩, ⟨#[116]⟩, ⟨#[117]⟩] (.slice none 0 0) [] ((⟨⟨#[114]⟩, 0, 2, [0, 1], [], []⟩, .slice (some ⟨w.heap.size, 0, none⟩) 2 2, .slice none 0 0, .slice none 0 0) : RtV) ((⟨⟨#[113]⟩, 3, 2, [2], [], []⟩, .slice (some ⟨w.heap.size + 1, 0, none⟩) 1 1, .slice none 0 0, .slice none 0 0) : RtV) (by rw [hW]; repeat (first | (refine blk_new' ?_; simp; done) | refine blk_old ?_)) rfl (by rw [hW]; repeat (first | (refine blk_new' ?_; simp; done) | refine blk_old ?_)) rfl (by rw [hW]; repeat (first | (refine blk_new' ?_; simp; done) | refine blk_old ?_)) rfl (rowAt.nil _ _ _) ⟨(row_blk (cs := iC) (c := #[.int .i64 0, .int .i64 1]) (t := 3) (z := (0, 0)) (cap := 2) (fun _ => rfl) [0, 1] (by rw [hW]; repeat (first | (refine blk_new' ?_; simp; done) | refine blk_old ?_)) rfl), (rowAt.nil _ _ _), (rowAt.nil _ _ _)⟩ ⟨(row_blk (cs := iC) (c := #[.int .i64 2]) (t := 3) (z := (0, 0)) (cap := 1) (fun _ => rfl) [2] (by rw [hW]; repeat (first | (refine blk_new' ?_; simp; done) | refine blk_old ?_)) rfl), (rowAt.nil _ _ _), (rowAt.nil _ _ _)⟩
  have I := is_few L ⟨by simp, fun x hx => (by
    rcases List.mem_cons.1 hx with rfl | hx
    · exact ⟨cap_of (by omega), by simp, by simp, by simp⟩
    · rw [List.mem_singleton.1 hx]
      exact ⟨cap_of (by omega), by simp, by simp, by simp⟩), cap_of (by simp), cap_of (by simp)⟩ false (by kernel_rfl)
  clear hW L
  refine I.mono ?_
  rintro e w1 ⟨rfl, hb1⟩
  go_wp2_with fail
  refine (known_any _).mono ?_
  rintro e w2 ⟨rfl, hb2⟩
  go_wp2
  go_ret
  exact ⟨rfl, HB.out.trans ((hb1.trans (hb2.mono hb1.size)).mono HB.out.size)⟩

set_option maxRecDepth 1000000 in
set_option maxHeartbeats 4000000 in
theorem odd10 (w : World) : Calls Try.prog 5 #[.int .i64 10] w fun e w' => e = .returned (.bool true) ∧ Below w.heap.size w w' := by
  go_enter Try.func5, Try.ntmps5
  go_wp2_with (go_at_call 7; refine (two_at _ _ _ _ _ _ _).mono ?_; rintro e w' ⟨rfl, rfl⟩)
  refine with_world (fun W hW => ?_)
  have HB : Hid (Below w.heap.size w W) := by
    show Below _ _ _
    rw [hW]
    repeat' (with_reducible first | exact Below.refl _ _ | refine Below.alloc ?_ ?_ _ | exact Nat.le_refl _ | (simp; done) | (simp; omega))
  have L := lay_two (W := W) (bs := w.heap.size + 1 + 1 + 1) (bg := w.heap.size + 1 + 1 + 1 + 1) (br := w.heap.size + 1 + 1 + 1 + 1 + 1) (cs := #[.string ⟨#[116, 111, 111, 108, 111, 110, 103, 110, 97, 109, 101]⟩, .string ⟨#[98]⟩, .string ⟨#[99]⟩, .string ⟨#[100]⟩]) (cg := #[.string ⟨#[115]⟩, .string ⟨#[116]⟩, .string ⟨#[117]⟩]) (cr := #[.string ⟨#[114]⟩, .int .i64 0, .int .i64 2, .slice (some ⟨w.heap.size, 0, none⟩) 2 2, .slice none 0 0, .slice none 0 0, .string ⟨#[113]⟩, .int .i64 1, .int .i64 2, .slice (some ⟨w.heap.size + 1, 0, none⟩) 1 1, .slice none 0 0, .slice none 0 0]) (ts := 9) (tg := 9) (tr := 40) (zs := (0, 0)) (zg := (0, 0)) (zr := (0, 0)) (ks := 4) (kg := 3) [⟨#[116, 111, 111, 108, 111, 110, 103, 110, 97, 109, 101]⟩, ⟨#[98]⟩, ⟨#[99]⟩, ⟨#[100]⟩] [⟨#[115]⟩, ⟨#[116]⟩, ⟨#[117]⟩] (.slice none 0 0) [] ((⟨⟨#[114]⟩, 0, 2, [0, 1], [], []⟩, .slice (some ⟨w.heap.size, 0, none⟩) 2 2, .slice none 0 0, .slice none 0 0) : RtV) ((⟨⟨#[113]⟩, 1, 2, [2], [], []⟩, .slice (some ⟨w.heap.size + 1, 0, none⟩) 1 1, .slice none 0 0, .slice none 0 0) : RtV) (by rw [hW]; repeat (first | (refine blk_new' ?_; simp; done) | refine blk_old ?_)) rfl (by rw [hW]; repeat (first | (refine blk_new' ?_; simp; done) | refine blk_old ?_)) rfl (by rw [hW]; repeat (first | (refine blk_new' ?_; simp; done) | refine blk_old ?_)) rfl (rowAt.nil _ _ _) ⟨(row_blk (cs := iC) (c := #[.int .i64 0, .int .i64 1]) (t := 3) (z := (0, 0)) (cap := 2) (fun _ => rfl) [0, 1] (by rw [hW]; repeat (first | (refine blk_new' ?_; simp; done) | refine blk_old ?_)) rfl), (rowAt.nil _ _ _), (rowAt.nil _ _ _)⟩ ⟨(row_blk (cs := iC) (c := #[.int .i64 2]) (t := 3) (z := (0, 0)) (cap := 1) (fun _ => rfl) [2] (by rw [hW]; repeat (first | (refine blk_new' ?_; simp; done) | refine blk_old ?_)) rfl), (rowAt.nil _ _ _), (rowAt.nil _ _ _)⟩
  have I := is_few L ⟨by simp, fun x hx => (by
    rcases List.mem_cons.1 hx with rfl | hx
    · exact ⟨cap_of (by omega), by simp, by simp, by simp⟩
    · rw [List.mem_singleton.1 hx]
      exact ⟨cap_of (by omega), by simp, by simp, by simp⟩), cap_of (by simp), cap_of (by simp)⟩ false (by kernel_rfl)
  clear hW L
  refine I.mono ?_
  rintro e w1 ⟨rfl, hb1⟩
  go_wp2_with fail
  refine (known_any _).mono ?_
  rintro e w2 ⟨rfl, hb2⟩
  go_wp2
  go_ret
  exact ⟨rfl, HB.out.trans ((hb1.trans (hb2.mono hb1.size)).mono HB.out.size)⟩

theorem walk_out (a : Int) (w : World) (h : a < 0 ∨ 10 < a) : Calls Try.prog 5 #[.int .i64 a] w fun e w' => e = .returned (.bool true) ∧ Below w.heap.size w w' := by
  by_cases h1 : a < 0
  · go_enter Try.func5, Try.ntmps5
    go_wp2
    go_ret
    exact ⟨rfl, Below.refl _ _⟩
  · have h2 : 10 < a := by omega
    have h3 : decide (a < 0) = false := decide_eq_false h1
    go_enter Try.func5, Try.ntmps5
    go_wp2
    go_ret
    exact ⟨rfl, Below.refl _ _⟩

theorem walk (a : Int) (_ : (Lit.int .i64 a).wf = true) (w : World) : Calls Try.prog 5 #[.int .i64 a] w fun e w' => e = .returned (.bool true) ∧ Below w.heap.size w w' := by
  by_cases h : a < 0 ∨ 10 < a
  · exact walk_out a w h
  · rcases (show a = 0 ∨ a = 1 ∨ a = 2 ∨ a = 3 ∨ a = 4 ∨ a = 5 ∨ a = 6 ∨ a = 7 ∨ a = 8 ∨ a = 9 ∨ a = 10 by omega) with rfl | rfl | rfl | rfl | rfl | rfl | rfl | rfl | rfl | rfl | rfl
    · exact odd0 w
    · exact odd1 w
    · exact odd2 w
    · exact odd3 w
    · exact odd4 w
    · exact odd5 w
    · exact odd6 w
    · exact odd7 w
    · exact odd8 w
    · exact odd9 w
    · exact odd10 w

theorem own : ownKnob Try.prog.godebug = none := by kernel_rfl

set_option maxRecDepth 100000 in
theorem lifted (os : Os) (started : os.Started) (H : Type) (enc : TypeId × Value → H) :
    ReturnsInHanded {} Try.checked os 5 .any (Rows.tableOddSpec.pre6 enc Try.prog Try.f5 Rows.tableOddRow.domain false) (Rows.tableOddSpec.post enc Try.prog Try.f5 false true false false) := by
  refine returnsInHanded_of_change (C := Try.checked) own started (by kernel_rfl) Try.func5
    (ChangeSpec.witness6 (enc := enc) (C := Try.checked) false ⟨#[], #[.int .i64 0], []⟩ 8 (by kernel_rfl) (by kernel_rfl) (by kernel_rfl) (by kernel_rfl)) ?_
  intro W base args ds gs before hval0 hW _ _
  have hval : ∀ (j : Nat) t v, Try.f5.params[j]? = some t → args[j]? = some v → Value.okWide Try.prog W .any base t v := hval0
  have hW' := hW
  obtain ⟨p, q, hA0, hV, rfl, _, _⟩ := hW
  have hA : DataW.TrodAll enc Try.prog W 0 (fun _ => true) true Try.f5.params.toList args.toList ds p := hA0
  rw [Try.params5] at hA hval
  obtain ⟨v0, vs0, d0, ds0, p0, q0, hargs, rfl, rfl, h0, r0⟩ := trodAll_cons hA
  obtain ⟨rfl, rfl, rfl⟩ := trodAll_nil r0
  obtain rfl : args = #[v0] := by cases args; simp_all
  obtain ⟨rfl, rfl⟩ := trodVars_none hV
  obtain ⟨a0, rfl, rfl, rfl, w0⟩ := open_int Try.underlying3 (hval 0 3 v0 rfl rfl) h0
  clear hA0 hval0
  refine (walk a0 w0 W).mono fun e W' ⟨he, bel⟩ => ?_
  subst he
  exact ⟨_, rfl, _, _, _, [], _, [], hW', trodAll_mk1 (shut_bool Try.underlying4 _), (trodAll_cons_mk (shut_int Try.underlying3 w0) trodAll_mk0), rfl, bel.frame _, fun h => by cases h⟩

theorem over : Rows.tableOddRow.holds Try.pinned (OpenSpec.ofChange Rows.tableOddSpec) :=
  OpenClaim.holds_of_wide 5 Try.f5 rfl rfl rfl rfl rfl rfl rfl ⟨rfl, rfl, rfl, rfl, rfl⟩ rfl rfl rfl rfl rfl (by kernel_rfl) Try.func5 (by kernel_rfl)
    (of_decide_eq_true (by kernel_rfl)) (by unfold Func.isWrapper; first | (rw [if_pos (by decide +kernel)]; kernel_rfl) | (rw [if_neg (by decide +kernel)]; exact ⟨rfl, rfl⟩))
    (fun os started H enc _ => lifted os started H enc)


end Go.Proofs.Ytkeefaacaimicaa.tableOdd
namespace Go.Proofs.Ytkeefaacaimicaa
theorem tableOdd_holds : Rows.TableOddSaid := tableOdd.over
#print axioms tableOdd_holds
end Go.Proofs.Ytkeefaacaimicaa
