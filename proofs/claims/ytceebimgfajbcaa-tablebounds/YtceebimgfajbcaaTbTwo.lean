/-
  The law's layouts of two routes, and what is known of them: by contracts.
-/
import Derived.Test.YtceebimgfajbcaaTbFew
import Derived.Test.YtceebimgfajbcaaTbConf
namespace Go.Proofs.Ytceebimgfajbcaa
open Go.RowKit

theorem two_at (oa ob : Option Addr) (na ca nb cb : Nat) (w : World) :
    Calls Try.prog 10 #[.slice oa na ca, .slice ob nb cb] w fun e w' =>
      e = .returned (.agg #[.slice (some ⟨w.heap.size + 1, 0, none⟩) 4 4, .slice none 0 0, .slice (some ⟨w.heap.size + 1 + 1, 0, none⟩) 3 3, .slice (some ⟨w.heap.size + 1 + 1 + 1, 0, none⟩) 2 2]) ∧
      w' = (((w.alloc (.cells #[.slice (some ⟨w.heap.size + 1, 0, none⟩) 4 4, .slice none 0 0, .slice (some ⟨w.heap.size + 1 + 1, 0, none⟩) 3 3, .slice (some ⟨w.heap.size + 1 + 1 + 1, 0, none⟩) 2 2] 26)).alloc
        (.cells #[.string ⟨#[97]⟩, .string ⟨#[98]⟩, .string ⟨#[99]⟩, .string ⟨#[100]⟩] 9)).alloc (.cells #[.string ⟨#[115]⟩, .string ⟨#[116]⟩, .string ⟨#[117]⟩] 9)).alloc
        (.cells #[.string ⟨#[114]⟩, .int .i64 0, .int .i64 2, .slice oa na ca, .slice none 0 0, .slice none 0 0, .string ⟨#[113]⟩, .int .i64 1, .int .i64 2, .slice ob nb cb, .slice none 0 0, .slice none 0 0] 33) := by
  go_enter Try.func10, Try.ntmps10
  go_wp2
  exact bodyPost_ret (v := .agg #[.slice (some ⟨w.heap.size + 1, 0, none⟩) 4 4, .slice none 0 0, .slice (some ⟨w.heap.size + 1 + 1, 0, none⟩) 3 3, .slice (some ⟨w.heap.size + 1 + 1 + 1, 0, none⟩) 2 2]) (by simp [results, Try.results10, go_sem]) rfl ⟨rfl, rfl⟩

def sABCD : List ByteArray := [⟨#[97]⟩, ⟨#[98]⟩, ⟨#[99]⟩, ⟨#[100]⟩]
def gSTU : List ByteArray := [⟨#[115]⟩, ⟨#[116]⟩, ⟨#[117]⟩]
theorem nil_row {α : Type} (w : World) (size : Nat) (cs : α → List Value) : rowAt w (.slice none 0 0) size cs [] := rowAt.nil _ _ _

def rK (nm : ByteArray) (f : Int) (pa : List Int) (v : Value) : RtV := (⟨nm, f, 2, pa, [], []⟩, v, .slice none 0 0, .slice none 0 0)
theorem rK_at {W : World} {nm : ByteArray} {f : Int} {pa : List Int} {v : Value} (h : rowAt W v 1 iC pa) : RtAt W (rK nm f pa v) := ⟨h, rowAt.nil _ _ _, rowAt.nil _ _ _⟩

/-- The law's layout of two routes, without points. -/
def layTwo (a b : List Int) : Lay := ⟨sABCD, [], gSTU, [⟨⟨#[114]⟩, 0, 2, a, [], []⟩, ⟨⟨#[113]⟩, 1, 2, b, [], []⟩]⟩
theorem lay_of_two {W : World} {B : Nat} (oa ob : Option Addr) (na ca nb cb : Nat) (a b : List Int)
    (h1 : W.heap[B + 1]? = some (.cells #[.string ⟨#[97]⟩, .string ⟨#[98]⟩, .string ⟨#[99]⟩, .string ⟨#[100]⟩] 9 (0, 0))) (h2 : W.heap[B + 1 + 1]? = some (.cells #[.string ⟨#[115]⟩, .string ⟨#[116]⟩, .string ⟨#[117]⟩] 9 (0, 0)))
    (h3 : W.heap[B + 1 + 1 + 1]? = some (.cells #[.string ⟨#[114]⟩, .int .i64 0, .int .i64 2, .slice oa na ca, .slice none 0 0, .slice none 0 0, .string ⟨#[113]⟩, .int .i64 1, .int .i64 2, .slice ob nb cb, .slice none 0 0, .slice none 0 0] 33 (0, 0)))
    (ha : rowAt W (.slice oa na ca) 1 iC a) (hb : rowAt W (.slice ob nb cb) 1 iC b) :
    LayRd W (v4 (.slice (some ⟨B + 1, 0, none⟩) 4 4) (.slice none 0 0) (.slice (some ⟨B + 1 + 1, 0, none⟩) 3 3) (.slice (some ⟨B + 1 + 1 + 1, 0, none⟩) 2 2)) (layTwo a b) [rK ⟨#[114]⟩ 0 a (.slice oa na ca), rK ⟨#[113]⟩ 1 b (.slice ob nb cb)] :=
  lay_two (ks := 4) (kg := 3) sABCD gSTU (.slice none 0 0) [] (rK ⟨#[114]⟩ 0 a (.slice oa na ca)) (rK ⟨#[113]⟩ 1 b (.slice ob nb cb)) h1 rfl h2 rfl h3 rfl (nil_row _ _ _) (rK_at ha) (rK_at hb)
theorem few_two {B : Nat} (oa ob : Option Addr) (na ca nb cb : Nat) (a b : List Int) (ha : na ≤ ca) (hb : nb ≤ cb) (hla : a.length ≤ 100) (hlb : b.length ≤ 100) :
    Few (layTwo a b) [rK ⟨#[114]⟩ 0 a (.slice oa na ca), rK ⟨#[113]⟩ 1 b (.slice ob nb cb)] (v4 (.slice (some ⟨B + 1, 0, none⟩) 4 4) (.slice none 0 0) (.slice (some ⟨B + 1 + 1, 0, none⟩) 3 3) (.slice (some ⟨B + 1 + 1 + 1, 0, none⟩) 2 2)) := by
  refine ⟨by simp [layTwo, sABCD, gSTU], fun x hx => ?_, cap_of (Nat.le_refl _), cap_of (Nat.le_refl _)⟩
  rcases List.mem_cons.1 hx with rfl | hx
  · exact ⟨cap_of ha, hla, by simp [rK], by simp [rK]⟩
  · rw [List.mem_singleton.1 hx]
    exact ⟨cap_of hb, hlb, by simp [rK], by simp [rK]⟩

set_option maxRecDepth 1000000 in
set_option maxHeartbeats 8000000 in
theorem known_any (w : World) : Calls Try.prog 5 #[] w fun e w' => e = .returned (.bool true) ∧ Below w.heap.size w w' := by
  go_enter Try.func5, Try.ntmps5
  go_wp2_with (go_at_call 10; refine (two_at _ _ _ _ _ _ _).mono ?_; rintro e w' ⟨rfl, rfl⟩)
  refine with_world (fun W hW => ?_)
  have HB : Hid (Below w.heap.size w W) := by
    show Below _ _ _
    rw [hW]
    repeat' (with_reducible first | exact Below.refl _ _ | refine Below.alloc ?_ ?_ _ | exact Nat.le_refl _ | (simp; done) | (simp; omega))
  have L1 := lay_of_two (W := W) (B := w.heap.size + 1 + 1) (some ⟨w.heap.size, 0, none⟩) (some ⟨w.heap.size + 1, 0, none⟩) 2 2 2 2 [0, 1] [1, 2] (by rw [hW]; repeat (first | (refine blk_new' ?_; simp; done) | refine blk_old ?_)) (by rw [hW]; repeat (first | (refine blk_new' ?_; simp; done) | refine blk_old ?_)) (by rw [hW]; repeat (first | (refine blk_new' ?_; simp; done) | refine blk_old ?_)) (row_blk (cs := iC) (c := #[.int .i64 0, .int .i64 1]) (t := 3) (z := (0, 0)) (cap := 2) (fun _ => rfl) [0, 1] (by rw [hW]; repeat (first | (refine blk_new' ?_; simp; done) | refine blk_old ?_)) rfl) (row_blk (cs := iC) (c := #[.int .i64 1, .int .i64 2]) (t := 3) (z := (0, 0)) (cap := 2) (fun _ => rfl) [1, 2] (by rw [hW]; repeat (first | (refine blk_new' ?_; simp; done) | refine blk_old ?_)) rfl)
  have L2 := lay_of_two (W := W) (B := w.heap.size + 1 + 1 + 1 + 1 + 1 + 1 + 1 + 1) (some ⟨w.heap.size + 1 + 1 + 1 + 1 + 1 + 1, 0, none⟩) (some ⟨w.heap.size + 1 + 1 + 1 + 1 + 1 + 1 + 1, 0, none⟩) 1 1 1 1 [0] [1] (by rw [hW]; repeat (first | (refine blk_new' ?_; simp; done) | refine blk_old ?_)) (by rw [hW]; repeat (first | (refine blk_new' ?_; simp; done) | refine blk_old ?_)) (by rw [hW]; repeat (first | (refine blk_new' ?_; simp; done) | refine blk_old ?_)) (row_blk (cs := iC) (c := #[.int .i64 0]) (t := 3) (z := (0, 0)) (cap := 1) (fun _ => rfl) [0] (by rw [hW]; repeat (first | (refine blk_new' ?_; simp; done) | refine blk_old ?_)) rfl) (row_blk (cs := iC) (c := #[.int .i64 1]) (t := 3) (z := (0, 0)) (cap := 1) (fun _ => rfl) [1] (by rw [hW]; repeat (first | (refine blk_new' ?_; simp; done) | refine blk_old ?_)) rfl)
  have VL : Hid (W.cell? ⟨w.heap.size + 1 + 1 + 1 + 1 + 1 + 1 + 1 + 1 + 1 + 1 + 1 + 1, 0, none⟩ = some (.slice (some ⟨w.heap.size + 1 + 1 + 1, 0, none⟩) 4 4) ∧ W.cell? ⟨w.heap.size + 1 + 1 + 1 + 1 + 1 + 1 + 1 + 1 + 1 + 1 + 1 + 1, 1, none⟩ = some (.slice none 0 0) ∧ W.cell? ⟨w.heap.size + 1 + 1 + 1 + 1 + 1 + 1 + 1 + 1 + 1 + 1 + 1 + 1, 2, none⟩ = some (.slice (some ⟨w.heap.size + 1 + 1 + 1 + 1, 0, none⟩) 3 3) ∧ W.cell? ⟨w.heap.size + 1 + 1 + 1 + 1 + 1 + 1 + 1 + 1 + 1 + 1 + 1 + 1, 3, none⟩ = some (.slice (some ⟨w.heap.size + 1 + 1 + 1 + 1 + 1, 0, none⟩) 2 2)) := by
    show _ ∧ _
    rw [hW]
    refine ⟨?_, ?_, ?_, ?_⟩ <;> go_simp
  have VM : Hid (W.cell? ⟨w.heap.size + 1 + 1 + 1 + 1 + 1 + 1 + 1 + 1 + 1 + 1 + 1 + 1 + 1, 0, none⟩ = some (.slice (some ⟨w.heap.size + 1 + 1 + 1 + 1 + 1 + 1 + 1 + 1 + 1, 0, none⟩) 4 4) ∧ W.cell? ⟨w.heap.size + 1 + 1 + 1 + 1 + 1 + 1 + 1 + 1 + 1 + 1 + 1 + 1 + 1, 1, none⟩ = some (.slice none 0 0) ∧ W.cell? ⟨w.heap.size + 1 + 1 + 1 + 1 + 1 + 1 + 1 + 1 + 1 + 1 + 1 + 1 + 1, 2, none⟩ = some (.slice (some ⟨w.heap.size + 1 + 1 + 1 + 1 + 1 + 1 + 1 + 1 + 1 + 1, 0, none⟩) 3 3) ∧ W.cell? ⟨w.heap.size + 1 + 1 + 1 + 1 + 1 + 1 + 1 + 1 + 1 + 1 + 1 + 1 + 1, 3, none⟩ = some (.slice (some ⟨w.heap.size + 1 + 1 + 1 + 1 + 1 + 1 + 1 + 1 + 1 + 1 + 1, 0, none⟩) 2 2)) := by
    show _ ∧ _
    rw [hW]
    refine ⟨?_, ?_, ?_, ?_⟩ <;> go_simp
  have F1 := few_two (B := w.heap.size + 1 + 1) (some ⟨w.heap.size, 0, none⟩) (some ⟨w.heap.size + 1, 0, none⟩) 2 2 2 2 [0, 1] [1, 2] (by omega) (by omega) (by simp) (by simp)
  have F2 := few_two (B := w.heap.size + 1 + 1 + 1 + 1 + 1 + 1 + 1 + 1) (some ⟨w.heap.size + 1 + 1 + 1 + 1 + 1 + 1, 0, none⟩) (some ⟨w.heap.size + 1 + 1 + 1 + 1 + 1 + 1 + 1, 0, none⟩) 1 1 1 1 [0] [1] (by omega) (by omega) (by simp) (by simp)
  have HL1 := fun W' (hW' : Below W.heap.size W W') => is_few (L1.below hW') F1 true (by decide +kernel)
  have HL2 := fun W' (hW' : Below W.heap.size W W') => is_few (L2.below hW') F2 true (by decide +kernel)
  have HC1 := fun W' (hW' : Below W.heap.size W W') => conf_few (L1.below hW') F1 0 1 _ _ rfl rfl true (by kernel_rfl)
  have HC2 := fun W' (hW' : Below W.heap.size W W') => conf_few (L2.below hW') F2 0 1 _ _ rfl rfl false (by kernel_rfl)
  clear hW L1 L2 F1 F2
  refine (HL1 _ (Below.refl _ _)).mono ?_
  rintro e w1 ⟨rfl, hb1⟩
  have up1 : ∀ {p : Addr} {u : Value}, W.cell? p = some u → w1.cell? p = some u := fun h => (hb1.cell (World.block_lt_of_cell? _ _ h)).trans h
  have m0 := up1 VM.out.1
  have m1 := up1 VM.out.2.1
  have m2 := up1 VM.out.2.2.1
  have m3 := up1 VM.out.2.2.2
  go_wp2_with fail
  refine (HL2 _ hb1).mono ?_
  rintro e w2 ⟨rfl, hb2⟩
  have hb2 := hb1.trans (hb2.mono hb1.size)
  have up2 : ∀ {p : Addr} {u : Value}, W.cell? p = some u → w2.cell? p = some u := fun h => (hb2.cell (World.block_lt_of_cell? _ _ h)).trans h
  clear m0 m1 m2 m3
  have m0 := up2 VL.out.1
  have m1 := up2 VL.out.2.1
  have m2 := up2 VL.out.2.2.1
  have m3 := up2 VL.out.2.2.2
  go_wp2_with fail
  refine (HC1 _ hb2).mono ?_
  rintro e w3 ⟨rfl, hb3⟩
  have hb3 := hb2.trans (hb3.mono hb2.size)
  have up3 : ∀ {p : Addr} {u : Value}, W.cell? p = some u → w3.cell? p = some u := fun h => (hb3.cell (World.block_lt_of_cell? _ _ h)).trans h
  clear m0 m1 m2 m3
  have m0 := up3 VM.out.1
  have m1 := up3 VM.out.2.1
  have m2 := up3 VM.out.2.2.1
  have m3 := up3 VM.out.2.2.2
  go_wp2_with fail
  refine (HC2 _ hb3).mono ?_
  rintro e w4 ⟨rfl, hb4⟩
  have hb4 := hb3.trans (hb4.mono hb3.size)
  go_wp2
  go_ret
  exact ⟨rfl, HB.out.trans (hb4.mono HB.out.size)⟩
end Go.Proofs.Ytceebimgfajbcaa
