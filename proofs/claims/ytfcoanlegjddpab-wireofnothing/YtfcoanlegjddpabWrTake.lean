/-
  The reference's take, by a contract.
-/
import Derived.Test.YtfcoanlegjddpabWrRefPack
import Derived.Test.YtfcoanlegjddpabWrSlice
import Derived.Test.YtfcoanlegjddpabWrRead2
import Derived.Test.YtfcoanlegjddpabWrConv
import Derived.RegionTactic
import Derived.BigRegion
import Derived.ChangeAlike
namespace Go.Proofs.Ytfcoanlegjddpab
open Go.RowKit

/-- What take answers. -/
def takeV : Option (It × Nat) → Value
  | some (x, k) => .tuple #[x.th.val, .int .i64 (k : Int)]
  | none => .tuple #[Th.zero.val, .int .i64 0]
def TakeSaid (w : World) (oa : Option Addr) (cap : Nat) (p : List (BitVec 8)) : Prop :=
  Calls Try.prog 25 #[.slice oa p.length cap] w fun e w' => e = .returned (takeV (takeR p)) ∧ Below w.heap.size w w'

set_option maxRecDepth 1000000 in
set_option maxHeartbeats 1000000 in
theorem take_short_any (oa : Option Addr) (cap : Nat) (p : List (BitVec 8)) (w : World) (hn : p.length < 2) : TakeSaid w oa cap p := by
  have HT : Hid (takeR p = none) := by
    show _ = _
    match p, hn with
    | [], _ => rfl
    | [k], _ => unfold takeR; by_cases h1 : k = 1#8 <;> by_cases h2 : k = 2#8 <;> by_cases h3 : k = 3#8 <;> simp [h1, h2, h3]
  unfold TakeSaid
  rw [HT.out]
  generalize p.length = n at *
  go_enter Try.func25, Try.ntmps25
  go_wp2
  refine bodyPost_ret (v := .tuple #[Th.zero.val, .int .i64 0]) (by simp [results, Try.results25, go_sem, Th.val, Th.zero]) rfl ⟨rfl, ?_⟩
  exact (by repeat' (with_reducible first | exact Below.refl _ _ | refine Below.drew ?_ | refine _root_.Go.below_drewN ?_ _ | refine Below.alloc ?_ ?_ _ | refine Below.setCell ?_ ?_ _ | exact Nat.le_refl _ | (simp; done) | (simp; omega)))

theorem two_at {w : World} {oa : Option Addr} {x y : BitVec 8} {r : List (BitVec 8)} (h : hasBytes w oa (x :: y :: r)) : ∃ g off, oa = some ⟨g, off, none⟩ ∧ g < w.heap.size ∧ w.cell? ⟨g, off, none⟩ = some (.int .u8 (x.toNat : Int)) ∧ w.cell? ⟨g, off + 1, none⟩ = some (.int .u8 (y.toNat : Int)) := by
  obtain ⟨g, off, rfl, h1⟩ := h 0 x rfl
  obtain ⟨g', off', e, h2⟩ := h 1 y rfl
  injection e with e
  injection e with e1 e2
  subst e1 e2
  exact ⟨g, off, rfl, World.block_lt_of_cell? _ _ h1, h1, h2⟩
theorem byte_ne {x : BitVec 8} {n : Nat} (hn : n < 256) (h : x ≠ BitVec.ofNat 8 n) : ¬ (x.toNat : Int) = (n : Int) := fun e => h (BitVec.eq_of_toNat_eq (by rw [BitVec.toNat_ofNat, Nat.mod_eq_of_lt hn]; omega))

set_option maxRecDepth 1000000 in
set_option maxHeartbeats 1000000 in
theorem take_other_any (oa : Option Addr) (cap : Nat) (x y : BitVec 8) (r : List (BitVec 8)) (w : World) (h : hasBytes w oa (x :: y :: r)) (h1 : x ≠ 1#8) (h2 : x ≠ 2#8) (h3 : x ≠ 3#8) : TakeSaid w oa cap (x :: y :: r) := by
  have HT : Hid (takeR (x :: y :: r) = none) := takeR_none x _ h1 h2 h3
  unfold TakeSaid
  rw [HT.out]
  obtain ⟨g, off, rfl, hlt, c1, c2⟩ := two_at h
  have e1 := byte_ne (n := 1) (by decide) h1
  have e2 := byte_ne (n := 2) (by decide) h2
  have e3 := byte_ne (n := 3) (by decide) h3
  clear h h1 h2 h3
  generalize x.toNat = X at *
  generalize y.toNat = Y at *
  obtain ⟨n, hn⟩ : ∃ n, n = (x :: y :: r).length := ⟨_, rfl⟩
  have hn2 : 2 ≤ n := by rw [hn, List.length_cons, List.length_cons]; omega
  rw [← hn]
  clear hn HT
  by_cases h9 : (9 : Int) ≤ (n : Int)
  all_goals
    have h22 : (2 : Int) ≤ (n : Int) := by omega
    have h0n : (0 : Int) < (n : Int) := by omega
    have h1n : (1 : Int) < (n : Int) := by omega
    go_enter Try.func25, Try.ntmps25
    go_wp2
    refine bodyPost_ret (v := .tuple #[Th.zero.val, .int .i64 0]) (by simp [results, Try.results25, go_sem, Th.val, Th.zero]) rfl ⟨rfl, ?_⟩
    exact (by repeat' (with_reducible first | exact Below.refl _ _ | refine Below.drew ?_ | refine _root_.Go.below_drewN ?_ _ | refine Below.alloc ?_ ?_ _ | refine Below.setCell ?_ ?_ _ | exact Nat.le_refl _ | (simp; done) | (simp; omega)))

set_option maxRecDepth 1000000 in
set_option maxHeartbeats 1000000 in
theorem take_one_any (oa : Option Addr) (cap : Nat) (y : BitVec 8) (r : List (BitVec 8)) (w : World) (h : hasBytes w oa (1#8 :: y :: r)) (hc : (1#8 :: y :: r).length ≤ cap) : TakeSaid w oa cap (1#8 :: y :: r) := by
  unfold TakeSaid
  rw [takeR_one]
  obtain ⟨g, off, rfl, hlt, c1, c2⟩ := two_at h
  have HB : Hid (hasBytes w (some ⟨g, off, none⟩) (1#8 :: y :: r)) := h
  clear h
  obtain ⟨n, hn⟩ : ∃ n, n = (1#8 :: y :: r).length := ⟨_, rfl⟩
  have hn2 : n - 2 = r.length ∧ 2 ≤ n := by rw [hn, List.length_cons, List.length_cons]; omega
  have HN2 : Hid (n - 2 = r.length ∧ 2 ≤ n) := hn2
  obtain ⟨-, hn2⟩ := hn2
  have HN : Hid ((1#8 :: y :: r).length = n) := hn.symm
  rw [← hn] at hc ⊢
  clear hn
  have hx1 : ((1#8).toNat : Int) = 1 := rfl
  rw [hx1] at c1
  have h22 : (2 : Int) ≤ (n : Int) := by omega
  have h0n : (0 : Int) < (n : Int) := by omega
  have h1n : (1 : Int) < (n : Int) := by omega
  have el : (y :: r).length = n - 1 := by rw [List.length_cons, ← HN2.out.1]; omega
  rw [el]
  clear hx1 el
  by_cases h9 : 8 ≤ n - 1
  · rw [if_pos h9]
    have h9i : (9 : Int) ≤ (n : Int) := by omega
    have HK : Hid (hasBytes w (some ⟨g, off + 1, none⟩) ((y :: r).take 8)) := by
      have := has_drop HB.out 1
      rw [Option.map_some, waddr_at] at this
      exact has_take this 8
    have HL : Hid (((y :: r).take 8).length = 8) := by show _ = _; rw [List.length_take, List.length_cons, ← HN2.out.1]; omega
    have hlt8 := num_eight_lt (y :: r)
    obtain ⟨N, hN⟩ : ∃ N, N = numV ((y :: r).take 8) := ⟨_, rfl⟩
    have HNN : Hid (numV ((y :: r).take 8) = N) := hN.symm
    rw [← hN] at hlt8 ⊢
    have hw := i64_of_u64 N hlt8
    clear hN h9
    go_enter Try.func25, Try.ntmps25
    go_wp2_with fail
    have BA : Below w.heap.size w (w.alloc (.cells #[.int .i64 0, .int .i64 0, .string ⟨#[]⟩, .bool false] 60)) := (Below.refl _ _).alloc (Nat.le_refl _) _
    have D := refNumber_any (some ⟨g, off + 1, none⟩) (cap - 1) ((y :: r).take 8) _ (HK.out.below BA) (by rw [HL.out]; omega)
    rw [HL.out, HNN.out] at D
    refine D.mono ?_
    rintro e w2 ⟨rfl, rfl⟩
    clear D BA
    go_wp2
    refine bodyPost_ret (v := .tuple #[.agg #[.int .i64 1, .int .i64 (i64Of N), .string ⟨#[]⟩, .bool false], .int .i64 9]) (by simp [results, Try.results25, go_sem]) rfl ⟨rfl, ?_⟩
    exact (by repeat' (with_reducible first | exact Below.refl _ _ | refine Below.drew ?_ | refine _root_.Go.below_drewN ?_ _ | refine Below.alloc ?_ ?_ _ | refine Below.setCell ?_ ?_ _ | exact Nat.le_refl _ | (simp; done) | (simp; omega)))
  · rw [if_neg h9]
    have h9i : ¬ (9 : Int) ≤ (n : Int) := by omega
    clear h9
    go_enter Try.func25, Try.ntmps25
    go_wp2
    refine bodyPost_ret (v := .tuple #[Th.zero.val, .int .i64 0]) (by simp [results, Try.results25, go_sem, Th.val, Th.zero]) rfl ⟨rfl, ?_⟩
    exact (by repeat' (with_reducible first | exact Below.refl _ _ | refine Below.drew ?_ | refine _root_.Go.below_drewN ?_ _ | refine Below.alloc ?_ ?_ _ | refine Below.setCell ?_ ?_ _ | exact Nat.le_refl _ | (simp; done) | (simp; omega)))

set_option maxRecDepth 1000000 in
set_option maxHeartbeats 1000000 in
theorem take_three_any (oa : Option Addr) (cap : Nat) (y : BitVec 8) (r : List (BitVec 8)) (w : World) (h : hasBytes w oa (3#8 :: y :: r)) : TakeSaid w oa cap (3#8 :: y :: r) := by
  unfold TakeSaid
  rw [takeR_three]
  obtain ⟨g, off, rfl, hlt, c1, c2⟩ := two_at h
  have hx1 : ((3#8).toNat : Int) = 3 := rfl
  rw [hx1] at c1
  have hyd : ((y.toNat : Int) == 1) = decide (y = 1#8) := by
    rw [Bool.eq_iff_iff, beq_iff_eq, decide_eq_true_eq]
    exact ⟨fun e => BitVec.eq_of_toNat_eq (by show y.toNat = 1; omega), fun e => by rw [e]; rfl⟩
  have HYD : Hid (((y.toNat : Int) == 1) = decide (y = 1#8)) := hyd
  clear h hx1 hyd
  obtain ⟨n, hn⟩ : ∃ n, n = (3#8 :: y :: r).length := ⟨_, rfl⟩
  have hn2 : 2 ≤ n := by rw [hn, List.length_cons, List.length_cons]; omega
  rw [← hn]
  clear hn
  have h22 : (2 : Int) ≤ (n : Int) := by omega
  have h0n : (0 : Int) < (n : Int) := by omega
  have h1n : (1 : Int) < (n : Int) := by omega
  by_cases hy : y.toNat ≤ 1
  · rw [if_pos hy]
    have hyi : (y.toNat : Int) ≤ 1 := by omega
    rw [← HYD.out]
    clear hy
    generalize y.toNat = Y at *
    by_cases h9 : (9 : Int) ≤ (n : Int)
    all_goals
      go_enter Try.func25, Try.ntmps25
      go_wp2
      refine bodyPost_ret (v := .tuple #[.agg #[.int .i64 3, .int .i64 0, .string ⟨#[]⟩, .bool ((Y : Int) == 1)], .int .i64 2]) (by simp [results, Try.results25, go_sem]) rfl ⟨rfl, ?_⟩
      exact (by repeat' (with_reducible first | exact Below.refl _ _ | refine Below.drew ?_ | refine _root_.Go.below_drewN ?_ _ | refine Below.alloc ?_ ?_ _ | refine Below.setCell ?_ ?_ _ | exact Nat.le_refl _ | (simp; done) | (simp; omega)))
  · rw [if_neg hy]
    have hyi : ¬ (y.toNat : Int) ≤ 1 := by omega
    clear hy HYD
    generalize y.toNat = Y at *
    by_cases h9 : (9 : Int) ≤ (n : Int)
    all_goals
      go_enter Try.func25, Try.ntmps25
      go_wp2
      refine bodyPost_ret (v := .tuple #[Th.zero.val, .int .i64 0]) (by simp [results, Try.results25, go_sem, Th.val, Th.zero]) rfl ⟨rfl, ?_⟩
      exact (by repeat' (with_reducible first | exact Below.refl _ _ | refine Below.drew ?_ | refine _root_.Go.below_drewN ?_ _ | refine Below.alloc ?_ ?_ _ | refine Below.setCell ?_ ?_ _ | exact Nat.le_refl _ | (simp; done) | (simp; omega)))


set_option maxRecDepth 1000000 in
set_option maxHeartbeats 1000000 in
theorem take_two_any (oa : Option Addr) (cap : Nat) (y : BitVec 8) (r : List (BitVec 8)) (w : World) (h : hasBytes w oa (2#8 :: y :: r)) (hc : (2#8 :: y :: r).length ≤ cap) (hY : y.toNat ≤ 200) (hr : y.toNat ≤ r.length) (hcap : ¬ cap = 2) : TakeSaid w oa cap (2#8 :: y :: r) := by
  unfold TakeSaid
  rw [takeR_two, if_pos ⟨hY, hr⟩]
  obtain ⟨g, off, rfl, hlt, c1, c2⟩ := two_at h
  have HB : Hid (hasBytes w (some ⟨g, off + 2, none⟩) (r.take y.toNat)) := by
    have := has_drop h 2
    rw [Option.map_some, waddr_at] at this
    exact has_take this _
  have HL : Hid ((r.take y.toNat).length = y.toNat) := by show _ = _; rw [List.length_take]; omega
  clear h
  obtain ⟨n, hn⟩ : ∃ n, n = (2#8 :: y :: r).length := ⟨_, rfl⟩
  have hn2 : y.toNat + 2 ≤ n := by rw [hn, List.length_cons, List.length_cons]; omega
  rw [← hn] at hc ⊢
  clear hn hr
  have hx1 : ((2#8).toNat : Int) = 2 := rfl
  rw [hx1] at c1
  generalize y.toNat = Y at *
  obtain ⟨q, hq⟩ : ∃ q, q = r.take Y := ⟨_, rfl⟩
  rw [← hq] at HB HL ⊢
  have h22 : (2 : Int) ≤ (n : Int) := by omega
  have h0n : (0 : Int) < (n : Int) := by omega
  have h1n : (1 : Int) < (n : Int) := by omega
  have hYi : (Y : Int) ≤ 200 := by omega
  have hYn : 2 + (Y : Int) ≤ (n : Int) := by omega
  obtain ⟨W, hW⟩ : ∃ W, W = w.alloc (.cells #[.int .i64 0, .int .i64 0, .string ⟨#[]⟩, .bool false] 60) := ⟨_, rfl⟩
  have BA : Below w.heap.size w W := by rw [hW]; exact (Below.refl _ _).alloc (Nat.le_refl _) _
  have hcv := conv_any (some ⟨g, off + 2, none⟩) q (cap - 2) W.drew (HB.out.below BA.drew)
  rw [HL.out] at hcv
  have hcv2 := hcv
  rw [show Y = 2 + Y - 2 by omega] at hcv2
  have d1 := (BA.cell (p := ⟨g, off, none⟩) hlt).trans c1
  have d2 := (BA.cell (p := ⟨g, off + 1, none⟩) hlt).trans c2
  have f0 : W.frozen? ⟨w.heap.size, 0, none⟩ = false := by rw [hW]; simp
  have f1 : W.frozen? ⟨w.heap.size, 1, none⟩ = false := by rw [hW]; simp
  have f2 : W.frozen? ⟨w.heap.size, 2, none⟩ = false := by rw [hW]; simp
  have f3 : W.frozen? ⟨w.heap.size, 3, none⟩ = false := by rw [hW]; simp
  have s0 : W.cell? ⟨w.heap.size, 0, none⟩ = some (.int .i64 0) := by rw [hW]; simp
  have s1 : W.cell? ⟨w.heap.size, 1, none⟩ = some (.int .i64 0) := by rw [hW]; simp
  have s2 : W.cell? ⟨w.heap.size, 2, none⟩ = some (.string ⟨#[]⟩) := by rw [hW]; simp
  have s3 : W.cell? ⟨w.heap.size, 3, none⟩ = some (.bool false) := by rw [hW]; simp
  have HW : Hid (W = w.alloc (.cells #[.int .i64 0, .int .i64 0, .string ⟨#[]⟩, .bool false] 60)) := hW
  clear hx1 hq hW
  have HBC : Hid (∀ v0 v1 v2 v3, Below w.heap.size w ((((W.setCell ⟨w.heap.size, 0, none⟩ v0).setCell ⟨w.heap.size, 1, none⟩ v1).setCell ⟨w.heap.size, 2, none⟩ v2).setCell ⟨w.heap.size, 3, none⟩ v3).drew) := fun v0 v1 v2 v3 =>
    ((((BA.setCell (Nat.le_refl _) v0).setCell (Nat.le_refl _) v1).setCell (Nat.le_refl _) v2).setCell (Nat.le_refl _) v3).drew
  clear BA
  by_cases h9 : (9 : Int) ≤ (n : Int)
  · go_enter Try.func25, Try.ntmps25
    go_wp2
    rw [← HW.out]
    go_region
    all_goals
      go_wp2
      refine bodyPost_ret (v := .tuple #[.agg #[.int .i64 2, .int .i64 0, .string (strV q), .bool false], .int .i64 (2 + (Y : Int))]) (by simp [results, Try.results25, go_sem, s0, s1, s2, s3]) rfl ⟨by go_num, ?_⟩
      exact HBC.out _ _ _ _
  · go_enter Try.func25, Try.ntmps25
    go_wp2
    rw [← HW.out]
    go_region
    all_goals
      go_wp2
      refine bodyPost_ret (v := .tuple #[.agg #[.int .i64 2, .int .i64 0, .string (strV q), .bool false], .int .i64 (2 + (Y : Int))]) (by simp [results, Try.results25, go_sem, s0, s1, s2, s3]) rfl ⟨by go_num, ?_⟩
      exact HBC.out _ _ _ _
set_option maxRecDepth 1000000 in
set_option maxHeartbeats 1000000 in
theorem take_cap_any (oa : Option Addr) (w : World) (h : hasBytes w oa [2#8, 0#8]) : TakeSaid w oa 2 [2#8, 0#8] := by
  unfold TakeSaid
  have HT : Hid (takeR [2#8, 0#8] = some (.inr (.inl (strV [])), 2)) := rfl
  rw [HT.out]
  obtain ⟨g, off, rfl, hlt, c1, c2⟩ := two_at h
  have hx1 : ((2#8).toNat : Int) = 2 := rfl
  have hx2 : ((0#8).toNat : Int) = 0 := rfl
  rw [hx1] at c1
  rw [hx2] at c2
  have hl2 : [2#8, 0#8].length = 2 := rfl
  rw [hl2]
  clear h hl2 hx1 hx2
  obtain ⟨W, hW⟩ : ∃ W, W = w.alloc (.cells #[.int .i64 0, .int .i64 0, .string ⟨#[]⟩, .bool false] 60) := ⟨_, rfl⟩
  have BA : Below w.heap.size w W := by rw [hW]; exact (Below.refl _ _).alloc (Nat.le_refl _) _
  have hcv := conv_any (some ⟨g, off, none⟩) [] 0 W.drew (has_nil _ _)
  have hcv0 : ([] : List (BitVec 8)).length = 0 := rfl
  rw [hcv0] at hcv
  obtain ⟨sv, hsv⟩ : ∃ sv, sv = strV [] := ⟨_, rfl⟩
  rw [← hsv] at hcv ⊢
  have d1 := (BA.cell (p := ⟨g, off, none⟩) hlt).trans c1
  have d2 := (BA.cell (p := ⟨g, off + 1, none⟩) hlt).trans c2
  have f0 : W.frozen? ⟨w.heap.size, 0, none⟩ = false := by rw [hW]; simp
  have f1 : W.frozen? ⟨w.heap.size, 1, none⟩ = false := by rw [hW]; simp
  have f2 : W.frozen? ⟨w.heap.size, 2, none⟩ = false := by rw [hW]; simp
  have f3 : W.frozen? ⟨w.heap.size, 3, none⟩ = false := by rw [hW]; simp
  have s0 : W.cell? ⟨w.heap.size, 0, none⟩ = some (.int .i64 0) := by rw [hW]; simp
  have s1 : W.cell? ⟨w.heap.size, 1, none⟩ = some (.int .i64 0) := by rw [hW]; simp
  have s2 : W.cell? ⟨w.heap.size, 2, none⟩ = some (.string ⟨#[]⟩) := by rw [hW]; simp
  have s3 : W.cell? ⟨w.heap.size, 3, none⟩ = some (.bool false) := by rw [hW]; simp
  have HW : Hid (W = w.alloc (.cells #[.int .i64 0, .int .i64 0, .string ⟨#[]⟩, .bool false] 60)) := hW
  clear hW hcv0 hsv
  have HBC : Hid (∀ v0 v1 v2 v3, Below w.heap.size w ((((W.setCell ⟨w.heap.size, 0, none⟩ v0).setCell ⟨w.heap.size, 1, none⟩ v1).setCell ⟨w.heap.size, 2, none⟩ v2).setCell ⟨w.heap.size, 3, none⟩ v3).drew) := fun v0 v1 v2 v3 =>
    ((((BA.setCell (Nat.le_refl _) v0).setCell (Nat.le_refl _) v1).setCell (Nat.le_refl _) v2).setCell (Nat.le_refl _) v3).drew
  clear BA
  go_enter Try.func25, Try.ntmps25
  go_wp2
  rw [← HW.out]
  go_region
  all_goals
    go_wp2
    refine bodyPost_ret (v := .tuple #[.agg #[.int .i64 2, .int .i64 0, .string sv, .bool false], .int .i64 2]) (by simp [results, Try.results25, go_sem, s0, s1, s2, s3]) rfl ⟨rfl, ?_⟩
    exact HBC.out _ _ _ _

set_option maxRecDepth 1000000 in
set_option maxHeartbeats 1000000 in
theorem take_twoN_any (oa : Option Addr) (cap : Nat) (y : BitVec 8) (r : List (BitVec 8)) (w : World) (h : hasBytes w oa (2#8 :: y :: r)) (hY : ¬ (y.toNat ≤ 200 ∧ y.toNat ≤ r.length)) : TakeSaid w oa cap (2#8 :: y :: r) := by
  unfold TakeSaid
  rw [takeR_two, if_neg hY]
  obtain ⟨g, off, rfl, hlt, c1, c2⟩ := two_at h
  have hx1 : ((2#8).toNat : Int) = 2 := rfl
  rw [hx1] at c1
  clear h hx1
  obtain ⟨n, hn⟩ : ∃ n, n = (2#8 :: y :: r).length := ⟨_, rfl⟩
  have hn2 : n = r.length + 2 := hn
  rw [← hn]
  clear hn
  have hy8 := y.isLt
  generalize y.toNat = Y at *
  have hYn : 200 < Y ∨ (Y ≤ 200 ∧ n < 2 + Y) := by omega
  have h2n : 2 ≤ n := by omega
  clear hY hn2
  have h22 : (2 : Int) ≤ (n : Int) := by omega
  have h0n : (0 : Int) < (n : Int) := by omega
  have h1n : (1 : Int) < (n : Int) := by omega
  rcases hYn with hY | ⟨hY, hYn⟩
  · have hYi : ¬ (Y : Int) ≤ 200 := by omega
    by_cases h9 : (9 : Int) ≤ (n : Int)
    all_goals
      go_enter Try.func25, Try.ntmps25
      go_wp2
      refine bodyPost_ret (v := .tuple #[Th.zero.val, .int .i64 0]) (by simp [results, Try.results25, go_sem, Th.val, Th.zero]) rfl ⟨rfl, ?_⟩
      exact (by repeat' (with_reducible first | exact Below.refl _ _ | refine Below.drew ?_ | refine _root_.Go.below_drewN ?_ _ | refine Below.alloc ?_ ?_ _ | refine Below.setCell ?_ ?_ _ | exact Nat.le_refl _ | (simp; done) | (simp; omega)))
  · have hYi : (Y : Int) ≤ 200 := by omega
    have hYn2 : ¬ 2 + (Y : Int) ≤ (n : Int) := by omega
    by_cases h9 : (9 : Int) ≤ (n : Int)
    all_goals
      go_enter Try.func25, Try.ntmps25
      go_wp2
      refine bodyPost_ret (v := .tuple #[Th.zero.val, .int .i64 0]) (by simp [results, Try.results25, go_sem, Th.val, Th.zero]) rfl ⟨rfl, ?_⟩
      exact (by repeat' (with_reducible first | exact Below.refl _ _ | refine Below.drew ?_ | refine _root_.Go.below_drewN ?_ _ | refine Below.alloc ?_ ?_ _ | refine Below.setCell ?_ ?_ _ | exact Nat.le_refl _ | (simp; done) | (simp; omega)))

theorem refTake_any (oa : Option Addr) (cap : Nat) (p : List (BitVec 8)) (w : World) (h : hasBytes w oa p) (hc : p.length ≤ cap) : TakeSaid w oa cap p := by
  match p, h, hc with
  | [], _, _ => exact take_short_any _ _ _ _ (by decide)
  | [k], _, _ => exact take_short_any _ _ _ _ (by rw [List.length_singleton]; omega)
  | k :: y :: r, h, hc =>
    by_cases h1 : k = 1#8
    · subst h1
      exact take_one_any _ _ _ _ _ h hc
    by_cases h2 : k = 2#8
    · subst h2
      by_cases hY : y.toNat ≤ 200 ∧ y.toNat ≤ r.length
      · by_cases hcap : cap = 2
        · subst hcap
          have hr : r = [] := by
            rw [List.length_cons, List.length_cons] at hc
            exact List.length_eq_zero_iff.1 (by omega)
          subst hr
          have hy : y = 0#8 := BitVec.eq_of_toNat_eq (by have := hY.2; simp at this; simpa using this)
          subst hy
          exact take_cap_any _ _ h
        · exact take_two_any _ _ _ _ _ h hc hY.1 hY.2 hcap
      · exact take_twoN_any _ _ _ _ _ h hY
    by_cases h3 : k = 3#8
    · subst h3
      exact take_three_any _ _ _ _ _ h
    · exact take_other_any _ _ _ _ _ _ h h1 h2 h3
end Go.Proofs.Ytfcoanlegjddpab
