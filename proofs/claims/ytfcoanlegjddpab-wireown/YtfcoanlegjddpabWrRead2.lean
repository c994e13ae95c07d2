/-
  wire's reader: thing, and read, each by a contract.
-/
import Derived.Test.YtfcoanlegjddpabWrRead
import Derived.Test.YtfcoanlegjddpabWrConv
import Derived.Test.YtfcoanlegjddpabCrAdd
namespace Go.Proofs.Ytfcoanlegjddpab
open Go.RowKit

theorem RdAt.turn {w w' : World} {r c : Nat} {v v' : Value} {l : List It} {p : List (BitVec 8)} (h : RdAt w r p) (hc : Crate w (r + 1) c v l) (ht : Turn w w' c v v') : RdAt w' r p := by
  obtain ⟨oa, cap, h1, h2, h3, h4⟩ := h
  have hr : r < w.heap.size := (Array.getElem?_eq_some_iff.1 h1).1
  have keep : ∀ k, k ≤ r → w'.heap[k]? = w.heap[k]? := fun k hk => ht.block k (by omega) fun hf => by have := (hc.1.lt hf).1; omega
  refine ⟨oa, cap, (keep r (Nat.le_refl _)).trans h1, fun j x hj => ?_, h3, h4⟩
  obtain ⟨b, off, rfl, hcell⟩ := h2 j x hj
  refine ⟨b, off, rfl, ?_⟩
  have := h4 _ rfl
  rw [← hcell]
  unfold World.cell?
  rw [keep b (by simpa using Nat.le_of_lt this)]
theorem Crate.rd {w w' : World} {r c : Nat} {v : Value} {l : List It} (hc : Crate w (r + 1) c v l) (h : Rd1 r w w') : Crate w' (r + 1) c v l :=
  ⟨hc.1.keep fun k hk => h.block k fun e => by have := (hc.1.lt hk).1; omega, hc.2⟩
theorem Turn.belowR {w w' : World} {r c : Nat} {v v' : Value} {l : List It} (hc : Crate w (r + 1) c v l) (ht : Turn w w' c v v') (hr : r < w.heap.size) : Below r w w' :=
  ⟨ht.os, ht.tape, ht.output, ht.size, fun k hk => ht.block k (by omega) fun hf => by have := (hc.1.lt hf).1; omega⟩
theorem i64_of_u64 (n : Nat) (h : n < 2 ^ 64) : IntKind.i64.wrap (n : Int) = i64Of n := by
  unfold i64Of
  simp [IntKind.wrap, IntKind.bits, IntKind.signed]
  split <;> split <;> omega

theorem readT_1 {p : List (BitVec 8)} (h : numV (p.take 1) = 1) : readT p = (some (.inl (i64Of (numV ((p.drop 1).take 8)))), (p.drop 1).drop 8) := by
  unfold readT
  simp only [h]
  rfl
theorem readT_2 {p : List (BitVec 8)} (h : numV (p.take 1) = 2) : readT p = (some (.inr (.inl (strV (((p.drop 1).drop 1).take (numV ((p.drop 1).take 1)))))), ((p.drop 1).drop 1).drop (numV ((p.drop 1).take 1))) := by
  unfold readT
  simp only [h]
  rfl
theorem readT_3 {p : List (BitVec 8)} (h : numV (p.take 1) = 3) : readT p = (some (.inr (.inr (decide (numV ((p.drop 1).take 1) = 1)))), (p.drop 1).drop 1) := by
  unfold readT
  simp only [h]
  rfl
theorem readT_o {p : List (BitVec 8)} (h1 : numV (p.take 1) ≠ 1) (h2 : numV (p.take 1) ≠ 2) (h3 : numV (p.take 1) ≠ 3) : readT p = (none, p.drop 1) := by
  unfold readT
  simp only [if_neg h1, if_neg h2, if_neg h3]
theorem num_one_lt (p : List (BitVec 8)) : numV (p.take 1) ≤ 255 := by
  have h1 := num_lt (p.take 1)
  have h2 : 256 ^ (p.take 1).length ≤ 256 ^ 1 := Nat.pow_le_pow_right (by decide) (by rw [List.length_take]; omega)
  omega
theorem num_eight_lt (p : List (BitVec 8)) : numV (p.take 8) < 18446744073709551616 := by
  have h1 := num_lt (p.take 8)
  have h2 : 256 ^ (p.take 8).length ≤ 256 ^ 8 := Nat.pow_le_pow_right (by decide) (by rw [List.length_take]; omega)
  omega

set_option maxRecDepth 1000000 in
set_option maxHeartbeats 1000000 in
theorem rthing_any (r c : Nat) (p : List (BitVec 8)) (v : Value) (l : List It) (w : World) (h : RdAt w r p) (hc : Crate w (r + 1) c v l) :
    Calls Try.prog 36 #[.pointer (some ⟨r, 0, none⟩), .pointer (some ⟨c, 0, none⟩)] w fun e w' => ∃ v', e = .returned (.tuple #[]) ∧ Crate w' (r + 1) c v' (putO l (readT p).1) ∧ RdAt w' r (readT p).2 ∧ Below r w w' := by
  have HR : Hid (RdAt w r p) := h
  have HC : Hid (Crate w (r + 1) c v l) := hc
  have hl := num_one_lt p
  have HRL : Hid (∀ W, Rd1 r w W → r < W.heap.size) := fun W hW => by
    obtain ⟨oa, cap, h1, _⟩ := HR.out
    rw [hW.size]
    exact (Array.getElem?_eq_some_iff.1 h1).1
  obtain ⟨y, hy⟩ : ∃ y, y = numV (p.take 1) := ⟨_, rfl⟩
  have HY : Hid (numV (p.take 1) = y) := hy.symm
  rw [← hy] at hl
  clear h hc hy
  by_cases h1 : y = 1
  · subst h1
    have HT : Hid (readT p = (some (.inl (i64Of (numV ((p.drop 1).take 8)))), (p.drop 1).drop 8)) := readT_1 HY.out
    rw [HT.out]
    obtain ⟨N, hN⟩ : ∃ N, N = numV ((p.drop 1).take 8) := ⟨_, rfl⟩
    have HN : Hid (numV ((p.drop 1).take 8) = N) := hN.symm
    have hNl : N < 18446744073709551616 := by rw [hN]; exact num_eight_lt _
    rw [← hN]
    have hw := i64_of_u64 N hNl
    clear hN
    simp only [putO]
    go_enter Try.func36, Try.ntmps36
    go_wp2_with fail
    refine (number_any r 1 p w HR.out (by omega)).mono ?_
    rw [HY.out]
    rintro e w1 ⟨rfl, h2, h3⟩
    go_wp2_with fail
    refine (number_any r 8 (p.drop 1) w1 h2 (by omega)).mono ?_
    rw [HN.out]
    rintro e w2 ⟨rfl, h4, h5⟩
    have HX : Hid (RdAt w2 r ((p.drop 1).drop 8) ∧ Crate w2 (r + 1) c v l ∧ Rd1 r w w2) := ⟨h4, (HC.out.rd h3).rd h5, h3.trans h5⟩
    clear h2 h3 h4 h5
    go_wp2_with fail
    refine (addInt_any (i64Of N) l w2 _ _ _ HX.out.2.1).mono ?_
    rintro e w3 ⟨v', rfl, h6, h7⟩
    have HZ : Hid (Crate w3 (r + 1) c v' (put l (.inl (i64Of N))) ∧ RdAt w3 r ((p.drop 1).drop 8) ∧ Below r w w3) :=
      ⟨h6, HX.out.1.turn HX.out.2.1 h7, (HX.out.2.2.below (Nat.le_refl _)).trans (h7.belowR HX.out.2.1 (HRL.out _ HX.out.2.2))⟩
    clear h6 h7
    go_wp2
    exact bodyPost_end (v := .tuple #[]) (by simp [results, Try.results36, go_sem]) rfl ⟨v', rfl, HZ.out⟩
  by_cases h2 : y = 2
  · subst h2
    have HT : Hid (readT p = (some (.inr (.inl (strV (((p.drop 1).drop 1).take (numV ((p.drop 1).take 1)))))), ((p.drop 1).drop 1).drop (numV ((p.drop 1).take 1)))) := readT_2 HY.out
    rw [HT.out]
    obtain ⟨N, hN⟩ : ∃ N, N = numV ((p.drop 1).take 1) := ⟨_, rfl⟩
    have HN : Hid (numV ((p.drop 1).take 1) = N) := hN.symm
    have hNl : N ≤ 255 := by rw [hN]; exact num_one_lt _
    rw [← hN]
    have hw : IntKind.i64.wrap (N : Int) = N := by simp [IntKind.wrap, IntKind.bits, IntKind.signed]; omega
    clear hN
    obtain ⟨q, hq⟩ : ∃ q, q = ((p.drop 1).drop 1).take N := ⟨_, rfl⟩
    have HQ : Hid (((p.drop 1).drop 1).take N = q) := hq.symm
    have hsz : (strV q).size ≤ 281474976710656 := by rw [hq, str_size, List.length_take]; omega
    have HSZ : Hid ((strV q).size ≤ 281474976710656) := hsz
    rw [← hq]
    clear hq hsz
    simp only [putO]
    go_enter Try.func36, Try.ntmps36
    go_wp2_with fail
    refine (number_any r 1 p w HR.out (by omega)).mono ?_
    rw [HY.out]
    rintro e w1 ⟨rfl, h2, h3⟩
    go_wp2_with fail
    refine (number_any r 1 (p.drop 1) w1 h2 (by omega)).mono ?_
    rw [HN.out]
    rintro e w2 ⟨rfl, h4, h5⟩
    have HX : Hid (RdAt w2 r ((p.drop 1).drop 1) ∧ Crate w2 (r + 1) c v l ∧ Rd1 r w w2) := ⟨h4, (HC.out.rd h3).rd h5, h3.trans h5⟩
    clear h2 h3 h4 h5
    go_wp2_with fail
    refine (take_any r N ((p.drop 1).drop 1) w2 HX.out.1).mono ?_
    rw [HQ.out]
    rintro e w3 ⟨oa, cap, rfl, h6, _, h7, h8⟩
    have HX3 : Hid (RdAt w3 r (((p.drop 1).drop 1).drop N) ∧ Crate w3 (r + 1) c v l ∧ Rd1 r w w3) := ⟨h7, HX.out.2.1.rd h8, HX.out.2.2.trans h8⟩
    have hcv := conv_any oa q cap w3 h6
    clear h6 h7 h8
    generalize q.length = m at *
    go_wp2_with fail
    refine (addText_any (strV q) l w3 _ _ _ HX3.out.2.1 HSZ.out).mono ?_
    rintro e w4 ⟨v', rfl, h6, h7⟩
    have HZ : Hid (Crate w4 (r + 1) c v' (put l (.inr (.inl (strV q)))) ∧ RdAt w4 r (((p.drop 1).drop 1).drop N) ∧ Below r w w4) :=
      ⟨h6, HX3.out.1.turn HX3.out.2.1 h7, (HX3.out.2.2.below (Nat.le_refl _)).trans (h7.belowR HX3.out.2.1 (HRL.out _ HX3.out.2.2))⟩
    clear h6 h7
    go_wp2
    exact bodyPost_end (v := .tuple #[]) (by simp [results, Try.results36, go_sem]) rfl ⟨v', rfl, HZ.out⟩
  by_cases h3 : y = 3
  · subst h3
    have HT : Hid (readT p = (some (.inr (.inr (decide (numV ((p.drop 1).take 1) = 1)))), (p.drop 1).drop 1)) := readT_3 HY.out
    rw [HT.out]
    obtain ⟨N, hN⟩ : ∃ N, N = numV ((p.drop 1).take 1) := ⟨_, rfl⟩
    have HN : Hid (numV ((p.drop 1).take 1) = N) := hN.symm
    rw [← hN]
    have hb : ((N : Int) == 1) = decide (N = 1) := by rw [Bool.eq_iff_iff, beq_iff_eq, decide_eq_true_eq]; omega
    have HBB : Hid (((N : Int) == 1) = decide (N = 1)) := hb
    clear hN hb
    simp only [putO]
    go_enter Try.func36, Try.ntmps36
    go_wp2_with fail
    refine (number_any r 1 p w HR.out (by omega)).mono ?_
    rw [HY.out]
    rintro e w1 ⟨rfl, h2, h3⟩
    go_wp2_with fail
    refine (number_any r 1 (p.drop 1) w1 h2 (by omega)).mono ?_
    rw [HN.out]
    rintro e w2 ⟨rfl, h4, h5⟩
    have HX : Hid (RdAt w2 r ((p.drop 1).drop 1) ∧ Crate w2 (r + 1) c v l ∧ Rd1 r w w2) := ⟨h4, (HC.out.rd h3).rd h5, h3.trans h5⟩
    clear h2 h3 h4 h5
    go_wp2_with fail
    refine (addBool_any ((N : Int) == 1) l w2 _ _ _ HX.out.2.1).mono ?_
    rw [HBB.out]
    rintro e w3 ⟨v', rfl, h6, h7⟩
    have HZ : Hid (Crate w3 (r + 1) c v' (put l (.inr (.inr (decide (N = 1))))) ∧ RdAt w3 r ((p.drop 1).drop 1) ∧ Below r w w3) :=
      ⟨h6, HX.out.1.turn HX.out.2.1 h7, (HX.out.2.2.below (Nat.le_refl _)).trans (h7.belowR HX.out.2.1 (HRL.out _ HX.out.2.2))⟩
    clear h6 h7
    go_wp2
    exact bodyPost_end (v := .tuple #[]) (by simp [results, Try.results36, go_sem]) rfl ⟨v', rfl, HZ.out⟩
  · have HT : Hid (readT p = (none, p.drop 1)) := readT_o (by rw [HY.out]; exact h1) (by rw [HY.out]; exact h2) (by rw [HY.out]; exact h3)
    rw [HT.out]
    have e1 : ((y : Int) == 1) = false := by simp; omega
    have e2 : ((y : Int) == 2) = false := by simp; omega
    have e3 : ((y : Int) == 3) = false := by simp; omega
    clear h1 h2 h3
    simp only [putO]
    go_enter Try.func36, Try.ntmps36
    go_wp2_with fail
    refine (number_any r 1 p w HR.out (by omega)).mono ?_
    rw [HY.out]
    rintro e w1 ⟨rfl, h2, h3⟩
    have HX : Hid (Crate w1 (r + 1) c v l ∧ RdAt w1 r (p.drop 1) ∧ Below r w w1) := ⟨HC.out.rd h3, h2, h3.below (Nat.le_refl _)⟩
    clear h2 h3
    go_wp2
    exact bodyPost_end (v := .tuple #[]) (by simp [results, Try.results36, go_sem]) rfl ⟨v, rfl, HX.out⟩

set_option maxRecDepth 1000000 in
set_option maxHeartbeats 1000000 in
theorem read_any (oa : Option Addr) (cap : Nat) (p : List (BitVec 8)) (w : World) (h : hasBytes w oa p) (hc : p.length ≤ cap) (ho : ∀ g, oa = some g → g.block < w.heap.size) :
    Calls Try.prog 21 #[.slice oa p.length cap] w fun e w' => ∃ c v, e = .returned (.pointer (some ⟨c, 0, none⟩)) ∧ Crate w' w.heap.size c v (readV p) ∧ Below w.heap.size w w' := by
  have R0 : Hid (RdAt (w.alloc (.cells #[.slice oa p.length cap] 76)) w.heap.size p) :=
    ⟨oa, cap, heap_alloc_new w _, h.below ((Below.refl _ _).alloc (Nat.le_refl _) _), hc, ho⟩
  have B0 : Hid (Below w.heap.size w (w.alloc (.cells #[.slice oa p.length cap] 76))) := (Below.refl _ _).alloc (Nat.le_refl _) _
  have S0 : Hid ((w.alloc (.cells #[.slice oa p.length cap] 76)).heap.size = w.heap.size + 1) := by show _ = _; simp
  obtain ⟨N, hN⟩ : ∃ N, N = numV ((p.drop 6).take 1) := ⟨_, rfl⟩
  have HN : Hid (numV ((p.drop 6).take 1) = N ∧ readV p = readN N ((p.drop 6).drop 1) []) := ⟨hN.symm, by rw [hN]; rfl⟩
  have hNl : N ≤ 255 := by rw [hN]; exact num_one_lt _
  rw [HN.out.2]
  clear h hc ho hN
  go_enter Try.func21, Try.ntmps21
  go_wp2_with fail
  refine (take_any w.heap.size 6 p _ R0.out).mono ?_
  rintro e w1 ⟨o1, c1, rfl, _, _, h2, h3⟩
  have HX : Hid (RdAt w1 w.heap.size (p.drop 6) ∧ Below w.heap.size w w1 ∧ w1.heap.size = w.heap.size + 1) := ⟨h2, B0.out.trans (h3.below (Nat.le_refl _)), h3.size.trans S0.out⟩
  clear h2 h3
  go_wp2_with fail
  refine (new_any _).mono ?_
  have HB1 : Hid (Below w1.heap.size w1 (w1.alloc (.cells #[.slice none 0 0] 67))) := (Below.refl _ _).alloc (Nat.le_refl _) _
  rintro e w2 ⟨rfl, rfl⟩
  have hcr : Crate (w1.alloc (.cells #[.slice none 0 0] 67)) (w.heap.size + 1) w1.heap.size (.slice none 0 0) [] := by
    have := crate_new w1
    rwa [HX.out.2.2] at this ⊢
  have hrd : RdAt (w1.alloc (.cells #[.slice none 0 0] 67)) w.heap.size (p.drop 6) := by
    obtain ⟨oa, cap, a1, a2, a3, a4⟩ := HX.out.1
    exact ⟨oa, cap, (HB1.out.block _ (Array.getElem?_eq_some_iff.1 a1).1).trans a1, a2.below HB1.out, a3, a4⟩
  generalize hw2 : w1.alloc (.cells #[.slice none 0 0] 67) = w2 at *
  generalize w1.heap.size = c at *
  have HY : Hid (Crate w2 (w.heap.size + 1) c (.slice none 0 0) [] ∧ RdAt w2 w.heap.size (p.drop 6) ∧ Below w.heap.size w w2) := ⟨hcr, hrd, HX.out.2.1.trans (HB1.out.mono (by have := HX.out.2.2; omega))⟩
  clear hw2 hcr hrd HB1 HX
  go_wp2_with fail
  refine (number_any w.heap.size 1 (p.drop 6) w2 HY.out.2.1 (by omega)).mono ?_
  rw [HN.out.1]
  rintro e w3 ⟨rfl, h2, h3⟩
  have HZ : Hid (Crate w3 (w.heap.size + 1) c (.slice none 0 0) [] ∧ RdAt w3 w.heap.size ((p.drop 6).drop 1) ∧ Below w.heap.size w w3) := ⟨HY.out.1.rd h3, h2, HY.out.2.2.trans (h3.below (Nat.le_refl _))⟩
  clear h2 h3 HY
  go_wp2
  go_loopg [10] N (fun gk i wr => ∃ k : Nat, ∃ v l q, gk = N - k ∧ i = .int .u64 (k : Int) ∧ k ≤ N ∧ readN (N - k) q l = readN N ((p.drop 6).drop 1) [] ∧ Crate wr (w.heap.size + 1) c v l ∧ RdAt wr w.heap.size q ∧ Below w.heap.size w wr)
  case atStart => exact ⟨0, _, _, _, rfl, rfl, by omega, rfl, HZ.out⟩
  case round =>
    obtain ⟨k, v, l, q, rfl, rfl, hk, he, h1, h2, h3⟩ := hrel
    have HM : Hid (readN (N - k) q l = readN N ((p.drop 6).drop 1) [] ∧ Crate wr (w.heap.size + 1) c v l ∧ RdAt wr w.heap.size q ∧ Below w.heap.size w wr) := ⟨he, h1, h2, h3⟩
    clear he h1 h2 h3 HZ
    by_cases hlt : k < N
    · have hki : (k : Int) < (N : Int) := by omega
      go_wp2_with fail
      refine (rthing_any w.heap.size c q v l wr HM.out.2.2.1 HM.out.2.1).mono ?_
      rintro e w4 ⟨v', rfl, h1, h2, h3⟩
      have HS : Hid (readN (N - (k + 1)) (readT q).2 (putO l (readT q).1) = readN N ((p.drop 6).drop 1) [] ∧ Crate w4 (w.heap.size + 1) c v' (putO l (readT q).1) ∧ RdAt w4 w.heap.size (readT q).2 ∧ Below w.heap.size w w4) := by
        refine ⟨?_, h1, h2, HM.out.2.2.2.trans h3⟩
        rw [← HM.out.1, show N - k = (N - (k + 1)) + 1 by omega, readN]
      clear h1 h2 h3
      go_wp2
      go_roundg (N - (k + 1))
      case rel => exact ⟨k + 1, _, _, _, rfl, by go_num, by omega, HS.out⟩
      case measure => omega
    · have hkn : k = N := by omega
      subst hkn
      have HF : Hid (l = readN k ((p.drop 6).drop 1) []) := by
        have := HM.out.1
        rw [Nat.sub_self, readN] at this
        exact this
      go_wp2
      go_ret
      rw [← HF.out]
      exact ⟨c, v, rfl, ⟨HM.out.2.1.1.mono (by omega), HM.out.2.1.2⟩, HM.out.2.2.2⟩
end Go.Proofs.Ytfcoanlegjddpab
