/-
  wire's withThing, by a contract: a row of bytes of the call's own grows by a thing's bytes.
-/
import Derived.Test.YtfcoanlegjddpabWrNum
namespace Go.Proofs.Ytfcoanlegjddpab
open Go.RowKit

theorem cell_two_new (w : World) (x y : Value) (t : TypeId) : ∀ j u, [x, y][j]? = some u → (w.alloc (.cells #[x, y] t)).cell? ((⟨w.heap.size, 0, none⟩ : Addr).add j) = some u := by
  intro j u hj
  match j, hj with
  | 0, hj => simp at hj; subst hj; simp [Addr.add]
  | 1, hj => simp at hj; subst hj; simp [Addr.add]
theorem u8_one (p : List (BitVec 8)) : ∀ u ∈ p.map u8C, u.oneCell' = true := fun u hu => by
  obtain ⟨x, _, rfl⟩ := List.mem_map.1 hu
  rfl
theorem str_cells (s : ByteArray) : Lib.strCells s = (bytesS s).map u8C := by
  unfold Lib.strCells bytesS
  rw [List.map_map]
  rfl
theorem num_u64 (n : Int) : IntKind.u64.wrap n = ((n % 2 ^ 64).toNat : Int) := by
  simp [IntKind.wrap, IntKind.bits, IntKind.signed]
  omega
/-- One append of bytes that have been laid. -/
theorem brow_put {w : World} {B : Nat} {o : Option Addr} {c : Nat} {q : List (BitVec 8)} (h : BRow w B (.slice o q.length c) q) (hB : B ≤ w.heap.size) : w.ownsRow B 5 1 (.slice o q.length c) q.length (q.map u8C) ∧ B ≤ w.heap.size := ⟨h, hB⟩

set_option maxRecDepth 1000000 in
set_option maxHeartbeats 4000000 in
theorem withThing_any (p : Value) (l : List It) (k : Nat) (x : It) (q : List (BitVec 8)) (w : World) (B : Nat) (v : Value) (hr : Reads w p l) (hx : l[k]? = some x) (h : BRow w B v q) (hB : B ≤ w.heap.size) (ht : longT x = false) (hq : q.length ≤ 90000) :
    Calls Try.prog 18 #[v, p, .int .i64 (k : Int)] w fun e w' => ∃ v', e = .returned v' ∧ BRow w' B v' (q ++ thingV x) ∧ Below B w w' := by
  have H : Hid (BRow w B v q) := h
  have HB0 : Hid (B ≤ w.heap.size) := hB
  have HR : Hid (Reads w p l) := hr
  have HA : Hid (itAt l k = some x) := by show itAt l k = some x; rw [itAt_nat]; exact hx
  have HT : Hid (longT x = false) := ht
  obtain ⟨o0, c0, rfl⟩ := h.form
  obtain ⟨m0, hm0⟩ : ∃ m, m = q.length := ⟨_, rfl⟩
  rw [← hm0] at H hq
  have HM : Hid (m0 = q.length) := hm0
  rw [← hm0]
  have hown : w.ownsRow B 5 1 (.slice o0 m0 c0) m0 (q.map u8C) := by rw [hm0]; exact h
  have HO : Hid (w.ownsRow B 5 1 (.slice o0 m0 c0) m0 (q.map u8C)) := hown
  clear h hB hm0 hr hx ht hown
  obtain ⟨i0, hi0, hz0, hz1, hz2⟩ := sinfo_parts infoB
  have HI : Hid (Try.prog.info? 5 = some i0 ∧ i0.zero = some (.int .u8 0) ∧ i0.size = 1 ∧ i0.bytes = 1) := ⟨hi0, hz0, hz1, hz2⟩
  clear hi0 hz0 hz1 hz2
  rcases x with n | s | b
  · have HQ : Hid (numOf (itAt l k) = (n, true)) := by show _ = _; rw [HA.out]; rfl
    obtain ⟨N, hN⟩ : ∃ N : Nat, n % 18446744073709551616 = (N : Int) := ⟨(n % 18446744073709551616).toNat, by omega⟩
    have HNN : Hid ((n % 2 ^ 64).toNat = N) := by show _ = _; omega
    have hnu : IntKind.u64.wrap n = (N : Int) := by rw [num_u64]; omega
    go_enter Try.func18, Try.ntmps18
    go_wp2_with fail
    refine (int_any _ l _ _ HR.out).mono ?_
    rw [HQ.out]
    rintro e w1 ⟨rfl, hw⟩
    obtain rfl := hw.symm
    obtain ⟨hi, hz0, hz1, hz2⟩ := HI.out
    have hown := HO.out
    have hsz := HB0.out
    go_wp2_with (at_builtin; refine wpList_append_own_at _ rfl _ _ 22 rfl B 5 i0 (.int .u8 0) 1 1 Try.underlying22 hi hz0 hz1 hz2 rfl (by decide) _ m0 _ rfl (hown.alloc _) ⟨w.heap.size, 0, none⟩ 1 1 [.int .u8 1] rfl rfl (cell_one_new _ _ _) (one_of _ rfl) (by unfold maxLen; omega) (by omega) (by simp; omega) ?_)
    intro v1 w1 hown' hgrow _ _
    have h1 := H.out.below ((Below.refl w.heap.size w).alloc (Nat.le_refl _) (.cells #[.int .u8 1] 5))
    obtain ⟨h2, h3⟩ := brow_append (news := [1#8]) h1 (by simp; omega) (by rw [← HM.out]; rfl) hown' hgrow
    have HN : Hid (BRow w1 B v1 (q ++ [1#8]) ∧ Below B w w1) := ⟨h2, ((Below.refl _ _).alloc hsz _).trans h3⟩
    clear hown hown' hgrow h1 h2 h3 hi hz0 hz1 hz2
    have HSZ : Hid (q.length + 1 ≤ 100000) := by show _ ≤ _; rw [← HM.out]; omega
    go_wp2_with fail
    refine (withNumber_any N 8 (q ++ [1#8]) _ B _ HN.out.1 (Nat.le_trans HB0.out HN.out.2.size) (by omega) (by rw [List.length_append]; exact HSZ.out)).mono ?_
    rintro e w2 ⟨v2, rfl, h1, h2⟩
    have HE : Hid (BRow w2 B v2 (q ++ thingV (.inl n)) ∧ Below B w w2) := ⟨by rw [thingV, HNN.out, ← List.singleton_append, ← List.append_assoc]; exact h1, HN.out.2.trans h2⟩
    obtain ⟨o2, n2, c2, rfl⟩ := h1.any
    clear h1 h2
    go_wp2
    go_ret
    exact ⟨_, rfl, HE.out.1, HE.out.2⟩
  · have hs : s.size ≤ 200 := by have := HT.out; simpa [longT] using this
    have HQ : Hid (numOf (itAt l k) = (0, false)) := by show _ = _; rw [HA.out]; rfl
    have HQ2 : Hid (textOf (itAt l k) = (s, true)) := by show _ = _; rw [HA.out]; rfl
    have h8 : (s.size : Int) % 256 = s.size := by omega
    go_enter Try.func18, Try.ntmps18
    go_wp2_with fail
    refine (int_any _ l _ _ HR.out).mono ?_
    rw [HQ.out]
    rintro e w1 ⟨rfl, hw⟩
    obtain rfl := hw.symm
    go_wp2_with fail
    refine (text_any _ l _ _ HR.out (by rw [HQ2.out]; show s.size ≤ _; omega)).mono ?_
    rw [HQ2.out]
    rintro e w2 ⟨rfl, hb0⟩
    have HB2 : Hid (Below w.heap.size w w2) := hb0
    have H2 : Hid (BRow w2 B (.slice o0 m0 c0) q) := H.out.below hb0
    obtain ⟨hi, hz0, hz1, hz2⟩ := HI.out
    have hown : w2.ownsRow B 5 1 (.slice o0 m0 c0) m0 (q.map u8C) := by have := H2.out; rw [HM.out] at this ⊢; exact this
    have hsz : B ≤ w2.heap.size := Nat.le_trans HB0.out hb0.size
    have hcell : Value.int IntKind.u8 (s.size : Int) = u8C (BitVec.ofNat 8 s.size) := by rw [← u8_num, h8]
    have HC : Hid (Value.int IntKind.u8 (s.size : Int) = u8C (BitVec.ofNat 8 s.size)) := hcell
    clear hcell hb0
    go_wp2_with (at_builtin; refine wpList_append_own_at _ rfl _ _ 22 rfl B 5 i0 (.int .u8 0) 1 1 Try.underlying22 hi hz0 hz1 hz2 rfl (by decide) _ m0 _ rfl (hown.alloc _) ⟨w2.heap.size, 0, none⟩ 2 2 [.int .u8 2, .int .u8 s.size] rfl rfl (cell_two_new _ _ _ _) (by rw [HC.out]; exact u8_one [2#8, BitVec.ofNat 8 s.size]) (by unfold maxLen; omega) (by omega) (by simp; omega) ?_)
    intro v1 w1 hown' hgrow _ _
    rw [HC.out] at hown' hgrow
    have h1 := H2.out.below ((Below.refl w2.heap.size w2).alloc (Nat.le_refl _) (.cells #[.int .u8 2, u8C (BitVec.ofNat 8 s.size)] 5))
    obtain ⟨h2, h3⟩ := brow_append (news := [2#8, BitVec.ofNat 8 s.size]) h1 (by simp; omega) (by rw [← HM.out]; rfl) hown' hgrow
    have HN : Hid (BRow w1 B v1 (q ++ [2#8, BitVec.ofNat 8 s.size]) ∧ Below B w w1) := ⟨h2, ((HB2.out.mono HB0.out).trans ((Below.refl _ _).alloc hsz _)).trans h3⟩
    have hown2 : w1.ownsRow B 5 1 v1 (m0 + 2) ((q ++ [2#8, BitVec.ofNat 8 s.size]).map u8C) := by have := h2; unfold BRow at this; rw [List.length_append, ← HM.out] at this; exact this
    have hsz2 : B ≤ w1.heap.size := Nat.le_trans hsz (by have := h3.size; simp at this; omega)
    have HL : Hid ((q ++ [2#8, BitVec.ofNat 8 s.size]).length = m0 + 2) := by show _ = _; rw [List.length_append, ← HM.out]; rfl
    clear hown hown' hgrow h1 h2 h3
    go_wp2_with (at_builtin; refine Lib.wpList_append_own_string _ rfl _ _ 22 9 rfl B 5 i0 Try.underlying22 Try.underlying9 hi hz0 hz1 hz2 _ (m0 + 2) _ rfl hown2 s rfl (by unfold maxLen; omega) (by omega) hsz2 ?_)
    intro v2 w3 hown' hgrow _
    rw [str_cells] at hown'
    obtain ⟨h2, h3⟩ := brow_append (news := bytesS s) HN.out.1 hsz2 (by rw [HL.out, bytes_len]) (by simpa using hown') hgrow
    have HE : Hid (BRow w3 B v2 (q ++ thingV (.inr (.inl s))) ∧ Below B w w3) := ⟨by rw [thingV]; rw [List.append_assoc] at h2; exact h2, HN.out.2.trans h3⟩
    obtain ⟨o2, n2, c2, rfl⟩ := h2.any
    clear hown' hgrow h2 h3 hown2
    go_wp2
    go_ret
    exact ⟨_, rfl, HE.out.1, HE.out.2⟩
  · have HQ : Hid (numOf (itAt l k) = (0, false)) := by show _ = _; rw [HA.out]; rfl
    have HQ2 : Hid (textOf (itAt l k) = (⟨#[]⟩, false)) := by show _ = _; rw [HA.out]; rfl
    have HQ3 : Hid (truthOf (itAt l k) = (b, true)) := by show _ = _; rw [HA.out]; rfl
    go_enter Try.func18, Try.ntmps18
    go_wp2_with fail
    refine (int_any _ l _ _ HR.out).mono ?_
    rw [HQ.out]
    rintro e w1 ⟨rfl, hw⟩
    obtain rfl := hw.symm
    go_wp2_with fail
    refine (text_any _ l _ _ HR.out (by rw [HQ2.out]; show (0 : Nat) ≤ _; omega)).mono ?_
    rw [HQ2.out]
    rintro e w2 ⟨rfl, hb0⟩
    have HB2 : Hid (Below w.heap.size w w2) := hb0
    have H2 : Hid (BRow w2 B (.slice o0 m0 c0) q) := H.out.below hb0
    go_wp2_with fail
    refine (bool_any _ l _ _ (HR.out.below hb0)).mono ?_
    rw [HQ3.out]
    rintro e w1 ⟨rfl, hw⟩
    obtain rfl := hw.symm
    obtain ⟨hi, hz0, hz1, hz2⟩ := HI.out
    have hown : w2.ownsRow B 5 1 (.slice o0 m0 c0) m0 (q.map u8C) := by have := H2.out; rw [HM.out] at this ⊢; exact this
    have hsz : B ≤ w2.heap.size := Nat.le_trans HB0.out hb0.size
    clear hb0
    cases b
    · go_wp2_with (at_builtin; refine wpList_append_own_at _ rfl _ _ 22 rfl B 5 i0 (.int .u8 0) 1 1 Try.underlying22 hi hz0 hz1 hz2 rfl (by decide) _ m0 _ rfl (hown.alloc _) ⟨w2.heap.size, 0, none⟩ 2 2 [.int .u8 3, .int .u8 0] rfl rfl (cell_two_new _ _ _ _) (u8_one [3#8, 0#8]) (by unfold maxLen; omega) (by omega) (by simp; omega) ?_)
      intro v1 w1 hown' hgrow _ _
      have h1 := H2.out.below ((Below.refl w2.heap.size w2).alloc (Nat.le_refl _) (.cells #[.int .u8 3, .int .u8 0] 5))
      obtain ⟨h2, h3⟩ := brow_append (news := [3#8, 0#8]) h1 (by simp; omega) (by rw [← HM.out]; rfl) hown' hgrow
      have HE : Hid (BRow w1 B v1 (q ++ thingV (.inr (.inr false))) ∧ Below B w w1) := ⟨h2, ((HB2.out.mono HB0.out).trans ((Below.refl _ _).alloc hsz _)).trans h3⟩
      obtain ⟨o2, n2, c2, rfl⟩ := h2.any
      clear hown hown' hgrow h1 h2 h3
      go_wp2
      go_ret
      exact ⟨_, rfl, HE.out.1, HE.out.2⟩
    · go_wp2_with (at_builtin; refine wpList_append_own_at _ rfl _ _ 22 rfl B 5 i0 (.int .u8 0) 1 1 Try.underlying22 hi hz0 hz1 hz2 rfl (by decide) _ m0 _ rfl (hown.alloc _) ⟨w2.heap.size, 0, none⟩ 2 2 [.int .u8 3, .int .u8 1] rfl rfl (cell_two_new _ _ _ _) (u8_one [3#8, 1#8]) (by unfold maxLen; omega) (by omega) (by simp; omega) ?_)
      intro v1 w1 hown' hgrow _ _
      have h1 := H2.out.below ((Below.refl w2.heap.size w2).alloc (Nat.le_refl _) (.cells #[.int .u8 3, .int .u8 1] 5))
      obtain ⟨h2, h3⟩ := brow_append (news := [3#8, 1#8]) h1 (by simp; omega) (by rw [← HM.out]; rfl) hown' hgrow
      have HE : Hid (BRow w1 B v1 (q ++ thingV (.inr (.inr true))) ∧ Below B w w1) := ⟨h2, ((HB2.out.mono HB0.out).trans ((Below.refl _ _).alloc hsz _)).trans h3⟩
      obtain ⟨o2, n2, c2, rfl⟩ := h2.any
      clear hown hown' hgrow h1 h2 h3
      go_wp2
      go_ret
      exact ⟨_, rfl, HE.out.1, HE.out.2⟩
end Go.Proofs.Ytfcoanlegjddpab
