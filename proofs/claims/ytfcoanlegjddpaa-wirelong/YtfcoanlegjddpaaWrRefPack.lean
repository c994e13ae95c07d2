/-
  The reference's Pack, by a contract.
-/
import Derived.Test.YtfcoanlegjddpaaWrRef
import Derived.Test.YtfcoanlegjddpaaSmRef
namespace Go.Proofs.Ytfcoanlegjddpaa
open Go.RowKit

theorem th_long (x : It) : longT x = decide (200 < x.th.s.size) := by
  rcases x with n | s | b <;> rfl
theorem th_map {l : List It} {k : Nat} {x : It} (h : l[k]? = some x) : (l.map It.th)[k]? = some x.th := by rw [List.getElem?_map, h]; rfl
theorem th_cells {w : World} {c : Nat} {l : List It} (h : ReadsT w (.pointer (some ⟨c, 0, none⟩)) (l.map It.th)) : ∃ oa cap, w.cell? ⟨c, 0, none⟩ = some (.slice oa l.length cap) ∧ ∀ k x, l[k]? = some x → ∃ g, oa = some ⟨g, 0, none⟩ ∧ w.cell? ⟨g, k * 4, none⟩ = some (.int .i64 x.th.k) ∧ w.cell? ⟨g, k * 4 + 1, none⟩ = some (.int .i64 x.th.n) ∧ w.cell? ⟨g, k * 4 + 2, none⟩ = some (.string x.th.s) ∧ w.cell? ⟨g, k * 4 + 3, none⟩ = some (.bool x.th.b) := by
  obtain ⟨c', oa, cap, e, h2, h3, h4, h5⟩ := h
  injection e with e
  injection e with e
  injection e with e
  subst e
  rw [List.length_map] at h2
  exact ⟨oa, cap, h2, fun k x hx => h5 k x.th (th_map hx)⟩

set_option maxRecDepth 1000000 in
set_option maxHeartbeats 1000000 in
theorem refPack_any (c : Nat) (l : List It) (w : World) (hr : ReadsT w (.pointer (some ⟨c, 0, none⟩)) (l.map It.th)) (hl : l.length ≤ 100) :
    Calls Try.prog 12 #[.pointer (some ⟨c, 0, none⟩)] w fun e w' => ∃ v, e = .returned (.tuple #[v, .int .i64 (packE l)]) ∧ BRow w' w.heap.size v ((packV l).getD []) ∧ Below w.heap.size w w' := by
  have HR : Hid (ReadsT w (.pointer (some ⟨c, 0, none⟩)) (l.map It.th)) := hr
  obtain ⟨n, hn⟩ : ∃ n, n = l.length := ⟨_, rfl⟩
  have HN : Hid (l.length = n) := hn.symm
  obtain ⟨oa, cap, hcell0, hcs⟩ := th_cells hr
  rw [← hn] at hl hcell0
  have HCS : Hid (w.cell? ⟨c, 0, none⟩ = some (.slice oa n cap) ∧ ∀ k x, l[k]? = some x → ∃ g, oa = some ⟨g, 0, none⟩ ∧ w.cell? ⟨g, k * 4, none⟩ = some (.int .i64 x.th.k) ∧ w.cell? ⟨g, k * 4 + 1, none⟩ = some (.int .i64 x.th.n) ∧ w.cell? ⟨g, k * 4 + 2, none⟩ = some (.string x.th.s) ∧ w.cell? ⟨g, k * 4 + 3, none⟩ = some (.bool x.th.b)) := ⟨hcell0, hcs⟩
  have h8 : (n : Int) % 256 = n := by omega
  have hcell : Value.int IntKind.u8 (n : Int) = u8C (BitVec.ofNat 8 n) := by rw [← u8_num, h8]
  have HC : Hid (Value.int IntKind.u8 (n : Int) = u8C (BitVec.ofNat 8 n)) := hcell
  clear hr hn hcell hcs
  have B0 : Hid (BRow (w.alloc (.cells #[.int .u8 n] 5)) w.heap.size (.slice (some ⟨w.heap.size, 0, none⟩) 1 1) [BitVec.ofNat 8 n]) := by
    rw [HC.out]
    exact World.ownsRow_lit w #[u8C (BitVec.ofNat 8 n)] 1 (Nat.le_refl _) (by unfold maxLen; omega) rfl
  have B1 : Hid (Below w.heap.size w (w.alloc (.cells #[.int .u8 n] 5))) := (Below.refl _ _).alloc (Nat.le_refl _) _
  go_enter Try.func12, Try.ntmps12
  go_wp2
  go_loopg [4, 5] n (fun gk b i wr => ∃ k m : Nat, ∃ o cp, gk = n - k ∧ i = .int .i64 k ∧ k ≤ n ∧ b = .slice o m cp ∧ m ≤ 1 + 202 * k ∧ 1 ≤ m ∧ m = (BitVec.ofNat 8 n :: (l.take k).flatMap thingV).length ∧ (∀ y ∈ l.take k, longT y = false) ∧ BRow wr w.heap.size (.slice o m cp) (BitVec.ofNat 8 n :: (l.take k).flatMap thingV) ∧ Below w.heap.size w wr)
  case atStart => exact ⟨0, 1, some ⟨w.heap.size, 0, none⟩, 1, rfl, rfl, by omega, rfl, by omega, by omega, rfl, fun y hy => by simp at hy, B0.out, B1.out⟩
  case round =>
    obtain ⟨k, m, o, cp, rfl, rfl, hk, rfl, hm, hm1, hml, hsh, hbr, hb⟩ := hrel
    have HX : Hid (m = (BitVec.ofNat 8 n :: (l.take k).flatMap thingV).length ∧ (∀ y ∈ l.take k, longT y = false) ∧ BRow wr w.heap.size (.slice o m cp) (BitVec.ofNat 8 n :: (l.take k).flatMap thingV) ∧ Below w.heap.size w wr) := ⟨hml, hsh, hbr, hb⟩
    clear hml hsh B0 B1 hcell0
    have hcw : wr.cell? ⟨c, 0, none⟩ = some (.slice oa n cap) := (hb.cell (World.block_lt_of_cell? _ _ HCS.out.1)).trans HCS.out.1
    clear hb hbr
    by_cases hlt : k < n
    · have hki : (k : Int) < (n : Int) := by omega
      obtain ⟨x, hx⟩ : ∃ x, l[k]? = some x := ⟨l[k]'(by rw [HN.out]; exact hlt), List.getElem?_eq_getElem _⟩
      have HL : Hid (l[k]? = some x ∧ longT x = decide (200 < x.th.s.size)) := ⟨hx, th_long x⟩
      obtain ⟨g, rfl, k1, k2, k3, k4⟩ := HCS.out.2 k x hx
      have hlt0 := World.block_lt_of_cell? w _ k1
      have hlt' : ∀ o, (⟨g, o, none⟩ : Addr).block < w.heap.size := fun _ => hlt0
      have d1 := (HX.out.2.2.2.cell (hlt' _)).trans k1
      have d2 := (HX.out.2.2.2.cell (hlt' _)).trans k2
      have d3 := (HX.out.2.2.2.cell (hlt' _)).trans k3
      have d4 := (HX.out.2.2.2.cell (hlt' _)).trans k4
      clear hx k1 k2 k3 k4 hlt0 hlt'
      by_cases h2 : 200 < x.th.s.size
      · have h200 : (200 : Int) < (x.th.s.size : Int) := by omega
        have HP : Hid (packV l = none) := pack_long HL.out.1 (by rw [HL.out.2]; exact decide_eq_true h2)
        go_wp2
        go_ret2
        exact ⟨_, by rw [packE, HP.out]; rfl, by rw [HP.out]; exact BRow.nil _ _, HX.out.2.2.2⟩
      · have h200 : ¬ (200 : Int) < (x.th.s.size : Int) := by omega
        have HT : Hid (longT x = false) := by show _ = _; rw [HL.out.2]; exact decide_eq_false h2
        go_wp2_with fail
        refine (refThing_any x wr HT.out).mono ?_
        rintro e w2 ⟨v2, rfl, h3, h4⟩
        have HB2 : Hid (BRow w2 w.heap.size (.slice o m cp) (BitVec.ofNat 8 n :: (l.take k).flatMap thingV) ∧ Below w.heap.size w w2) := ⟨HX.out.2.2.1.below h4, HX.out.2.2.2.trans (h4.mono HX.out.2.2.2.size)⟩
        obtain ⟨o1, c1, rfl, hby⟩ := h3.bytes
        have htl := thing_len x HT.out
        have hth : ∃ y, (thingV x)[0]? = some y := by rcases x with n | s | b <;> exact ⟨_, rfl⟩
        obtain ⟨y0, hy0⟩ := hth
        obtain ⟨g1, off1, rfl, -⟩ := hby 0 y0 hy0
        have HNE : Hid (∀ j u, ((thingV x).map u8C)[j]? = some u → w2.cell? ((⟨g1, off1, none⟩ : Addr).add j) = some u) := news_bytes hby
        obtain ⟨t, htv⟩ : ∃ t, t = (thingV x).length := ⟨_, rfl⟩
        have HTV : Hid ((thingV x).length = t) := htv.symm
        rw [← htv] at htl ⊢
        have hown := HB2.out.1
        unfold BRow at hown
        rw [← HX.out.1] at hown
        have HOW : Hid (w2.ownsRow w.heap.size 5 1 (.slice o m cp) m ((BitVec.ofNat 8 n :: (l.take k).flatMap thingV).map u8C)) := hown
        clear h3 h4 hby hy0 htv hown d1 d2 d3 d4 hcw
        obtain ⟨i0, hi, hz0, hz1, hz2⟩ := sinfo_parts infoB
        go_wp2_with (at_builtin; refine wpList_append_own_at _ rfl _ _ 28 rfl w.heap.size 5 i0 (.int .u8 0) 1 1 Try.underlying28 hi hz0 hz1 hz2 rfl (by decide) _ m _ rfl HOW.out ⟨g1, off1, none⟩ t c1 ((thingV x).map u8C) rfl (by rw [List.length_map, HTV.out, Nat.mul_one]) HNE.out (one_u8 _) (by unfold maxLen; omega) (by omega) HB2.out.2.size ?_)
        intro v4 w4 hown' hgrow _ _
        obtain ⟨h5, h6⟩ := brow_append (news := thingV x) HB2.out.1 HB2.out.2.size (by rw [← HX.out.1, HTV.out]) (by simpa using hown') hgrow
        have e1 : (BitVec.ofNat 8 n :: (l.take k).flatMap thingV) ++ thingV x = BitVec.ofNat 8 n :: (l.take (k + 1)).flatMap thingV := by
          rw [take_more HL.out.1, List.flatMap_append, List.flatMap_singleton, List.cons_append]
        have e2 : ((BitVec.ofNat 8 n :: (l.take k).flatMap thingV) ++ thingV x).length = m + t := by rw [List.length_append, ← HX.out.1, HTV.out]
        obtain ⟨o2, c2, ev⟩ := h5.form
        rw [e2] at ev
        subst ev
        rw [e1] at h5 e2
        have HY : Hid (m + t = (BitVec.ofNat 8 n :: (l.take (k + 1)).flatMap thingV).length ∧ (∀ y ∈ l.take (k + 1), longT y = false) ∧ BRow w4 w.heap.size (.slice o2 (m + t) c2) (BitVec.ofNat 8 n :: (l.take (k + 1)).flatMap thingV) ∧ Below w.heap.size w w4) :=
          ⟨e2.symm, take_short HL.out.1 HT.out HX.out.2.1, h5, HB2.out.2.trans h6⟩
        clear e1 e2 h5 h6 hown' hgrow hi hz0 hz1 hz2
        go_wp2
        go_roundg (n - (k + 1))
        case rel => exact ⟨k + 1, m + t, o2, c2, rfl, by go_num, by omega, by go_num, by omega, by omega, HY.out.1, HY.out.2.1, HY.out.2.2.1, HY.out.2.2.2⟩
        case measure => omega
    · have hkn : k = n := by omega
      subst hkn
      have hkk : ¬ (k : Int) < (k : Int) := by omega
      have HF : Hid (l.take k = l) := List.take_of_length_le (by rw [HN.out]; omega)
      have hX := HX.out
      rw [HF.out] at hX
      have HY : Hid (m = (bodyV l).length ∧ (∀ y ∈ l, longT y = false) ∧ BRow wr w.heap.size (.slice o m cp) (bodyV l) ∧ Below w.heap.size w wr) := by
        unfold bodyV
        rw [HN.out]
        exact hX
      have HPS : Hid (packV l = if 4000 < (bodyV l).length then none else some (telV (bodyV l))) := pack_short HY.out.2.1
      clear hX HX
      by_cases h4 : 4000 < m
      · have h4i : (4000 : Int) < (m : Int) := by omega
        have HP : Hid (packV l = none) := by
          show _ = _
          rw [HPS.out, if_pos]
          rw [← HY.out.1]; exact h4
        go_wp2
        go_ret2
        exact ⟨_, by rw [packE, HP.out]; rfl, by rw [HP.out]; exact BRow.nil _ _, HY.out.2.2.2⟩
      · have h4i : ¬ (4000 : Int) < (m : Int) := by omega
        have HP : Hid (packV l = some (telV (bodyV l))) := by
          show _ = _
          rw [HPS.out, if_neg]
          rw [← HY.out.1]; exact h4
        obtain ⟨oa', cap', ev, hby⟩ := HY.out.2.2.1.bytes
        injection ev with e1 e2 e3
        subst e1 e3
        clear e2
        have HBY : Hid (hasBytes wr o (bodyV l)) := hby
        clear hby
        obtain ⟨N, hN1, hN2, hN32⟩ := sum_num (bodyV l)
        have hwm : IntKind.u64.wrap (m : Int) = (m : Int) := by rw [num_u64]; omega
        have hwN : IntKind.u64.wrap (N : Int) = (N : Int) := by rw [num_u64]; omega
        go_wp2_with fail
        have D := refOf_any o cp (bodyV l) wr HBY.out (by rw [← HY.out.1]; omega)
        rw [← HY.out.1, hN1] at D
        refine D.mono ?_
        rintro e w1 ⟨rfl, hw⟩
        obtain rfl := hw.symm
        have HSN : Hid (N = (sumV (bodyV l)).toNat) := hN2
        clear D hN1 hN2 HBY hcw
        go_wp2_with fail
        refine (refBig_any N 4 wr (by omega)).mono ?_
        rintro e w2 ⟨v2, rfl, h1, h2⟩
        have HB2 : Hid (BRow w2 wr.heap.size v2 (bigV N 4) ∧ Below wr.heap.size wr w2) := ⟨h1, h2⟩
        obtain ⟨o2, n2, c2, rfl⟩ := h1.any
        clear h1 h2
        go_wp2_with fail
        refine (refBig_any m 2 w2 (by omega)).mono ?_
        rintro e w3 ⟨v3, rfl, h1, h2⟩
        have HB3 : Hid (BRow w3 wr.heap.size (.slice o2 n2 c2) (bigV N 4) ∧ Below wr.heap.size wr w3) := ⟨HB2.out.1.below h2, HB2.out.2.trans (h2.mono HB2.out.2.size)⟩
        obtain ⟨o3, c3, rfl, hby⟩ := h1.bytes
        obtain ⟨y0, hy0⟩ : ∃ y, (bigV m 2)[0]? = some y := ⟨_, rfl⟩
        obtain ⟨g3, off3, rfl, -⟩ := hby 0 y0 hy0
        have HNE : Hid (∀ j u, ((bigV m 2).map u8C)[j]? = some u → w3.cell? ((⟨g3, off3, none⟩ : Addr).add j) = some u) := news_bytes hby
        have hl2 : (bigV m 2).length = 2 := big_len m 2
        rw [hl2]
        have hown : w3.ownsRow wr.heap.size 5 1 (.slice o2 n2 c2) 4 ((bigV N 4).map u8C) := by
          have := HB3.out.1
          unfold BRow at this
          rw [big_len] at this
          exact this
        have HOW : Hid (w3.ownsRow wr.heap.size 5 1 (.slice o2 n2 c2) 4 ((bigV N 4).map u8C)) := hown
        clear h1 h2 hby hy0 hl2 hown HB2
        obtain ⟨i0, hi, hz0, hz1, hz2⟩ := sinfo_parts infoB
        go_wp2_with (at_builtin; refine wpList_append_own_at _ rfl _ _ 28 rfl wr.heap.size 5 i0 (.int .u8 0) 1 1 Try.underlying28 hi hz0 hz1 hz2 rfl (by decide) _ 4 _ rfl HOW.out ⟨g3, off3, none⟩ 2 c3 ((bigV m 2).map u8C) rfl (by rw [List.length_map, big_len]) HNE.out (one_u8 _) (by unfold maxLen; omega) (by omega) HB3.out.2.size ?_)
        intro v4 w4 hown' hgrow _ _
        obtain ⟨h5, h6⟩ := brow_append (news := bigV m 2) HB3.out.1 HB3.out.2.size (by rw [big_len, big_len]) (by simpa using hown') hgrow
        have HB4 : Hid (BRow w4 wr.heap.size v4 (bigV N 4 ++ bigV m 2) ∧ Below wr.heap.size wr w4) := ⟨h5, HB3.out.2.trans h6⟩
        have hown : w4.ownsRow wr.heap.size 5 1 v4 6 ((bigV N 4 ++ bigV m 2).map u8C) := by
          have := h5
          unfold BRow at this
          rw [List.length_append, big_len, big_len] at this
          exact this
        have HOW4 : Hid (w4.ownsRow wr.heap.size 5 1 v4 6 ((bigV N 4 ++ bigV m 2).map u8C)) := hown
        have HBO : Hid (BRow w4 w.heap.size (.slice o m cp) (bodyV l)) := HY.out.2.2.1.below HB4.out.2
        clear h5 h6 hown hown' hgrow HNE HOW HB3
        obtain ⟨oa', cap', ev, hby⟩ := HBO.out.bytes
        injection ev with e1 e2 e3
        subst e1 e3
        clear e2
        obtain ⟨b0, hb0⟩ : ∃ x, (bodyV l)[0]? = some x := ⟨_, rfl⟩
        obtain ⟨g, off, rfl, -⟩ := hby 0 b0 hb0
        have HNE : Hid (∀ j u, ((bodyV l).map u8C)[j]? = some u → w4.cell? ((⟨g, off, none⟩ : Addr).add j) = some u) := news_bytes hby
        have HLE : Hid (((bodyV l).map u8C).length = m * 1) := by show _ = _; rw [List.length_map, ← HY.out.1, Nat.mul_one]
        clear hby hb0
        go_wp2_with (at_builtin; refine wpList_append_own_at _ rfl _ _ 28 rfl wr.heap.size 5 i0 (.int .u8 0) 1 1 Try.underlying28 hi hz0 hz1 hz2 rfl (by decide) _ 6 _ rfl HOW4.out ⟨g, off, none⟩ m cp ((bodyV l).map u8C) rfl HLE.out HNE.out (one_u8 _) (by unfold maxLen; omega) (by omega) HB4.out.2.size ?_)
        intro v5 w5 hown' hgrow _ _
        obtain ⟨h5, h6⟩ := brow_append (news := bodyV l) HB4.out.1 HB4.out.2.size (by rw [List.length_append, big_len, big_len, ← HY.out.1]) (by simpa using hown') hgrow
        have HE : Hid (BRow w5 w.heap.size v5 ((packV l).getD []) ∧ Below w.heap.size w w5) := by
          refine ⟨?_, HY.out.2.2.2.trans ((HB4.out.2.trans h6).mono HY.out.2.2.2.size)⟩
          rw [HP.out, Option.getD_some, telV, ← HSN.out, ← HY.out.1, ← List.append_assoc]
          exact h5.mono HY.out.2.2.2.size
        obtain ⟨o5, n5, c5, rfl⟩ := h5.any
        clear hown' hgrow h5 h6 hi hz0 hz1 hz2
        go_wp2
        go_ret2
        exact ⟨_, by rw [packE, HP.out]; rfl, HE.out.1, HE.out.2⟩
end Go.Proofs.Ytfcoanlegjddpaa
