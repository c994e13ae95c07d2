/-
  wire's Pack, by a contract.
-/
import Derived.Test.YtfcoanlegjddpabWrThing
namespace Go.Proofs.Ytfcoanlegjddpab
open Go.RowKit

def packE (l : List It) : Int := if (packV l).isSome then 0 else 1
/-- All texts are short. -/
def SmallL (l : List It) : Prop := ∀ i, (textOf (itAt l i)).1.size ≤ 281474976710656
def isT : It → Bool
  | (.inr (.inl _)) => true
  | _ => false
theorem text_long {l : List It} {k : Nat} {x : It} (h : l[k]? = some x) : longT x = decide (200 < (textOf (itAt l k)).1.size) := by
  rw [itAt_nat, h]
  rcases x with n | s | b
  · rfl
  · rfl
  · rfl
theorem thing_len (x : It) (h : longT x = false) : (thingV x).length ≤ 202 := by
  rcases x with n | s | b
  · rw [thingV, List.length_cons, big_len]; omega
  · have : s.size ≤ 200 := by simpa [longT] using h
    rw [thingV, List.length_cons, List.length_cons, bytes_len]; omega
  · rw [thingV, List.length_cons, List.length_singleton]; omega
theorem things_len : ∀ (l : List It), (∀ x ∈ l, longT x = false) → (l.flatMap thingV).length ≤ 202 * l.length
  | [], _ => by simp
  | x :: l, h => by
    have h1 := thing_len x (h x (List.mem_cons_self ..))
    have h2 := things_len l fun y hy => h y (List.mem_cons_of_mem _ hy)
    rw [List.flatMap_cons, List.length_append, List.length_cons]
    omega
theorem pack_long {l : List It} {k : Nat} {x : It} (h : l[k]? = some x) (hl : longT x = true) : packV l = none := by
  unfold packV
  rw [if_pos]
  exact List.any_eq_true.2 ⟨x, List.mem_of_getElem? h, hl⟩
theorem pack_short {l : List It} (h : ∀ x ∈ l, longT x = false) : packV l = if 4000 < (bodyV l).length then none else some (telV (bodyV l)) := by
  unfold packV
  rw [any_long h]
  rfl
theorem take_short {l : List It} {k : Nat} {x : It} (h : l[k]? = some x) (hl : longT x = false) (ht : ∀ y ∈ l.take k, longT y = false) : ∀ y ∈ l.take (k + 1), longT y = false := by
  rw [take_more h]
  intro y hy
  rcases List.mem_append.1 hy with hy | hy
  · exact ht y hy
  · rw [List.mem_singleton.1 hy]; exact hl
theorem sum_num (p : List (BitVec 8)) : ∃ N : Nat, u32 (sumV p) = (N : Int) ∧ N = (sumV p).toNat ∧ N < 4294967296 := ⟨_, rfl, rfl, (sumV p).isLt⟩

set_option maxRecDepth 1000000 in
set_option maxHeartbeats 1000000 in
theorem pack_any (c : Nat) (l : List It) (w : World) (hr : Reads w (.pointer (some ⟨c, 0, none⟩)) l) (hl : l.length ≤ 100) (hs : SmallL l) :
    Calls Try.prog 7 #[.pointer (some ⟨c, 0, none⟩)] w fun e w' => ∃ v, e = .returned (.tuple #[v, .int .i64 (packE l)]) ∧ BRow w' w.heap.size v ((packV l).getD []) ∧ Below w.heap.size w w' := by
  have HR : Hid (Reads w (.pointer (some ⟨c, 0, none⟩)) l) := hr
  have HS : Hid (SmallL l) := hs
  obtain ⟨n, hn⟩ : ∃ n, n = l.length := ⟨_, rfl⟩
  have HN : Hid (l.length = n) := hn.symm
  rw [← hn] at hl
  have h8 : (n : Int) % 256 = n := by omega
  have hcell : Value.int IntKind.u8 (n : Int) = u8C (BitVec.ofNat 8 n) := by rw [← u8_num, h8]
  have HC : Hid (Value.int IntKind.u8 (n : Int) = u8C (BitVec.ofNat 8 n)) := hcell
  clear hr hs hn hcell
  have B0 : Hid (BRow (w.alloc (.cells #[.int .u8 n] 5)) w.heap.size (.slice (some ⟨w.heap.size, 0, none⟩) 1 1) [BitVec.ofNat 8 n]) := by
    rw [HC.out]
    exact World.ownsRow_lit w #[u8C (BitVec.ofNat 8 n)] 1 (Nat.le_refl _) (by unfold maxLen; omega) rfl
  have B1 : Hid (Below w.heap.size w (w.alloc (.cells #[.int .u8 n] 5))) := (Below.refl _ _).alloc (Nat.le_refl _) _
  go_enter Try.func7, Try.ntmps7
  go_wp2_with fail
  refine (len_any _ l _ HR.out).mono ?_
  rw [HN.out]
  rintro e w1 ⟨rfl, hw⟩
  obtain rfl := hw.symm
  go_wp2_with fail
  refine (len_any _ l _ (HR.out.below B1.out)).mono ?_
  rw [HN.out]
  rintro e w1 ⟨rfl, rfl⟩
  go_wp2
  go_loopg [4, 17] n (fun gk b i wr => ∃ k m : Nat, ∃ o cp, gk = n - k ∧ i = .int .i64 k ∧ k ≤ n ∧ b = .slice o m cp ∧ m ≤ 1 + 202 * k ∧ 1 ≤ m ∧ m = (BitVec.ofNat 8 n :: (l.take k).flatMap thingV).length ∧ (∀ y ∈ l.take k, longT y = false) ∧ BRow wr w.heap.size (.slice o m cp) (BitVec.ofNat 8 n :: (l.take k).flatMap thingV) ∧ Below w.heap.size w wr)
  case atStart => exact ⟨0, 1, some ⟨w.heap.size, 0, none⟩, 1, rfl, rfl, by omega, rfl, by omega, by omega, rfl, fun y hy => by simp at hy, B0.out, B1.out⟩
  case round =>
    obtain ⟨k, m, o, cp, rfl, rfl, hk, rfl, hm, hm1, hml, hsh, hbr, hb⟩ := hrel
    have HX : Hid (m = (BitVec.ofNat 8 n :: (l.take k).flatMap thingV).length ∧ (∀ y ∈ l.take k, longT y = false) ∧ BRow wr w.heap.size (.slice o m cp) (BitVec.ofNat 8 n :: (l.take k).flatMap thingV) ∧ Below w.heap.size w wr) := ⟨hml, hsh, hbr, hb⟩
    clear hml hsh hbr hb B0 B1
    by_cases hlt : k < n
    · have hki : (k : Int) < (n : Int) := by omega
      obtain ⟨x, hx⟩ : ∃ x, l[k]? = some x := ⟨l[k]'(by rw [HN.out]; exact hlt), List.getElem?_eq_getElem _⟩
      have HL : Hid (l[k]? = some x ∧ longT x = decide (200 < (textOf (itAt l k)).1.size)) := ⟨hx, text_long hx⟩
      have hz := HS.out k
      clear hx
      generalize hq : textOf (itAt l k) = q at *
      obtain ⟨qs, qb⟩ := q
      have HQ : Hid (textOf (itAt l k) = (qs, qb)) := hq
      clear hq
      by_cases h2 : 200 < qs.size
      · have h200 : (200 : Int) < (qs.size : Int) := by omega
        have HP : Hid (packV l = none) := pack_long HL.out.1 (by rw [HL.out.2]; exact decide_eq_true h2)
        go_wp2_with fail
        refine (text_any _ l _ _ (HR.out.below HX.out.2.2.2) (by rw [HQ.out]; exact hz)).mono ?_
        rw [HQ.out]
        rintro e w1 ⟨rfl, hb⟩
        have HB : Hid (Below w.heap.size w w1) := HX.out.2.2.2.trans (hb.mono HX.out.2.2.2.size)
        go_wp2
        go_ret2
        exact ⟨_, by rw [packE, HP.out]; rfl, by rw [HP.out]; exact BRow.nil _ _, HB.out⟩
      · have h200 : ¬ (200 : Int) < (qs.size : Int) := by omega
        have HT : Hid (longT x = false) := by show _ = _; rw [HL.out.2]; exact decide_eq_false h2
        go_wp2_with fail
        refine (text_any _ l _ _ (HR.out.below HX.out.2.2.2) (by rw [HQ.out]; exact hz)).mono ?_
        rw [HQ.out]
        rintro e w1 ⟨rfl, hb⟩
        have HB : Hid (Below w.heap.size w w1) := HX.out.2.2.2.trans (hb.mono HX.out.2.2.2.size)
        have HB1 : Hid (BRow w1 w.heap.size (.slice o m cp) (BitVec.ofNat 8 n :: (l.take k).flatMap thingV)) := HX.out.2.2.1.below hb
        clear hb
        go_wp2_with fail
        refine (withThing_any _ l k x _ _ w.heap.size _ (HR.out.below HB.out) HL.out.1 HB1.out HB.out.size HT.out (by rw [← HX.out.1]; omega)).mono ?_
        rintro e w2 ⟨v2, rfl, h3, h4⟩
        have e1 : (BitVec.ofNat 8 n :: (l.take k).flatMap thingV) ++ thingV x = BitVec.ofNat 8 n :: (l.take (k + 1)).flatMap thingV := by
          rw [take_more HL.out.1, List.flatMap_append, List.flatMap_singleton, List.cons_append]
        have e2 : ((BitVec.ofNat 8 n :: (l.take k).flatMap thingV) ++ thingV x).length = m + (thingV x).length := by rw [List.length_append, ← HX.out.1]
        have e3 := thing_len x HT.out
        obtain ⟨o2, c2, ev⟩ := h3.form
        rw [e2] at ev
        subst ev
        rw [e1] at h3 e2
        have HY : Hid (m + (thingV x).length = (BitVec.ofNat 8 n :: (l.take (k + 1)).flatMap thingV).length ∧ (∀ y ∈ l.take (k + 1), longT y = false) ∧ BRow w2 w.heap.size (.slice o2 (m + (thingV x).length) c2) (BitVec.ofNat 8 n :: (l.take (k + 1)).flatMap thingV) ∧ Below w.heap.size w w2) :=
          ⟨e2.symm, take_short HL.out.1 HT.out HX.out.2.1, h3, HB.out.trans h4⟩
        clear e1 e2 h3 h4
        generalize (thingV x).length = t at *
        go_wp2
        go_roundg (n - (k + 1))
        case rel => exact ⟨k + 1, m + t, o2, c2, rfl, by go_num, by omega, by go_num, by omega, by omega, HY.out.1, HY.out.2.1, HY.out.2.2.1, HY.out.2.2.2⟩
        case measure => omega
    · have hkn : k = n := by omega
      subst hkn
      have hkk : ¬ (k : Int) < (k : Int) := by omega
      have HF : Hid (l.take k = l) := List.take_of_length_le (by rw [HN.out]; omega)
      have hX := HX.out
      rw [HF.out] at hX
      have HY : Hid (m = (bodyV l).length ∧ (∀ y ∈ l, longT y = false) ∧ BRow wr w.heap.size (.slice o m cp) (bodyV l) ∧ Below w.heap.size w wr) := by
        unfold bodyV
        rw [HN.out]
        exact hX
      have HPS : Hid (packV l = if 4000 < (bodyV l).length then none else some (telV (bodyV l))) := pack_short HY.out.2.1
      clear hX HX
      by_cases h4 : 4000 < m
      · have h4i : (4000 : Int) < (m : Int) := by omega
        have HP : Hid (packV l = none) := by
          show _ = _
          rw [HPS.out, if_pos]
          rw [← HY.out.1]; exact h4
        go_wp2
        go_ret2
        exact ⟨_, by rw [packE, HP.out]; rfl, by rw [HP.out]; exact BRow.nil _ _, HY.out.2.2.2⟩
      · have h4i : ¬ (4000 : Int) < (m : Int) := by omega
        have HP : Hid (packV l = some (telV (bodyV l))) := by
          show _ = _
          rw [HPS.out, if_neg]
          rw [← HY.out.1]; exact h4
        obtain ⟨oa, cap, ev, hby⟩ := HY.out.2.2.1.bytes
        injection ev with e1 e2 e3
        subst e1 e3
        clear e2
        have HBY : Hid (hasBytes wr o (bodyV l)) := hby
        have hnew : Below wr.heap.size wr (wr.alloc (.cells #[.slice o m cp] 22)) := (Below.refl _ _).alloc (Nat.le_refl _) _
        have HNW : Hid (Below wr.heap.size wr (wr.alloc (.cells #[.slice o m cp] 22))) := hnew
        clear hby hnew
        obtain ⟨N, hN1, hN2, hN32⟩ := sum_num (bodyV l)
        have hwm : IntKind.u64.wrap (m : Int) = (m : Int) := by rw [num_u64]; omega
        have hwN : IntKind.u64.wrap (N : Int) = (N : Int) := by rw [num_u64]; omega
        go_wp2_with fail
        have D := one_any (wr.alloc (.cells #[.slice o m cp] 22)) wr.heap.size o cp (bodyV l) 22 (by rw [← HY.out.1]; exact sblk_new _ _) (HBY.out.below HNW.out) (by rw [← HY.out.1]; omega)
        refine D.mono ?_
        rw [hN1]
        rintro e w1 ⟨rfl, rfl⟩
        have HSN : Hid (N = (sumV (bodyV l)).toNat) := hN2
        clear D hN1 hN2
        generalize hw1 : wr.alloc (.cells #[.slice o m cp] 22) = w1
        have HB1 : Hid (BRow w1 w.heap.size (.slice o m cp) (bodyV l) ∧ Below w.heap.size w w1) := by
          rw [← hw1]
          exact ⟨HY.out.2.2.1.below HNW.out, HY.out.2.2.2.trans (HNW.out.mono HY.out.2.2.2.size)⟩
        clear hw1 HNW HBY
        go_wp2_with fail
        refine (withNumber_any N 4 [] w1 w1.heap.size _ (BRow.nil _ _) (Nat.le_refl _) (by omega) (by simp)).mono ?_
        rw [List.nil_append]
        rintro e w2 ⟨v2, rfl, h1, h2⟩
        have HB2 : Hid (BRow w2 w1.heap.size v2 (bigV N 4) ∧ Below w1.heap.size w1 w2) := ⟨h1, h2⟩
        clear h1 h2
        go_wp2_with fail
        refine (withNumber_any m 2 (bigV N 4) w2 w1.heap.size _ HB2.out.1 HB2.out.2.size (by omega) (by rw [big_len]; omega)).mono ?_
        rintro e w3 ⟨v3, rfl, h1, h2⟩
        have HB3 : Hid (BRow w3 w1.heap.size v3 (bigV N 4 ++ bigV m 2) ∧ Below w1.heap.size w1 w3) := ⟨h1, HB2.out.2.trans h2⟩
        have HB4 : Hid (BRow w3 w.heap.size (.slice o m cp) (bodyV l)) := HB1.out.1.below HB3.out.2
        have hown : w3.ownsRow w1.heap.size 5 1 v3 6 ((bigV N 4 ++ bigV m 2).map u8C) := by
          have := h1
          unfold BRow at this
          rw [List.length_append, big_len, big_len] at this
          exact this
        have HOW : Hid (w3.ownsRow w1.heap.size 5 1 v3 6 ((bigV N 4 ++ bigV m 2).map u8C)) := hown
        clear h1 h2 hown
        obtain ⟨oa, cap, ev, hby⟩ := HB4.out.bytes
        injection ev with e1 e2 e3
        subst e1 e3
        clear e2
        obtain ⟨b0, hb0⟩ : ∃ x, (bodyV l)[0]? = some x := ⟨_, rfl⟩
        obtain ⟨g, off, rfl, -⟩ := hby 0 b0 hb0
        have hnews := news_bytes hby
        have hlen : ((bodyV l).map u8C).length = m * 1 := by rw [List.length_map, ← HY.out.1, Nat.mul_one]
        have HNE : Hid (∀ j u, ((bodyV l).map u8C)[j]? = some u → w3.cell? ((⟨g, off, none⟩ : Addr).add j) = some u) := hnews
        have HLE : Hid (((bodyV l).map u8C).length = m * 1) := hlen
        clear hby hb0 hnews hlen
        obtain ⟨i0, hi, hz0, hz1, hz2⟩ := sinfo_parts infoB
        go_wp2_with (at_builtin; refine wpList_append_own_at _ rfl _ _ 22 rfl w1.heap.size 5 i0 (.int .u8 0) 1 1 Try.underlying22 hi hz0 hz1 hz2 rfl (by decide) _ 6 _ rfl HOW.out ⟨g, off, none⟩ m cp ((bodyV l).map u8C) rfl HLE.out HNE.out (one_u8 _) (by unfold maxLen; omega) (by omega) HB3.out.2.size ?_)
        intro v4 w4 hown' hgrow _ _
        obtain ⟨h2, h3⟩ := brow_append (news := bodyV l) HB3.out.1 HB3.out.2.size (by rw [List.length_append, big_len, big_len, ← HY.out.1]) (by simpa using hown') hgrow
        have HE : Hid (BRow w4 w.heap.size v4 ((packV l).getD []) ∧ Below w.heap.size w w4) := by
          refine ⟨?_, HB1.out.2.trans ((HB3.out.2.trans h3).mono HB1.out.2.size)⟩
          rw [HP.out, Option.getD_some, telV, ← HSN.out, ← HY.out.1, ← List.append_assoc]
          exact h2.mono HB1.out.2.size
        obtain ⟨o4, n4, c4, rfl⟩ := h2.any
        clear hown' hgrow h2 h3 hi hz0 hz1 hz2
        go_wp2
        go_ret2
        exact ⟨_, by rw [packE, HP.out]; rfl, HE.out.1, HE.out.2⟩
end Go.Proofs.Ytfcoanlegjddpab
