/-
  Of any layout and any number: PlanRemarks returns true. The tables of unicode/utf8 are as the program's text lays them (the tied card).
-/
import Derived.Test.YtbifcicipkhohaaDoorRows
import Derived.Test.YtbifcicipkhohaaDoorCards
import Derived.Test.YtbifcicipkhohaaDoorTie
import Derived.Test.YtbifcicipkhohaaDoorLySame
import Derived.Test.YtbifcicipkhohaaDoorLyRemP
import Derived.Test.YtbifcicipkhohaaDoorPlKnown
import Derived.Test.YtbifcicipkhohaaDoorPlBy
import Derived.WalkKit
import Derived.ProofKit
import Derived.OpenShut
import Derived.ShutString
import Derived.ChangeOld
import Derived.Below
import Derived.SizedLaws
import Derived.PinnedBridge
import Derived.Lib.LaidU8T
import Derived.Lay
import Derived.LaidOnce
import Derived.SevenTiedAt
import Derived.Deep.DeepHandedRow
namespace Go.Proofs.YtbifcicipkhohaaDoor.planRemarks
open Go.ChangeShapes Go.WideShapes Go.ChangeAt Go.RowKit

theorem at_some {s : ByteArray} {k : Nat} (h : k < s.size) : ∃ c, s.data.toList[k]? = some c := ⟨s.data.toList[k]'(by rw [← Lib.size_eq]; exact h), List.getElem?_eq_getElem _⟩
set_option maxRecDepth 1000000 in
set_option maxHeartbeats 16000000 in
theorem walk_in (hby : BySaid) (w : World) (v : Nat → Value) (l : Lay) (rs : List RtV) (h : LayRd w v l rs) (hB : LayBig l) (hcap : ∀ x ∈ rs, capOk x.2.1) (q a1 a2 : Int) (k1 k2 : Bool) (hq0 : 0 ≤ q) (hq3 : q ≤ 3) (hand1 : bits .and .i64 q 1 = a1) (hand2 : bits .and .i64 q 2 = a2) (hk1 : ((a1 : Int) == 1) = k1) (hk2 : ((a2 : Int) == 2) = k2) (hT : Lib.Utf8Tabs 0 1 w) :
    Calls Tryd.prog 5 #[.agg #[v 0, v 1, v 2, v 3], .int .i64 q] w fun e w' => e = .returned (.bool true) ∧ Below w.heap.size w w' := by
  have HBY : Hid BySaid := hby
  have nq0 : ¬ q < 0 := by omega
  have nq3 : ¬ 3 < q := by omega
  clear hq0 hq3
  have HLR : Hid (LayRd w v l rs) := h
  have HBG : Hid (LayBig l) := hB
  have HCAP : Hid (∀ x ∈ rs, capOk x.2.1) := hcap
  have HT : Hid (Lib.Utf8Tabs 0 1 w) := hT
  obtain ⟨o0, c0, e0, _⟩ := h.s
  obtain ⟨o1, c1, e1, _⟩ := h.p
  obtain ⟨o2, c2, e2, _⟩ := h.g
  obtain ⟨o3, c3, e3, _⟩ := h.r
  have S := BoxAt.start w v
  have SZ : Hid (∀ W, Below w.heap.size w W → Calls Tryd.prog 7 #[.agg #[v 0, v 1, v 2, v 3]] W fun e w' => ∃ n : Int, e = .returned (.int .i64 n) ∧ 0 ≤ n ∧ n ≤ 1125899906842624 ∧ (n < 3000 → LaySmall l) ∧ Below W.heap.size W w') := fun W hW => size_any v l rs W (h.below hW) hB
  have IS : Hid (LaySmall l → ∀ W, Below w.heap.size w W → Calls Tryd.prog 14 #[.agg #[v 0, v 1, v 2, v 3]] W fun e w' => e = .returned (.bool (isB l)) ∧ Below W.heap.size W w') := fun hs W hW => is_any v l rs W (h.below hW) hcap (LayMid.of hs hB) (tabs_below hT hW)
  have PR : Hid (LaySmall l → IsL l → ∀ W, Below w.heap.size w W → Calls Tryd.prog 12 #[.agg #[v 0, v 1, v 2, v 3]] W fun e w' => e = .returned (.string (printT l)) ∧ (printT l).size ≤ 1000000 ∧ Below W.heap.size W w') := fun hs hL W hW => refPrint_any v l rs W (h.below hW) hL hs
  have HV : Hid (v 0 = .slice o0 l.sections.length c0 ∧ v 1 = .slice o1 l.points.length c1 ∧ v 2 = .slice o2 l.signals.length c2 ∧ v 3 = .slice o3 rs.length c3) := ⟨e0, e1, e2, e3⟩
  rw [e0, e1, e2, e3] at S SZ IS PR ⊢
  clear h hB hcap hT e0 e1 e2 e3
  generalize hs0 : l.sections.length = n0 at *
  generalize hs1 : l.points.length = n1 at *
  generalize hs2 : l.signals.length = n2 at *
  generalize hs3 : rs.length = n3 at *
  clear hs0 hs1 hs2 hs3
  have hcc := S.cells
  rw [HV.out.1, HV.out.2.1, HV.out.2.2.1, HV.out.2.2.2] at hcc
  obtain ⟨q0, q1, q2, q3⟩ := hcc
  have HB0 : Hid (BoxAt w v (w.alloc (.cells #[.slice o0 n0 c0, .slice o1 n1 c1, .slice o2 n2 c2, .slice o3 n3 c3] 26))) := S
  have D0 := SZ.out _ S.1
  clear S
  go_enter Tryd.func5, Tryd.ntmps5
  go_wp2_with fail
  refine D0.mono ?_
  rintro e w1 ⟨n, rfl, hn0, hn1, hsm, hb1⟩
  have HB1 : Hid (BoxAt w v w1) := HB0.out.step hb1
  have hcc := HB1.out.cells
  rw [HV.out.1, HV.out.2.1, HV.out.2.2.1, HV.out.2.2.2] at hcc
  clear q0 q1 q2 q3 hb1 D0 HB0
  obtain ⟨q0, q1, q2, q3⟩ := hcc
  by_cases hbig : (3000 : Int) ≤ n
  · clear hsm
    go_wp2_with fail
    go_ret
    exact ⟨rfl, HB1.out.1⟩
  have HSM : Hid (LaySmall l) := hsm (by omega)
  clear hsm
  have D1 := IS.out HSM.out _ HB1.out.1
  cases hisb : isB l
  · rw [hisb] at D1
    go_wp2_with fail
    refine D1.mono ?_
    rintro e w2 ⟨rfl, hb2⟩
    go_wp2_with fail
    go_ret
    exact ⟨rfl, (HB1.out.step hb2).1⟩
  rw [hisb] at D1
  have HIS : Hid (IsL l) := isL_of hisb
  go_wp2_with fail
  refine D1.mono ?_
  rintro e w2 ⟨rfl, hb2⟩
  have HB2 : Hid (BoxAt w v w2) := HB1.out.step hb2
  have hcc := HB2.out.cells
  rw [HV.out.1, HV.out.2.1, HV.out.2.2.1, HV.out.2.2.2] at hcc
  clear q0 q1 q2 q3 hb2 D1 HB1
  obtain ⟨q0, q1, q2, q3⟩ := hcc
  have D2 := PR.out HSM.out HIS.out _ HB2.out.1
  go_wp2_with fail
  refine D2.mono ?_
  rintro e w3 ⟨rfl, hsz, hb3⟩
  have HB3 : Hid (BoxAt w v w3) := HB2.out.step hb3
  clear q0 q1 q2 q3 hb3 D2 HB2 SZ IS PR
  have HTX : Hid ((printT l).data.toList = textB [32] [] [] [] (lineWords l)) := by
    show _ = _
    rw [printT, cur_data, lineB, List.append_nil]
  have HPS : Hid (∀ k1 k2, parseP (mkB (trs k1 k2 (textB [32] [] [] [] (lineWords l)))) = (l, perK k2 * (lineWords l).length, 0)) := fun k1 k2 => parse_rem l HIS.out k1 k2
  have HWK : Hid (∀ ws ∈ lineWords l, ∀ w ∈ ws, WOk w) := fun ws hws => (lines_wok l HIS.out ws hws).2
  have HLN : (lineWords l).length ≤ 60 := by
    have := lines_len l
    have h1 := HIS.out.s.1
    have h2 := HIS.out.g.1
    have h3 := HIS.out.p.1
    have h4 := HIS.out.r.1
    omega
  have HBQ : Hid (LaySmall l ∧ LayBig l ∧ LayRd w v l rs) := ⟨HSM.out, HBG.out, HLR.out⟩
  generalize printT l = s at *
  have HCT : Hid ((s.data.toList).count 10 = (lineWords l).length) := by
    show _ = _
    rw [HTX.out]
    exact count_text (lineWords l) HWK.out
  go_wp2_with fail
  go_loopg [6, 7, 8] s.size (fun gk t n i wr => ∃ k : Nat, gk = s.size - k ∧ k ≤ s.size ∧ i = .int .i64 k ∧ t = .string (mkB (trs k1 k2 (s.data.toList.take k))) ∧ n = .int .i64 (perK k2 * (s.data.toList.take k).count 10 : Nat) ∧ wr = w3)
  case atStart => exact ⟨0, rfl, by omega, rfl, rfl, by simp, rfl⟩
  case round =>
    obtain ⟨k, rfl, hk, rfl, rfl, rfl, hwr⟩ := hrel
    subst hwr
    by_cases hlt : k < s.size
    · have hki : (k : Int) < (s.size : Int) := by omega
      obtain ⟨c, hc⟩ := at_some hlt
      have hbt := byte_at hc hlt
      have hcl : (s.data.toList.take k).count 10 ≤ k := Nat.le_trans List.count_le_length (by rw [List.length_take]; omega)
      have HCM : Hid ((s.data.toList.take (k + 1)).count 10 = (s.data.toList.take k).count 10 + (if c = 10 then 1 else 0)) := count_more hc
      have HTM : Hid (∀ X : ByteArray, X.data.toList = trK k1 k2 c → mkB (trs k1 k2 (s.data.toList.take k)) ++ X = mkB (trs k1 k2 (s.data.toList.take (k + 1)))) := fun X hX => by
        apply bytes_eq
        rw [ByteArray.data_append, Array.toList_append, hX, List.take_add_one, hc]
        simp [mkB, trs]
      have htz : (mkB (trs k1 k2 (s.data.toList.take k))).size ≤ 11 * k := by
        rw [Lib.size_eq]
        show (trs k1 k2 (s.data.toList.take k)).toArray.toList.length ≤ 11 * k
        rw [List.toList_toArray]
        refine Nat.le_trans (trs_size _ _ _) ?_
        rw [List.length_take]
        omega
      have HEX : Hid ((s.extract k (k + 1)).data.toList = [c]) := by
        obtain ⟨h1, h2⟩ := List.getElem?_eq_some_iff.1 hc
        show _ = _
        rw [extract_all, List.drop_eq_getElem_cons h1, h2, show k + 1 - k = 1 by omega]
        rfl
      clear hc
      generalize hct : (s.data.toList.take k).count 10 = ct at *
      generalize htt : mkB (trs k1 k2 (s.data.toList.take k)) = tt at *
      clear hct htt
      have hpn : perK k2 * ct ≤ 2 * k := by cases k2 <;> simp [perK] <;> omega
      have HPN : Hid (perK k2 * (ct + 1) = perK k2 * ct + perK k2) := Nat.mul_succ _ _
      generalize hq : perK k2 * ct = pn at *
      have HQ : Hid (perK k2 * ct = pn) := hq
      clear hq
      have hxz : (s.extract k (k + 1)).size = 1 := by
        rw [Lib.size_eq, HEX.out]
        rfl
      have u8ne : ∀ d : UInt8, ¬ c = d → ((c.toNat : Int) == (d.toNat : Int)) = false := fun d hd => by
        have : c.toNat ≠ d.toNat := fun e => hd (UInt8.toNat_inj.1 e)
        simp
        omega
      have hsl : ∀ W, (Instr.slice 9 (.string s) (some (.int .i64 k)) (some (.int .i64 ((k : Int) + 1))) none).run Tryd.prog W = .ok (.string (s.extract k (k + 1))) W := fun W => by
        have := run_slice_string (P := Tryd.prog) (w := W) 9 s .i64 .i64 k ((k : Int) + 1) Tryd.underlying9 (by omega) (by omega) (by omega)
        rw [show ((k : Int) + 1).toNat = k + 1 by omega, Int.toNat_natCast] at this
        exact this
      by_cases hc32 : c = 32
      · have HC10 : Hid (¬ c = 10) := by rw [Hid, hc32]; decide
        cases k1
        · have HT2 : Hid (tt ++ s.extract k (k + 1) = mkB (trs false k2 (s.data.toList.take (k + 1)))) := HTM.out _ (by rw [HEX.out, hc32]; rfl)
          subst hc32
          clear u8ne
          go_wp2
          go_roundg (s.size - (k + 1))
          case rel => exact ⟨k + 1, rfl, by omega, by go_num, by rw [← HT2.out], by rw [HCM.out, if_neg HC10.out, Nat.add_zero, HQ.out], rfl⟩
          case measure => omega
        · have HT2 : Hid (tt ++ ⟨#[32, 9, 32]⟩ = mkB (trs true k2 (s.data.toList.take (k + 1)))) := HTM.out _ (by rw [hc32]; rfl)
          subst hc32
          clear u8ne
          go_wp2
          go_roundg (s.size - (k + 1))
          case rel => exact ⟨k + 1, rfl, by omega, by go_num, by rw [← HT2.out], by rw [HCM.out, if_neg HC10.out, Nat.add_zero, HQ.out], rfl⟩
          case measure => omega
      · have hb32 : ((c.toNat : Int) == 32) = false := u8ne 32 hc32
        by_cases hc10 : c = 10
        · have HT2 : Hid (∀ X : ByteArray, X.data.toList = 32 :: (remL ++ 10 :: moreK k2) → tt ++ X = mkB (trs k1 k2 (s.data.toList.take (k + 1)))) := fun X hX => HTM.out X (by rw [hX, hc10]; rfl)
          have HC10 : Hid (c = 10) := hc10
          have hb10 : ((c.toNat : Int) == 10) = true := by rw [hc10]; rfl
          clear u8ne hc10
          cases k2
          · go_wp2
            go_roundg (s.size - (k + 1))
            case rel => exact ⟨k + 1, rfl, by omega, by go_num, by rw [← HT2.out ⟨#[32, 35, 32, 255, 32, 115, 101, 116, 10]⟩ rfl], by rw [HCM.out, if_pos HC10.out, HPN.out]; rfl, rfl⟩
            case measure => omega
          · have HAS : Hid (tt ++ ⟨#[32, 35, 32, 255, 32, 115, 101, 116, 10]⟩ ++ ⟨#[9, 10]⟩ = tt ++ ⟨#[32, 35, 32, 255, 32, 115, 101, 116, 10, 9, 10]⟩) := by rw [ByteArray.append_assoc]; rfl
            go_wp2
            go_roundg (s.size - (k + 1))
            case rel => exact ⟨k + 1, rfl, by omega, by go_num, by rw [← HT2.out ⟨#[32, 35, 32, 255, 32, 115, 101, 116, 10, 9, 10]⟩ rfl, ← HAS.out], by rw [HCM.out, if_pos HC10.out, HPN.out]; show _ = Value.int .i64 ((pn + 2 : Nat) : Int); go_num, rfl⟩
            case measure => omega
        · have HT2 : Hid (tt ++ s.extract k (k + 1) = mkB (trs k1 k2 (s.data.toList.take (k + 1)))) := HTM.out _ (by rw [HEX.out, trK, if_neg hc32, if_neg hc10])
          have HC10 : Hid (¬ c = 10) := hc10
          have hb10 : ((c.toNat : Int) == 10) = false := u8ne 10 hc10
          clear u8ne hc10 hc32
          go_wp2
          go_roundg (s.size - (k + 1))
          case rel => exact ⟨k + 1, rfl, by omega, by go_num, by rw [← HT2.out], by rw [HCM.out, if_neg HC10.out, Nat.add_zero, HQ.out], rfl⟩
          case measure => omega
    · have hki : ¬ (k : Int) < (s.size : Int) := by omega
      rw [List.take_of_length_le (by rw [← Lib.size_eq]; omega), HCT.out]
      have hpl : perK k2 * (lineWords l).length ≤ 54 := by
        have h0 := lines_len l
        have h1 := HIS.out.s.1
        have h2 := HIS.out.g.1
        have h3 := HIS.out.p.1
        have h4 := HIS.out.r.1
        cases k2
        · show 1 * (lineWords l).length ≤ 54; omega
        · show 2 * (lineWords l).length ≤ 54; omega
      have htz : (mkB (trs k1 k2 s.data.toList)).size ≤ 11 * s.size := by
        rw [Lib.size_eq]
        show (trs k1 k2 s.data.toList).toArray.toList.length ≤ 11 * s.size
        rw [List.toList_toArray, Lib.size_eq]
        exact trs_size _ _ _
      have PA : Hid (∀ W, Calls Tryd.prog 15 #[.string (mkB (trs k1 k2 s.data.toList))] W fun en w' => ∃ u qs p0 m0 d0 p1 m1 d1 p2 m2 d2 p3 m3 d3, en = .returned (.tuple #[.agg #[.slice p0 m0 d0, .slice p1 m1 d1, .slice p2 m2 d2, .slice p3 m3 d3], .int .i64 (perK k2 * (lineWords l).length : Nat), .int .i64 0]) ∧ (u 0 = .slice p0 m0 d0 ∧ u 1 = .slice p1 m1 d1 ∧ u 2 = .slice p2 m2 d2 ∧ u 3 = .slice p3 m3 d3) ∧ LayRd w' u l qs ∧ Below W.heap.size W w') := fun W => by
        refine (parse_any HBY.out _ W (by omega)).mono ?_
        rintro en w' ⟨u, qs, rfl, hrd, _, hb⟩
        rw [HTX.out, HPS.out] at hrd ⊢
        obtain ⟨p0, d0, h0, _⟩ := hrd.s
        obtain ⟨p1, d1, h1, _⟩ := hrd.p
        obtain ⟨p2, d2, h2, _⟩ := hrd.g
        obtain ⟨p3, d3, h3, _⟩ := hrd.r
        refine ⟨u, qs, p0, l.sections.length, d0, p1, l.points.length, d1, p2, l.signals.length, d2, p3, qs.length, d3, ?_, ⟨h0, h1, h2, h3⟩, hrd, hb⟩
        rw [h0, h1, h2, h3]
        rfl
      generalize perK k2 * (lineWords l).length = pl at *
      generalize mkB (trs k1 k2 s.data.toList) = tx at *
      have hpi : ¬ (60 : Int) < (pl : Int) := by omega
      clear HPS HCT HWK htz hk hlt
      go_wp2_with fail
      refine (PA.out _).mono ?_
      rintro en w5 ⟨u, qs, p0, m0, d0, p1, m1, d1, p2, m2, d2, p3, m3, d3, rfl, hu, hrd, hb5⟩
      have hbl5 := HB3.out.1.trans (hb5.mono HB3.out.1.size)
      have HB5 : Hid (BoxAt w v (w5.alloc (.cells #[.slice p0 m0 d0, .slice p1 m1 d1, .slice p2 m2 d2, .slice p3 m3 d3] 26))) := (HB3.out.step hb5).step ((Below.refl _ _).alloc (Nat.le_refl _) _)
      have SM : Hid (∀ W, Below (w5.alloc (.cells #[.slice p0 m0 d0, .slice p1 m1 d1, .slice p2 m2 d2, .slice p3 m3 d3] 26)).heap.size (w5.alloc (.cells #[.slice p0 m0 d0, .slice p1 m1 d1, .slice p2 m2 d2, .slice p3 m3 d3] 26)) W → Calls Tryd.prog 9 #[.agg #[.slice p0 m0 d0, .slice p1 m1 d1, .slice p2 m2 d2, .slice p3 m3 d3], .agg #[.slice o0 n0 c0, .slice o1 n1 c1, .slice o2 n2 c2, .slice o3 n3 c3]] W fun e w' => e = .returned (.bool true) ∧ Below W.heap.size W w') := fun W hW => by
        have hal : Below w5.heap.size w5 (w5.alloc (.cells #[.slice p0 m0 d0, .slice p1 m1 d1, .slice p2 m2 d2, .slice p3 m3 d3] 26)) := (Below.refl _ _).alloc (Nat.le_refl _) _
        have h1 : Below w5.heap.size w5 W := hal.trans (hW.mono hal.size)
        have h2 : Below w.heap.size w W := hbl5.trans (h1.mono hbl5.size)
        have hmid := LayMid.of HBQ.out.1 HBQ.out.2.1
        have := refSame_any u v l l qs rs W (hrd.below h1) (HBQ.out.2.2.below h2) hmid hmid
        rw [sameB_self, HV.out.1, HV.out.2.1, HV.out.2.2.1, HV.out.2.2.2, hu.1, hu.2.1, hu.2.2.1, hu.2.2.2] at this
        exact this
      have hcc := HB5.out.cells
      rw [HV.out.1, HV.out.2.1, HV.out.2.2.1, HV.out.2.2.2] at hcc
      obtain ⟨q0, q1, q2, q3⟩ := hcc
      clear hb5 PA hu hrd
      go_wp2_with fail
      refine (SM.out _ (Below.refl _ _)).mono ?_
      rintro e w6 ⟨rfl, hb6⟩
      have HB6 : Hid (Below w.heap.size w w6) := HB5.out.1.trans (hb6.mono HB5.out.1.size)
      clear hb6 SM q0 q1 q2 q3
      go_wp2_with (go_at_call 13; refine (known_any HBY.out _).mono ?_; rintro e w7 ⟨rfl, hb7⟩)
      go_ret
      exact ⟨rfl, HB6.out.trans (hb7.mono HB6.out.size)⟩
set_option maxRecDepth 1000000 in
set_option maxHeartbeats 16000000 in
theorem walk_out (w : World) (v : Nat → Value) (l : Lay) (rs : List RtV) (h : LayRd w v l rs) (hB : LayBig l) (hcap : ∀ x ∈ rs, capOk x.2.1) (q : Int) (hq : q < 0 ∨ 3 < q) (hT : Lib.Utf8Tabs 0 1 w) :
    Calls Tryd.prog 5 #[.agg #[v 0, v 1, v 2, v 3], .int .i64 q] w fun e w' => e = .returned (.bool true) ∧ Below w.heap.size w w' := by
  have HLR : Hid (LayRd w v l rs) := h
  have HBG : Hid (LayBig l) := hB
  have HCAP : Hid (∀ x ∈ rs, capOk x.2.1) := hcap
  have HT : Hid (Lib.Utf8Tabs 0 1 w) := hT
  obtain ⟨o0, c0, e0, _⟩ := h.s
  obtain ⟨o1, c1, e1, _⟩ := h.p
  obtain ⟨o2, c2, e2, _⟩ := h.g
  obtain ⟨o3, c3, e3, _⟩ := h.r
  have S := BoxAt.start w v
  have SZ : Hid (∀ W, Below w.heap.size w W → Calls Tryd.prog 7 #[.agg #[v 0, v 1, v 2, v 3]] W fun e w' => ∃ n : Int, e = .returned (.int .i64 n) ∧ 0 ≤ n ∧ n ≤ 1125899906842624 ∧ (n < 3000 → LaySmall l) ∧ Below W.heap.size W w') := fun W hW => size_any v l rs W (h.below hW) hB
  have IS : Hid (LaySmall l → ∀ W, Below w.heap.size w W → Calls Tryd.prog 14 #[.agg #[v 0, v 1, v 2, v 3]] W fun e w' => e = .returned (.bool (isB l)) ∧ Below W.heap.size W w') := fun hs W hW => is_any v l rs W (h.below hW) hcap (LayMid.of hs hB) (tabs_below hT hW)
  have PR : Hid (LaySmall l → IsL l → ∀ W, Below w.heap.size w W → Calls Tryd.prog 12 #[.agg #[v 0, v 1, v 2, v 3]] W fun e w' => e = .returned (.string (printT l)) ∧ (printT l).size ≤ 1000000 ∧ Below W.heap.size W w') := fun hs hL W hW => refPrint_any v l rs W (h.below hW) hL hs
  have HV : Hid (v 0 = .slice o0 l.sections.length c0 ∧ v 1 = .slice o1 l.points.length c1 ∧ v 2 = .slice o2 l.signals.length c2 ∧ v 3 = .slice o3 rs.length c3) := ⟨e0, e1, e2, e3⟩
  rw [e0, e1, e2, e3] at S SZ IS PR ⊢
  clear h hB hcap hT e0 e1 e2 e3
  generalize hs0 : l.sections.length = n0 at *
  generalize hs1 : l.points.length = n1 at *
  generalize hs2 : l.signals.length = n2 at *
  generalize hs3 : rs.length = n3 at *
  clear hs0 hs1 hs2 hs3
  have hcc := S.cells
  rw [HV.out.1, HV.out.2.1, HV.out.2.2.1, HV.out.2.2.2] at hcc
  obtain ⟨q0, q1, q2, q3⟩ := hcc
  have HB0 : Hid (BoxAt w v (w.alloc (.cells #[.slice o0 n0 c0, .slice o1 n1 c1, .slice o2 n2 c2, .slice o3 n3 c3] 26))) := S
  have D0 := SZ.out _ S.1
  clear S
  go_enter Tryd.func5, Tryd.ntmps5
  go_wp2_with fail
  refine D0.mono ?_
  rintro e w1 ⟨n, rfl, hn0, hn1, hsm, hb1⟩
  have HB1 : Hid (BoxAt w v w1) := HB0.out.step hb1
  have hcc := HB1.out.cells
  rw [HV.out.1, HV.out.2.1, HV.out.2.2.1, HV.out.2.2.2] at hcc
  clear q0 q1 q2 q3 hb1 D0 HB0
  obtain ⟨q0, q1, q2, q3⟩ := hcc
  by_cases hbig : (3000 : Int) ≤ n
  · clear hsm
    go_wp2_with fail
    go_ret
    exact ⟨rfl, HB1.out.1⟩
  have HSM : Hid (LaySmall l) := hsm (by omega)
  clear hsm
  have D1 := IS.out HSM.out _ HB1.out.1
  cases hisb : isB l
  · rw [hisb] at D1
    go_wp2_with fail
    refine D1.mono ?_
    rintro e w2 ⟨rfl, hb2⟩
    go_wp2_with fail
    go_ret
    exact ⟨rfl, (HB1.out.step hb2).1⟩
  rw [hisb] at D1
  go_wp2_with fail
  refine D1.mono ?_
  rintro e w2 ⟨rfl, hb2⟩
  have HB2 : Hid (BoxAt w v w2) := HB1.out.step hb2
  clear q0 q1 q2 q3 hb2 D1 HB1
  by_cases hq0 : q < 0
  · clear hq
    go_wp2_with fail
    go_ret
    exact ⟨rfl, HB2.out.1⟩
  · have hq3 : 3 < q := by omega
    clear hq
    go_wp2_with fail
    go_ret
    exact ⟨rfl, HB2.out.1⟩
theorem walk (w : World) (v : Nat → Value) (l : Lay) (rs : List RtV) (h : LayRd w v l rs) (hB : LayBig l) (hcap : ∀ x ∈ rs, capOk x.2.1) (_ : capOk (v 3)) (q : Int) (_ : (Lit.int .i64 q).wf = true) (hT : Lib.Utf8Tabs 0 1 w) :
    Calls Tryd.prog 5 #[.agg #[v 0, v 1, v 2, v 3], .int .i64 q] w fun e w' => e = .returned (.bool true) ∧ Below w.heap.size w w' := by
  by_cases hq : q < 0 ∨ 3 < q
  · exact walk_out w v l rs h hB hcap q hq hT
  · rcases (show q = 0 ∨ q = 1 ∨ q = 2 ∨ q = 3 by omega) with rfl | rfl | rfl | rfl
    · exact walk_in byPlaces_any w v l rs h hB hcap 0 0 0 false false (by omega) (by omega) (by decide +kernel) (by decide +kernel) (by decide) (by decide) hT
    · exact walk_in byPlaces_any w v l rs h hB hcap 1 1 0 true false (by omega) (by omega) (by decide +kernel) (by decide +kernel) (by decide) (by decide) hT
    · exact walk_in byPlaces_any w v l rs h hB hcap 2 0 2 false true (by omega) (by omega) (by decide +kernel) (by decide +kernel) (by decide) (by decide) hT
    · exact walk_in byPlaces_any w v l rs h hB hcap 3 1 2 true true (by omega) (by omega) (by decide +kernel) (by decide +kernel) (by decide) (by decide) hT

theorem own : ownKnob Tryd.prog.godebug = none := by kernel_rfl
theorem u8x : U8Extra Tryd.prog Tryd.lays260_ren := ⟨by kernel_rfl, by kernel_rfl, by kernel_rfl, by kernel_rfl, by kernel_rfl, by kernel_rfl, by kernel_rfl⟩
theorem accept_eq : (Rows.laid_unicode_utf8_acceptRanges : DataW Unit) = Lib.acceptData := by kernel_rfl
theorem first_eq : Rows.laid_unicode_utf8_first = Lib.firstData := Pinned.utf8First_eq
theorem tabs_of {W : World} (hL : laidMet Tryd.prog Rows.planRemarksRow.laid W) : Lib.Utf8Tabs 0 1 W :=
  utf8Tabs_of_readsT (U8Types.of260 Tryd.lays260) u8x (first_eq ▸ Lib.laidMet.reads hL (.tail _ (.head _))) (accept_eq ▸ Lib.laidMet.reads hL (.head _))

set_option maxRecDepth 100000 in
theorem lifted (os : Os) (started : os.Started) (H : Type) (enc : TypeId × Value → H) :
    ReturnsInHanded {} Tryd.checked os 5 .any (fun w args => (Rows.planRemarksSpec.pre enc Tryd.prog Tryd.f5 [] false w args ∧ laidMetH Tryd.prog Rows.planRemarksRow.laid w) ∧ sizedMet enc Tryd.prog Tryd.f5 (OpenSpec.ofChange Rows.planRemarksSpec) false w args)
      (Rows.planRemarksSpec.post enc Tryd.prog Tryd.f5 false true false false) := by
  refine returnsInHanded_of_change_and (C := Tryd.checked) (X := fun w _ => laidMetH Tryd.prog Rows.planRemarksRow.laid w) (fun _ _ _ hh h => h.of_heap hh) own started (by kernel_rfl) Tryd.func5
    (ChangeSpec.witness_shaped (enc := enc) (C := Tryd.checked) (os := os) (X := fun w _ => laidMetH Tryd.prog Rows.planRemarksRow.laid w) false (World.laidAll Tryd.prog os Rows.planRemarksRow.laid) #[.agg #[.slice none 0 0, .slice none 0 0, .slice none 0 0, .slice none 0 0], .int .i64 0] 8 (World.laidAll_os _ _ _)
      (World.shaped_of_ZipB (by kernel_rfl) (by kernel_rfl)) (by kernel_rfl) (by kernel_rfl) (by kernel_rfl)
      (by rw [MakeChecks.laidMetH_plain _ _ _ (by kernel_rfl)]; exact laidMet_laidAll _ (by kernel_rfl) (by kernel_rfl))) ?_
  intro W base args ds gs before hval0 hW _ hsz0 hL _
  have hval : ∀ (j : Nat) t v, Tryd.f5.params[j]? = some t → args[j]? = some v → Value.okWide Tryd.prog W .any base t v := hval0
  have hsz : (DataW.weightsEach Tryd.prog (Tryd.f5.params.toList ++ Rows.planRemarksSpec.plain.varTypes Tryd.prog) (ds ++ gs)).all (· ≤ reachBytes) = true := hsz0
  have hW' := hW
  obtain ⟨p, q, hA0, hV, rfl, _, _⟩ := hW
  have hA : DataW.TrodAll enc Tryd.prog W 0 (fun _ => true) true Tryd.f5.params.toList args.toList ds p := hA0
  rw [Tryd.params5] at hA hval hsz
  obtain ⟨v0, vs0, d0, ds0, p0, q0, hargs, rfl, rfl, h0, r0⟩ := trodAll_cons hA
  obtain ⟨v1, vs1, d1, ds1, p1, q1, rfl, rfl, rfl, h1, r1⟩ := trodAll_cons r0
  obtain ⟨rfl, rfl, rfl⟩ := trodAll_nil r1
  obtain rfl : args = #[v0, v1] := by cases args; simp_all
  obtain ⟨rfl, rfl⟩ := trodVars_none hV
  have k0 := h0
  have lt0 : ∀ x ∈ p0, x.block < W.heap.size := by obtain ⟨m, hm⟩ := k0; exact DataW.trod_lt m _ _ _ hm
  have g0 := weights_at hsz (j := 0) (t := 26) rfl rfl
  obtain ⟨u0, l0, s0, rfl, y0, b0, c0, x0⟩ := open_layout (hval 0 26 v0 rfl rfl) h0 g0
  obtain ⟨a1, rfl, rfl, rfl, w1⟩ := open_int Tryd.underlying3 (hval 1 3 v1 rfl rfl) h1
  clear hA0 hval0
  rw [MakeChecks.laidMetH_plain _ _ _ (by kernel_rfl)] at hL
  refine (walk W u0 l0 s0 y0 b0 c0 x0 a1 w1 (tabs_of hL)).mono fun e W' ⟨he, bel⟩ => ?_
  subst he
  exact ⟨_, rfl, _, _, _, [], _, [], hW', trodAll_mk1 (shut_bool Tryd.underlying4 _), (trodAll_cons_mk (Below.trod laidOut (by kernel_rfl) (of_decide_eq_true (by kernel_rfl)) k0 bel lt0) (trodAll_cons_mk (shut_int Tryd.underlying3 w1) trodAll_mk0)), rfl, bel.frame _, fun h => by cases h⟩

theorem over : Rows.planRemarksRow.holds Tryd.pinned (OpenSpec.ofChange Rows.planRemarksSpec) :=
  OpenClaim.holds_of_wide 5 Tryd.f5 rfl rfl rfl rfl rfl rfl rfl ⟨rfl, rfl, rfl, rfl, rfl⟩ rfl rfl rfl rfl rfl (by kernel_rfl) Tryd.func5 (by kernel_rfl)
    (of_decide_eq_true (by kernel_rfl)) (by unfold Func.isWrapper; first | (rw [if_pos (by decide +kernel)]; kernel_rfl) | (rw [if_neg (by decide +kernel)]; exact ⟨rfl, rfl⟩))
    (fun os started H enc _ => lifted os started H enc)

theorem card : Rows.PlanRemarksCardSaid :=
  Claim7.holds_tied_plain_at .later [] _ _ _ _ over (fun _ h => by cases h) (by kernel_rfl) (fun _ h => by cases h) planRemarks_row_tie rfl ⟨rfl, rfl⟩ (by kernel_rfl) rfl
    (fun f fn hf hfn => by
      obtain rfl : f = 5 := Option.some.inj ((show Tryd.prog.funcNamed Rows.planRemarksRow.func = some 5 by kernel_rfl).symm.trans hf) |>.symm
      obtain rfl : fn = Tryd.f5 := (Option.some.inj (Tryd.func5.symm.trans hfn)).symm
      exact ⟨by kernel_rfl, fun j t ht => by
        rw [Tryd.params5] at ht
        have hm : t ∈ [26, 3] := by simpa using Array.mem_of_getElem? ht
        have hall : ([26, 3].all fun u => !Tryd.prog.wantsStandIn u) = true := by kernel_rfl
        exact (show Tryd.prog.wantsStandIn t = false by simpa using List.all_eq_true.1 hall t hm)⟩)
    (by kernel_rfl)

end Go.Proofs.YtbifcicipkhohaaDoor.planRemarks
namespace Go.Proofs.YtbifcicipkhohaaDoor
theorem planRemarks_holds : Rows.PlanRemarksCardSaid := planRemarks.card
#print axioms planRemarks_holds
end Go.Proofs.YtbifcicipkhohaaDoor
