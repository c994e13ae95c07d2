/-
  Of any layout and any number: PlanHeads returns true. The tables of unicode/utf8 are as the program's text lays them (the tied card).
-/
import Derived.Test.YtbifcicipkhohabDoorRows
import Derived.Test.YtbifcicipkhohabDoorCards
import Derived.Test.YtbifcicipkhohabDoorTie
import Derived.Test.YtbifcicipkhohabDoorLyPrint
import Derived.Test.YtbifcicipkhohabDoorLyHeadsP
import Derived.Test.YtbifcicipkhohabDoorPlKnown
import Derived.Test.YtbifcicipkhohabDoorPlBy
import Derived.WalkKit
import Derived.ProofKit
import Derived.OpenShut
import Derived.ShutString
import Derived.ChangeOld
import Derived.Below
import Derived.SizedLaws
import Derived.PinnedBridge
import Derived.Lib.LaidU8T
import Derived.Lay
import Derived.LaidOnce
import Derived.SevenTiedAt
import Derived.Deep.DeepHandedRow
namespace Go.Proofs.YtbifcicipkhohabDoor.planHeads
open Go.ChangeShapes Go.WideShapes Go.ChangeAt Go.RowKit

theorem at_some {s : ByteArray} {k : Nat} (h : k < s.size) : ∃ c, s.data.toList[k]? = some c := ⟨s.data.toList[k]'(by rw [← Lib.size_eq]; exact h), List.getElem?_eq_getElem _⟩
set_option maxRecDepth 1000000 in
set_option maxHeartbeats 16000000 in
theorem walk_in (hby : BySaid) (w : World) (v : Nat → Value) (l : Lay) (rs : List RtV) (h : LayRd w v l rs) (hB : LayBig l) (hcap : ∀ x ∈ rs, capOk x.2.1) (q : Int) (hT : Lib.Utf8Tabs 0 1 w) :
    Calls Tryd.prog 3 #[.agg #[v 0, v 1, v 2, v 3], .int .i64 q] w fun e w' => e = .returned (.bool true) ∧ Below w.heap.size w w' := by
  have HBY : Hid BySaid := hby
  have HLR : Hid (LayRd w v l rs) := h
  have HBG : Hid (LayBig l) := hB
  have HCAP : Hid (∀ x ∈ rs, capOk x.2.1) := hcap
  have HT : Hid (Lib.Utf8Tabs 0 1 w) := hT
  obtain ⟨o0, c0, e0, _⟩ := h.s
  obtain ⟨o1, c1, e1, _⟩ := h.p
  obtain ⟨o2, c2, e2, _⟩ := h.g
  obtain ⟨o3, c3, e3, _⟩ := h.r
  have S := BoxAt.start w v
  have SZ : Hid (∀ W, Below w.heap.size w W → Calls Tryd.prog 4 #[.agg #[v 0, v 1, v 2, v 3]] W fun e w' => ∃ n : Int, e = .returned (.int .i64 n) ∧ 0 ≤ n ∧ n ≤ 1125899906842624 ∧ (n < 3000 → LaySmall l) ∧ Below W.heap.size W w') := fun W hW => size_any v l rs W (h.below hW) hB
  have IS : Hid (LaySmall l → ∀ W, Below w.heap.size w W → Calls Tryd.prog 5 #[.agg #[v 0, v 1, v 2, v 3]] W fun e w' => e = .returned (.bool (isB l)) ∧ Below W.heap.size W w') := fun hs W hW => is_any v l rs W (h.below hW) hcap (LayMid.of hs hB) (tabs_below hT hW)
  have PR : Hid (LaySmall l → IsL l → ∀ W, Below w.heap.size w W → Calls Tryd.prog 6 #[.agg #[v 0, v 1, v 2, v 3]] W fun e w' => e = .returned (.string (printT l)) ∧ (printT l).size ≤ 1000000 ∧ Below W.heap.size W w') := fun hs hL W hW => refPrint_any v l rs W (h.below hW) hL hs
  have HV : Hid (v 0 = .slice o0 l.sections.length c0 ∧ v 1 = .slice o1 l.points.length c1 ∧ v 2 = .slice o2 l.signals.length c2 ∧ v 3 = .slice o3 rs.length c3) := ⟨e0, e1, e2, e3⟩
  rw [e0, e1, e2, e3] at S SZ IS PR ⊢
  clear h hB hcap hT e0 e1 e2 e3
  generalize hs0 : l.sections.length = n0 at *
  generalize hs1 : l.points.length = n1 at *
  generalize hs2 : l.signals.length = n2 at *
  generalize hs3 : rs.length = n3 at *
  clear hs0 hs1 hs2 hs3
  have hcc := S.cells
  rw [HV.out.1, HV.out.2.1, HV.out.2.2.1, HV.out.2.2.2] at hcc
  obtain ⟨q0, q1, q2, q3⟩ := hcc
  have HB0 : Hid (BoxAt w v (w.alloc (.cells #[.slice o0 n0 c0, .slice o1 n1 c1, .slice o2 n2 c2, .slice o3 n3 c3] 26))) := S
  have D0 := SZ.out _ S.1
  clear S
  go_enter Tryd.func3, Tryd.ntmps3
  go_wp2_with fail
  refine D0.mono ?_
  rintro e w1 ⟨n, rfl, hn0, hn1, hsm, hb1⟩
  have HB1 : Hid (BoxAt w v w1) := HB0.out.step hb1
  have hcc := HB1.out.cells
  rw [HV.out.1, HV.out.2.1, HV.out.2.2.1, HV.out.2.2.2] at hcc
  clear q0 q1 q2 q3 hb1 D0 HB0
  obtain ⟨q0, q1, q2, q3⟩ := hcc
  by_cases hbig : (3000 : Int) ≤ n
  · clear hsm
    go_wp2_with fail
    go_ret
    exact ⟨rfl, HB1.out.1⟩
  have HSM : Hid (LaySmall l) := hsm (by omega)
  clear hsm
  have D1 := IS.out HSM.out _ HB1.out.1
  cases hisb : isB l
  · rw [hisb] at D1
    go_wp2_with fail
    refine D1.mono ?_
    rintro e w2 ⟨rfl, hb2⟩
    go_wp2_with fail
    go_ret
    exact ⟨rfl, (HB1.out.step hb2).1⟩
  rw [hisb] at D1
  have HIS : Hid (IsL l) := isL_of hisb
  go_wp2_with fail
  refine D1.mono ?_
  rintro e w2 ⟨rfl, hb2⟩
  have HB2 : Hid (BoxAt w v w2) := HB1.out.step hb2
  have hcc := HB2.out.cells
  rw [HV.out.1, HV.out.2.1, HV.out.2.2.1, HV.out.2.2.2] at hcc
  clear q0 q1 q2 q3 hb2 D1 HB1
  obtain ⟨q0, q1, q2, q3⟩ := hcc
  have D2 := PR.out HSM.out HIS.out _ HB2.out.1
  go_wp2_with fail
  refine D2.mono ?_
  rintro e w3 ⟨rfl, hsz, hb3⟩
  have HB3 : Hid (BoxAt w v w3) := HB2.out.step hb3
  clear q0 q1 q2 q3 hb3 D2 HB2 SZ IS PR
  have HTX : Hid ((printT l).data.toList = textB [32] [] [] [] (lineWords l)) := by
    show _ = _
    rw [printT, cur_data, lineB, List.append_nil]
  have HHD : Hid (∀ k, k ≤ (lineWords l).length → ∃ m, parseP (cur ((lineWords l).take k) []) = (m, k, 0) ∧ total m = k) := fun k hk => parse_head l HIS.out k hk
  have HWK : Hid (∀ ws ∈ lineWords l, ∀ w ∈ ws, WOk w) := fun ws hws => (lines_wok l HIS.out ws hws).2
  have HLN : (lineWords l).length ≤ 60 := by
    have := lines_len l
    have h1 := HIS.out.s.1
    have h2 := HIS.out.g.1
    have h3 := HIS.out.p.1
    have h4 := HIS.out.r.1
    omega
  generalize printT l = s at *
  generalize lineWords l = ls at *
  have HCT : Hid ((s.data.toList).count 10 = ls.length) := by
    show _ = _
    rw [HTX.out]
    exact count_text ls HWK.out
  go_wp2_with fail
  go_loopg [6, 7] s.size (fun gk n i wr => ∃ k : Nat, gk = s.size - k ∧ k ≤ s.size ∧ i = .int .i64 k ∧ n = .int .i64 ((s.data.toList.take k).count 10 : Nat) ∧ wr = w3)
  case atStart => exact ⟨0, rfl, by omega, rfl, rfl, rfl⟩
  case round =>
    obtain ⟨k, rfl, hk, rfl, rfl, rfl⟩ := hrel
    by_cases hlt : k < s.size
    · have hki : (k : Int) < (s.size : Int) := by omega
      obtain ⟨c, hc⟩ := at_some hlt
      have hbt := byte_at hc hlt
      have hcm := count_more hc
      have hcl : (s.data.toList.take k).count 10 ≤ k := Nat.le_trans List.count_le_length (by rw [List.length_take]; omega)
      have HCM : Hid ((s.data.toList.take (k + 1)).count 10 = (s.data.toList.take k).count 10 + (if c = 10 then 1 else 0)) := hcm
      clear hcm hc
      generalize hct : (s.data.toList.take k).count 10 = ct at *
      clear hct
      by_cases hc10 : c = 10
      · subst hc10
        go_wp2
        go_roundg (s.size - (k + 1))
        case rel => exact ⟨k + 1, rfl, by omega, by go_num, by rw [HCM.out, if_pos (by trivial)]; go_num, rfl⟩
        case measure => omega
      · have hcb : ((c.toNat : Int) == 10) = false := by
          have : c.toNat ≠ 10 := fun e => hc10 (by
            have := congrArg UInt8.ofNat e
            simpa using this)
          simp
          omega
        have HC10 : Hid (¬ c = 10) := hc10
        clear hc10
        go_wp2
        go_roundg (s.size - (k + 1))
        case rel => exact ⟨k + 1, rfl, by omega, by go_num, by rw [HCM.out, if_neg HC10.out]; rfl, rfl⟩
        case measure => omega
    · have hki : ¬ (k : Int) < (s.size : Int) := by omega
      rw [List.take_of_length_le (by rw [← Lib.size_eq]; omega), HCT.out]
      clear HCT hlt hk
      have hand := i64_and1023 q
      obtain ⟨m, hm⟩ : ∃ m : Nat, q % 1024 = m := ⟨(q % 1024).toNat, by omega⟩
      have hmb : m < 1024 := by omega
      rw [hm] at hand
      clear hm
      obtain ⟨a, ha, hal⟩ : ∃ a : Nat, (m : Int) % ((ls.length : Int) + 1) = a ∧ a ≤ ls.length := ⟨m % (ls.length + 1), by simp, by have := Nat.mod_lt m (show 0 < ls.length + 1 by omega); omega⟩
      obtain ⟨w4, hw4⟩ : ∃ w4, w4 = wr := ⟨wr, rfl⟩
      subst hw4
      go_wp2_with fail
      clear ha hand hmb hki
      go_loopg [9, 10] a (fun gk p i wq => ∃ j : Nat, gk = a - j ∧ j ≤ a ∧ i = .int .i64 j ∧ p = .int .i64 ((textB [32] [] [] [] (ls.take j)).length : Nat) ∧ wq = w4)
      case atStart => exact ⟨0, rfl, by omega, rfl, rfl, rfl⟩
      case round =>
        obtain ⟨j, rfl, hj, rfl, rfl, hwq⟩ := hrel
        subst hwq
        by_cases hlt : j < a
        · have hji : (j : Int) < (a : Int) := by omega
          obtain ⟨ws, hws⟩ : ∃ ws, ls[j]? = some ws := ⟨ls[j]'(by omega), List.getElem?_eq_getElem _⟩
          obtain ⟨f1, f2, f3⟩ := line_bytes hws (HWK.out ws (List.mem_of_getElem? hws)) HTX.out
          generalize hA : (textB [32] [] [] [] (ls.take j)).length = A at *
          generalize hLB : (lineB [32] [] ws).length = L at *
          have hsl : A + L < s.size := by
            rw [Lib.size_eq]
            exact (List.getElem?_eq_some_iff.1 f2).1
          have F1 : Hid (∀ t, t < L → ∃ c, s.data.toList[A + t]? = some c ∧ c ≠ 10) := f1
          have F2 : Hid (s.data.toList[A + L]? = some 10) := f2
          have F3 : Hid ((textB [32] [] [] [] (ls.take (j + 1))).length = A + L + 1) := f3
          clear f1 f2 f3 hA hLB hws
          go_wp2_with fail
          go_loopg [9] (L + 1) (fun gk p wq => ∃ t : Nat, gk = L - t + 1 ∧ t ≤ L ∧ p = .int .i64 ((A : Int) + t) ∧ wq = wr)
          case atStart => exact ⟨0, by omega, by omega, by go_num, rfl⟩
          case round =>
            obtain ⟨t, rfl, ht, rfl, hwq⟩ := hrel
            subst hwq
            have hts : A + t < s.size := by omega
            have htn : ((A : Int) + (t : Int)).toNat = A + t := by omega
            by_cases htl : t < L
            · obtain ⟨c, hc, hc10⟩ := F1.out t htl
              have hbt := byte_at hc hts
              have hcb : ((c.toNat : Int) == 10) = false := by
                have : c.toNat ≠ 10 := fun e => hc10 (by
                  have := congrArg UInt8.ofNat e
                  simpa using this)
                simp
                omega
              clear hc hc10
              go_wp2
              go_roundg (L - (t + 1) + 1)
              case rel => exact ⟨t + 1, rfl, by omega, by go_num, rfl⟩
              case measure => omega
            · obtain rfl : t = L := by omega
              have hbt := byte_at F2.out hts
              go_wp2
              go_roundg (a - (j + 1))
              case rel => exact ⟨j + 1, rfl, by omega, by go_num, by rw [F3.out]; go_num, rfl⟩
              case measure => omega
        · have hji : ¬ (j : Int) < (a : Int) := by omega
          obtain rfl : j = a := by omega
          have hAS : (textB [32] [] [] [] (ls.take j)).length ≤ s.size := by
            rw [Lib.size_eq, HTX.out, ← text_prefix ls j, List.length_take]
            omega
          have EX : Hid (s.extract 0 (textB [32] [] [] [] (ls.take j)).length = cur (ls.take j) []) := by
            apply bytes_eq
            rw [extract_all, cur_data, lineB, List.append_nil, List.drop_zero, Nat.sub_zero, HTX.out, text_prefix]
          have PA : Hid (∀ W, Calls Tryd.prog 7 #[.string (s.extract 0 (textB [32] [] [] [] (ls.take j)).length)] W fun en w' => ∃ p0 m0 d0 p1 m1 d1 p2 m2 d2 p3 m3 d3, en = .returned (.tuple #[.agg #[.slice p0 m0 d0, .slice p1 m1 d1, .slice p2 m2 d2, .slice p3 m3 d3], .int .i64 j, .int .i64 0]) ∧ m0 + m1 + m2 + m3 = j ∧ Below W.heap.size W w') := fun W => by
            obtain ⟨m, hp, htot⟩ := HHD.out j hal
            refine (parse_any HBY.out _ W (by rw [ByteArray.size_extract]; omega)).mono ?_
            rintro en w' ⟨u, rs', rfl, hrd, _, hb⟩
            rw [EX.out, hp] at hrd ⊢
            obtain ⟨p0, d0, h0, _⟩ := hrd.s
            obtain ⟨p1, d1, h1, _⟩ := hrd.p
            obtain ⟨p2, d2, h2, _⟩ := hrd.g
            obtain ⟨p3, d3, h3, _⟩ := hrd.r
            refine ⟨p0, m.sections.length, d0, p1, m.points.length, d1, p2, m.signals.length, d2, p3, rs'.length, d3, ?_, ?_, hb⟩
            · rw [h0, h1, h2, h3]
              rfl
            · rw [show rs'.length = m.routes.length by rw [← hrd.m, List.length_map]]
              exact htot
          generalize (textB [32] [] [] [] (ls.take j)).length = A at *
          clear EX HHD
          go_wp2_with fail
          refine (PA.out _).mono ?_
          rintro en w5 ⟨p0, m0, d0, p1, m1, d1, p2, m2, d2, p3, m3, d3, rfl, hmm, hb5⟩
          have HB5 : Hid (Below w.heap.size w (w5.alloc (.cells #[.slice p0 m0 d0, .slice p1 m1 d1, .slice p2 m2 d2, .slice p3 m3 d3] 26))) := (HB3.out.1.trans (hb5.mono HB3.out.1.size)).alloc (HB3.out.1.trans (hb5.mono HB3.out.1.size)).size _
          have hsum : ((m0 : Int) + m2 + m1 + m3 == (j : Int)) = true := by simp; omega
          clear hb5 PA
          go_wp2_with (go_at_call 8; refine (known_any HBY.out _).mono ?_; rintro e w6 ⟨rfl, hb6⟩)
          go_ret
          exact ⟨rfl, HB5.out.trans (hb6.mono HB5.out.size)⟩
theorem walk (w : World) (v : Nat → Value) (l : Lay) (rs : List RtV) (h : LayRd w v l rs) (hB : LayBig l) (hcap : ∀ x ∈ rs, capOk x.2.1) (_ : capOk (v 3)) (q : Int) (_ : (Lit.int .i64 q).wf = true) (hT : Lib.Utf8Tabs 0 1 w) :
    Calls Tryd.prog 3 #[.agg #[v 0, v 1, v 2, v 3], .int .i64 q] w fun e w' => e = .returned (.bool true) ∧ Below w.heap.size w w' := walk_in byPlaces_any w v l rs h hB hcap q hT

theorem own : ownKnob Tryd.prog.godebug = none := by kernel_rfl
theorem u8x : U8Extra Tryd.prog Tryd.lays260_ren := ⟨by kernel_rfl, by kernel_rfl, by kernel_rfl, by kernel_rfl, by kernel_rfl, by kernel_rfl, by kernel_rfl⟩
theorem accept_eq : (Rows.laid_unicode_utf8_acceptRanges : DataW Unit) = Lib.acceptData := by kernel_rfl
theorem first_eq : Rows.laid_unicode_utf8_first = Lib.firstData := Pinned.utf8First_eq
theorem tabs_of {W : World} (hL : laidMet Tryd.prog Rows.planHeadsRow.laid W) : Lib.Utf8Tabs 0 1 W :=
  utf8Tabs_of_readsT (U8Types.of260 Tryd.lays260) u8x (first_eq ▸ Lib.laidMet.reads hL (.tail _ (.head _))) (accept_eq ▸ Lib.laidMet.reads hL (.head _))

set_option maxRecDepth 100000 in
theorem lifted (os : Os) (started : os.Started) (H : Type) (enc : TypeId × Value → H) :
    ReturnsInHanded {} Tryd.checked os 3 .any (fun w args => (Rows.planHeadsSpec.pre enc Tryd.prog Tryd.f3 [] false w args ∧ laidMetH Tryd.prog Rows.planHeadsRow.laid w) ∧ sizedMet enc Tryd.prog Tryd.f3 (OpenSpec.ofChange Rows.planHeadsSpec) false w args)
      (Rows.planHeadsSpec.post enc Tryd.prog Tryd.f3 false true false false) := by
  refine returnsInHanded_of_change_and (C := Tryd.checked) (X := fun w _ => laidMetH Tryd.prog Rows.planHeadsRow.laid w) (fun _ _ _ hh h => h.of_heap hh) own started (by kernel_rfl) Tryd.func3
    (ChangeSpec.witness_shaped (enc := enc) (C := Tryd.checked) (os := os) (X := fun w _ => laidMetH Tryd.prog Rows.planHeadsRow.laid w) false (World.laidAll Tryd.prog os Rows.planHeadsRow.laid) #[.agg #[.slice none 0 0, .slice none 0 0, .slice none 0 0, .slice none 0 0], .int .i64 0] 8 (World.laidAll_os _ _ _)
      (World.shaped_of_ZipB (by kernel_rfl) (by kernel_rfl)) (by kernel_rfl) (by kernel_rfl) (by kernel_rfl)
      (by rw [MakeChecks.laidMetH_plain _ _ _ (by kernel_rfl)]; exact laidMet_laidAll _ (by kernel_rfl) (by kernel_rfl))) ?_
  intro W base args ds gs before hval0 hW _ hsz0 hL _
  have hval : ∀ (j : Nat) t v, Tryd.f3.params[j]? = some t → args[j]? = some v → Value.okWide Tryd.prog W .any base t v := hval0
  have hsz : (DataW.weightsEach Tryd.prog (Tryd.f3.params.toList ++ Rows.planHeadsSpec.plain.varTypes Tryd.prog) (ds ++ gs)).all (· ≤ reachBytes) = true := hsz0
  have hW' := hW
  obtain ⟨p, q, hA0, hV, rfl, _, _⟩ := hW
  have hA : DataW.TrodAll enc Tryd.prog W 0 (fun _ => true) true Tryd.f3.params.toList args.toList ds p := hA0
  rw [Tryd.params3] at hA hval hsz
  obtain ⟨v0, vs0, d0, ds0, p0, q0, hargs, rfl, rfl, h0, r0⟩ := trodAll_cons hA
  obtain ⟨v1, vs1, d1, ds1, p1, q1, rfl, rfl, rfl, h1, r1⟩ := trodAll_cons r0
  obtain ⟨rfl, rfl, rfl⟩ := trodAll_nil r1
  obtain rfl : args = #[v0, v1] := by cases args; simp_all
  obtain ⟨rfl, rfl⟩ := trodVars_none hV
  have k0 := h0
  have lt0 : ∀ x ∈ p0, x.block < W.heap.size := by obtain ⟨m, hm⟩ := k0; exact DataW.trod_lt m _ _ _ hm
  have g0 := weights_at hsz (j := 0) (t := 26) rfl rfl
  obtain ⟨u0, l0, s0, rfl, y0, b0, c0, x0⟩ := open_layout (hval 0 26 v0 rfl rfl) h0 g0
  obtain ⟨a1, rfl, rfl, rfl, w1⟩ := open_int Tryd.underlying3 (hval 1 3 v1 rfl rfl) h1
  clear hA0 hval0
  rw [MakeChecks.laidMetH_plain _ _ _ (by kernel_rfl)] at hL
  refine (walk W u0 l0 s0 y0 b0 c0 x0 a1 w1 (tabs_of hL)).mono fun e W' ⟨he, bel⟩ => ?_
  subst he
  exact ⟨_, rfl, _, _, _, [], _, [], hW', trodAll_mk1 (shut_bool Tryd.underlying4 _), (trodAll_cons_mk (Below.trod laidOut (by kernel_rfl) (of_decide_eq_true (by kernel_rfl)) k0 bel lt0) (trodAll_cons_mk (shut_int Tryd.underlying3 w1) trodAll_mk0)), rfl, bel.frame _, fun h => by cases h⟩

theorem over : Rows.planHeadsRow.holds Tryd.pinned (OpenSpec.ofChange Rows.planHeadsSpec) :=
  OpenClaim.holds_of_wide 3 Tryd.f3 rfl rfl rfl rfl rfl rfl rfl ⟨rfl, rfl, rfl, rfl, rfl⟩ rfl rfl rfl rfl rfl (by kernel_rfl) Tryd.func3 (by kernel_rfl)
    (of_decide_eq_true (by kernel_rfl)) (by unfold Func.isWrapper; first | (rw [if_pos (by decide +kernel)]; kernel_rfl) | (rw [if_neg (by decide +kernel)]; exact ⟨rfl, rfl⟩))
    (fun os started H enc _ => lifted os started H enc)

theorem card : Rows.PlanHeadsCardSaid :=
  Claim7.holds_tied_plain_at .later [] _ _ _ _ over (fun _ h => by cases h) (by kernel_rfl) (fun _ h => by cases h) planHeads_row_tie rfl ⟨rfl, rfl⟩ (by kernel_rfl) rfl
    (fun f fn hf hfn => by
      obtain rfl : f = 3 := Option.some.inj ((show Tryd.prog.funcNamed Rows.planHeadsRow.func = some 3 by kernel_rfl).symm.trans hf) |>.symm
      obtain rfl : fn = Tryd.f3 := (Option.some.inj (Tryd.func3.symm.trans hfn)).symm
      exact ⟨by kernel_rfl, fun j t ht => by
        rw [Tryd.params3] at ht
        have hm : t ∈ [26, 3] := by simpa using Array.mem_of_getElem? ht
        have hall : ([26, 3].all fun u => !Tryd.prog.wantsStandIn u) = true := by kernel_rfl
        exact (show Tryd.prog.wantsStandIn t = false by simpa using List.all_eq_true.1 hall t hm)⟩)
    (by kernel_rfl)

end Go.Proofs.YtbifcicipkhohabDoor.planHeads
namespace Go.Proofs.YtbifcicipkhohabDoor
theorem planHeads_holds : Rows.PlanHeadsCardSaid := planHeads.card
#print axioms planHeads_holds
end Go.Proofs.YtbifcicipkhohabDoor
