/-
  Of any two layouts: PlanPrints returns true. The tables of unicode/utf8 are as the program's text lays them (the tied card).
-/
import Derived.Test.YtgiaicmhnkhbnaaDoorRows
import Derived.Test.YtgiaicmhnkhbnaaDoorCards
import Derived.Test.YtgiaicmhnkhbnaaDoorTie
import Derived.Test.YtgiaicmhnkhbnaaDoorLySameV
import Derived.Test.YtgiaicmhnkhbnaaDoorPlSameP
import Derived.Test.YtgiaicmhnkhbnaaDoorLyMay
import Derived.Test.YtgiaicmhnkhbnaaDoorPlPrint3V
import Derived.Test.YtgiaicmhnkhbnaaDoorPlKnown
import Derived.Test.YtgiaicmhnkhbnaaDoorPlBy
import Derived.Test.YtgiaicmhnkhbnaaDoorLyExt
import Derived.WalkKit
import Derived.ProofKit
import Derived.OpenShut
import Derived.ShutString
import Derived.ChangeOld
import Derived.Below
import Derived.SizedLaws
import Derived.PinnedBridge
import Derived.Lib.LaidU8T
import Derived.Lay
import Derived.LaidOnce
import Derived.SevenTiedAt
import Derived.Deep.DeepHandedRow
namespace Go.Proofs.YtgiaicmhnkhbnaaDoor.planPrints
open Go.ChangeShapes Go.WideShapes Go.ChangeAt Go.RowKit

set_option maxRecDepth 1000000 in
set_option maxHeartbeats 16000000 in
theorem walk_in (hby : BySaid) (w : World) (v : Nat → Value) (l : Lay) (rs : List RtV) (h : LayRd w v l rs) (hB : LayBig l) (u : Nat → Value) (m : Lay) (qs : List RtV) (h' : LayRd w u m qs) (hB' : LayBig m) (hT : Lib.Utf8Tabs 0 1 w) :
    Calls Tryd.prog 3 #[.agg #[v 0, v 1, v 2, v 3], .agg #[u 0, u 1, u 2, u 3]] w fun e w' => e = .returned (.bool true) ∧ Below w.heap.size w w' := by
  have HBY : Hid BySaid := hby
  obtain ⟨o0, c0, e0, _⟩ := h.s
  obtain ⟨o1, c1, e1, _⟩ := h.p
  obtain ⟨o2, c2, e2, _⟩ := h.g
  obtain ⟨o3, c3, e3, _⟩ := h.r
  obtain ⟨p0, d0, f0, _⟩ := h'.s
  obtain ⟨p1, d1, f1, _⟩ := h'.p
  obtain ⟨p2, d2, f2, _⟩ := h'.g
  obtain ⟨p3, d3, f3, _⟩ := h'.r
  have S := LayTwo.start w v u
  have SZ : Hid (∀ W, Below w.heap.size w W → Calls Tryd.prog 4 #[.agg #[v 0, v 1, v 2, v 3]] W fun e w' => ∃ n : Int, e = .returned (.int .i64 n) ∧ 0 ≤ n ∧ n ≤ 1125899906842624 ∧ (n < 3000 → LaySmall l) ∧ Below W.heap.size W w') := fun W hW => size_any v l rs W (h.below hW) hB
  have SY : Hid (∀ W, Below w.heap.size w W → Calls Tryd.prog 4 #[.agg #[u 0, u 1, u 2, u 3]] W fun e w' => ∃ n : Int, e = .returned (.int .i64 n) ∧ 0 ≤ n ∧ n ≤ 1125899906842624 ∧ (n < 3000 → LaySmall m) ∧ Below W.heap.size W w') := fun W hW => size_any u m qs W (h'.below hW) hB'
  have LA : Hid (LaySmall l → ∀ W, Below w.heap.size w W → Calls Tryd.prog 5 #[.agg #[v 0, v 1, v 2, v 3], .agg #[u 0, u 1, u 2, u 3]] W fun e w' => e = .returned (.bool (sameB l m)) ∧ Below W.heap.size W w') := fun hs W hW => planSame_any v u l m rs qs W (h.below hW) (h'.below hW) (LayMid.of hs hB)
  have LB : Hid (LaySmall l → LaySmall m → ∀ W, Below w.heap.size w W → Calls Tryd.prog 6 #[.agg #[v 0, v 1, v 2, v 3], .agg #[u 0, u 1, u 2, u 3]] W fun e w' => e = .returned (.bool (sameB l m)) ∧ Below W.heap.size W w') := fun hs hs' W hW => refSame_any v u l m rs qs W (h.below hW) (h'.below hW) (LayMid.of hs hB) (LayMid.of hs' hB')
  have LC : Hid (LaySmall l → ∀ W, Below w.heap.size w W → Calls Tryd.prog 5 #[.agg #[v 0, v 1, v 2, v 3], .agg #[v 0, v 1, v 2, v 3]] W fun e w' => e = .returned (.bool true) ∧ Below W.heap.size W w') := fun hs W hW => by
    have := planSame_any v v l l rs rs W (h.below hW) (h.below hW) (LayMid.of hs hB)
    rw [sameB_self] at this
    exact this
  have MY : Hid (LaySmall l → ∀ W, Below w.heap.size w W → Calls Tryd.prog 7 #[.agg #[v 0, v 1, v 2, v 3]] W fun e w' => e = .returned (.bool (mayB l)) ∧ Below W.heap.size W w') := fun hs W hW => refMay_any v l rs W (h.below hW) (LayMid.of hs hB) (tabs_below hT hW)
  have PR : Hid (LaySmall l → mayB l = true → ∀ W, Below w.heap.size w W → Calls Tryd.prog 8 #[.agg #[v 0, v 1, v 2, v 3]] W fun e w' => e = .returned (.string (printT l)) ∧ Below W.heap.size W w') := fun hs hm W hW => (planPrint_any v l rs W (h.below hW) (isP_of hm hs) hs).mono fun _ _ hh => ⟨hh.1, hh.2.2⟩
  have RP : Hid (LaySmall l → mayB l = true → ∀ W, Below w.heap.size w W → Calls Tryd.prog 9 #[.agg #[v 0, v 1, v 2, v 3]] W fun e w' => e = .returned (.string (printT l)) ∧ Below W.heap.size W w') := fun hs hm W hW => (refPrint_any v l rs W (h.below hW) (isP_of hm hs) hs).mono fun _ _ hh => ⟨hh.1, hh.2.2⟩
  have HV : Hid (v 0 = .slice o0 l.sections.length c0 ∧ v 1 = .slice o1 l.points.length c1 ∧ v 2 = .slice o2 l.signals.length c2 ∧ v 3 = .slice o3 rs.length c3) := ⟨e0, e1, e2, e3⟩
  have HU : Hid (u 0 = .slice p0 m.sections.length d0 ∧ u 1 = .slice p1 m.points.length d1 ∧ u 2 = .slice p2 m.signals.length d2 ∧ u 3 = .slice p3 qs.length d3) := ⟨f0, f1, f2, f3⟩
  rw [e0, e1, e2, e3] at S SZ LA LB LC MY PR RP ⊢
  rw [f0, f1, f2, f3] at S SY LA LB ⊢
  clear h hB h' hB' hT e0 e1 e2 e3 f0 f1 f2 f3
  generalize hs0 : l.sections.length = n0 at *
  generalize hs1 : l.points.length = n1 at *
  generalize hs2 : l.signals.length = n2 at *
  generalize hs3 : rs.length = n3 at *
  generalize ht0 : m.sections.length = m0 at *
  generalize ht1 : m.points.length = m1 at *
  generalize ht2 : m.signals.length = m2 at *
  generalize ht3 : qs.length = m3 at *
  clear hs0 hs1 hs2 hs3 ht0 ht1 ht2 ht3
  have hcc := S.1.cells
  have hdd := S.cells
  rw [HV.out.1, HV.out.2.1, HV.out.2.2.1, HV.out.2.2.2] at hcc
  rw [HU.out.1, HU.out.2.1, HU.out.2.2.1, HU.out.2.2.2] at hdd
  obtain ⟨q0, q1, q2, q3⟩ := hcc
  obtain ⟨y0, y1, y2, y3⟩ := hdd
  generalize hw1 : (w.alloc (.cells #[.slice o0 n0 c0, .slice o1 n1 c1, .slice o2 n2 c2, .slice o3 n3 c3] 26)).alloc (.cells #[.slice p0 m0 d0, .slice p1 m1 d1, .slice p2 m2 d2, .slice p3 m3 d3] 26) = w1 at *
  have HW1 : Hid ((w.alloc (.cells #[.slice o0 n0 c0, .slice o1 n1 c1, .slice o2 n2 c2, .slice o3 n3 c3] 26)).alloc (.cells #[.slice p0 m0 d0, .slice p1 m1 d1, .slice p2 m2 d2, .slice p3 m3 d3] 26) = w1) := hw1
  have HB1 : Hid (LayTwo w v u w1) := S
  have D0 := SZ.out _ S.1.1
  clear S hw1
  go_enter Tryd.func3, Tryd.ntmps3
  go_upto_region 1 with fail
  rw [HW1.out]
  clear HW1
  go_wp2_with fail
  refine D0.mono ?_
  rintro e w2 ⟨n, rfl, hn0, hn1, hsm, hb1⟩
  have HB2 : Hid (LayTwo w v u w2) := HB1.out.step hb1
  have hcc := HB2.out.1.cells
  have hdd := HB2.out.cells
  rw [HV.out.1, HV.out.2.1, HV.out.2.2.1, HV.out.2.2.2] at hcc
  rw [HU.out.1, HU.out.2.1, HU.out.2.2.1, HU.out.2.2.2] at hdd
  clear q0 q1 q2 q3 y0 y1 y2 y3 hb1 D0 HB1
  obtain ⟨q0, q1, q2, q3⟩ := hcc
  obtain ⟨y0, y1, y2, y3⟩ := hdd
  by_cases hbig : (3000 : Int) ≤ n
  · clear hsm
    go_wp2_with fail
    go_ret
    exact ⟨rfl, HB2.out.1.1⟩
  have HSM : Hid (LaySmall l) := hsm (by omega)
  clear hsm
  have D1 := SY.out _ HB2.out.1.1
  go_wp2_with fail
  refine D1.mono ?_
  rintro e w3 ⟨n', rfl, hn0', hn1', hsm, hb2⟩
  have HB3 : Hid (LayTwo w v u w3) := HB2.out.step hb2
  have hcc := HB3.out.1.cells
  have hdd := HB3.out.cells
  rw [HV.out.1, HV.out.2.1, HV.out.2.2.1, HV.out.2.2.2] at hcc
  rw [HU.out.1, HU.out.2.1, HU.out.2.2.1, HU.out.2.2.2] at hdd
  clear q0 q1 q2 q3 y0 y1 y2 y3 hb2 D1 HB2
  obtain ⟨q0, q1, q2, q3⟩ := hcc
  obtain ⟨y0, y1, y2, y3⟩ := hdd
  by_cases hbig' : (3000 : Int) ≤ n'
  · clear hsm
    go_wp2_with fail
    go_ret
    exact ⟨rfl, HB3.out.1.1⟩
  have HSN : Hid (LaySmall m) := hsm (by omega)
  clear hsm
  have SA : Hid (∀ z : Ext w3, Calls Tryd.prog 5 #[.agg #[.slice o0 n0 c0, .slice o1 n1 c1, .slice o2 n2 c2, .slice o3 n3 c3], .agg #[.slice p0 m0 d0, .slice p1 m1 d1, .slice p2 m2 d2, .slice p3 m3 d3]] z.z fun e w' => e = .returned (.bool (sameB l m)) ∧ Below z.z.heap.size z.z w') := fun z => LA.out HSM.out z.z (HB3.out.1.1.trans (z.h.mono HB3.out.1.1.size))
  have SB : Hid (∀ z : Ext w3, Calls Tryd.prog 6 #[.agg #[.slice o0 n0 c0, .slice o1 n1 c1, .slice o2 n2 c2, .slice o3 n3 c3], .agg #[.slice p0 m0 d0, .slice p1 m1 d1, .slice p2 m2 d2, .slice p3 m3 d3]] z.z fun e w' => e = .returned (.bool (sameB l m)) ∧ Below z.z.heap.size z.z w') := fun z => LB.out HSM.out HSN.out z.z (HB3.out.1.1.trans (z.h.mono HB3.out.1.1.size))
  have SC : Hid (∀ z : Ext w3, Calls Tryd.prog 5 #[.agg #[.slice o0 n0 c0, .slice o1 n1 c1, .slice o2 n2 c2, .slice o3 n3 c3], .agg #[.slice o0 n0 c0, .slice o1 n1 c1, .slice o2 n2 c2, .slice o3 n3 c3]] z.z fun e w' => e = .returned (.bool true) ∧ Below z.z.heap.size z.z w') := fun z => LC.out HSM.out z.z (HB3.out.1.1.trans (z.h.mono HB3.out.1.1.size))
  generalize sameB l m = b at *
  clear LA LB LC SZ SY HSN
  have zq0 := ext_cell q0
  have zq1 := ext_cell q1
  have zq2 := ext_cell q2
  have zq3 := ext_cell q3
  have zy0 := ext_cell y0
  have zy1 := ext_cell y1
  have zy2 := ext_cell y2
  have zy3 := ext_cell y3
  haveI := ext_some w3
  have hbb : (b == b) = true := by simp
  have hbn : (b != b) = false := by simp
  go_wp2_with fail
  refine wp_region_ext (by kernel_rfl) (by kernel_rfl) ?_
  repeat (first | go_big_quiet_skip | (go_big_quiet_want; go_big_quiet_op; first | go_big_quiet_on | (apply Exists.intro; refine ⟨fun _ => ?_, ?_⟩; (first | (go_at_call 6; exact ext_of (SB.out _)) | (go_at_call_of 5 (Value.agg #[.slice p0 m0 d0, .slice p1 m1 d1, .slice p2 m2 d2, .slice p3 m3 d3]); exact ext_of (SA.out _)) | (go_at_call 5; exact ext_of (SC.out _))); go_big_quiet_on)))
  refine wpQuiet_nil ?_
  intro _ hw'
  obtain ⟨z, hw''⟩ := hw'
  subst hw''
  have HB4 : Hid (LayTwo w v u z.z) := HB3.out.step z.h
  generalize z.z = w4 at *
  clear zq0 zq1 zq2 zq3 zy0 zy1 zy2 zy3 SA SB SC q0 q1 q2 q3 y0 y1 y2 y3 HB3
  have hcc := HB4.out.1.cells
  rw [HV.out.1, HV.out.2.1, HV.out.2.2.1, HV.out.2.2.2] at hcc
  obtain ⟨q0, q1, q2, q3⟩ := hcc
  have zq0 := ext_cell q0
  have zq1 := ext_cell q1
  have zq2 := ext_cell q2
  have zq3 := ext_cell q3
  haveI := ext_some w4
  have MYZ : Hid (∀ z : Ext w4, Calls Tryd.prog 7 #[.agg #[.slice o0 n0 c0, .slice o1 n1 c1, .slice o2 n2 c2, .slice o3 n3 c3]] z.z fun e w' => e = .returned (.bool (mayB l)) ∧ Below z.z.heap.size z.z w') := fun z => MY.out HSM.out z.z (HB4.out.1.1.trans (z.h.mono HB4.out.1.1.size))
  cases hmay : mayB l
  · rw [hmay] at MYZ
    go_wp2_with fail
    refine wp_region_ext (by kernel_rfl) (by kernel_rfl) ?_
    repeat (first | go_big_quiet_skip | (go_big_quiet_want; go_big_quiet_op; first | go_big_quiet_on | (apply Exists.intro; refine ⟨fun _ => ?_, ?_⟩; (go_at_call 7; exact ext_of (MYZ.out _)); go_big_quiet_on)))
    refine wpQuiet_nil ?_
    intro _ hw'
    obtain ⟨z, hw''⟩ := hw'
    subst hw''
    go_wp2
    go_ret
    exact ⟨rfl, HB4.out.1.1.trans (z.h.mono HB4.out.1.1.size)⟩
  rw [hmay] at MYZ
  have PRZ : Hid (∀ z : Ext w4, Calls Tryd.prog 8 #[.agg #[.slice o0 n0 c0, .slice o1 n1 c1, .slice o2 n2 c2, .slice o3 n3 c3]] z.z fun e w' => e = .returned (.string (printT l)) ∧ Below z.z.heap.size z.z w') := fun z => PR.out HSM.out hmay z.z (HB4.out.1.1.trans (z.h.mono HB4.out.1.1.size))
  have RPZ : Hid (∀ z : Ext w4, Calls Tryd.prog 9 #[.agg #[.slice o0 n0 c0, .slice o1 n1 c1, .slice o2 n2 c2, .slice o3 n3 c3]] z.z fun e w' => e = .returned (.string (printT l)) ∧ Below z.z.heap.size z.z w') := fun z => RP.out HSM.out hmay z.z (HB4.out.1.1.trans (z.h.mono HB4.out.1.1.size))
  generalize printT l = tx at *
  have hbt : (tx.toList == tx.toList) = true := by simp
  go_wp2_with fail
  refine wp_region_ext (by kernel_rfl) (by kernel_rfl) ?_
  repeat (first | go_big_quiet_skip | (go_big_quiet_want; go_big_quiet_op; first | go_big_quiet_on | (apply Exists.intro; refine ⟨fun _ => ?_, ?_⟩; (first | (go_at_call 7; exact ext_of (MYZ.out _)) | (go_at_call 8; exact ext_of (PRZ.out _)) | (go_at_call 9; exact ext_of (RPZ.out _)) | (go_at_call 10; exact ext_of (known_any HBY.out _))); go_big_quiet_on)))
  refine wpQuiet_nil ?_
  intro _ hw'
  obtain ⟨z, hw''⟩ := hw'
  subst hw''
  go_wp2
  go_ret
  exact ⟨rfl, HB4.out.1.1.trans (z.h.mono HB4.out.1.1.size)⟩
theorem walk (w : World) (v : Nat → Value) (l : Lay) (rs : List RtV) (h : LayRd w v l rs) (hB : LayBig l) (_ : ∀ x ∈ rs, capOk x.2.1) (_ : capOk (v 3)) (u : Nat → Value) (m : Lay) (qs : List RtV) (h' : LayRd w u m qs) (hB' : LayBig m) (_ : ∀ x ∈ qs, capOk x.2.1) (_ : capOk (u 3)) (hT : Lib.Utf8Tabs 0 1 w) :
    Calls Tryd.prog 3 #[.agg #[v 0, v 1, v 2, v 3], .agg #[u 0, u 1, u 2, u 3]] w fun e w' => e = .returned (.bool true) ∧ Below w.heap.size w w' := walk_in byPlaces_any w v l rs h hB u m qs h' hB' hT

theorem own : ownKnob Tryd.prog.godebug = none := by kernel_rfl
theorem u8x : U8Extra Tryd.prog Tryd.lays260_ren := ⟨by kernel_rfl, by kernel_rfl, by kernel_rfl, by kernel_rfl, by kernel_rfl, by kernel_rfl, by kernel_rfl⟩
theorem accept_eq : (Rows.laid_unicode_utf8_acceptRanges : DataW Unit) = Lib.acceptData := by kernel_rfl
theorem first_eq : Rows.laid_unicode_utf8_first = Lib.firstData := Pinned.utf8First_eq
theorem tabs_of {W : World} (hL : laidMet Tryd.prog Rows.planPrintsRow.laid W) : Lib.Utf8Tabs 0 1 W :=
  utf8Tabs_of_readsT (U8Types.of260 Tryd.lays260) u8x (first_eq ▸ Lib.laidMet.reads hL (.tail _ (.head _))) (accept_eq ▸ Lib.laidMet.reads hL (.head _))

set_option maxRecDepth 100000 in
theorem lifted (os : Os) (started : os.Started) (H : Type) (enc : TypeId × Value → H) :
    ReturnsInHanded {} Tryd.checked os 3 .any (fun w args => (Rows.planPrintsSpec.pre enc Tryd.prog Tryd.f3 [] false w args ∧ laidMetH Tryd.prog Rows.planPrintsRow.laid w) ∧ sizedMet enc Tryd.prog Tryd.f3 (OpenSpec.ofChange Rows.planPrintsSpec) false w args)
      (Rows.planPrintsSpec.post enc Tryd.prog Tryd.f3 false true false false) := by
  refine returnsInHanded_of_change_and (C := Tryd.checked) (X := fun w _ => laidMetH Tryd.prog Rows.planPrintsRow.laid w) (fun _ _ _ hh h => h.of_heap hh) own started (by kernel_rfl) Tryd.func3
    (ChangeSpec.witness_shaped (enc := enc) (C := Tryd.checked) (os := os) (X := fun w _ => laidMetH Tryd.prog Rows.planPrintsRow.laid w) false (World.laidAll Tryd.prog os Rows.planPrintsRow.laid) #[.agg #[.slice none 0 0, .slice none 0 0, .slice none 0 0, .slice none 0 0], .agg #[.slice none 0 0, .slice none 0 0, .slice none 0 0, .slice none 0 0]] 8 (World.laidAll_os _ _ _)
      (World.shaped_of_ZipB (by kernel_rfl) (by kernel_rfl)) (by kernel_rfl) (by kernel_rfl) (by kernel_rfl)
      (by rw [MakeChecks.laidMetH_plain _ _ _ (by kernel_rfl)]; exact laidMet_laidAll _ (by kernel_rfl) (by kernel_rfl))) ?_
  intro W base args ds gs before hval0 hW _ hsz0 hL _
  have hval : ∀ (j : Nat) t v, Tryd.f3.params[j]? = some t → args[j]? = some v → Value.okWide Tryd.prog W .any base t v := hval0
  have hsz : (DataW.weightsEach Tryd.prog (Tryd.f3.params.toList ++ Rows.planPrintsSpec.plain.varTypes Tryd.prog) (ds ++ gs)).all (· ≤ reachBytes) = true := hsz0
  have hW' := hW
  obtain ⟨p, q, hA0, hV, rfl, _, _⟩ := hW
  have hA : DataW.TrodAll enc Tryd.prog W 0 (fun _ => true) true Tryd.f3.params.toList args.toList ds p := hA0
  rw [Tryd.params3] at hA hval hsz
  obtain ⟨v0, vs0, d0, ds0, p0, q0, hargs, rfl, rfl, h0, r0⟩ := trodAll_cons hA
  obtain ⟨v1, vs1, d1, ds1, p1, q1, rfl, rfl, rfl, h1, r1⟩ := trodAll_cons r0
  obtain ⟨rfl, rfl, rfl⟩ := trodAll_nil r1
  obtain rfl : args = #[v0, v1] := by cases args; simp_all
  obtain ⟨rfl, rfl⟩ := trodVars_none hV
  have k0 := h0
  have lt0 : ∀ x ∈ p0, x.block < W.heap.size := by obtain ⟨m, hm⟩ := k0; exact DataW.trod_lt m _ _ _ hm
  have g0 := weights_at hsz (j := 0) (t := 26) rfl rfl
  obtain ⟨u0, l0, s0, rfl, y0, b0, c0, x0⟩ := open_layout (hval 0 26 v0 rfl rfl) h0 g0
  have k1 := h1
  have lt1 : ∀ x ∈ p1, x.block < W.heap.size := by obtain ⟨m, hm⟩ := k1; exact DataW.trod_lt m _ _ _ hm
  have g1 := weights_at hsz (j := 1) (t := 26) rfl rfl
  obtain ⟨u1, l1, s1, rfl, y1, b1, c1, x1⟩ := open_layout (hval 1 26 v1 rfl rfl) h1 g1
  clear hA0 hval0
  rw [MakeChecks.laidMetH_plain _ _ _ (by kernel_rfl)] at hL
  refine (walk W u0 l0 s0 y0 b0 c0 x0 u1 l1 s1 y1 b1 c1 x1 (tabs_of hL)).mono fun e W' ⟨he, bel⟩ => ?_
  subst he
  exact ⟨_, rfl, _, _, _, [], _, [], hW', trodAll_mk1 (shut_bool Tryd.underlying4 _), (trodAll_cons_mk (Below.trod laidOut (by kernel_rfl) (of_decide_eq_true (by kernel_rfl)) k0 bel lt0) (trodAll_cons_mk (Below.trod laidOut (by kernel_rfl) (of_decide_eq_true (by kernel_rfl)) k1 bel lt1) trodAll_mk0)), rfl, bel.frame _, fun h => by cases h⟩

theorem over : Rows.planPrintsRow.holds Tryd.pinned (OpenSpec.ofChange Rows.planPrintsSpec) :=
  OpenClaim.holds_of_wide 3 Tryd.f3 rfl rfl rfl rfl rfl rfl rfl ⟨rfl, rfl, rfl, rfl, rfl⟩ rfl rfl rfl rfl rfl (by kernel_rfl) Tryd.func3 (by kernel_rfl)
    (of_decide_eq_true (by kernel_rfl)) (by unfold Func.isWrapper; first | (rw [if_pos (by decide +kernel)]; kernel_rfl) | (rw [if_neg (by decide +kernel)]; exact ⟨rfl, rfl⟩))
    (fun os started H enc _ => lifted os started H enc)

theorem card : Rows.PlanPrintsCardSaid :=
  Claim7.holds_tied_plain_at .later [] _ _ _ _ over (fun _ h => by cases h) (by kernel_rfl) (fun _ h => by cases h) planPrints_row_tie rfl ⟨rfl, rfl⟩ (by kernel_rfl) rfl
    (fun f fn hf hfn => by
      obtain rfl : f = 3 := Option.some.inj ((show Tryd.prog.funcNamed Rows.planPrintsRow.func = some 3 by kernel_rfl).symm.trans hf) |>.symm
      obtain rfl : fn = Tryd.f3 := (Option.some.inj (Tryd.func3.symm.trans hfn)).symm
      exact ⟨by kernel_rfl, fun j t ht => by
        rw [Tryd.params3] at ht
        have hm : t ∈ [26, 26] := by simpa using Array.mem_of_getElem? ht
        have hall : ([26, 26].all fun u => !Tryd.prog.wantsStandIn u) = true := by kernel_rfl
        exact (show Tryd.prog.wantsStandIn t = false by simpa using List.all_eq_true.1 hall t hm)⟩)
    (by kernel_rfl)

end Go.Proofs.YtgiaicmhnkhbnaaDoor.planPrints
namespace Go.Proofs.YtgiaicmhnkhbnaaDoor
theorem planPrints_holds : Rows.PlanPrintsCardSaid := planPrints.card
#print axioms planPrints_holds
end Go.Proofs.YtgiaicmhnkhbnaaDoor
