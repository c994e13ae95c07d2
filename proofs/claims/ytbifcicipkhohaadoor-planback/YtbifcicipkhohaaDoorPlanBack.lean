/-
  Of any layout: PlanBack returns true. The tables of unicode/utf8 are as the program's text lays them (the tied card).
-/
import Derived.Test.YtbifcicipkhohaaDoorRows
import Derived.Test.YtbifcicipkhohaaDoorCards
import Derived.Test.YtbifcicipkhohaaDoorTie
import Derived.Test.YtbifcicipkhohaaDoorLySame
import Derived.Test.YtbifcicipkhohaaDoorPlPrint3
import Derived.Test.YtbifcicipkhohaaDoorPlKnown
import Derived.Test.YtbifcicipkhohaaDoorPlBy
import Derived.WalkKit
import Derived.ProofKit
import Derived.OpenShut
import Derived.ShutString
import Derived.ChangeOld
import Derived.Below
import Derived.SizedLaws
import Derived.PinnedBridge
import Derived.Lib.LaidU8T
import Derived.Lay
import Derived.LaidOnce
import Derived.SevenTiedAt
import Derived.Deep.DeepHandedRow
namespace Go.Proofs.YtbifcicipkhohaaDoor.planBack
open Go.ChangeShapes Go.WideShapes Go.ChangeAt Go.RowKit

set_option maxRecDepth 1000000 in
set_option maxHeartbeats 16000000 in
theorem walk_in (hby : BySaid) (w : World) (v : Nat → Value) (l : Lay) (rs : List RtV) (h : LayRd w v l rs) (hB : LayBig l) (hcap : ∀ x ∈ rs, capOk x.2.1) (hT : Lib.Utf8Tabs 0 1 w) :
    Calls Tryd.prog 4 #[.agg #[v 0, v 1, v 2, v 3]] w fun e w' => e = .returned (.bool true) ∧ Below w.heap.size w w' := by
  have HBY : Hid BySaid := hby
  have HLR : Hid (LayRd w v l rs) := h
  have HBG : Hid (LayBig l) := hB
  have HCAP : Hid (∀ x ∈ rs, capOk x.2.1) := hcap
  have HT : Hid (Lib.Utf8Tabs 0 1 w) := hT
  obtain ⟨o0, c0, e0, _⟩ := h.s
  obtain ⟨o1, c1, e1, _⟩ := h.p
  obtain ⟨o2, c2, e2, _⟩ := h.g
  obtain ⟨o3, c3, e3, _⟩ := h.r
  have S := BoxAt.start w v
  have SZ : Hid (∀ W, Below w.heap.size w W → Calls Tryd.prog 7 #[.agg #[v 0, v 1, v 2, v 3]] W fun e w' => ∃ n : Int, e = .returned (.int .i64 n) ∧ 0 ≤ n ∧ n ≤ 1125899906842624 ∧ (n < 3000 → LaySmall l) ∧ Below W.heap.size W w') := fun W hW => size_any v l rs W (h.below hW) hB
  have IS : Hid (LaySmall l → ∀ W, Below w.heap.size w W → Calls Tryd.prog 14 #[.agg #[v 0, v 1, v 2, v 3]] W fun e w' => e = .returned (.bool (isB l)) ∧ Below W.heap.size W w') := fun hs W hW => is_any v l rs W (h.below hW) hcap (LayMid.of hs hB) (tabs_below hT hW)
  have PR : Hid (LaySmall l → IsL l → ∀ W, Below w.heap.size w W → Calls Tryd.prog 11 #[.agg #[v 0, v 1, v 2, v 3]] W fun e w' => e = .returned (.string (printT l)) ∧ (printT l).size ≤ 1000000 ∧ Below W.heap.size W w') := fun hs hL W hW => planPrint_any v l rs W (h.below hW) hL hs
  have HV : Hid (v 0 = .slice o0 l.sections.length c0 ∧ v 1 = .slice o1 l.points.length c1 ∧ v 2 = .slice o2 l.signals.length c2 ∧ v 3 = .slice o3 rs.length c3) := ⟨e0, e1, e2, e3⟩
  rw [e0, e1, e2, e3] at S SZ IS PR ⊢
  clear h hB hcap hT e0 e1 e2 e3
  generalize hs0 : l.sections.length = n0 at *
  generalize hs1 : l.points.length = n1 at *
  generalize hs2 : l.signals.length = n2 at *
  generalize hs3 : rs.length = n3 at *
  have HNS : Hid (l.sections.length = n0 ∧ l.points.length = n1 ∧ l.signals.length = n2 ∧ rs.length = n3) := ⟨hs0, hs1, hs2, hs3⟩
  clear hs0 hs1 hs2 hs3
  have hcc := S.cells
  rw [HV.out.1, HV.out.2.1, HV.out.2.2.1, HV.out.2.2.2] at hcc
  obtain ⟨q0, q1, q2, q3⟩ := hcc
  have HB0 : Hid (BoxAt w v (w.alloc (.cells #[.slice o0 n0 c0, .slice o1 n1 c1, .slice o2 n2 c2, .slice o3 n3 c3] 26))) := S
  have D0 := SZ.out _ S.1
  clear S
  go_enter Tryd.func4, Tryd.ntmps4
  go_wp2_with fail
  refine D0.mono ?_
  rintro e w1 ⟨n, rfl, hn0, hn1, hsm, hb1⟩
  have HB1 : Hid (BoxAt w v w1) := HB0.out.step hb1
  have hcc := HB1.out.cells
  rw [HV.out.1, HV.out.2.1, HV.out.2.2.1, HV.out.2.2.2] at hcc
  clear q0 q1 q2 q3 hb1 D0 HB0
  obtain ⟨q0, q1, q2, q3⟩ := hcc
  by_cases hbig : (3000 : Int) ≤ n
  · clear hsm
    go_wp2_with fail
    go_ret
    exact ⟨rfl, HB1.out.1⟩
  have HSM : Hid (LaySmall l) := hsm (by omega)
  clear hsm
  have D1 := IS.out HSM.out _ HB1.out.1
  cases hisb : isB l
  · rw [hisb] at D1
    go_wp2_with fail
    refine D1.mono ?_
    rintro e w2 ⟨rfl, hb2⟩
    go_wp2_with fail
    go_ret
    exact ⟨rfl, (HB1.out.step hb2).1⟩
  rw [hisb] at D1
  have HIS : Hid (IsL l) := isL_of hisb
  go_wp2_with fail
  refine D1.mono ?_
  rintro e w2 ⟨rfl, hb2⟩
  have HB2 : Hid (BoxAt w v w2) := HB1.out.step hb2
  have hcc := HB2.out.cells
  rw [HV.out.1, HV.out.2.1, HV.out.2.2.1, HV.out.2.2.2] at hcc
  clear q0 q1 q2 q3 hb2 D1 HB1
  obtain ⟨q0, q1, q2, q3⟩ := hcc
  have D2 := PR.out HSM.out HIS.out _ HB2.out.1
  go_wp2_with fail
  refine D2.mono ?_
  rintro e w3 ⟨rfl, hsz, hb3⟩
  have HB3 : Hid (BoxAt w v w3) := HB2.out.step hb3
  clear q0 q1 q2 q3 hb3 D2 HB2 SZ IS PR
  have HBQ : Hid (LaySmall l ∧ LayBig l ∧ LayRd w v l rs) := ⟨HSM.out, HBG.out, HLR.out⟩
  have hb60 : (printT l).size ≤ 4294967295 := by omega
  have hsum : (((n0 : Int) + n1 + n2 + n3) == ((lineWords l).length : Int)) = true ∧ (((lineWords l).length : Int) == ((n0 : Int) + n1 + n2 + n3)) = true := by
    have h0 := lines_len l
    obtain ⟨e0, e1, e2, e3⟩ := HNS.out
    have e4 : l.routes.length = rs.length := by rw [← HLR.out.m, List.length_map]
    constructor <;> simp <;> omega
  have hbn : n0 ≤ 10 ∧ n1 ≤ 5 ∧ n2 ≤ 6 ∧ n3 ≤ 6 := by
    obtain ⟨e0, e1, e2, e3⟩ := HNS.out
    have e4 : l.routes.length = rs.length := by rw [← HLR.out.m, List.length_map]
    have h1 := HIS.out.s.1
    have h2 := HIS.out.g.1
    have h3 := HIS.out.p.1
    have h4 := HIS.out.r.1
    omega
  obtain ⟨hs1, hs2⟩ := hsum
  have PA : Hid (∀ W, Calls Tryd.prog 15 #[.string (printT l)] W fun en w' => ∃ u qs p0 m0 d0 p1 m1 d1 p2 m2 d2 p3 m3 d3, en = .returned (.tuple #[.agg #[.slice p0 m0 d0, .slice p1 m1 d1, .slice p2 m2 d2, .slice p3 m3 d3], .int .i64 ((lineWords l).length : Nat), .int .i64 0]) ∧ (u 0 = .slice p0 m0 d0 ∧ u 1 = .slice p1 m1 d1 ∧ u 2 = .slice p2 m2 d2 ∧ u 3 = .slice p3 m3 d3) ∧ LayRd w' u l qs ∧ Below W.heap.size W w') := fun W => by
    refine (parse_any HBY.out _ W hb60).mono ?_
    rintro en w' ⟨u, qs, rfl, hrd, _, hb⟩
    have hpb : parseP (printT l) = (l, (lineWords l).length, 0) := by
      rw [printT, cur_text]
      exact parse_back l HIS.out laid_plain
    rw [hpb] at hrd ⊢
    obtain ⟨p0, d0, h0, _⟩ := hrd.s
    obtain ⟨p1, d1, h1, _⟩ := hrd.p
    obtain ⟨p2, d2, h2, _⟩ := hrd.g
    obtain ⟨p3, d3, h3, _⟩ := hrd.r
    refine ⟨u, qs, p0, l.sections.length, d0, p1, l.points.length, d1, p2, l.signals.length, d2, p3, qs.length, d3, ?_, ⟨h0, h1, h2, h3⟩, hrd, hb⟩
    rw [h0, h1, h2, h3]
    rfl
  generalize printT l = tx at *
  generalize (lineWords l).length = pl at *
  go_wp2_with fail
  refine (PA.out _).mono ?_
  rintro en w5 ⟨u, qs, p0, m0, d0, p1, m1, d1, p2, m2, d2, p3, m3, d3, rfl, hu, hrd, hb5⟩
  have hbl5 := HB3.out.1.trans (hb5.mono HB3.out.1.size)
  have HB5 : Hid (BoxAt w v (w5.alloc (.cells #[.slice p0 m0 d0, .slice p1 m1 d1, .slice p2 m2 d2, .slice p3 m3 d3] 26))) := (HB3.out.step hb5).step ((Below.refl _ _).alloc (Nat.le_refl _) _)
  have SM : Hid (∀ W, Below (w5.alloc (.cells #[.slice p0 m0 d0, .slice p1 m1 d1, .slice p2 m2 d2, .slice p3 m3 d3] 26)).heap.size (w5.alloc (.cells #[.slice p0 m0 d0, .slice p1 m1 d1, .slice p2 m2 d2, .slice p3 m3 d3] 26)) W → Calls Tryd.prog 9 #[.agg #[.slice p0 m0 d0, .slice p1 m1 d1, .slice p2 m2 d2, .slice p3 m3 d3], .agg #[.slice o0 n0 c0, .slice o1 n1 c1, .slice o2 n2 c2, .slice o3 n3 c3]] W fun e w' => e = .returned (.bool true) ∧ Below W.heap.size W w') := fun W hW => by
    have hal : Below w5.heap.size w5 (w5.alloc (.cells #[.slice p0 m0 d0, .slice p1 m1 d1, .slice p2 m2 d2, .slice p3 m3 d3] 26)) := (Below.refl _ _).alloc (Nat.le_refl _) _
    have h1 : Below w5.heap.size w5 W := hal.trans (hW.mono hal.size)
    have h2 : Below w.heap.size w W := hbl5.trans (h1.mono hbl5.size)
    have hmid := LayMid.of HBQ.out.1 HBQ.out.2.1
    have := refSame_any u v l l qs rs W (hrd.below h1) (HBQ.out.2.2.below h2) hmid hmid
    rw [sameB_self, HV.out.1, HV.out.2.1, HV.out.2.2.1, HV.out.2.2.2, hu.1, hu.2.1, hu.2.2.1, hu.2.2.2] at this
    exact this
  have hcc := HB5.out.cells
  rw [HV.out.1, HV.out.2.1, HV.out.2.2.1, HV.out.2.2.2] at hcc
  obtain ⟨q0, q1, q2, q3⟩ := hcc
  clear hb5 PA hu hrd
  go_wp2_with fail
  refine (SM.out _ (Below.refl _ _)).mono ?_
  rintro e w6 ⟨rfl, hb6⟩
  have HB6 : Hid (Below w.heap.size w w6) := HB5.out.1.trans (hb6.mono HB5.out.1.size)
  clear hb6 SM q0 q1 q2 q3
  go_wp2_with (go_at_call 13; refine (known_any HBY.out _).mono ?_; rintro e w7 ⟨rfl, hb7⟩)
  go_ret
  exact ⟨rfl, HB6.out.trans (hb7.mono HB6.out.size)⟩
theorem walk (w : World) (v : Nat → Value) (l : Lay) (rs : List RtV) (h : LayRd w v l rs) (hB : LayBig l) (hcap : ∀ x ∈ rs, capOk x.2.1) (_ : capOk (v 3)) (hT : Lib.Utf8Tabs 0 1 w) :
    Calls Tryd.prog 4 #[.agg #[v 0, v 1, v 2, v 3]] w fun e w' => e = .returned (.bool true) ∧ Below w.heap.size w w' := walk_in byPlaces_any w v l rs h hB hcap hT

theorem own : ownKnob Tryd.prog.godebug = none := by kernel_rfl
theorem u8x : U8Extra Tryd.prog Tryd.lays260_ren := ⟨by kernel_rfl, by kernel_rfl, by kernel_rfl, by kernel_rfl, by kernel_rfl, by kernel_rfl, by kernel_rfl⟩
theorem accept_eq : (Rows.laid_unicode_utf8_acceptRanges : DataW Unit) = Lib.acceptData := by kernel_rfl
theorem first_eq : Rows.laid_unicode_utf8_first = Lib.firstData := Pinned.utf8First_eq
theorem tabs_of {W : World} (hL : laidMet Tryd.prog Rows.planBackRow.laid W) : Lib.Utf8Tabs 0 1 W :=
  utf8Tabs_of_readsT (U8Types.of260 Tryd.lays260) u8x (first_eq ▸ Lib.laidMet.reads hL (.tail _ (.head _))) (accept_eq ▸ Lib.laidMet.reads hL (.head _))

set_option maxRecDepth 100000 in
theorem lifted (os : Os) (started : os.Started) (H : Type) (enc : TypeId × Value → H) :
    ReturnsInHanded {} Tryd.checked os 4 .any (fun w args => (Rows.planBackSpec.pre enc Tryd.prog Tryd.f4 [] false w args ∧ laidMetH Tryd.prog Rows.planBackRow.laid w) ∧ sizedMet enc Tryd.prog Tryd.f4 (OpenSpec.ofChange Rows.planBackSpec) false w args)
      (Rows.planBackSpec.post enc Tryd.prog Tryd.f4 false true false false) := by
  refine returnsInHanded_of_change_and (C := Tryd.checked) (X := fun w _ => laidMetH Tryd.prog Rows.planBackRow.laid w) (fun _ _ _ hh h => h.of_heap hh) own started (by kernel_rfl) Tryd.func4
    (ChangeSpec.witness_shaped (enc := enc) (C := Tryd.checked) (os := os) (X := fun w _ => laidMetH Tryd.prog Rows.planBackRow.laid w) false (World.laidAll Tryd.prog os Rows.planBackRow.laid) #[.agg #[.slice none 0 0, .slice none 0 0, .slice none 0 0, .slice none 0 0]] 8 (World.laidAll_os _ _ _)
      (World.shaped_of_ZipB (by kernel_rfl) (by kernel_rfl)) (by kernel_rfl) (by kernel_rfl) (by kernel_rfl)
      (by rw [MakeChecks.laidMetH_plain _ _ _ (by kernel_rfl)]; exact laidMet_laidAll _ (by kernel_rfl) (by kernel_rfl))) ?_
  intro W base args ds gs before hval0 hW _ hsz0 hL _
  have hval : ∀ (j : Nat) t v, Tryd.f4.params[j]? = some t → args[j]? = some v → Value.okWide Tryd.prog W .any base t v := hval0
  have hsz : (DataW.weightsEach Tryd.prog (Tryd.f4.params.toList ++ Rows.planBackSpec.plain.varTypes Tryd.prog) (ds ++ gs)).all (· ≤ reachBytes) = true := hsz0
  have hW' := hW
  obtain ⟨p, q, hA0, hV, rfl, _, _⟩ := hW
  have hA : DataW.TrodAll enc Tryd.prog W 0 (fun _ => true) true Tryd.f4.params.toList args.toList ds p := hA0
  rw [Tryd.params4] at hA hval hsz
  obtain ⟨v0, vs0, d0, ds0, p0, q0, hargs, rfl, rfl, h0, r0⟩ := trodAll_cons hA
  obtain ⟨rfl, rfl, rfl⟩ := trodAll_nil r0
  obtain rfl : args = #[v0] := by cases args; simp_all
  obtain ⟨rfl, rfl⟩ := trodVars_none hV
  have k0 := h0
  have lt0 : ∀ x ∈ p0, x.block < W.heap.size := by obtain ⟨m, hm⟩ := k0; exact DataW.trod_lt m _ _ _ hm
  have g0 := weights_at hsz (j := 0) (t := 26) rfl rfl
  obtain ⟨u0, l0, s0, rfl, y0, b0, c0, x0⟩ := open_layout (hval 0 26 v0 rfl rfl) h0 g0
  clear hA0 hval0
  rw [MakeChecks.laidMetH_plain _ _ _ (by kernel_rfl)] at hL
  refine (walk W u0 l0 s0 y0 b0 c0 x0 (tabs_of hL)).mono fun e W' ⟨he, bel⟩ => ?_
  subst he
  exact ⟨_, rfl, _, _, _, [], _, [], hW', trodAll_mk1 (shut_bool Tryd.underlying4 _), (trodAll_cons_mk (Below.trod laidOut (by kernel_rfl) (of_decide_eq_true (by kernel_rfl)) k0 bel lt0) trodAll_mk0), rfl, bel.frame _, fun h => by cases h⟩

theorem over : Rows.planBackRow.holds Tryd.pinned (OpenSpec.ofChange Rows.planBackSpec) :=
  OpenClaim.holds_of_wide 4 Tryd.f4 rfl rfl rfl rfl rfl rfl rfl ⟨rfl, rfl, rfl, rfl, rfl⟩ rfl rfl rfl rfl rfl (by kernel_rfl) Tryd.func4 (by kernel_rfl)
    (of_decide_eq_true (by kernel_rfl)) (by unfold Func.isWrapper; first | (rw [if_pos (by decide +kernel)]; kernel_rfl) | (rw [if_neg (by decide +kernel)]; exact ⟨rfl, rfl⟩))
    (fun os started H enc _ => lifted os started H enc)

theorem card : Rows.PlanBackCardSaid :=
  Claim7.holds_tied_plain_at .later [] _ _ _ _ over (fun _ h => by cases h) (by kernel_rfl) (fun _ h => by cases h) planBack_row_tie rfl ⟨rfl, rfl⟩ (by kernel_rfl) rfl
    (fun f fn hf hfn => by
      obtain rfl : f = 4 := Option.some.inj ((show Tryd.prog.funcNamed Rows.planBackRow.func = some 4 by kernel_rfl).symm.trans hf) |>.symm
      obtain rfl : fn = Tryd.f4 := (Option.some.inj (Tryd.func4.symm.trans hfn)).symm
      exact ⟨by kernel_rfl, fun j t ht => by
        rw [Tryd.params4] at ht
        have hm : t ∈ [26] := by simpa using Array.mem_of_getElem? ht
        have hall : ([26].all fun u => !Tryd.prog.wantsStandIn u) = true := by kernel_rfl
        exact (show Tryd.prog.wantsStandIn t = false by simpa using List.all_eq_true.1 hall t hm)⟩)
    (by kernel_rfl)

end Go.Proofs.YtbifcicipkhohaaDoor.planBack
namespace Go.Proofs.YtbifcicipkhohaaDoor
theorem planBack_holds : Rows.PlanBackCardSaid := planBack.card
#print axioms planBack_holds
end Go.Proofs.YtbifcicipkhohaaDoor
