/-
  Of every layout: TableSelf returns true. A tied card: what unicode/utf8's two tables hold is listed, tied by the given tie.
-/
import Derived.Test.YtkeefaacaimicabDoorRows
import Derived.Test.YtkeefaacaimicabDoorTie
import Derived.Test.YtkeefaacaimicabDoorCards
import Derived.Test.YtkeefaacaimicabDoorTbTwo
import Derived.Test.YtkeefaacaimicabDoorTbOpen
import Derived.WalkKit
import Derived.ProofKit
import Derived.OpenShut
import Derived.ShutString
import Derived.ChangeOld
import Derived.Below
import Derived.SizedLaws
import Derived.PinnedBridge
import Derived.Lib.LaidU8T
import Derived.Lay
import Derived.LaidOnce
import Derived.SevenTiedAt
import Derived.Deep.DeepHandedRow
namespace Go.Proofs.YtkeefaacaimicabDoor.tableSelf
open Go.ChangeShapes Go.WideShapes Go.ChangeAt Go.RowKit

theorem conf_self (r : Nat) (a : Rt) : confB r r a a = true := by simp [confB]

set_option maxRecDepth 1000000 in
set_option maxHeartbeats 8000000 in
theorem walk (w : World) (v : Nat → Value) (l : Lay) (rs : List RtV) (h : LayRd w v l rs) (hB : LayBig l) (hcap : ∀ x ∈ rs, capOk x.2.1) (_ : capOk (v 3) ∧ capOk (v 0) ∧ capOk (v 2)) (hT : Lib.Utf8Tabs 0 1 w) :
    Calls Tryd.prog 3 #[.agg #[v 0, v 1, v 2, v 3]] w fun e w' => e = .returned (.bool true) ∧ Below w.heap.size w w' := by
  have HLR : Hid (LayRd w v l rs) := h
  have hlr : rs.length = l.routes.length := by rw [← h.m, List.length_map]
  have SM : Hid (LaySmall l → ∀ x ∈ rs, x.1.path.length < 3000 ∧ x.1.points.length < 3000 ∧ x.1.flank.length < 3000) := fun hs x hx => (hs.r.2 x.1 (by rw [← h.m]; exact List.mem_map.2 ⟨x, hx, rfl⟩)).2
  obtain ⟨o0, c0, e0, _⟩ := h.s
  obtain ⟨o1, c1, e1, _⟩ := h.p
  obtain ⟨o2, c2, e2, _⟩ := h.g
  obtain ⟨o3, c3, e3, r3⟩ := h.r
  have R3 : Hid (∀ j x, rs[j]? = some x → ∃ g off, o3 = some ⟨g, off, none⟩ ∧ ∀ i u, (rC x)[i]? = some u → w.cell? ⟨g, off + j * 6 + i, none⟩ = some u) := r3
  have S := BoxAt.start w v
  have SZ : Hid (∀ W, Below w.heap.size w W → Calls Tryd.prog 5 #[.agg #[v 0, v 1, v 2, v 3]] W fun e w' => ∃ n : Int, e = .returned (.int .i64 n) ∧ 0 ≤ n ∧ n ≤ 1125899906842624 ∧ (n < 3000 → LaySmall l) ∧ Below W.heap.size W w') := fun W hW => size_any v l rs W (h.below hW) hB
  have IS : Hid (LaySmall l → ∀ W, Below w.heap.size w W → Calls Tryd.prog 6 #[.agg #[v 0, v 1, v 2, v 3]] W fun e w' => e = .returned (.bool (isB l)) ∧ Below W.heap.size W w') := fun hs W hW => is_any v l rs W (h.below hW) hcap (LayMid.of hs hB) (tabs_below hT hW)
  have CF : Hid (LaySmall l → ∀ r x, rs[r]? = some x → ∀ W, Below w.heap.size w W → Calls Tryd.prog 7 #[.agg #[v 0, v 1, v 2, v 3], .int .i64 (r : Nat), .int .i64 (r : Nat)] W fun e w' => e = .returned (.bool true) ∧ Below W.heap.size W w') := fun hs r x hx W hW => by
    have b := SM.out hs x (List.mem_of_getElem? hx)
    have := conflict_any v l rs r r x x W (h.below hW) hx hx ⟨by omega, by omega⟩ ⟨by omega, by omega⟩
    rw [conf_self] at this
    exact this
  have ND : Hid (LaySmall l → ∀ r x, rs[r]? = some x → ∀ W, Below w.heap.size w W → Calls Tryd.prog 8 #[.agg #[v 0, v 1, v 2, v 3], .int .i64 (r : Nat)] W fun e w' => ∃ o c, e = .returned (.slice o (x.1.points.length + x.1.flank.length) c) ∧ Below W.heap.size W w') := fun hs r x hx W hW => by
    have b := SM.out hs x (List.mem_of_getElem? hx)
    refine (tableNeeds_any v l rs r x W (h.below hW) hx (by omega)).mono ?_
    rintro e w' ⟨u, rfl, ⟨o, c, rfl, _⟩, hb⟩
    exact ⟨o, c, by rw [List.length_append], hb⟩
  have SL : Hid (∀ (r : Nat) (x : RtV), rs[r]? = some x → (∃ o c, x.2.2.1 = .slice o x.1.points.length c) ∧ ∃ o c, x.2.2.2 = .slice o x.1.flank.length c) := fun r x hx => by
    obtain ⟨_, ⟨o4, c4, e4, _⟩, o5, c5, e5, _⟩ := h.x x (List.mem_of_getElem? hx)
    exact ⟨⟨o4, c4, e4⟩, o5, c5, e5⟩
  have HV : Hid (v 0 = .slice o0 l.sections.length c0 ∧ v 1 = .slice o1 l.points.length c1 ∧ v 2 = .slice o2 l.signals.length c2 ∧ v 3 = .slice o3 rs.length c3) := ⟨e0, e1, e2, e3⟩
  have HN3 : Hid (LaySmall l → rs.length < 3000) := fun hs => by rw [hlr]; exact hs.r.1
  rw [e0, e1, e2, e3] at S SZ IS CF ND ⊢
  clear h hB hcap hT e0 e1 e2 e3 r3 hlr
  generalize hs0 : l.sections.length = n0 at *
  generalize hs1 : l.points.length = n1 at *
  generalize hs2 : l.signals.length = n2 at *
  generalize hs3 : rs.length = n3 at *
  have HS3 : Hid (rs.length = n3) := hs3
  clear hs0 hs1 hs2 hs3
  have hcc := S.cells
  rw [HV.out.1, HV.out.2.1, HV.out.2.2.1, HV.out.2.2.2] at hcc
  obtain ⟨q0, q1, q2, q3⟩ := hcc
  have HB0 : Hid (BoxAt w v (w.alloc (.cells #[.slice o0 n0 c0, .slice o1 n1 c1, .slice o2 n2 c2, .slice o3 n3 c3] 26))) := S
  have D0 := SZ.out _ S.1
  clear S
  go_enter Tryd.func3, Tryd.ntmps3
  go_wp2_with fail
  refine D0.mono ?_
  rintro e w1 ⟨n, rfl, hn0, hn1, hsm, hb1⟩
  have HB1 : Hid (BoxAt w v w1) := HB0.out.step hb1
  have hcc := HB1.out.cells
  rw [HV.out.1, HV.out.2.1, HV.out.2.2.1, HV.out.2.2.2] at hcc
  clear q0 q1 q2 q3 hb1 D0 HB0
  obtain ⟨q0, q1, q2, q3⟩ := hcc
  by_cases hbig : (3000 : Int) ≤ n
  · clear hsm
    go_wp2_with fail
    go_ret
    exact ⟨rfl, HB1.out.1⟩
  have HSM : Hid (LaySmall l) := hsm (by omega)
  clear hsm
  have D1 := IS.out HSM.out _ HB1.out.1
  cases hisb : isB l
  · rw [hisb] at D1
    go_wp2_with fail
    refine D1.mono ?_
    rintro e w2 ⟨rfl, hb2⟩
    go_wp2_with fail
    go_ret
    exact ⟨rfl, (HB1.out.step hb2).1⟩
  rw [hisb] at D1
  clear hisb
  go_wp2_with fail
  refine D1.mono ?_
  rintro e w2 ⟨rfl, hb2⟩
  have HB2 : Hid (BoxAt w v w2) := HB1.out.step hb2
  clear q0 q1 q2 q3 hb2 D1 HB1
  have hn3 := HN3.out HSM.out
  have SM2 := SM.out HSM.out
  have HSM2 : Hid (∀ x ∈ rs, x.1.path.length < 3000 ∧ x.1.points.length < 3000 ∧ x.1.flank.length < 3000) := SM2
  clear SM2 SM
  go_wp2
  go_loopg [3] n3 (fun gk i wr => ∃ k : Nat, gk = n3 - k ∧ k ≤ n3 ∧ i = .int .i64 k ∧ BoxAt w v wr)
  case atStart => exact ⟨0, rfl, by omega, rfl, HB2.out⟩
  case round =>
    clear HB2
    obtain ⟨k, rfl, hk, rfl, hbx⟩ := hrel
    have HBX : Hid (BoxAt w v wr) := hbx
    have hcc := hbx.cells
    rw [HV.out.1, HV.out.2.1, HV.out.2.2.1, HV.out.2.2.2] at hcc
    obtain ⟨q0, q1, q2, q3⟩ := hcc
    have hbl := hbx.1
    clear hbx
    by_cases hlt : k < n3
    · obtain ⟨x, hx⟩ : ∃ x, rs[k]? = some x := ⟨rs[k]'(by rw [HS3.out]; exact hlt), List.getElem?_eq_getElem _⟩
      obtain ⟨g, off, rfl, hcell⟩ := R3.out k _ hx
      have CX := CF.out HSM.out k x hx
      have NX := ND.out HSM.out k x hx
      obtain ⟨⟨o4, c4, f4⟩, o5, c5, f5⟩ := SL.out k x hx
      have hsx := HSM2.out x (List.mem_of_getElem? hx)
      have a4 := hcell 4 _ rfl
      have a5 := hcell 5 _ rfl
      rw [f4] at a4
      rw [f5] at a5
      have HCX : Hid (∀ W, Below w.heap.size w W → Calls Tryd.prog 7 #[.agg #[.slice o0 n0 c0, .slice o1 n1 c1, .slice o2 n2 c2, .slice (some ⟨g, off, none⟩) n3 c3], .int .i64 (k : Nat), .int .i64 (k : Nat)] W fun e w' => e = .returned (.bool true) ∧ Below W.heap.size W w') := CX
      have HNX : Hid (∀ W, Below w.heap.size w W → Calls Tryd.prog 8 #[.agg #[.slice o0 n0 c0, .slice o1 n1 c1, .slice o2 n2 c2, .slice (some ⟨g, off, none⟩) n3 c3], .int .i64 (k : Nat)] W fun e w' => ∃ o c, e = .returned (.slice o (x.1.points.length + x.1.flank.length) c) ∧ Below W.heap.size W w') := NX
      clear CX NX hcell hx f4 f5
      generalize x.1.points.length = m4 at *
      generalize x.1.flank.length = m5 at *
      have b4 := (hbl.cell (World.block_lt_of_cell? _ _ a4)).trans a4
      have b5 := (hbl.cell (World.block_lt_of_cell? _ _ a5)).trans a5
      have z0 := ext_cell q0
      have z1 := ext_cell q1
      have z2 := ext_cell q2
      have z3 := ext_cell q3
      have z4 := ext_cell b4
      have z5 := ext_cell b5
      haveI := ext_some wr
      have hki : (k : Int) < (n3 : Int) := by omega
      have HW : Hid (∀ W, Below wr.heap.size wr W → Below w.heap.size w W) := fun W hW => hbl.trans (hW.mono hbl.size)
      have HB1 : Hid (Below wr.heap.size wr wr.drew) := (Below.refl _ _).drew
      clear a4 a5 b4 b5
      go_wp2_with fail
      refine wp_region_mix_seq (C := fun W => ∃ y : Ext wr, W = y.z) [0, 1, 2, 3, 4, 5, 6, 7, 10, 11, 12, 13, 14, 15, 16, 17, 18, 19, 20, 21, 22, 23, 24, 8, 9, 25, 26] (by kernel_rfl) (by kernel_rfl) (by kernel_rfl) (by kernel_rfl) (by simp only [List.filterMap_cons, List.getElem?_toArray, List.getElem?_cons_zero, List.getElem?_cons_succ, List.filterMap_nil]; rfl) ⟨⟨_, (Below.refl _ _).drew⟩, rfl⟩ ?_
      clear q0 q1 q2 q3
      (repeat (first | (with_reducible refine mix_read (by kernel_rfl) ?_; go_big_quiet_want; go_big_quiet_op; go_big_quiet_on; with_reducible refine wpQuiet_nil ?_) | (with_reducible refine mix_pass (by kernel_rfl) ?_; go_big_quiet_skip; with_reducible refine wpQuiet_nil ?_)))
      with_reducible refine mix_call (by kernel_rfl) (by kernel_rfl) ((HCX.out _ (HW.out _ HB1.out)).mono ?_) (by kernel_rfl)
      rintro e w3 ⟨rfl, hb3⟩
      have HB3 : Hid (Below wr.heap.size wr w3) := HB1.out.trans (hb3.mono HB1.out.size)
      clear hb3
      refine ⟨_, rfl, ⟨⟨_, HB3.out⟩, rfl⟩, ?_⟩
      simp only [Act.put, List.setIfInBounds_toArray, List.set_cons_zero, List.set_cons_succ]
      (repeat (first | (with_reducible refine mix_read (by kernel_rfl) ?_; go_big_quiet_want; go_big_quiet_op; go_big_quiet_on; with_reducible refine wpQuiet_nil ?_) | (with_reducible refine mix_pass (by kernel_rfl) ?_; go_big_quiet_skip; with_reducible refine wpQuiet_nil ?_)))
      with_reducible refine mix_call (by kernel_rfl) (by kernel_rfl) ((HNX.out _ (HW.out _ HB3.out)).mono ?_) (by kernel_rfl)
      rintro e w4 ⟨o6, c6, rfl, hb4⟩
      have HB4 : Hid (Below wr.heap.size wr w4) := HB3.out.trans (hb4.mono HB3.out.size)
      clear hb4
      refine ⟨_, rfl, ⟨⟨_, HB4.out⟩, rfl⟩, ?_⟩
      simp only [Act.put, List.setIfInBounds_toArray, List.set_cons_zero, List.set_cons_succ]
      (repeat (first | (with_reducible refine mix_read (by kernel_rfl) ?_; go_big_quiet_want; go_big_quiet_op; go_big_quiet_on; with_reducible refine wpQuiet_nil ?_) | (with_reducible refine mix_pass (by kernel_rfl) ?_; go_big_quiet_skip; with_reducible refine wpQuiet_nil ?_)))
      with_reducible refine mix_end ?_
      intro _
      go_wp2
      go_roundg (n3 - (k + 1))
      case rel => exact ⟨k + 1, rfl, by omega, by go_num, HBX.out.step HB4.out⟩
      case measure => omega
    · go_wp2_with fail
      refine (known_any _).mono ?_
      rintro e w5 ⟨rfl, hb5⟩
      go_wp2
      go_ret
      exact ⟨rfl, hbl.trans (hb5.mono hbl.size)⟩

theorem own : ownKnob Tryd.prog.godebug = none := by kernel_rfl
theorem u8x : U8Extra Tryd.prog Tryd.lays260_ren := ⟨by kernel_rfl, by kernel_rfl, by kernel_rfl, by kernel_rfl, by kernel_rfl, by kernel_rfl, by kernel_rfl⟩
theorem accept_eq : (Rows.laid_unicode_utf8_acceptRanges : DataW Unit) = Lib.acceptData := by kernel_rfl
theorem first_eq : Rows.laid_unicode_utf8_first = Lib.firstData := Pinned.utf8First_eq
theorem tabs_of {W : World} (hL : laidMet Tryd.prog Rows.tableSelfRow.laid W) : Lib.Utf8Tabs 0 1 W :=
  utf8Tabs_of_readsT (U8Types.of260 Tryd.lays260) u8x (first_eq ▸ Lib.laidMet.reads hL (.tail _ (.head _))) (accept_eq ▸ Lib.laidMet.reads hL (.head _))

set_option maxRecDepth 100000 in
theorem lifted (os : Os) (started : os.Started) (H : Type) (enc : TypeId × Value → H) :
    ReturnsInHanded {} Tryd.checked os 3 .any (fun w args => (Rows.tableSelfSpec.pre enc Tryd.prog Tryd.f3 [] false w args ∧ laidMetH Tryd.prog Rows.tableSelfRow.laid w) ∧ sizedMet enc Tryd.prog Tryd.f3 (OpenSpec.ofChange Rows.tableSelfSpec) false w args)
      (Rows.tableSelfSpec.post enc Tryd.prog Tryd.f3 false true false false) := by
  refine returnsInHanded_of_change_and (C := Tryd.checked) (X := fun w _ => laidMetH Tryd.prog Rows.tableSelfRow.laid w) (fun _ _ _ hh h => h.of_heap hh) own started (by kernel_rfl) Tryd.func3
    (ChangeSpec.witness_shaped (enc := enc) (C := Tryd.checked) (os := os) (X := fun w _ => laidMetH Tryd.prog Rows.tableSelfRow.laid w) false (World.laidAll Tryd.prog os Rows.tableSelfRow.laid) #[.agg #[.slice none 0 0, .slice none 0 0, .slice none 0 0, .slice none 0 0]] 8 (World.laidAll_os _ _ _)
      (World.shaped_of_ZipB (by kernel_rfl) (by kernel_rfl)) (by kernel_rfl) (by kernel_rfl) (by kernel_rfl)
      (by rw [MakeChecks.laidMetH_plain _ _ _ (by kernel_rfl)]; exact laidMet_laidAll _ (by kernel_rfl) (by kernel_rfl))) ?_
  intro W base args ds gs before hval0 hW _ hsz0 hL _
  have hval : ∀ (j : Nat) t v, Tryd.f3.params[j]? = some t → args[j]? = some v → Value.okWide Tryd.prog W .any base t v := hval0
  have hsz : (DataW.weightsEach Tryd.prog (Tryd.f3.params.toList ++ Rows.tableSelfSpec.plain.varTypes Tryd.prog) (ds ++ gs)).all (· ≤ reachBytes) = true := hsz0
  have hW' := hW
  obtain ⟨p, q, hA0, hV, rfl, _, _⟩ := hW
  have hA : DataW.TrodAll enc Tryd.prog W 0 (fun _ => true) true Tryd.f3.params.toList args.toList ds p := hA0
  rw [Tryd.params3] at hA hval hsz
  obtain ⟨v0, vs0, d0, ds0, p0, q0, hargs, rfl, rfl, h0, r0⟩ := trodAll_cons hA
  obtain ⟨rfl, rfl, rfl⟩ := trodAll_nil r0
  obtain rfl : args = #[v0] := by cases args; simp_all
  obtain ⟨rfl, rfl⟩ := trodVars_none hV
  have k0 := h0
  have lt0 : ∀ x ∈ p0, x.block < W.heap.size := by obtain ⟨m, hm⟩ := k0; exact DataW.trod_lt m _ _ _ hm
  have g0 := weights_at hsz (j := 0) (t := 26) rfl rfl
  obtain ⟨u0, l0, s0, rfl, y0, b0, c0, x0⟩ := open_layout_c (hval 0 26 v0 rfl rfl) h0 g0
  clear hA0 hval0
  rw [MakeChecks.laidMetH_plain _ _ _ (by kernel_rfl)] at hL
  refine (walk W u0 l0 s0 y0 b0 c0 x0 (tabs_of hL)).mono fun e W' ⟨he, bel⟩ => ?_
  subst he
  exact ⟨_, rfl, _, _, _, [], _, [], hW', trodAll_mk1 (shut_bool Tryd.underlying4 _), (trodAll_cons_mk (Below.trod laidOut (by kernel_rfl) (of_decide_eq_true (by kernel_rfl)) k0 bel lt0) trodAll_mk0), rfl, bel.frame _, fun h => by cases h⟩

theorem over : Rows.tableSelfRow.holds Tryd.pinned (OpenSpec.ofChange Rows.tableSelfSpec) :=
  OpenClaim.holds_of_wide 3 Tryd.f3 rfl rfl rfl rfl rfl rfl rfl ⟨rfl, rfl, rfl, rfl, rfl⟩ rfl rfl rfl rfl rfl (by kernel_rfl) Tryd.func3 (by kernel_rfl)
    (of_decide_eq_true (by kernel_rfl)) (by unfold Func.isWrapper; first | (rw [if_pos (by decide +kernel)]; kernel_rfl) | (rw [if_neg (by decide +kernel)]; exact ⟨rfl, rfl⟩))
    (fun os started H enc _ => lifted os started H enc)

theorem card : Rows.TableSelfCardSaid :=
  Claim7.holds_tied_plain_at .later [] _ _ _ _ over (fun _ h => by cases h) (by kernel_rfl) (fun _ h => by cases h) tableSelf_row_tie rfl ⟨rfl, rfl⟩ (by kernel_rfl) rfl
    (fun f fn hf hfn => by
      obtain rfl : f = 3 := Option.some.inj ((show Tryd.prog.funcNamed Rows.tableSelfRow.func = some 3 by kernel_rfl).symm.trans hf) |>.symm
      obtain rfl : fn = Tryd.f3 := (Option.some.inj (Tryd.func3.symm.trans hfn)).symm
      exact ⟨by kernel_rfl, fun j t ht => by
        rw [Tryd.params3] at ht
        have hm : t ∈ [26] := by simpa using Array.mem_of_getElem? ht
        have hall : ([26].all fun u => !Tryd.prog.wantsStandIn u) = true := by kernel_rfl
        exact (show Tryd.prog.wantsStandIn t = false by simpa using List.all_eq_true.1 hall t hm)⟩)
    (by kernel_rfl)

end Go.Proofs.YtkeefaacaimicabDoor.tableSelf
namespace Go.Proofs.YtkeefaacaimicabDoor
theorem tableSelf_holds : Rows.TableSelfCardSaid := tableSelf.card
#print axioms tableSelf_holds
end Go.Proofs.YtkeefaacaimicabDoor
