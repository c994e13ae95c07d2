/-
  Of every two rows of raw things: CrateSame returns true. No condition.
-/
import Derived.Test.YtfkolpijnflpcaaRows
import Derived.Test.YtfkolpijnflpcaaCrMade
import Derived.Test.YtfkolpijnflpcaaCrRefSame
import Derived.Test.YtfkolpijnflpcaaCrExt
import Derived.Test.YtfkolpijnflpcaaCrOpen
import Derived.WalkKit
import Derived.ProofKit
import Derived.OpenShut
import Derived.ShutString
import Derived.ChangeOld
import Derived.Below
import Derived.SizedLaws
namespace Go.Proofs.Ytfkolpijnflpcaa.crateSame
open Go.ChangeShapes Go.WideShapes Go.ChangeAt Go.RowKit

theorem nil_reads (w : World) : Reads w (.pointer none) [] := .inl ⟨rfl, rfl⟩
theorem th_inj : ∀ (a b : List It), a.map It.th = b.map It.th → a = b
  | [], [], _ => rfl
  | [], _ :: _, h => by simp at h
  | _ :: _, [], h => by simp at h
  | x :: a, y :: b, h => by
    rw [List.map_cons, List.map_cons, List.cons.injEq] at h
    have e := congrArg plainI h.1
    rw [plainI_th, plainI_th] at e
    rw [e, th_inj a b h.2]
theorem dec_th (a b : List It) : decide ((a.map It.th).map Th.tup = (b.map It.th).map Th.tup) = decide (a = b) := by
  rw [Bool.eq_iff_iff, decide_eq_true_eq, decide_eq_true_eq]
  exact ⟨fun h => th_inj a b (map_tup h), fun h => by rw [h]⟩
theorem same_self (p : Value) (l : List It) (w : World) (h : Reads w p l) : Calls Try.prog 16 #[p, p] w fun e w' => e = .returned (.bool true) ∧ w' = w := by
  have := same_any p p l l w h h
  rw [decide_eq_true (rfl : l = l)] at this
  exact this
theorem dec_nil (a : List It) (k : Nat) (h : a.length = k) : decide (a = []) = ((k : Int) == 0) ∧ decide ([] = a) = ((k : Int) == 0) := by
  subst h
  constructor <;> (rw [Bool.eq_iff_iff]; cases a <;> simp) <;> omega

set_option maxRecDepth 1000000 in
set_option maxHeartbeats 8000000 in
theorem walk (w : World) (oa : Option Addr) (n cap : Nat) (l : List Th) (hn : l.length = n) (hm : n ≤ 140737488355328) (hS : hasThs w oa l) (hz : ∀ y ∈ l, y.s.size ≤ 140737488355328)
    (ob : Option Addr) (n' cap' : Nat) (l' : List Th) (hn' : l'.length = n') (hm' : n' ≤ 140737488355328) (hS' : hasThs w ob l') (hz' : ∀ y ∈ l', y.s.size ≤ 140737488355328) :
    Calls Try.prog 5 #[.slice oa n cap, .slice ob n' cap'] w fun e w' => e = .returned (.bool true) ∧ Below w.heap.size w w' := by
  have HN : Hid (l.length = n) := hn
  have HS : Hid (hasThs w oa l) := hS
  have HZ : Hid (∀ y ∈ l, y.s.size ≤ 140737488355328) := hz
  have HN' : Hid (l'.length = n') := hn'
  have HS' : Hid (hasThs w ob l') := hS'
  have HZ' : Hid (∀ y ∈ l', y.s.size ≤ 140737488355328) := hz'
  clear hn hS hz hn' hS' hz'
  by_cases hlong : 3000 < sumTh l
  · have HD : Hid (decide (3000 < sumTh l) = true) := decide_eq_true hlong
    go_enter Try.func5, Try.ntmps5
    go_wp2_with fail
    refine (long_any _ _ _ l _ HN.out HS.out hm HZ.out).mono ?_
    rw [HD.out]
    rintro e w1 ⟨rfl, hw⟩
    obtain rfl := hw.symm
    go_wp2
    go_ret
    exact ⟨rfl, Below.refl _ _⟩
  · have HD : Hid (decide (3000 < sumTh l) = false) := decide_eq_false hlong
    have h3000 : n ≤ 3000 := by
      have := sumTh_len l
      have := HN.out
      omega
    clear hlong
    by_cases hlong : 3000 < sumTh l'
    · have HD' : Hid (decide (3000 < sumTh l') = true) := decide_eq_true hlong
      go_enter Try.func5, Try.ntmps5
      go_wp2_with fail
      refine (long_any _ _ _ l _ HN.out HS.out hm HZ.out).mono ?_
      rw [HD.out]
      rintro e w1 ⟨rfl, hw⟩
      obtain rfl := hw.symm
      go_wp2_with fail
      refine (long_any _ _ _ l' _ HN'.out HS'.out hm' HZ'.out).mono ?_
      rw [HD'.out]
      rintro e w1 ⟨rfl, hw⟩
      obtain rfl := hw.symm
      go_wp2
      go_ret
      exact ⟨rfl, Below.refl _ _⟩
    · have HD' : Hid (decide (3000 < sumTh l') = false) := decide_eq_false hlong
      have h3000' : n' ≤ 3000 := by
        have := sumTh_len l'
        have := HN'.out
        omega
      clear hlong
      go_enter Try.func5, Try.ntmps5
      go_wp2_with fail
      refine (long_any _ _ _ l _ HN.out HS.out hm HZ.out).mono ?_
      rw [HD.out]
      rintro e w1 ⟨rfl, hw⟩
      obtain rfl := hw.symm
      go_wp2_with fail
      refine (long_any _ _ _ l' _ HN'.out HS'.out hm' HZ'.out).mono ?_
      rw [HD'.out]
      rintro e w1 ⟨rfl, hw⟩
      obtain rfl := hw.symm
      go_wp2_with fail
      refine (made_any _ _ _ l _ HN.out HS.out h3000 HZ.out).mono ?_
      rintro e w2 ⟨c, x, v, u, rfl, hc, hx, _, hb⟩
      have HC : Hid (Reads w2 (.pointer (some ⟨c, 0, none⟩)) ((l.map plainI).take 100)) := hc.reads
      have HX : Hid (ReadsT w2 (.pointer (some ⟨x, 0, none⟩)) (((l.map plainI).take 100).map It.th)) := hx.reads
      have HB : Hid (Below w.heap.size w w2) := hb
      have HS2 : Hid (hasThs w2 ob l') := hasThs_below HS'.out hb
      clear hc hx hb HN HS HZ HD HD' HS'
      generalize (l.map plainI).take 100 = its at *
      go_wp2_with fail
      refine (made_any _ _ _ l' _ HN'.out HS2.out h3000' HZ'.out).mono ?_
      rintro e w3 ⟨d, y, v', u', rfl, hd, hy, _, hb⟩
      have HC3 : Hid (Reads w3 (.pointer (some ⟨c, 0, none⟩)) its) := HC.out.below hb
      have HX3 : Hid (ReadsT w3 (.pointer (some ⟨x, 0, none⟩)) (its.map It.th)) := HX.out.below hb
      have HD3 : Hid (Reads w3 (.pointer (some ⟨d, 0, none⟩)) ((l'.map plainI).take 100)) := hd.reads
      have HY3 : Hid (ReadsT w3 (.pointer (some ⟨y, 0, none⟩)) (((l'.map plainI).take 100).map It.th)) := hy.reads
      have HB3 : Hid (Below w.heap.size w w3) := HB.out.trans (hb.mono HB.out.size)
      clear hd hy hb HC HX HB HN' HS2 HZ'
      generalize (l'.map plainI).take 100 = jts at *
      obtain ⟨x', oa', capx, hxe, hcx, _, hlx, _⟩ := HX3.out
      simp only [Value.pointer.injEq, Option.some.injEq, Addr.mk.injEq, and_true] at hxe
      subst hxe
      obtain ⟨y', ob', capy, hye, hcy, _, hly, _⟩ := HY3.out
      simp only [Value.pointer.injEq, Option.some.injEq, Addr.mk.injEq, and_true] at hye
      subst hye
      obtain ⟨k0, hk0⟩ : ∃ k0, k0 = its.length := ⟨_, rfl⟩
      obtain ⟨k1, hk1⟩ : ∃ k1, k1 = jts.length := ⟨_, rfl⟩
      rw [List.length_map, ← hk0] at hcx hlx
      rw [List.length_map, ← hk1] at hcy hly
      have E1 : Hid (decide (its = []) = ((k0 : Int) == 0)) := (dec_nil its k0 hk0.symm).1
      have E2 : Hid (decide ([] = jts) = ((k1 : Int) == 0)) := (dec_nil jts k1 hk1.symm).2
      have E4 : Hid (decide ((its.map It.th).map Th.tup = (jts.map It.th).map Th.tup) = decide (its = jts)) := dec_th its jts
      clear hk0 hk1
      generalize hq : decide (its = jts) = q at *
      have E5 : Hid (decide (its = jts) = q) := hq
      clear hq
      have SS : Hid (∀ z : Ext w3, Calls Try.prog 16 #[.pointer (some ⟨c, 0, none⟩), .pointer (some ⟨d, 0, none⟩)] z.z fun e w' => e = .returned (.bool q) ∧ w' = z.z) := fun z => by
        have := same_any _ _ its jts _ (HC3.out.below z.h) (HD3.out.below z.h)
        rw [E5.out] at this
        exact this
      have SE : Hid (∀ z : Ext w3, Calls Try.prog 16 #[.pointer (some ⟨c, 0, none⟩), .pointer (some ⟨c, 0, none⟩)] z.z fun e w' => e = .returned (.bool true) ∧ w' = z.z) := fun z => by
        exact same_self _ its _ (HC3.out.below z.h)
      have SN : Hid (∀ z : Ext w3, Calls Try.prog 16 #[.pointer (some ⟨c, 0, none⟩), .pointer none] z.z fun e w' => e = .returned (.bool ((k0 : Int) == 0)) ∧ w' = z.z) := fun z => by
        have := same_any _ _ its [] _ (HC3.out.below z.h) (nil_reads _)
        rw [E1.out] at this
        exact this
      have NS : Hid (∀ z : Ext w3, Calls Try.prog 16 #[.pointer none, .pointer (some ⟨d, 0, none⟩)] z.z fun e w' => e = .returned (.bool ((k1 : Int) == 0)) ∧ w' = z.z) := fun z => by
        have := same_any _ _ [] jts _ (nil_reads _) (HD3.out.below z.h)
        rw [E2.out] at this
        exact this
      have RR : Hid (∀ z : Ext w3, Calls Try.prog 17 #[.pointer (some ⟨x, 0, none⟩), .pointer (some ⟨y, 0, none⟩)] z.z fun e w' => e = .returned (.bool q) ∧ ∃ n, w' = z.z.drewN n) := fun z => by
        have := refSame_any _ _ _ _ _ (HX3.out.below z.h) (HY3.out.below z.h)
        rw [E4.out] at this
        exact this
      have lx : ∀ z : Ext w3, z.z.cell? ⟨x, 0, none⟩ = some (.slice oa' k0 capx) := ext_cell hcx
      have ly : ∀ z : Ext w3, z.z.cell? ⟨y, 0, none⟩ = some (.slice ob' k1 capy) := ext_cell hcy
      clear HC3 HD3 HX3 HY3 E1 E2 E4 E5
      haveI : Nonempty (Ext w3) := ⟨⟨w3, Below.refl _ _⟩⟩
      generalize hb0 : ((k0 : Int) == 0) = b0 at *
      generalize hb1 : ((k1 : Int) == 0) = b1 at *
      cases q <;> cases b0 <;> cases b1
      all_goals
        go_wp2
        refine wp_region_ext (by kernel_rfl) (by kernel_rfl) ?_
        repeat (first | go_big_quiet_skip | (go_big_quiet_want; go_big_quiet_op; first | go_big_quiet_on | (apply Exists.intro; refine ⟨fun _ => ?_, ?_⟩; (first | (go_at_call_of 16 (Value.pointer (some ⟨c, 0, none⟩)); go_at_call_of 16 (Value.pointer none); exact ext_of_same (SN.out _)) | (go_at_call_of 16 (Value.pointer (some ⟨d, 0, none⟩)); go_at_call_of 16 (Value.pointer none); exact ext_of_same (NS.out _)) | (go_at_call_of 16 (Value.pointer (some ⟨c, 0, none⟩)); go_at_call_of 16 (Value.pointer (some ⟨d, 0, none⟩)); exact ext_of_same (SS.out _)) | (go_at_call_of 16 (Value.pointer (some ⟨c, 0, none⟩)); exact ext_of_same (SE.out _)) | (go_at_call 17; exact ext_of_draws (RR.out _)) | (go_at_call 13; exact ext_of (known_any _)) ); go_big_quiet_on)))
        refine wpQuiet_nil ?_
        intro _ hw'
        obtain ⟨z, hw''⟩ := hw'
        subst hw''
        go_wp2
        go_ret
        exact ⟨rfl, HB3.out.trans (z.h.mono HB3.out.size)⟩

theorem own : ownKnob Try.prog.godebug = none := by kernel_rfl

set_option maxRecDepth 100000 in
theorem lifted (os : Os) (started : os.Started) (H : Type) (enc : TypeId × Value → H) :
    ReturnsInHanded {} Try.checked os 5 .any (Rows.crateSameSpec.pre6 enc Try.prog Try.f5 Rows.crateSameRow.domain false) (Rows.crateSameSpec.post enc Try.prog Try.f5 false true false false) := by
  refine returnsInHanded_of_change_sized (C := Try.checked) own started (by kernel_rfl) Try.func5
    (ChangeSpec.witness6 (enc := enc) (C := Try.checked) false ⟨#[], #[.slice none 0 0, .slice none 0 0], []⟩ 8 (by kernel_rfl) (by kernel_rfl) (by kernel_rfl) (by kernel_rfl)) ?_
  intro W base args ds gs before hval0 hW _ hsz0 _
  have hval : ∀ (j : Nat) t v, Try.f5.params[j]? = some t → args[j]? = some v → Value.okWide Try.prog W .any base t v := hval0
  have hsz : (DataW.weightsEach Try.prog (Try.f5.params.toList ++ Rows.crateSameSpec.plain.varTypes Try.prog) (ds ++ gs)).all (· ≤ reachBytes) = true := hsz0
  have hW' := hW
  obtain ⟨p, q, hA0, hV, rfl, _, _⟩ := hW
  have hA : DataW.TrodAll enc Try.prog W 0 (fun _ => true) true Try.f5.params.toList args.toList ds p := hA0
  rw [Try.params5] at hA hval hsz
  obtain ⟨v0, vs0, d0, ds0, p0, q0, hargs, rfl, rfl, h0, r0⟩ := trodAll_cons hA
  obtain ⟨v1, vs1, d1, ds1, p1, q1, rfl, rfl, rfl, h1, r1⟩ := trodAll_cons r0
  obtain ⟨rfl, rfl, rfl⟩ := trodAll_nil r1
  obtain rfl : args = #[v0, v1] := by cases args; simp_all
  obtain ⟨rfl, rfl⟩ := trodVars_none hV
  have k0 := h0
  have lt0 : ∀ x ∈ p0, x.block < W.heap.size := by obtain ⟨m, hm⟩ := k0; exact DataW.trod_lt m _ _ _ hm
  have g0 := weights_at hsz (j := 0) (t := 22) rfl rfl
  obtain ⟨o0, len0, cap0, rfl⟩ := okWide_slice Try.underlying22 (hval 0 22 v0 rfl rfl)
  obtain ⟨z0, e0, m0, s0, y0⟩ : ∃ l : List Th, l.length = len0 ∧ len0 ≤ 140737488355328 ∧ hasThs W o0 l ∧ ∀ y ∈ l, y.s.size ≤ 140737488355328 := by
    obtain ⟨fuel, hf⟩ := h0
    exact open_things hf g0
  have k1 := h1
  have lt1 : ∀ x ∈ p1, x.block < W.heap.size := by obtain ⟨m, hm⟩ := k1; exact DataW.trod_lt m _ _ _ hm
  have g1 := weights_at hsz (j := 1) (t := 22) rfl rfl
  obtain ⟨o1, len1, cap1, rfl⟩ := okWide_slice Try.underlying22 (hval 1 22 v1 rfl rfl)
  obtain ⟨z1, e1, m1, s1, y1⟩ : ∃ l : List Th, l.length = len1 ∧ len1 ≤ 140737488355328 ∧ hasThs W o1 l ∧ ∀ y ∈ l, y.s.size ≤ 140737488355328 := by
    obtain ⟨fuel, hf⟩ := h1
    exact open_things hf g1
  clear hA0 hval0
  refine (walk W o0 len0 cap0 z0 e0 m0 s0 y0 o1 len1 cap1 z1 e1 m1 s1 y1).mono fun e W' ⟨he, bel⟩ => ?_
  subst he
  exact ⟨_, rfl, _, _, _, [], _, [], hW', trodAll_mk1 (shut_bool Try.underlying4 _), (trodAll_cons_mk (Below.trod laidOut (by kernel_rfl) (of_decide_eq_true (by kernel_rfl)) k0 bel lt0) (trodAll_cons_mk (Below.trod laidOut (by kernel_rfl) (of_decide_eq_true (by kernel_rfl)) k1 bel lt1) trodAll_mk0)), rfl, bel.frame _, fun h => by cases h⟩

theorem over : Rows.crateSameRow.holds Try.pinned (OpenSpec.ofChange Rows.crateSameSpec) :=
  OpenClaim.holds_of_wide 5 Try.f5 rfl rfl rfl rfl rfl rfl rfl ⟨rfl, rfl, rfl, rfl, rfl⟩ rfl rfl rfl rfl rfl (by kernel_rfl) Try.func5 (by kernel_rfl)
    (of_decide_eq_true (by kernel_rfl)) (by unfold Func.isWrapper; first | (rw [if_pos (by decide +kernel)]; kernel_rfl) | (rw [if_neg (by decide +kernel)]; exact ⟨rfl, rfl⟩))
    (fun os started H enc _ => lifted os started H enc)


end Go.Proofs.Ytfkolpijnflpcaa.crateSame
namespace Go.Proofs.Ytfkolpijnflpcaa
theorem crateSame_holds : Rows.CrateSameSaid := crateSame.over
#print axioms crateSame_holds
end Go.Proofs.Ytfkolpijnflpcaa
