/-
  Of every row of raw things and every number: CrateTells returns true. No condition.
-/
import Derived.Test.YtfkolpijnflpcaaRows
import Derived.Test.YtfkolpijnflpcaaCrMade
import Derived.Test.YtfkolpijnflpcaaCrTells
import Derived.Test.YtfkolpijnflpcaaCrOpen
import Derived.WalkKit
import Derived.ProofKit
import Derived.OpenShut
import Derived.ShutString
import Derived.ChangeOld
import Derived.Below
import Derived.SizedLaws
namespace Go.Proofs.Ytfkolpijnflpcaa.crateTells
open Go.ChangeShapes Go.WideShapes Go.ChangeAt Go.RowKit

set_option maxRecDepth 1000000 in
set_option maxHeartbeats 4000000 in
theorem walk (w : World) (oa : Option Addr) (n cap : Nat) (l : List Th) (hn : l.length = n) (hm : n ≤ 140737488355328) (hS : hasThs w oa l) (hz : ∀ y ∈ l, y.s.size ≤ 140737488355328) (pl : Int) (_ : (Lit.int .i64 pl).wf = true) :
    Calls Try.prog 3 #[.slice oa n cap, .int .i64 pl] w fun e w' => e = .returned (.bool true) ∧ Below w.heap.size w w' := by
  have HN : Hid (l.length = n) := hn
  have HS : Hid (hasThs w oa l) := hS
  have HZ : Hid (∀ y ∈ l, y.s.size ≤ 140737488355328) := hz
  clear hn hS hz
  by_cases hlong : 3000 < sumTh l
  · have HD : Hid (decide (3000 < sumTh l) = true) := decide_eq_true hlong
    go_enter Try.func3, Try.ntmps3
    go_wp2_with fail
    refine (long_any _ _ _ l _ HN.out HS.out hm HZ.out).mono ?_
    rw [HD.out]
    rintro e w1 ⟨rfl, hw⟩
    obtain rfl := hw.symm
    go_wp2
    go_ret
    exact ⟨rfl, Below.refl _ _⟩
  · have HD : Hid (decide (3000 < sumTh l) = false) := decide_eq_false hlong
    have h3000 : n ≤ 3000 := by
      have := sumTh_len l
      have := HN.out
      omega
    clear hlong
    go_enter Try.func3, Try.ntmps3
    go_wp2_with fail
    refine (long_any _ _ _ l _ HN.out HS.out hm HZ.out).mono ?_
    rw [HD.out]
    rintro e w1 ⟨rfl, hw⟩
    obtain rfl := hw.symm
    go_wp2_with fail
    refine (made_any _ _ _ l _ HN.out HS.out h3000 HZ.out).mono ?_
    rintro e w2 ⟨c, x, v, u, rfl, hc, hx, _, hb⟩
    have HC : Hid (Reads w2 (.pointer (some ⟨c, 0, none⟩)) ((l.map plainI).take 100)) := hc.reads
    have HX : Hid (ReadsT w2 (.pointer (some ⟨x, 0, none⟩)) (((l.map plainI).take 100).map It.th)) := hx.reads
    have HB : Hid (Below w.heap.size w w2) := hb
    have HSM : Hid (Small ((l.map plainI).take 100)) := small_its l HZ.out
    clear hc hx hb HN HS HZ HD
    generalize (l.map plainI).take 100 = its at *
    obtain ⟨x', oa', cap', hxe, hcell, _, hlen, _⟩ := HX.out
    simp only [Value.pointer.injEq, Option.some.injEq, Addr.mk.injEq, and_true] at hxe
    subst hxe
    obtain ⟨k0, hk0⟩ : ∃ k0, k0 = its.length := ⟨_, rfl⟩
    have HK : Hid (its.length = k0) := hk0.symm
    rw [List.length_map, ← hk0] at hcell hlen
    clear hk0
    have hne : ((k0 : Int) != (k0 : Int)) = false := by simp
    have HLEN : Hid (∀ m, Calls Try.prog 11 #[.pointer (some ⟨c, 0, none⟩)] (w2.drewN m) fun e w' => e = .returned (.int .i64 k0) ∧ w' = w2.drewN m) := fun m => by
      have := len_any _ its _ (HC.out.below (below_drewN (Below.refl _ _) m))
      rw [HK.out] at this
      exact this
    go_wp2
    go_quiet (first | (go_at_call 11; refine Calls.quiet_of_same (HLEN.out _)))
    generalize hwq : w2.drewN _ = wq at *
    have HBQ : Hid (Below w2.heap.size w2 wq) := by rw [Hid, ← hwq]; exact below_drewN (Below.refl _ _) _
    have hcq : wq.cell? ⟨x, 0, none⟩ = some (.slice oa' k0 cap') := (HBQ.out.cell (p := ⟨x, 0, none⟩) (World.block_lt_of_cell? w2 _ hcell)).trans hcell
    clear hwq
    go_wp2
    go_loopw [7] (fun i wr => ∃ k : Nat, i = .int .i64 ((k : Int) - 1) ∧ k ≤ k0 + 2 ∧ Below w2.heap.size w2 wr) (fun i _ => k0 + 2 - (intOf i + 1).toNat)
    case atStart => exact ⟨0, rfl, by omega, HBQ.out⟩
    case round =>
      obtain ⟨k, rfl, hk, hbr⟩ := hrel
      have HBR : Hid (Below w2.heap.size w2 wr) := hbr
      have hcell2 : wr.cell? ⟨x, 0, none⟩ = some (.slice oa' k0 cap') := (hbr.cell (p := ⟨x, 0, none⟩) (World.block_lt_of_cell? w2 _ hcell)).trans hcell
      clear hbr hcell hcq
      by_cases hlt : k ≤ k0 + 1
      · have hki : decide ((k : Int) - 1 ≤ (k0 : Int)) = true := by simp; omega
        go_wp2_with fail
        refine (tells_any _ _ its _ _ (HC.out.below HBR.out) (HX.out.below HBR.out) HSM.out).mono ?_
        rintro e w3 ⟨rfl, hb3⟩
        have HB3 : Hid (Below w2.heap.size w2 w3) := HBR.out.trans (hb3.mono HBR.out.size)
        go_wp2
        go_roundw
        case rel => exact ⟨k + 1, by go_num, by omega, HB3.out⟩
        case measure => simp [intOf]; omega
      · have hki : decide ((k : Int) - 1 ≤ (k0 : Int)) = false := by simp; omega
        go_wp2_with fail
        refine (tells_any _ _ its _ _ (HC.out.below HBR.out) (HX.out.below HBR.out) HSM.out).mono ?_
        rintro e w3 ⟨rfl, hb3⟩
        have HB3 : Hid (Below w2.heap.size w2 w3) := HBR.out.trans (hb3.mono HBR.out.size)
        go_wp2_with fail
        refine (known_any _).mono ?_
        rintro e w4 ⟨rfl, hb4⟩
        go_wp2
        go_ret
        exact ⟨rfl, (HB.out.trans (HB3.out.mono HB.out.size)).trans (hb4.mono (Nat.le_trans HB.out.size HB3.out.size))⟩

theorem own : ownKnob Try.prog.godebug = none := by kernel_rfl

set_option maxRecDepth 100000 in
theorem lifted (os : Os) (started : os.Started) (H : Type) (enc : TypeId × Value → H) :
    ReturnsInHanded {} Try.checked os 3 .any (Rows.crateTellsSpec.pre6 enc Try.prog Try.f3 Rows.crateTellsRow.domain false) (Rows.crateTellsSpec.post enc Try.prog Try.f3 false true false false) := by
  refine returnsInHanded_of_change_sized (C := Try.checked) own started (by kernel_rfl) Try.func3
    (ChangeSpec.witness6 (enc := enc) (C := Try.checked) false ⟨#[], #[.slice none 0 0, .int .i64 0], []⟩ 8 (by kernel_rfl) (by kernel_rfl) (by kernel_rfl) (by kernel_rfl)) ?_
  intro W base args ds gs before hval0 hW _ hsz0 _
  have hval : ∀ (j : Nat) t v, Try.f3.params[j]? = some t → args[j]? = some v → Value.okWide Try.prog W .any base t v := hval0
  have hsz : (DataW.weightsEach Try.prog (Try.f3.params.toList ++ Rows.crateTellsSpec.plain.varTypes Try.prog) (ds ++ gs)).all (· ≤ reachBytes) = true := hsz0
  have hW' := hW
  obtain ⟨p, q, hA0, hV, rfl, _, _⟩ := hW
  have hA : DataW.TrodAll enc Try.prog W 0 (fun _ => true) true Try.f3.params.toList args.toList ds p := hA0
  rw [Try.params3] at hA hval hsz
  obtain ⟨v0, vs0, d0, ds0, p0, q0, hargs, rfl, rfl, h0, r0⟩ := trodAll_cons hA
  obtain ⟨v1, vs1, d1, ds1, p1, q1, rfl, rfl, rfl, h1, r1⟩ := trodAll_cons r0
  obtain ⟨rfl, rfl, rfl⟩ := trodAll_nil r1
  obtain rfl : args = #[v0, v1] := by cases args; simp_all
  obtain ⟨rfl, rfl⟩ := trodVars_none hV
  have k0 := h0
  have lt0 : ∀ x ∈ p0, x.block < W.heap.size := by obtain ⟨m, hm⟩ := k0; exact DataW.trod_lt m _ _ _ hm
  have g0 := weights_at hsz (j := 0) (t := 22) rfl rfl
  obtain ⟨o0, len0, cap0, rfl⟩ := okWide_slice Try.underlying22 (hval 0 22 v0 rfl rfl)
  obtain ⟨z0, e0, m0, s0, y0⟩ : ∃ l : List Th, l.length = len0 ∧ len0 ≤ 140737488355328 ∧ hasThs W o0 l ∧ ∀ y ∈ l, y.s.size ≤ 140737488355328 := by
    obtain ⟨fuel, hf⟩ := h0
    exact open_things hf g0
  obtain ⟨a1, rfl, rfl, rfl, w1⟩ := open_int Try.underlying3 (hval 1 3 v1 rfl rfl) h1
  clear hA0 hval0
  refine (walk W o0 len0 cap0 z0 e0 m0 s0 y0 a1 w1).mono fun e W' ⟨he, bel⟩ => ?_
  subst he
  exact ⟨_, rfl, _, _, _, [], _, [], hW', trodAll_mk1 (shut_bool Try.underlying4 _), (trodAll_cons_mk (Below.trod laidOut (by kernel_rfl) (of_decide_eq_true (by kernel_rfl)) k0 bel lt0) (trodAll_cons_mk (shut_int Try.underlying3 w1) trodAll_mk0)), rfl, bel.frame _, fun h => by cases h⟩

theorem over : Rows.crateTellsRow.holds Try.pinned (OpenSpec.ofChange Rows.crateTellsSpec) :=
  OpenClaim.holds_of_wide 3 Try.f3 rfl rfl rfl rfl rfl rfl rfl ⟨rfl, rfl, rfl, rfl, rfl⟩ rfl rfl rfl rfl rfl (by kernel_rfl) Try.func3 (by kernel_rfl)
    (of_decide_eq_true (by kernel_rfl)) (by unfold Func.isWrapper; first | (rw [if_pos (by decide +kernel)]; kernel_rfl) | (rw [if_neg (by decide +kernel)]; exact ⟨rfl, rfl⟩))
    (fun os started H enc _ => lifted os started H enc)


end Go.Proofs.Ytfkolpijnflpcaa.crateTells
namespace Go.Proofs.Ytfkolpijnflpcaa
theorem crateTells_holds : Rows.CrateTellsSaid := crateTells.over
#print axioms crateTells_holds
end Go.Proofs.Ytfkolpijnflpcaa
