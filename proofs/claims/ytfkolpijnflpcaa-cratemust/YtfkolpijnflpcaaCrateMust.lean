/-
  Of every row of raw things: CrateMust returns true. No condition.
-/
import Derived.Test.YtfkolpijnflpcaaRows
import Derived.Test.YtfkolpijnflpcaaCrMade
import Derived.Test.YtfkolpijnflpcaaCrOpen
import Derived.WalkKit
import Derived.ProofKit
import Derived.OpenShut
import Derived.ShutString
import Derived.ChangeOld
import Derived.Below
import Derived.SizedLaws
namespace Go.Proofs.Ytfkolpijnflpcaa.crateMust
open Go.ChangeShapes Go.WideShapes Go.ChangeAt Go.RowKit

set_option maxRecDepth 1000000 in
set_option maxHeartbeats 4000000 in
theorem walk (w : World) (oa : Option Addr) (n cap : Nat) (l : List Th) (hn : l.length = n) (hm : n ≤ 140737488355328) (hS : hasThs w oa l) (hz : ∀ y ∈ l, y.s.size ≤ 140737488355328) :
    Calls Try.prog 4 #[.slice oa n cap] w fun e w' => e = .returned (.bool true) ∧ Below w.heap.size w w' := by
  have HN : Hid (l.length = n) := hn
  have HS : Hid (hasThs w oa l) := hS
  have HZ : Hid (∀ y ∈ l, y.s.size ≤ 140737488355328) := hz
  clear hn hS hz
  by_cases hlong : 3000 < sumTh l
  · have HD : Hid (decide (3000 < sumTh l) = true) := decide_eq_true hlong
    go_enter Try.func4, Try.ntmps4
    go_wp2_with fail
    refine (long_any _ _ _ l _ HN.out HS.out hm HZ.out).mono ?_
    rw [HD.out]
    rintro e w1 ⟨rfl, hw⟩
    obtain rfl := hw.symm
    go_wp2
    go_ret
    exact ⟨rfl, Below.refl _ _⟩
  · have HD : Hid (decide (3000 < sumTh l) = false) := decide_eq_false hlong
    have h3000 : n ≤ 3000 := by
      have := sumTh_len l
      have := HN.out
      omega
    clear hlong
    go_enter Try.func4, Try.ntmps4
    go_wp2_with fail
    refine (long_any _ _ _ l _ HN.out HS.out hm HZ.out).mono ?_
    rw [HD.out]
    rintro e w1 ⟨rfl, hw⟩
    obtain rfl := hw.symm
    go_wp2_with fail
    refine (made_any _ _ _ l _ HN.out HS.out h3000 HZ.out).mono ?_
    rintro e w2 ⟨c, x, v, u, rfl, hc, hx, _, hb⟩
    have HC : Hid (Reads w2 (.pointer (some ⟨c, 0, none⟩)) ((l.map plainI).take 100)) := hc.reads
    have HX : Hid (ReadsT w2 (.pointer (some ⟨x, 0, none⟩)) (((l.map plainI).take 100).map It.th)) := hx.reads
    have HB : Hid (Below w.heap.size w w2) := hb
    clear hc hx hb HN HS HZ HD
    generalize (l.map plainI).take 100 = its at *
    obtain ⟨x', oa', cap', hxe, hcell, _, hlen, _⟩ := HX.out
    simp only [Value.pointer.injEq, Option.some.injEq, Addr.mk.injEq, and_true] at hxe
    subst hxe
    obtain ⟨k0, hk0⟩ : ∃ k0, k0 = its.length := ⟨_, rfl⟩
    have HK : Hid (k0 = its.length) := hk0
    rw [List.length_map, ← hk0] at hcell hlen
    clear hk0
    go_wp2
    go_loopw [5] (fun i wr => ∃ k : Nat, i = .int .i64 k ∧ k ≤ k0 ∧ Below w2.heap.size w2 wr) (fun i _ => k0 - (intOf i).toNat)
    case atStart => exact ⟨0, rfl, by omega, Below.refl _ _⟩
    case round =>
      obtain ⟨k, rfl, hk, hbr⟩ := hrel
      have HBR : Hid (Below w2.heap.size w2 wr) := hbr
      have hcell2 : wr.cell? ⟨x, 0, none⟩ = some (.slice oa' k0 cap') := (hbr.cell (p := ⟨x, 0, none⟩) (World.block_lt_of_cell? w2 _ hcell)).trans hcell
      have HX2 : Hid (ReadsT wr (.pointer (some ⟨x, 0, none⟩)) (its.map It.th)) := HX.out.below hbr
      clear hbr hcell
      by_cases hlt : k < k0
      · have hki : decide ((k : Int) < (k0 : Int)) = true := by simp; omega
        obtain ⟨y, hy⟩ : ∃ y, its[k]? = some y := ⟨its[k]'(by rw [← HK.out]; exact hlt), List.getElem?_eq_getElem _⟩
        have hyk : itAt its k = some y := by rw [itAt_nat]; exact hy
        have HT : Hid (thAt (its.map It.th) k 1 = if y.th.k = 1 then some y.th else none) := by
          rw [Hid]
          simp only [thAt]
          rw [if_neg (by omega), Int.toNat_natCast, List.getElem?_map, hy]
          rfl
        have HY : Hid (itAt its k = some y) := hyk
        clear hy hyk
        by_cases hnum : ∃ m, y = (.inl m)
        · obtain ⟨m, rfl⟩ := hnum
          have HT2 : Hid (thAt (its.map It.th) k 1 = some ⟨1, m, ⟨#[]⟩, false⟩) := by rw [Hid, HT.out]; rfl
          clear HT
          go_wp2_with fail
          refine (at_any _ _ _ _ _ HX2.out).mono ?_
          rw [HT2.out]
          simp only [thOr, Th.val, Option.isSome_some]
          rintro e w3 ⟨rfl, hb3⟩
          have HB3 : Hid (Below w2.heap.size w2 w3) := HBR.out.trans (hb3.mono HBR.out.size)
          go_wp2
          have hb4 : Below w3.heap.size w3 (w3.alloc (.cells #[.int .i64 1, .int .i64 m, .string ⟨#[]⟩, .bool false] 35)) := (Below.refl _ _).alloc (Nat.le_refl _) _
          have HB4 : Hid (Below w2.heap.size w2 (w3.alloc (.cells #[.int .i64 1, .int .i64 m, .string ⟨#[]⟩, .bool false] 35))) := HB3.out.trans (hb4.mono HB3.out.size)
          clear hb3 hb4
          have hmm : (m != m) = false := by simp
          have d1 : (w3.alloc (.cells #[.int .i64 1, .int .i64 m, .string ⟨#[]⟩, .bool false] 35)).cell? ⟨w3.heap.size, 1, none⟩ = some (.int .i64 m) := by simp
          generalize hW : w3.alloc (.cells #[.int .i64 1, .int .i64 m, .string ⟨#[]⟩, .bool false] 35) = W at *
          clear hW
          go_quiet (first | (go_at_call 15; refine Calls.quiet_of_same (must_any _ its _ m _ ((HC.out.below HB4.out).below (below_drewN (Below.refl _ _) _)) HY.out)))
          go_wp2
          go_roundw
          case rel => exact ⟨k + 1, by go_num, by omega, below_drewN HB4.out _⟩
          case measure => simp [intOf]; omega
        · have HT2 : Hid (thAt (its.map It.th) k 1 = none) := by
            rw [Hid, HT.out]
            rcases y with m | s | b
            · exact absurd ⟨m, rfl⟩ hnum
            · rfl
            · rfl
          clear HT
          go_wp2_with fail
          refine (at_any _ _ _ _ _ HX2.out).mono ?_
          rw [HT2.out]
          simp only [thOr, Th.val, Th.zero, Option.isSome_none]
          rintro e w3 ⟨rfl, hb3⟩
          have HB3 : Hid (Below w2.heap.size w2 w3) := HBR.out.trans (hb3.mono HBR.out.size)
          go_wp2
          have hb4 : Below w3.heap.size w3 (w3.alloc (.cells #[.int .i64 0, .int .i64 0, .string ⟨#[]⟩, .bool false] 35)) := (Below.refl _ _).alloc (Nat.le_refl _) _
          have HB4 : Hid (Below w2.heap.size w2 (w3.alloc (.cells #[.int .i64 0, .int .i64 0, .string ⟨#[]⟩, .bool false] 35))) := HB3.out.trans (hb4.mono HB3.out.size)
          clear hb3 hb4
          go_quiet (fail)
          go_wp2
          go_roundw
          case rel => exact ⟨k + 1, by go_num, by omega, below_drewN HB4.out _⟩
          case measure => simp [intOf]; omega
      · have hki : decide ((k : Int) < (k0 : Int)) = false := by simp; omega
        go_wp2_with fail
        refine (known_any _).mono ?_
        rintro e w3 ⟨rfl, hb3⟩
        go_wp2
        go_ret
        exact ⟨rfl, (HB.out.trans (HBR.out.mono HB.out.size)).trans (hb3.mono (Nat.le_trans HB.out.size HBR.out.size))⟩

theorem own : ownKnob Try.prog.godebug = none := by kernel_rfl

set_option maxRecDepth 100000 in
theorem lifted (os : Os) (started : os.Started) (H : Type) (enc : TypeId × Value → H) :
    ReturnsInHanded {} Try.checked os 4 .any (Rows.crateMustSpec.pre6 enc Try.prog Try.f4 Rows.crateMustRow.domain false) (Rows.crateMustSpec.post enc Try.prog Try.f4 false true false false) := by
  refine returnsInHanded_of_change_sized (C := Try.checked) own started (by kernel_rfl) Try.func4
    (ChangeSpec.witness6 (enc := enc) (C := Try.checked) false ⟨#[], #[.slice none 0 0], []⟩ 8 (by kernel_rfl) (by kernel_rfl) (by kernel_rfl) (by kernel_rfl)) ?_
  intro W base args ds gs before hval0 hW _ hsz0 _
  have hval : ∀ (j : Nat) t v, Try.f4.params[j]? = some t → args[j]? = some v → Value.okWide Try.prog W .any base t v := hval0
  have hsz : (DataW.weightsEach Try.prog (Try.f4.params.toList ++ Rows.crateMustSpec.plain.varTypes Try.prog) (ds ++ gs)).all (· ≤ reachBytes) = true := hsz0
  have hW' := hW
  obtain ⟨p, q, hA0, hV, rfl, _, _⟩ := hW
  have hA : DataW.TrodAll enc Try.prog W 0 (fun _ => true) true Try.f4.params.toList args.toList ds p := hA0
  rw [Try.params4] at hA hval hsz
  obtain ⟨v0, vs0, d0, ds0, p0, q0, hargs, rfl, rfl, h0, r0⟩ := trodAll_cons hA
  obtain ⟨rfl, rfl, rfl⟩ := trodAll_nil r0
  obtain rfl : args = #[v0] := by cases args; simp_all
  obtain ⟨rfl, rfl⟩ := trodVars_none hV
  have k0 := h0
  have lt0 : ∀ x ∈ p0, x.block < W.heap.size := by obtain ⟨m, hm⟩ := k0; exact DataW.trod_lt m _ _ _ hm
  have g0 := weights_at hsz (j := 0) (t := 22) rfl rfl
  obtain ⟨o0, len0, cap0, rfl⟩ := okWide_slice Try.underlying22 (hval 0 22 v0 rfl rfl)
  obtain ⟨z0, e0, m0, s0, y0⟩ : ∃ l : List Th, l.length = len0 ∧ len0 ≤ 140737488355328 ∧ hasThs W o0 l ∧ ∀ y ∈ l, y.s.size ≤ 140737488355328 := by
    obtain ⟨fuel, hf⟩ := h0
    exact open_things hf g0
  clear hA0 hval0
  refine (walk W o0 len0 cap0 z0 e0 m0 s0 y0).mono fun e W' ⟨he, bel⟩ => ?_
  subst he
  exact ⟨_, rfl, _, _, _, [], _, [], hW', trodAll_mk1 (shut_bool Try.underlying4 _), (trodAll_cons_mk (Below.trod laidOut (by kernel_rfl) (of_decide_eq_true (by kernel_rfl)) k0 bel lt0) trodAll_mk0), rfl, bel.frame _, fun h => by cases h⟩

theorem over : Rows.crateMustRow.holds Try.pinned (OpenSpec.ofChange Rows.crateMustSpec) :=
  OpenClaim.holds_of_wide 4 Try.f4 rfl rfl rfl rfl rfl rfl rfl ⟨rfl, rfl, rfl, rfl, rfl⟩ rfl rfl rfl rfl rfl (by kernel_rfl) Try.func4 (by kernel_rfl)
    (of_decide_eq_true (by kernel_rfl)) (by unfold Func.isWrapper; first | (rw [if_pos (by decide +kernel)]; kernel_rfl) | (rw [if_neg (by decide +kernel)]; exact ⟨rfl, rfl⟩))
    (fun os started H enc _ => lifted os started H enc)


end Go.Proofs.Ytfkolpijnflpcaa.crateMust
namespace Go.Proofs.Ytfkolpijnflpcaa
theorem crateMust_holds : Rows.CrateMustSaid := crateMust.over
#print axioms crateMust_holds
end Go.Proofs.Ytfkolpijnflpcaa
