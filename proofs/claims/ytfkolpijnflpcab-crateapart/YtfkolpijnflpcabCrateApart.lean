/-
  Of every row of raw things and every number: CrateApart returns true. No condition.
-/
import Derived.Test.YtfkolpijnflpcabRows
import Derived.Test.YtfkolpijnflpcabCrMade
import Derived.Test.YtfkolpijnflpcabCrOpen
import Derived.WalkKit
import Derived.ProofKit
import Derived.OpenShut
import Derived.ShutString
import Derived.ChangeOld
import Derived.Below
import Derived.SizedLaws
namespace Go.Proofs.Ytfkolpijnflpcab.crateApart
open Go.ChangeShapes Go.WideShapes Go.ChangeAt Go.RowKit

theorem same_yes (p q : Value) (l : List It) (w : World) (h : Reads w p l) (h' : Reads w q l) : Calls Try.prog 14 #[p, q] w fun e w' => e = .returned (.bool true) ∧ w' = w := by
  have := same_any p q l l w h h'
  rw [decide_eq_true (rfl : l = l)] at this
  exact this
theorem same_no (p q : Value) (l : List It) (x : It) (w : World) (h : Reads w p (l ++ [x])) (h' : Reads w q l) : Calls Try.prog 14 #[p, q] w fun e w' => e = .returned (.bool false) ∧ w' = w := by
  have := same_any p q _ l w h h'
  rw [decide_eq_false (fun e => by have := congrArg List.length e; simp at this)] at this
  exact this

set_option maxRecDepth 1000000 in
set_option maxHeartbeats 4000000 in
theorem walk (w : World) (oa : Option Addr) (n cap : Nat) (l : List Th) (hn : l.length = n) (hm : n ≤ 140737488355328) (hS : hasThs w oa l) (hz : ∀ y ∈ l, y.s.size ≤ 140737488355328) (m : Int) (_ : (Lit.int .i64 m).wf = true) :
    Calls Try.prog 4 #[.slice oa n cap, .int .i64 m] w fun e w' => e = .returned (.bool true) ∧ Below w.heap.size w w' := by
  have HN : Hid (l.length = n) := hn
  have HS : Hid (hasThs w oa l) := hS
  have HZ : Hid (∀ y ∈ l, y.s.size ≤ 140737488355328) := hz
  clear hn hS hz
  by_cases hlong : 3000 < sumTh l
  · have HD : Hid (decide (3000 < sumTh l) = true) := decide_eq_true hlong
    go_enter Try.func4, Try.ntmps4
    go_wp2_with fail
    refine (long_any _ _ _ l _ HN.out HS.out hm HZ.out).mono ?_
    rw [HD.out]
    rintro e w1 ⟨rfl, hw⟩
    obtain rfl := hw.symm
    go_wp2
    go_ret
    exact ⟨rfl, Below.refl _ _⟩
  · have HD : Hid (decide (3000 < sumTh l) = false) := decide_eq_false hlong
    have h3000 : n ≤ 3000 := by
      have := sumTh_len l
      have := HN.out
      omega
    clear hlong
    by_cases h100 : 100 ≤ n
    · have d1 : decide ((100 : Int) ≤ (n : Int)) = true := by simp; omega
      go_enter Try.func4, Try.ntmps4
      go_wp2_with fail
      refine (long_any _ _ _ l _ HN.out HS.out hm HZ.out).mono ?_
      rw [HD.out]
      rintro e w1 ⟨rfl, hw⟩
      obtain rfl := hw.symm
      go_wp2
      go_ret
      exact ⟨rfl, Below.refl _ _⟩
    · have d1 : decide ((100 : Int) ≤ (n : Int)) = false := by simp; omega
      go_enter Try.func4, Try.ntmps4
      go_wp2_with fail
      refine (long_any _ _ _ l _ HN.out HS.out hm HZ.out).mono ?_
      rw [HD.out]
      rintro e w1 ⟨rfl, hw⟩
      obtain rfl := hw.symm
      go_wp2_with fail
      refine (made_any _ _ _ l _ HN.out HS.out h3000 HZ.out).mono ?_
      rintro e w2 ⟨c, x, v, u, rfl, hc, _, _, hb⟩
      have HC : Hid (Crate w2 w.heap.size c v ((l.map plainI).take 100)) := hc
      have HB : Hid (Below w.heap.size w w2) := hb
      have HS2 : Hid (hasThs w2 oa l) := hasThs_below HS.out hb
      clear hc hb HS HD
      go_wp2_with fail
      refine (made_any _ _ _ l _ HN.out HS2.out h3000 HZ.out).mono ?_
      rintro e w3 ⟨d, y, v', u', rfl, hd, _, _, hb⟩
      have HD3 : Hid (Crate w3 w2.heap.size d v' ((l.map plainI).take 100)) := hd
      have HC3 : Hid (Crate w3 w.heap.size c v ((l.map plainI).take 100)) := ⟨HC.out.1.below hb, HC.out.2⟩
      have HB3 : Hid (Below w.heap.size w w3) := HB.out.trans (hb.mono HB.out.size)
      have HAP : Hid (Apart c v d v') := fun k h h' => by
        have := (HC.out.1.lt h).2
        have := (hd.1.lt h').1
        omega
      have HE : Hid (((l.map plainI).take 100).length = n) := by rw [Hid, List.length_take, List.length_map, HN.out]; omega
      clear hd hb HS2 HC
      generalize (l.map plainI).take 100 = its at *
      have HP : Hid (put its ((.inl m)) = its ++ [(.inl m)]) := by rw [Hid, put, if_pos (by rw [HE.out]; omega)]
      have HF : Hid (decide (its.length < 100) = true) := by rw [Hid, HE.out]; simp; omega
      have HE2 : Hid ((its ++ [(Sum.inl m : It)]).length = n + 1) := by rw [Hid, List.length_append, HE.out]; rfl
      go_wp2_with fail
      refine (same_yes _ _ its _ HC3.out.reads HD3.out.reads).mono ?_
      rintro e w4 ⟨rfl, hw⟩
      obtain rfl := hw.symm
      go_wp2_with fail
      refine (addInt_any m its _ _ _ _ HC3.out).mono ?_
      rw [HP.out, HF.out]
      rintro e w4 ⟨v4, rfl, h4, t4⟩
      obtain ⟨d4, a4⟩ := HD3.out.1.other t4 HAP.out
      have HC4 : Hid (Crate w4 w.heap.size c v4 (its ++ [(.inl m)])) := h4
      have HD4 : Hid (Crate w4 w2.heap.size d v' its) := ⟨d4, HD3.out.2⟩
      have HA4 : Hid (Apart c v4 d v') := a4
      have HB4 : Hid (Below w.heap.size w w4) := HB3.out.trans (HC3.out.1.turnBelow t4)
      clear h4 t4 d4 a4
      go_wp2_with fail
      refine (same_no _ _ its ((.inl m)) _ HC4.out.reads HD4.out.reads).mono ?_
      rintro e w5 ⟨rfl, hw⟩
      obtain rfl := hw.symm
      go_wp2_with fail
      refine (len_any _ its _ HD4.out.reads).mono ?_
      rw [HE.out]
      rintro e w5 ⟨rfl, hw⟩
      obtain rfl := hw.symm
      go_wp2_with fail
      refine (len_any _ (its ++ [(.inl m)]) _ HC4.out.reads).mono ?_
      rw [HE2.out]
      rintro e w5 ⟨rfl, hw⟩
      obtain rfl := hw.symm
      go_wp2_with fail
      refine (addInt_any m its _ _ _ _ HD4.out).mono ?_
      rw [HP.out, HF.out]
      rintro e w5 ⟨v5, rfl, h5, t5⟩
      obtain ⟨c5, a5⟩ := HC4.out.1.other t5 HA4.out.symm
      have HC5 : Hid (Crate w5 w.heap.size c v4 (its ++ [(.inl m)])) := ⟨c5, HC4.out.2⟩
      have HD5 : Hid (Crate w5 w2.heap.size d v5 (its ++ [(.inl m)])) := h5
      have HB5 : Hid (Below w.heap.size w w5) := HB4.out.trans ((HD4.out.1.turnBelow t5).mono HB.out.size)
      clear h5 t5 c5 a5
      go_wp2_with fail
      refine (same_yes _ _ (its ++ [(.inl m)]) _ HC5.out.reads HD5.out.reads).mono ?_
      rintro e w6 ⟨rfl, hw⟩
      obtain rfl := hw.symm
      go_wp2_with fail
      refine (known_any _).mono ?_
      rintro e w6 ⟨rfl, hb6⟩
      go_wp2
      go_ret
      exact ⟨rfl, HB5.out.trans (hb6.mono HB5.out.size)⟩

theorem own : ownKnob Try.prog.godebug = none := by kernel_rfl

set_option maxRecDepth 100000 in
theorem lifted (os : Os) (started : os.Started) (H : Type) (enc : TypeId × Value → H) :
    ReturnsInHanded {} Try.checked os 4 .any (Rows.crateApartSpec.pre6 enc Try.prog Try.f4 Rows.crateApartRow.domain false) (Rows.crateApartSpec.post enc Try.prog Try.f4 false true false false) := by
  refine returnsInHanded_of_change_sized (C := Try.checked) own started (by kernel_rfl) Try.func4
    (ChangeSpec.witness6 (enc := enc) (C := Try.checked) false ⟨#[], #[.slice none 0 0, .int .i64 0], []⟩ 8 (by kernel_rfl) (by kernel_rfl) (by kernel_rfl) (by kernel_rfl)) ?_
  intro W base args ds gs before hval0 hW _ hsz0 _
  have hval : ∀ (j : Nat) t v, Try.f4.params[j]? = some t → args[j]? = some v → Value.okWide Try.prog W .any base t v := hval0
  have hsz : (DataW.weightsEach Try.prog (Try.f4.params.toList ++ Rows.crateApartSpec.plain.varTypes Try.prog) (ds ++ gs)).all (· ≤ reachBytes) = true := hsz0
  have hW' := hW
  obtain ⟨p, q, hA0, hV, rfl, _, _⟩ := hW
  have hA : DataW.TrodAll enc Try.prog W 0 (fun _ => true) true Try.f4.params.toList args.toList ds p := hA0
  rw [Try.params4] at hA hval hsz
  obtain ⟨v0, vs0, d0, ds0, p0, q0, hargs, rfl, rfl, h0, r0⟩ := trodAll_cons hA
  obtain ⟨v1, vs1, d1, ds1, p1, q1, rfl, rfl, rfl, h1, r1⟩ := trodAll_cons r0
  obtain ⟨rfl, rfl, rfl⟩ := trodAll_nil r1
  obtain rfl : args = #[v0, v1] := by cases args; simp_all
  obtain ⟨rfl, rfl⟩ := trodVars_none hV
  have k0 := h0
  have lt0 : ∀ x ∈ p0, x.block < W.heap.size := by obtain ⟨m, hm⟩ := k0; exact DataW.trod_lt m _ _ _ hm
  have g0 := weights_at hsz (j := 0) (t := 22) rfl rfl
  obtain ⟨o0, len0, cap0, rfl⟩ := okWide_slice Try.underlying22 (hval 0 22 v0 rfl rfl)
  obtain ⟨z0, e0, m0, s0, y0⟩ : ∃ l : List Th, l.length = len0 ∧ len0 ≤ 140737488355328 ∧ hasThs W o0 l ∧ ∀ y ∈ l, y.s.size ≤ 140737488355328 := by
    obtain ⟨fuel, hf⟩ := h0
    exact open_things hf g0
  obtain ⟨a1, rfl, rfl, rfl, w1⟩ := open_int Try.underlying3 (hval 1 3 v1 rfl rfl) h1
  clear hA0 hval0
  refine (walk W o0 len0 cap0 z0 e0 m0 s0 y0 a1 w1).mono fun e W' ⟨he, bel⟩ => ?_
  subst he
  exact ⟨_, rfl, _, _, _, [], _, [], hW', trodAll_mk1 (shut_bool Try.underlying4 _), (trodAll_cons_mk (Below.trod laidOut (by kernel_rfl) (of_decide_eq_true (by kernel_rfl)) k0 bel lt0) (trodAll_cons_mk (shut_int Try.underlying3 w1) trodAll_mk0)), rfl, bel.frame _, fun h => by cases h⟩

theorem over : Rows.crateApartRow.holds Try.pinned (OpenSpec.ofChange Rows.crateApartSpec) :=
  OpenClaim.holds_of_wide 4 Try.f4 rfl rfl rfl rfl rfl rfl rfl ⟨rfl, rfl, rfl, rfl, rfl⟩ rfl rfl rfl rfl rfl (by kernel_rfl) Try.func4 (by kernel_rfl)
    (of_decide_eq_true (by kernel_rfl)) (by unfold Func.isWrapper; first | (rw [if_pos (by decide +kernel)]; kernel_rfl) | (rw [if_neg (by decide +kernel)]; exact ⟨rfl, rfl⟩))
    (fun os started H enc _ => lifted os started H enc)


end Go.Proofs.Ytfkolpijnflpcab.crateApart
namespace Go.Proofs.Ytfkolpijnflpcab
theorem crateApart_holds : Rows.CrateApartSaid := crateApart.over
#print axioms crateApart_holds
end Go.Proofs.Ytfkolpijnflpcab
