/-
  Of every row of raw things and every raw thing: CrateBehind returns true. No condition.
-/
import Derived.Test.YtfkolpijnflpcabRows
import Derived.Test.YtfkolpijnflpcabCrMade
import Derived.Test.YtfkolpijnflpcabCrTells
import Derived.Test.YtfkolpijnflpcabCrOpen
import Derived.Test.YtfkolpijnflpcabCrExt
import Derived.WalkKit
import Derived.ProofKit
import Derived.OpenShut
import Derived.ShutString
import Derived.ChangeOld
import Derived.Below
import Derived.SizedLaws
namespace Go.Proofs.Ytfkolpijnflpcab.crateBehind
open Go.ChangeShapes Go.WideShapes Go.ChangeAt Go.RowKit

theorem put_last (l : List Th) (t : Th) : put ((l.map plainI).take 100) (plainI t) = ((l ++ [t]).map plainI).take 100 := by
  have := put_take (l ++ [t]) l.length t (by simp)
  rw [List.take_left' rfl, show (l ++ [t]).take (l.length + 1) = l ++ [t] from List.take_of_length_le (by simp)] at this
  exact this
theorem plain_size (t : Th) (h : t.s.size ≤ 300) : (plainI t).th.s.size ≤ 281474976710656 := by
  rw [plainI]
  split
  · show (0 : Nat) ≤ _; omega
  · split
    · show t.s.size ≤ _; omega
    · show (0 : Nat) ≤ _; omega

set_option maxRecDepth 1000000 in
set_option maxHeartbeats 4000000 in
theorem walk (w : World) (oa : Option Addr) (n cap : Nat) (l : List Th) (hn : l.length = n) (hm : n ≤ 140737488355328) (hS : hasThs w oa l) (hz : ∀ y ∈ l, y.s.size ≤ 140737488355328) (t : Th) (ht : t.s.size ≤ 140737488355328) :
    Calls Try.prog 3 #[.slice oa n cap, .agg #[.int .i64 t.k, .int .i64 t.n, .string t.s, .bool t.b]] w fun e w' => e = .returned (.bool true) ∧ Below w.heap.size w w' := by
  obtain ⟨w1, hw1⟩ : ∃ w1, w1 = w.alloc (.cells #[.int .i64 t.k, .int .i64 t.n, .string t.s, .bool t.b] 24) := ⟨_, rfl⟩
  have hb1 : Below w.heap.size w w1 := by rw [hw1]; exact (Below.refl _ _).alloc (Nat.le_refl _) _
  have HN : Hid (l.length = n) := hn
  have HS : Hid (hasThs w1 oa l) := hasThs_below hS hb1
  have HZ : Hid (∀ y ∈ l, y.s.size ≤ 140737488355328) := hz
  have HB1 : Hid (Below w.heap.size w w1) := hb1
  have HW1 : Hid (w.alloc (.cells #[.int .i64 t.k, .int .i64 t.n, .string t.s, .bool t.b] 24) = w1) := hw1.symm
  have hk : w1.heap[w.heap.size]? = some (.cells #[.int .i64 t.k, .int .i64 t.n, .string t.s, .bool t.b] 24 (0, 0)) := by rw [hw1]; exact heap_alloc_new w _
  have HK : Hid (w1.heap[w.heap.size]? = some (.cells #[.int .i64 t.k, .int .i64 t.n, .string t.s, .bool t.b] 24 (0, 0))) := hk
  clear hn hS hz hw1 hb1 hk
  by_cases hlong : 3000 < sumTh l
  · have HD : Hid (decide (3000 < sumTh l) = true) := decide_eq_true hlong
    go_enter Try.func3, Try.ntmps3
    go_wp2_with fail
    rw [HW1.out]
    refine (long_any _ _ _ l _ HN.out HS.out hm HZ.out).mono ?_
    rw [HD.out]
    rintro e w2 ⟨rfl, hw⟩
    obtain rfl := hw.symm
    go_wp2
    go_ret
    exact ⟨rfl, HB1.out⟩
  · have HD : Hid (decide (3000 < sumTh l) = false) := decide_eq_false hlong
    have h3000 : n ≤ 3000 := by
      have := sumTh_len l
      have := HN.out
      omega
    clear hlong
    have hcs : w1.cell? ⟨w.heap.size, 2, none⟩ = some (.string t.s) := by simp [World.cell?, HK.out]
    by_cases h300 : 300 < t.s.size
    · have d0 : decide ((300 : Int) < (t.s.size : Int)) = true := by simp; omega
      go_enter Try.func3, Try.ntmps3
      go_wp2_with fail
      rw [HW1.out]
      refine (long_any _ _ _ l _ HN.out HS.out hm HZ.out).mono ?_
      rw [HD.out]
      rintro e w2 ⟨rfl, hw⟩
      obtain rfl := hw.symm
      go_wp2
      go_ret
      exact ⟨rfl, HB1.out⟩
    · have d0 : decide ((300 : Int) < (t.s.size : Int)) = false := by simp; omega
      by_cases h100 : 100 ≤ n
      · have d1 : decide ((100 : Int) ≤ (n : Int)) = true := by simp; omega
        go_enter Try.func3, Try.ntmps3
        go_wp2_with fail
        rw [HW1.out]
        refine (long_any _ _ _ l _ HN.out HS.out hm HZ.out).mono ?_
        rw [HD.out]
        rintro e w2 ⟨rfl, hw⟩
        obtain rfl := hw.symm
        go_wp2
        go_ret
        exact ⟨rfl, HB1.out⟩
      · have d1 : decide ((100 : Int) ≤ (n : Int)) = false := by simp; omega
        go_enter Try.func3, Try.ntmps3
        go_wp2_with fail
        rw [HW1.out]
        refine (long_any _ _ _ l _ HN.out HS.out hm HZ.out).mono ?_
        rw [HD.out]
        rintro e w2 ⟨rfl, hw⟩
        obtain rfl := hw.symm
        go_wp2_with fail
        refine (made_any _ _ _ l _ HN.out HS.out h3000 HZ.out).mono ?_
        rintro e w2 ⟨c, x, v, u, rfl, hc, hx, ha, hb⟩
        have HC : Hid (Crate w2 w1.heap.size c v ((l.map plainI).take 100)) := hc
        have HX : Hid (RefC w2 w1.heap.size x u (((l.map plainI).take 100).map It.th)) := hx
        have HA : Hid (Apart c v x u) := ha
        have HB : Hid (Below w1.heap.size w1 w2) := hb
        have HE : Hid (((l.map plainI).take 100).length = n) := by rw [Hid, List.length_take, List.length_map, HN.out]; omega
        have HPL : Hid (put ((l.map plainI).take 100) (plainI t) = ((l ++ [t]).map plainI).take 100) := put_last l t
        have HSM : Hid (Small (((l ++ [t]).map plainI).take 100)) := small_its _ (fun y hy => by
          rcases List.mem_append.1 hy with h | h
          · exact HZ.out y h
          · rw [List.mem_singleton.1 h]; exact ht)
        have HE2 : Hid ((((l ++ [t]).map plainI).take 100).length = n + 1) := by rw [Hid, List.length_take, List.length_map, List.length_append, HN.out]; simp; omega
        have hklt : w.heap.size < w1.heap.size := (Array.getElem?_eq_some_iff.1 HK.out).1
        have HK2 : Hid (w2.heap[w.heap.size]? = some (.cells #[.int .i64 t.k, .int .i64 t.n, .string t.s, .bool t.b] 24 (0, 0))) := (hb.block _ hklt).trans HK.out
        have k0 : w2.cell? ⟨w.heap.size, 0, none⟩ = some (.int .i64 t.k) := by simp [World.cell?, HK2.out]
        have k1 : w2.cell? ⟨w.heap.size, 1, none⟩ = some (.int .i64 t.n) := by simp [World.cell?, HK2.out]
        have k2 : w2.cell? ⟨w.heap.size, 2, none⟩ = some (.string t.s) := by simp [World.cell?, HK2.out]
        have k3 : w2.cell? ⟨w.heap.size, 3, none⟩ = some (.bool t.b) := by simp [World.cell?, HK2.out]
        have HPS : Hid ((plainI t).th.s.size ≤ 281474976710656) := plain_size t (by omega)
        have HPT : Hid (plainI (plainI t).th = plainI t) := plainI_th _
        clear hc hx ha hb HS HD
        generalize (l.map plainI).take 100 = its at *
        generalize ((l ++ [t]).map plainI).take 100 = jts at *
        have HF : Hid (decide (its.length < 100) = true) := by rw [Hid, HE.out]; simp; omega
        go_wp2_with fail
        refine (plain_any t _).mono ?_
        generalize hth : (plainI t).th = th at *
        rintro e w3 ⟨rfl, hb3⟩
        have HC3 : Hid (Crate w3 w1.heap.size c v its) := ⟨HC.out.1.below hb3, HC.out.2⟩
        have HX3 : Hid (RefC w3 w1.heap.size x u (its.map It.th)) := ⟨HX.out.1.below hb3, HX.out.2⟩
        have HB3 : Hid (Below w1.heap.size w1 w3) := HB.out.trans (hb3.mono HB.out.size)
        have HTH : Hid ((plainI t).th = th) := hth
        clear hb3 HC HX HB hth
        go_wp2_with fail
        refine (addT_any th its _ _ _ _ HC3.out HPS.out).mono ?_
        rw [HF.out, HPT.out, HPL.out]
        rintro e w4 ⟨v4, rfl, h4, t4⟩
        obtain ⟨x4, a4⟩ := HX3.out.1.other t4 HA.out
        have HC4 : Hid (Crate w4 w1.heap.size c v4 jts) := h4
        have HX4 : Hid (RefC w4 w1.heap.size x u (its.map It.th)) := ⟨x4, HX3.out.2⟩
        have HA4 : Hid (Apart c v4 x u) := a4
        have HB4 : Hid (Below w1.heap.size w1 w4) := HB3.out.trans (HC3.out.1.turnBelow t4)
        have HK4 : Hid (w4.heap[w.heap.size]? = some (.cells #[.int .i64 t.k, .int .i64 t.n, .string t.s, .bool t.b] 24 (0, 0))) := (HB4.out.block _ hklt).trans HK.out
        have k0' : w4.cell? ⟨w.heap.size, 0, none⟩ = some (.int .i64 t.k) := by simp [World.cell?, HK4.out]
        have k1' : w4.cell? ⟨w.heap.size, 1, none⟩ = some (.int .i64 t.n) := by simp [World.cell?, HK4.out]
        have k2' : w4.cell? ⟨w.heap.size, 2, none⟩ = some (.string t.s) := by simp [World.cell?, HK4.out]
        have k3' : w4.cell? ⟨w.heap.size, 3, none⟩ = some (.bool t.b) := by simp [World.cell?, HK4.out]
        clear h4 t4 x4 a4 k0 k1 k2 k3 HC3 HX3 HB3
        go_wp2_with fail
        refine (plain_any t _).mono ?_
        rw [HTH.out]
        rintro e w5 ⟨rfl, hb5⟩
        have HC5 : Hid (Crate w5 w1.heap.size c v4 jts) := ⟨HC4.out.1.below hb5, HC4.out.2⟩
        have HX5 : Hid (RefC w5 w1.heap.size x u (its.map It.th)) := ⟨HX4.out.1.below hb5, HX4.out.2⟩
        have HB5 : Hid (Below w1.heap.size w1 w5) := HB4.out.trans (hb5.mono HB4.out.size)
        clear hb5 HC4 HX4 HB4 k0' k1' k2' k3'
        go_wp2_with fail
        refine (refAdd_any th _ _ _ _ _ HX5.out).mono ?_
        rintro e w6 ⟨u6, rfl, h6, t6⟩
        have e6 : putT (its.map It.th) th = jts.map It.th := by rw [← HTH.out, putT_map, HPL.out]
        rw [e6] at h6
        obtain ⟨c6, a6⟩ := HC5.out.1.other t6 HA4.out.symm
        have HC6 : Hid (Reads w6 (.pointer (some ⟨c, 0, none⟩)) jts) := Crate.reads ⟨c6, HC5.out.2⟩
        have HX6 : Hid (ReadsT w6 (.pointer (some ⟨x, 0, none⟩)) (jts.map It.th)) := h6.reads
        have HB6 : Hid (Below w.heap.size w w6) := HB1.out.trans ((HB5.out.trans (HX5.out.1.turnBelow t6)).mono HB1.out.size)
        clear h6 t6 c6 a6 e6 HC5 HX5 HB5
        obtain ⟨x', oa', cap', hxe, hcell, _, hlen, _⟩ := HX6.out
        simp only [Value.pointer.injEq, Option.some.injEq, Addr.mk.injEq, and_true] at hxe
        subst hxe
        rw [List.length_map, HE2.out] at hcell
        go_wp2
        go_loopw [7] (fun i wr => ∃ k : Nat, i = .int .i64 k ∧ k ≤ n + 1 ∧ Below w6.heap.size w6 wr) (fun i _ => n + 1 - (intOf i).toNat)
        case atStart => exact ⟨0, rfl, by omega, Below.refl _ _⟩
        case round =>
          obtain ⟨k, rfl, hk, hbr⟩ := hrel
          have HBR : Hid (Below w6.heap.size w6 wr) := hbr
          have hcell2 : wr.cell? ⟨x, 0, none⟩ = some (.slice oa' (n + 1) cap') := (hbr.cell (p := ⟨x, 0, none⟩) (World.block_lt_of_cell? w6 _ hcell)).trans hcell
          clear hbr hcell
          by_cases hlt : k < n + 1
          · have hki : decide ((k : Int) < (n : Int) + 1) = true := by simp; omega
            go_wp2_with fail
            refine (tells_any _ _ jts _ _ (HC6.out.below HBR.out) (HX6.out.below HBR.out) HSM.out).mono ?_
            rintro e w7 ⟨rfl, hb7⟩
            have HB7 : Hid (Below w6.heap.size w6 w7) := HBR.out.trans (hb7.mono HBR.out.size)
            go_wp2
            go_roundw
            case rel => exact ⟨k + 1, by go_num, by omega, HB7.out⟩
            case measure => simp [intOf]; omega
          · have hki : decide ((k : Int) < (n : Int) + 1) = false := by simp; omega
            go_wp2_with fail
            have LN : Hid (∀ z : Ext wr, Calls Try.prog 12 #[.pointer (some ⟨c, 0, none⟩)] z.z fun e w' => e = .returned (.int .i64 ((n : Int) + 1)) ∧ w' = z.z) := fun z => by
              have := len_any _ jts _ ((HC6.out.below HBR.out).below z.h)
              rw [HE2.out, show (((n + 1 : Nat)) : Int) = (n : Int) + 1 from rfl] at this
              exact this
            have lx : ∀ z : Ext wr, z.z.cell? ⟨x, 0, none⟩ = some (.slice oa' (n + 1) cap') := ext_cell hcell2
            have hnn : ((n : Int) + 1 == (n : Int) + 1) = true := by simp
            haveI : Nonempty (Ext wr) := ⟨⟨wr, Below.refl _ _⟩⟩
            refine wp_region_ext (by kernel_rfl) (by kernel_rfl) ?_
            repeat (first | go_big_quiet_skip | (go_big_quiet_want; go_big_quiet_op; first | go_big_quiet_on | (apply Exists.intro; refine ⟨fun _ => ?_, ?_⟩; (first | (go_at_call 12; exact ext_of_same (LN.out _)) | (go_at_call 13; exact ext_of (known_any _)) ); go_big_quiet_on)))
            refine wpQuiet_nil ?_
            intro _ hw'
            obtain ⟨z, hw''⟩ := hw'
            subst hw''
            go_wp2
            go_ret
            exact ⟨rfl, (HB6.out.trans (HBR.out.mono HB6.out.size)).trans (z.h.mono (Nat.le_trans HB6.out.size HBR.out.size))⟩

theorem own : ownKnob Try.prog.godebug = none := by kernel_rfl

set_option maxRecDepth 100000 in
theorem lifted (os : Os) (started : os.Started) (H : Type) (enc : TypeId × Value → H) :
    ReturnsInHanded {} Try.checked os 3 .any (Rows.crateBehindSpec.pre6 enc Try.prog Try.f3 Rows.crateBehindRow.domain false) (Rows.crateBehindSpec.post enc Try.prog Try.f3 false true false false) := by
  refine returnsInHanded_of_change_sized (C := Try.checked) own started (by kernel_rfl) Try.func3
    (ChangeSpec.witness6 (enc := enc) (C := Try.checked) false ⟨#[], #[.slice none 0 0, .agg #[.int .i64 0, .int .i64 0, .string ByteArray.empty, .bool false]], []⟩ 8 (by kernel_rfl) (by kernel_rfl) (by kernel_rfl) (by kernel_rfl)) ?_
  intro W base args ds gs before hval0 hW _ hsz0 _
  have hval : ∀ (j : Nat) t v, Try.f3.params[j]? = some t → args[j]? = some v → Value.okWide Try.prog W .any base t v := hval0
  have hsz : (DataW.weightsEach Try.prog (Try.f3.params.toList ++ Rows.crateBehindSpec.plain.varTypes Try.prog) (ds ++ gs)).all (· ≤ reachBytes) = true := hsz0
  have hW' := hW
  obtain ⟨p, q, hA0, hV, rfl, _, _⟩ := hW
  have hA : DataW.TrodAll enc Try.prog W 0 (fun _ => true) true Try.f3.params.toList args.toList ds p := hA0
  rw [Try.params3] at hA hval hsz
  obtain ⟨v0, vs0, d0, ds0, p0, q0, hargs, rfl, rfl, h0, r0⟩ := trodAll_cons hA
  obtain ⟨v1, vs1, d1, ds1, p1, q1, rfl, rfl, rfl, h1, r1⟩ := trodAll_cons r0
  obtain ⟨rfl, rfl, rfl⟩ := trodAll_nil r1
  obtain rfl : args = #[v0, v1] := by cases args; simp_all
  obtain ⟨rfl, rfl⟩ := trodVars_none hV
  have k0 := h0
  have lt0 : ∀ x ∈ p0, x.block < W.heap.size := by obtain ⟨m, hm⟩ := k0; exact DataW.trod_lt m _ _ _ hm
  have g0 := weights_at hsz (j := 0) (t := 22) rfl rfl
  obtain ⟨o0, len0, cap0, rfl⟩ := okWide_slice Try.underlying22 (hval 0 22 v0 rfl rfl)
  obtain ⟨z0, e0, m0, s0, y0⟩ : ∃ l : List Th, l.length = len0 ∧ len0 ≤ 140737488355328 ∧ hasThs W o0 l ∧ ∀ y ∈ l, y.s.size ≤ 140737488355328 := by
    obtain ⟨fuel, hf⟩ := h0
    exact open_things hf g0
  have k1 := h1
  have lt1 : ∀ x ∈ p1, x.block < W.heap.size := by obtain ⟨m, hm⟩ := k1; exact DataW.trod_lt m _ _ _ hm
  have g1 := weights_at hsz (j := 1) (t := 24) rfl rfl
  obtain ⟨z1, rfl, y1⟩ := open_thing (hval 1 24 v1 rfl rfl) h1 g1
  clear hA0 hval0
  refine (walk W o0 len0 cap0 z0 e0 m0 s0 y0 z1 y1).mono fun e W' ⟨he, bel⟩ => ?_
  subst he
  exact ⟨_, rfl, _, _, _, [], _, [], hW', trodAll_mk1 (shut_bool Try.underlying4 _), (trodAll_cons_mk (Below.trod laidOut (by kernel_rfl) (of_decide_eq_true (by kernel_rfl)) k0 bel lt0) (trodAll_cons_mk (Below.trod laidOut (by kernel_rfl) (of_decide_eq_true (by kernel_rfl)) k1 bel lt1) trodAll_mk0)), rfl, bel.frame _, fun h => by cases h⟩

theorem over : Rows.crateBehindRow.holds Try.pinned (OpenSpec.ofChange Rows.crateBehindSpec) :=
  OpenClaim.holds_of_wide 3 Try.f3 rfl rfl rfl rfl rfl rfl rfl ⟨rfl, rfl, rfl, rfl, rfl⟩ rfl rfl rfl rfl rfl (by kernel_rfl) Try.func3 (by kernel_rfl)
    (of_decide_eq_true (by kernel_rfl)) (by unfold Func.isWrapper; first | (rw [if_pos (by decide +kernel)]; kernel_rfl) | (rw [if_neg (by decide +kernel)]; exact ⟨rfl, rfl⟩))
    (fun os started H enc _ => lifted os started H enc)


end Go.Proofs.Ytfkolpijnflpcab.crateBehind
namespace Go.Proofs.Ytfkolpijnflpcab
theorem crateBehind_holds : Rows.CrateBehindSaid := crateBehind.over
#print axioms crateBehind_holds
end Go.Proofs.Ytfkolpijnflpcab
