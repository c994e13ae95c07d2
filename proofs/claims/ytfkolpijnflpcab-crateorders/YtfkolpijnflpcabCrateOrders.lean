/-
  Of every two raw things: CrateOrders returns true. No condition.
-/
import Derived.Test.YtfkolpijnflpcabRows
import Derived.Test.YtfkolpijnflpcabCrMade
import Derived.Test.YtfkolpijnflpcabCrOpen
import Derived.Test.YtfkolpijnflpcabCrExt
import Derived.Deep.Cut
import Derived.Deep.RegionHeld
import Derived.WalkKit
import Derived.ProofKit
import Derived.OpenShut
import Derived.ShutString
import Derived.ChangeOld
import Derived.Below
import Derived.SizedLaws
namespace Go.Proofs.Ytfkolpijnflpcab.crateOrders
open Go.ChangeShapes Go.WideShapes Go.ChangeAt Go.RowKit

/-- A raw thing in a block of its own. -/
def lies (w : World) (b : Nat) (t : Th) : Prop := w.cell? ⟨b, 0, none⟩ = some (.int .i64 t.k) ∧ w.cell? ⟨b, 1, none⟩ = some (.int .i64 t.n) ∧ w.cell? ⟨b, 2, none⟩ = some (.string t.s) ∧ w.cell? ⟨b, 3, none⟩ = some (.bool t.b)
theorem lies_below {w w' : World} {b : Nat} {t : Th} (h : lies w b t) (hb : Below w.heap.size w w') : lies w' b t := by
  obtain ⟨k1, k2, k3, k4⟩ := h
  have hlt := World.block_lt_of_cell? w _ k1
  have hlt' : ∀ o, (⟨b, o, none⟩ : Addr).block < w.heap.size := fun _ => hlt
  exact ⟨(hb.cell (hlt' _)).trans k1, (hb.cell (hlt' _)).trans k2, (hb.cell (hlt' _)).trans k3, (hb.cell (hlt' _)).trans k4⟩

theorem both_lie {w w' : World} {b c : Nat} {s t : Th} (h : lies w b s) (k : lies w c t) (hb : Below w.heap.size w w') :
    (w'.cell? ⟨b, 0, none⟩ = some (.int .i64 s.k) ∧ w'.cell? ⟨b, 1, none⟩ = some (.int .i64 s.n) ∧ w'.cell? ⟨b, 2, none⟩ = some (.string s.s) ∧ w'.cell? ⟨b, 3, none⟩ = some (.bool s.b)) ∧ w'.cell? ⟨c, 0, none⟩ = some (.int .i64 t.k) ∧ w'.cell? ⟨c, 1, none⟩ = some (.int .i64 t.n) ∧ w'.cell? ⟨c, 2, none⟩ = some (.string t.s) ∧ w'.cell? ⟨c, 3, none⟩ = some (.bool t.b) :=
  ⟨lies_below h hb, lies_below k hb⟩

theorem two_ths (w : World) (x y : Th) : hasThs (w.alloc (.cells #[.int .i64 x.k, .int .i64 x.n, .string x.s, .bool x.b, .int .i64 y.k, .int .i64 y.n, .string y.s, .bool y.b] 24)) (some ⟨w.heap.size, 0, none⟩) [x, y] := by
  intro j z hj
  match j, hj with
  | 0, hj => simp at hj; subst hj; exact ⟨_, _, rfl, by simp, by simp, by simp, by simp⟩
  | 1, hj => simp at hj; subst hj; exact ⟨_, _, rfl, by simp, by simp, by simp, by simp⟩
theorem two_small {x y : Th} (hx : x.s.size ≤ 140737488355328) (hy : y.s.size ≤ 140737488355328) : ∀ z ∈ [x, y], z.s.size ≤ 140737488355328 := by
  intro z hz
  simp at hz
  rcases hz with rfl | rfl
  · exact hx
  · exact hy

set_option maxRecDepth 1000000 in
set_option maxHeartbeats 1000000 in
theorem plain_at (t : Th) (w : World) :
    Calls Try.prog 9 #[.agg #[.int .i64 t.k, .int .i64 t.n, .string t.s, .bool t.b]] w fun e w' => e = .returned (.agg #[.int .i64 (plainI t).th.k, .int .i64 (plainI t).th.n, .string (plainI t).th.s, .bool (plainI t).th.b]) ∧
      w' = (w.alloc (.cells #[.int .i64 t.k, .int .i64 t.n, .string t.s, .bool t.b] 24)).alloc (.cells #[.int .i64 (plainI t).th.k, .int .i64 (plainI t).th.n, .string (plainI t).th.s, .bool (plainI t).th.b] 24) := by
  obtain ⟨k, n, s, b⟩ := t
  by_cases h1 : k = 1
  · subst h1
    go_enter Try.func9, Try.ntmps9
    go_wp2
    refine bodyPost_ret (v := .agg #[.int .i64 1, .int .i64 n, .string ⟨#[]⟩, .bool false]) (by simp [results, Try.results9, go_sem]) rfl ⟨rfl, rfl⟩
  · by_cases h2 : k = 2
    · subst h2
      go_enter Try.func9, Try.ntmps9
      go_wp2
      refine bodyPost_ret (v := .agg #[.int .i64 2, .int .i64 0, .string s, .bool false]) (by simp [results, Try.results9, go_sem]) rfl ⟨rfl, rfl⟩
    · have e1 : (k == 1) = false := by simp [h1]
      have e2 : (k == 2) = false := by simp [h2]
      have e3 : plainI ⟨k, n, s, b⟩ = (.inr (.inr b)) := by simp [plainI, h1, h2]
      rw [e3]
      clear h1 h2 e3
      go_enter Try.func9, Try.ntmps9
      go_wp2
      refine bodyPost_ret (v := .agg #[.int .i64 3, .int .i64 0, .string ⟨#[]⟩, .bool b]) (by simp [results, Try.results9, go_sem]) rfl ⟨rfl, rfl⟩

set_option maxRecDepth 1000000 in
set_option maxHeartbeats 40000000 in
theorem walk (w : World) (s : Th) (hs : s.s.size ≤ 140737488355328) (t : Th) (ht : t.s.size ≤ 140737488355328) :
    Calls Try.prog 5 #[.agg #[.int .i64 s.k, .int .i64 s.n, .string s.s, .bool s.b], .agg #[.int .i64 t.k, .int .i64 t.n, .string t.s, .bool t.b]] w fun e w' => e = .returned (.bool true) ∧ Below w.heap.size w w' := by
  by_cases h300 : 300 < s.s.size + t.s.size
  · have d0 : decide ((300 : Int) < (s.s.size : Int) + (t.s.size : Int)) = true := by simp; omega
    go_enter Try.func5, Try.ntmps5
    go_wp2
    go_ret
    exact ⟨rfl, ((Below.refl _ _).alloc (Nat.le_refl _) _).alloc (by simp) _⟩
  · have d0 : decide ((300 : Int) < (s.s.size : Int) + (t.s.size : Int)) = false := by simp; omega
    obtain ⟨w1, hw1⟩ : ∃ w1, w1 = (w.alloc (.cells #[.int .i64 s.k, .int .i64 s.n, .string s.s, .bool s.b] 24)).alloc (.cells #[.int .i64 t.k, .int .i64 t.n, .string t.s, .bool t.b] 24) := ⟨_, rfl⟩
    have HW1 : Hid (_ = w1) := hw1.symm
    have HB1 : Hid (Below w.heap.size w w1) := by rw [hw1]; exact ((Below.refl _ _).alloc (Nat.le_refl _) _).alloc (by simp) _
    have LS : Hid (lies w1 w.heap.size s) := by rw [Hid, hw1]; exact ⟨by simp, by simp, by simp, by simp⟩
    have LT : Hid (lies w1 (w.heap.size + 1) t) := by rw [Hid, hw1]; exact ⟨by simp, by simp, by simp, by simp⟩
    clear hw1
    have PS : Hid (∀ W, Calls Try.prog 9 #[.agg #[.int .i64 s.k, .int .i64 s.n, .string s.s, .bool s.b]] W fun e w' => e = .returned (.agg #[.int .i64 (plainI s).th.k, .int .i64 (plainI s).th.n, .string (plainI s).th.s, .bool (plainI s).th.b]) ∧ w' = (W.alloc (.cells #[.int .i64 s.k, .int .i64 s.n, .string s.s, .bool s.b] 24)).alloc (.cells #[.int .i64 (plainI s).th.k, .int .i64 (plainI s).th.n, .string (plainI s).th.s, .bool (plainI s).th.b] 24)) := plain_at s
    have PT : Hid (∀ W, Calls Try.prog 9 #[.agg #[.int .i64 t.k, .int .i64 t.n, .string t.s, .bool t.b]] W fun e w' => e = .returned (.agg #[.int .i64 (plainI t).th.k, .int .i64 (plainI t).th.n, .string (plainI t).th.s, .bool (plainI t).th.b]) ∧ w' = (W.alloc (.cells #[.int .i64 t.k, .int .i64 t.n, .string t.s, .bool t.b] 24)).alloc (.cells #[.int .i64 (plainI t).th.k, .int .i64 (plainI t).th.n, .string (plainI t).th.s, .bool (plainI t).th.b] 24)) := plain_at t
    have QS : Hid (plainI (plainI s).th = plainI s) := plainI_th _
    have QT : Hid (plainI (plainI t).th = plainI t) := plainI_th _
    have ZS : Hid ((plainI s).th.s.size ≤ 140737488355328) := by
      rw [Hid, plainI]
      split
      · show (0 : Nat) ≤ _; omega
      · split
        · show s.s.size ≤ _; omega
        · show (0 : Nat) ≤ _; omega
    have ZT : Hid ((plainI t).th.s.size ≤ 140737488355328) := by
      rw [Hid, plainI]
      split
      · show (0 : Nat) ≤ _; omega
      · split
        · show t.s.size ≤ _; omega
        · show (0 : Nat) ≤ _; omega
    have IJ : Hid ((plainI s).th.tup = (plainI t).th.tup ↔ plainI s = plainI t) := ⟨fun h => by have := congrArg plainI (tup_inj h); rw [plainI_th, plainI_th] at this; exact this, fun h => by rw [h]⟩
    generalize (plainI s).th = X at *
    generalize (plainI t).th = Y at *
    go_enter Try.func5, Try.ntmps5
    go_upto_region 3 with fail
    rw [HW1.out]
    go_cut [5, 6] from 11 (fun sx sy wc => ∃ bx bz, sx = .pointer (some ⟨bx, 0, none⟩) ∧ sy = .pointer (some ⟨bz, 0, none⟩) ∧ lies wc bx X ∧ lies wc bz Y ∧ Below w.heap.size w wc)
    case first =>
      obtain ⟨s0, s1, s2, s3⟩ := LS.out
      obtain ⟨t0, t1, t2, t3⟩ := LT.out
      clear h300 d0 hs ht
      go_region_held (fun w' => (w'.cell? ⟨w.heap.size, 0, none⟩ = some (.int .i64 s.k) ∧ w'.cell? ⟨w.heap.size, 1, none⟩ = some (.int .i64 s.n) ∧ w'.cell? ⟨w.heap.size, 2, none⟩ = some (.string s.s) ∧ w'.cell? ⟨w.heap.size, 3, none⟩ = some (.bool s.b)) ∧ w'.cell? ⟨w.heap.size + 1, 0, none⟩ = some (.int .i64 t.k) ∧ w'.cell? ⟨w.heap.size + 1, 1, none⟩ = some (.int .i64 t.n) ∧ w'.cell? ⟨w.heap.size + 1, 2, none⟩ = some (.string t.s) ∧ w'.cell? ⟨w.heap.size + 1, 3, none⟩ = some (.bool t.b)) (exact both_lie LS.out LT.out (by repeat' (first | exact Below.refl _ _ | refine Below.drew ?_ | refine Below.alloc ?_ ?_ _ | refine Below.setCell ?_ ?_ _ | (simp; done) | (simp; omega)))) (first
        | (go_at_call_of 9 (Value.agg #[Value.int IntKind.i64 s.k, Value.int IntKind.i64 s.n, Value.string s.s, Value.bool s.b]); refine (PS.out _).mono ?_; rintro e w2 ⟨rfl, rfl⟩)
        | (go_at_call_of 9 (Value.agg #[Value.int IntKind.i64 t.k, Value.int IntKind.i64 t.n, Value.string t.s, Value.bool t.b]); refine (PT.out _).mono ?_; rintro e w3 ⟨rfl, rfl⟩))
      all_goals
        go_wp2_with fail
        go_meet
        case rel =>
          refine ⟨_, _, rfl, rfl, ⟨by go_simp, by go_simp, by go_simp, by go_simp⟩, ⟨by go_simp, by go_simp, by go_simp, by go_simp⟩, ?_⟩
          refine HB1.out.trans (Below.mono (B := w1.heap.size) ?_ HB1.out.size)
          repeat' (first | exact Below.refl _ _ | refine Below.drew ?_ | refine Below.alloc ?_ ?_ _ | refine Below.setCell ?_ ?_ _ | (simp; done) | (simp; omega))
    case rest =>
      obtain ⟨bx, bz, rfl, rfl, lx, ly, hbc⟩ := hcut
      have LX : Hid (lies wc bx X) := lx
      have LY : Hid (lies wc bz Y) := ly
      have HBC : Hid (Below w.heap.size w wc) := hbc
      obtain ⟨x0, x1, x2, x3⟩ := lx
      obtain ⟨y0, y1, y2, y3⟩ := ly
      clear hbc LS LT HB1 HW1 PS PT
      go_wp2_with fail
      refine (made_any _ 2 2 [X, Y] _ rfl (two_ths wc X Y) (by decide) (two_small ZS.out ZT.out)).mono ?_
      rintro e w2 ⟨c, _, v, _, rfl, hc, _, _, hb2⟩
      have hb1 : Below wc.heap.size wc (wc.alloc (.cells #[.int .i64 X.k, .int .i64 X.n, .string X.s, .bool X.b, .int .i64 Y.k, .int .i64 Y.n, .string Y.s, .bool Y.b] 24)) := (Below.refl _ _).alloc (Nat.le_refl _) _
      have hbw : Below wc.heap.size wc w2 := hb1.trans (hb2.mono hb1.size)
      have HC2 : Hid (Reads w2 (.pointer (some ⟨c, 0, none⟩)) [plainI s, plainI t]) := by
        have := hc.reads
        rw [show ([X, Y].map plainI).take 100 = [plainI s, plainI t] by simp [QS.out, QT.out]] at this
        exact this
      have HB2 : Hid (Below w.heap.size w w2) := HBC.out.trans (hbw.mono HBC.out.size)
      have LX2 : Hid (lies w2 bx X) := lies_below LX.out hbw
      have LY2 : Hid (lies w2 bz Y) := lies_below LY.out hbw
      obtain ⟨x0', x1', x2', x3'⟩ := LX2.out
      obtain ⟨y0', y1', y2', y3'⟩ := LY2.out
      clear hc hb1 hb2 hbw x0 x1 x2 x3 y0 y1 y2 y3 LX LY
      go_wp2_with fail
      refine (made_any _ 2 2 [Y, X] _ rfl (two_ths w2 Y X) (by decide) (two_small ZT.out ZS.out)).mono ?_
      rintro e w3 ⟨d, _, v', _, rfl, hd, _, _, hb3⟩
      have hb1 : Below w2.heap.size w2 (w2.alloc (.cells #[.int .i64 Y.k, .int .i64 Y.n, .string Y.s, .bool Y.b, .int .i64 X.k, .int .i64 X.n, .string X.s, .bool X.b] 24)) := (Below.refl _ _).alloc (Nat.le_refl _) _
      have hbw : Below w2.heap.size w2 w3 := hb1.trans (hb3.mono hb1.size)
      have HD3 : Hid (Reads w3 (.pointer (some ⟨d, 0, none⟩)) [plainI t, plainI s]) := by
        have := hd.reads
        rw [show ([Y, X].map plainI).take 100 = [plainI t, plainI s] by simp [QS.out, QT.out]] at this
        exact this
      have HC3 : Hid (Reads w3 (.pointer (some ⟨c, 0, none⟩)) [plainI s, plainI t]) := HC2.out.below hbw
      have HB3 : Hid (Below w.heap.size w w3) := HB2.out.trans (hbw.mono HB2.out.size)
      have LX3 : Hid (lies w3 bx X) := lies_below LX2.out hbw
      have LY3 : Hid (lies w3 bz Y) := lies_below LY2.out hbw
      have SD : Hid (decide ([plainI s, plainI t] = [plainI t, plainI s]) = decide (X.tup = Y.tup)) := by
        rw [Hid, Bool.eq_iff_iff, decide_eq_true_eq, decide_eq_true_eq, IJ.out]
        constructor
        · intro h; simp at h; exact h.1
        · intro h; rw [h]
      clear hd hb1 hb3 hbw HC2 LX2 LY2 x0' x1' x2' x3' y0' y1' y2' y3'
      have e1 := run_eqlT X Y
      have e2 := eqGuardT
      generalize hq : decide (X.tup = Y.tup) = q at *
      have SS : Hid (∀ z : Ext w3, Calls Try.prog 14 #[.pointer (some ⟨c, 0, none⟩), .pointer (some ⟨d, 0, none⟩)] z.z fun e w' => e = .returned (.bool q) ∧ w' = z.z) := fun z => by
        have := same_any _ _ _ _ _ (HC3.out.below z.h) (HD3.out.below z.h)
        rw [SD.out] at this
        exact this
      have m0 : ∀ z : Ext w3, z.z.cell? ⟨bx, 0, none⟩ = some (.int .i64 X.k) := ext_cell LX3.out.1
      have m1 : ∀ z : Ext w3, z.z.cell? ⟨bx, 1, none⟩ = some (.int .i64 X.n) := ext_cell LX3.out.2.1
      have m2 : ∀ z : Ext w3, z.z.cell? ⟨bx, 2, none⟩ = some (.string X.s) := ext_cell LX3.out.2.2.1
      have m3 : ∀ z : Ext w3, z.z.cell? ⟨bx, 3, none⟩ = some (.bool X.b) := ext_cell LX3.out.2.2.2
      have n0 : ∀ z : Ext w3, z.z.cell? ⟨bz, 0, none⟩ = some (.int .i64 Y.k) := ext_cell LY3.out.1
      have n1 : ∀ z : Ext w3, z.z.cell? ⟨bz, 1, none⟩ = some (.int .i64 Y.n) := ext_cell LY3.out.2.1
      have n2 : ∀ z : Ext w3, z.z.cell? ⟨bz, 2, none⟩ = some (.string Y.s) := ext_cell LY3.out.2.2.1
      have n3 : ∀ z : Ext w3, z.z.cell? ⟨bz, 3, none⟩ = some (.bool Y.b) := ext_cell LY3.out.2.2.2
      haveI : Nonempty (Ext w3) := ⟨⟨w3, Below.refl _ _⟩⟩
      clear hq SD HC3 HD3 LX3 LY3 IJ QS QT ZS ZT
      cases q
      all_goals
        go_wp2
        refine wp_region_ext (by kernel_rfl) (by kernel_rfl) ?_
        repeat (first | go_big_quiet_skip | (go_big_quiet_want; go_big_quiet_op; first | go_big_quiet_on | (apply Exists.intro; refine ⟨fun _ => ?_, ?_⟩; (first | (go_at_call 14; exact ext_of_same (SS.out _)) | (go_at_call 13; exact ext_of (known_any _)) ); go_big_quiet_on)))
        refine wpQuiet_nil ?_
        intro _ hw'
        obtain ⟨z, hw''⟩ := hw'
        subst hw''
        go_wp2
        go_ret
        exact ⟨rfl, HB3.out.trans (z.h.mono HB3.out.size)⟩

theorem own : ownKnob Try.prog.godebug = none := by kernel_rfl

set_option maxRecDepth 100000 in
theorem lifted (os : Os) (started : os.Started) (H : Type) (enc : TypeId × Value → H) :
    ReturnsInHanded {} Try.checked os 5 .any (Rows.crateOrdersSpec.pre6 enc Try.prog Try.f5 Rows.crateOrdersRow.domain false) (Rows.crateOrdersSpec.post enc Try.prog Try.f5 false true false false) := by
  refine returnsInHanded_of_change_sized (C := Try.checked) own started (by kernel_rfl) Try.func5
    (ChangeSpec.witness6 (enc := enc) (C := Try.checked) false ⟨#[], #[.agg #[.int .i64 0, .int .i64 0, .string ByteArray.empty, .bool false], .agg #[.int .i64 0, .int .i64 0, .string ByteArray.empty, .bool false]], []⟩ 8 (by kernel_rfl) (by kernel_rfl) (by kernel_rfl) (by kernel_rfl)) ?_
  intro W base args ds gs before hval0 hW _ hsz0 _
  have hval : ∀ (j : Nat) t v, Try.f5.params[j]? = some t → args[j]? = some v → Value.okWide Try.prog W .any base t v := hval0
  have hsz : (DataW.weightsEach Try.prog (Try.f5.params.toList ++ Rows.crateOrdersSpec.plain.varTypes Try.prog) (ds ++ gs)).all (· ≤ reachBytes) = true := hsz0
  have hW' := hW
  obtain ⟨p, q, hA0, hV, rfl, _, _⟩ := hW
  have hA : DataW.TrodAll enc Try.prog W 0 (fun _ => true) true Try.f5.params.toList args.toList ds p := hA0
  rw [Try.params5] at hA hval hsz
  obtain ⟨v0, vs0, d0, ds0, p0, q0, hargs, rfl, rfl, h0, r0⟩ := trodAll_cons hA
  obtain ⟨v1, vs1, d1, ds1, p1, q1, rfl, rfl, rfl, h1, r1⟩ := trodAll_cons r0
  obtain ⟨rfl, rfl, rfl⟩ := trodAll_nil r1
  obtain rfl : args = #[v0, v1] := by cases args; simp_all
  obtain ⟨rfl, rfl⟩ := trodVars_none hV
  have k0 := h0
  have lt0 : ∀ x ∈ p0, x.block < W.heap.size := by obtain ⟨m, hm⟩ := k0; exact DataW.trod_lt m _ _ _ hm
  have g0 := weights_at hsz (j := 0) (t := 24) rfl rfl
  obtain ⟨z0, rfl, y0⟩ := open_thing (hval 0 24 v0 rfl rfl) h0 g0
  have k1 := h1
  have lt1 : ∀ x ∈ p1, x.block < W.heap.size := by obtain ⟨m, hm⟩ := k1; exact DataW.trod_lt m _ _ _ hm
  have g1 := weights_at hsz (j := 1) (t := 24) rfl rfl
  obtain ⟨z1, rfl, y1⟩ := open_thing (hval 1 24 v1 rfl rfl) h1 g1
  clear hA0 hval0
  refine (walk W z0 y0 z1 y1).mono fun e W' ⟨he, bel⟩ => ?_
  subst he
  exact ⟨_, rfl, _, _, _, [], _, [], hW', trodAll_mk1 (shut_bool Try.underlying4 _), (trodAll_cons_mk (Below.trod laidOut (by kernel_rfl) (of_decide_eq_true (by kernel_rfl)) k0 bel lt0) (trodAll_cons_mk (Below.trod laidOut (by kernel_rfl) (of_decide_eq_true (by kernel_rfl)) k1 bel lt1) trodAll_mk0)), rfl, bel.frame _, fun h => by cases h⟩

theorem over : Rows.crateOrdersRow.holds Try.pinned (OpenSpec.ofChange Rows.crateOrdersSpec) :=
  OpenClaim.holds_of_wide 5 Try.f5 rfl rfl rfl rfl rfl rfl rfl ⟨rfl, rfl, rfl, rfl, rfl⟩ rfl rfl rfl rfl rfl (by kernel_rfl) Try.func5 (by kernel_rfl)
    (of_decide_eq_true (by kernel_rfl)) (by unfold Func.isWrapper; first | (rw [if_pos (by decide +kernel)]; kernel_rfl) | (rw [if_neg (by decide +kernel)]; exact ⟨rfl, rfl⟩))
    (fun os started H enc _ => lifted os started H enc)


end Go.Proofs.Ytfkolpijnflpcab.crateOrders
namespace Go.Proofs.Ytfkolpijnflpcab
theorem crateOrders_holds : Rows.CrateOrdersSaid := crateOrders.over
#print axioms crateOrders_holds
end Go.Proofs.Ytfkolpijnflpcab
