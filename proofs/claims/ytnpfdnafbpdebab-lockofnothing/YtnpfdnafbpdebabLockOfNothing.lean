/-
  Of any act: LockOfNothing returns true.
-/
import Derived.Test.YtnpfdnafbpdebabRows
import Derived.Test.YtnpfdnafbpdebabLkNil
import Derived.Test.YtnpfdnafbpdebabLyMix
import Derived.WalkKit
import Derived.ProofKit
import Derived.OpenShut
import Derived.ShutString
import Derived.ChangeOld
import Derived.Below
import Derived.SizedLaws
import Derived.PinnedBridge
import Derived.Lib.LaidU8T
import Derived.Lay
import Derived.LaidOnce
import Derived.SevenTiedAt
import Derived.Deep.DeepHandedRow
namespace Go.Proofs.Ytnpfdnafbpdebab.lockOfNothing
open Go.ChangeShapes Go.WideShapes Go.ChangeAt Go.RowKit

theorem laidOut : laidOutB Try.prog = true := by kernel_rfl
theorem six {α : Type} : ∀ (l : List α), l.length = 6 → ∃ a b c d e f, l = [a, b, c, d, e, f]
  | [a, b, c, d, e, f], _ => ⟨a, b, c, d, e, f, rfl⟩
theorem cell_slice {P : Program} {w : World} {base t e : Nat} {v : Value} (ht : P.underlying t = some (.slice e)) (h : Cell.okWide P w .any base t v) : ∃ a len cap, v = .slice a len cap := okWide_slice ht (show Value.okWide P w .any base t v by simp only [Value.okWide, ht]; exact h)
theorem underAct : Try.prog.underlying 30 = some (.struct (Try.prog.fieldsOf 30)) := by kernel_rfl
theorem cellsAct : Try.prog.cellsOf 30 = 6 := by kernel_rfl
theorem typesAct : Try.prog.cellTypes Try.prog.depth 30 = some [3, 22, 23, 3, 3, 28] := by kernel_rfl
set_option maxRecDepth 100000 in
theorem act_open {w : World} {base : Nat} {v : Value} (h : Value.okWide Try.prog w .any base 30 v) :
    ∃ (x0 x3 x4 : Value) (o1 o2 o5 : Option Addr) (n1 c1 n2 c2 n5 c5 : Nat), v = .agg #[x0, .slice o1 n1 c1, .slice o2 n2 c2, x3, x4, .slice o5 n5 c5] := by
  simp only [Value.okWide, underAct] at h
  obtain ⟨cs, rfl, hs, ts, hts, -, hall⟩ := h
  rw [cellsAct] at hs
  rw [typesAct] at hts
  obtain rfl := Option.some.inj hts
  obtain ⟨a, b, c, d, e, f, hl⟩ := six cs.toList (by simpa using hs)
  obtain rfl : cs = #[a, b, c, d, e, f] := Array.ext' hl
  clear hl hs hts
  obtain ⟨u1, hu1, h1⟩ := hall 1 b rfl
  obtain rfl := Option.some.inj hu1
  obtain ⟨u2, hu2, h2⟩ := hall 2 c rfl
  obtain rfl := Option.some.inj hu2
  obtain ⟨u5, hu5, h5⟩ := hall 5 f rfl
  obtain rfl := Option.some.inj hu5
  obtain ⟨o1, n1, c1, rfl⟩ := cell_slice Try.underlying22 h1
  obtain ⟨o2, n2, c2, rfl⟩ := cell_slice Try.underlying23 h2
  obtain ⟨o5, n5, c5, rfl⟩ := cell_slice Try.underlying28 h5
  exact ⟨_, _, _, _, _, _, _, _, _, _, _, _, rfl⟩

theorem wide_any (o1 o2 : Option Addr) (n1 c1 n2 c2 : Nat) (w : World) : Calls Try.prog 12 #[.agg #[.slice o1 n1 c1, .slice o2 n2 c2]] w fun e w' => e = .returned (.bool (decide (50 < n1) || decide (50 < n2))) ∧ Below w.heap.size w w' := by
  go_enter Try.func12, Try.ntmps12
  by_cases q1 : 50 < n1
  · have d1 : (50 : Int) < (n1 : Int) := by omega
    go_wp2
    go_ret
    exact ⟨by simp [q1], (by repeat' (with_reducible first | exact Below.refl _ _ | refine Below.drew ?_ | refine _root_.Go.below_drewN ?_ _ | refine Below.alloc ?_ ?_ _ | refine Below.setCell ?_ ?_ _ | exact Nat.le_refl _ | (simp; done) | (simp; omega)))⟩
  have d1 : ¬ (50 : Int) < (n1 : Int) := by omega
  by_cases q2 : 50 < n2
  · have d2 : (50 : Int) < (n2 : Int) := by omega
    go_wp2
    go_ret
    exact ⟨by simp, (by repeat' (with_reducible first | exact Below.refl _ _ | refine Below.drew ?_ | refine _root_.Go.below_drewN ?_ _ | refine Below.alloc ?_ ?_ _ | refine Below.setCell ?_ ?_ _ | exact Nat.le_refl _ | (simp; done) | (simp; omega)))⟩
  have d2 : ¬ (50 : Int) < (n2 : Int) := by omega
  go_wp2
  go_ret
  exact ⟨by simp, (by repeat' (with_reducible first | exact Below.refl _ _ | refine Below.drew ?_ | refine _root_.Go.below_drewN ?_ _ | refine Below.alloc ?_ ?_ _ | refine Below.setCell ?_ ?_ _ | exact Nat.le_refl _ | (simp; done) | (simp; omega)))⟩

theorem cells6 {W : World} {b : Nat} {a0 a1 a2 a3 a4 a5 : Value} {t : TypeId} (h : W.heap[b]? = some (.cells #[a0, a1, a2, a3, a4, a5] t (0, 0))) : W.cell? ⟨b, 0, none⟩ = some a0 ∧ W.cell? ⟨b, 1, none⟩ = some a1 ∧ W.cell? ⟨b, 2, none⟩ = some a2 ∧ W.cell? ⟨b, 3, none⟩ = some a3 ∧ W.cell? ⟨b, 4, none⟩ = some a4 ∧ W.cell? ⟨b, 5, none⟩ = some a5 := by
  refine ⟨?_, ?_, ?_, ?_, ?_, ?_⟩ <;> simp [World.cell?, h]

def longF (n1 n2 n5 : Nat) : Bool := decide (50 < n1) || decide (50 < n2) || decide (50 < n5)

set_option maxRecDepth 1000000 in
theorem long_any (b : Nat) (x0 x3 x4 : Value) (o1 o2 o5 : Option Addr) (n1 c1 n2 c2 n5 c5 : Nat) (w : World) (hb : w.heap[b]? = some (.cells #[x0, .slice o1 n1 c1, .slice o2 n2 c2, x3, x4, .slice o5 n5 c5] 30 (0, 0))) :
    Calls Try.prog 4 #[.slice (some ⟨b, 0, none⟩) 1 1] w fun e w' => e = .returned (.bool (longF n1 n2 n5)) ∧ Below w.heap.size w w' := by
  have HX : Hid (w.heap[b]? = some (.cells #[x0, .slice o1 n1 c1, .slice o2 n2 c2, x3, x4, .slice o5 n5 c5] 30 (0, 0))) := hb
  clear hb
  generalize hT : longF n1 n2 n5 = T
  have HT : Hid (T = (decide (50 < n1) || decide (50 < n2) || decide (50 < n5))) := hT.symm
  clear hT
  go_enter Try.func4, Try.ntmps4
  go_wp2
  go_loopg [3] 1 (fun gk i wr => (gk = 1 ∧ i = .int .i64 0 ∧ wr = w) ∨ (gk = 0 ∧ i = .int .i64 1 ∧ T = false ∧ Below w.heap.size w wr))
  case atStart => exact .inl ⟨rfl, rfl, rfl⟩
  case round =>
    rcases hrel with ⟨rfl, rfl, rfl⟩ | ⟨rfl, rfl, rfl, hbl⟩
    · obtain ⟨_, y1, y2, _, _, y5⟩ := cells6 HX.out
      go_wp2_with fail
      refine (wide_any o1 o2 n1 c1 n2 c2 _).mono ?_
      rintro e w2 ⟨rfl, hb2⟩
      have z5 := (hb2.cell (World.block_lt_of_cell? _ _ y5)).trans y5
      clear y1 y2 y5
      cases hw : (decide (50 < n1) || decide (50 < n2))
      · by_cases q5 : 50 < n5
        · have d5 : (50 : Int) < (n5 : Int) := by omega
          have HR : Hid (T = true) := by show _ = _; rw [HT.out, hw]; simp [q5]
          go_wp2
          go_ret
          exact ⟨by rw [HR.out]; rfl, hb2⟩
        · have d5 : ¬ (50 : Int) < (n5 : Int) := by omega
          have HR : Hid (T = false) := by show _ = _; rw [HT.out, hw]; simp [q5]
          go_wp2
          go_roundg 0
          case rel => exact .inr ⟨rfl, by go_num, HR.out, hb2⟩
          case measure => omega
      · have HR : Hid (T = true) := by show _ = _; rw [HT.out, hw]; rfl
        go_wp2
        go_ret
        exact ⟨by rw [HR.out]; rfl, hb2⟩
    · go_wp2
      go_ret
      exact ⟨rfl, hbl⟩

set_option maxRecDepth 1000000 in
set_option maxHeartbeats 16000000 in
theorem walk (w : World) (x0 x3 x4 : Value) (o1 o2 o5 : Option Addr) (n1 c1 n2 c2 n5 c5 : Nat) : Calls Try.prog 3 #[.agg #[x0, .slice o1 n1 c1, .slice o2 n2 c2, x3, x4, .slice o5 n5 c5]] w fun e w' => e = .returned (.bool true) ∧ Below w.heap.size w w' := by
  generalize hch : (w.alloc (.cells #[x0, .slice o1 n1 c1, .slice o2 n2 c2, x3, x4, .slice o5 n5 c5] 30)).alloc (.cells #[x0, .slice o1 n1 c1, .slice o2 n2 c2, x3, x4, .slice o5 n5 c5] 30) = w1
  have HB1 : Hid (Below w.heap.size w w1) := by show Below _ _ _; rw [← hch]; exact (by repeat' (with_reducible first | exact Below.refl _ _ | refine Below.drew ?_ | refine _root_.Go.below_drewN ?_ _ | refine Below.alloc ?_ ?_ _ | refine Below.setCell ?_ ?_ _ | exact Nat.le_refl _ | (simp; done) | (simp; omega)))
  have H0 : Hid (w1.heap[w.heap.size]? = some (.cells #[x0, .slice o1 n1 c1, .slice o2 n2 c2, x3, x4, .slice o5 n5 c5] 30 (0, 0))) := by show _ = _; rw [← hch]; exact blk_old (blk_new _ _)
  have H1 : Hid (w1.heap[w.heap.size + 1]? = some (.cells #[x0, .slice o1 n1 c1, .slice o2 n2 c2, x3, x4, .slice o5 n5 c5] 30 (0, 0))) := by show _ = _; rw [← hch]; exact blk_at1 _ _ _
  go_enter Try.func3, Try.ntmps3
  go_wp2_with fail
  clear hch
  refine (long_any _ x0 x3 x4 o1 o2 o5 n1 c1 n2 c2 n5 c5 w1 H1.out).mono ?_
  rintro e w2 ⟨rfl, hb2⟩
  have HB2 : Hid (Below w.heap.size w w2) := HB1.out.trans (hb2.mono HB1.out.size)
  have H02 : Hid (w2.heap[w.heap.size]? = some (.cells #[x0, .slice o1 n1 c1, .slice o2 n2 c2, x3, x4, .slice o5 n5 c5] 30 (0, 0))) := blk_below hb2 H0.out
  clear hb2 H0 H1 HB1
  cases longF n1 n2 n5
  · obtain ⟨y0, y1, y2, y3, y4, y5⟩ := cells6 H02.out
    go_wp2_with fail
    refine (nilCycle_any (.slice o1 n1 c1) (.slice o2 n2 c2) w2).mono ?_
    rintro e w3 ⟨rfl, hb3⟩
    have HB3 : Hid (Below w2.heap.size w2 w3) := hb3
    clear hb3 y0 y1 y2 y3 y4 y5
    have HB4 : Hid (Below w3.heap.size w3 (w3.alloc (.cells #[.slice none 0 0, .slice none 0 0] 35))) := by show Below _ _ _; exact (by repeat' (with_reducible first | exact Below.refl _ _ | refine Below.drew ?_ | refine _root_.Go.below_drewN ?_ _ | refine Below.alloc ?_ ?_ _ | refine Below.setCell ?_ ?_ _ | exact Nat.le_refl _ | (simp; done) | (simp; omega)))
    have H4 : Hid ((w3.alloc (.cells #[.slice none 0 0, .slice none 0 0] 35)).heap[w3.heap.size]? = some (.cells #[.slice none 0 0, .slice none 0 0] 35 (0, 0))) := blk_new _ _
    go_wp2_with fail
    generalize (w3.alloc (.cells #[.slice none 0 0, .slice none 0 0] 35)) = w4 at HB4 H4 ⊢
    refine (nilSafe_any w4).mono ?_
    rintro e w5 ⟨rfl, hb5⟩
    have HB5 : Hid (Below w4.heap.size w4 w5) := hb5
    clear hb5
    have HB6 : Hid (Below w5.heap.size w5 (w5.alloc (.cells #[.slice none 0 0, .slice none 0 0] 35))) := by show Below _ _ _; exact (by repeat' (with_reducible first | exact Below.refl _ _ | refine Below.drew ?_ | refine _root_.Go.below_drewN ?_ _ | refine Below.alloc ?_ ?_ _ | refine Below.setCell ?_ ?_ _ | exact Nat.le_refl _ | (simp; done) | (simp; omega)))
    have H6 : Hid ((w5.alloc (.cells #[.slice none 0 0, .slice none 0 0] 35)).heap[w5.heap.size]? = some (.cells #[.slice none 0 0, .slice none 0 0] 35 (0, 0))) := blk_new _ _
    go_wp2_with fail
    generalize (w5.alloc (.cells #[.slice none 0 0, .slice none 0 0] 35)) = w6 at HB6 H6 ⊢
    have HB23 : Hid (Below w2.heap.size w2 w4) := HB3.out.trans (HB4.out.mono HB3.out.size)
    have HB45 : Hid (Below w4.heap.size w4 w6) := HB5.out.trans (HB6.out.mono HB5.out.size)
    have HB26 : Hid (Below w2.heap.size w2 w6) := HB23.out.trans (HB45.out.mono HB23.out.size)
    have HBA : Hid (Below w.heap.size w w6) := HB2.out.trans (HB26.out.mono HB2.out.size)
    obtain ⟨_, y1, y2, y3, y4, y5⟩ := cells6 (blk_below HB26.out H02.out)
    obtain ⟨y6, y7⟩ := cells2 (blk_below HB45.out H4.out)
    obtain ⟨y8, y9⟩ := cells2 H6.out
    have f1 := ext_cell y1
    have f2 := ext_cell y2
    have f3 := ext_cell y3
    have f4 := ext_cell y4
    have f5 := ext_cell y5
    have f6 := ext_cell y6
    have f7 := ext_cell y7
    have f8 := ext_cell y8
    have f9 := ext_cell y9
    clear y1 y2 y3 y4 y5 y6 y7 y8 y9 HB3 HB4 H4 HB5 HB6 H6 HB23 HB45 HB26 H02 HB2
    haveI := ext_some w6
    have HD : Hid (Below w6.heap.size w6 w6.drew) := (Below.refl _ _).drew
    refine wp_region_mix_seq (C := fun W => ∃ y : Ext w6, W = y.z) [0, 1, 2, 3, 4, 5, 6, 7, 8, 9, 10, 11, 12, 13, 14, 15, 16, 17, 18, 19, 20, 21, 22, 23, 24, 25, 26, 27, 28, 29, 30, 31, 32, 33, 34, 35, 36, 37, 38, 39, 40, 41, 42, 43, 44] (by kernel_rfl) (by kernel_rfl) (by kernel_rfl) (by kernel_rfl) (by simp only [List.filterMap_cons, List.getElem?_toArray, List.getElem?_cons_zero, List.getElem?_cons_succ, List.filterMap_nil]; rfl) ⟨⟨_, (Below.refl _ _).drew⟩, rfl⟩ ?_
    (repeat (first | (with_reducible refine mix_read (by kernel_rfl) ?_; go_big_quiet_want; go_big_quiet_op; go_big_quiet_on; with_reducible refine wpQuiet_nil ?_) | (with_reducible refine mix_pass (by kernel_rfl) ?_; go_big_quiet_skip; with_reducible refine wpQuiet_nil ?_)))
    with_reducible refine mix_call (by kernel_rfl) (by kernel_rfl) ((nilCommand_any (.slice o1 n1 c1) (.slice o2 n2 c2) x3 x4 _).mono ?_) (by kernel_rfl)
    rintro e w7 ⟨rfl, hb⟩
    have HB7 : Hid (Below w6.heap.size w6 w7) := HD.out.trans (hb.mono HD.out.size)
    clear hb HD
    refine ⟨_, rfl, ⟨⟨_, HB7.out⟩, rfl⟩, ?_⟩
    simp only [Act.put, List.setIfInBounds_toArray, List.set_cons_zero, List.set_cons_succ]
    (repeat (first | (with_reducible refine mix_read (by kernel_rfl) ?_; go_big_quiet_want; go_big_quiet_op; go_big_quiet_on; with_reducible refine wpQuiet_nil ?_) | (with_reducible refine mix_pass (by kernel_rfl) ?_; go_big_quiet_skip; with_reducible refine wpQuiet_nil ?_)))
    with_reducible refine mix_call (by kernel_rfl) (by kernel_rfl) ((nilRoutes_any _).mono ?_) (by kernel_rfl)
    rintro e w8 ⟨rfl, rfl⟩
    refine ⟨_, rfl, ⟨⟨_, HB7.out⟩, rfl⟩, ?_⟩
    simp only [Act.put, List.setIfInBounds_toArray, List.set_cons_zero, List.set_cons_succ]
    (repeat (first | (with_reducible refine mix_read (by kernel_rfl) ?_; go_big_quiet_want; go_big_quiet_op; go_big_quiet_on; with_reducible refine wpQuiet_nil ?_) | (with_reducible refine mix_pass (by kernel_rfl) ?_; go_big_quiet_skip; with_reducible refine wpQuiet_nil ?_)))
    with_reducible refine mix_call (by kernel_rfl) (by kernel_rfl) ((nilHolder_any 0 _).mono ?_) (by kernel_rfl)
    rintro e w9 ⟨rfl, rfl⟩
    refine ⟨_, rfl, ⟨⟨_, HB7.out⟩, rfl⟩, ?_⟩
    simp only [Act.put, List.setIfInBounds_toArray, List.set_cons_zero, List.set_cons_succ]
    (repeat (first | (with_reducible refine mix_read (by kernel_rfl) ?_; go_big_quiet_want; go_big_quiet_op; go_big_quiet_on; with_reducible refine wpQuiet_nil ?_) | (with_reducible refine mix_pass (by kernel_rfl) ?_; go_big_quiet_skip; with_reducible refine wpQuiet_nil ?_)))
    with_reducible refine mix_call (by kernel_rfl) (by kernel_rfl) ((nilSet_any (.slice o5 n5 c5) _).mono ?_) (by kernel_rfl)
    rintro e w10 ⟨rfl, rfl⟩
    refine ⟨_, rfl, ⟨⟨_, HB7.out⟩, rfl⟩, ?_⟩
    simp only [Act.put, List.setIfInBounds_toArray, List.set_cons_zero, List.set_cons_succ]
    (repeat (first | (with_reducible refine mix_read (by kernel_rfl) ?_; go_big_quiet_want; go_big_quiet_op; go_big_quiet_on; with_reducible refine wpQuiet_nil ?_) | (with_reducible refine mix_pass (by kernel_rfl) ?_; go_big_quiet_skip; with_reducible refine wpQuiet_nil ?_)))
    with_reducible refine mix_call (by kernel_rfl) (by kernel_rfl) ((known_any _).mono ?_) (by kernel_rfl)
    rintro e w11 ⟨rfl, hb⟩
    have HB11 : Hid (Below w6.heap.size w6 w11) := HB7.out.trans (hb.mono HB7.out.size)
    clear hb
    refine ⟨_, rfl, ⟨⟨_, HB11.out⟩, rfl⟩, ?_⟩
    simp only [Act.put, List.setIfInBounds_toArray, List.set_cons_zero, List.set_cons_succ]
    (repeat (first | (with_reducible refine mix_read (by kernel_rfl) ?_; go_big_quiet_want; go_big_quiet_op; go_big_quiet_on; with_reducible refine wpQuiet_nil ?_) | (with_reducible refine mix_pass (by kernel_rfl) ?_; go_big_quiet_skip; with_reducible refine wpQuiet_nil ?_)))
    with_reducible refine mix_end ?_
    intro _
    go_wp2
    go_ret
    exact ⟨rfl, HBA.out.trans (HB11.out.mono HBA.out.size)⟩
  · go_wp2
    go_ret
    exact ⟨rfl, HB2.out⟩
theorem own : ownKnob Try.prog.godebug = none := by kernel_rfl

set_option maxRecDepth 100000 in
theorem lifted (os : Os) (started : os.Started) (H : Type) (enc : TypeId × Value → H) :
    ReturnsInHanded {} Try.checked os 3 .any (Rows.lockOfNothingSpec.pre6 enc Try.prog Try.f3 Rows.lockOfNothingRow.domain false) (Rows.lockOfNothingSpec.post enc Try.prog Try.f3 false true false false) := by
  refine returnsInHanded_of_change (C := Try.checked) own started (by kernel_rfl) Try.func3
    (ChangeSpec.witness6 (enc := enc) (C := Try.checked) false ⟨#[], #[.agg #[.int .i64 0, .slice none 0 0, .slice none 0 0, .int .i64 0, .int .i64 0, .slice none 0 0]], []⟩ 8 (by kernel_rfl) (by kernel_rfl) (by kernel_rfl) (by kernel_rfl)) ?_
  intro W base args ds gs before hval0 hW _ _
  have hval : ∀ (j : Nat) t v, Try.f3.params[j]? = some t → args[j]? = some v → Value.okWide Try.prog W .any base t v := hval0
  have hW' := hW
  obtain ⟨p, q, hA0, hV, rfl, _, _⟩ := hW
  have hA : DataW.TrodAll enc Try.prog W 0 (fun _ => true) true Try.f3.params.toList args.toList ds p := hA0
  rw [Try.params3] at hA hval
  obtain ⟨v0, vs0, d0, ds0, p0, q0, hargs, rfl, rfl, h0, r0⟩ := trodAll_cons hA
  obtain ⟨rfl, rfl, rfl⟩ := trodAll_nil r0
  obtain rfl : args = #[v0] := by cases args; simp_all
  obtain ⟨rfl, rfl⟩ := trodVars_none hV
  obtain ⟨x0, y0, z0, oa0, ob0, oc0, na0, ca0, nb0, cb0, nc0, cc0, rfl⟩ := act_open (hval 0 30 v0 rfl rfl)
  have k0 := h0
  have lt0 : ∀ x ∈ p0, x.block < W.heap.size := by obtain ⟨m, hm⟩ := k0; exact DataW.trod_lt m _ _ _ hm
  clear hA0 hval0
  refine (walk W x0 y0 z0 oa0 ob0 oc0 na0 ca0 nb0 cb0 nc0 cc0 ).mono fun e W' ⟨he, bel⟩ => ?_
  subst he
  exact ⟨_, rfl, _, _, _, [], _, [], hW', trodAll_mk1 (shut_bool Try.underlying4 _), (trodAll_cons_mk (Below.trod laidOut (by kernel_rfl) (of_decide_eq_true (by kernel_rfl)) k0 bel lt0) trodAll_mk0), rfl, bel.frame _, fun h => by cases h⟩

theorem over : Rows.lockOfNothingRow.holds Try.pinned (OpenSpec.ofChange Rows.lockOfNothingSpec) :=
  OpenClaim.holds_of_wide 3 Try.f3 rfl rfl rfl rfl rfl rfl rfl ⟨rfl, rfl, rfl, rfl, rfl⟩ rfl rfl rfl rfl rfl (by kernel_rfl) Try.func3 (by kernel_rfl)
    (of_decide_eq_true (by kernel_rfl)) (by unfold Func.isWrapper; first | (rw [if_pos (by decide +kernel)]; kernel_rfl) | (rw [if_neg (by decide +kernel)]; exact ⟨rfl, rfl⟩))
    (fun os started H enc _ => lifted os started H enc)

end Go.Proofs.Ytnpfdnafbpdebab.lockOfNothing
namespace Go.Proofs.Ytnpfdnafbpdebab
theorem lockOfNothing_holds : Rows.LockOfNothingSaid := lockOfNothing.over
#print axioms lockOfNothing_holds
end Go.Proofs.Ytnpfdnafbpdebab
