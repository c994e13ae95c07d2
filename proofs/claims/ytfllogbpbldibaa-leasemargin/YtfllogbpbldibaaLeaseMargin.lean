/-
  Of any number and any row of bools: LeaseMargin returns true. No condition.
-/
import Derived.Test.YtfllogbpbldibaaRows
import Derived.Test.YtfllogbpbldibaaLsAt
import Derived.Test.YtfllogbpbldibaaLsArgs
import Derived.ShutString
namespace Go.Proofs.Ytfllogbpbldibaa.leaseMargin
open Go.ChangeShapes Go.WideShapes Go.ChangeAt Go.RowKit

def slowN (a : List Bool) : Nat → Nat
  | 0 => 0
  | k + 1 => slowN a k + (match a[k]? with | some true => 1 | _ => 0)
theorem slow_le (a : List Bool) : ∀ k, slowN a k ≤ k
  | 0 => Nat.le_refl 0
  | k + 1 => by
    have := slow_le a k
    show slowN a k + _ ≤ k + 1
    split <;> omega
theorem slow_yes {a : List Bool} {k : Nat} (h : a[k]? = some true) : slowN a (k + 1) = slowN a k + 1 := by
  show slowN a k + _ = _
  rw [h]
theorem slow_no {a : List Bool} {k : Nat} (h : a[k]? = some false) : slowN a (k + 1) = slowN a k := by
  show slowN a k + _ = _
  rw [h]
  rfl

set_option maxRecDepth 1000000 in
set_option maxHeartbeats 8000000 in
theorem walk (w : World) (tick : Int) (oa : Option Addr) (n ca : Nat) (a : List Bool) (ea : a.length = n) (_ : OkSl oa n ca) (sa : rowAt w (.slice oa n ca) 1 bC a ∧ ∀ y ∈ a, y = y) (_ : (Lit.int IntKind.i64 tick).wf = true) :
    Calls Try.prog 6 #[.int .i64 tick, .slice oa n ca] w fun e w' => e = .returned (.bool true) ∧ Below w.heap.size w w' := by
  have HA : Hid (rowAt w (.slice oa n ca) 1 bC a ∧ a.length = n) := ⟨sa.1, ea⟩
  clear sa ea
  by_cases h1 : tick < 0
  · go_enter Try.func6, Try.ntmps6
    go_wp2
    go_ret
    exact ⟨rfl, Below.refl _ _⟩
  by_cases h2 : 1000000 < tick
  · go_enter Try.func6, Try.ntmps6
    go_wp2
    go_ret
    exact ⟨rfl, Below.refl _ _⟩
  by_cases h3 : (n : Int) < 8
  · go_enter Try.func6, Try.ntmps6
    go_wp2
    go_ret
    exact ⟨rfl, Below.refl _ _⟩
  go_enter Try.func6, Try.ntmps6
  go_wp2_with fail
  refine (new_l w _ (Below.refl _ _)).mono ?_
  rintro e w1 ⟨b, rfl, h, -, -⟩
  have H1 : Hid (LsL w w1 b newX) := h
  clear h
  have D := grant_l w w1 b _ 1 tick H1.out (by omega)
  go_wp2_with fail
  refine D.mono ?_
  rintro e w2 ⟨rfl, h, -⟩
  have H2 : Hid (LsL w w2 b (grantX 1 tick)) := h
  clear D h H1
  go_wp2
  go_loopg [6, 7, 8] 8 (fun gk lo nw i wr => ∃ (k : Nat), gk = 8 - k ∧ lo = .int .i64 (slowN a k) ∧ nw = .int .i64 (tick + (k - slowN a k)) ∧ i = .int .i64 k ∧ k ≤ 8 ∧ LsL w wr b (grantX 1 tick))
  case atStart => exact ⟨0, rfl, rfl, by simp [slowN], rfl, by omega, H2.out⟩
  case round =>
    obtain ⟨k, rfl, rfl, rfl, rfl, hk, hs⟩ := hrel
    have H10 : Hid (LsL w wr b (grantX 1 tick)) := hs
    clear hs H2
    have hsl := slow_le a k
    by_cases hlt : k < 8
    · have hki : (k : Int) < 8 := by omega
      obtain ⟨x, hx⟩ : ∃ x, a[k]? = some x := at_of (by rw [HA.out.2]; omega)
      obtain ⟨g, off, rfl, a0⟩ := row_bool (HA.out.1.below H10.out.bl) k x hx
      have HX : Hid (a[k]? = some x) := hx
      clear hx
      cases x
      · go_wp2
        go_roundg (8 - (k + 1))
        case rel => exact ⟨k + 1, rfl, by rw [slow_no HX.out], by rw [slow_no HX.out]; go_num, by go_num, by omega, H10.out⟩
        case measure => omega
      · go_wp2
        go_roundg (8 - (k + 1))
        case rel => exact ⟨k + 1, rfl, by rw [slow_yes HX.out]; go_num, by rw [slow_yes HX.out]; go_num, by go_num, by omega, H10.out⟩
        case measure => omega
    · obtain rfl : k = 8 := by omega
      generalize slowN a 8 = s at *
      by_cases hl : 3 < s
      · have hl2 : (3 : Int) < (s : Int) := by omega
        have D := live_l H10.out (tick + (8 - s)) true (live_yes (by omega))
        go_wp2_with fail
        refine D.mono ?_
        rintro e w9 ⟨rfl, hw⟩
        rw [hw]
        clear hw w9 D
        have HB : Hid (Below w.heap.size w wr) := H10.out.bl
        clear H10
        go_wp2_with fail
        refine (known_any _).mono ?_
        rintro e wk ⟨rfl, hb⟩
        have HBK : Hid (Below w.heap.size w wk) := HB.out.trans (hb.mono HB.out.size)
        clear hb HB
        go_wp2
        go_ret
        exact ⟨rfl, HBK.out⟩
      · have hl2 : ¬ (3 : Int) < (s : Int) := by omega
        have D := live_l H10.out (tick + (8 - s)) false (live_no (by omega))
        go_wp2_with fail
        refine D.mono ?_
        rintro e w9 ⟨rfl, hw⟩
        rw [hw]
        clear hw w9 D
        have HB : Hid (Below w.heap.size w wr) := H10.out.bl
        clear H10
        go_wp2_with fail
        refine (known_any _).mono ?_
        rintro e wk ⟨rfl, hb⟩
        have HBK : Hid (Below w.heap.size w wk) := HB.out.trans (hb.mono HB.out.size)
        clear hb HB
        go_wp2
        go_ret
        exact ⟨rfl, HBK.out⟩

theorem own : ownKnob Try.prog.godebug = none := by kernel_rfl

set_option maxRecDepth 100000 in
theorem lifted (os : Os) (started : os.Started) (H : Type) (enc : TypeId × Value → H) :
    ReturnsInHanded {} Try.checked os 6 .any (Rows.leaseMarginSpec.pre6 enc Try.prog Try.f6 Rows.leaseMarginRow.domain false) (Rows.leaseMarginSpec.post enc Try.prog Try.f6 false true false false) := by
  refine returnsInHanded_of_change (C := Try.checked) own started (by kernel_rfl) Try.func6
    (ChangeSpec.witness6 (enc := enc) (C := Try.checked) false ⟨#[], #[.int .i64 0, .slice none 0 0], []⟩ 8 (by kernel_rfl) (by kernel_rfl) (by kernel_rfl) (by kernel_rfl)) ?_
  intro W base args ds gs before hval0 hW _ _
  have hval : ∀ (j : Nat) t v, Try.f6.params[j]? = some t → args[j]? = some v → Value.okWide Try.prog W .any base t v := hval0
  have hW' := hW
  obtain ⟨p, q, hA0, hV, rfl, _, _⟩ := hW
  have hA : DataW.TrodAll enc Try.prog W 0 (fun _ => true) true Try.f6.params.toList args.toList ds p := hA0
  rw [Try.params6] at hA hval
  obtain ⟨v0, vs0, d0, ds0, p0, q0, hargs, rfl, rfl, h0, r0⟩ := trodAll_cons hA
  obtain ⟨v1, vs1, d1, ds1, p1, q1, rfl, rfl, rfl, h1, r1⟩ := trodAll_cons r0
  obtain ⟨rfl, rfl, rfl⟩ := trodAll_nil r1
  obtain rfl : args = #[v0, v1] := by cases args; simp_all
  obtain ⟨rfl, rfl⟩ := trodVars_none hV
  obtain ⟨a0, rfl, rfl, rfl, w0⟩ := open_int Try.underlying3 (hval 0 3 v0 rfl rfl) h0
  obtain ⟨a1, len1, cap1, rfl⟩ := okWide_slice Try.underlying37 (hval 1 37 v1 rfl rfl)
  have k1 := h1
  have lt1 : ∀ x ∈ p1, x.block < W.heap.size := by obtain ⟨m, hm⟩ := k1; exact DataW.trod_lt m _ _ _ hm
  obtain ⟨z1, e1, m1, s1⟩ : ∃ l : List Bool, l.length = len1 ∧ OkSl a1 len1 cap1 ∧ (rowAt W (.slice a1 len1 cap1) 1 bC l ∧ ∀ y ∈ l, y = y) := by
    obtain ⟨fuel, hf⟩ := h1
    exact open_boolr hf
  clear hA0 hval0
  refine (walk W a0 a1 len1 cap1 z1 e1 m1 s1 w0).mono fun e W' ⟨he, bel⟩ => ?_
  subst he
  exact ⟨_, rfl, _, _, _, [], _, [], hW', trodAll_mk1 (shut_bool Try.underlying4 _), (trodAll_cons_mk (shut_int Try.underlying3 w0) (trodAll_cons_mk (Below.trod flaidOut (by kernel_rfl) (of_decide_eq_true (by kernel_rfl)) k1 bel lt1) trodAll_mk0)), rfl, bel.frame _, fun h => by cases h⟩

theorem over : Rows.leaseMarginRow.holds Try.pinned (OpenSpec.ofChange Rows.leaseMarginSpec) :=
  OpenClaim.holds_of_wide 6 Try.f6 rfl rfl rfl rfl rfl rfl rfl ⟨rfl, rfl, rfl, rfl, rfl⟩ rfl rfl rfl rfl rfl (by kernel_rfl) Try.func6 (by kernel_rfl)
    (of_decide_eq_true (by kernel_rfl)) (by unfold Func.isWrapper; first | (rw [if_pos (by decide +kernel)]; kernel_rfl) | (rw [if_neg (by decide +kernel)]; exact ⟨rfl, rfl⟩))
    (fun os started H enc _ => lifted os started H enc)

end Go.Proofs.Ytfllogbpbldibaa.leaseMargin
namespace Go.Proofs.Ytfllogbpbldibaa
theorem leaseMargin_holds : Rows.LeaseMarginSaid := leaseMargin.over
#print axioms leaseMargin_holds
end Go.Proofs.Ytfllogbpbldibaa
