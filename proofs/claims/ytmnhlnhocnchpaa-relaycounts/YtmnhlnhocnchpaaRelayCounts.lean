/-
  Of any row of numbers: RelayCounts returns true. No condition.
-/
import Derived.Test.YtmnhlnhocnchpaaRows
import Derived.Test.YtmnhlnhocnchpaaRlKnown
import Derived.Test.YtmnhlnhocnchpaaRlArgs
import Derived.ShutString
namespace Go.Proofs.Ytmnhlnhocnchpaa.relayCounts
open Go.ChangeShapes Go.WideShapes Go.ChangeAt Go.RowKit

set_option maxRecDepth 1000000 in
set_option maxHeartbeats 8000000 in
theorem walk (w : World) (oa : Option Addr) (n ca : Nat) (a : List Int) (ea : a.length = n) (_ : OkSl oa n ca) (sa : rowAt w (.slice oa n ca) 1 iC a ∧ ∀ y ∈ a, wfI y) :
    Calls Try.prog 7 #[.slice oa n ca] w fun e w' => e = .returned (.bool true) ∧ Below w.heap.size w w' := by
  have HA : Hid (rowAt w (.slice oa n ca) 1 iC a ∧ a.length = n ∧ ∀ y ∈ a, wfI y) := ⟨sa.1, ea, sa.2⟩
  clear sa ea
  by_cases h2 : 40 < n
  · have h2i : (40 : Int) < (n : Int) := by omega
    go_enter Try.func7, Try.ntmps7
    go_wp2
    go_ret
    exact ⟨rfl, Below.refl _ _⟩
  have h2i : ¬ (40 : Int) < (n : Int) := by omega
  go_enter Try.func7, Try.ntmps7
  go_wp2_with fail
  refine (new_l w _ (Below.refl _ _)).mono ?_
  rintro e w1 ⟨b, rfl, h, -, -⟩
  have H1 : Hid (RlL w w1 b newR 0) := h
  clear h
  have D := begin_l w w1 b _ _ 1 H1.out ⟨1, -1, -1, 0, 0, 0, 0⟩ rfl
  go_wp2_with fail
  refine D.mono ?_
  rintro e w2 ⟨rfl, h, -⟩
  have H2 : Hid (RlL w w2 b ⟨1, -1, -1, 0, 0, 0, 0⟩ (0)) := h
  clear D h H1
  have D := ask_l w w2 b _ _ 1 99 H2.out (by decide) 1 0 0 ⟨1, 1, -1, 1, 0, 1, 0⟩ ⟨rfl, rfl⟩
  go_wp2_with fail
  refine D.mono ?_
  rintro e w3 ⟨rfl, h, -⟩
  have H3 : Hid (RlL w w3 b ⟨1, 1, -1, 1, 0, 1, 0⟩ (0+1)) := h
  clear D h H2
  go_wp2
  go_loopg [5, 7] n (fun gk lv i wr => ∃ (k : Nat) (now con la ask c : Int), gk = n - k ∧ lv = .int .i64 la ∧ i = .int .i64 k ∧ k ≤ n ∧ now = 1 + k ∧ ask = 1 + k ∧ c ≤ 1 + k ∧ RlL w wr b ⟨now, 1, con, 1, la, ask, 0⟩ c)
  case atStart => exact ⟨0, 1, -1, 0, 1, 0+1, rfl, rfl, rfl, by omega, by decide, by decide, by decide, H3.out⟩
  case round =>
    obtain ⟨k, now, con, la, ask, c, rfl, rfl, rfl, hk, rfl, rfl, hc, hs⟩ := hrel
    have HC : Hid (c ≤ 1 + (k : Int)) := hc
    have H10 : Hid (RlL w wr b ⟨1 + k, 1, con, 1, la, 1 + k, 0⟩ c) := hs
    clear hs hc H3
    by_cases hlt : k < n
    · have hki : (k : Int) < (n : Int) := by omega
      obtain ⟨x, hx⟩ : ∃ x, a[k]? = some x := at_of (by rw [HA.out.2.1]; exact hlt)
      obtain ⟨g, off, rfl, a0⟩ := row_int (HA.out.1.below H10.out.bl) k x hx
      have hx1 := i64_and65535 x
      clear hx
      obtain ⟨u, hu, hu2⟩ : ∃ u, u = x % 65536 ∧ 0 ≤ u := ⟨x % 65536, rfl, by omega⟩
      rw [← hu] at hx1
      have HU : Hid (0 ≤ u) := hu2
      clear hu hu2
      have D := begin_l w wr b _ _ (2 + k) H10.out ⟨2 + k, 1, -1, 1, la, 1 + k, 0⟩ (begin_keeps (by show (1 : Int) + k < 2 + k; omega) (by omega) (.inr (by show (2 : Int) + k - (1 + k) < 8; omega)))
      go_wp2_with fail
      refine D.mono ?_
      rintro e w11 ⟨rfl, h, -⟩
      have H11 : Hid (RlL w w11 b ⟨2 + k, 1, -1, 1, la, 1 + k, 0⟩ (c)) := h
      clear D h H10
      clear a0 hx1
      have D := ask_l w w11 b _ _ 1 u H11.out (by have := HC.out; omega) 1 la 0 ⟨2 + k, 1, 1, 1, u, 2 + k, 0⟩ (ask_own (by decide) HU.out rfl)
      go_wp2_with fail
      refine D.mono ?_
      rintro e w12 ⟨rfl, h, -⟩
      have H12 : Hid (RlL w w12 b ⟨2 + k, 1, 1, 1, u, 2 + k, 0⟩ (c+1)) := h
      clear D h H11
      have D := con_l H12.out 1 rfl
      go_wp2_with fail
      refine D.mono ?_
      rintro e w9 ⟨rfl, hw⟩
      rw [hw]
      clear hw w9 D
      go_wp2
      go_roundg (n - (k + 1))
      case rel => exact ⟨k + 1, 2 + k, 1, u, 2 + k, _, rfl, rfl, by go_num, by omega, by omega, by omega, by have := HC.out; omega, H12.out⟩
      case measure => omega
    · have hki : ¬ (k : Int) < (n : Int) := by omega
      have HB : Hid (Below w.heap.size w wr) := H10.out.bl
      clear H10
      go_wp2_with fail
      refine (known_any _).mono ?_
      rintro e wk ⟨rfl, hb⟩
      have HBK : Hid (Below w.heap.size w wk) := HB.out.trans (hb.mono HB.out.size)
      clear hb HB
      go_wp2
      go_ret
      exact ⟨rfl, HBK.out⟩

theorem own : ownKnob Try.prog.godebug = none := by kernel_rfl

set_option maxRecDepth 100000 in
theorem lifted (os : Os) (started : os.Started) (H : Type) (enc : TypeId × Value → H) :
    ReturnsInHanded {} Try.checked os 7 .any (Rows.relayCountsSpec.pre6 enc Try.prog Try.f7 Rows.relayCountsRow.domain false) (Rows.relayCountsSpec.post enc Try.prog Try.f7 false true false false) := by
  refine returnsInHanded_of_change (C := Try.checked) own started (by kernel_rfl) Try.func7
    (ChangeSpec.witness6 (enc := enc) (C := Try.checked) false ⟨#[], #[.slice none 0 0], []⟩ 8 (by kernel_rfl) (by kernel_rfl) (by kernel_rfl) (by kernel_rfl)) ?_
  intro W base args ds gs before hval0 hW _ _
  have hval : ∀ (j : Nat) t v, Try.f7.params[j]? = some t → args[j]? = some v → Value.okWide Try.prog W .any base t v := hval0
  have hW' := hW
  obtain ⟨p, q, hA0, hV, rfl, _, _⟩ := hW
  have hA : DataW.TrodAll enc Try.prog W 0 (fun _ => true) true Try.f7.params.toList args.toList ds p := hA0
  rw [Try.params7] at hA hval
  obtain ⟨v0, vs0, d0, ds0, p0, q0, hargs, rfl, rfl, h0, r0⟩ := trodAll_cons hA
  obtain ⟨rfl, rfl, rfl⟩ := trodAll_nil r0
  obtain rfl : args = #[v0] := by cases args; simp_all
  obtain ⟨rfl, rfl⟩ := trodVars_none hV
  obtain ⟨a0, len0, cap0, rfl⟩ := okWide_slice Try.underlying43 (hval 0 43 v0 rfl rfl)
  have k0 := h0
  have lt0 : ∀ x ∈ p0, x.block < W.heap.size := by obtain ⟨m, hm⟩ := k0; exact DataW.trod_lt m _ _ _ hm
  obtain ⟨z0, e0, m0, s0⟩ : ∃ l : List Int, l.length = len0 ∧ OkSl a0 len0 cap0 ∧ (rowAt W (.slice a0 len0 cap0) 1 iC l ∧ ∀ y ∈ l, wfI y) := by
    obtain ⟨fuel, hf⟩ := h0
    exact open_intr hf
  clear hA0 hval0
  refine (walk W a0 len0 cap0 z0 e0 m0 s0 ).mono fun e W' ⟨he, bel⟩ => ?_
  subst he
  exact ⟨_, rfl, _, _, _, [], _, [], hW', trodAll_mk1 (shut_bool Try.underlying4 _), (trodAll_cons_mk (Below.trod flaidOut (by kernel_rfl) (of_decide_eq_true (by kernel_rfl)) k0 bel lt0) trodAll_mk0), rfl, bel.frame _, fun h => by cases h⟩

theorem over : Rows.relayCountsRow.holds Try.pinned (OpenSpec.ofChange Rows.relayCountsSpec) :=
  OpenClaim.holds_of_wide 7 Try.f7 rfl rfl rfl rfl rfl rfl rfl ⟨rfl, rfl, rfl, rfl, rfl⟩ rfl rfl rfl rfl rfl (by kernel_rfl) Try.func7 (by kernel_rfl)
    (of_decide_eq_true (by kernel_rfl)) (by unfold Func.isWrapper; first | (rw [if_pos (by decide +kernel)]; kernel_rfl) | (rw [if_neg (by decide +kernel)]; exact ⟨rfl, rfl⟩))
    (fun os started H enc _ => lifted os started H enc)

end Go.Proofs.Ytmnhlnhocnchpaa.relayCounts
namespace Go.Proofs.Ytmnhlnhocnchpaa
theorem relayCounts_holds : Rows.RelayCountsSaid := relayCounts.over
#print axioms relayCounts_holds
end Go.Proofs.Ytmnhlnhocnchpaa
