/-
  Of every two numbers: CrateFull returns true. No condition.
-/
import Derived.Test.YtfkolpijnflpcaaRows
import Derived.Test.YtfkolpijnflpcaaCrLaw
import Derived.WalkKit
import Derived.ProofKit
import Derived.OpenShut
import Derived.ShutString
import Derived.ChangeOld
import Derived.Below
namespace Go.Proofs.Ytfkolpijnflpcaa.crateFull
open Go.ChangeShapes Go.WideShapes Go.ChangeAt Go.RowKit
open Go.ChangeMaps (open_string shut_string)

theorem put_len (l : List It) (x : It) (i : Nat) (h : l.length = min i 100) : (put l x).length = min (i + 1) 100 := by
  unfold put
  split
  · rw [List.length_append]; simp; omega
  · omega

set_option maxRecDepth 1000000 in
set_option maxHeartbeats 2000000 in
theorem walk_in (n : Nat) (kind : Int) (w : World) (hn : n ≤ 200) :
    Calls Try.prog 7 #[.int .i64 n, .int .i64 kind] w fun e w' => e = .returned (.bool true) ∧ Below w.heap.size w w' := by
  have e1 : decide ((n : Int) < 0) = false := by simp
  have e2 : decide ((200 : Int) < (n : Int)) = false := by simp; omega
  have H0 : Hid (Crate (w.alloc (.cells #[.slice none 0 0] 59)) w.heap.size w.heap.size (.slice none 0 0) []) := crate_new w
  have K0 : Hid (Below w.heap.size w (w.alloc (.cells #[.slice none 0 0] 59))) := (Below.refl _ _).alloc (Nat.le_refl _) _
  go_enter Try.func7, Try.ntmps7
  go_wp2_with fail
  refine (new_any _).mono ?_
  rintro e w1 ⟨rfl, rfl⟩
  go_wp2
  go_loopw [6] (fun i wr => ∃ (k : Nat) (v : Value) (l : List It), i = .int .i64 k ∧ k ≤ n ∧ Crate wr w.heap.size w.heap.size v l ∧ l.length = min k 100 ∧ Below w.heap.size w wr) (fun i _ => n - (intOf i).toNat)
  case atStart => exact ⟨0, _, [], rfl, by omega, H0.out, rfl, K0.out⟩
  case round =>
    obtain ⟨k, v, l, rfl, hk, hc, hl, hb⟩ := hrel
    have HC : Hid (Crate wr w.heap.size w.heap.size v l) := hc
    have HL : Hid (l.length = min k 100) := hl
    have HB : Hid (Below w.heap.size w wr) := hb
    clear hc hl hb
    by_cases hlt : k < n
    · by_cases h100 : k < 100
      · have d1 : decide ((k : Int) < 100) = true := by simp; omega
        have HD : Hid (decide (l.length < 100) = true) := by rw [Hid, HL.out]; simp; omega
        go_wp2_with fail
        refine (addT_any ⟨_, _, _, _⟩ l _ _ _ _ HC.out (by show (1 : Nat) ≤ _; decide)).mono ?_
        rw [HD.out]
        rintro e w2 ⟨v2, rfl, h2, t2⟩
        have HP : Hid (∃ x, Crate w2 w.heap.size w.heap.size v2 (put l x)) := ⟨_, h2⟩
        have HB2 : Hid (Below w.heap.size w w2) := HB.out.trans (HC.out.1.turnBelow t2)
        clear h2 t2
        go_wp2
        go_roundw
        case rel =>
          obtain ⟨x, hx⟩ := HP.out
          exact ⟨k + 1, v2, put l x, by go_num, by omega, hx, put_len l x k HL.out, HB2.out⟩
        case measure => simp [intOf]; omega
      · have d1 : decide ((k : Int) < 100) = false := by simp; omega
        have HD : Hid (decide (l.length < 100) = false) := by rw [Hid, HL.out]; simp; omega
        go_wp2_with fail
        refine (addT_any ⟨_, _, _, _⟩ l _ _ _ _ HC.out (by show (1 : Nat) ≤ _; decide)).mono ?_
        rw [HD.out]
        rintro e w2 ⟨v2, rfl, h2, t2⟩
        have HP : Hid (∃ x, Crate w2 w.heap.size w.heap.size v2 (put l x)) := ⟨_, h2⟩
        have HB2 : Hid (Below w.heap.size w w2) := HB.out.trans (HC.out.1.turnBelow t2)
        clear h2 t2
        go_wp2
        go_roundw
        case rel =>
          obtain ⟨x, hx⟩ := HP.out
          exact ⟨k + 1, v2, put l x, by go_num, by omega, hx, put_len l x k HL.out, HB2.out⟩
        case measure => simp [intOf]; omega
    · have hkn : k = n := by omega
      subst hkn
      clear hlt
      have d2 : ((min k 100 : Nat) : Int) = min (k : Int) 100 := by omega
      go_wp2_with fail
      refine (len_any _ l _ HC.out.reads).mono ?_
      rw [HL.out]
      rintro e w2 ⟨rfl, hw⟩
      obtain rfl := hw.symm
      go_wp2_with fail
      refine (known_any _).mono ?_
      rintro e w3 ⟨rfl, hb3⟩
      go_wp2
      go_ret
      exact ⟨rfl, HB.out.trans (hb3.mono HB.out.size)⟩
theorem walk (n kind : Int) (_ : (Lit.int .i64 n).wf = true) (_ : (Lit.int .i64 kind).wf = true) (w : World) :
    Calls Try.prog 7 #[.int .i64 n, .int .i64 kind] w fun e w' => e = .returned (.bool true) ∧ Below w.heap.size w w' := by
  by_cases h : n < 0
  · go_enter Try.func7, Try.ntmps7
    go_wp2
    go_ret
    exact ⟨rfl, Below.refl _ _⟩
  · obtain ⟨m, rfl⟩ := Int.eq_ofNat_of_zero_le (Int.not_lt.1 h)
    by_cases h2 : m ≤ 200
    · exact walk_in m kind w h2
    · have e1 : decide ((m : Int) < 0) = false := by simp
      have e2 : decide ((200 : Int) < (m : Int)) = true := by simp; omega
      go_enter Try.func7, Try.ntmps7
      go_wp2
      go_ret
      exact ⟨rfl, Below.refl _ _⟩

theorem own : ownKnob Try.prog.godebug = none := by kernel_rfl

set_option maxRecDepth 100000 in
theorem lifted (os : Os) (started : os.Started) (H : Type) (enc : TypeId × Value → H) :
    ReturnsInHanded {} Try.checked os 7 .any (Rows.crateFullSpec.pre6 enc Try.prog Try.f7 Rows.crateFullRow.domain false) (Rows.crateFullSpec.post enc Try.prog Try.f7 false true false false) := by
  refine returnsInHanded_of_change (C := Try.checked) own started (by kernel_rfl) Try.func7
    (ChangeSpec.witness6 (enc := enc) (C := Try.checked) false ⟨#[], #[.int .i64 0, .int .i64 0], []⟩ 8 (by kernel_rfl) (by kernel_rfl) (by kernel_rfl) (by kernel_rfl)) ?_
  intro W base args ds gs before hval0 hW _ _
  have hval : ∀ (j : Nat) t v, Try.f7.params[j]? = some t → args[j]? = some v → Value.okWide Try.prog W .any base t v := hval0
  have hW' := hW
  obtain ⟨p, q, hA0, hV, rfl, _, _⟩ := hW
  have hA : DataW.TrodAll enc Try.prog W 0 (fun _ => true) true Try.f7.params.toList args.toList ds p := hA0
  rw [Try.params7] at hA hval
  obtain ⟨v0, vs0, d0, ds0, p0, q0, hargs, rfl, rfl, h0, r0⟩ := trodAll_cons hA
  obtain ⟨v1, vs1, d1, ds1, p1, q1, rfl, rfl, rfl, h1, r1⟩ := trodAll_cons r0
  obtain ⟨rfl, rfl, rfl⟩ := trodAll_nil r1
  obtain rfl : args = #[v0, v1] := by cases args; simp_all
  obtain ⟨rfl, rfl⟩ := trodVars_none hV
  obtain ⟨a0, rfl, rfl, rfl, w0⟩ := open_int Try.underlying3 (hval 0 3 v0 rfl rfl) h0
  obtain ⟨a1, rfl, rfl, rfl, w1⟩ := open_int Try.underlying3 (hval 1 3 v1 rfl rfl) h1
  clear hA0 hval0
  refine (walk a0 a1 w0 w1 W).mono fun e W' ⟨he, bel⟩ => ?_
  subst he
  exact ⟨_, rfl, _, _, _, [], _, [], hW', trodAll_mk1 (shut_bool Try.underlying4 _), (trodAll_cons_mk (shut_int Try.underlying3 w0) (trodAll_cons_mk (shut_int Try.underlying3 w1) trodAll_mk0)), rfl, bel.frame _, fun h => by cases h⟩

theorem over : Rows.crateFullRow.holds Try.pinned (OpenSpec.ofChange Rows.crateFullSpec) :=
  OpenClaim.holds_of_wide 7 Try.f7 rfl rfl rfl rfl rfl rfl rfl ⟨rfl, rfl, rfl, rfl, rfl⟩ rfl rfl rfl rfl rfl (by kernel_rfl) Try.func7 (by kernel_rfl)
    (of_decide_eq_true (by kernel_rfl)) (by unfold Func.isWrapper; first | (rw [if_pos (by decide +kernel)]; kernel_rfl) | (rw [if_neg (by decide +kernel)]; exact ⟨rfl, rfl⟩))
    (fun os started H enc _ => lifted os started H enc)


end Go.Proofs.Ytfkolpijnflpcaa.crateFull
namespace Go.Proofs.Ytfkolpijnflpcaa
theorem crateFull_holds : Rows.CrateFullSaid := crateFull.over
#print axioms crateFull_holds
end Go.Proofs.Ytfkolpijnflpcaa
