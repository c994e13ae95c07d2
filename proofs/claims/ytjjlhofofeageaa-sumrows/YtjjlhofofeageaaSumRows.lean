/-
  Of any rows of bytes: SumRows returns true.
-/
import Derived.Test.YtjjlhofofeageaaRows
import Derived.Test.YtjjlhofofeageaaSmOwn
import Derived.Test.YtjjlhofofeageaaSmOpen
import Derived.Laws.OwnMore
import Derived.WalkKit
import Derived.ProofKit
import Derived.OpenShut
import Derived.ShutString
import Derived.ChangeOld
import Derived.Below
import Derived.SizedLaws
namespace Go.Proofs.Ytjjlhofofeageaa.sumRows
open Go.ChangeShapes Go.WideShapes Go.ChangeAt Go.RowKit

theorem flat_take (l : List (List (BitVec 8))) (k : Nat) (r : List (BitVec 8)) (h : l[k]? = some r) : (l.take (k + 1)).flatten = (l.take k).flatten ++ r := by
  rw [List.take_add_one, h, List.flatten_append]
  simp

set_option maxRecDepth 1000000 in
set_option maxHeartbeats 4000000 in
theorem walk (w : World) (oa : Option Addr) (len cap : Nat) (l : List (List (BitVec 8))) (hlen : l.length = len) (hm : len ≤ maxLen) (hp : hasRowsN w oa l) (hsz : ∀ r ∈ l, r.length ≤ 140737488355328) : Calls Try.prog 4 #[.slice oa len cap] w fun e w' => e = .returned (.bool true) ∧ Below w.heap.size w w' := by
  subst hlen
  obtain ⟨hp, hq⟩ := hp
  have HP : Hid (hasRows w oa l) := hp
  have HQ : Hid (∀ j r, l[j]? = some r → ∀ b off c, oa = some ⟨b, off, none⟩ → w.cell? ⟨b, off + j, none⟩ = some (.slice none 0 c) → c = 0) := hq
  have HM : Hid (l.length ≤ 9223372036854775807) := by unfold maxLen at hm; exact hm
  have HSZ : Hid (∀ r ∈ l, r.length ≤ 140737488355328) := hsz
  clear hp hq hm hsz
  obtain ⟨i0, hi0, hz0, hz1, hz2⟩ := sinfo_parts infoB
  have HI : Hid (Try.prog.info? 5 = some i0 ∧ i0.zero = some (.int .u8 0) ∧ i0.size = 1 ∧ i0.bytes = 1) := ⟨hi0, hz0, hz1, hz2⟩
  clear hi0 hz0 hz1 hz2
  go_enter Try.func4, Try.ntmps4
  go_wp2
  go_loopg [3, 4] (l.length) (fun gk v i wr => ∃ k n c : Nat, ∃ o, gk = l.length - k ∧ i = .int .i64 k ∧ k ≤ l.length ∧ v = .slice o n c ∧ n ≤ 2000 ∧ (l.take k).flatten.length = n ∧ wr.ownsRow w.heap.size 5 1 (.slice o n c) n ((l.take k).flatten.map u8C) ∧ Below w.heap.size w wr)
  case atStart => exact ⟨0, 0, 0, none, rfl, rfl, by omega, rfl, by omega, rfl, ⟨rfl, .inl ⟨rfl, rfl⟩⟩, Below.refl _ _⟩
  case round =>
    obtain ⟨k, n, c, o, rfl, rfl, hk, rfl, hn, hfl, hown, hb⟩ := hrel
    have HO : Hid (wr.ownsRow w.heap.size 5 1 (.slice o n c) n ((l.take k).flatten.map u8C)) := hown
    have HB : Hid (Below w.heap.size w wr) := hb
    have HF : Hid ((l.take k).flatten.length = n) := hfl
    clear hown hb hfl
    by_cases hlt : k < l.length
    · have hki : (k : Int) < (l.length : Int) := by omega
      by_cases h300 : 300 < k
      · have h3 : (300 : Int) < (k : Int) := by omega
        go_wp2
        go_ret
        exact ⟨rfl, HB.out⟩
      have h3 : ¬ (300 : Int) < (k : Int) := by omega
      obtain ⟨r, hr⟩ : ∃ r, l[k]? = some r := ⟨l[k], List.getElem?_eq_getElem hlt⟩
      obtain ⟨b, off, oe, cr, rfl, hc, hB, hrl⟩ := (HP.out.below HB.out) k r hr
      have HBY : Hid (hasBytes wr oe r) := hB
      have HR : Hid (l[k]? = some r) := hr
      have hrz := HSZ.out r (List.mem_of_getElem? hr)
      have hcap : oe = none → r.length = 0 → cr = 0 := fun e e0 => by
        obtain ⟨b', off', oe', cr', e1, hc0, _⟩ := HP.out k r hr
        injection e1 with e1
        injection e1 with e1 e2
        subst e1 e2
        have hc1 := up_cellS HB.out hc0 (World.block_lt_of_cell? _ _ hc0)
        rw [hc] at hc1
        have h5 := Option.some.inj hc1
        injection h5 with h5 h6 h7
        subst h5 h7
        exact HQ.out k r hr b off cr rfl (by rw [e, e0] at hc0; exact hc0)
      clear hB hr
      by_cases h2000 : 2000 < n + r.length
      · have hs : (2000 : Int) < (n : Int) + (r.length : Int) := by omega
        go_wp2
        go_ret
        exact ⟨rfl, HB.out⟩
      have hs : ¬ (2000 : Int) < (n : Int) + (r.length : Int) := by omega
      have HT : Hid ((l.take (k + 1)).flatten = (l.take k).flatten ++ r) := flat_take l k r HR.out
      generalize hrn : r.length = m at *
      have HRN : Hid (r.length = m) := hrn
      clear hrn
      obtain ⟨xs, hxs⟩ : ∃ xs, xs = (l.take k).flatten.map u8C := ⟨_, rfl⟩
      have HXS : Hid (xs = (l.take k).flatten.map u8C) := hxs
      rw [← hxs] at HO
      clear hxs
      cases oe with
      | none =>
        have hm0 : m = 0 := by
          rcases r with _ | ⟨x, r⟩
          · exact HRN.out.symm
          · obtain ⟨b', o', e, _⟩ := HBY.out 0 x rfl
            cases e
        subst hm0
        obtain rfl := hcap rfl rfl
        clear hcap
        have hr0 : Hid (r = []) := List.length_eq_zero_iff.1 HRN.out
        have HE : Hid ((l.take (k + 1)).flatten.length = n ∧ wr.ownsRow w.heap.size 5 1 (.slice o n c) n ((l.take (k + 1)).flatten.map u8C)) := by
          rw [HT.out, hr0.out, List.append_nil, ← HXS.out]
          exact ⟨HF.out, HO.out⟩
        have hap := run_append_owned_none (P := Try.prog) (w := wr) w.heap.size 22 22 5 i0 1 Try.underlying22 HI.out.1 (.slice o n c) n _ HO.out
        have hshape : (o = none ∧ n = 0 ∧ c = 0) ∨ ∃ g, o = some ⟨g, 0, none⟩ ∧ n ≤ c := by
          rcases HO.out.2 with ⟨e, _⟩ | ⟨g, c', cur, e, _, _, hnc, _⟩
          · injection e with e1 e2 e3
            exact .inl ⟨e1, e2, e3⟩
          · injection e with e1 e2 e3
            exact .inr ⟨g, e1, by rw [e3]; exact hnc⟩
        have hs0 : ¬ (2000 : Int) < (n : Int) := by omega
        clear HO HF HXS HT HRN
        rcases hshape with ⟨rfl, rfl, rfl⟩ | ⟨g, rfl, hnc⟩
        · go_wp2
          go_roundg (l.length - (k + 1))
          case rel => exact ⟨k + 1, 0, 0, none, rfl, by go_num, by omega, rfl, hn, HE.out.1, HE.out.2, HB.out⟩
          case measure => omega
        · have hnc2 : (n : Int) ≤ (c : Int) := by omega
          have hst : ∀ a W, (storeCells a []).run Try.prog W = .ok () W := fun a W => by simp [storeCells]
          go_wp2
          go_roundg (l.length - (k + 1))
          case rel => exact ⟨k + 1, n, c, some ⟨g, 0, none⟩, rfl, by go_num, by omega, rfl, hn, HE.out.1, HE.out.2, HB.out⟩
          case measure => omega
      | some ad =>
        clear hcap
        have hsz : n + m ≤ 2000 := by omega
        obtain ⟨ab, ao, asp⟩ := ad
        have has : asp = none ∨ m = 0 := by
          rcases r with _ | ⟨x, r⟩
          · exact .inr HRN.out.symm
          · obtain ⟨b', o', e, _⟩ := HBY.out 0 x rfl
            injection e with e
            injection e with _ _ e
            exact .inl e
        have hnews : ∀ j u, (r.map u8C)[j]? = some u → wr.cell? ((⟨ab, ao, asp⟩ : Addr).add j) = some u := by
          rcases has with rfl | h0
          · exact news_bytes HBY.out
          · obtain rfl : r = [] := List.length_eq_zero_iff.1 (HRN.out.trans h0)
            intro j u hj
            simp at hj
        obtain ⟨hi, hz0, hz1, hz2⟩ := HI.out
        have hown := HO.out
        have hsz2 : w.heap.size ≤ wr.heap.size := HB.out.size
        have hrl2 : (r.map u8C).length = m * 1 := by rw [List.length_map, HRN.out, Nat.mul_one]
        have HNW := (show Hid _ from hnews)
        clear hnews has
        go_wp2_with (at_builtin; refine wpList_append_own_at _ rfl _ _ 22 rfl w.heap.size 5 i0 (.int .u8 0) 1 1 Try.underlying22 hi hz0 hz1 hz2 rfl (by decide) _ n _ rfl hown ⟨ab, ao, asp⟩ m cr (r.map u8C) rfl hrl2 HNW.out (one_u8 r) (by unfold maxLen; omega) (by omega) hsz2 ?_)
        intro v' w1 hown' hgrow _ _
        clear hi hz0 hz1 hz2 hown hsz2 hrl2 HNW
        have hown2 : w1.ownsRow w.heap.size 5 1 v' (n + m) ((l.take (k + 1)).flatten.map u8C) := by
          rw [HT.out, List.map_append, ← HXS.out]
          exact hown'
        have hbl : ∀ g, (Value.slice o n c).ownBlock = some g → w.heap.size ≤ g := fun g hg => by
          rcases HO.out.2 with ⟨h1, _⟩ | ⟨g', c', cur, h1, h2, _⟩
          · injection h1 with h1
            subst h1
            cases hg
          · injection h1 with h1
            subst h1
            cases hg
            exact h2
        have HB1 : Hid (Below w.heap.size w w1) := HB.out.trans (below_grown hgrow HB.out.size hbl)
        obtain ⟨o2, c2, rfl, -, -⟩ := owns_bytes hown2
        have HO2 : Hid (w1.ownsRow w.heap.size 5 1 (.slice o2 (n + m) c2) (n + m) ((l.take (k + 1)).flatten.map u8C)) := hown2
        have HF2 : Hid ((l.take (k + 1)).flatten.length = n + m) := by show _ = _; rw [HT.out, List.length_append, HF.out, HRN.out]
        clear hown' hown2 hgrow hbl
        go_wp2
        go_roundg (l.length - (k + 1))
        case rel => exact ⟨k + 1, n + m, c2, o2, rfl, by go_num, by omega, rfl, by omega, HF2.out, HO2.out, HB1.out⟩
        case measure => omega
    · have hkl : k = l.length := by omega
      subst hkl
      have HFL : Hid (l.take l.length = l) := List.take_length
      obtain ⟨oz, cz, e, hlz, hbz⟩ := owns_bytes HO.out
      injection e with e1 e2 e3
      subst e1 e3
      clear e2
      rw [HFL.out] at hlz hbz
      have HBZ : Hid (hasBytes wr o l.flatten ∧ l.flatten.length = n) := ⟨hbz, hlz⟩
      clear hlz hbz
      go_wp2_with fail
      refine (of_any oa cap l wr (HP.out.below HB.out) HM.out).mono ?_
      rintro e w1 ⟨rfl, rfl⟩
      have D := one_any (w1.alloc (.cells #[.slice o l.flatten.length c] 22)) w1.heap.size o c l.flatten 22 (sblk_new _ _) (HBZ.out.1.below ((Below.refl _ _).alloc (Nat.le_refl _) _)) (by rw [HBZ.out.2]; omega)
      rw [HBZ.out.2] at D
      have HD : Hid (Calls Try.prog 8 #[.slice (some ⟨w1.heap.size, 0, none⟩) 1 1] (w1.alloc (.cells #[.slice o n c] 22)) fun e w' => e = .returned (.int .u32 (u32 (sumV l.flatten))) ∧ w' = w1.alloc (.cells #[.slice o n c] 22)) := D
      clear D
      rw [sums_flat]
      go_wp2_with fail
      refine HD.out.mono ?_
      rintro e w2 ⟨rfl, rfl⟩
      have HB2 : Hid (Below w.heap.size w (w1.alloc (.cells #[.slice o n c] 22))) := HB.out.alloc HB.out.size _
      clear HD
      go_wp2_with fail
      refine (known_any _).mono ?_
      rintro e w3 ⟨rfl, hb⟩
      go_wp2
      go_ret
      exact ⟨rfl, HB2.out.trans (hb.mono HB2.out.size)⟩

theorem own : ownKnob Try.prog.godebug = none := by kernel_rfl

set_option maxRecDepth 100000 in
theorem lifted (os : Os) (started : os.Started) (H : Type) (enc : TypeId × Value → H) :
    ReturnsInHanded {} Try.checked os 4 .any (Rows.sumRowsSpec.pre6 enc Try.prog Try.f4 Rows.sumRowsRow.domain false) (Rows.sumRowsSpec.post enc Try.prog Try.f4 false true false false) := by
  refine returnsInHanded_of_change_sized (C := Try.checked) own started (by kernel_rfl) Try.func4
    (ChangeSpec.witness6 (enc := enc) (C := Try.checked) false ⟨#[], #[.slice none 0 0], []⟩ 8 (by kernel_rfl) (by kernel_rfl) (by kernel_rfl) (by kernel_rfl)) ?_
  intro W base args ds gs before hval0 hW _ hsz0 _
  have hval : ∀ (j : Nat) t v, Try.f4.params[j]? = some t → args[j]? = some v → Value.okWide Try.prog W .any base t v := hval0
  have hsz : (DataW.weightsEach Try.prog (Try.f4.params.toList ++ Rows.sumRowsSpec.plain.varTypes Try.prog) (ds ++ gs)).all (· ≤ reachBytes) = true := hsz0
  have hW' := hW
  obtain ⟨p, q, hA0, hV, rfl, _, _⟩ := hW
  have hA : DataW.TrodAll enc Try.prog W 0 (fun _ => true) true Try.f4.params.toList args.toList ds p := hA0
  rw [Try.params4] at hA hval hsz
  obtain ⟨v0, vs0, d0, ds0, p0, q0, hargs, rfl, rfl, h0, r0⟩ := trodAll_cons hA
  obtain ⟨rfl, rfl, rfl⟩ := trodAll_nil r0
  obtain rfl : args = #[v0] := by cases args; simp_all
  obtain ⟨rfl, rfl⟩ := trodVars_none hV
  have k0 := h0
  have lt0 : ∀ x ∈ p0, x.block < W.heap.size := by obtain ⟨m, hm⟩ := k0; exact DataW.trod_lt m _ _ _ hm
  have g0 := sweights_at hsz (j := 0) (t := 28) rfl rfl
  obtain ⟨o0, len0, cap0, rfl⟩ := okWide_slice Try.underlying28 (hval 0 28 v0 rfl rfl)
  obtain ⟨z0, e0, m0, s0, y0⟩ : ∃ l : List (List (BitVec 8)), l.length = len0 ∧ len0 ≤ maxLen ∧ hasRowsN W o0 l ∧ ∀ r ∈ l, r.length ≤ 140737488355328 := by
    obtain ⟨fuel, hf⟩ := h0
    obtain ⟨l, e1, e2, e3⟩ := open_rows hf
    exact ⟨l, e1, e2, e3, rows_sized hf g0 e1 e3.1⟩
  clear hA0 hval0
  refine (walk W o0 len0 cap0 z0 e0 m0 s0 y0).mono fun e W' ⟨he, bel⟩ => ?_
  subst he
  exact ⟨_, rfl, _, _, _, [], _, [], hW', trodAll_mk1 (shut_bool Try.underlying4 _), (trodAll_cons_mk (Below.trod laidOut (by kernel_rfl) (of_decide_eq_true (by kernel_rfl)) k0 bel lt0) trodAll_mk0), rfl, bel.frame _, fun h => by cases h⟩

theorem over : Rows.sumRowsRow.holds Try.pinned (OpenSpec.ofChange Rows.sumRowsSpec) :=
  OpenClaim.holds_of_wide 4 Try.f4 rfl rfl rfl rfl rfl rfl rfl ⟨rfl, rfl, rfl, rfl, rfl⟩ rfl rfl rfl rfl rfl (by kernel_rfl) Try.func4 (by kernel_rfl)
    (of_decide_eq_true (by kernel_rfl)) (by unfold Func.isWrapper; first | (rw [if_pos (by decide +kernel)]; kernel_rfl) | (rw [if_neg (by decide +kernel)]; exact ⟨rfl, rfl⟩))
    (fun os started H enc _ => lifted os started H enc)

end Go.Proofs.Ytjjlhofofeageaa.sumRows
namespace Go.Proofs.Ytjjlhofofeageaa
theorem sumRows_holds : Rows.SumRowsSaid := sumRows.over
#print axioms sumRows_holds
end Go.Proofs.Ytjjlhofofeageaa
