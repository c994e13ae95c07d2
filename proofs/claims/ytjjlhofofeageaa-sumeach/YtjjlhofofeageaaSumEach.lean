/-
  Of any length and place: SumEach returns true.
-/
import Derived.Test.YtjjlhofofeageaaRows
import Derived.Test.YtjjlhofofeageaaSmOwn
import Derived.Test.YtjjlhofofeageaaSmOpen
import Derived.Maps.OwnOps
import Derived.Maps.OwnSet
import Derived.WalkArith
import Derived.WalkKit
import Derived.ProofKit
import Derived.OpenShut
import Derived.ShutString
import Derived.ChangeOld
import Derived.Below
import Derived.SizedLaws
namespace Go.Proofs.Ytjjlhofofeageaa.sumEach
open Go.ChangeShapes Go.WideShapes Go.ChangeAt Go.RowKit Go.Maps

def rowE (n t c : Nat) : List (BitVec 8) := (List.replicate n (0#8)).set t (BitVec.ofNat 8 c)
theorem rowE_len (n t c : Nat) : (rowE n t c).length = n := by simp [rowE]
theorem rowE_inj {n t c d : Nat} (ht : t < n) (hc : c < 256) (hd : d < 256) (h : u32 (sumV (rowE n t c)) = u32 (sumV (rowE n t d))) : c = d := by
  have h1 := sum_set (List.replicate n (0#8)) t _ _ (by simpa using ht) (u32_inj h)
  have := congrArg BitVec.toNat h1
  rw [BitVec.toNat_ofNat, BitVec.toNat_ofNat] at this
  omega
abbrev sumN (p : List (BitVec 8)) : Int := u32 (sumV p)
def keyE (n t c : Nat) : Lit := .int .u32 (sumN (rowE n t c))
theorem u32_wf (x : BitVec 32) : (Lit.int .u32 (u32 x)).wf = true := by
  have h1 := x.isLt
  simp [Lit.wf, IntKind.max, IntKind.min, IntKind.bits, IntKind.signed, u32]
  omega
theorem u8_conv (c : Nat) : IntKind.u8.wrap (c : Int) = u8 (BitVec.ofNat 8 c) := by
  rw [wrap_u8]
  rfl
theorem lawE : Keyed Try.prog 23 := int_keyed Try.underlying23
theorem zeroE (w : World) : (zeroValue 3).run Try.prog w = .ok (.int .i64 0) w := by kernel_rfl

set_option maxRecDepth 1000000 in
set_option maxHeartbeats 4000000 in
theorem core (w : World) (n t : Nat) (hn : n ≤ 60) (ht : t < n) : Calls Try.prog 7 #[.int .i64 n, .int .i64 t] w fun e w' => e = .returned (.bool true) ∧ Below w.heap.size w w' := by
  have HN : Hid (n ≤ 60 ∧ t < n) := ⟨hn, ht⟩
  have q0 : ¬ ((n : Int) < 1) := by omega
  have q1 : ¬ ((60 : Int) < (n : Int)) := by omega
  have q2 : ¬ ((t : Int) < 0) := by omega
  have q3 : ¬ ((n : Int) ≤ (t : Int)) := by omega
  have hmm := @run_makeMap Try.prog
  go_enter Try.func7, Try.ntmps7
  go_wp2
  clear hmm q0 q1 q2 q3
  go_loopg [6] 256 (fun gk i wr => ∃ (k : Nat) (D : DataW Unit), gk = 256 - k ∧ i = .int .i64 k ∧ k ≤ 256 ∧ wr.ownsMap Try.prog 23 (plainElem Try.prog 3) w.heap.size k D ∧ Maps.size D = k ∧ (∀ j, k ≤ j → j < 256 → Maps.has D (keyE n t j) = false) ∧ Below w.heap.size w wr)
  case atStart => exact ⟨0, .map [], rfl, rfl, by omega, World.ownsMap_made _ _ _ _, rfl, fun j _ _ => rfl, (Below.refl _ _).alloc (Nat.le_refl _) _⟩
  case round =>
    obtain ⟨k, D, rfl, rfl, hk, hown, hsz, hno, hb⟩ := hrel
    have HO : Hid (wr.ownsMap Try.prog 23 (plainElem Try.prog 3) w.heap.size k D ∧ Maps.size D = k ∧ (∀ j, k ≤ j → j < 256 → Maps.has D (keyE n t j) = false)) := ⟨hown, hsz, hno⟩
    have HB : Hid (Below w.heap.size w wr) := hb
    clear hown hsz hno hb
    by_cases hlt : k < 256
    · have hki : (k : Int) < 256 := by omega
      have mb := mk_u8 n (by omega) wr
      generalize hcz : ((List.replicate n (0#8)).map u8C).toArray = cz at mb
      have HCZ : Hid (((List.replicate n (0#8)).map u8C).toArray = cz) := hcz
      have hct : cz[t]? = some (.int .u8 0) := by
        rw [← hcz]
        simp [ht]
        rfl
      have hcv := u8_conv k
      have hti : (t : Int) < (n : Int) := by omega
      clear hcz
      go_wp2_with fail
      have hcs : cz.setIfInBounds t (.int .u8 (u8 (BitVec.ofNat 8 k))) = ((rowE n t k).map u8C).toArray := by
        rw [← HCZ.out, rowE, List.map_set, List.setIfInBounds_toArray]
        rfl
      have D1 := one_any ((wr.alloc (.cells ((rowE n t k).map u8C).toArray 5)).alloc (.cells #[.slice (some ⟨wr.heap.size, 0, none⟩) n n] 22)) (wr.heap.size + 1) (some ⟨wr.heap.size, 0, none⟩) n (rowE n t k) 22 (by rw [rowE_len]; exact sblk_at1 _ _ _) (bytes_own (n := n) (sblk_old (sblk_new _ _)) (by rw [List.take_of_length_le (by simp [rowE_len])])) (by rw [rowE_len]; omega)
      have HD : Hid (Calls Try.prog 8 #[.slice (some ⟨wr.heap.size + 1, 0, none⟩) 1 1] ((wr.alloc (.cells ((rowE n t k).map u8C).toArray 5)).alloc (.cells #[.slice (some ⟨wr.heap.size, 0, none⟩) n n] 22)) fun e w' => e = .returned (.int .u32 (sumN (rowE n t k))) ∧ w' = ((wr.alloc (.cells ((rowE n t k).map u8C).toArray 5)).alloc (.cells #[.slice (some ⟨wr.heap.size, 0, none⟩) n n] 22))) := D1
      rw [hcs]
      clear D1 hcs mb hct hcv hti HCZ
      refine HD.out.mono ?_
      rintro e w1 ⟨rfl, rfl⟩
      clear HD
      have hown : ((wr.alloc (.cells ((rowE n t k).map u8C).toArray 5)).alloc (.cells #[.slice (some ⟨wr.heap.size, 0, none⟩) n n] 22)).ownsMap Try.prog 23 (plainElem Try.prog 3) w.heap.size k D := (HO.out.1.alloc _).alloc _
      have HB1 : Hid (Below w.heap.size w ((wr.alloc (.cells ((rowE n t k).map u8C).toArray 5)).alloc (.cells #[.slice (some ⟨wr.heap.size, 0, none⟩) n n] 22))) := by
        have h1 := HB.out.alloc HB.out.size (.cells ((rowE n t k).map u8C).toArray 5)
        exact h1.alloc h1.size _
      generalize hch : (wr.alloc (.cells ((rowE n t k).map u8C).toArray 5)).alloc (.cells #[.slice (some ⟨wr.heap.size, 0, none⟩) n n] 22) = w1 at hown HB1 ⊢
      clear hch
      have hkey : keyOf Try.prog 23 (.int .u32 (sumN (rowE n t k))) = some (.int .u32 (sumN (rowE n t k))) := keyOf_int_mk (k := 23) Try.underlying23 (u32_wf (sumV (rowE n t k)))
      go_wp2_with (first
        | (at_lookup; refine wpList_lookup_own_int _ rfl _ _ 32 rfl 23 3 .i64 lawE Try.underlying32 Try.underlying3 (zeroE _) w.heap.size k D rfl hown _ _ rfl hkey ?_; intro c hat hwc)
        | (at_mapUpdate; refine wpList_mapUpdate_own _ rfl _ _ _ 32 rfl 23 3 lawE Try.underlying32 _ w.heap.size k _ rfl hown (by unfold maxLen; omega) _ _ _ rfl rfl hkey _ [] (plainElem_int Try.underlying3 (wrap64_wf _)) ?_; intro w2 hown2 hgrow2))
      have hsz2 := HO.out.2.1
      have hno2 := HO.out.2.2
      have HB2 := HB1.out.grown hgrow2 HB1.out.size (fun j hj => by cases hj; exact Nat.le_refl _)
      have htidy := HO.out.1.tidy lawE
      go_roundg (256 - (k + 1))
      case rel =>
        refine ⟨k + 1, _, rfl, by go_num, by omega, hown2, ?_, fun j hj hj2 => ?_, HB2⟩
        · rw [size_put htidy, show Maps.has D (.int .u32 (sumN (rowE n t k))) = false from hno2 k (Nat.le_refl _) hlt, hsz2]
          simp
        · rw [has_put_other]
          · exact hno2 j (by omega) hj2
          · intro he
            have he2 : sumN (rowE n t j) = sumN (rowE n t k) := by
              unfold keyE at he
              injection he
            have := rowE_inj HN.out.2 hj2 hlt he2
            omega
      case measure => omega
    · have hk8 : k = 256 := by omega
      subst hk8
      have hown := HO.out.1
      have hsz := HO.out.2.1
      have hlen := hown.len (t := 32) (e := 3) Try.underlying32 3
      rw [hsz] at hlen
      clear hsz hown
      go_wp2_with fail
      refine (known_any _).mono ?_
      rintro e w3 ⟨rfl, hb⟩
      go_wp2
      go_ret
      exact ⟨rfl, HB.out.trans (hb.mono HB.out.size)⟩

theorem walk (n t : Int) (_ : (Lit.int IntKind.i64 n).wf = true) (_ : (Lit.int IntKind.i64 t).wf = true) (w : World) : Calls Try.prog 7 #[.int .i64 n, .int .i64 t] w fun e w' => e = .returned (.bool true) ∧ Below w.heap.size w w' := by
  by_cases h0 : n < 1
  · go_enter Try.func7, Try.ntmps7
    go_wp2
    go_ret
    exact ⟨rfl, Below.refl _ _⟩
  by_cases h1 : 60 < n
  · go_enter Try.func7, Try.ntmps7
    go_wp2
    go_ret
    exact ⟨rfl, Below.refl _ _⟩
  by_cases h2 : t < 0
  · go_enter Try.func7, Try.ntmps7
    go_wp2
    go_ret
    exact ⟨rfl, Below.refl _ _⟩
  by_cases h3 : n ≤ t
  · go_enter Try.func7, Try.ntmps7
    go_wp2
    go_ret
    exact ⟨rfl, Below.refl _ _⟩
  obtain ⟨N, rfl⟩ : ∃ N : Nat, n = N := ⟨n.toNat, by omega⟩
  obtain ⟨T, rfl⟩ : ∃ T : Nat, t = T := ⟨t.toNat, by omega⟩
  exact core w N T (by omega) (by omega)

theorem own : ownKnob Try.prog.godebug = none := by kernel_rfl

set_option maxRecDepth 100000 in
theorem lifted (os : Os) (started : os.Started) (H : Type) (enc : TypeId × Value → H) :
    ReturnsInHanded {} Try.checked os 7 .any (Rows.sumEachSpec.pre6 enc Try.prog Try.f7 Rows.sumEachRow.domain false) (Rows.sumEachSpec.post enc Try.prog Try.f7 false true false false) := by
  refine returnsInHanded_of_change (C := Try.checked) own started (by kernel_rfl) Try.func7
    (ChangeSpec.witness6 (enc := enc) (C := Try.checked) false ⟨#[], #[.int .i64 0, .int .i64 0], []⟩ 8 (by kernel_rfl) (by kernel_rfl) (by kernel_rfl) (by kernel_rfl)) ?_
  intro W base args ds gs before hval0 hW _ _
  have hval : ∀ (j : Nat) t v, Try.f7.params[j]? = some t → args[j]? = some v → Value.okWide Try.prog W .any base t v := hval0
  have hW' := hW
  obtain ⟨p, q, hA0, hV, rfl, _, _⟩ := hW
  have hA : DataW.TrodAll enc Try.prog W 0 (fun _ => true) true Try.f7.params.toList args.toList ds p := hA0
  rw [Try.params7] at hA hval
  obtain ⟨v0, vs0, d0, ds0, p0, q0, hargs, rfl, rfl, h0, r0⟩ := trodAll_cons hA
  obtain ⟨v1, vs1, d1, ds1, p1, q1, rfl, rfl, rfl, h1, r1⟩ := trodAll_cons r0
  obtain ⟨rfl, rfl, rfl⟩ := trodAll_nil r1
  obtain rfl : args = #[v0, v1] := by cases args; simp_all
  obtain ⟨rfl, rfl⟩ := trodVars_none hV
  obtain ⟨a0, rfl, rfl, rfl, w0⟩ := open_int Try.underlying3 (hval 0 3 v0 rfl rfl) h0
  obtain ⟨a1, rfl, rfl, rfl, w1⟩ := open_int Try.underlying3 (hval 1 3 v1 rfl rfl) h1
  clear hA0 hval0
  refine (walk a0 a1 w0 w1 W).mono fun e W' ⟨he, bel⟩ => ?_
  subst he
  exact ⟨_, rfl, _, _, _, [], _, [], hW', trodAll_mk1 (shut_bool Try.underlying4 _), (trodAll_cons_mk (shut_int Try.underlying3 w0) (trodAll_cons_mk (shut_int Try.underlying3 w1) trodAll_mk0)), rfl, bel.frame _, fun h => by cases h⟩

theorem over : Rows.sumEachRow.holds Try.pinned (OpenSpec.ofChange Rows.sumEachSpec) :=
  OpenClaim.holds_of_wide 7 Try.f7 rfl rfl rfl rfl rfl rfl rfl ⟨rfl, rfl, rfl, rfl, rfl⟩ rfl rfl rfl rfl rfl (by kernel_rfl) Try.func7 (by kernel_rfl)
    (of_decide_eq_true (by kernel_rfl)) (by unfold Func.isWrapper; first | (rw [if_pos (by decide +kernel)]; kernel_rfl) | (rw [if_neg (by decide +kernel)]; exact ⟨rfl, rfl⟩))
    (fun os started H enc _ => lifted os started H enc)

end Go.Proofs.Ytjjlhofofeageaa.sumEach
namespace Go.Proofs.Ytjjlhofofeageaa
theorem sumEach_holds : Rows.SumEachSaid := sumEach.over
#print axioms sumEach_holds
end Go.Proofs.Ytjjlhofofeageaa
