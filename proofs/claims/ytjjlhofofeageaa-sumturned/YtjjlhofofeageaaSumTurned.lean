/-
  Of any bytes, a place and a byte: SumTurned returns true.
-/
import Derived.Test.YtjjlhofofeageaaRows
import Derived.Test.YtjjlhofofeageaaSmOwn
import Derived.Test.YtjjlhofofeageaaSmOpen
import Derived.WalkKit
import Derived.ProofKit
import Derived.OpenShut
import Derived.ShutString
import Derived.ChangeOld
import Derived.Below
import Derived.SizedLaws
namespace Go.Proofs.Ytjjlhofofeageaa.sumTurned
open Go.ChangeShapes Go.WideShapes Go.ChangeAt Go.RowKit

theorem turned_ne (p : List (BitVec 8)) (k : Nat) (x y : BitVec 8) (hk : p[k]? = some x) (hy : y ≠ 0#8) : u32 (sumV p) ≠ u32 (sumV (p.set k (x ^^^ y))) := fun h => by
  obtain ⟨hlt, hx⟩ := List.getElem?_eq_some_iff.1 hk
  have h1 := u32_inj h
  have e : p = p.set k x := by rw [← hx, List.set_getElem_self]
  rw [show sumV p = sumV (p.set k x) by rw [← e]] at h1
  have h2 := sum_set p k x (x ^^^ y) hlt h1
  apply hy
  have h3 := congrArg (x ^^^ ·) h2
  simp [← BitVec.xor_assoc] at h3
  exact h3.symm
theorem i64_low16 (n : Int) : bits .and .i64 n 65535 = n % 65536 := by
  have h1 : (BitVec.ofInt 64 65535).toNat = 2 ^ 16 - 1 := by decide
  have key : (BitVec.ofInt 64 n &&& BitVec.ofInt 64 65535).toNat = (n % ((2 ^ 64 : Nat) : Int)).toNat % 2 ^ 16 := by
    rw [BitVec.toNat_and, BitVec.toNat_ofInt, h1, Nat.and_two_pow_sub_one_eq_mod]
  show IntKind.i64.wrap ((BitVec.ofInt 64 n &&& BitVec.ofInt 64 65535).toNat : Nat) = n % 65536
  rw [key, IntKind.wrap_i64]
  omega
theorem u8_zero (y : BitVec 8) : u8 y = 0 ↔ y = 0#8 := ⟨fun h => u8_inj h, fun h => by rw [h]; rfl⟩

set_option maxRecDepth 1000000 in
set_option maxHeartbeats 4000000 in
theorem core (w : World) (oa : Option Addr) (cap : Nat) (p : List (BitVec 8)) (hp : hasBytes w oa p) (t : Int) (y : BitVec 8) : Calls Try.prog 5 #[.slice oa p.length cap, .int .i64 t, .int .u8 (u8 y)] w fun e w' => e = .returned (.bool true) ∧ Below w.heap.size w w' := by
  by_cases h0 : p.length < 1
  · have hi : (p.length : Int) < 1 := by omega
    go_enter Try.func5, Try.ntmps5
    go_wp2
    go_ret
    exact ⟨rfl, Below.refl _ _⟩
  by_cases h1 : 1000 < p.length
  · have hi : (1000 : Int) < (p.length : Int) := by omega
    have hj : ¬ (p.length : Int) < 1 := by omega
    go_enter Try.func5, Try.ntmps5
    go_wp2
    go_ret
    exact ⟨rfl, Below.refl _ _⟩
  by_cases h2 : y = 0#8
  · have hi : ¬ (1000 : Int) < (p.length : Int) := by omega
    have hj : ¬ (p.length : Int) < 1 := by omega
    have hz : (u8 y == 0) = true := by rw [h2]; rfl
    clear h2
    go_enter Try.func5, Try.ntmps5
    go_wp2
    go_ret
    exact ⟨rfl, Below.refl _ _⟩
  obtain ⟨b0, hb0⟩ : ∃ x, p[0]? = some x := ⟨p[0], List.getElem?_eq_getElem (by omega)⟩
  obtain ⟨b, off, rfl, _⟩ := hp 0 b0 hb0
  obtain ⟨k, hk⟩ : ∃ k : Nat, k = ((t % 65536) % (p.length : Int)).toNat := ⟨_, rfl⟩
  have hkl : k < p.length := by
    have := Int.emod_lt_of_pos (t % 65536) (show (0 : Int) < (p.length : Int) by omega)
    have := Int.emod_nonneg (t % 65536) (show (p.length : Int) ≠ 0 by omega)
    omega
  have hkk : (t % 65536) % (p.length : Int) = (k : Int) := by
    have := Int.emod_nonneg (t % 65536) (show (p.length : Int) ≠ 0 by omega)
    omega
  obtain ⟨x, hx⟩ : ∃ x, p[k]? = some x := ⟨p[k], List.getElem?_eq_getElem hkl⟩
  have HP : Hid (hasBytes w (some ⟨b, off, none⟩) p ∧ p.length ≤ 1000) := ⟨hp, by omega⟩
  have HX : Hid (p[k]? = some x ∧ k < p.length ∧ y ≠ 0#8) := ⟨hx, hkl, h2⟩
  have hne := turned_ne p k x y hx h2
  have HK : Hid ((t % 65536) % (p.length : Int) = (k : Int)) := hkk
  have hi : ¬ (1000 : Int) < (p.length : Int) := by omega
  have hj : ¬ (p.length : Int) < 1 := by omega
  have hz : (u8 y == 0) = false := by simpa [u8_zero] using h2
  have hlow := i64_low16 t
  have hm : p.length ≤ 1000 := by omega
  clear hb0 hk hkl hkk hx h2 h0 h1 hp
  obtain ⟨i0, hi0, hz0, hz1, hz2⟩ := sinfo_parts infoB
  go_enter Try.func5, Try.ntmps5
  have hown0 : (w.alloc (.cells #[] 5)).ownsRow w.heap.size 5 1 (.slice (some ⟨w.heap.size, 0, none⟩) 0 0) 0 [] := ⟨rfl, .inr ⟨w.heap.size, 0, #[], rfl, Nat.le_refl _, sblk_new _ _, Nat.le_refl _, Nat.zero_le _, rfl, rfl⟩⟩
  have HB0 : Hid (Below w.heap.size w (w.alloc (.cells #[] 5))) := (Below.refl _ _).alloc (Nat.le_refl _) _
  have HN : Hid (∀ j u, (p.map u8C)[j]? = some u → (w.alloc (.cells #[] 5)).cell? ((⟨b, off, none⟩ : Addr).add j) = some u) := news_bytes (HP.out.1.below HB0.out)
  go_wp2_with (at_builtin; refine wpList_append_own_at _ rfl _ _ 22 rfl w.heap.size 5 i0 (.int .u8 0) 1 1 Try.underlying22 hi0 hz0 hz1 hz2 rfl (by decide) _ 0 [] rfl hown0 ⟨b, off, none⟩ p.length cap (p.map u8C) rfl (by simp) HN.out (one_u8 p) (by unfold maxLen; omega) (by omega) HB0.out.size ?_)
  intro v' w1 hown' hgrow _ _
  have hB1 := HB0.out.trans ((below_grown (base := w.heap.size) hgrow HB0.out.size (fun g hg => by cases hg; exact Nat.le_refl _)))
  have HB1 : Hid (Below w.heap.size w w1) := hB1
  clear hgrow hown0 HN HB0 hB1 hi0 hz0 hz1 hz2
  have hown2 : w1.ownsRow w.heap.size 5 1 v' p.length (p.map u8C) := by simpa using hown'
  clear hown'
  obtain ⟨-, h⟩ := hown2
  rcases h with ⟨-, h⟩ | ⟨g, cc, cur, rfl, hge, hg, hcc, hmx, hcs, htk⟩
  · omega
  rw [Nat.mul_one] at hcs htk
  have HS := bytes_set hg hcs htk k (x ^^^ y)
  have HG : Hid (hasBytes (w1.setCell ⟨g, k, none⟩ (.int .u8 (u8 (x ^^^ y)))) (some ⟨g, 0, none⟩) (p.set k (x ^^^ y))) := bytes_own HS.1 HS.2.2
  have HB2 : Hid (Below w.heap.size w (w1.setCell ⟨g, k, none⟩ (.int .u8 (u8 (x ^^^ y))))) := HB1.out.setCell hge _
  have hck : w1.cell? ⟨g, k, none⟩ = some (.int .u8 (u8 x)) := by
    obtain ⟨b', o', e, hc⟩ := bytes_own hg htk k x HX.out.1
    injection e with e
    injection e with e1 e2
    subst e1 e2
    simpa using hc
  have hfk : w1.frozen? ⟨g, k, none⟩ = false := by simp [World.frozen?, hg]
  have hux := u8_xor x y
  have hkn : (k : Int) < (p.length : Int) := by have := HX.out.2.1; omega
  clear HS hge hg hcc hmx hcs htk
  have hkk : t % 65536 % (p.length : Int) = (k : Int) := HK.out
  have HBA : Hid (∀ W v, Below w.heap.size w W → Below w.heap.size w (W.alloc (.cells #[v] 22))) := fun W v h => h.alloc h.size _
  generalize hch : w1.setCell ⟨g, k, none⟩ (.int .u8 (u8 (x ^^^ y))) = w2 at HG HB2
  have hch' : Hid (w1.setCell ⟨g, k, none⟩ (.int .u8 (u8 (x ^^^ y))) = w2) := hch
  have HZ : Hid (w1.heap.size = w2.heap.size) := by show _ = _; rw [← hch]; simp
  clear hch
  have HL : Hid ((p.set k (x ^^^ y)).length = p.length) := by show _ = _; simp
  go_wp2_with fail
  rw [hch'.out, HZ.out]
  clear hck hfk hux hkn hkk hlow
  refine (one_any (w2.alloc (.cells #[.slice (some ⟨b, off, none⟩) p.length cap] 22)) w2.heap.size (some ⟨b, off, none⟩) cap p 22 (sblk_new _ _) (HP.out.1.below (HBA.out _ _ HB2.out)) (by omega)).mono ?_
  rintro e w3 ⟨rfl, rfl⟩
  generalize hch2 : w2.alloc (.cells #[.slice (some ⟨b, off, none⟩) p.length cap] 22) = w3
  have HB3 : Hid (Below w.heap.size w w3) := by show Below _ _ _; rw [← hch2]; exact HBA.out _ _ HB2.out
  have HG3 : Hid (hasBytes w3 (some ⟨g, 0, none⟩) (p.set k (x ^^^ y))) := by show hasBytes _ _ _; rw [← hch2]; exact HG.out.below ((Below.refl _ _).alloc (Nat.le_refl _) _)
  clear hch2 hch' HZ
  go_wp2_with fail
  have D := one_any (w3.alloc (.cells #[.slice (some ⟨g, 0, none⟩) p.length cc] 22)) w3.heap.size (some ⟨g, 0, none⟩) cc (p.set k (x ^^^ y)) 22 (by rw [HL.out]; exact sblk_new _ _) (HG3.out.below ((Below.refl _ _).alloc (Nat.le_refl _) _)) (by rw [HL.out]; omega)
  refine D.mono ?_
  rintro e w4 ⟨rfl, rfl⟩
  clear D
  have hnb : (u32 (sumV p) != u32 (sumV (p.set k (x ^^^ y)))) = true := by simpa using hne
  go_wp2_with fail
  refine (known_any _).mono ?_
  rintro e w5 ⟨rfl, hb⟩
  have HB4 : Hid (Below w.heap.size w (w3.alloc (.cells #[.slice (some ⟨g, 0, none⟩) p.length cc] 22))) := HBA.out _ _ HB3.out
  go_wp2
  go_ret
  exact ⟨rfl, HB4.out.trans (hb.mono HB4.out.size)⟩

theorem walk (w : World) (oa : Option Addr) (len cap : Nat) (p : List (BitVec 8)) (hlen : p.length = len) (_ : len ≤ maxLen) (hp : hasBytes w oa p) (t y : Int) (_ : (Lit.int IntKind.i64 t).wf = true) (hy : (Lit.int IntKind.u8 y).wf = true) : Calls Try.prog 5 #[.slice oa len cap, .int .i64 t, .int .u8 y] w fun e w' => e = .returned (.bool true) ∧ Below w.heap.size w w' := by
  subst hlen
  rw [← u8_of y hy]
  exact core w oa cap p hp t _

theorem own : ownKnob Try.prog.godebug = none := by kernel_rfl

set_option maxRecDepth 100000 in
theorem lifted (os : Os) (started : os.Started) (H : Type) (enc : TypeId × Value → H) :
    ReturnsInHanded {} Try.checked os 5 .any (Rows.sumTurnedSpec.pre6 enc Try.prog Try.f5 Rows.sumTurnedRow.domain false) (Rows.sumTurnedSpec.post enc Try.prog Try.f5 false true false false) := by
  refine returnsInHanded_of_change (C := Try.checked) own started (by kernel_rfl) Try.func5
    (ChangeSpec.witness6 (enc := enc) (C := Try.checked) false ⟨#[], #[.slice none 0 0, .int .i64 0, .int .u8 0], []⟩ 8 (by kernel_rfl) (by kernel_rfl) (by kernel_rfl) (by kernel_rfl)) ?_
  intro W base args ds gs before hval0 hW _ _
  have hval : ∀ (j : Nat) t v, Try.f5.params[j]? = some t → args[j]? = some v → Value.okWide Try.prog W .any base t v := hval0
  have hW' := hW
  obtain ⟨p, q, hA0, hV, rfl, _, _⟩ := hW
  have hA : DataW.TrodAll enc Try.prog W 0 (fun _ => true) true Try.f5.params.toList args.toList ds p := hA0
  rw [Try.params5] at hA hval
  obtain ⟨v0, vs0, d0, ds0, p0, q0, hargs, rfl, rfl, h0, r0⟩ := trodAll_cons hA
  obtain ⟨v1, vs1, d1, ds1, p1, q1, rfl, rfl, rfl, h1, r1⟩ := trodAll_cons r0
  obtain ⟨v2, vs2, d2, ds2, p2, q2, rfl, rfl, rfl, h2, r2⟩ := trodAll_cons r1
  obtain ⟨rfl, rfl, rfl⟩ := trodAll_nil r2
  obtain rfl : args = #[v0, v1, v2] := by cases args; simp_all
  obtain ⟨rfl, rfl⟩ := trodVars_none hV
  obtain ⟨a0, len0, cap0, rfl⟩ := okWide_slice Try.underlying22 (hval 0 22 v0 rfl rfl)
  have k0 := h0
  have lt0 : ∀ x ∈ p0, x.block < W.heap.size := by obtain ⟨m, hm⟩ := k0; exact DataW.trod_lt m _ _ _ hm
  obtain ⟨z0, e0, m0, s0⟩ : ∃ l : List (BitVec 8), l.length = len0 ∧ len0 ≤ maxLen ∧ hasBytes W a0 l := by
    obtain ⟨fuel, hf⟩ := h0
    exact open_bytes hf
  obtain ⟨a1, rfl, rfl, rfl, w1⟩ := open_int Try.underlying3 (hval 1 3 v1 rfl rfl) h1
  obtain ⟨a2, rfl, rfl, rfl, w2⟩ := open_int Try.underlying5 (hval 2 5 v2 rfl rfl) h2
  clear hA0 hval0
  refine (walk W a0 len0 cap0 z0 e0 m0 s0 a1 a2 w1 w2).mono fun e W' ⟨he, bel⟩ => ?_
  subst he
  exact ⟨_, rfl, _, _, _, [], _, [], hW', trodAll_mk1 (shut_bool Try.underlying4 _), (trodAll_cons_mk (Below.trod laidOut (by kernel_rfl) (of_decide_eq_true (by kernel_rfl)) k0 bel lt0) (trodAll_cons_mk (shut_int Try.underlying3 w1) (trodAll_cons_mk (shut_int Try.underlying5 w2) trodAll_mk0))), rfl, bel.frame _, fun h => by cases h⟩

theorem over : Rows.sumTurnedRow.holds Try.pinned (OpenSpec.ofChange Rows.sumTurnedSpec) :=
  OpenClaim.holds_of_wide 5 Try.f5 rfl rfl rfl rfl rfl rfl rfl ⟨rfl, rfl, rfl, rfl, rfl⟩ rfl rfl rfl rfl rfl (by kernel_rfl) Try.func5 (by kernel_rfl)
    (of_decide_eq_true (by kernel_rfl)) (by unfold Func.isWrapper; first | (rw [if_pos (by decide +kernel)]; kernel_rfl) | (rw [if_neg (by decide +kernel)]; exact ⟨rfl, rfl⟩))
    (fun os started H enc _ => lifted os started H enc)

end Go.Proofs.Ytjjlhofofeageaa.sumTurned
namespace Go.Proofs.Ytjjlhofofeageaa
theorem sumTurned_holds : Rows.SumTurnedSaid := sumTurned.over
#print axioms sumTurned_holds
end Go.Proofs.Ytjjlhofofeageaa
