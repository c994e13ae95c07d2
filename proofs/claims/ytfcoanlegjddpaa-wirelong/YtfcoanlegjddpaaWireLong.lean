/-
  Of any two numbers: WireLong returns true. No condition.
-/
import Derived.Test.YtfcoanlegjddpaaRows
import Derived.Test.YtfcoanlegjddpaaWrBackP
import Derived.Test.YtfcoanlegjddpaaCrOpen
import Derived.WalkKit
import Derived.ProofKit
import Derived.OpenShut
import Derived.ShutString
import Derived.ChangeOld
import Derived.Below
import Derived.SizedLaws
import Derived.ShutString
namespace Go.Proofs.Ytfcoanlegjddpaa.wireLong
open Go.ChangeShapes Go.WideShapes Go.ChangeAt Go.RowKit

def zeros (S : Nat) : List (BitVec 8) := List.replicate S (0#8)
def txt (S : Nat) : It := .inr (.inl (strV (zeros S)))
theorem zeros_len (S : Nat) : (zeros S).length = S := by simp [zeros]
theorem txt_long (S : Nat) : longT (txt S) = decide (200 < S) := by
  show decide (200 < (strV (zeros S)).size) = _
  rw [str_size, zeros_len]
theorem txts_len (S : Nat) : ∀ N, ((List.replicate N (txt S)).flatMap thingV).length = N * (2 + S)
  | 0 => by simp
  | N + 1 => by
    have h : (thingV (txt S)).length = 2 + S := by
      show (2#8 :: BitVec.ofNat 8 _ :: bytesS (strV (zeros S))).length = _
      rw [List.length_cons, List.length_cons, bytes_str, zeros_len]
      omega
    rw [List.replicate_succ, List.flatMap_cons, List.length_append, txts_len S N, h, Nat.add_mul]
    omega
theorem txts_small (S N : Nat) (hS : S ≤ 250) : SmallL (List.replicate N (txt S)) := small_of fun x hx => by
  rw [(List.mem_replicate.1 hx).2]
  show (strV (zeros S)).size ≤ _
  rw [str_size, zeros_len]
  omega
theorem txts_pack (S N : Nat) (h : S ≤ 200 ∨ N = 0) : packV (List.replicate N (txt S)) = if 4000 < 1 + N * (2 + S) then none else some (telV (bodyV (List.replicate N (txt S)))) := by
  have hs : ∀ x ∈ List.replicate N (txt S), longT x = false := fun x hx => by
    obtain ⟨h1, h2⟩ := List.mem_replicate.1 hx
    rw [h2, txt_long]
    exact decide_eq_false (by omega)
  rw [pack_short hs]
  have : (bodyV (List.replicate N (txt S))).length = 1 + N * (2 + S) := by
    unfold bodyV
    rw [List.length_cons, txts_len]
    omega
  rw [this]
theorem txts_no (S N : Nat) (h : 200 < S) (hN : N ≠ 0) : packV (List.replicate N (txt S)) = none :=
  pack_long (k := 0) (x := txt S) (by cases N with
    | zero => exact absurd rfl hN
    | succ N => rfl) (by rw [txt_long]; exact decide_eq_true h)
theorem txts_tel (S N : Nat) (h : 1 + N * (2 + S) ≤ 4000) : (telV (bodyV (List.replicate N (txt S)))).length = 7 + N * (2 + S) := by
  have : (bodyV (List.replicate N (txt S))).length = 1 + N * (2 + S) := by
    unfold bodyV
    rw [List.length_cons, txts_len]
    omega
  rw [(tel_num (by rw [this]; exact h)).2, this]
  omega
theorem put_txt (S k : Nat) (h : k < 100) : put (List.replicate k (txt S)) (.inr (.inl (strV (zeros S)))) = List.replicate (k + 1) (txt S) := by
  unfold put
  rw [List.length_replicate, if_pos h, List.replicate_succ']
  rfl

set_option maxRecDepth 1000000 in
set_option maxHeartbeats 2000000 in
theorem core (w : World) (N S : Nat) (hN : N ≤ 100) (hS : S ≤ 250) :
    Calls Try.prog 8 #[.int .i64 (N : Int), .int .i64 (S : Int)] w fun e w' => e = .returned (.bool true) ∧ Below w.heap.size w w' := by
  have C0 : Hid (Crate (w.alloc (.cells #[.slice none 0 0] 78)) w.heap.size w.heap.size (.slice none 0 0) [] ∧ Below w.heap.size w (w.alloc (.cells #[.slice none 0 0] 78))) :=
    ⟨crate_new w, (Below.refl _ _).alloc (Nat.le_refl _) _⟩
  obtain ⟨M, hM⟩ : ∃ M, M = N * (2 + S) := ⟨_, rfl⟩
  have HM : Hid (N * (2 + S) = M) := hM.symm
  have hMi : (N : Int) * (2 + (S : Int)) = (M : Int) := by rw [hM]; simp
  have hMb : M ≤ 25200 := by rw [hM]; exact Nat.mul_le_mul hN (show 2 + S ≤ 252 by omega)
  clear hM
  have hmk := fun W => mk_u8 S (by omega) W
  have HC : Hid (∀ W : World, (convert 28 9 (.slice (some ⟨W.heap.size, 0, none⟩) S S)).run Try.prog (W.alloc (.cells ((List.replicate S (0#8)).map u8C).toArray 5)) = .ok (.string (strV (zeros S))) (W.alloc (.cells ((List.replicate S (0#8)).map u8C).toArray 5))) := fun W => by
    have := conv_any (some ⟨W.heap.size, 0, none⟩) (zeros S) S (W.alloc (.cells ((List.replicate S (0#8)).map u8C).toArray 5)) (bytes_cells (sblk_new _ _) fun j x hj => by
      rw [List.getElem?_toArray, List.getElem?_map]
      show Option.map _ (zeros S)[j]? = _
      rw [hj]
      rfl)
    rw [zeros_len] at this
    exact this
  go_enter Try.func8, Try.ntmps8
  go_wp2_with fail
  refine (new_any _).mono ?_
  rintro e w2 ⟨rfl, rfl⟩
  generalize hw1 : w.alloc (.cells #[.slice none 0 0] 78) = w1 at *
  clear hw1
  go_wp2
  go_loopg [6] N (fun gk i wr => ∃ k : Nat, ∃ v, gk = N - k ∧ i = .int .i64 k ∧ k ≤ N ∧ Crate wr w.heap.size w.heap.size v (List.replicate k (txt S)) ∧ Below w.heap.size w wr)
  case atStart => exact ⟨0, _, rfl, rfl, by omega, C0.out.1, C0.out.2⟩
  case round =>
    obtain ⟨k, v, rfl, rfl, hk, h1, h2⟩ := hrel
    have HR : Hid (Crate wr w.heap.size w.heap.size v (List.replicate k (txt S)) ∧ Below w.heap.size w wr) := ⟨h1, h2⟩
    clear h1 h2 C0
    by_cases hlt : k < N
    · have hki : (k : Int) < (N : Int) := by omega
      have HA : Hid (∀ o, Crate (wr.alloc o) w.heap.size w.heap.size v (List.replicate k (txt S)) ∧ Below w.heap.size w (wr.alloc o)) := fun o =>
        ⟨⟨HR.out.1.1.below ((Below.refl _ _).alloc (Nat.le_refl _) _), HR.out.1.2⟩, HR.out.2.alloc HR.out.2.size _⟩
      have HSZ : Hid ((strV (zeros S)).size ≤ 281474976710656) := by show _ ≤ _; rw [str_size, zeros_len]; omega
      have hcv := HC.out wr
      rw [List.map_replicate, List.toArray_replicate] at hcv
      go_wp2_with fail
      refine (addText_any (strV (zeros S)) _ _ _ _ _ (HA.out _).1 HSZ.out).mono ?_
      rintro e w2 ⟨v', rfl, h1, t1⟩
      have HE : Hid (Crate w2 w.heap.size w.heap.size v' (List.replicate (k + 1) (txt S)) ∧ Below w.heap.size w w2) := by
        rw [put_txt S k (by omega)] at h1
        exact ⟨h1, (HA.out _).2.trans ((HA.out _).1.1.turnBelow t1)⟩
      clear h1 t1
      go_wp2
      go_roundg (N - (k + 1))
      case rel => exact ⟨k + 1, v', rfl, by go_num, by omega, HE.out⟩
      case measure => omega
    · have hkN : k = N := by omega
      subst hkN
      have HI : Hid (Reads wr (.pointer (some ⟨w.heap.size, 0, none⟩)) (List.replicate k (txt S)) ∧ (List.replicate k (txt S)).length ≤ 100 ∧ SmallL (List.replicate k (txt S))) := ⟨HR.out.1.reads, by rw [List.length_replicate]; exact hN, txts_small S k hS⟩
      clear hmk HC
      by_cases h200 : S ≤ 200
      · have h2i : (S : Int) ≤ 200 := by omega
        have HP := txts_pack S k (.inl h200)
        have HT := txts_tel S k
        rw [HM.out] at HP HT
        by_cases h4 : 4000 < 1 + M
        · have h4i : ¬ 1 + (M : Int) ≤ 4000 := by omega
          rw [if_pos h4] at HP
          have HE : Hid (packE (List.replicate k (txt S)) = 1 ∧ (packV (List.replicate k (txt S))).getD [] = []) := ⟨by rw [packE, HP]; rfl, by rw [HP]; rfl⟩
          clear HP HT
          go_wp2_with fail
          refine (pack_any w.heap.size _ wr HI.out.1 HI.out.2.1 HI.out.2.2).mono ?_
          rw [HE.out.1, HE.out.2]
          rintro e w3 ⟨v3, rfl, h3, h4⟩
          obtain ⟨o3, c3, rfl⟩ := h3.form
          have HX : Hid (Below w.heap.size w w3) := HR.out.2.trans (h4.mono HR.out.2.size)
          have hl0 : ([] : List (BitVec 8)).length = 0 := rfl
          rw [hl0]
          clear h3 h4 hl0
          go_wp2_with fail
          refine (known_any w3).mono ?_
          rintro e w5 ⟨rfl, hk⟩
          have HB5 : Hid (Below w.heap.size w w5) := HX.out.trans (hk.mono HX.out.size)
          clear hk
          go_wp2
          go_ret
          exact ⟨rfl, HB5.out⟩
        · have h4i : 1 + (M : Int) ≤ 4000 := by omega
          rw [if_neg h4] at HP
          obtain ⟨b, hb⟩ : ∃ b, b = telV (bodyV (List.replicate k (txt S))) := ⟨_, rfl⟩
          have HE : Hid (packE (List.replicate k (txt S)) = 0 ∧ (packV (List.replicate k (txt S))).getD [] = b ∧ b.length = 7 + M) := ⟨by rw [packE, HP]; rfl, by rw [HP, hb]; rfl, by rw [hb]; exact HT (by omega)⟩
          clear HP HT hb
          go_wp2_with fail
          refine (pack_any w.heap.size _ wr HI.out.1 HI.out.2.1 HI.out.2.2).mono ?_
          rw [HE.out.1, HE.out.2.1]
          rintro e w3 ⟨v3, rfl, h3, h4⟩
          obtain ⟨o3, c3, ev⟩ := h3.form
          rw [HE.out.2.2] at ev
          subst ev
          have HX : Hid (Below w.heap.size w w3) := HR.out.2.trans (h4.mono HR.out.2.size)
          clear h3 h4
          go_wp2_with fail
          refine (known_any w3).mono ?_
          rintro e w5 ⟨rfl, hk⟩
          have HB5 : Hid (Below w.heap.size w w5) := HX.out.trans (hk.mono HX.out.size)
          clear hk
          go_wp2
          go_ret
          exact ⟨rfl, HB5.out⟩
      · have h2i : ¬ (S : Int) ≤ 200 := by omega
        by_cases hk0 : k = 0
        · subst hk0
          have hM0 : M = 0 := by have := HM.out; simpa using this.symm
          subst hM0
          have HP := txts_pack S 0 (.inr rfl)
          have HT := txts_tel S 0 (by omega)
          rw [HM.out] at HP HT
          rw [if_neg (by omega)] at HP
          obtain ⟨b, hb⟩ : ∃ b, b = telV (bodyV (List.replicate 0 (txt S))) := ⟨_, rfl⟩
          have HE : Hid (packE (List.replicate 0 (txt S)) = 0 ∧ (packV (List.replicate 0 (txt S))).getD [] = b ∧ b.length = 7) := ⟨by rw [packE, HP]; rfl, by rw [HP, hb]; rfl, by rw [hb]; exact HT⟩
          clear HP HT hb
          go_wp2_with fail
          refine (pack_any w.heap.size _ wr HI.out.1 HI.out.2.1 HI.out.2.2).mono ?_
          rw [HE.out.1, HE.out.2.1]
          rintro e w3 ⟨v3, rfl, h3, h4⟩
          obtain ⟨o3, c3, ev⟩ := h3.form
          rw [HE.out.2.2] at ev
          subst ev
          have HX : Hid (Below w.heap.size w w3) := HR.out.2.trans (h4.mono HR.out.2.size)
          clear h3 h4
          go_wp2_with fail
          refine (known_any w3).mono ?_
          rintro e w5 ⟨rfl, hk⟩
          have HB5 : Hid (Below w.heap.size w w5) := HX.out.trans (hk.mono HX.out.size)
          clear hk
          go_wp2
          go_ret
          exact ⟨rfl, HB5.out⟩
        · have hk0i : ((k : Int) == 0) = false := by simp; omega
          have HP := txts_no S k (by omega) hk0
          have HE : Hid (packE (List.replicate k (txt S)) = 1 ∧ (packV (List.replicate k (txt S))).getD [] = []) := ⟨by rw [packE, HP]; rfl, by rw [HP]; rfl⟩
          clear HP hk0
          go_wp2_with fail
          refine (pack_any w.heap.size _ wr HI.out.1 HI.out.2.1 HI.out.2.2).mono ?_
          rw [HE.out.1, HE.out.2]
          rintro e w3 ⟨v3, rfl, h3, h4⟩
          obtain ⟨o3, c3, rfl⟩ := h3.form
          have HX : Hid (Below w.heap.size w w3) := HR.out.2.trans (h4.mono HR.out.2.size)
          have hl0 : ([] : List (BitVec 8)).length = 0 := rfl
          rw [hl0]
          clear h3 h4 hl0
          go_wp2_with fail
          refine (known_any w3).mono ?_
          rintro e w5 ⟨rfl, hk⟩
          have HB5 : Hid (Below w.heap.size w w5) := HX.out.trans (hk.mono HX.out.size)
          clear hk
          go_wp2
          go_ret
          exact ⟨rfl, HB5.out⟩

set_option maxRecDepth 1000000 in
set_option maxHeartbeats 1000000 in
theorem walk (n s : Int) (_ : (Lit.int .i64 n).wf = true) (_ : (Lit.int .i64 s).wf = true) (w : World) :
    Calls Try.prog 8 #[.int .i64 n, .int .i64 s] w fun e w' => e = .returned (.bool true) ∧ Below w.heap.size w w' := by
  by_cases h1 : n < 0
  · go_enter Try.func8, Try.ntmps8
    go_wp2
    go_ret
    exact ⟨rfl, Below.refl _ _⟩
  by_cases h2 : 100 < n
  · go_enter Try.func8, Try.ntmps8
    go_wp2
    go_ret
    exact ⟨rfl, Below.refl _ _⟩
  by_cases h3 : s < 0
  · go_enter Try.func8, Try.ntmps8
    go_wp2
    go_ret
    exact ⟨rfl, Below.refl _ _⟩
  by_cases h4 : 250 < s
  · go_enter Try.func8, Try.ntmps8
    go_wp2
    go_ret
    exact ⟨rfl, Below.refl _ _⟩
  obtain ⟨N, rfl⟩ := Int.eq_ofNat_of_zero_le (Int.not_lt.1 h1)
  obtain ⟨S, rfl⟩ := Int.eq_ofNat_of_zero_le (Int.not_lt.1 h3)
  exact core w N S (by omega) (by omega)

theorem own : ownKnob Try.prog.godebug = none := by kernel_rfl

set_option maxRecDepth 100000 in
theorem lifted (os : Os) (started : os.Started) (H : Type) (enc : TypeId × Value → H) :
    ReturnsInHanded {} Try.checked os 8 .any (Rows.wireLongSpec.pre6 enc Try.prog Try.f8 Rows.wireLongRow.domain false) (Rows.wireLongSpec.post enc Try.prog Try.f8 false true false false) := by
  refine returnsInHanded_of_change (C := Try.checked) own started (by kernel_rfl) Try.func8
    (ChangeSpec.witness6 (enc := enc) (C := Try.checked) false ⟨#[], #[.int .i64 0, .int .i64 0], []⟩ 8 (by kernel_rfl) (by kernel_rfl) (by kernel_rfl) (by kernel_rfl)) ?_
  intro W base args ds gs before hval0 hW _ _
  have hval : ∀ (j : Nat) t v, Try.f8.params[j]? = some t → args[j]? = some v → Value.okWide Try.prog W .any base t v := hval0
  have hW' := hW
  obtain ⟨p, q, hA0, hV, rfl, _, _⟩ := hW
  have hA : DataW.TrodAll enc Try.prog W 0 (fun _ => true) true Try.f8.params.toList args.toList ds p := hA0
  rw [Try.params8] at hA hval
  obtain ⟨v0, vs0, d0, ds0, p0, q0, hargs, rfl, rfl, h0, r0⟩ := trodAll_cons hA
  obtain ⟨v1, vs1, d1, ds1, p1, q1, rfl, rfl, rfl, h1, r1⟩ := trodAll_cons r0
  obtain ⟨rfl, rfl, rfl⟩ := trodAll_nil r1
  obtain rfl : args = #[v0, v1] := by cases args; simp_all
  obtain ⟨rfl, rfl⟩ := trodVars_none hV
  obtain ⟨a0, rfl, rfl, rfl, w0⟩ := open_int Try.underlying3 (hval 0 3 v0 rfl rfl) h0
  obtain ⟨a1, rfl, rfl, rfl, w1⟩ := open_int Try.underlying3 (hval 1 3 v1 rfl rfl) h1
  clear hA0 hval0
  refine (walk a0 a1 w0 w1 W).mono fun e W' ⟨he, bel⟩ => ?_
  subst he
  exact ⟨_, rfl, _, _, _, [], _, [], hW', trodAll_mk1 (shut_bool Try.underlying4 _), (trodAll_cons_mk (shut_int Try.underlying3 w0) (trodAll_cons_mk (shut_int Try.underlying3 w1) trodAll_mk0)), rfl, bel.frame _, fun h => by cases h⟩

theorem over : Rows.wireLongRow.holds Try.pinned (OpenSpec.ofChange Rows.wireLongSpec) :=
  OpenClaim.holds_of_wide 8 Try.f8 rfl rfl rfl rfl rfl rfl rfl ⟨rfl, rfl, rfl, rfl, rfl⟩ rfl rfl rfl rfl rfl (by kernel_rfl) Try.func8 (by kernel_rfl)
    (of_decide_eq_true (by kernel_rfl)) (by unfold Func.isWrapper; first | (rw [if_pos (by decide +kernel)]; kernel_rfl) | (rw [if_neg (by decide +kernel)]; exact ⟨rfl, rfl⟩))
    (fun os started H enc _ => lifted os started H enc)

end Go.Proofs.Ytfcoanlegjddpaa.wireLong
namespace Go.Proofs.Ytfcoanlegjddpaa
theorem wireLong_holds : Rows.WireLongSaid := wireLong.over
#print axioms wireLong_holds
end Go.Proofs.Ytfcoanlegjddpaa
