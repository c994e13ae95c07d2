/-
  Package slices: Grow, Concat of numbers: by contracts.
-/
import Derived.Test.YtelmjkjbbbgmpaaFlApp
import Derived.Lib.AppendZeros
import Derived.Deep.Upon
namespace Go.Proofs.Ytelmjkjbbbgmpaa
open Go.RowKit

set_option maxRecDepth 1000000 in
set_option maxHeartbeats 4000000 in
theorem fgrow_any (n : Nat) (w : World) (hn : n ≤ 1000000) :
    Calls Try.prog 44 #[.slice none 0 0, .int .i64 n] w fun e w' => ∃ v, e = .returned v ∧ w'.ownsRow w.heap.size 3 1 v 0 [] ∧ Below w.heap.size w w' := by
  obtain ⟨i0, hii, hz0, hz1, hz2⟩ := info_parts infoInt
  have h1 : ¬ ((n : Int) < 0) := by omega
  by_cases h0 : n = 0
  · subst h0
    go_enter Try.func44, Try.ntmps44
    go_wp2
    go_ret
    exact ⟨_, rfl, World.ownsRow_nil _ _ _ _, Below.refl _ _⟩
  · have hp : (0 : Int) < (n : Int) := by omega
    have hrun := Lib.run_append_nil_zeros (P := Try.prog) w 23 3 23 3 i0 (.int .i64 0) .i64 .i64 Try.underlying23 Try.underlying3 hii hz0 n (by omega) (by omega) (by omega) (by rw [hz2]; omega)
    have hge := grownCap_ge w n 0 3
    have hmx := grownCap_le_maxLen w n 0 3 (by unfold maxLen; omega)
    generalize grownCap w n 0 3 = gc at *
    go_enter Try.func44, Try.ntmps44
    go_wp2_with (at_builtin; refine Lib.wpList_append_run _ rfl _ _ _ _ rfl _ _ rfl rfl _ _ hrun ?_)
    go_ret
    refine ⟨_, rfl, ?_, ?_⟩
    · exact World.ownsRow_made w.drew _ gc (Nat.le_refl _) hmx (by simp [size_zeroCells]; omega)
    · exact (Below.refl _ _).drew.alloc (Nat.le_refl _) _

abbrev IRw := Value × List Int
def ivC (x : IRw) : List Value := [x.1]
def itotal (rows : List IRw) : Nat := (rows.map (·.2.length)).sum
theorem itotal_snoc {rows : List IRw} {k : Nat} {x : IRw} (h : rows[k]? = some x) : itotal (rows.take (k + 1)) = itotal (rows.take k) + x.2.length := by
  rw [List.take_add_one, h, itotal, itotal, List.map_append, List.sum_append]
  simp
theorem itotal_le (rows : List IRw) (k : Nat) : itotal (rows.take k) ≤ itotal rows := by
  conv => rhs; rw [← List.take_append_drop k rows]
  rw [itotal, itotal, List.map_append, List.sum_append]
  omega
theorem iflat_snoc {rows : List IRw} {k : Nat} {x : IRw} (h : rows[k]? = some x) : (rows.take (k + 1)).flatMap (·.2) = (rows.take k).flatMap (·.2) ++ x.2 := by
  rw [List.take_add_one, h, List.flatMap_append]
  simp
theorem itotal_len (rows : List IRw) : (rows.flatMap (·.2)).length = itotal rows := by
  induction rows with
  | nil => rfl
  | cons x l ih => rw [List.flatMap_cons, List.length_append, ih, itotal, itotal, List.map_cons, List.sum_cons]

set_option maxRecDepth 1000000 in
set_option maxHeartbeats 4000000 in
theorem concatI_any (v : Value) (rows : List IRw) (w : World) (h : rowAt w v 1 ivC rows) (hr : ∀ x ∈ rows, rowAt w x.1 1 iC x.2) (hn : rows.length ≤ 1000000) (ht : itotal rows ≤ 1000000) :
    Calls Try.prog 34 #[v] w fun e w' => ∃ u, e = .returned u ∧ IRow w' w.heap.size u (rows.flatMap (·.2)) ∧ Below w.heap.size w w' := by
  obtain ⟨oa, cap, rfl, h2⟩ := h
  have H2 : Hid (∀ j y, rows[j]? = some y → ∃ g off, oa = some ⟨g, off, none⟩ ∧ ∀ i u, (ivC y)[i]? = some u → w.cell? ⟨g, off + j * 1 + i, none⟩ = some u) := h2
  have HR : Hid (∀ x ∈ rows, rowAt w x.1 1 iC x.2) := hr
  have TL : Hid (∀ k, itotal (rows.take k) ≤ 1000000) := fun k => Nat.le_trans (itotal_le rows k) ht
  clear h2 hr
  generalize hln : rows.length = n at *
  have HN : Hid (rows.length = n) := hln
  clear hln
  go_enter Try.func34, Try.ntmps34
  go_wp2
  go_loop [3, 5, 11] (fun sz _ i => ∃ k m : Nat, i = .int .i64 k ∧ k ≤ n ∧ sz = .int .i64 m ∧ m = itotal (rows.take k)) (fun _ _ i => n - (intOf i).toNat)
  case atStart => exact ⟨0, 0, rfl, by omega, rfl, rfl⟩
  case round =>
    obtain ⟨k, m, rfl, hk, rfl, hm⟩ := hrel
    have HM : Hid (m = itotal (rows.take k)) := hm
    have hmt : m ≤ 1000000 := by rw [hm]; exact TL.out k
    clear hm
    by_cases hlt : k < n
    · obtain ⟨⟨u, ns⟩, hx⟩ : ∃ x, rows[k]? = some x := ⟨rows[k]'(by rw [HN.out]; exact hlt), List.getElem?_eq_getElem _⟩
      obtain ⟨g, off, rfl, hcell⟩ := H2.out k _ hx
      have c0 := hcell 0 _ rfl
      simp only [Nat.mul_one, Nat.add_zero] at c0
      obtain ⟨ou, cu, hu, _⟩ := HR.out _ (List.mem_of_getElem? hx)
      simp only at hu
      subst hu
      have hki : (k : Int) < (n : Int) := by omega
      have HT : Hid (m + ns.length = itotal (rows.take (k + 1))) := by
        show _ = _
        rw [itotal_snoc hx, HM.out]
      have hnt : m + ns.length ≤ 1000000 := by rw [HT.out]; exact TL.out _
      clear hcell hx
      generalize ns.length = q at *
      have hz : ¬ ((m : Int) + (q : Int) < 0) := by omega
      go_wp2
      go_round
      case rel => exact ⟨k + 1, m + q, by go_num, by omega, by go_num, HT.out⟩
      case measure => simp [intOf]; omega
    · have GR := fun W => fgrow_any m W hmt
      have hkn : k = n := by omega
      subst hkn
      clear HM
      go_wp2_with fail
      refine (GR _).mono ?_
      rintro e w1 ⟨v1, rfl, ho1, hb1⟩
      have HO1 : Hid (w1.ownsRow w.heap.size 3 1 v1 0 []) := ho1
      have hsz1 := hb1.size
      clear GR ho1
      go_wp2
      go_loopg [6, 8, 27] k (fun gk vv _ i wr => ∃ (j : Nat) (c : List Int), gk = k - j ∧ j ≤ k ∧ i = .int .i64 j ∧ c = (rows.take j).flatMap (·.2) ∧ wr.ownsRow w.heap.size 3 1 vv c.length (c.flatMap iC) ∧ Below w.heap.size w wr)
      case atStart => exact ⟨0, [], rfl, by omega, rfl, rfl, HO1.out, hb1⟩
      case round =>
        obtain ⟨j, c, rfl, hj, rfl, hc, hown, hbl⟩ := hrel
        have HC : Hid (c = (rows.take j).flatMap (·.2)) := hc
        have HOW : Hid (wr.ownsRow w.heap.size 3 1 u6 c.length (c.flatMap iC)) := hown
        have HCL : Hid (c.length ≤ 1000000) := by
          show _ ≤ _
          rw [hc, itotal_len]
          exact TL.out j
        clear hc hown
        by_cases hlt2 : j < k
        · obtain ⟨⟨u, ns⟩, hx⟩ : ∃ x, rows[j]? = some x := ⟨rows[j]'(by rw [HN.out]; exact hlt2), List.getElem?_eq_getElem _⟩
          obtain ⟨g, off, rfl, hcell⟩ := H2.out j _ hx
          have c0 := hcell 0 _ rfl
          simp only [Nat.mul_one, Nat.add_zero] at c0
          have c1 := (hbl.cell (World.block_lt_of_cell? _ _ c0)).trans c0
          have hri := (HR.out _ (List.mem_of_getElem? hx)).below hbl
          simp only at hri
          have hji : (j : Int) < (k : Int) := by omega
          have HF : Hid (c ++ ns = (rows.take (j + 1)).flatMap (·.2)) := by
            show _ = _
            rw [iflat_snoc hx, HC.out]
          have HFL : Hid (c.length + ns.length ≤ 1000000) := by
            show _ ≤ _
            rw [← List.length_append, HF.out, itotal_len]
            exact TL.out _
          obtain ⟨v', w3, hrun, hown3, hb3⟩ := app_int wr w.heap.size u6 _ c ns HOW.out hbl.size hri HFL.out
          have HO3 : Hid (w3.ownsRow w.heap.size 3 1 v' (c ++ ns).length ((c ++ ns).flatMap iC)) := by
            exact hown3
          have HB3 : Hid (Below w.heap.size w w3) := hbl.trans hb3
          clear hcell hx hri hown3 hb3 c0
          go_wp2_with (at_builtin; refine Lib.wpList_append_run _ rfl _ _ _ _ rfl _ _ rfl rfl _ _ hrun ?_)
          go_roundg (k - (j + 1))
          case rel => exact ⟨j + 1, c ++ ns, rfl, by omega, by go_num, HF.out, HO3.out, HB3.out⟩
          case measure => omega
        · have HE : Hid (IRow wr w.heap.size u6 (rows.flatMap (·.2))) := by
            have h1 := HC.out
            rw [List.take_of_length_le (by rw [HN.out]; omega)] at h1
            rw [← h1]
            exact HOW.out
          go_wp2
          go_ret
          exact ⟨u6, rfl, HE.out, hbl⟩
end Go.Proofs.Ytelmjkjbbbgmpaa
