/-
  Package table: what points a route needs: two rows of needs put behind one another: by contracts.
-/
import Derived.Test.YtceebimgfajbcaaTbSized
import Derived.Test.YtceebimgfajbcaaLyMix
import Derived.Test.YtceebimgfajbcaaLyExt
import Derived.Lib.AppendZeros
import Derived.Deep.Upon
namespace Go.Proofs.Ytceebimgfajbcaa
open Go.RowKit

theorem infoN : (Try.prog.info? 35).map (fun i => (i.zero, i.size, i.bytes)) = some (some (.agg #[.int .i64 0, .bool false]), 2, 16) := by kernel_rfl

/-- A row of needs in memory that was made. -/
def nOwn (w : World) (u : Value) (l : List (Int × Bool)) : Prop := w.ownsRow 0 35 2 u l.length (l.flatMap nC)
theorem cells_one : ∀ (l : List (Int × Bool)), ∀ u ∈ l.flatMap nC, u.oneCell' = true := by
  intro l u hu
  obtain ⟨x, _, h⟩ := List.mem_flatMap.1 hu
  simp [nC] at h
  rcases h with h | h <;> subst h <;> rfl
theorem flat_lenN (l : List (Int × Bool)) : (l.flatMap nC).length = l.length * 2 := by
  induction l with
  | nil => rfl
  | cons x l ih => rw [List.flatMap_cons, List.length_append, ih, List.length_cons]; simp [nC]; omega
theorem row_flat {w : World} {g off cap : Nat} {l : List (Int × Bool)} (h : rowAt w (.slice (some ⟨g, off, none⟩) l.length cap) 2 nC l) : ∀ j u, (l.flatMap nC)[j]? = some u → w.cell? ((⟨g, off, none⟩ : Addr).add j) = some u := by
  intro j u hj
  obtain ⟨oa, c, e, h2⟩ := h
  injection e with e1 e2 e3
  have hlt : j < (l.flatMap nC).length := (List.getElem?_eq_some_iff.1 hj).1
  rw [flat_lenN] at hlt
  obtain ⟨x, hx⟩ : ∃ x, l[j / 2]? = some x := ⟨l[j / 2]'(by omega), List.getElem?_eq_getElem _⟩
  obtain ⟨g', off', e4, hc⟩ := h2 _ _ hx
  rw [← e1] at e4
  injection e4 with e4
  injection e4 with e5 e6
  subst e5 e6
  have hi : j % 2 < (nC x).length := by simp [nC]; omega
  have hu : (nC x)[j % 2]? = some u := by
    have h3 := flat_get (cs := nC) (size := 2) (fun _ => rfl) l (j / 2) x (j % 2) _ hx (List.getElem?_eq_getElem hi)
    rw [show j / 2 * 2 + j % 2 = j by omega, hj] at h3
    rw [List.getElem?_eq_getElem hi]
    exact h3.symm
  have := hc (j % 2) u hu
  rw [show off + j / 2 * 2 + j % 2 = off + j by omega] at this
  have ha : (⟨g, off, none⟩ : Addr).add j = ⟨g, off + j, none⟩ := by unfold Addr.add; split <;> simp_all
  rw [ha]
  exact this

set_option maxRecDepth 100000 in
/-- A row of needs put behind one of the call's own. -/
theorem append_needs {w : World} {base n : Nat} {v x : Value} {xs : List Value} {l : List (Int × Bool)} (hown : w.ownsRow base 35 2 v n xs) (hx : rowAt w x 2 nC l) (ty : TypeId) (h63 : n + l.length ≤ 1000000) (hbase : base ≤ w.heap.size) :
    ∃ v' w', (Builtin.append_ #[31, 31] ty #[v, x]).run Try.prog w = .ok v' w' ∧ w'.ownsRow base 35 2 v' (n + l.length) (xs ++ l.flatMap nC) ∧ w.grownBy w' v.ownBlock := by
  obtain ⟨i0, hii, hz0, hz1, hz2⟩ := info_parts infoN
  have hx' := hx
  obtain ⟨oa, c, rfl, _⟩ := hx
  cases oa with
  | some a =>
    cases l with
    | nil =>
      obtain ⟨v', w', h1, h2, h3, _⟩ := run_append_own (P := Try.prog) w base 31 ty 35 i0 (.agg #[.int .i64 0, .bool false]) 2 16 Try.underlying31 hii hz0 hz1 hz2 rfl (by decide) v n xs hown a 0 c [] (by simp) (fun j u h => by simp at h) (fun u h => by simp at h) (by unfold maxLen; omega) (by omega) hbase
      exact ⟨v', w', h1, by simpa using h2, h3⟩
    | cons y l =>
      have hx2 := hx'
      obtain ⟨oa', c', e, h2⟩ := hx'
      injection e with e1 e2 e3
      obtain ⟨g, off, e4, _⟩ := h2 0 y rfl
      rw [← e1] at e4
      injection e4 with e4
      subst e4
      obtain ⟨v', w', h1, h2, h3, _⟩ := run_append_own (P := Try.prog) w base 31 ty 35 i0 (.agg #[.int .i64 0, .bool false]) 2 16 Try.underlying31 hii hz0 hz1 hz2 rfl (by decide) v n xs hown ⟨g, off, none⟩ (y :: l).length c ((y :: l).flatMap nC) (flat_lenN _) (row_flat hx2) (cells_one _) (by unfold maxLen; omega) (by omega) hbase
      exact ⟨v', w', h1, h2, h3⟩
  | none =>
    have hl : l = [] := by
      cases l with
      | nil => rfl
      | cons y l =>
        obtain ⟨oa, c', e, h2⟩ := hx'
        injection e with e1 e2 e3
        obtain ⟨g, off, e4, _⟩ := h2 0 y rfl
        rw [← e1] at e4
        exact absurd e4 (by simp)
    subst hl
    have hv : ∃ b k, v = .slice b n k ∧ n ≤ k := by
      rcases hown.2 with ⟨h1, h2⟩ | ⟨g, cap, cur, h1, _, _, h2, _⟩
      · exact ⟨none, 0, by rw [h1, h2], by omega⟩
      · exact ⟨_, cap, h1, h2⟩
    obtain ⟨b, k, rfl, hk⟩ := hv
    refine ⟨_, w, run_append_nothing w _ _ _ _ i0 Try.underlying31 hii b n k hk _ ⟨.inl ⟨_, Try.underlying31⟩, fun w' => ?_, ?_, ?_, by simp, by simp⟩, by simpa using hown, ⟨rfl, rfl, rfl, Nat.le_refl _, fun _ _ _ => rfl⟩⟩
    · simp [Builtin.lenOf]
    · simp [Builtin.firstCells]
    · simp [Builtin.firstCells]

set_option maxRecDepth 1000000 in
set_option maxHeartbeats 4000000 in
theorem grow_any (n : Nat) (w : World) (hn : n ≤ 1000000) :
    Calls Try.prog 44 #[.slice none 0 0, .int .i64 n] w fun e w' => ∃ v, e = .returned v ∧ w'.ownsRow w.heap.size 35 2 v 0 [] ∧ Below w.heap.size w w' := by
  obtain ⟨i0, hii, hz0, hz1, hz2⟩ := info_parts infoN
  have h1 : ¬ ((n : Int) < 0) := by omega
  by_cases h0 : n = 0
  · subst h0
    go_enter Try.func44, Try.ntmps44
    go_wp2
    go_ret
    exact ⟨_, rfl, World.ownsRow_nil _ _ _ _, Below.refl _ _⟩
  · have hp : (0 : Int) < (n : Int) := by omega
    have hrun := Lib.run_append_nil_zeros (P := Try.prog) w 31 3 31 35 i0 (.agg #[.int .i64 0, .bool false]) .i64 .i64 Try.underlying31 Try.underlying3 hii hz0 n (by omega) (by omega) (by omega) (by rw [hz2]; omega)
    have hge := grownCap_ge w n 0 35
    have hmx := grownCap_le_maxLen w n 0 35 (by unfold maxLen; omega)
    generalize grownCap w n 0 35 = gc at *
    go_enter Try.func44, Try.ntmps44
    go_wp2_with (at_builtin; refine Lib.wpList_append_run _ rfl _ _ _ _ rfl _ _ rfl rfl _ _ hrun ?_)
    go_ret
    refine ⟨_, rfl, ?_, ?_⟩
    · exact World.ownsRow_made w.drew _ gc (Nat.le_refl _) hmx (by simp [size_zeroCells]; omega)
    · exact (Below.refl _ _).drew.alloc (Nat.le_refl _) _

abbrev NRow := Value × List (Int × Bool)
def vC (x : NRow) : List Value := [x.1]
def total (rows : List NRow) : Nat := (rows.map (·.2.length)).sum
theorem total_snoc {rows : List NRow} {k : Nat} {x : NRow} (h : rows[k]? = some x) : total (rows.take (k + 1)) = total (rows.take k) + x.2.length := by
  rw [List.take_add_one, h, total, total, List.map_append, List.sum_append]
  simp
theorem total_le (rows : List NRow) (k : Nat) : total (rows.take k) ≤ total rows := by
  conv => rhs; rw [← List.take_append_drop k rows]
  rw [total, total, List.map_append, List.sum_append]
  omega
theorem flat_snoc {rows : List NRow} {k : Nat} {x : NRow} (h : rows[k]? = some x) : (rows.take (k + 1)).flatMap (·.2) = (rows.take k).flatMap (·.2) ++ x.2 := by
  rw [List.take_add_one, h, List.flatMap_append]
  simp
theorem total_len (rows : List NRow) : (rows.flatMap (·.2)).length = total rows := by
  induction rows with
  | nil => rfl
  | cons x l ih => rw [List.flatMap_cons, List.length_append, ih, total, total, List.map_cons, List.sum_cons]

set_option maxRecDepth 1000000 in
set_option maxHeartbeats 4000000 in
theorem concatO_any (v : Value) (rows : List NRow) (w : World) (h : rowAt w v 1 vC rows) (hr : ∀ x ∈ rows, rowAt w x.1 2 nC x.2) (hn : rows.length ≤ 1000000) (ht : total rows ≤ 1000000) :
    Calls Try.prog 35 #[v] w fun e w' => ∃ u, e = .returned u ∧ nOwn w' u (rows.flatMap (·.2)) ∧ Below w.heap.size w w' := by
  obtain ⟨oa, cap, rfl, h2⟩ := h
  have H2 : Hid (∀ j y, rows[j]? = some y → ∃ g off, oa = some ⟨g, off, none⟩ ∧ ∀ i u, (vC y)[i]? = some u → w.cell? ⟨g, off + j * 1 + i, none⟩ = some u) := h2
  have HR : Hid (∀ x ∈ rows, rowAt w x.1 2 nC x.2) := hr
  have TL : Hid (∀ k, total (rows.take k) ≤ 1000000) := fun k => Nat.le_trans (total_le rows k) ht
  clear h2 hr
  generalize hln : rows.length = n at *
  have HN : Hid (rows.length = n) := hln
  clear hln
  go_enter Try.func35, Try.ntmps35
  go_wp2
  go_loop [3, 5, 11] (fun sz _ i => ∃ k m : Nat, i = .int .i64 k ∧ k ≤ n ∧ sz = .int .i64 m ∧ m = total (rows.take k)) (fun _ _ i => n - (intOf i).toNat)
  case atStart => exact ⟨0, 0, rfl, by omega, rfl, rfl⟩
  case round =>
    obtain ⟨k, m, rfl, hk, rfl, hm⟩ := hrel
    have HM : Hid (m = total (rows.take k)) := hm
    have hmt : m ≤ 1000000 := by rw [hm]; exact TL.out k
    clear hm
    by_cases hlt : k < n
    · obtain ⟨⟨u, ns⟩, hx⟩ : ∃ x, rows[k]? = some x := ⟨rows[k]'(by rw [HN.out]; exact hlt), List.getElem?_eq_getElem _⟩
      obtain ⟨g, off, rfl, hcell⟩ := H2.out k _ hx
      have c0 := hcell 0 _ rfl
      simp only [Nat.mul_one, Nat.add_zero] at c0
      obtain ⟨ou, cu, hu, _⟩ := HR.out _ (List.mem_of_getElem? hx)
      simp only at hu
      subst hu
      have hki : (k : Int) < (n : Int) := by omega
      have HT : Hid (m + ns.length = total (rows.take (k + 1))) := by
        show _ = _
        rw [total_snoc hx, HM.out]
      have hnt : m + ns.length ≤ 1000000 := by rw [HT.out]; exact TL.out _
      clear hcell hx
      generalize ns.length = q at *
      have hz : ¬ ((m : Int) + (q : Int) < 0) := by omega
      go_wp2
      go_round
      case rel => exact ⟨k + 1, m + q, by go_num, by omega, by go_num, HT.out⟩
      case measure => simp [intOf]; omega
    · have GR := fun W => grow_any m W hmt
      have hkn : k = n := by omega
      subst hkn
      clear HM
      go_wp2_with fail
      refine (GR _).mono ?_
      rintro e w1 ⟨v1, rfl, ho1, hb1⟩
      have HO1 : Hid (w1.ownsRow w.heap.size 35 2 v1 0 []) := ho1
      have hsz1 := hb1.size
      clear GR ho1
      go_wp2
      go_loopg [6, 8, 27] k (fun gk vv _ i wr => ∃ (j : Nat) (c : List (Int × Bool)), gk = k - j ∧ j ≤ k ∧ i = .int .i64 j ∧ c = (rows.take j).flatMap (·.2) ∧ wr.ownsRow w.heap.size 35 2 vv c.length (c.flatMap nC) ∧ Below w.heap.size w wr)
      case atStart => exact ⟨0, [], rfl, by omega, rfl, rfl, HO1.out, hb1⟩
      case round =>
        obtain ⟨j, c, rfl, hj, rfl, hc, hown, hbl⟩ := hrel
        have HC : Hid (c = (rows.take j).flatMap (·.2)) := hc
        have HOW : Hid (wr.ownsRow w.heap.size 35 2 u6 c.length (c.flatMap nC)) := hown
        have HCL : Hid (c.length ≤ 1000000) := by
          show _ ≤ _
          rw [hc, total_len]
          exact TL.out j
        clear hc hown
        by_cases hlt2 : j < k
        · obtain ⟨⟨u, ns⟩, hx⟩ : ∃ x, rows[j]? = some x := ⟨rows[j]'(by rw [HN.out]; exact hlt2), List.getElem?_eq_getElem _⟩
          obtain ⟨g, off, rfl, hcell⟩ := H2.out j _ hx
          have c0 := hcell 0 _ rfl
          simp only [Nat.mul_one, Nat.add_zero] at c0
          have c1 := (hbl.cell (World.block_lt_of_cell? _ _ c0)).trans c0
          have hri := (HR.out _ (List.mem_of_getElem? hx)).below hbl
          simp only at hri
          have hji : (j : Int) < (k : Int) := by omega
          have HF : Hid (c ++ ns = (rows.take (j + 1)).flatMap (·.2)) := by
            show _ = _
            rw [flat_snoc hx, HC.out]
          have HFL : Hid (c.length + ns.length ≤ 1000000) := by
            show _ ≤ _
            rw [← List.length_append, HF.out, total_len]
            exact TL.out _
          obtain ⟨v', w3, hrun, hown3, hg3⟩ := append_needs HOW.out hri 31 HFL.out hbl.size
          have HO3 : Hid (w3.ownsRow w.heap.size 35 2 v' (c ++ ns).length ((c ++ ns).flatMap nC)) := by
            rw [List.length_append, List.flatMap_append]
            exact hown3
          have HB3 : Hid (Below w.heap.size w w3) := hbl.grown hg3 hbl.size (fun b hb => (HOW.out.lt b hb).1)
          clear hcell hx hri hown3 hg3 c0
          go_wp2_with (at_builtin; refine Lib.wpList_append_run _ rfl _ _ _ _ rfl _ _ rfl rfl _ _ hrun ?_)
          go_roundg (k - (j + 1))
          case rel => exact ⟨j + 1, c ++ ns, rfl, by omega, by go_num, HF.out, HO3.out, HB3.out⟩
          case measure => omega
        · have HE : Hid (nOwn wr u6 (rows.flatMap (·.2))) := by
            have h1 := HC.out
            rw [List.take_of_length_le (by rw [HN.out]; omega)] at h1
            rw [← h1]
            exact owns_mono HOW.out (Nat.zero_le _)
          go_wp2
          go_ret
          exact ⟨u6, rfl, HE.out, hbl⟩
theorem concat_any (v : Value) (rows : List NRow) (w : World) (h : rowAt w v 1 vC rows) (hr : ∀ x ∈ rows, rowAt w x.1 2 nC x.2) (hn : rows.length ≤ 1000000) (ht : total rows ≤ 1000000) :
    Calls Try.prog 35 #[v] w fun e w' => ∃ u, e = .returned u ∧ rowAt w' u 2 nC (rows.flatMap (·.2)) ∧ Below w.heap.size w w' :=
  (concatO_any v rows w h hr hn ht).mono fun _ _ ⟨u, he, ho, hb⟩ => ⟨u, he, rowAt_of_owns (fun _ => rfl) ho, hb⟩
end Go.Proofs.Ytceebimgfajbcaa
