/-
  Texts of this proof, joined: TbNeeds, TbNeed2, TbConf, TbPath, TbEq.
-/
import Derived.Test.YtceebimgfajbcaaDoorJoin4
import Derived.Test.YtceebimgfajbcaaDoorJoin5
import Derived.Test.YtceebimgfajbcaaDoorJoin2
import Derived.Lib.AppendZeros
import Derived.Deep.Upon
import Derived.Deep.RegionHeld
import Derived.Deep.CutBlock
namespace Go.Proofs.YtceebimgfajbcaaDoor
open Go.RowKit

theorem infoN : (Tryd.prog.info? 105).map (fun i => (i.zero, i.size, i.bytes)) = some (some (.agg #[.int .i64 0, .bool false]), 2, 16) := by kernel_rfl

/-- A row of needs in memory that was made. -/
def nOwn (w : World) (u : Value) (l : List (Int × Bool)) : Prop := w.ownsRow 0 105 2 u l.length (l.flatMap nC)
theorem cells_one : ∀ (l : List (Int × Bool)), ∀ u ∈ l.flatMap nC, u.oneCell' = true := by
  intro l u hu
  obtain ⟨x, _, h⟩ := List.mem_flatMap.1 hu
  simp [nC] at h
  rcases h with h | h <;> subst h <;> rfl
theorem flat_lenN (l : List (Int × Bool)) : (l.flatMap nC).length = l.length * 2 := by
  induction l with
  | nil => rfl
  | cons x l ih => rw [List.flatMap_cons, List.length_append, ih, List.length_cons]; simp [nC]; omega
theorem row_flat {w : World} {g off cap : Nat} {l : List (Int × Bool)} (h : rowAt w (.slice (some ⟨g, off, none⟩) l.length cap) 2 nC l) : ∀ j u, (l.flatMap nC)[j]? = some u → w.cell? ((⟨g, off, none⟩ : Addr).add j) = some u := by
  intro j u hj
  obtain ⟨oa, c, e, h2⟩ := h
  injection e with e1 e2 e3
  have hlt : j < (l.flatMap nC).length := (List.getElem?_eq_some_iff.1 hj).1
  rw [flat_lenN] at hlt
  obtain ⟨x, hx⟩ : ∃ x, l[j / 2]? = some x := ⟨l[j / 2]'(by omega), List.getElem?_eq_getElem _⟩
  obtain ⟨g', off', e4, hc⟩ := h2 _ _ hx
  rw [← e1] at e4
  injection e4 with e4
  injection e4 with e5 e6
  subst e5 e6
  have hi : j % 2 < (nC x).length := by simp [nC]; omega
  have hu : (nC x)[j % 2]? = some u := by
    have h3 := flat_get (cs := nC) (size := 2) (fun _ => rfl) l (j / 2) x (j % 2) _ hx (List.getElem?_eq_getElem hi)
    rw [show j / 2 * 2 + j % 2 = j by omega, hj] at h3
    rw [List.getElem?_eq_getElem hi]
    exact h3.symm
  have := hc (j % 2) u hu
  rw [show off + j / 2 * 2 + j % 2 = off + j by omega] at this
  have ha : (⟨g, off, none⟩ : Addr).add j = ⟨g, off + j, none⟩ := by unfold Addr.add; split <;> simp_all
  rw [ha]
  exact this

set_option maxRecDepth 100000 in
/-- A row of needs put behind one of the call's own. -/
theorem append_needs {w : World} {base n : Nat} {v x : Value} {xs : List Value} {l : List (Int × Bool)} (hown : w.ownsRow base 105 2 v n xs) (hx : rowAt w x 2 nC l) (ty : TypeId) (h63 : n + l.length ≤ 1000000) (hbase : base ≤ w.heap.size) :
    ∃ v' w', (Builtin.append_ #[61, 61] ty #[v, x]).run Tryd.prog w = .ok v' w' ∧ w'.ownsRow base 105 2 v' (n + l.length) (xs ++ l.flatMap nC) ∧ w.grownBy w' v.ownBlock := by
  obtain ⟨i0, hii, hz0, hz1, hz2⟩ := info_parts infoN
  have hx' := hx
  obtain ⟨oa, c, rfl, _⟩ := hx
  cases oa with
  | some a =>
    cases l with
    | nil =>
      obtain ⟨v', w', h1, h2, h3, _⟩ := run_append_own (P := Tryd.prog) w base 61 ty 105 i0 (.agg #[.int .i64 0, .bool false]) 2 16 Tryd.underlying61 hii hz0 hz1 hz2 rfl (by decide) v n xs hown a 0 c [] (by simp) (fun j u h => by simp at h) (fun u h => by simp at h) (by unfold maxLen; omega) (by omega) hbase
      exact ⟨v', w', h1, by simpa using h2, h3⟩
    | cons y l =>
      have hx2 := hx'
      obtain ⟨oa', c', e, h2⟩ := hx'
      injection e with e1 e2 e3
      obtain ⟨g, off, e4, _⟩ := h2 0 y rfl
      rw [← e1] at e4
      injection e4 with e4
      subst e4
      obtain ⟨v', w', h1, h2, h3, _⟩ := run_append_own (P := Tryd.prog) w base 61 ty 105 i0 (.agg #[.int .i64 0, .bool false]) 2 16 Tryd.underlying61 hii hz0 hz1 hz2 rfl (by decide) v n xs hown ⟨g, off, none⟩ (y :: l).length c ((y :: l).flatMap nC) (flat_lenN _) (row_flat hx2) (cells_one _) (by unfold maxLen; omega) (by omega) hbase
      exact ⟨v', w', h1, h2, h3⟩
  | none =>
    have hl : l = [] := by
      cases l with
      | nil => rfl
      | cons y l =>
        obtain ⟨oa, c', e, h2⟩ := hx'
        injection e with e1 e2 e3
        obtain ⟨g, off, e4, _⟩ := h2 0 y rfl
        rw [← e1] at e4
        exact absurd e4 (by simp)
    subst hl
    have hv : ∃ b k, v = .slice b n k ∧ n ≤ k := by
      rcases hown.2 with ⟨h1, h2⟩ | ⟨g, cap, cur, h1, _, _, h2, _⟩
      · exact ⟨none, 0, by rw [h1, h2], by omega⟩
      · exact ⟨_, cap, h1, h2⟩
    obtain ⟨b, k, rfl, hk⟩ := hv
    refine ⟨_, w, run_append_nothing w _ _ _ _ i0 Tryd.underlying61 hii b n k hk _ ⟨.inl ⟨_, Tryd.underlying61⟩, fun w' => ?_, ?_, ?_, by simp, by simp⟩, by simpa using hown, ⟨rfl, rfl, rfl, Nat.le_refl _, fun _ _ _ => rfl⟩⟩
    · simp [Builtin.lenOf]
    · simp [Builtin.firstCells]
    · simp [Builtin.firstCells]

set_option maxRecDepth 1000000 in
set_option maxHeartbeats 4000000 in
theorem grow_any (n : Nat) (w : World) (hn : n ≤ 1000000) :
    Calls Tryd.prog 144 #[.slice none 0 0, .int .i64 n] w fun e w' => ∃ v, e = .returned v ∧ w'.ownsRow w.heap.size 105 2 v 0 [] ∧ Below w.heap.size w w' := by
  obtain ⟨i0, hii, hz0, hz1, hz2⟩ := info_parts infoN
  have h1 : ¬ ((n : Int) < 0) := by omega
  by_cases h0 : n = 0
  · subst h0
    go_enter Tryd.func144, Tryd.ntmps144
    go_wp2
    go_ret
    exact ⟨_, rfl, World.ownsRow_nil _ _ _ _, Below.refl _ _⟩
  · have hp : (0 : Int) < (n : Int) := by omega
    have hrun := Lib.run_append_nil_zeros (P := Tryd.prog) w 61 3 61 105 i0 (.agg #[.int .i64 0, .bool false]) .i64 .i64 Tryd.underlying61 Tryd.underlying3 hii hz0 n (by omega) (by omega) (by omega) (by rw [hz2]; omega)
    have hge := grownCap_ge w n 0 105
    have hmx := grownCap_le_maxLen w n 0 105 (by unfold maxLen; omega)
    generalize grownCap w n 0 105 = gc at *
    go_enter Tryd.func144, Tryd.ntmps144
    go_wp2_with (at_builtin; refine Lib.wpList_append_run _ rfl _ _ _ _ rfl _ _ rfl rfl _ _ hrun ?_)
    go_ret
    refine ⟨_, rfl, ?_, ?_⟩
    · exact World.ownsRow_made w.drew _ gc (Nat.le_refl _) hmx (by simp [size_zeroCells]; omega)
    · exact (Below.refl _ _).drew.alloc (Nat.le_refl _) _

abbrev NRow := Value × List (Int × Bool)
def vC (x : NRow) : List Value := [x.1]
def total (rows : List NRow) : Nat := (rows.map (·.2.length)).sum
theorem total_snoc {rows : List NRow} {k : Nat} {x : NRow} (h : rows[k]? = some x) : total (rows.take (k + 1)) = total (rows.take k) + x.2.length := by
  rw [List.take_add_one, h, total, total, List.map_append, List.sum_append]
  simp
theorem total_le (rows : List NRow) (k : Nat) : total (rows.take k) ≤ total rows := by
  conv => rhs; rw [← List.take_append_drop k rows]
  rw [total, total, List.map_append, List.sum_append]
  omega
theorem flat_snoc {rows : List NRow} {k : Nat} {x : NRow} (h : rows[k]? = some x) : (rows.take (k + 1)).flatMap (·.2) = (rows.take k).flatMap (·.2) ++ x.2 := by
  rw [List.take_add_one, h, List.flatMap_append]
  simp
theorem total_len (rows : List NRow) : (rows.flatMap (·.2)).length = total rows := by
  induction rows with
  | nil => rfl
  | cons x l ih => rw [List.flatMap_cons, List.length_append, ih, total, total, List.map_cons, List.sum_cons]

set_option maxRecDepth 1000000 in
set_option maxHeartbeats 4000000 in
theorem concatO_any (v : Value) (rows : List NRow) (w : World) (h : rowAt w v 1 vC rows) (hr : ∀ x ∈ rows, rowAt w x.1 2 nC x.2) (hn : rows.length ≤ 1000000) (ht : total rows ≤ 1000000) :
    Calls Tryd.prog 112 #[v] w fun e w' => ∃ u, e = .returned u ∧ nOwn w' u (rows.flatMap (·.2)) ∧ Below w.heap.size w w' := by
  obtain ⟨oa, cap, rfl, h2⟩ := h
  have H2 : Hid (∀ j y, rows[j]? = some y → ∃ g off, oa = some ⟨g, off, none⟩ ∧ ∀ i u, (vC y)[i]? = some u → w.cell? ⟨g, off + j * 1 + i, none⟩ = some u) := h2
  have HR : Hid (∀ x ∈ rows, rowAt w x.1 2 nC x.2) := hr
  have TL : Hid (∀ k, total (rows.take k) ≤ 1000000) := fun k => Nat.le_trans (total_le rows k) ht
  clear h2 hr
  generalize hln : rows.length = n at *
  have HN : Hid (rows.length = n) := hln
  clear hln
  go_enter Tryd.func112, Tryd.ntmps112
  go_wp2
  go_loop [3, 5, 11] (fun sz _ i => ∃ k m : Nat, i = .int .i64 k ∧ k ≤ n ∧ sz = .int .i64 m ∧ m = total (rows.take k)) (fun _ _ i => n - (intOf i).toNat)
  case atStart => exact ⟨0, 0, rfl, by omega, rfl, rfl⟩
  case round =>
    obtain ⟨k, m, rfl, hk, rfl, hm⟩ := hrel
    have HM : Hid (m = total (rows.take k)) := hm
    have hmt : m ≤ 1000000 := by rw [hm]; exact TL.out k
    clear hm
    by_cases hlt : k < n
    · obtain ⟨⟨u, ns⟩, hx⟩ : ∃ x, rows[k]? = some x := ⟨rows[k]'(by rw [HN.out]; exact hlt), List.getElem?_eq_getElem _⟩
      obtain ⟨g, off, rfl, hcell⟩ := H2.out k _ hx
      have c0 := hcell 0 _ rfl
      simp only [Nat.mul_one, Nat.add_zero] at c0
      obtain ⟨ou, cu, hu, _⟩ := HR.out _ (List.mem_of_getElem? hx)
      simp only at hu
      subst hu
      have hki : (k : Int) < (n : Int) := by omega
      have HT : Hid (m + ns.length = total (rows.take (k + 1))) := by
        show _ = _
        rw [total_snoc hx, HM.out]
      have hnt : m + ns.length ≤ 1000000 := by rw [HT.out]; exact TL.out _
      clear hcell hx
      generalize ns.length = q at *
      have hz : ¬ ((m : Int) + (q : Int) < 0) := by omega
      go_wp2
      go_round
      case rel => exact ⟨k + 1, m + q, by go_num, by omega, by go_num, HT.out⟩
      case measure => simp [intOf]; omega
    · have GR := fun W => grow_any m W hmt
      have hkn : k = n := by omega
      subst hkn
      clear HM
      go_wp2_with fail
      refine (GR _).mono ?_
      rintro e w1 ⟨v1, rfl, ho1, hb1⟩
      have HO1 : Hid (w1.ownsRow w.heap.size 105 2 v1 0 []) := ho1
      have hsz1 := hb1.size
      clear GR ho1
      go_wp2
      go_loopg [6, 8, 27] k (fun gk vv _ i wr => ∃ (j : Nat) (c : List (Int × Bool)), gk = k - j ∧ j ≤ k ∧ i = .int .i64 j ∧ c = (rows.take j).flatMap (·.2) ∧ wr.ownsRow w.heap.size 105 2 vv c.length (c.flatMap nC) ∧ Below w.heap.size w wr)
      case atStart => exact ⟨0, [], rfl, by omega, rfl, rfl, HO1.out, hb1⟩
      case round =>
        obtain ⟨j, c, rfl, hj, rfl, hc, hown, hbl⟩ := hrel
        have HC : Hid (c = (rows.take j).flatMap (·.2)) := hc
        have HOW : Hid (wr.ownsRow w.heap.size 105 2 u6 c.length (c.flatMap nC)) := hown
        have HCL : Hid (c.length ≤ 1000000) := by
          show _ ≤ _
          rw [hc, total_len]
          exact TL.out j
        clear hc hown
        by_cases hlt2 : j < k
        · obtain ⟨⟨u, ns⟩, hx⟩ : ∃ x, rows[j]? = some x := ⟨rows[j]'(by rw [HN.out]; exact hlt2), List.getElem?_eq_getElem _⟩
          obtain ⟨g, off, rfl, hcell⟩ := H2.out j _ hx
          have c0 := hcell 0 _ rfl
          simp only [Nat.mul_one, Nat.add_zero] at c0
          have c1 := (hbl.cell (World.block_lt_of_cell? _ _ c0)).trans c0
          have hri := (HR.out _ (List.mem_of_getElem? hx)).below hbl
          simp only at hri
          have hji : (j : Int) < (k : Int) := by omega
          have HF : Hid (c ++ ns = (rows.take (j + 1)).flatMap (·.2)) := by
            show _ = _
            rw [flat_snoc hx, HC.out]
          have HFL : Hid (c.length + ns.length ≤ 1000000) := by
            show _ ≤ _
            rw [← List.length_append, HF.out, total_len]
            exact TL.out _
          obtain ⟨v', w3, hrun, hown3, hg3⟩ := append_needs HOW.out hri 61 HFL.out hbl.size
          have HO3 : Hid (w3.ownsRow w.heap.size 105 2 v' (c ++ ns).length ((c ++ ns).flatMap nC)) := by
            rw [List.length_append, List.flatMap_append]
            exact hown3
          have HB3 : Hid (Below w.heap.size w w3) := hbl.grown hg3 hbl.size (fun b hb => (HOW.out.lt b hb).1)
          clear hcell hx hri hown3 hg3 c0
          go_wp2_with (at_builtin; refine Lib.wpList_append_run _ rfl _ _ _ _ rfl _ _ rfl rfl _ _ hrun ?_)
          go_roundg (k - (j + 1))
          case rel => exact ⟨j + 1, c ++ ns, rfl, by omega, by go_num, HF.out, HO3.out, HB3.out⟩
          case measure => omega
        · have HE : Hid (nOwn wr u6 (rows.flatMap (·.2))) := by
            have h1 := HC.out
            rw [List.take_of_length_le (by rw [HN.out]; omega)] at h1
            rw [← h1]
            exact owns_mono HOW.out (Nat.zero_le _)
          go_wp2
          go_ret
          exact ⟨u6, rfl, HE.out, hbl⟩
theorem concat_any (v : Value) (rows : List NRow) (w : World) (h : rowAt w v 1 vC rows) (hr : ∀ x ∈ rows, rowAt w x.1 2 nC x.2) (hn : rows.length ≤ 1000000) (ht : total rows ≤ 1000000) :
    Calls Tryd.prog 112 #[v] w fun e w' => ∃ u, e = .returned u ∧ rowAt w' u 2 nC (rows.flatMap (·.2)) ∧ Below w.heap.size w w' :=
  (concatO_any v rows w h hr hn ht).mono fun _ _ ⟨u, he, ho, hb⟩ => ⟨u, he, rowAt_of_owns (fun _ => rfl) ho, hb⟩
end Go.Proofs.YtceebimgfajbcaaDoor

namespace Go.Proofs.YtceebimgfajbcaaDoor
open Go.RowKit

set_option maxRecDepth 1000000 in
set_option maxHeartbeats 4000000 in
theorem tableNeedsO_any (v : Nat → Value) (l : Lay) (rs : List RtV) (r : Nat) (x : RtV) (w : World) (h : LayRd w v l rs) (hx : rs[r]? = some x) (hm : x.1.points.length + x.1.flank.length ≤ 1000000) :
    Calls Tryd.prog 75 #[.agg #[v 0, v 1, v 2, v 3], .int .i64 r] w fun e w' => ∃ u, e = .returned u ∧ nOwn w' u (x.1.points ++ x.1.flank) ∧ Below w.heap.size w w' := by
  obtain ⟨⟨nm, fr, tt, pa, po, fl⟩, v3, v4, v5⟩ := x
  have hrx := h.x _ (List.mem_of_getElem? hx)
  obtain ⟨hr3, hr4, hr5⟩ := hrx
  simp only at hr3 hr4 hr5 hm
  have CC : Hid (∀ W b, Below w.heap.size w W → W.heap[b]? = some (.cells #[v4, v5] 61 (0, 0)) → Calls Tryd.prog 112 #[.slice (some ⟨b, 0, none⟩) 2 2] W fun e w' => ∃ u, e = .returned u ∧ nOwn w' u (po ++ fl) ∧ Below W.heap.size W w') := fun W b hW hb => by
    have := concatO_any (.slice (some ⟨b, 0, none⟩) 2 2) [(v4, po), (v5, fl)] W ⟨_, _, rfl, fun j y hj => ⟨b, 0, rfl, fun i u hu => ?_⟩⟩ (fun y hy => ?_) (by simp) (by simp [total]; omega)
    · have e : [(v4, po), (v5, fl)].flatMap (fun x => x.2) = po ++ fl := by simp
      rw [e] at this
      exact this
    · match i, hu with
      | 0, hu =>
        simp [vC] at hu
        subst hu
        match j, hj with
        | 0, hj => simp at hj; subst hj; simp [World.cell?, hb]
        | 1, hj => simp at hj; subst hj; simp [World.cell?, hb]
        | j + 2, hj => simp at hj
      | i + 1, hu => simp [vC] at hu
    · simp at hy
      rcases hy with rfl | rfl
      · exact hr4.below hW
      · exact hr5.below hW
  obtain ⟨o0, c0, e0, _⟩ := h.s
  obtain ⟨o1, c1, e1, _⟩ := h.p
  obtain ⟨o2, c2, e2, _⟩ := h.g
  obtain ⟨o3, c3, e3, r3⟩ := h.r
  obtain ⟨p4, k4, f4, _⟩ := hr4
  obtain ⟨p5, k5, f5, _⟩ := hr5
  have S := BoxAt.start w v
  obtain ⟨g, off, rfl, hcell⟩ := r3 r _ hx
  have a4 := hcell 4 _ rfl
  have a5 := hcell 5 _ rfl
  have HV : Hid (v 0 = .slice o0 l.sections.length c0 ∧ v 1 = .slice o1 l.points.length c1 ∧ v 2 = .slice o2 l.signals.length c2 ∧ v 3 = .slice (some ⟨g, off, none⟩) rs.length c3) := ⟨e0, e1, e2, e3⟩
  have hrl : r < rs.length := (List.getElem?_eq_some_iff.1 hx).1
  rw [e0, e1, e2, e3] at S ⊢
  rw [f4, f5] at CC
  rw [f4] at a4
  rw [f5] at a5
  clear h hm hx hcell r3 hr3 e0 e1 e2 e3 f4 f5
  generalize l.sections.length = n0 at *
  generalize l.points.length = n1 at *
  generalize l.signals.length = n2 at *
  generalize rs.length = n3 at *
  generalize po.length = m4 at *
  generalize fl.length = m5 at *
  have C := fun W => isPlace_any (r : Int) n3 W
  rw [decide_eq_true (show (0 : Int) ≤ (r : Int) ∧ (r : Int) < (n3 : Int) by omega)] at C
  have TA : Hid (BoxAt w v (w.alloc (.cells #[.slice o0 n0 c0, .slice o1 n1 c1, .slice o2 n2 c2, .slice (some ⟨g, off, none⟩) n3 c3] 26))) := S
  clear S
  go_enter Tryd.func75, Tryd.ntmps75
  go_wp2_with (go_at_call 110; refine (C _).mono ?_; rintro e w' ⟨rfl, rfl⟩)
  generalize w.alloc (.cells #[.slice o0 n0 c0, .slice o1 n1 c1, .slice o2 n2 c2, .slice (some ⟨g, off, none⟩) n3 c3] 26) = w1 at *
  have h2 := TA.out.cells
  rw [HV.out.1, HV.out.2.1, HV.out.2.2.1, HV.out.2.2.2] at h2
  have x3 := ext_cell h2.2.2.2
  have b4 := (TA.out.1.cell (World.block_lt_of_cell? _ _ a4)).trans a4
  have b5 := (TA.out.1.cell (World.block_lt_of_cell? _ _ a5)).trans a5
  have y4 := ext_cell b4
  have y5 := ext_cell b5
  haveI := ext_some w1
  have HB1 : Hid (Below w1.heap.size w1 w1.drew) := (Below.refl _ _).drew
  have hri : (r : Int) < (n3 : Int) := by omega
  have HW : Hid (∀ W, Below w1.heap.size w1 W → Below w.heap.size w W) := fun W hW => TA.out.1.trans (hW.mono TA.out.1.size)
  clear h2 a4 a5 b4 b5 C
  refine wp_region_mix_lex (C := fun W => ∃ y : Ext w1, W = y.z) (by kernel_rfl) (by kernel_rfl) (by kernel_rfl) (by kernel_rfl) ⟨⟨_, (Below.refl _ _).drew⟩, rfl⟩ ?_
  (repeat (first | (with_reducible refine mix_read (by kernel_rfl) ?_; go_big_quiet_want; go_big_quiet_op; go_big_quiet_on; with_reducible refine wpQuiet_nil ?_) | (with_reducible refine mix_pass (by kernel_rfl) ?_; go_big_quiet_skip; with_reducible refine wpQuiet_nil ?_)))
  have HB2 : Hid (Below w1.heap.size w1 (w1.drew.alloc (.cells #[.slice p4 m4 k4, .slice p5 m5 k5] 61))) := HB1.out.alloc HB1.out.size _
  have HBK : Hid ((w1.drew.alloc (.cells #[.slice p4 m4 k4, .slice p5 m5 k5] 61)).heap[w1.drew.heap.size]? = some (.cells #[.slice p4 m4 k4, .slice p5 m5 k5] 61 (0, 0))) := blk_new _ _
  refine mix_does (v := .slice (some ⟨w1.drew.heap.size, 0, none⟩) 2 2) (w' := w1.drew.alloc (.cells #[.slice p4 m4 k4, .slice p5 m5 k5] 61)) (by kernel_rfl) (by kernel_rfl) (by kernel_rfl) ⟨⟨_, HB2.out⟩, rfl⟩ ?_
  simp only [Act.put, List.setIfInBounds_toArray, List.set_cons_zero, List.set_cons_succ]
  with_reducible refine mix_call (by kernel_rfl) (by kernel_rfl) ((CC.out _ _ (HW.out _ HB2.out) HBK.out).mono ?_) (by kernel_rfl)
  rintro e w2 ⟨u2, rfl, r2, hb2⟩
  have HB3 : Hid (Below w1.heap.size w1 w2) := HB2.out.trans (hb2.mono HB2.out.size)
  have HR2 : Hid (nOwn w2 u2 (po ++ fl)) := r2
  clear hb2 r2
  refine ⟨_, rfl, ⟨⟨_, HB3.out⟩, rfl⟩, ?_⟩
  simp only [Act.put, List.setIfInBounds_toArray, List.set_cons_zero, List.set_cons_succ]
  (repeat (first | (with_reducible refine mix_read (by kernel_rfl) ?_; go_big_quiet_want; go_big_quiet_op; go_big_quiet_on; with_reducible refine wpQuiet_nil ?_) | (with_reducible refine mix_pass (by kernel_rfl) ?_; go_big_quiet_skip; with_reducible refine wpQuiet_nil ?_)))
  with_reducible refine mix_end ?_
  intro _
  go_wp2
  go_ret
  exact ⟨_, rfl, HR2.out, HW.out _ HB3.out⟩
theorem tableNeeds_any (v : Nat → Value) (l : Lay) (rs : List RtV) (r : Nat) (x : RtV) (w : World) (h : LayRd w v l rs) (hx : rs[r]? = some x) (hm : x.1.points.length + x.1.flank.length ≤ 1000000) :
    Calls Tryd.prog 75 #[.agg #[v 0, v 1, v 2, v 3], .int .i64 r] w fun e w' => ∃ u, e = .returned u ∧ rowAt w' u 2 nC (x.1.points ++ x.1.flank) ∧ Below w.heap.size w w' :=
  (tableNeedsO_any v l rs r x w h hx hm).mono fun _ _ ⟨u, he, ho, hb⟩ => ⟨u, he, rowAt_of_owns (fun _ => rfl) ho, hb⟩
end Go.Proofs.YtceebimgfajbcaaDoor

namespace Go.Proofs.YtceebimgfajbcaaDoor
open Go.RowKit

/-- Two routes exclude one another. -/
def confB (r s : Nat) (a b : Rt) : Bool := decide (r = s) || (decide (a.frm = b.frm) || (shareB a.path b.path || pullB (a.points ++ a.flank) (b.points ++ b.flank)))

/-- A route's three cells that are read. -/
def Rt3 (b : Nat) (f p : Value) (w : World) : Prop := w.cell? ⟨b, 1, none⟩ = some f ∧ w.cell? ⟨b, 3, none⟩ = some p
theorem Rt3.ext {b : Nat} {f p : Value} {w : World} (h : Rt3 b f p w) (y : Ext w) : y.z.cell? ⟨b, 1, none⟩ = some f ∧ y.z.cell? ⟨b, 3, none⟩ = some p := ⟨ext_cell h.1 y, ext_cell h.2 y⟩

set_option maxRecDepth 1000000 in
set_option maxHeartbeats 8000000 in
theorem conflict_any (v : Nat → Value) (l : Lay) (rs : List RtV) (r s : Nat) (x y : RtV) (w : World) (h : LayRd w v l rs) (hx : rs[r]? = some x) (hy : rs[s]? = some y)
    (hmx : x.1.path.length ≤ 1000000 ∧ x.1.points.length + x.1.flank.length ≤ 1000000) (hmy : y.1.path.length ≤ 1000000 ∧ y.1.points.length + y.1.flank.length ≤ 1000000) :
    Calls Tryd.prog 76 #[.agg #[v 0, v 1, v 2, v 3], .int .i64 r, .int .i64 s] w fun e w' => e = .returned (.bool (confB r s x.1 y.1)) ∧ Below w.heap.size w w' := by
  have NR : Hid (∀ W, Below w.heap.size w W → Calls Tryd.prog 75 #[.agg #[v 0, v 1, v 2, v 3], .int .i64 r] W fun e w' => ∃ u, e = .returned u ∧ rowAt w' u 2 nC (x.1.points ++ x.1.flank) ∧ Below W.heap.size W w') := fun W hW => tableNeeds_any v l rs r x W (h.below hW) hx hmx.2
  have NS : Hid (∀ W, Below w.heap.size w W → Calls Tryd.prog 75 #[.agg #[v 0, v 1, v 2, v 3], .int .i64 s] W fun e w' => ∃ u, e = .returned u ∧ rowAt w' u 2 nC (y.1.points ++ y.1.flank) ∧ Below W.heap.size W w') := fun W hW => tableNeeds_any v l rs s y W (h.below hW) hy hmy.2
  have PU : Hid (∀ ua ub W, rowAt W ua 2 nC (x.1.points ++ x.1.flank) → rowAt W ub 2 nC (y.1.points ++ y.1.flank) → Calls Tryd.prog 114 #[ua, ub] W fun e w' => e = .returned (.bool (pullB (x.1.points ++ x.1.flank) (y.1.points ++ y.1.flank))) ∧ Below W.heap.size W w') := fun ua ub W h1 h2 => pullApart_any ua ub _ _ W h1 h2 (by rw [List.length_append]; omega) (by rw [List.length_append]; omega)
  have SH : Hid (∀ W, Below w.heap.size w W → Calls Tryd.prog 113 #[x.2.1, y.2.1] W fun e w' => e = .returned (.bool (shareB x.1.path y.1.path)) ∧ Below W.heap.size W w') := fun W hW => shareSection_any _ _ _ _ W ((h.x x (List.mem_of_getElem? hx)).path.below hW) ((h.x y (List.mem_of_getElem? hy)).path.below hW) (by omega) (by omega)
  obtain ⟨⟨o3x, n3x, k3x, fx3⟩, ⟨o4x, n4x, k4x, fx4⟩, o5x, n5x, k5x, fx5⟩ := (h.x x (List.mem_of_getElem? hx)).slices
  obtain ⟨⟨o3y, n3y, k3y, fy3⟩, ⟨o4y, n4y, k4y, fy4⟩, o5y, n5y, k5y, fy5⟩ := (h.x y (List.mem_of_getElem? hy)).slices
  obtain ⟨o0, c0, e0, _⟩ := h.s
  obtain ⟨o1, c1, e1, _⟩ := h.p
  obtain ⟨o2, c2, e2, _⟩ := h.g
  obtain ⟨o3, c3, e3, r3⟩ := h.r
  have S := BoxAt.start w v
  obtain ⟨g, off, rfl, hcx⟩ := r3 r _ hx
  obtain ⟨g', off', e', hcy⟩ := r3 s _ hy
  injection e' with e'
  injection e' with e1' e2'
  subst e1' e2'
  have hrl : r < rs.length := (List.getElem?_eq_some_iff.1 hx).1
  have hsl : s < rs.length := (List.getElem?_eq_some_iff.1 hy).1
  have xa0 := hcx 0 _ rfl
  have xa1 := hcx 1 _ rfl
  have xa2 := hcx 2 _ rfl
  have xa3 := hcx 3 _ rfl
  have xa4 := hcx 4 _ rfl
  have xa5 := hcx 5 _ rfl
  have ya0 := hcy 0 _ rfl
  have ya1 := hcy 1 _ rfl
  have ya2 := hcy 2 _ rfl
  have ya3 := hcy 3 _ rfl
  have ya4 := hcy 4 _ rfl
  have ya5 := hcy 5 _ rfl
  rw [Nat.add_zero] at xa0 ya0
  rw [fx3] at xa3 SH
  rw [fy3] at ya3 SH
  rw [fx4] at xa4
  rw [fx5] at xa5
  rw [fy4] at ya4
  rw [fy5] at ya5
  have HV : Hid (v 0 = .slice o0 l.sections.length c0 ∧ v 1 = .slice o1 l.points.length c1 ∧ v 2 = .slice o2 l.signals.length c2 ∧ v 3 = .slice (some ⟨g, off, none⟩) rs.length c3) := ⟨e0, e1, e2, e3⟩
  have HCF : Hid (confB r s x.1 y.1 = (decide (r = s) || (decide (x.1.frm = y.1.frm) || (shareB x.1.path y.1.path || pullB (x.1.points ++ x.1.flank) (y.1.points ++ y.1.flank))))) := rfl
  rw [e0, e1, e2, e3] at S ⊢
  rw [e0, e1, e2, e3] at NR NS
  clear h hmx hmy hx hy hcx hcy r3 e0 e1 e2 e3 fx3 fx4 fx5 fy3 fy4 fy5
  generalize confB r s x.1 y.1 = B at *
  generalize shareB x.1.path y.1.path = b2 at *
  generalize pullB (x.1.points ++ x.1.flank) (y.1.points ++ y.1.flank) = b3 at *
  generalize x.1.points ++ x.1.flank = nx at *
  generalize y.1.points ++ y.1.flank = ny at *
  generalize x.1.frm = fx at *
  generalize y.1.frm = fy at *
  generalize x.1.name = xn at *
  generalize y.1.name = yn at *
  generalize x.1.to = xt at *
  generalize y.1.to = yt at *
  generalize l.sections.length = n0 at *
  generalize l.points.length = n1 at *
  generalize l.signals.length = n2 at *
  generalize rs.length = n3 at *
  have C1 := fun W => isPlace_any (r : Int) n3 W
  rw [decide_eq_true (show (0 : Int) ≤ (r : Int) ∧ (r : Int) < (n3 : Int) by omega)] at C1
  have C2 := fun W => isPlace_any (s : Int) n3 W
  rw [decide_eq_true (show (0 : Int) ≤ (s : Int) ∧ (s : Int) < (n3 : Int) by omega)] at C2
  have hri : (r : Int) < (n3 : Int) := by omega
  have hsi : (s : Int) < (n3 : Int) := by omega
  have TA : Hid (BoxAt w v (w.alloc (.cells #[.slice o0 n0 c0, .slice o1 n1 c1, .slice o2 n2 c2, .slice (some ⟨g, off, none⟩) n3 c3] 26))) := S
  clear S
  go_enter Tryd.func76, Tryd.ntmps76
  go_wp2_with fail
  refine (C1 _).mono ?_
  rintro e w' ⟨rfl, rfl⟩
  go_wp2_with fail
  refine (C2 _).mono ?_
  rintro e w' ⟨rfl, rfl⟩
  clear C1 C2
  generalize w.alloc (.cells #[.slice o0 n0 c0, .slice o1 n1 c1, .slice o2 n2 c2, .slice (some ⟨g, off, none⟩) n3 c3] 26) = w1 at *
  have h2 := TA.out.cells
  rw [HV.out.1, HV.out.2.1, HV.out.2.2.1, HV.out.2.2.2] at h2
  have up : ∀ {p : Addr} {u : Value}, w.cell? p = some u → w1.cell? p = some u := fun h => (TA.out.1.cell (World.block_lt_of_cell? _ _ h)).trans h
  have xb0 := up xa0
  have xb1 := up xa1
  have xb2 := up xa2
  have xb3 := up xa3
  have xb4 := up xa4
  have xb5 := up xa5
  have yb0 := up ya0
  have yb1 := up ya1
  have yb2 := up ya2
  have yb3 := up ya3
  have yb4 := up ya4
  have yb5 := up ya5
  have q3 := h2.2.2.2
  have HW : Hid (∀ W, Below w1.heap.size w1 W → Below w.heap.size w W) := fun W hW => TA.out.1.trans (hW.mono TA.out.1.size)
  have KEEP : Hid (∀ W : World, Below w1.heap.size w1 W → W.cell? ⟨w.heap.size, 3, none⟩ = some (.slice (some ⟨g, off, none⟩) n3 c3) ∧ (W.cell? ⟨g, off + r * 6, none⟩ = some (.string xn) ∧ W.cell? ⟨g, off + r * 6 + 1, none⟩ = some (.int .i64 fx) ∧ W.cell? ⟨g, off + r * 6 + 2, none⟩ = some (.int .i64 xt) ∧ W.cell? ⟨g, off + r * 6 + 3, none⟩ = some (.slice o3x n3x k3x) ∧ W.cell? ⟨g, off + r * 6 + 4, none⟩ = some (.slice o4x n4x k4x) ∧ W.cell? ⟨g, off + r * 6 + 5, none⟩ = some (.slice o5x n5x k5x)) ∧ W.cell? ⟨g, off + s * 6, none⟩ = some (.string yn) ∧ W.cell? ⟨g, off + s * 6 + 1, none⟩ = some (.int .i64 fy) ∧ W.cell? ⟨g, off + s * 6 + 2, none⟩ = some (.int .i64 yt) ∧ W.cell? ⟨g, off + s * 6 + 3, none⟩ = some (.slice o3y n3y k3y) ∧ W.cell? ⟨g, off + s * 6 + 4, none⟩ = some (.slice o4y n4y k4y) ∧ W.cell? ⟨g, off + s * 6 + 5, none⟩ = some (.slice o5y n5y k5y)) := fun W hW => by
    have up : ∀ {p : Addr} {u : Value}, w1.cell? p = some u → W.cell? p = some u := fun h => (hW.cell (World.block_lt_of_cell? _ _ h)).trans h
    exact ⟨up q3, ⟨up xb0, up xb1, up xb2, up xb3, up xb4, up xb5⟩, up yb0, up yb1, up yb2, up yb3, up yb4, up yb5⟩
  clear up xa0 xa1 xa2 xa3 xa4 xa5 ya0 ya1 ya2 ya3 ya4 ya5 h2
  go_upto_region 3 with fail
  go_cut [7, 8] from 23 to 58 (fun sx sy wc => ∃ b c, sx = .pointer (some ⟨b, 0, none⟩) ∧ sy = .pointer (some ⟨c, 0, none⟩) ∧ Rt3 b (.int .i64 fx) (.slice o3x n3x k3x) wc ∧ Rt3 c (.int .i64 fy) (.slice o3y n3y k3y) wc ∧ Below w1.heap.size w1 wc)
  case first =>
    clear hrl hsl
    go_region_held (fun W => W.cell? ⟨w.heap.size, 3, none⟩ = some (.slice (some ⟨g, off, none⟩) n3 c3) ∧ (W.cell? ⟨g, off + r * 6, none⟩ = some (.string xn) ∧ W.cell? ⟨g, off + r * 6 + 1, none⟩ = some (.int .i64 fx) ∧ W.cell? ⟨g, off + r * 6 + 2, none⟩ = some (.int .i64 xt) ∧ W.cell? ⟨g, off + r * 6 + 3, none⟩ = some (.slice o3x n3x k3x) ∧ W.cell? ⟨g, off + r * 6 + 4, none⟩ = some (.slice o4x n4x k4x) ∧ W.cell? ⟨g, off + r * 6 + 5, none⟩ = some (.slice o5x n5x k5x)) ∧ W.cell? ⟨g, off + s * 6, none⟩ = some (.string yn) ∧ W.cell? ⟨g, off + s * 6 + 1, none⟩ = some (.int .i64 fy) ∧ W.cell? ⟨g, off + s * 6 + 2, none⟩ = some (.int .i64 yt) ∧ W.cell? ⟨g, off + s * 6 + 3, none⟩ = some (.slice o3y n3y k3y) ∧ W.cell? ⟨g, off + s * 6 + 4, none⟩ = some (.slice o4y n4y k4y) ∧ W.cell? ⟨g, off + s * 6 + 5, none⟩ = some (.slice o5y n5y k5y)) (exact KEEP.out _ (by repeat' (with_reducible first | exact Below.refl _ _ | refine Below.drew ?_ | refine Below.alloc ?_ ?_ _ | refine Below.setCell ?_ ?_ _ | exact Nat.le_refl _ | (simp; done) | (simp; omega)))) (fail)
    all_goals
      go_wp2_with fail
      go_meet
      case rel =>
        refine ⟨_, _, rfl, rfl, ⟨by go_simp, by go_simp⟩, ⟨by go_simp, by go_simp⟩, ?_⟩
        repeat' (with_reducible first | exact Below.refl _ _ | refine Below.drew ?_ | refine Below.alloc ?_ ?_ _ | refine Below.setCell ?_ ?_ _ | exact Nat.le_refl _ | (simp; done) | (simp; omega))
  case rest =>
    obtain ⟨b, c, rfl, rfl, rx, ry, hbc⟩ := hcut
    have HWC : Hid (∀ W, Below wc.heap.size wc W → Below w.heap.size w W) := fun W hW => HW.out _ (hbc.trans (hW.mono hbc.size))
    have h2 := (TA.out.step hbc).cells
    rw [HV.out.1, HV.out.2.1, HV.out.2.2.1, HV.out.2.2.2] at h2
    have z0 := ext_cell h2.1
    have z1 := ext_cell h2.2.1
    have z2 := ext_cell h2.2.2.1
    have z3 := ext_cell h2.2.2.2
    have xf := ext_cell rx.1
    have xp := ext_cell rx.2
    have yf := ext_cell ry.1
    have yp := ext_cell ry.2
    haveI := ext_some wc
    have HB1 : Hid (Below wc.heap.size wc wc.drew) := (Below.refl _ _).drew
    clear KEEP xb0 xb1 xb2 xb3 xb4 xb5 yb0 yb1 yb2 yb3 yb4 yb5 q3 h2 rx ry hbc
    go_wp2_with fail
    refine wp_region_mix_seq (C := fun W => ∃ y : Ext wc, W = y.z) [0, 1, 2, 3, 4, 5, 6, 7, 8, 9, 10, 11, 12, 13, 14, 15, 16, 17, 18, 19, 21, 22, 20, 23, 24, 25, 26] (by kernel_rfl) (by kernel_rfl) (by kernel_rfl) (by kernel_rfl) (by simp only [List.filterMap_cons, List.getElem?_toArray, List.getElem?_cons_zero, List.getElem?_cons_succ, List.filterMap_nil]; rfl) ⟨⟨_, (Below.refl _ _).drew⟩, rfl⟩ ?_
    by_cases hrs : r = s
    · subst hrs
      (repeat (first | (with_reducible refine mix_read (by kernel_rfl) ?_; go_big_quiet_want; go_big_quiet_op; go_big_quiet_on; with_reducible refine wpQuiet_nil ?_) | (with_reducible refine mix_pass (by kernel_rfl) ?_; go_big_quiet_skip; with_reducible refine wpQuiet_nil ?_)))
      with_reducible refine mix_end ?_
      intro _
      go_wp2
      go_ret
      exact ⟨ret_bool (by rw [HCF.out]; simp), HWC.out _ HB1.out⟩
    have hd1 : ((r : Int) == (s : Int)) = false := by simp; omega
    have hd2 : decide ((r : Int) = (s : Int)) = false := decide_eq_false (by omega)
    have HRS : Hid (¬ r = s) := hrs
    by_cases hff : fx = fy
    · have hd3 : (fx == fy) = true := by simp [hff]
      have hd4 : decide (fx = fy) = true := decide_eq_true hff
      have HFF : Hid (fx = fy) := hff
      clear hff hrs
      (repeat (first | (with_reducible refine mix_read (by kernel_rfl) ?_; go_big_quiet_want; go_big_quiet_op; go_big_quiet_on; with_reducible refine wpQuiet_nil ?_) | (with_reducible refine mix_pass (by kernel_rfl) ?_; go_big_quiet_skip; with_reducible refine wpQuiet_nil ?_)))
      with_reducible refine mix_end ?_
      intro _
      go_wp2
      go_ret
      exact ⟨ret_bool (by rw [HCF.out]; simp [HFF.out]), HWC.out _ HB1.out⟩
    have hd3 : (fx == fy) = false := by simp [hff]
    have hd4 : decide (fx = fy) = false := decide_eq_false hff
    have HFF : Hid (¬ fx = fy) := hff
    clear hff hrs
    (repeat (first | (with_reducible refine mix_read (by kernel_rfl) ?_; go_big_quiet_want; go_big_quiet_op; go_big_quiet_on; with_reducible refine wpQuiet_nil ?_) | (with_reducible refine mix_pass (by kernel_rfl) ?_; go_big_quiet_skip; with_reducible refine wpQuiet_nil ?_)))
    with_reducible refine mix_call (by kernel_rfl) (by kernel_rfl) ((SH.out _ (HWC.out _ HB1.out)).mono ?_) (by kernel_rfl)
    rintro e w2 ⟨rfl, hb2⟩
    have HB2 : Hid (Below wc.heap.size wc w2) := HB1.out.trans (hb2.mono HB1.out.size)
    clear hb2
    refine ⟨_, rfl, ⟨⟨_, HB2.out⟩, rfl⟩, ?_⟩
    simp only [Act.put, List.setIfInBounds_toArray, List.set_cons_zero, List.set_cons_succ]
    cases b2
    · (repeat (first | (with_reducible refine mix_read (by kernel_rfl) ?_; go_big_quiet_want; go_big_quiet_op; go_big_quiet_on; with_reducible refine wpQuiet_nil ?_) | (with_reducible refine mix_pass (by kernel_rfl) ?_; go_big_quiet_skip; with_reducible refine wpQuiet_nil ?_)))
      with_reducible refine mix_call (by kernel_rfl) (by kernel_rfl) ((NR.out _ (HWC.out _ HB2.out)).mono ?_) (by kernel_rfl)
      rintro e w3 ⟨u3, rfl, r3, hb3⟩
      have HB3 : Hid (Below wc.heap.size wc w3) := HB2.out.trans (hb3.mono HB2.out.size)
      have HR3 : Hid (rowAt w3 u3 2 nC nx) := r3
      clear hb3 r3
      refine ⟨_, rfl, ⟨⟨_, HB3.out⟩, rfl⟩, ?_⟩
      simp only [Act.put, List.setIfInBounds_toArray, List.set_cons_zero, List.set_cons_succ]
      (repeat (first | (with_reducible refine mix_read (by kernel_rfl) ?_; go_big_quiet_want; go_big_quiet_op; go_big_quiet_on; with_reducible refine wpQuiet_nil ?_) | (with_reducible refine mix_pass (by kernel_rfl) ?_; go_big_quiet_skip; with_reducible refine wpQuiet_nil ?_)))
      with_reducible refine mix_call (by kernel_rfl) (by kernel_rfl) ((NS.out _ (HWC.out _ HB3.out)).mono ?_) (by kernel_rfl)
      rintro e w4 ⟨u4, rfl, r4, hb4⟩
      have HB4 : Hid (Below wc.heap.size wc w4) := HB3.out.trans (hb4.mono HB3.out.size)
      have HR4 : Hid (rowAt w4 u4 2 nC ny) := r4
      have HR3' : Hid (rowAt w4 u3 2 nC nx) := HR3.out.below hb4
      clear hb4 r4
      refine ⟨_, rfl, ⟨⟨_, HB4.out⟩, rfl⟩, ?_⟩
      simp only [Act.put, List.setIfInBounds_toArray, List.set_cons_zero, List.set_cons_succ]
      (repeat (first | (with_reducible refine mix_read (by kernel_rfl) ?_; go_big_quiet_want; go_big_quiet_op; go_big_quiet_on; with_reducible refine wpQuiet_nil ?_) | (with_reducible refine mix_pass (by kernel_rfl) ?_; go_big_quiet_skip; with_reducible refine wpQuiet_nil ?_)))
      with_reducible refine mix_call (by kernel_rfl) (by kernel_rfl) ((PU.out _ _ _ HR3'.out HR4.out).mono ?_) (by kernel_rfl)
      rintro e w5 ⟨rfl, hb5⟩
      have HB5 : Hid (Below wc.heap.size wc w5) := HB4.out.trans (hb5.mono HB4.out.size)
      clear hb5
      refine ⟨_, rfl, ⟨⟨_, HB5.out⟩, rfl⟩, ?_⟩
      simp only [Act.put, List.setIfInBounds_toArray, List.set_cons_zero, List.set_cons_succ]
      (repeat (first | (with_reducible refine mix_read (by kernel_rfl) ?_; go_big_quiet_want; go_big_quiet_op; go_big_quiet_on; with_reducible refine wpQuiet_nil ?_) | (with_reducible refine mix_pass (by kernel_rfl) ?_; go_big_quiet_skip; with_reducible refine wpQuiet_nil ?_)))
      with_reducible refine mix_end ?_
      intro _
      go_wp2
      go_ret
      exact ⟨ret_bool (by rw [HCF.out]; simp [HFF.out, HRS.out]), HWC.out _ HB5.out⟩
    · (repeat (first | (with_reducible refine mix_read (by kernel_rfl) ?_; go_big_quiet_want; go_big_quiet_op; go_big_quiet_on; with_reducible refine wpQuiet_nil ?_) | (with_reducible refine mix_pass (by kernel_rfl) ?_; go_big_quiet_skip; with_reducible refine wpQuiet_nil ?_)))
      with_reducible refine mix_end ?_
      intro _
      go_wp2
      go_ret
      exact ⟨ret_bool (by rw [HCF.out]; simp), HWC.out _ HB2.out⟩
end Go.Proofs.YtceebimgfajbcaaDoor

namespace Go.Proofs.YtceebimgfajbcaaDoor
open Go.RowKit

set_option maxRecDepth 1000000 in
set_option maxHeartbeats 4000000 in
theorem isPath_any (l : Lay) (v : Value) (pa : List Int) (w : World) (h : rowAt w v 1 iC pa) (hcap : capOk v) (hl : pa.length ≤ 4294967296) :
    Calls Tryd.prog 140 #[v, .int .i64 (l.sections.length : Nat)] w fun e w' => e = .returned (.bool (decide (1 ≤ pa.length ∧ pa.length ≤ 5) && pathB l pa)) ∧ w' = w := by
  have h' := h
  obtain ⟨oa, cap, rfl, h2⟩ := h
  have hcn := hcap _ _ _ rfl
  have H2 : Hid (∀ j y, pa[j]? = some y → ∃ g off, oa = some ⟨g, off, none⟩ ∧ ∀ i u, (iC y)[i]? = some u → w.cell? ⟨g, off + j * 1 + i, none⟩ = some u) := h2
  have HR : Hid (rowAt w (.slice oa pa.length cap) 1 iC pa) := h'
  clear h2 h' hcap
  generalize hn : pa.length = n at *
  generalize hm : l.sections.length = m at *
  have HN : Hid (pa.length = n) := hn
  have HM : Hid (l.sections.length = m) := hm
  clear hn hm
  have D : Hid (∀ W, Calls Tryd.prog 104 #[.int .i64 n, .int .i64 1, .int .i64 5] W fun e w' => e = .returned (.bool (decide ((1 : Int) ≤ (n : Int) ∧ (n : Int) ≤ 5))) ∧ w' = W) := fun W => isCount_any n 1 5 W
  by_cases hc : 1 ≤ n ∧ n ≤ 5
  · rw [decide_eq_true (show (1 : Int) ≤ (n : Int) ∧ (n : Int) ≤ 5 by omega)] at D
    rw [decide_eq_true hc, Bool.true_and]
    go_enter Tryd.func140, Tryd.ntmps140
    go_wp2_with (go_at_call 104; refine (D.out _).mono ?_; rintro e w1 ⟨rfl, hw1⟩; subst w1)
    clear D
    go_loop [5, 6, 13] (fun _ _ i => ∃ k : Nat, i = .int .i64 k ∧ k ≤ n ∧ ((pa.take k).Nodup ∧ ∀ y ∈ pa.take k, 0 ≤ y ∧ y < l.sections.length)) (fun _ _ i => n - (intOf i).toNat)
    case atStart => exact ⟨0, rfl, by omega, by simp⟩
    case round =>
      obtain ⟨k, rfl, hk, hc⟩ := hrel
      have HC : Hid ((pa.take k).Nodup ∧ ∀ y ∈ pa.take k, 0 ≤ y ∧ y < l.sections.length) := hc
      clear hc
      by_cases hlt : k < n
      · obtain ⟨x, hx⟩ : ∃ x, pa[k]? = some x := ⟨pa[k]'(by rw [HN.out]; exact hlt), List.getElem?_eq_getElem _⟩
        obtain ⟨g, off, rfl, hcell⟩ := H2.out k x hx
        have c0 := hcell 0 _ rfl
        simp only [Nat.mul_one, Nat.add_zero] at c0
        have hki : (k : Int) < (n : Int) := by omega
        have hkc : k ≤ cap := by omega
        have HX : Hid (pa[k]? = some x) := hx
        have C := fun W => isPlace_any x m W
        clear hcell hx
        by_cases hp : 0 ≤ x ∧ x < (m : Int)
        · rw [decide_eq_true hp] at C
          have HP : Hid (0 ≤ x ∧ x < (m : Int)) := hp
          clear hp
          have IN : Hid (Calls Tryd.prog 57 #[.slice (some ⟨g, off, none⟩) k cap, .int .i64 x] w fun e w' => e = .returned (.bool (inB (pa.take k) x)) ∧ w' = w) :=
            containsI_any _ (pa.take k) x _ (row_take HR.out k (by rw [HN.out]; omega) cap) (by rw [List.length_take]; omega)
          cases hin : inB (pa.take k) x
          · rw [hin] at IN
            have HIN : Hid (inB (pa.take k) x = false) := hin
            clear hin
            go_wp2_with (first | (go_at_call 110; refine (C _).mono ?_; rintro e w' ⟨rfl, rfl⟩) | (go_at_call 57; refine IN.out.mono ?_; rintro e w' ⟨rfl, rfl⟩))
            go_round
            case rel => exact ⟨k + 1, by go_num, by omega, path_more HX.out HC.out (by rw [HM.out]; exact HP.out) HIN.out⟩
            case measure => simp [intOf]; omega
          · rw [hin] at IN
            have HF : Hid (pathB l pa = false) := path_no HX.out (.inr hin)
            clear hin
            go_wp2_with (first | (go_at_call 110; refine (C _).mono ?_; rintro e w' ⟨rfl, rfl⟩) | (go_at_call 57; refine IN.out.mono ?_; rintro e w' ⟨rfl, rfl⟩))
            go_ret
            exact ⟨ret_bool HF.out.symm, rfl⟩
        · rw [decide_eq_false hp] at C
          have HF : Hid (pathB l pa = false) := path_no HX.out (.inl (by rw [HM.out]; exact hp))
          clear hp
          go_wp2_with (go_at_call 110; refine (C _).mono ?_; rintro e w' ⟨rfl, rfl⟩)
          go_ret
          exact ⟨ret_bool HF.out.symm, rfl⟩
      · have HF : Hid (pathB l pa = true) := by
          have := HC.out
          rw [List.take_of_length_le (by rw [HN.out]; omega)] at this
          exact decide_eq_true this
        go_wp2
        go_ret
        exact ⟨ret_bool HF.out.symm, rfl⟩
  · rw [decide_eq_false (show ¬ ((1 : Int) ≤ (n : Int) ∧ (n : Int) ≤ 5) by omega)] at D
    rw [decide_eq_false hc, Bool.false_and]
    go_enter Tryd.func140, Tryd.ntmps140
    go_wp2_with (go_at_call 104; refine (D.out _).mono ?_; rintro e w1 ⟨rfl, hw1⟩; subst w1)
    go_ret
    exact ⟨rfl, rfl⟩

theorem beside_no {l : Lay} {path : List Int} {pr : Option Int} {p : Int} (h : p ≤ pr.getD (-1)) : needOk l path false pr p = false := by
  cases pr with
  | none => rw [needOk, decide_eq_false (by simp at h; omega), Bool.false_and]
  | some q => rw [needOk, prevB, decide_eq_false (show ¬ q < p by simp at h; omega), Bool.false_and, Bool.and_false]
theorem beside_prev {pr : Option Int} {p : Int} (h : ¬ p ≤ pr.getD (-1)) : prevB pr p = true := by
  cases pr with
  | none => rfl
  | some q => exact decide_eq_true (by simp at h; omega)

set_option maxRecDepth 1000000 in
set_option maxHeartbeats 4000000 in
theorem isBeside_any (v : Nat → Value) (l : Lay) (rs : List RtV) (u p : Value) (ns : List (Int × Bool)) (path : List Int) (w : World) (h : LayRd w v l rs) (hu : rowAt w u 2 nC ns) (hp : rowAt w p 1 iC path)
    (hn : ns.length ≤ 4294967296) (hq : path.length ≤ 4294967296) (_ : l.points.length ≤ 4294967296) :
    Calls Tryd.prog 143 #[u, .agg #[v 0, v 1, v 2, v 3], p] w fun e w' => e = .returned (.bool (needsF l path false none ns)) ∧ Below w.heap.size w w' := by
  obtain ⟨o0, c0, e0, _⟩ := h.s
  obtain ⟨o1, c1, e1, r1⟩ := h.p
  obtain ⟨o2, c2, e2, _⟩ := h.g
  obtain ⟨o3, c3, e3, _⟩ := h.r
  obtain ⟨ou, cu, rfl, ru⟩ := hu
  obtain ⟨op, cp, rfl, rp⟩ := hp
  have HP : Hid (rowAt w (.slice op path.length cp) 1 iC path) := ⟨op, cp, rfl, rp⟩
  have S := BoxAt.start w v
  have R1 : Hid (∀ j x, l.points[j]? = some x → ∃ g off, o1 = some ⟨g, off, none⟩ ∧ ∀ i u, (pC x)[i]? = some u → w.cell? ⟨g, off + j * 2 + i, none⟩ = some u) := r1
  have RU : Hid (∀ j x, ns[j]? = some x → ∃ g off, ou = some ⟨g, off, none⟩ ∧ ∀ i u, (nC x)[i]? = some u → w.cell? ⟨g, off + j * 2 + i, none⟩ = some u) := ru
  have HV : Hid (v 0 = .slice o0 l.sections.length c0 ∧ v 1 = .slice o1 l.points.length c1 ∧ v 2 = .slice o2 l.signals.length c2 ∧ v 3 = .slice o3 rs.length c3) := ⟨e0, e1, e2, e3⟩
  rw [e0, e1, e2, e3] at S ⊢
  clear h r1 ru rp e0 e1 e2 e3
  generalize hs1 : l.points.length = n1 at *
  generalize hs0 : l.sections.length = n0 at *
  generalize hs2 : l.signals.length = n2 at *
  generalize hs3 : rs.length = n3 at *
  generalize hsu : ns.length = nu at *
  generalize hsp : path.length = np at *
  have HS1 : Hid (l.points.length = n1) := hs1
  have HSU : Hid (ns.length = nu) := hsu
  have HSP : Hid (path.length = np) := hsp
  clear hs0 hs1 hs2 hs3 hsu hsp
  go_enter Tryd.func143, Tryd.ntmps143
  go_wp2
  go_loopg [7, 9, 12] nu (fun gk la a i wr => ∃ (k : Nat) (q : Int), gk = nu - k ∧ k ≤ nu ∧ la = .int .i64 q ∧ i = .int .i64 k ∧ (-1 ≤ q) ∧ q = (prevOf ns k).getD (-1) ∧ needsF l path false (prevOf ns k) (ns.drop k) = needsF l path false none ns ∧ BoxAt w v wr)
  case atStart => exact ⟨0, -1, rfl, by omega, rfl, rfl, by omega, by simp [prevOf], by simp [prevOf], S⟩
  case round =>
    clear S
    obtain ⟨k, q, rfl, hk, rfl, rfl, hq1, hqp, hc, hbx⟩ := hrel
    have HQ : Hid (q = (prevOf ns k).getD (-1)) := hqp
    have HC : Hid (needsF l path false (prevOf ns k) (ns.drop k) = needsF l path false none ns) := hc
    have HBX : Hid (BoxAt w v wr) := hbx
    have hcc := hbx.cells
    have hbl := hbx.1
    have hsz := hbx.lt
    rw [HV.out.1, HV.out.2.1, HV.out.2.2.1, HV.out.2.2.2] at hcc
    obtain ⟨q0, q1, q2, q3⟩ := hcc
    clear hc hbx hqp
    by_cases hlt : k < nu
    · obtain ⟨⟨x, rv⟩, hx⟩ : ∃ x, ns[k]? = some x := ⟨ns[k]'(by rw [HSU.out]; exact hlt), List.getElem?_eq_getElem _⟩
      obtain ⟨g, off, rfl, hcell⟩ := RU.out k _ hx
      have a0 := hcell 0 _ rfl
      have a1 := hcell 1 _ rfl
      rw [Nat.add_zero] at a0
      have d0 := (hbl.cell (World.block_lt_of_cell? _ _ a0)).trans a0
      have d1 := (hbl.cell (World.block_lt_of_cell? _ _ a1)).trans a1
      have hki : (k : Int) < (nu : Int) := by omega
      rw [drop_at hx, needsF] at HC
      have HX : Hid (ns[k]? = some (x, rv)) := hx
      have z1 := fun o => (Below.cell (Below.alloc (Below.refl wr.heap.size wr) (Nat.le_refl _) o) (World.block_lt_of_cell? _ _ q1)).trans q1
      clear hcell a0 a1 hx q0 q2 q3
      have STOP : Hid (needOk l path false (prevOf ns k) x = false → needsF l path false none ns = false) := fun hno => by
        have := HC.out
        rw [hno, Bool.false_and] at this
        exact this.symm
      by_cases h0 : x ≤ q
      · have HF : Hid (needsF l path false none ns = false) := STOP.out (beside_no (by rw [← HQ.out]; exact h0))
        go_wp2
        go_ret
        exact ⟨ret_bool HF.out.symm, (HBX.out.step (by repeat' (with_reducible first | exact Below.refl _ _ | apply Below.setCell | apply Below.alloc | exact Nat.le_refl _))).1⟩
      · by_cases h1 : (n1 : Int) ≤ x
        · have HF : Hid (needsF l path false none ns = false) := STOP.out (by rw [needOk, HS1.out, decide_eq_false (by omega), Bool.false_and])
          go_wp2
          go_ret
          exact ⟨ret_bool HF.out.symm, (HBX.out.step (by repeat' (with_reducible first | exact Below.refl _ _ | apply Below.setCell | apply Below.alloc | exact Nat.le_refl _))).1⟩
        · obtain ⟨m, rfl⟩ : ∃ m : Nat, x = m := ⟨x.toNat, by omega⟩
          have hm1 : m < n1 := by omega
          obtain ⟨⟨pn, ps⟩, hpm⟩ : ∃ y, l.points[m]? = some y := ⟨l.points[m]'(by rw [HS1.out]; omega), List.getElem?_eq_getElem _⟩
          have hsec : secAt l m = ps := by rw [secAt, Int.toNat_natCast, hpm]; rfl
          obtain ⟨g1, off1, rfl, hc1⟩ := R1.out m _ hpm
          have b0 := hc1 1 _ rfl
          have b1 := (hbl.cell (World.block_lt_of_cell? _ _ b0)).trans b0
          have y1 := fun o => (Below.cell (Below.alloc (Below.refl wr.heap.size wr) (Nat.le_refl _) o) (World.block_lt_of_cell? _ _ b1)).trans b1
          have HIN : Hid (∀ W, Below wr.heap.size wr W → Calls Tryd.prog 57 #[.slice op np cp, .int .i64 ps] W fun e w' => e = .returned (.bool (inB path ps)) ∧ w' = W) := fun W hW => by
            have := containsI_any _ path ps W (HP.out.below (hbl.trans (hW.mono hbl.size))) (by rw [HSP.out]; exact hq)
            exact this
          have HRG : Hid (needOk l path false (prevOf ns k) m = !inB path ps) := by
            show _ = _
            rw [needOk, HS1.out, decide_eq_true (by omega), Bool.true_and, hsec, beside_prev (by rw [← HQ.out]; exact h0), Bool.true_and]
            cases inB path ps <;> rfl
          clear hc1 b0 hpm hsec
          cases hin : inB path ps
          · rw [hin] at HIN HRG
            have GO : Hid (needsF l path false (prevOf ns (k + 1)) (ns.drop (k + 1)) = needsF l path false none ns) := by
              have := HC.out
              rw [HRG.out] at this
              rw [← this, prevOf, if_neg (by omega), Nat.add_sub_cancel, HX.out]
              rfl
            have GP : Hid ((m : Int) = (prevOf ns (k + 1)).getD (-1)) := by
              show _ = _
              rw [prevOf, if_neg (by omega), Nat.add_sub_cancel, HX.out]
              rfl
            clear HC STOP HQ hin HRG
            go_wp2_with (go_at_call 57; refine (HIN.out _ (by repeat' (with_reducible first | exact Below.refl _ _ | apply Below.setCell | apply Below.alloc | exact Nat.le_refl _))).mono ?_; rintro e w1 ⟨rfl, rfl⟩)
            go_roundg (nu - (k + 1))
            case rel => exact ⟨k + 1, m, rfl, by omega, rfl, by go_num, by omega, GP.out, GO.out, HBX.out.step (by repeat' (with_reducible first | exact Below.refl _ _ | apply Below.setCell | apply Below.alloc | exact Nat.le_refl _))⟩
            case measure => omega
          · rw [hin] at HIN HRG
            have HF : Hid (needsF l path false none ns = false) := STOP.out HRG.out
            clear HC STOP HQ hin HRG
            go_wp2_with (go_at_call 57; refine (HIN.out _ (by repeat' (with_reducible first | exact Below.refl _ _ | apply Below.setCell | apply Below.alloc | exact Nat.le_refl _))).mono ?_; rintro e w1 ⟨rfl, rfl⟩)
            go_ret
            exact ⟨ret_bool HF.out.symm, (HBX.out.step (by repeat' (with_reducible first | exact Below.refl _ _ | apply Below.setCell | apply Below.alloc | exact Nat.le_refl _))).1⟩
    · have HF : Hid (needsF l path false none ns = true) := by
        have := HC.out
        rw [List.drop_of_length_le (by rw [HSU.out]; omega)] at this
        exact this.symm
      go_wp2
      go_ret
      exact ⟨ret_bool HF.out.symm, hbl⟩
end Go.Proofs.YtceebimgfajbcaaDoor

namespace Go.Proofs.YtceebimgfajbcaaDoor
open Go.RowKit

theorem hasAll1_any (a b : Int) (c : Bool) (w : World) :
    Calls Tryd.prog 166 #[.agg #[.int .i64 a, .bool c], .int .i64 b] w fun e w' => e = .returned (.bool (decide (a = b))) ∧ Below w.heap.size w w' := by
  go_enter Tryd.func166, Tryd.ntmps166
  go_wp2
  go_ret
  exact ⟨ret_bool (by rw [Bool.eq_iff_iff]; simp), by repeat' (with_reducible first | exact Below.refl _ _ | apply Below.setCell | apply Below.alloc | exact Nat.le_refl _)⟩

theorem eqF_step {ns : List (Int × Bool)} {ps : List Int} {k : Nat} {x : Int × Bool} {y : Int} (hx : ns[k]? = some x) (hy : ps[k]? = some y) (h : (ns.take k).map (·.1) = ps.take k) (he : x.1 = y) : (ns.take (k + 1)).map (·.1) = ps.take (k + 1) := by
  obtain ⟨h1, rfl⟩ := List.getElem?_eq_some_iff.1 hx
  obtain ⟨h2, rfl⟩ := List.getElem?_eq_some_iff.1 hy
  rw [List.take_succ_eq_append_getElem h1, List.take_succ_eq_append_getElem h2, List.map_append, h, ← he]
  rfl
theorem eqF_no {ns : List (Int × Bool)} {ps : List Int} {k : Nat} {x : Int × Bool} {y : Int} (hx : ns[k]? = some x) (hy : ps[k]? = some y) (he : ¬ x.1 = y) : eqF ns ps = false := by
  refine decide_eq_false fun h => he ?_
  rw [← h, List.getElem?_map, hx] at hy
  simpa using hy

set_option maxRecDepth 1000000 in
set_option maxHeartbeats 4000000 in
theorem equalFunc_any (v u : Value) (ns : List (Int × Bool)) (ps : List Int) (w : World) (h : rowAt w v 2 nC ns) (hu : rowAt w u 1 iC ps) (hn : ns.length ≤ 4294967296) :
    Calls Tryd.prog 165 #[v, u, .func (.func 166) #[] #[]] w fun e w' => e = .returned (.bool (eqF ns ps)) ∧ Below w.heap.size w w' := by
  obtain ⟨oa, cap, rfl, h2⟩ := h
  obtain ⟨ob, cbp, rfl, h3⟩ := hu
  have H2 : Hid (∀ j y, ns[j]? = some y → ∃ g off, oa = some ⟨g, off, none⟩ ∧ ∀ i u, (nC y)[i]? = some u → w.cell? ⟨g, off + j * 2 + i, none⟩ = some u) := h2
  have H3 : Hid (∀ j y, ps[j]? = some y → ∃ g off, ob = some ⟨g, off, none⟩ ∧ ∀ i u, (iC y)[i]? = some u → w.cell? ⟨g, off + j * 1 + i, none⟩ = some u) := h3
  clear h2 h3
  by_cases hlen : ns.length = ps.length
  · rw [← hlen]
    have HL : Hid (ns.length = ps.length) := hlen
    clear hlen
    generalize hsn : ns.length = n at *
    have HN : Hid (ns.length = n) := hsn
    clear hsn
    go_enter Tryd.func165, Tryd.ntmps165
    go_wp2
    go_loopg [7, 8, 9, 17] n (fun gk a b c i wr => ∃ k : Nat, gk = n - k ∧ k ≤ n ∧ i = .int .i64 k ∧ (ns.take k).map (·.1) = ps.take k ∧ Below w.heap.size w wr)
    case atStart => exact ⟨0, rfl, by omega, rfl, by simp, Below.refl _ _⟩
    case round =>
      obtain ⟨k, rfl, hk, rfl, hc, hbl⟩ := hrel
      have HC : Hid ((ns.take k).map (·.1) = ps.take k) := hc
      have hsz := hbl.size
      clear hc
      by_cases hlt : k < n
      · have hki : (k : Int) < (n : Int) := by omega
        obtain ⟨⟨x, rv⟩, hx⟩ : ∃ x, ns[k]? = some x := ⟨ns[k]'(by rw [HN.out]; exact hlt), List.getElem?_eq_getElem _⟩
        obtain ⟨y, hy⟩ : ∃ y, ps[k]? = some y := ⟨ps[k]'(by rw [← HL.out]; exact hlt), List.getElem?_eq_getElem _⟩
        obtain ⟨g, off, rfl, hcell⟩ := H2.out k _ hx
        obtain ⟨g1, off1, rfl, hcell1⟩ := H3.out k _ hy
        have a0 := hcell 0 _ rfl
        have a1 := hcell 1 _ rfl
        have b0 := hcell1 0 _ rfl
        rw [Nat.add_zero] at a0
        simp only [Nat.mul_one, Nat.add_zero] at b0
        have d0 := (hbl.cell (World.block_lt_of_cell? _ _ a0)).trans a0
        have d1 := (hbl.cell (World.block_lt_of_cell? _ _ a1)).trans a1
        have d2 := (hbl.cell (World.block_lt_of_cell? _ _ b0)).trans b0
        have z2 := fun o => (Below.cell (Below.alloc (Below.refl wr.heap.size wr) (Nat.le_refl _) o) (World.block_lt_of_cell? _ _ d2)).trans d2
        have HX : Hid (ns[k]? = some (x, rv)) := hx
        have HY : Hid (ps[k]? = some y) := hy
        clear hcell hcell1 hx hy a0 a1 b0
        have CL : Hid (∀ W, Calls Tryd.prog 166 #[.agg #[.int .i64 x, .bool rv], .int .i64 y] W fun e w' => e = .returned (.bool (decide (x = y))) ∧ Below W.heap.size W w') := fun W => hasAll1_any x y rv W
        by_cases he : x = y
        · rw [decide_eq_true he] at CL
          have HE : Hid (x = y) := he
          clear he
          go_wp2_with fail
          refine (CL.out _).mono ?_
          rintro e w1 ⟨rfl, hb1⟩
          have hb0 : Below wr.heap.size wr w1 := Below.trans (by repeat' (with_reducible first | exact Below.refl _ _ | apply Below.setCell | apply Below.alloc | exact Nat.le_refl _)) (hb1.mono (by simp))
          have hb2 := hbl.trans (hb0.mono hbl.size)
          clear hb1 hb0
          go_wp2
          go_roundg (n - (k + 1))
          case rel => exact ⟨k + 1, rfl, by omega, by go_num, eqF_step HX.out HY.out HC.out HE.out, hb2⟩
          case measure => omega
        · rw [decide_eq_false he] at CL
          have HF : Hid (eqF ns ps = false) := eqF_no HX.out HY.out he
          clear he
          go_wp2_with fail
          refine (CL.out _).mono ?_
          rintro e w1 ⟨rfl, hb1⟩
          have hb0 : Below wr.heap.size wr w1 := Below.trans (by repeat' (with_reducible first | exact Below.refl _ _ | apply Below.setCell | apply Below.alloc | exact Nat.le_refl _)) (hb1.mono (by simp))
          have hb2 := hbl.trans (hb0.mono hbl.size)
          clear hb1 hb0
          go_wp2
          go_ret
          exact ⟨ret_bool HF.out.symm, hb2⟩
      · have HF : Hid (eqF ns ps = true) := by
          have := HC.out
          rw [List.take_of_length_le (by rw [HN.out]; omega), List.take_of_length_le (by rw [← HL.out]; omega)] at this
          exact decide_eq_true this
        go_wp2
        go_ret
        exact ⟨ret_bool HF.out.symm, hbl⟩
  · have HF : Hid (eqF ns ps = false) := decide_eq_false fun h => hlen (by rw [← h, List.length_map])
    have hne : ¬ ((ns.length : Int) = (ps.length : Int)) := by omega
    generalize ns.length = n at *
    generalize ps.length = m at *
    clear hlen
    go_enter Tryd.func165, Tryd.ntmps165
    go_wp2
    go_ret
    exact ⟨ret_bool HF.out.symm, Below.refl _ _⟩

theorem hasAll_any (v u : Value) (ns : List (Int × Bool)) (ps : List Int) (w : World) (h : rowAt w v 2 nC ns) (hu : rowAt w u 1 iC ps) (hn : ns.length ≤ 4294967296) :
    Calls Tryd.prog 141 #[v, u] w fun e w' => e = .returned (.bool (eqF ns ps)) ∧ Below w.heap.size w w' := by
  have C := equalFunc_any v u ns ps w h hu hn
  generalize eqF ns ps = b at *
  clear h hu
  go_enter Tryd.func141, Tryd.ntmps141
  go_wp2_with fail
  refine C.mono ?_
  rintro e w1 ⟨rfl, hb⟩
  go_wp2
  go_ret
  exact ⟨rfl, hb⟩
end Go.Proofs.YtceebimgfajbcaaDoor
