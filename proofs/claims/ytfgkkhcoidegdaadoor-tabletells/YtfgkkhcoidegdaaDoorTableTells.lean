/-
  Of every layout and number: TableTells returns true. A tied card: what unicode/utf8's two tables hold is listed, tied by the given tie.
-/
import Derived.Test.YtfgkkhcoidegdaaDoorRows
import Derived.Test.YtfgkkhcoidegdaaDoorTie
import Derived.Test.YtfgkkhcoidegdaaDoorCards
import Derived.Test.YtfgkkhcoidegdaaDoorTbTwo
import Derived.Test.YtfgkkhcoidegdaaDoorTbOpen
import Derived.Test.YtfgkkhcoidegdaaDoorLySz4
import Derived.Test.YtfgkkhcoidegdaaDoorLyRows
import Derived.Test.YtfgkkhcoidegdaaDoorTbLawN
import Derived.Test.YtfgkkhcoidegdaaDoorRfConf
import Derived.WalkKit
import Derived.ProofKit
import Derived.OpenShut
import Derived.ShutString
import Derived.ChangeOld
import Derived.Below
import Derived.SizedLaws
import Derived.PinnedBridge
import Derived.Lib.LaidU8T
import Derived.Lay
import Derived.LaidOnce
import Derived.SevenTiedAt
import Derived.Deep.DeepHandedRow
namespace Go.Proofs.YtfgkkhcoidegdaaDoor.tableTells
open Go.ChangeShapes Go.WideShapes Go.ChangeAt Go.RowKit

theorem in_mem (l : List Int) (n : Int) : inB l n = true ↔ n ∈ l := by
  rw [inB, List.any_eq_true]
  constructor
  · rintro ⟨x, h1, h2⟩
    rw [← of_decide_eq_true h2]
    exact h1
  · intro h
    exact ⟨n, h, decide_eq_true rfl⟩
theorem share_symm (a b : List Int) : shareB a b = shareB b a := by
  rw [Bool.eq_iff_iff, shareB, shareB, List.any_eq_true, List.any_eq_true]
  constructor
  · rintro ⟨x, h1, h2⟩
    exact ⟨x, (in_mem _ _).1 h2, (in_mem _ _).2 h1⟩
  · rintro ⟨x, h1, h2⟩
    exact ⟨x, (in_mem _ _).1 h2, (in_mem _ _).2 h1⟩
theorem need_symm (x y : Int × Bool) : needEq (x.1, !x.2) y = needEq (y.1, !y.2) x := by
  rw [needEq, needEq, Bool.eq_iff_iff]
  obtain ⟨a, b⟩ := x
  obtain ⟨c, d⟩ := y
  simp only [decide_eq_true_eq]
  constructor
  · rintro ⟨rfl, rfl⟩; exact ⟨rfl, by simp⟩
  · rintro ⟨rfl, rfl⟩; exact ⟨rfl, by simp⟩
theorem pull_symm (a b : List (Int × Bool)) : pullB a b = pullB b a := by
  rw [Bool.eq_iff_iff, pullB, pullB, List.any_eq_true, List.any_eq_true]
  constructor
  · rintro ⟨x, h1, h2⟩
    obtain ⟨y, h3, h4⟩ := List.any_eq_true.1 h2
    exact ⟨y, h3, List.any_eq_true.2 ⟨x, h1, by rw [need_symm]; exact h4⟩⟩
  · rintro ⟨x, h1, h2⟩
    obtain ⟨y, h3, h4⟩ := List.any_eq_true.1 h2
    exact ⟨y, h3, List.any_eq_true.2 ⟨x, h1, by rw [need_symm]; exact h4⟩⟩
theorem conf_symm (r s : Nat) (a b : Rt) : confB r s a b = confB s r b a := by
  rw [confB, confB, share_symm, pull_symm, show decide (r = s) = decide (s = r) by rw [Bool.eq_iff_iff]; simp; omega, show decide (a.frm = b.frm) = decide (b.frm = a.frm) by rw [Bool.eq_iff_iff]; simp; omega]
theorem ent_len (sg : Int) : ∀ (xs : List RtV) (k : Nat), (entF sg xs k).length ≤ xs.length
  | [], k => by simp [entF]
  | x :: xs, k => by
    have := ent_len sg xs (k + 1)
    rw [entF, List.length_cons]
    split
    · rw [List.length_cons]; omega
    · omega
theorem ent_no (sg : Int) : ∀ (xs : List RtV) (k : Nat), (∀ x ∈ xs, x.1.frm ≠ sg) → entF sg xs k = []
  | [], _, _ => rfl
  | x :: xs, k, h => by rw [entF, if_neg (h x (List.mem_cons_self ..)), ent_no sg xs (k + 1) fun y hy => h y (List.mem_cons_of_mem _ hy)]
theorem ints_same (va vb : Value) (xs : List Int) (w : World) (ha : rowAt w va 1 iC xs) (hb : rowAt w vb 1 iC xs) (hn : xs.length ≤ 4294967296) :
    Calls Tryd.prog 20 #[va, vb] w fun e w' => e = .returned (.bool true) ∧ Below w.heap.size w w' := by
  refine (refInts_any va vb xs xs w ha hb hn).mono ?_
  rintro e w' ⟨rfl, n, rfl⟩
  exact ⟨by simp, _root_.Go.below_drewN (Below.refl _ _) n⟩
theorem frm_of {l : Lay} {rs : List RtV} (hm : rs.map (·.1) = l.routes) (h : isB l = true) : ∀ x ∈ rs, 0 ≤ x.1.frm ∧ x.1.frm < (l.signals.length : Nat) := fun x hx => by
  rw [isB, Bool.and_eq_true, Bool.and_eq_true, Bool.and_eq_true] at h
  have h1 := List.all_eq_true.1 h.2.2.2 x.1 (by rw [← hm]; exact List.mem_map.2 ⟨x, hx, rfl⟩)
  rw [routeB, Bool.and_eq_true] at h1
  exact (of_decide_eq_true h1.1).1

set_option maxRecDepth 1000000 in
set_option maxHeartbeats 32000000 in
theorem walk (w : World) (v : Nat → Value) (l : Lay) (rs : List RtV) (h : LayRd w v l rs) (hB : LayBig l) (hcap : ∀ x ∈ rs, capOk x.2.1) (_ : capOk (v 3) ∧ capOk (v 0) ∧ capOk (v 2)) (sg : Int) (_ : (Lit.int IntKind.i64 sg).wf = true) (hT : Lib.Utf8Tabs 0 1 w) :
    Calls Tryd.prog 4 #[.agg #[v 0, v 1, v 2, v 3], .int .i64 sg] w fun e w' => e = .returned (.bool true) ∧ Below w.heap.size w w' := by
  obtain ⟨o0, c0, e0, _⟩ := h.s
  obtain ⟨o1, c1, e1, _⟩ := h.p
  obtain ⟨o2, c2, e2, _⟩ := h.g
  obtain ⟨o3, c3, e3, r3⟩ := h.r
  have SZ : Hid (∀ W, Below w.heap.size w W → Calls Tryd.prog 13 #[.agg #[v 0, v 1, v 2, v 3]] W fun e w' => ∃ n : Int, e = .returned (.int .i64 n) ∧ 0 ≤ n ∧ n ≤ 1125899906842624 ∧ (n < 3000 → LaySmall l) ∧ Below W.heap.size W w') := fun W hW => size4_any v l rs W (h.below hW) hB
  have IS : Hid (LaySmall l → ∀ W, Below w.heap.size w W → Calls Tryd.prog 14 #[.agg #[v 0, v 1, v 2, v 3]] W fun e w' => e = .returned (.bool (isB l)) ∧ Below W.heap.size W w') := fun hs W hW => is_any v l rs W (h.below hW) hcap (LayMid.of hs hB) (tabs_below hT hW)
  have EN : Hid (LaySmall l → ∀ sg W, Below w.heap.size w W → Calls Tryd.prog 21 #[.agg #[v 0, v 1, v 2, v 3], .int .i64 sg] W fun e w' => ∃ u, e = .returned u ∧ rowAt w' u 1 iC (entF sg rs 0) ∧ Below W.heap.size W w') := fun hs sg W hW => entry_any v l rs sg W (h.below hW) (by have h1 := hs.r.1; rw [← h.m, List.length_map] at h1; omega)
  have EN2 : Hid (LaySmall l → ∀ sg W, Below w.heap.size w W → Calls Tryd.prog 22 #[.agg #[v 0, v 1, v 2, v 3], .int .i64 sg] W fun e w' => ∃ u, e = .returned u ∧ rowAt w' u 1 iC (entF sg rs 0) ∧ Below W.heap.size W w') := fun hs sg W hW => refEntry_any v l rs sg W (h.below hW) (by have h1 := hs.r.1; rw [← h.m, List.length_map] at h1; omega)
  have SMA : LaySmall l → ∀ z ∈ rs, z.1.path.length ≤ 1000000 ∧ z.1.points.length + z.1.flank.length ≤ 1000000 := fun hs z hz => by
    have := hs.r.2 z.1 (by rw [← h.m]; exact List.mem_map.2 ⟨z, hz, rfl⟩)
    omega
  have CF : Hid (LaySmall l → ∀ (r s : Nat) (x y : RtV), rs[r]? = some x → rs[s]? = some y → ∀ W, Below w.heap.size w W → Calls Tryd.prog 18 #[.agg #[v 0, v 1, v 2, v 3], .int .i64 r, .int .i64 s] W fun e w' => e = .returned (.bool (confB r s x.1 y.1)) ∧ Below W.heap.size W w') := fun hs r s x y hx hy W hW => conflict_any v l rs r s x y W (h.below hW) hx hy (SMA hs x (List.mem_of_getElem? hx)) (SMA hs y (List.mem_of_getElem? hy))
  have CF2 : Hid (LaySmall l → ∀ (r s : Nat) (x y : RtV), rs[r]? = some x → rs[s]? = some y → ∀ W, Below w.heap.size w W → Calls Tryd.prog 19 #[.agg #[v 0, v 1, v 2, v 3], .int .i64 r, .int .i64 s] W fun e w' => e = .returned (.bool (confB r s x.1 y.1)) ∧ Below W.heap.size W w') := fun hs r s x y hx hy W hW => rfConflict_any v l rs r s x y W (h.below hW) hx hy (SMA hs x (List.mem_of_getElem? hx)) (SMA hs y (List.mem_of_getElem? hy))
  have ND : Hid (LaySmall l → ∀ (r : Nat) (x : RtV), rs[r]? = some x → ∀ W, Below w.heap.size w W → Calls Tryd.prog 16 #[.agg #[v 0, v 1, v 2, v 3], .int .i64 r] W fun e w' => ∃ u, e = .returned u ∧ rowAt w' u 2 nC (x.1.points ++ x.1.flank) ∧ Below W.heap.size W w') := fun hs r x hx W hW => tableNeeds_any v l rs r x W (h.below hW) hx (SMA hs x (List.mem_of_getElem? hx)).2
  have ND2 : Hid (LaySmall l → ∀ (r : Nat) (x : RtV), rs[r]? = some x → ∀ W, Below w.heap.size w W → Calls Tryd.prog 17 #[.agg #[v 0, v 1, v 2, v 3], .int .i64 r] W fun e w' => ∃ u, e = .returned u ∧ rowAt w' u 2 nC (x.1.points ++ x.1.flank) ∧ Below W.heap.size W w') := fun hs r x hx W hW => rfNeeds_any v l rs r x W (h.below hW) hx (SMA hs x (List.mem_of_getElem? hx)).2
  have NL : Hid (LaySmall l → ∀ x ∈ rs, (x.1.points ++ x.1.flank).length ≤ 1000000) := fun hs x hx => by rw [List.length_append]; exact (SMA hs x hx).2
  have FR : Hid (isB l = true → ∀ x ∈ rs, 0 ≤ x.1.frm ∧ x.1.frm < (l.signals.length : Nat)) := fun hi => frm_of h.m hi
  have SM : Hid (LaySmall l → l.signals.length < 3000 ∧ rs.length < 3000) := fun hs => ⟨hs.g.1, by have h1 := hs.r.1; rw [← h.m, List.length_map] at h1; exact h1⟩
  clear SMA
  rw [e0, e1, e2, e3] at SZ IS EN EN2 CF CF2 ND ND2 ⊢
  clear h hB hcap hT e0 e1 e2 e3 r3
  generalize hs0 : l.sections.length = n0 at *
  generalize hs1 : l.points.length = n1 at *
  generalize hs2 : l.signals.length = n2 at *
  generalize hs3 : rs.length = n3 at *
  have HS3 : Hid (rs.length = n3) := hs3
  clear hs0 hs1 hs2 hs3
  generalize hch : w.alloc (.cells #[.slice o0 n0 c0, .slice o1 n1 c1, .slice o2 n2 c2, .slice o3 n3 c3] 26) = w1
  have HB01 : Hid (Below w.heap.size w w1) := by show Below _ _ _; rw [← hch]; exact (Below.refl _ _).alloc (Nat.le_refl _) _
  have H0 : Hid (w1.heap[w.heap.size]? = some (.cells #[.slice o0 n0 c0, .slice o1 n1 c1, .slice o2 n2 c2, .slice o3 n3 c3] 26 (0, 0))) := by show _ = _; rw [← hch]; exact blk_new _ _
  have HUP : Hid (∀ W, Below w1.heap.size w1 W → Below w.heap.size w W) := fun W hW => HB01.out.trans (hW.mono HB01.out.size)
  obtain ⟨⟨q0, q1, q2, q3⟩, _⟩ := cells4 H0.out
  go_enter Tryd.func4, Tryd.ntmps4
  go_wp2_with fail
  clear hch
  refine (SZ.out _ HB01.out).mono ?_
  rintro e w2 ⟨n, rfl, hn0, hn1, hsm, hb2⟩
  have HB2 : Hid (Below w1.heap.size w1 w2) := hb2
  clear q0 q1 q2 q3 hb2 SZ
  obtain ⟨⟨q0, q1, q2, q3⟩, _⟩ := cells4 (blk_below HB2.out H0.out)
  by_cases hbig : (3000 : Int) ≤ n
  · clear hsm
    go_wp2_with fail
    go_ret
    exact ⟨rfl, HUP.out _ HB2.out⟩
  have HSM : Hid (LaySmall l) := hsm (by omega)
  clear hsm
  have D := IS.out HSM.out w2 (HUP.out _ HB2.out)
  generalize isB l = b at *
  go_wp2_with fail
  refine D.mono ?_
  rintro e w3 ⟨rfl, hb3⟩
  have HB3 : Hid (Below w1.heap.size w1 w3) := HB2.out.trans (hb3.mono HB2.out.size)
  clear q0 q1 q2 q3 hb3 D IS
  obtain ⟨⟨q0, q1, q2, q3⟩, _⟩ := cells4 (blk_below HB3.out H0.out)
  cases b
  · go_wp2
    go_ret
    exact ⟨rfl, HUP.out _ HB3.out⟩
  have HFR : Hid (∀ x ∈ rs, 0 ≤ x.1.frm ∧ x.1.frm < (n2 : Nat)) := FR.out rfl
  have HSS : Hid (n2 < 3000 ∧ n3 < 3000) := SM.out HSM.out
  have ENT := (show Hid (∀ sg W, Below w.heap.size w W → Calls Tryd.prog 21 #[.agg #[.slice o0 n0 c0, .slice o1 n1 c1, .slice o2 n2 c2, .slice o3 n3 c3], .int .i64 sg] W fun e w' => ∃ u, e = .returned u ∧ rowAt w' u 1 iC (entF sg rs 0) ∧ Below W.heap.size W w') from EN.out HSM.out)
  have ENR := (show Hid (∀ sg W, Below w.heap.size w W → Calls Tryd.prog 22 #[.agg #[.slice o0 n0 c0, .slice o1 n1 c1, .slice o2 n2 c2, .slice o3 n3 c3], .int .i64 sg] W fun e w' => ∃ u, e = .returned u ∧ rowAt w' u 1 iC (entF sg rs 0) ∧ Below W.heap.size W w') from EN2.out HSM.out)
  have CON := (show Hid (∀ (r s : Nat) (x y : RtV), rs[r]? = some x → rs[s]? = some y → ∀ W, Below w.heap.size w W → Calls Tryd.prog 18 #[.agg #[.slice o0 n0 c0, .slice o1 n1 c1, .slice o2 n2 c2, .slice o3 n3 c3], .int .i64 r, .int .i64 s] W fun e w' => e = .returned (.bool (confB r s x.1 y.1)) ∧ Below W.heap.size W w') from CF.out HSM.out)
  have COR := (show Hid (∀ (r s : Nat) (x y : RtV), rs[r]? = some x → rs[s]? = some y → ∀ W, Below w.heap.size w W → Calls Tryd.prog 19 #[.agg #[.slice o0 n0 c0, .slice o1 n1 c1, .slice o2 n2 c2, .slice o3 n3 c3], .int .i64 r, .int .i64 s] W fun e w' => e = .returned (.bool (confB r s x.1 y.1)) ∧ Below W.heap.size W w') from CF2.out HSM.out)
  have NET := (show Hid (∀ (r : Nat) (x : RtV), rs[r]? = some x → ∀ W, Below w.heap.size w W → Calls Tryd.prog 16 #[.agg #[.slice o0 n0 c0, .slice o1 n1 c1, .slice o2 n2 c2, .slice o3 n3 c3], .int .i64 r] W fun e w' => ∃ u, e = .returned u ∧ rowAt w' u 2 nC (x.1.points ++ x.1.flank) ∧ Below W.heap.size W w') from ND.out HSM.out)
  have NER := (show Hid (∀ (r : Nat) (x : RtV), rs[r]? = some x → ∀ W, Below w.heap.size w W → Calls Tryd.prog 17 #[.agg #[.slice o0 n0 c0, .slice o1 n1 c1, .slice o2 n2 c2, .slice o3 n3 c3], .int .i64 r] W fun e w' => ∃ u, e = .returned u ∧ rowAt w' u 2 nC (x.1.points ++ x.1.flank) ∧ Below W.heap.size W w') from ND2.out HSM.out)
  have HNL : Hid (∀ x ∈ rs, (x.1.points ++ x.1.flank).length ≤ 1000000) := NL.out HSM.out
  clear EN EN2 CF CF2 ND ND2 NL FR SM q0 q1 q2 q3
  obtain ⟨⟨q0, q1, q2, q3⟩, _⟩ := cells4 (blk_below HB3.out H0.out)
  go_wp2
  clear q0 q1 q2 q3
  have UPW : Hid (∀ W W', Below w1.heap.size w1 W → Below W.heap.size W W' → Below w1.heap.size w1 W') := fun W W' a b => a.trans (b.mono a.size)
  go_loopg [5, 6] n3 (fun gk i a1 wr => ∃ k : Nat, gk = n3 - k ∧ i = .int .i64 k ∧ k ≤ n3 ∧ Below w1.heap.size w1 wr)
  case atStart => exact ⟨0, rfl, rfl, by omega, HB3.out⟩
  case round =>
    obtain ⟨k, rfl, rfl, hk, hb⟩ := hrel
    have HB : Hid (Below w1.heap.size w1 wr) := hb
    have hsg := HSS.out.1
    have hsr := HSS.out.2
    clear hb
    obtain ⟨⟨q0, q1, q2, q3⟩, _⟩ := cells4 (blk_below HB.out H0.out)
    by_cases hlt : k < n3
    · have hki : (k : Int) < (n3 : Int) := by omega
      obtain ⟨x, hx⟩ : ∃ x, rs[k]? = some x := at_of (by rw [HS3.out]; exact hlt)
      have HX : Hid (rs[k]? = some x ∧ x ∈ rs) := ⟨hx, List.mem_of_getElem? hx⟩
      clear hx
      go_wp2_with fail
      have y0 := ext_cell q0
      have y1 := ext_cell q1
      have y2 := ext_cell q2
      have y3 := ext_cell q3
      haveI := ext_some wr
      have HT : Hid (Below wr.heap.size wr wr.drew) := (Below.refl _ _).drew
      clear q0 q1 q2 q3
      refine wp_region_mix_seq (C := fun W => ∃ y : Ext wr, W = y.z) [0, 1, 3, 4, 2, 5, 6, 7] (by kernel_rfl) (by kernel_rfl) (by kernel_rfl) (by kernel_rfl) (by simp only [List.filterMap_cons, List.getElem?_toArray, List.getElem?_cons_zero, List.getElem?_cons_succ, List.filterMap_nil]; rfl) ⟨⟨_, (Below.refl _ _).drew⟩, rfl⟩ ?_
      generalize wr.drew = wd at *
      (repeat (first | (with_reducible refine mix_read (by kernel_rfl) ?_; go_big_quiet_want; go_big_quiet_op; go_big_quiet_on; with_reducible refine wpQuiet_nil ?_) | (with_reducible refine mix_pass (by kernel_rfl) ?_; go_big_quiet_skip; with_reducible refine wpQuiet_nil ?_)))
      with_reducible refine mix_call (by kernel_rfl) (by kernel_rfl) ((NET.out k x HX.out.1 wd (HUP.out _ (UPW.out _ _ HB.out HT.out))).mono ?_) (by kernel_rfl)
      rintro e w4 ⟨ua, rfl, ra, hb4⟩
      have HB4 : Hid (Below wr.heap.size wr w4) := HT.out.trans (hb4.mono HT.out.size)
      have HRA : Hid (rowAt w4 ua 2 nC (x.1.points ++ x.1.flank)) := ra
      clear hb4 ra
      refine ⟨_, rfl, ⟨⟨_, HB4.out⟩, rfl⟩, ?_⟩
      simp only [Act.put, List.setIfInBounds_toArray, List.set_cons_zero, List.set_cons_succ]
      (repeat (first | (with_reducible refine mix_read (by kernel_rfl) ?_; go_big_quiet_want; go_big_quiet_op; go_big_quiet_on; with_reducible refine wpQuiet_nil ?_) | (with_reducible refine mix_pass (by kernel_rfl) ?_; go_big_quiet_skip; with_reducible refine wpQuiet_nil ?_)))
      with_reducible refine mix_call (by kernel_rfl) (by kernel_rfl) ((NER.out k x HX.out.1 w4 (HUP.out _ (UPW.out _ _ HB.out HB4.out))).mono ?_) (by kernel_rfl)
      rintro e w5 ⟨ub, rfl, rb, hb5⟩
      have HB5 : Hid (Below wr.heap.size wr w5) := HB4.out.trans (hb5.mono HB4.out.size)
      have HRB : Hid (rowAt w5 ua 2 nC (x.1.points ++ x.1.flank) ∧ rowAt w5 ub 2 nC (x.1.points ++ x.1.flank)) := ⟨HRA.out.below hb5, rb⟩
      clear hb5 rb
      refine ⟨_, rfl, ⟨⟨_, HB5.out⟩, rfl⟩, ?_⟩
      simp only [Act.put, List.setIfInBounds_toArray, List.set_cons_zero, List.set_cons_succ]
      (repeat (first | (with_reducible refine mix_read (by kernel_rfl) ?_; go_big_quiet_want; go_big_quiet_op; go_big_quiet_on; with_reducible refine wpQuiet_nil ?_) | (with_reducible refine mix_pass (by kernel_rfl) ?_; go_big_quiet_skip; with_reducible refine wpQuiet_nil ?_)))
      with_reducible refine mix_call (by kernel_rfl) (by kernel_rfl) ((lawNeeds_same ua ub _ w5 HRB.out.1 HRB.out.2 (by have := HNL.out x HX.out.2; omega)).mono ?_) (by kernel_rfl)
      rintro e w6 ⟨rfl, hb6⟩
      have HB6 : Hid (Below wr.heap.size wr w6) := HB5.out.trans (hb6.mono HB5.out.size)
      clear hb6
      refine ⟨_, rfl, ⟨⟨_, HB6.out⟩, rfl⟩, ?_⟩
      simp only [Act.put, List.setIfInBounds_toArray, List.set_cons_zero, List.set_cons_succ]
      (repeat (first | (with_reducible refine mix_read (by kernel_rfl) ?_; go_big_quiet_want; go_big_quiet_op; go_big_quiet_on; with_reducible refine wpQuiet_nil ?_) | (with_reducible refine mix_pass (by kernel_rfl) ?_; go_big_quiet_skip; with_reducible refine wpQuiet_nil ?_)))
      with_reducible refine mix_end ?_
      intro _
      clear y0 y1 y2 y3
      have HB7 : Hid (Below w1.heap.size w1 w6) := UPW.out _ _ HB.out HB6.out
      go_wp2
      go_loopg [6] n3 (fun gk i wr' => ∃ m : Nat, gk = n3 - m ∧ i = .int .i64 m ∧ m ≤ n3 ∧ Below w1.heap.size w1 wr')
      case atStart => exact ⟨0, rfl, rfl, by omega, HB7.out⟩
      case round =>
        clear HB HB4 HB5 HB6 HB7 HRA HRB HT
        obtain ⟨m, rfl, rfl, hm, hb⟩ := hrel
        have HB : Hid (Below w1.heap.size w1 wr) := hb
        clear hb
        obtain ⟨⟨q0, q1, q2, q3⟩, _⟩ := cells4 (blk_below HB.out H0.out)
        by_cases hmt : m < n3
        · have hmi : (m : Int) < (n3 : Int) := by omega
          obtain ⟨y, hy⟩ : ∃ y, rs[m]? = some y := at_of (by rw [HS3.out]; exact hmt)
          have HY : Hid (rs[m]? = some y) := hy
          clear hy
          have CA : Hid (∀ W, Below w.heap.size w W → Calls Tryd.prog 18 #[.agg #[.slice o0 n0 c0, .slice o1 n1 c1, .slice o2 n2 c2, .slice o3 n3 c3], .int .i64 k, .int .i64 m] W fun e w' => e = .returned (.bool (confB k m x.1 y.1)) ∧ Below W.heap.size W w') := CON.out k m x y HX.out.1 HY.out
          have CB : Hid (∀ W, Below w.heap.size w W → Calls Tryd.prog 19 #[.agg #[.slice o0 n0 c0, .slice o1 n1 c1, .slice o2 n2 c2, .slice o3 n3 c3], .int .i64 k, .int .i64 m] W fun e w' => e = .returned (.bool (confB k m x.1 y.1)) ∧ Below W.heap.size W w') := COR.out k m x y HX.out.1 HY.out
          have CC : Hid (∀ W, Below w.heap.size w W → Calls Tryd.prog 18 #[.agg #[.slice o0 n0 c0, .slice o1 n1 c1, .slice o2 n2 c2, .slice o3 n3 c3], .int .i64 m, .int .i64 k] W fun e w' => e = .returned (.bool (confB k m x.1 y.1)) ∧ Below W.heap.size W w') := by
            rw [conf_symm k m]
            exact CON.out m k y x HY.out HX.out.1
          generalize confB k m x.1 y.1 = cb at *
          go_wp2_with fail
          have y0 := ext_cell q0
          have y1 := ext_cell q1
          have y2 := ext_cell q2
          have y3 := ext_cell q3
          haveI := ext_some wr
          have HT : Hid (Below wr.heap.size wr wr.drew) := (Below.refl _ _).drew
          clear q0 q1 q2 q3
          refine wp_region_mix_seq (C := fun W => ∃ y : Ext wr, W = y.z) [0, 1, 2, 4, 5, 6, 3, 7, 8, 9, 10, 11, 12, 14, 15, 16, 13, 17, 18, 19] (by kernel_rfl) (by kernel_rfl) (by kernel_rfl) (by kernel_rfl) (by simp only [List.filterMap_cons, List.getElem?_toArray, List.getElem?_cons_zero, List.getElem?_cons_succ, List.filterMap_nil]; rfl) ⟨⟨_, (Below.refl _ _).drew⟩, rfl⟩ ?_
          generalize wr.drew = wd at *
          cases cb
          · skip
            (repeat (first | (with_reducible refine mix_read (by kernel_rfl) ?_; go_big_quiet_want; go_big_quiet_op; go_big_quiet_on; with_reducible refine wpQuiet_nil ?_) | (with_reducible refine mix_pass (by kernel_rfl) ?_; go_big_quiet_skip; with_reducible refine wpQuiet_nil ?_)))
            with_reducible refine mix_call (by kernel_rfl) (by kernel_rfl) ((CA.out wd (HUP.out _ (UPW.out _ _ HB.out HT.out))).mono ?_) (by kernel_rfl)
            rintro e v0 ⟨rfl, hb⟩
            have HC0 : Hid (Below wr.heap.size wr v0) := HT.out.trans (hb.mono HT.out.size)
            clear hb
            refine ⟨_, rfl, ⟨⟨_, HC0.out⟩, rfl⟩, ?_⟩
            simp only [Act.put, List.setIfInBounds_toArray, List.set_cons_zero, List.set_cons_succ]
            (repeat (first | (with_reducible refine mix_read (by kernel_rfl) ?_; go_big_quiet_want; go_big_quiet_op; go_big_quiet_on; with_reducible refine wpQuiet_nil ?_) | (with_reducible refine mix_pass (by kernel_rfl) ?_; go_big_quiet_skip; with_reducible refine wpQuiet_nil ?_)))
            with_reducible refine mix_call (by kernel_rfl) (by kernel_rfl) ((CB.out v0 (HUP.out _ (UPW.out _ _ HB.out HC0.out))).mono ?_) (by kernel_rfl)
            rintro e v1 ⟨rfl, hb⟩
            have HC1 : Hid (Below wr.heap.size wr v1) := HC0.out.trans (hb.mono HC0.out.size)
            clear hb
            refine ⟨_, rfl, ⟨⟨_, HC1.out⟩, rfl⟩, ?_⟩
            simp only [Act.put, List.setIfInBounds_toArray, List.set_cons_zero, List.set_cons_succ]
            (repeat (first | (with_reducible refine mix_read (by kernel_rfl) ?_; go_big_quiet_want; go_big_quiet_op; go_big_quiet_on; with_reducible refine wpQuiet_nil ?_) | (with_reducible refine mix_pass (by kernel_rfl) ?_; go_big_quiet_skip; with_reducible refine wpQuiet_nil ?_)))
            with_reducible refine mix_call (by kernel_rfl) (by kernel_rfl) ((CA.out v1 (HUP.out _ (UPW.out _ _ HB.out HC1.out))).mono ?_) (by kernel_rfl)
            rintro e v2 ⟨rfl, hb⟩
            have HC2 : Hid (Below wr.heap.size wr v2) := HC1.out.trans (hb.mono HC1.out.size)
            clear hb
            refine ⟨_, rfl, ⟨⟨_, HC2.out⟩, rfl⟩, ?_⟩
            simp only [Act.put, List.setIfInBounds_toArray, List.set_cons_zero, List.set_cons_succ]
            (repeat (first | (with_reducible refine mix_read (by kernel_rfl) ?_; go_big_quiet_want; go_big_quiet_op; go_big_quiet_on; with_reducible refine wpQuiet_nil ?_) | (with_reducible refine mix_pass (by kernel_rfl) ?_; go_big_quiet_skip; with_reducible refine wpQuiet_nil ?_)))
            with_reducible refine mix_call (by kernel_rfl) (by kernel_rfl) ((CC.out v2 (HUP.out _ (UPW.out _ _ HB.out HC2.out))).mono ?_) (by kernel_rfl)
            rintro e v3 ⟨rfl, hb⟩
            have HC3 : Hid (Below wr.heap.size wr v3) := HC2.out.trans (hb.mono HC2.out.size)
            clear hb
            refine ⟨_, rfl, ⟨⟨_, HC3.out⟩, rfl⟩, ?_⟩
            simp only [Act.put, List.setIfInBounds_toArray, List.set_cons_zero, List.set_cons_succ]
            (repeat (first | (with_reducible refine mix_read (by kernel_rfl) ?_; go_big_quiet_want; go_big_quiet_op; go_big_quiet_on; with_reducible refine wpQuiet_nil ?_) | (with_reducible refine mix_pass (by kernel_rfl) ?_; go_big_quiet_skip; with_reducible refine wpQuiet_nil ?_)))
            with_reducible refine mix_end ?_
            intro _
            clear y0 y1 y2 y3
            go_wp2
            go_roundg (n3 - (m + 1))
            case rel => exact ⟨m + 1, rfl, by go_num, by omega, UPW.out _ _ HB.out HC3.out⟩
            case measure => omega
          · skip
            (repeat (first | (with_reducible refine mix_read (by kernel_rfl) ?_; go_big_quiet_want; go_big_quiet_op; go_big_quiet_on; with_reducible refine wpQuiet_nil ?_) | (with_reducible refine mix_pass (by kernel_rfl) ?_; go_big_quiet_skip; with_reducible refine wpQuiet_nil ?_)))
            with_reducible refine mix_call (by kernel_rfl) (by kernel_rfl) ((CA.out wd (HUP.out _ (UPW.out _ _ HB.out HT.out))).mono ?_) (by kernel_rfl)
            rintro e v0 ⟨rfl, hb⟩
            have HC0 : Hid (Below wr.heap.size wr v0) := HT.out.trans (hb.mono HT.out.size)
            clear hb
            refine ⟨_, rfl, ⟨⟨_, HC0.out⟩, rfl⟩, ?_⟩
            simp only [Act.put, List.setIfInBounds_toArray, List.set_cons_zero, List.set_cons_succ]
            (repeat (first | (with_reducible refine mix_read (by kernel_rfl) ?_; go_big_quiet_want; go_big_quiet_op; go_big_quiet_on; with_reducible refine wpQuiet_nil ?_) | (with_reducible refine mix_pass (by kernel_rfl) ?_; go_big_quiet_skip; with_reducible refine wpQuiet_nil ?_)))
            with_reducible refine mix_call (by kernel_rfl) (by kernel_rfl) ((CB.out v0 (HUP.out _ (UPW.out _ _ HB.out HC0.out))).mono ?_) (by kernel_rfl)
            rintro e v1 ⟨rfl, hb⟩
            have HC1 : Hid (Below wr.heap.size wr v1) := HC0.out.trans (hb.mono HC0.out.size)
            clear hb
            refine ⟨_, rfl, ⟨⟨_, HC1.out⟩, rfl⟩, ?_⟩
            simp only [Act.put, List.setIfInBounds_toArray, List.set_cons_zero, List.set_cons_succ]
            (repeat (first | (with_reducible refine mix_read (by kernel_rfl) ?_; go_big_quiet_want; go_big_quiet_op; go_big_quiet_on; with_reducible refine wpQuiet_nil ?_) | (with_reducible refine mix_pass (by kernel_rfl) ?_; go_big_quiet_skip; with_reducible refine wpQuiet_nil ?_)))
            with_reducible refine mix_call (by kernel_rfl) (by kernel_rfl) ((CA.out v1 (HUP.out _ (UPW.out _ _ HB.out HC1.out))).mono ?_) (by kernel_rfl)
            rintro e v2 ⟨rfl, hb⟩
            have HC2 : Hid (Below wr.heap.size wr v2) := HC1.out.trans (hb.mono HC1.out.size)
            clear hb
            refine ⟨_, rfl, ⟨⟨_, HC2.out⟩, rfl⟩, ?_⟩
            simp only [Act.put, List.setIfInBounds_toArray, List.set_cons_zero, List.set_cons_succ]
            (repeat (first | (with_reducible refine mix_read (by kernel_rfl) ?_; go_big_quiet_want; go_big_quiet_op; go_big_quiet_on; with_reducible refine wpQuiet_nil ?_) | (with_reducible refine mix_pass (by kernel_rfl) ?_; go_big_quiet_skip; with_reducible refine wpQuiet_nil ?_)))
            with_reducible refine mix_call (by kernel_rfl) (by kernel_rfl) ((CC.out v2 (HUP.out _ (UPW.out _ _ HB.out HC2.out))).mono ?_) (by kernel_rfl)
            rintro e v3 ⟨rfl, hb⟩
            have HC3 : Hid (Below wr.heap.size wr v3) := HC2.out.trans (hb.mono HC2.out.size)
            clear hb
            refine ⟨_, rfl, ⟨⟨_, HC3.out⟩, rfl⟩, ?_⟩
            simp only [Act.put, List.setIfInBounds_toArray, List.set_cons_zero, List.set_cons_succ]
            (repeat (first | (with_reducible refine mix_read (by kernel_rfl) ?_; go_big_quiet_want; go_big_quiet_op; go_big_quiet_on; with_reducible refine wpQuiet_nil ?_) | (with_reducible refine mix_pass (by kernel_rfl) ?_; go_big_quiet_skip; with_reducible refine wpQuiet_nil ?_)))
            with_reducible refine mix_end ?_
            intro _
            clear y0 y1 y2 y3
            go_wp2
            go_roundg (n3 - (m + 1))
            case rel => exact ⟨m + 1, rfl, by go_num, by omega, UPW.out _ _ HB.out HC3.out⟩
            case measure => omega
        · have hmn : ¬ (m : Int) < (n3 : Int) := by omega
          clear q0 q1 q2 q3
          obtain ⟨⟨q0, q1, q2, q3⟩, _⟩ := cells4 (blk_below HB.out H0.out)
          go_wp2
          go_roundg (n3 - (k + 1))
          case rel => exact ⟨k + 1, rfl, by go_num, by omega, HB.out⟩
          case measure => omega
    · have hkn : ¬ (k : Int) < (n3 : Int) := by omega
      go_wp2
      clear q0 q1 q2 q3
      go_loopg [7] n2 (fun gk i wr' => ∃ m : Nat, gk = n2 - m ∧ i = .int .i64 m ∧ m ≤ n2 ∧ Below w1.heap.size w1 wr')
      case atStart => exact ⟨0, rfl, rfl, by omega, HB.out⟩
      case round =>
        clear HB
        obtain ⟨m, rfl, rfl, hm, hb⟩ := hrel
        have HB : Hid (Below w1.heap.size w1 wr) := hb
        clear hb
        obtain ⟨⟨q0, q1, q2, q3⟩, _⟩ := cells4 (blk_below HB.out H0.out)
        have ENL : Hid (∀ sg, (entF sg rs 0).length ≤ 4294967296) := fun sg => by have h1 := ent_len sg rs 0; have h2 := HS3.out; have h3 := HSS.out.2; show _ ≤ _; omega
        by_cases hmt : m < n2
        · have hmi : (m : Int) < (n2 : Int) := by omega
          go_wp2_with fail
          have y0 := ext_cell q0
          have y1 := ext_cell q1
          have y2 := ext_cell q2
          have y3 := ext_cell q3
          haveI := ext_some wr
          have HT : Hid (Below wr.heap.size wr wr.drew) := (Below.refl _ _).drew
          clear q0 q1 q2 q3
          refine wp_region_mix_seq (C := fun W => ∃ y : Ext wr, W = y.z) [0, 1, 3, 4, 2, 5, 6, 7] (by kernel_rfl) (by kernel_rfl) (by kernel_rfl) (by kernel_rfl) (by simp only [List.filterMap_cons, List.getElem?_toArray, List.getElem?_cons_zero, List.getElem?_cons_succ, List.filterMap_nil]; rfl) ⟨⟨_, (Below.refl _ _).drew⟩, rfl⟩ ?_
          generalize wr.drew = wd at *
          (repeat (first | (with_reducible refine mix_read (by kernel_rfl) ?_; go_big_quiet_want; go_big_quiet_op; go_big_quiet_on; with_reducible refine wpQuiet_nil ?_) | (with_reducible refine mix_pass (by kernel_rfl) ?_; go_big_quiet_skip; with_reducible refine wpQuiet_nil ?_)))
          with_reducible refine mix_call (by kernel_rfl) (by kernel_rfl) ((ENT.out (m : Int) wd (HUP.out _ (UPW.out _ _ HB.out HT.out))).mono ?_) (by kernel_rfl)
          rintro e e1 ⟨ua, rfl, ra, hb⟩
          have HE1 : Hid (Below wr.heap.size wr e1) := HT.out.trans (hb.mono HT.out.size)
          have HRA : Hid (rowAt e1 ua 1 iC (entF (m : Int) rs 0)) := ra
          clear hb ra
          refine ⟨_, rfl, ⟨⟨_, HE1.out⟩, rfl⟩, ?_⟩
          simp only [Act.put, List.setIfInBounds_toArray, List.set_cons_zero, List.set_cons_succ]
          (repeat (first | (with_reducible refine mix_read (by kernel_rfl) ?_; go_big_quiet_want; go_big_quiet_op; go_big_quiet_on; with_reducible refine wpQuiet_nil ?_) | (with_reducible refine mix_pass (by kernel_rfl) ?_; go_big_quiet_skip; with_reducible refine wpQuiet_nil ?_)))
          with_reducible refine mix_call (by kernel_rfl) (by kernel_rfl) ((ENR.out (m : Int) e1 (HUP.out _ (UPW.out _ _ HB.out HE1.out))).mono ?_) (by kernel_rfl)
          rintro e e2 ⟨ub, rfl, rb, hb⟩
          have HE2 : Hid (Below wr.heap.size wr e2) := HE1.out.trans (hb.mono HE1.out.size)
          have HRB : Hid (rowAt e2 ua 1 iC (entF (m : Int) rs 0) ∧ rowAt e2 ub 1 iC (entF (m : Int) rs 0)) := ⟨HRA.out.below hb, rb⟩
          clear hb rb
          refine ⟨_, rfl, ⟨⟨_, HE2.out⟩, rfl⟩, ?_⟩
          simp only [Act.put, List.setIfInBounds_toArray, List.set_cons_zero, List.set_cons_succ]
          (repeat (first | (with_reducible refine mix_read (by kernel_rfl) ?_; go_big_quiet_want; go_big_quiet_op; go_big_quiet_on; with_reducible refine wpQuiet_nil ?_) | (with_reducible refine mix_pass (by kernel_rfl) ?_; go_big_quiet_skip; with_reducible refine wpQuiet_nil ?_)))
          with_reducible refine mix_call (by kernel_rfl) (by kernel_rfl) ((ints_same ua ub _ e2 HRB.out.1 HRB.out.2 (ENL.out _)).mono ?_) (by kernel_rfl)
          rintro e e3 ⟨rfl, hb⟩
          have HE3 : Hid (Below wr.heap.size wr e3) := HE2.out.trans (hb.mono HE2.out.size)
          clear hb
          refine ⟨_, rfl, ⟨⟨_, HE3.out⟩, rfl⟩, ?_⟩
          simp only [Act.put, List.setIfInBounds_toArray, List.set_cons_zero, List.set_cons_succ]
          (repeat (first | (with_reducible refine mix_read (by kernel_rfl) ?_; go_big_quiet_want; go_big_quiet_op; go_big_quiet_on; with_reducible refine wpQuiet_nil ?_) | (with_reducible refine mix_pass (by kernel_rfl) ?_; go_big_quiet_skip; with_reducible refine wpQuiet_nil ?_)))
          with_reducible refine mix_end ?_
          intro _
          clear y0 y1 y2 y3
          go_wp2
          go_roundg (n2 - (m + 1))
          case rel => exact ⟨m + 1, rfl, by go_num, by omega, UPW.out _ _ HB.out HE3.out⟩
          case measure => omega
        · have hmn : ¬ (m : Int) < (n2 : Int) := by omega
          have HNO : Hid (entF (n2 : Int) rs 0 = []) := ent_no _ _ 0 fun x hx => by have := HFR.out x hx; omega
          go_wp2_with fail
          have y0 := ext_cell q0
          have y1 := ext_cell q1
          have y2 := ext_cell q2
          have y3 := ext_cell q3
          haveI := ext_some wr
          have HT : Hid (Below wr.heap.size wr wr.drew) := (Below.refl _ _).drew
          clear q0 q1 q2 q3
          refine wp_region_mix_seq (C := fun W => ∃ y : Ext wr, W = y.z) [0, 1, 2, 3, 4, 5, 6, 7, 8, 9, 11, 12, 10, 13, 14, 15, 16, 17, 18, 19] (by kernel_rfl) (by kernel_rfl) (by kernel_rfl) (by kernel_rfl) (by simp only [List.filterMap_cons, List.getElem?_toArray, List.getElem?_cons_zero, List.getElem?_cons_succ, List.filterMap_nil]; rfl) ⟨⟨_, (Below.refl _ _).drew⟩, rfl⟩ ?_
          generalize wr.drew = wd at *
          (repeat (first | (with_reducible refine mix_read (by kernel_rfl) ?_; go_big_quiet_want; go_big_quiet_op; go_big_quiet_on; with_reducible refine wpQuiet_nil ?_) | (with_reducible refine mix_pass (by kernel_rfl) ?_; go_big_quiet_skip; with_reducible refine wpQuiet_nil ?_)))
          with_reducible refine mix_call (by kernel_rfl) (by kernel_rfl) ((ENT.out (n2 : Int) wd (HUP.out _ (UPW.out _ _ HB.out HT.out))).mono ?_) (by kernel_rfl)
          rintro e e0 ⟨u0, rfl, r0, hb⟩
          have HE0 : Hid (Below wr.heap.size wr e0) := HT.out.trans (hb.mono HT.out.size)
          rw [HNO.out] at r0
          obtain ⟨oz, cz, rfl, -⟩ := r0
          clear hb
          refine ⟨_, rfl, ⟨⟨_, HE0.out⟩, rfl⟩, ?_⟩
          simp only [Act.put, List.setIfInBounds_toArray, List.set_cons_zero, List.set_cons_succ]
          (repeat (first | (with_reducible refine mix_read (by kernel_rfl) ?_; go_big_quiet_want; go_big_quiet_op; go_big_quiet_on; with_reducible refine wpQuiet_nil ?_) | (with_reducible refine mix_pass (by kernel_rfl) ?_; go_big_quiet_skip; with_reducible refine wpQuiet_nil ?_)))
          with_reducible refine mix_call (by kernel_rfl) (by kernel_rfl) ((ENT.out sg e0 (HUP.out _ (UPW.out _ _ HB.out HE0.out))).mono ?_) (by kernel_rfl)
          rintro e e1 ⟨ua, rfl, ra, hb⟩
          have HE1 : Hid (Below wr.heap.size wr e1) := HE0.out.trans (hb.mono HE0.out.size)
          have HRA : Hid (rowAt e1 ua 1 iC (entF sg rs 0)) := ra
          clear hb ra
          refine ⟨_, rfl, ⟨⟨_, HE1.out⟩, rfl⟩, ?_⟩
          simp only [Act.put, List.setIfInBounds_toArray, List.set_cons_zero, List.set_cons_succ]
          (repeat (first | (with_reducible refine mix_read (by kernel_rfl) ?_; go_big_quiet_want; go_big_quiet_op; go_big_quiet_on; with_reducible refine wpQuiet_nil ?_) | (with_reducible refine mix_pass (by kernel_rfl) ?_; go_big_quiet_skip; with_reducible refine wpQuiet_nil ?_)))
          with_reducible refine mix_call (by kernel_rfl) (by kernel_rfl) ((ENR.out sg e1 (HUP.out _ (UPW.out _ _ HB.out HE1.out))).mono ?_) (by kernel_rfl)
          rintro e e2 ⟨ub, rfl, rb, hb⟩
          have HE2 : Hid (Below wr.heap.size wr e2) := HE1.out.trans (hb.mono HE1.out.size)
          have HRB : Hid (rowAt e2 ua 1 iC (entF sg rs 0) ∧ rowAt e2 ub 1 iC (entF sg rs 0)) := ⟨HRA.out.below hb, rb⟩
          clear hb rb
          refine ⟨_, rfl, ⟨⟨_, HE2.out⟩, rfl⟩, ?_⟩
          simp only [Act.put, List.setIfInBounds_toArray, List.set_cons_zero, List.set_cons_succ]
          (repeat (first | (with_reducible refine mix_read (by kernel_rfl) ?_; go_big_quiet_want; go_big_quiet_op; go_big_quiet_on; with_reducible refine wpQuiet_nil ?_) | (with_reducible refine mix_pass (by kernel_rfl) ?_; go_big_quiet_skip; with_reducible refine wpQuiet_nil ?_)))
          with_reducible refine mix_call (by kernel_rfl) (by kernel_rfl) ((ints_same ua ub _ e2 HRB.out.1 HRB.out.2 (ENL.out _)).mono ?_) (by kernel_rfl)
          rintro e e3 ⟨rfl, hb⟩
          have HE3 : Hid (Below wr.heap.size wr e3) := HE2.out.trans (hb.mono HE2.out.size)
          clear hb
          refine ⟨_, rfl, ⟨⟨_, HE3.out⟩, rfl⟩, ?_⟩
          simp only [Act.put, List.setIfInBounds_toArray, List.set_cons_zero, List.set_cons_succ]
          (repeat (first | (with_reducible refine mix_read (by kernel_rfl) ?_; go_big_quiet_want; go_big_quiet_op; go_big_quiet_on; with_reducible refine wpQuiet_nil ?_) | (with_reducible refine mix_pass (by kernel_rfl) ?_; go_big_quiet_skip; with_reducible refine wpQuiet_nil ?_)))
          with_reducible refine mix_call (by kernel_rfl) (by kernel_rfl) ((known_any e3).mono ?_) (by kernel_rfl)
          rintro e e4 ⟨rfl, hb⟩
          have HE4 : Hid (Below wr.heap.size wr e4) := HE3.out.trans (hb.mono HE3.out.size)
          clear hb
          refine ⟨_, rfl, ⟨⟨_, HE4.out⟩, rfl⟩, ?_⟩
          simp only [Act.put, List.setIfInBounds_toArray, List.set_cons_zero, List.set_cons_succ]
          (repeat (first | (with_reducible refine mix_read (by kernel_rfl) ?_; go_big_quiet_want; go_big_quiet_op; go_big_quiet_on; with_reducible refine wpQuiet_nil ?_) | (with_reducible refine mix_pass (by kernel_rfl) ?_; go_big_quiet_skip; with_reducible refine wpQuiet_nil ?_)))
          with_reducible refine mix_end ?_
          intro _
          clear y0 y1 y2 y3
          go_wp2
          go_ret
          exact ⟨rfl, HUP.out _ (UPW.out _ _ HB.out HE4.out)⟩

theorem own : ownKnob Tryd.prog.godebug = none := by kernel_rfl
theorem u8x : U8Extra Tryd.prog Tryd.lays260_ren := ⟨by kernel_rfl, by kernel_rfl, by kernel_rfl, by kernel_rfl, by kernel_rfl, by kernel_rfl, by kernel_rfl⟩
theorem accept_eq : (Rows.laid_unicode_utf8_acceptRanges : DataW Unit) = Lib.acceptData := by kernel_rfl
theorem first_eq : Rows.laid_unicode_utf8_first = Lib.firstData := Pinned.utf8First_eq
theorem tabs_of {W : World} (hL : laidMet Tryd.prog Rows.tableTellsRow.laid W) : Lib.Utf8Tabs 0 1 W :=
  utf8Tabs_of_readsT (U8Types.of260 Tryd.lays260) u8x (first_eq ▸ Lib.laidMet.reads hL (.tail _ (.head _))) (accept_eq ▸ Lib.laidMet.reads hL (.head _))

set_option maxRecDepth 100000 in
theorem lifted (os : Os) (started : os.Started) (H : Type) (enc : TypeId × Value → H) :
    ReturnsInHanded {} Tryd.checked os 4 .any (fun w args => (Rows.tableTellsSpec.pre enc Tryd.prog Tryd.f4 [] false w args ∧ laidMetH Tryd.prog Rows.tableTellsRow.laid w) ∧ sizedMet enc Tryd.prog Tryd.f4 (OpenSpec.ofChange Rows.tableTellsSpec) false w args)
      (Rows.tableTellsSpec.post enc Tryd.prog Tryd.f4 false true false false) := by
  refine returnsInHanded_of_change_and (C := Tryd.checked) (X := fun w _ => laidMetH Tryd.prog Rows.tableTellsRow.laid w) (fun _ _ _ hh h => h.of_heap hh) own started (by kernel_rfl) Tryd.func4
    (ChangeSpec.witness_shaped (enc := enc) (C := Tryd.checked) (os := os) (X := fun w _ => laidMetH Tryd.prog Rows.tableTellsRow.laid w) false (World.laidAll Tryd.prog os Rows.tableTellsRow.laid) #[.agg #[.slice none 0 0, .slice none 0 0, .slice none 0 0, .slice none 0 0], .int .i64 0] 8 (World.laidAll_os _ _ _)
      (World.shaped_of_ZipB (by kernel_rfl) (by kernel_rfl)) (by kernel_rfl) (by kernel_rfl) (by kernel_rfl)
      (by rw [MakeChecks.laidMetH_plain _ _ _ (by kernel_rfl)]; exact laidMet_laidAll _ (by kernel_rfl) (by kernel_rfl))) ?_
  intro W base args ds gs before hval0 hW _ hsz0 hL _
  have hval : ∀ (j : Nat) t v, Tryd.f4.params[j]? = some t → args[j]? = some v → Value.okWide Tryd.prog W .any base t v := hval0
  have hsz : (DataW.weightsEach Tryd.prog (Tryd.f4.params.toList ++ Rows.tableTellsSpec.plain.varTypes Tryd.prog) (ds ++ gs)).all (· ≤ reachBytes) = true := hsz0
  have hW' := hW
  obtain ⟨p, q, hA0, hV, rfl, _, _⟩ := hW
  have hA : DataW.TrodAll enc Tryd.prog W 0 (fun _ => true) true Tryd.f4.params.toList args.toList ds p := hA0
  rw [Tryd.params4] at hA hval hsz
  obtain ⟨v0, vs0, d0, ds0, p0, q0, hargs, rfl, rfl, h0, r0⟩ := trodAll_cons hA
  obtain ⟨v1, vs1, d1, ds1, p1, q1, rfl, rfl, rfl, h1, r1⟩ := trodAll_cons r0
  obtain ⟨rfl, rfl, rfl⟩ := trodAll_nil r1
  obtain rfl : args = #[v0, v1] := by cases args; simp_all
  obtain ⟨rfl, rfl⟩ := trodVars_none hV
  have k0 := h0
  have lt0 : ∀ x ∈ p0, x.block < W.heap.size := by obtain ⟨m, hm⟩ := k0; exact DataW.trod_lt m _ _ _ hm
  have g0 := weights_at hsz (j := 0) (t := 26) rfl rfl
  obtain ⟨u0, l0, s0, rfl, y0, b0, c0, x0⟩ := open_layout_c (hval 0 26 v0 rfl rfl) h0 g0
  obtain ⟨a1, rfl, rfl, rfl, w1⟩ := open_int Tryd.underlying3 (hval 1 3 v1 rfl rfl) h1
  clear hA0 hval0
  rw [MakeChecks.laidMetH_plain _ _ _ (by kernel_rfl)] at hL
  refine (walk W u0 l0 s0 y0 b0 c0 x0 a1 w1 (tabs_of hL)).mono fun e W' ⟨he, bel⟩ => ?_
  subst he
  exact ⟨_, rfl, _, _, _, [], _, [], hW', trodAll_mk1 (shut_bool Tryd.underlying4 _), (trodAll_cons_mk (Below.trod laidOut (by kernel_rfl) (of_decide_eq_true (by kernel_rfl)) k0 bel lt0) (trodAll_cons_mk (shut_int Tryd.underlying3 w1) trodAll_mk0)), rfl, bel.frame _, fun h => by cases h⟩

theorem over : Rows.tableTellsRow.holds Tryd.pinned (OpenSpec.ofChange Rows.tableTellsSpec) :=
  OpenClaim.holds_of_wide 4 Tryd.f4 rfl rfl rfl rfl rfl rfl rfl ⟨rfl, rfl, rfl, rfl, rfl⟩ rfl rfl rfl rfl rfl (by kernel_rfl) Tryd.func4 (by kernel_rfl)
    (of_decide_eq_true (by kernel_rfl)) (by unfold Func.isWrapper; first | (rw [if_pos (by decide +kernel)]; kernel_rfl) | (rw [if_neg (by decide +kernel)]; exact ⟨rfl, rfl⟩))
    (fun os started H enc _ => lifted os started H enc)

theorem card : Rows.TableTellsCardSaid :=
  Claim7.holds_tied_plain_at .later [] _ _ _ _ over (fun _ h => by cases h) (by kernel_rfl) (fun _ h => by cases h) tableTells_row_tie rfl ⟨rfl, rfl⟩ (by kernel_rfl) rfl
    (fun f fn hf hfn => by
      obtain rfl : f = 4 := Option.some.inj ((show Tryd.prog.funcNamed Rows.tableTellsRow.func = some 4 by kernel_rfl).symm.trans hf) |>.symm
      obtain rfl : fn = Tryd.f4 := (Option.some.inj (Tryd.func4.symm.trans hfn)).symm
      exact ⟨by kernel_rfl, fun j t ht => by
        rw [Tryd.params4] at ht
        have hm : t ∈ [26, 3] := by simpa using Array.mem_of_getElem? ht
        have hall : ([26, 3].all fun u => !Tryd.prog.wantsStandIn u) = true := by kernel_rfl
        exact (show Tryd.prog.wantsStandIn t = false by simpa using List.all_eq_true.1 hall t hm)⟩)
    (by kernel_rfl)

end Go.Proofs.YtfgkkhcoidegdaaDoor.tableTells
namespace Go.Proofs.YtfgkkhcoidegdaaDoor
theorem tableTells_holds : Rows.TableTellsCardSaid := tableTells.card
#print axioms tableTells_holds
end Go.Proofs.YtfgkkhcoidegdaaDoor
