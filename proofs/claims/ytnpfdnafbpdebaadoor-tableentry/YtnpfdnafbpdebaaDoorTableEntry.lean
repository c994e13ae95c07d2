/-
  Of every layout: TableEntry returns true. A tied card: what unicode/utf8's two tables hold is listed, tied by the given tie.
-/
import Derived.Test.YtnpfdnafbpdebaaDoorRows
import Derived.Test.YtnpfdnafbpdebaaDoorTie
import Derived.Test.YtnpfdnafbpdebaaDoorCards
import Derived.Test.YtnpfdnafbpdebaaDoorTbTwo
import Derived.Test.YtnpfdnafbpdebaaDoorTbEntry
import Derived.Test.YtnpfdnafbpdebaaDoorTbOpen
import Derived.Test.YtnpfdnafbpdebaaDoorLySz4
import Derived.WalkKit
import Derived.ProofKit
import Derived.OpenShut
import Derived.ShutString
import Derived.ChangeOld
import Derived.Below
import Derived.SizedLaws
import Derived.PinnedBridge
import Derived.Lib.LaidU8T
import Derived.Lay
import Derived.LaidOnce
import Derived.SevenTiedAt
import Derived.Deep.DeepHandedRow
namespace Go.Proofs.YtnpfdnafbpdebaaDoor.tableEntry
open Go.ChangeShapes Go.WideShapes Go.ChangeAt Go.RowKit

theorem ent_at (sg : Int) : ∀ (xs : List RtV) (k i : Nat) (e : Int), (entF sg xs k)[i]? = some e → ∃ j x, e = ((k + j : Nat) : Int) ∧ xs[j]? = some x ∧ x.1.frm = sg
  | [], k, i, e, h => by simp [entF] at h
  | x :: xs, k, i, e, h => by
    rw [entF] at h
    split at h
    · rename_i hx
      cases i with
      | zero => simp at h; exact ⟨0, x, by rw [← h]; rfl, rfl, hx⟩
      | succ i =>
        obtain ⟨j, y, e1, e2, e3⟩ := ent_at sg xs (k + 1) i e (by simpa using h)
        exact ⟨j + 1, y, by rw [e1]; congr 1; omega, by simpa using e2, e3⟩
    · obtain ⟨j, y, e1, e2, e3⟩ := ent_at sg xs (k + 1) i e h
      exact ⟨j + 1, y, by rw [e1]; congr 1; omega, by simpa using e2, e3⟩
theorem ent_ge (sg : Int) (xs : List RtV) (k : Nat) : ∀ e ∈ entF sg xs k, (k : Int) ≤ e := fun e he => by
  obtain ⟨i, hi⟩ := List.getElem?_of_mem he
  obtain ⟨j, _, e1, _⟩ := ent_at sg xs k i e hi
  omega
theorem ent_pw (sg : Int) : ∀ (xs : List RtV) (k : Nat), (entF sg xs k).Pairwise (· < ·)
  | [], k => by simp [entF]
  | x :: xs, k => by
    rw [entF]
    split
    · refine List.pairwise_cons.2 ⟨fun e he => ?_, ent_pw sg xs (k + 1)⟩
      have := ent_ge sg xs (k + 1) e he
      omega
    · exact ent_pw sg xs (k + 1)
theorem ent_next {sg : Int} {xs : List RtV} {i : Nat} {a b : Int} (h1 : (entF sg xs 0)[i]? = some a) (h2 : (entF sg xs 0)[i + 1]? = some b) : a < b := by
  obtain ⟨l1, e1⟩ := List.getElem?_eq_some_iff.1 h1
  obtain ⟨l2, e2⟩ := List.getElem?_eq_some_iff.1 h2
  have := List.pairwise_iff_getElem.1 (ent_pw sg xs 0) i (i + 1) l1 l2 (by omega)
  rw [e1, e2] at this
  exact this
/-- How many routes begin at the first so many signals. -/
def cntB (k : Nat) : List RtV → Nat
  | [] => 0
  | x :: xs => (if 0 ≤ x.1.frm ∧ x.1.frm < (k : Int) then 1 else 0) + cntB k xs
theorem cnt_next (k : Nat) : ∀ (xs : List RtV) (j : Nat), cntB (k + 1) xs = cntB k xs + (entF (k : Int) xs j).length
  | [], j => by simp [cntB, entF]
  | x :: xs, j => by
    have ih := cnt_next k xs (j + 1)
    rw [cntB, cntB, entF, ih]
    by_cases h : x.1.frm = (k : Int)
    · rw [if_pos (by omega), if_neg (by omega), if_pos h, List.length_cons]
      omega
    · by_cases h2 : 0 ≤ x.1.frm ∧ x.1.frm < (k : Int)
      · rw [if_pos (by omega), if_pos h2, if_neg h]
        omega
      · rw [if_neg (by omega), if_neg h2, if_neg h]
        omega
theorem cnt_zero : ∀ xs : List RtV, cntB 0 xs = 0
  | [] => rfl
  | x :: xs => by rw [cntB, cnt_zero xs, if_neg (by omega)]
theorem cnt_all (n : Nat) : ∀ xs : List RtV, (∀ x ∈ xs, 0 ≤ x.1.frm ∧ x.1.frm < (n : Int)) → cntB n xs = xs.length
  | [], _ => rfl
  | x :: xs, h => by
    rw [cntB, cnt_all n xs fun y hy => h y (List.mem_cons_of_mem _ hy), if_pos (h x (List.mem_cons_self ..)), List.length_cons]
    omega
theorem cnt_le (n : Nat) : ∀ xs : List RtV, cntB n xs ≤ xs.length
  | [] => Nat.le_refl _
  | x :: xs => by
    have := cnt_le n xs
    rw [cntB, List.length_cons]
    split <;> omega
theorem frm_of {l : Lay} {rs : List RtV} (hm : rs.map (·.1) = l.routes) (h : isB l = true) : ∀ x ∈ rs, 0 ≤ x.1.frm ∧ x.1.frm < (l.signals.length : Nat) := fun x hx => by
  rw [isB, Bool.and_eq_true, Bool.and_eq_true, Bool.and_eq_true] at h
  have h1 := List.all_eq_true.1 h.2.2.2 x.1 (by rw [← hm]; exact List.mem_map.2 ⟨x, hx, rfl⟩)
  rw [routeB, Bool.and_eq_true] at h1
  exact (of_decide_eq_true h1.1).1
theorem conf_same (r s : Nat) (x y : RtV) (h : x.1.frm = y.1.frm) : confB r s x.1 y.1 = true := by
  rw [confB, decide_eq_true h]
  simp

set_option maxRecDepth 1000000 in
set_option maxHeartbeats 32000000 in
theorem walk (w : World) (v : Nat → Value) (l : Lay) (rs : List RtV) (h : LayRd w v l rs) (hB : LayBig l) (hcap : ∀ x ∈ rs, capOk x.2.1) (_ : capOk (v 3) ∧ capOk (v 0) ∧ capOk (v 2)) (hT : Lib.Utf8Tabs 0 1 w) :
    Calls Tryd.prog 5 #[.agg #[v 0, v 1, v 2, v 3]] w fun e w' => e = .returned (.bool true) ∧ Below w.heap.size w w' := by
  obtain ⟨o0, c0, e0, _⟩ := h.s
  obtain ⟨o1, c1, e1, _⟩ := h.p
  obtain ⟨o2, c2, e2, _⟩ := h.g
  obtain ⟨o3, c3, e3, r3⟩ := h.r
  have SZ : Hid (∀ W, Below w.heap.size w W → Calls Tryd.prog 14 #[.agg #[v 0, v 1, v 2, v 3]] W fun e w' => ∃ n : Int, e = .returned (.int .i64 n) ∧ 0 ≤ n ∧ n ≤ 1125899906842624 ∧ (n < 3000 → LaySmall l) ∧ Below W.heap.size W w') := fun W hW => size4_any v l rs W (h.below hW) hB
  have IS : Hid (LaySmall l → ∀ W, Below w.heap.size w W → Calls Tryd.prog 15 #[.agg #[v 0, v 1, v 2, v 3]] W fun e w' => e = .returned (.bool (isB l)) ∧ Below W.heap.size W w') := fun hs W hW => is_any v l rs W (h.below hW) hcap (LayMid.of hs hB) (tabs_below hT hW)
  have EN : Hid (LaySmall l → ∀ sg W, Below w.heap.size w W → Calls Tryd.prog 22 #[.agg #[v 0, v 1, v 2, v 3], .int .i64 sg] W fun e w' => ∃ u, e = .returned u ∧ rowAt w' u 1 iC (entF sg rs 0) ∧ Below W.heap.size W w') := fun hs sg W hW => entry_any v l rs sg W (h.below hW) (by have h1 := hs.r.1; rw [← h.m, List.length_map] at h1; omega)
  have CF : Hid (LaySmall l → ∀ (r s : Nat) (x y : RtV), rs[r]? = some x → rs[s]? = some y → x.1.frm = y.1.frm → ∀ W, Below w.heap.size w W → Calls Tryd.prog 19 #[.agg #[v 0, v 1, v 2, v 3], .int .i64 r, .int .i64 s] W fun e w' => e = .returned (.bool true) ∧ Below W.heap.size W w') := fun hs r s x y hx hy he W hW => by
    have sm : ∀ z ∈ rs, z.1.path.length ≤ 1000000 ∧ z.1.points.length + z.1.flank.length ≤ 1000000 := fun z hz => by
      have := hs.r.2 z.1 (by rw [← h.m]; exact List.mem_map.2 ⟨z, hz, rfl⟩)
      omega
    have := conflict_any v l rs r s x y W (h.below hW) hx hy (sm x (List.mem_of_getElem? hx)) (sm y (List.mem_of_getElem? hy))
    rw [conf_same r s x y he] at this
    exact this
  have FR : Hid (isB l = true → ∀ x ∈ rs, 0 ≤ x.1.frm ∧ x.1.frm < (l.signals.length : Nat)) := fun hi => frm_of h.m hi
  have SM : Hid (LaySmall l → l.signals.length < 3000 ∧ rs.length < 3000) := fun hs => ⟨hs.g.1, by have h1 := hs.r.1; rw [← h.m, List.length_map] at h1; exact h1⟩
  have R3 : Hid (∀ j x, rs[j]? = some x → ∃ g off, o3 = some ⟨g, off, none⟩ ∧ w.cell? ⟨g, off + j * 6 + 1, none⟩ = some (.int .i64 x.1.frm)) := fun j x hx => by
    obtain ⟨g, off, e, hc⟩ := r3 j x hx
    exact ⟨g, off, e, hc 1 _ rfl⟩
  rw [e0, e1, e2, e3] at SZ IS EN CF ⊢
  clear h hB hcap hT e0 e1 e2 e3 r3
  generalize hs0 : l.sections.length = n0 at *
  generalize hs1 : l.points.length = n1 at *
  generalize hs2 : l.signals.length = n2 at *
  generalize hs3 : rs.length = n3 at *
  have HS3 : Hid (rs.length = n3) := hs3
  clear hs0 hs1 hs2 hs3
  generalize hch : w.alloc (.cells #[.slice o0 n0 c0, .slice o1 n1 c1, .slice o2 n2 c2, .slice o3 n3 c3] 26) = w1
  have HB01 : Hid (Below w.heap.size w w1) := by show Below _ _ _; rw [← hch]; exact (Below.refl _ _).alloc (Nat.le_refl _) _
  have H0 : Hid (w1.heap[w.heap.size]? = some (.cells #[.slice o0 n0 c0, .slice o1 n1 c1, .slice o2 n2 c2, .slice o3 n3 c3] 26 (0, 0))) := by show _ = _; rw [← hch]; exact blk_new _ _
  have HUP : Hid (∀ W, Below w1.heap.size w1 W → Below w.heap.size w W) := fun W hW => HB01.out.trans (hW.mono HB01.out.size)
  obtain ⟨⟨q0, q1, q2, q3⟩, _⟩ := cells4 H0.out
  go_enter Tryd.func5, Tryd.ntmps5
  go_wp2_with fail
  clear hch
  refine (SZ.out _ HB01.out).mono ?_
  rintro e w2 ⟨n, rfl, hn0, hn1, hsm, hb2⟩
  have HB2 : Hid (Below w1.heap.size w1 w2) := hb2
  clear q0 q1 q2 q3 hb2 SZ
  obtain ⟨⟨q0, q1, q2, q3⟩, _⟩ := cells4 (blk_below HB2.out H0.out)
  by_cases hbig : (3000 : Int) ≤ n
  · clear hsm
    go_wp2_with fail
    go_ret
    exact ⟨rfl, HUP.out _ HB2.out⟩
  have HSM : Hid (LaySmall l) := hsm (by omega)
  clear hsm
  have D := IS.out HSM.out w2 (HUP.out _ HB2.out)
  generalize isB l = b at *
  go_wp2_with fail
  refine D.mono ?_
  rintro e w3 ⟨rfl, hb3⟩
  have HB3 : Hid (Below w1.heap.size w1 w3) := HB2.out.trans (hb3.mono HB2.out.size)
  clear q0 q1 q2 q3 hb3 D IS
  obtain ⟨⟨q0, q1, q2, q3⟩, _⟩ := cells4 (blk_below HB3.out H0.out)
  cases b
  · go_wp2
    go_ret
    exact ⟨rfl, HUP.out _ HB3.out⟩
  have HFR : Hid (∀ x ∈ rs, 0 ≤ x.1.frm ∧ x.1.frm < (n2 : Nat)) := FR.out rfl
  have HSS : Hid (n2 < 3000 ∧ n3 < 3000) := SM.out HSM.out
  have ENT := (show Hid (∀ sg W, Below w.heap.size w W → Calls Tryd.prog 22 #[.agg #[.slice o0 n0 c0, .slice o1 n1 c1, .slice o2 n2 c2, .slice o3 n3 c3], .int .i64 sg] W fun e w' => ∃ u, e = .returned u ∧ rowAt w' u 1 iC (entF sg rs 0) ∧ Below W.heap.size W w') from EN.out HSM.out)
  have CON := (show Hid (∀ (r s : Nat) (x y : RtV), rs[r]? = some x → rs[s]? = some y → x.1.frm = y.1.frm → ∀ W, Below w.heap.size w W → Calls Tryd.prog 19 #[.agg #[.slice o0 n0 c0, .slice o1 n1 c1, .slice o2 n2 c2, .slice o3 n3 c3], .int .i64 r, .int .i64 s] W fun e w' => e = .returned (.bool true) ∧ Below W.heap.size W w') from CF.out HSM.out)
  clear EN CF FR SM q0 q1 q2 q3
  obtain ⟨⟨q0, q1, q2, q3⟩, _⟩ := cells4 (blk_below HB3.out H0.out)
  go_wp2
  clear q0 q1 q2 q3
  go_loopg [3, 4, 5, 6, 7] n2 (fun gk a i a1 a2 a3 wr => ∃ k : Nat, gk = n2 - k ∧ i = .int .i64 k ∧ a = .int .i64 (cntB k rs : Nat) ∧ k ≤ n2 ∧ Below w1.heap.size w1 wr)
  case atStart => exact ⟨0, rfl, rfl, by rw [cnt_zero]; rfl, by omega, HB3.out⟩
  case round =>
    obtain ⟨k, rfl, rfl, rfl, hk, hb⟩ := hrel
    have HB : Hid (Below w1.heap.size w1 wr) := hb
    have hsg := HSS.out.1
    have hsr := HSS.out.2
    clear hb
    obtain ⟨⟨q0, q1, q2, q3⟩, _⟩ := cells4 (blk_below HB.out H0.out)
    by_cases hlt : k < n2
    · have hki : (k : Int) < (n2 : Int) := by omega
      have HKI : Hid ((k : Int) < (n2 : Int)) := hki
      have hcn := cnt_next k rs 0
      have hcl := cnt_le (k + 1) rs
      have HCN : Hid (cntB (k + 1) rs = cntB k rs + (entF (k : Int) rs 0).length) := hcn
      have HCL : Hid (cntB (k + 1) rs ≤ n3) := by show _ ≤ _; rw [← HS3.out]; exact hcl
      have D := ENT.out (k : Int) wr (HUP.out _ HB.out)
      clear hcn hcl
      generalize hcc : cntB k rs = cn at *
      clear hcc
      go_wp2_with fail
      refine D.mono ?_
      rintro e w4 ⟨u, rfl, hu, hb4⟩
      obtain ⟨oe, ce, hue, re⟩ := hu
      subst hue
      have RE : Hid (∀ j x, (entF (k : Int) rs 0)[j]? = some x → ∃ g off, oe = some ⟨g, off, none⟩ ∧ w4.cell? ⟨g, off + j, none⟩ = some (.int .i64 x)) := row_int ⟨oe, ce, rfl, re⟩
      have HB4 : Hid (Below w1.heap.size w1 w4) := HB.out.trans (hb4.mono HB.out.size)
      have HEL : Hid ((entF (k : Int) rs 0).length ≤ n3) := by have h1 := HCN.out; have h2 := HCL.out; show _ ≤ _; omega
      clear D hb4 q0 q1 q2 q3 re
      obtain ⟨⟨q0, q1, q2, q3⟩, _⟩ := cells4 (blk_below HB4.out H0.out)
      generalize hne : (entF (k : Int) rs 0).length = ne at *
      have HNE : Hid ((entF (k : Int) rs 0).length = ne) := hne
      clear hne
      go_wp2
      clear q0 q1 q2 q3
      go_loopg [6, 7] ne (fun gk i a3 wr' => ∃ j : Nat, gk = ne - j ∧ i = .int .i64 j ∧ j ≤ ne ∧ Below w4.heap.size w4 wr')
      case atStart => exact ⟨0, rfl, rfl, by omega, Below.refl _ _⟩
      case round =>
        obtain ⟨j, rfl, rfl, hj, hbj⟩ := hrel
        have HBJ : Hid (Below w4.heap.size w4 wr) := hbj
        have HBK : Hid (Below w1.heap.size w1 wr) := HB4.out.trans (hbj.mono HB4.out.size)
        have hel := HEL.out
        clear hbj
        obtain ⟨⟨q0, q1, q2, q3⟩, _⟩ := cells4 (blk_below HBK.out H0.out)
        by_cases hjl : j < ne
        · have hji : (j : Int) < (ne : Int) := by omega
          have HJI : Hid ((j : Int) < (ne : Int)) := hji
          obtain ⟨ej, hej⟩ : ∃ e, (entF (k : Int) rs 0)[j]? = some e := at_of (by rw [HNE.out]; exact hjl)
          have HEJ : Hid ((entF (k : Int) rs 0)[j]? = some ej) := hej
          obtain ⟨r, x, her, hx, hxf⟩ := ent_at (k : Int) rs 0 j ej hej
          rw [Nat.zero_add] at her
          subst her
          have hrl : r < n3 := by rw [← HS3.out]; exact (List.getElem?_eq_some_iff.1 hx).1
          obtain ⟨g, off, hoe, a0⟩ := RE.out j _ hej
          obtain ⟨g3, f3, ho3, b0⟩ := R3.out r x hx
          subst hoe ho3
          rw [hxf] at b0
          have d0 := up_cell HBJ.out a0
          have d1 := up_cell (HUP.out _ HBK.out) b0
          have HX : Hid (rs[r]? = some x ∧ x.1.frm = (k : Int)) := ⟨hx, hxf⟩
          have hri : (r : Int) < (n3 : Int) := by omega
          have y0 := ext_cell q0
          have y1 := ext_cell q1
          have y2 := ext_cell q2
          have y3 := ext_cell q3
          have y4 := ext_cell d0
          have y5 := ext_cell d1
          haveI := ext_some wr
          have HDR : Hid (Below wr.heap.size wr wr.drew) := (Below.refl _ _).drew
          clear hx hxf hej b0 a0
          have hr0 : decide ((r : Int) < 0) = false := by simp
          have hr1 : decide (n3 ≤ r) = false := decide_eq_false (by omega)
          cases j with
          | zero =>
            have hz : decide ((0 : Int) < ((0 : Nat) : Int)) = false := by simp
            have y4z : ∀ z : Ext wr, z.z.cell? ⟨g, off, none⟩ = some (.int .i64 (r : Int)) := y4
            go_wp2_with fail
            clear q0 q1 q2 q3 d0 d1
            refine wp_region_mix_seq (C := fun W => ∃ y : Ext wr, W = y.z) [0, 1, 2, 3, 4, 5, 6, 7, 8, 9, 10, 11, 12, 13, 14, 15, 16, 17, 18, 19, 20, 21, 22, 23, 24, 25, 26, 27, 28, 29, 30, 31, 32, 33, 34, 35, 36, 37, 38, 39, 40, 41, 42, 43] (by kernel_rfl) (by kernel_rfl) (by kernel_rfl) (by kernel_rfl) (by simp only [List.filterMap_cons, List.getElem?_toArray, List.getElem?_cons_zero, List.getElem?_cons_succ, List.filterMap_nil]; rfl) ⟨⟨_, (Below.refl _ _).drew⟩, rfl⟩ ?_
            (repeat (first | (with_reducible refine mix_read (by kernel_rfl) ?_; go_big_quiet_want; go_big_quiet_op; go_big_quiet_on; with_reducible refine wpQuiet_nil ?_) | (with_reducible refine mix_pass (by kernel_rfl) ?_; go_big_quiet_skip; with_reducible refine wpQuiet_nil ?_)))
            with_reducible refine mix_end ?_
            intro _
            clear y0 y1 y2 y3 y4 y5 hr0 hr1 hz y4z
            go_wp2
            have HDR7 := HDR
            generalize wr.drew = w7 at *
            have HW7 : Hid (Below w4.heap.size w4 w7) := HBJ.out.trans (HDR7.out.mono HBJ.out.size)
            go_loopg [7] ne (fun gk i wr' => ∃ m : Nat, gk = ne - m ∧ i = .int .i64 m ∧ m ≤ ne ∧ Below w7.heap.size w7 wr')
            case atStart => exact ⟨0, rfl, rfl, by omega, Below.refl _ _⟩
            case round =>
              obtain ⟨m, rfl, rfl, hm, hbm⟩ := hrel
              have HBM : Hid (Below w7.heap.size w7 wr) := hbm
              have HBM4 : Hid (Below w4.heap.size w4 wr) := HW7.out.trans (hbm.mono HW7.out.size)
              have HBM1 : Hid (Below w1.heap.size w1 wr) := HB4.out.trans (HBM4.out.mono HB4.out.size)
              clear hbm
              obtain ⟨⟨q0, q1, q2, q3⟩, _⟩ := cells4 (blk_below HBM1.out H0.out)
              by_cases hml : m < ne
              · have hmi : (m : Int) < (ne : Int) := by omega
                obtain ⟨em, hem⟩ : ∃ e, (entF (k : Int) rs 0)[m]? = some e := at_of (by rw [HNE.out]; exact hml)
                obtain ⟨s', y, hes, hy, hyf⟩ := ent_at (k : Int) rs 0 m em hem
                rw [Nat.zero_add] at hes
                subst hes
                obtain ⟨g', off', hoe, a0⟩ := RE.out 0 _ HEJ.out
                obtain ⟨g'', off'', hoe2, a1⟩ := RE.out m _ hem
                injection hoe with hoe
                injection hoe with hg hoff
                subst hg hoff
                injection hoe2 with hoe2
                injection hoe2 with hg hoff
                subst hg hoff
                have d0 := up_cell HBM4.out a0
                have d1 := up_cell HBM4.out a1
                have D := CON.out r s' x y HX.out.1 hy (HX.out.2.trans hyf.symm)
                have HDC := (show Hid _ from D)
                have hji := HJI.out
                have y0 := ext_cell q0
                have y1 := ext_cell q1
                have y2 := ext_cell q2
                have y3 := ext_cell q3
                have y4 := ext_cell d0
                have y4z : ∀ z : Ext wr, z.z.cell? ⟨g, off, none⟩ = some (.int .i64 (r : Int)) := y4
                have y5 := ext_cell d1
                haveI := ext_some wr
                have HDM : Hid (Below wr.heap.size wr wr.drew) := (Below.refl _ _).drew
                clear hem hy hyf a0 a1 D d0 d1
                go_wp2_with fail
                clear q0 q1 q2 q3
                refine wp_region_mix_seq (C := fun W => ∃ y : Ext wr, W = y.z) [0, 1, 2, 3, 4, 5, 6, 7, 8, 9, 10] (by kernel_rfl) (by kernel_rfl) (by kernel_rfl) (by kernel_rfl) (by simp only [List.filterMap_cons, List.getElem?_toArray, List.getElem?_cons_zero, List.getElem?_cons_succ, List.filterMap_nil]; rfl) ⟨⟨_, (Below.refl _ _).drew⟩, rfl⟩ ?_
                generalize wr.drew = w8 at *
                (repeat (first | (with_reducible refine mix_read (by kernel_rfl) ?_; go_big_quiet_want; go_big_quiet_op; go_big_quiet_on; with_reducible refine wpQuiet_nil ?_) | (with_reducible refine mix_pass (by kernel_rfl) ?_; go_big_quiet_skip; with_reducible refine wpQuiet_nil ?_)))
                with_reducible refine mix_call (by kernel_rfl) (by kernel_rfl) ((HDC.out w8 (HUP.out _ (HBM1.out.trans (HDM.out.mono HBM1.out.size)))).mono ?_) (by kernel_rfl)
                rintro e w9 ⟨rfl, hb9⟩
                have HB9 : Hid (Below wr.heap.size wr w9) := HDM.out.trans (hb9.mono HDM.out.size)
                clear hb9
                refine ⟨_, rfl, ⟨⟨_, HB9.out⟩, rfl⟩, ?_⟩
                simp only [Act.put, List.setIfInBounds_toArray, List.set_cons_zero, List.set_cons_succ]
                (repeat (first | (with_reducible refine mix_read (by kernel_rfl) ?_; go_big_quiet_want; go_big_quiet_op; go_big_quiet_on; with_reducible refine wpQuiet_nil ?_) | (with_reducible refine mix_pass (by kernel_rfl) ?_; go_big_quiet_skip; with_reducible refine wpQuiet_nil ?_)))
                with_reducible refine mix_end ?_
                intro _
                clear y0 y1 y2 y3 y4 y5 y4z
                go_wp2
                go_roundg (ne - (m + 1))
                case rel => exact ⟨m + 1, rfl, by go_num, by omega, HBM.out.trans (HB9.out.mono HBM.out.size)⟩
                case measure => omega
              · have hmn : ¬ (m : Int) < (ne : Int) := by omega
                have hji := HJI.out
                clear q0 q1 q2 q3
                go_wp2
                go_roundg (ne - (0 + 1))
                case rel => exact ⟨0 + 1, rfl, by go_num, by omega, HBM4.out⟩
                case measure => omega
          | succ j0 =>
            obtain ⟨ep, hep⟩ : ∃ e, (entF (k : Int) rs 0)[j0]? = some e := at_of (by rw [HNE.out]; omega)
            obtain ⟨g', off', hoe, ap⟩ := RE.out j0 _ hep
            injection hoe with hoe
            injection hoe with hg hoff
            subst hg hoff
            have hlt2 := ent_next hep HEJ.out
            obtain ⟨rp, xp, her', -, -⟩ := ent_at (k : Int) rs 0 j0 ep hep
            rw [Nat.zero_add] at her'
            subst her'
            have hle : decide (r ≤ rp) = false := decide_eq_false (by omega)
            have y6 := ext_cell (up_cell HBJ.out ap)
            have hpos : decide ((0 : Int) < (j0 : Int) + 1) = true := decide_eq_true (by omega)
            have hwr : IntKind.i64.wrap ((j0 : Int) + 1 - 1) = (j0 : Int) := by rw [IntKind.wrap_i64]; omega
            have hj0i : (j0 : Int) < (ne : Int) := by omega
            clear hep ap
            go_wp2_with fail
            clear q0 q1 q2 q3 d0 d1
            refine wp_region_mix_seq (C := fun W => ∃ y : Ext wr, W = y.z) [0, 1, 2, 3, 4, 5, 6, 7, 8, 9, 10, 11, 12, 13, 14, 15, 16, 17, 18, 19, 20, 21, 22, 23, 24, 25, 26, 27, 28, 29, 30, 31, 32, 33, 34, 35, 36, 37, 38, 39, 40, 41, 42, 43] (by kernel_rfl) (by kernel_rfl) (by kernel_rfl) (by kernel_rfl) (by simp only [List.filterMap_cons, List.getElem?_toArray, List.getElem?_cons_zero, List.getElem?_cons_succ, List.filterMap_nil]; rfl) ⟨⟨_, (Below.refl _ _).drew⟩, rfl⟩ ?_
            (repeat (first | (with_reducible refine mix_read (by kernel_rfl) ?_; go_big_quiet_want; go_big_quiet_op; go_big_quiet_on; with_reducible refine wpQuiet_nil ?_) | (with_reducible refine mix_pass (by kernel_rfl) ?_; go_big_quiet_skip; with_reducible refine wpQuiet_nil ?_)))
            with_reducible refine mix_end ?_
            intro _
            clear y0 y1 y2 y3 y4 y5 hr0 hr1 hle y6 hpos hj0i hwr
            go_wp2
            have HDR7 := HDR
            generalize wr.drew = w7 at *
            have HW7 : Hid (Below w4.heap.size w4 w7) := HBJ.out.trans (HDR7.out.mono HBJ.out.size)
            go_loopg [7] ne (fun gk i wr' => ∃ m : Nat, gk = ne - m ∧ i = .int .i64 m ∧ m ≤ ne ∧ Below w7.heap.size w7 wr')
            case atStart => exact ⟨0, rfl, rfl, by omega, Below.refl _ _⟩
            case round =>
              obtain ⟨m, rfl, rfl, hm, hbm⟩ := hrel
              have HBM : Hid (Below w7.heap.size w7 wr) := hbm
              have HBM4 : Hid (Below w4.heap.size w4 wr) := HW7.out.trans (hbm.mono HW7.out.size)
              have HBM1 : Hid (Below w1.heap.size w1 wr) := HB4.out.trans (HBM4.out.mono HB4.out.size)
              clear hbm
              obtain ⟨⟨q0, q1, q2, q3⟩, _⟩ := cells4 (blk_below HBM1.out H0.out)
              by_cases hml : m < ne
              · have hmi : (m : Int) < (ne : Int) := by omega
                obtain ⟨em, hem⟩ : ∃ e, (entF (k : Int) rs 0)[m]? = some e := at_of (by rw [HNE.out]; exact hml)
                obtain ⟨s', y, hes, hy, hyf⟩ := ent_at (k : Int) rs 0 m em hem
                rw [Nat.zero_add] at hes
                subst hes
                obtain ⟨g', off', hoe, a0⟩ := RE.out (j0 + 1) _ HEJ.out
                obtain ⟨g'', off'', hoe2, a1⟩ := RE.out m _ hem
                injection hoe with hoe
                injection hoe with hg hoff
                subst hg hoff
                injection hoe2 with hoe2
                injection hoe2 with hg hoff
                subst hg hoff
                have d0 := up_cell HBM4.out a0
                have d1 := up_cell HBM4.out a1
                have D := CON.out r s' x y HX.out.1 hy (HX.out.2.trans hyf.symm)
                have HDC := (show Hid _ from D)
                have hji := HJI.out
                have y0 := ext_cell q0
                have y1 := ext_cell q1
                have y2 := ext_cell q2
                have y3 := ext_cell q3
                have y4 := ext_cell d0
                have y5 := ext_cell d1
                haveI := ext_some wr
                have HDM : Hid (Below wr.heap.size wr wr.drew) := (Below.refl _ _).drew
                clear hem hy hyf a0 a1 D d0 d1
                go_wp2_with fail
                clear q0 q1 q2 q3
                refine wp_region_mix_seq (C := fun W => ∃ y : Ext wr, W = y.z) [0, 1, 2, 3, 4, 5, 6, 7, 8, 9, 10] (by kernel_rfl) (by kernel_rfl) (by kernel_rfl) (by kernel_rfl) (by simp only [List.filterMap_cons, List.getElem?_toArray, List.getElem?_cons_zero, List.getElem?_cons_succ, List.filterMap_nil]; rfl) ⟨⟨_, (Below.refl _ _).drew⟩, rfl⟩ ?_
                generalize wr.drew = w8 at *
                (repeat (first | (with_reducible refine mix_read (by kernel_rfl) ?_; go_big_quiet_want; go_big_quiet_op; go_big_quiet_on; with_reducible refine wpQuiet_nil ?_) | (with_reducible refine mix_pass (by kernel_rfl) ?_; go_big_quiet_skip; with_reducible refine wpQuiet_nil ?_)))
                with_reducible refine mix_call (by kernel_rfl) (by kernel_rfl) ((HDC.out w8 (HUP.out _ (HBM1.out.trans (HDM.out.mono HBM1.out.size)))).mono ?_) (by kernel_rfl)
                rintro e w9 ⟨rfl, hb9⟩
                have HB9 : Hid (Below wr.heap.size wr w9) := HDM.out.trans (hb9.mono HDM.out.size)
                clear hb9
                refine ⟨_, rfl, ⟨⟨_, HB9.out⟩, rfl⟩, ?_⟩
                simp only [Act.put, List.setIfInBounds_toArray, List.set_cons_zero, List.set_cons_succ]
                (repeat (first | (with_reducible refine mix_read (by kernel_rfl) ?_; go_big_quiet_want; go_big_quiet_op; go_big_quiet_on; with_reducible refine wpQuiet_nil ?_) | (with_reducible refine mix_pass (by kernel_rfl) ?_; go_big_quiet_skip; with_reducible refine wpQuiet_nil ?_)))
                with_reducible refine mix_end ?_
                intro _
                clear y0 y1 y2 y3 y4 y5
                go_wp2
                go_roundg (ne - (m + 1))
                case rel => exact ⟨m + 1, rfl, by go_num, by omega, HBM.out.trans (HB9.out.mono HBM.out.size)⟩
                case measure => omega
              · have hmn : ¬ (m : Int) < (ne : Int) := by omega
                have hji := HJI.out
                clear q0 q1 q2 q3
                go_wp2
                go_roundg (ne - ((j0 + 1) + 1))
                case rel => exact ⟨(j0 + 1) + 1, rfl, by go_num, by omega, HBM4.out⟩
                case measure => omega
        · have hjj : j = ne := by omega
          subst hjj
          have hcl := HCL.out
          rw [HCN.out] at hcl
          have hki' := HKI.out
          clear q0 q1 q2 q3
          go_wp2
          go_roundg (n2 - (k + 1))
          case rel => exact ⟨k + 1, rfl, by go_num, by rw [HCN.out]; go_num, by omega, HBK.out⟩
          case measure => omega
    · have hkn : k = n2 := by omega
      subst hkn
      have hcnt : cntB k rs = n3 := by rw [cnt_all k rs HFR.out, HS3.out]
      rw [hcnt]
      go_wp2_with fail
      refine (known_any _).mono ?_
      rintro e wk ⟨rfl, hbk⟩
      go_wp2
      go_ret
      exact ⟨rfl, HUP.out _ (HB.out.trans (hbk.mono HB.out.size))⟩

theorem own : ownKnob Tryd.prog.godebug = none := by kernel_rfl
theorem u8x : U8Extra Tryd.prog Tryd.lays260_ren := ⟨by kernel_rfl, by kernel_rfl, by kernel_rfl, by kernel_rfl, by kernel_rfl, by kernel_rfl, by kernel_rfl⟩
theorem accept_eq : (Rows.laid_unicode_utf8_acceptRanges : DataW Unit) = Lib.acceptData := by kernel_rfl
theorem first_eq : Rows.laid_unicode_utf8_first = Lib.firstData := Pinned.utf8First_eq
theorem tabs_of {W : World} (hL : laidMet Tryd.prog Rows.tableEntryRow.laid W) : Lib.Utf8Tabs 0 1 W :=
  utf8Tabs_of_readsT (U8Types.of260 Tryd.lays260) u8x (first_eq ▸ Lib.laidMet.reads hL (.tail _ (.head _))) (accept_eq ▸ Lib.laidMet.reads hL (.head _))

set_option maxRecDepth 100000 in
theorem lifted (os : Os) (started : os.Started) (H : Type) (enc : TypeId × Value → H) :
    ReturnsInHanded {} Tryd.checked os 5 .any (fun w args => (Rows.tableEntrySpec.pre enc Tryd.prog Tryd.f5 [] false w args ∧ laidMetH Tryd.prog Rows.tableEntryRow.laid w) ∧ sizedMet enc Tryd.prog Tryd.f5 (OpenSpec.ofChange Rows.tableEntrySpec) false w args)
      (Rows.tableEntrySpec.post enc Tryd.prog Tryd.f5 false true false false) := by
  refine returnsInHanded_of_change_and (C := Tryd.checked) (X := fun w _ => laidMetH Tryd.prog Rows.tableEntryRow.laid w) (fun _ _ _ hh h => h.of_heap hh) own started (by kernel_rfl) Tryd.func5
    (ChangeSpec.witness_shaped (enc := enc) (C := Tryd.checked) (os := os) (X := fun w _ => laidMetH Tryd.prog Rows.tableEntryRow.laid w) false (World.laidAll Tryd.prog os Rows.tableEntryRow.laid) #[.agg #[.slice none 0 0, .slice none 0 0, .slice none 0 0, .slice none 0 0]] 8 (World.laidAll_os _ _ _)
      (World.shaped_of_ZipB (by kernel_rfl) (by kernel_rfl)) (by kernel_rfl) (by kernel_rfl) (by kernel_rfl)
      (by rw [MakeChecks.laidMetH_plain _ _ _ (by kernel_rfl)]; exact laidMet_laidAll _ (by kernel_rfl) (by kernel_rfl))) ?_
  intro W base args ds gs before hval0 hW _ hsz0 hL _
  have hval : ∀ (j : Nat) t v, Tryd.f5.params[j]? = some t → args[j]? = some v → Value.okWide Tryd.prog W .any base t v := hval0
  have hsz : (DataW.weightsEach Tryd.prog (Tryd.f5.params.toList ++ Rows.tableEntrySpec.plain.varTypes Tryd.prog) (ds ++ gs)).all (· ≤ reachBytes) = true := hsz0
  have hW' := hW
  obtain ⟨p, q, hA0, hV, rfl, _, _⟩ := hW
  have hA : DataW.TrodAll enc Tryd.prog W 0 (fun _ => true) true Tryd.f5.params.toList args.toList ds p := hA0
  rw [Tryd.params5] at hA hval hsz
  obtain ⟨v0, vs0, d0, ds0, p0, q0, hargs, rfl, rfl, h0, r0⟩ := trodAll_cons hA
  obtain ⟨rfl, rfl, rfl⟩ := trodAll_nil r0
  obtain rfl : args = #[v0] := by cases args; simp_all
  obtain ⟨rfl, rfl⟩ := trodVars_none hV
  have k0 := h0
  have lt0 : ∀ x ∈ p0, x.block < W.heap.size := by obtain ⟨m, hm⟩ := k0; exact DataW.trod_lt m _ _ _ hm
  have g0 := weights_at hsz (j := 0) (t := 26) rfl rfl
  obtain ⟨u0, l0, s0, rfl, y0, b0, c0, x0⟩ := open_layout_c (hval 0 26 v0 rfl rfl) h0 g0
  clear hA0 hval0
  rw [MakeChecks.laidMetH_plain _ _ _ (by kernel_rfl)] at hL
  refine (walk W u0 l0 s0 y0 b0 c0 x0 (tabs_of hL)).mono fun e W' ⟨he, bel⟩ => ?_
  subst he
  exact ⟨_, rfl, _, _, _, [], _, [], hW', trodAll_mk1 (shut_bool Tryd.underlying4 _), (trodAll_cons_mk (Below.trod laidOut (by kernel_rfl) (of_decide_eq_true (by kernel_rfl)) k0 bel lt0) trodAll_mk0), rfl, bel.frame _, fun h => by cases h⟩

theorem over : Rows.tableEntryRow.holds Tryd.pinned (OpenSpec.ofChange Rows.tableEntrySpec) :=
  OpenClaim.holds_of_wide 5 Tryd.f5 rfl rfl rfl rfl rfl rfl rfl ⟨rfl, rfl, rfl, rfl, rfl⟩ rfl rfl rfl rfl rfl (by kernel_rfl) Tryd.func5 (by kernel_rfl)
    (of_decide_eq_true (by kernel_rfl)) (by unfold Func.isWrapper; first | (rw [if_pos (by decide +kernel)]; kernel_rfl) | (rw [if_neg (by decide +kernel)]; exact ⟨rfl, rfl⟩))
    (fun os started H enc _ => lifted os started H enc)

theorem card : Rows.TableEntryCardSaid :=
  Claim7.holds_tied_plain_at .later [] _ _ _ _ over (fun _ h => by cases h) (by kernel_rfl) (fun _ h => by cases h) tableEntry_row_tie rfl ⟨rfl, rfl⟩ (by kernel_rfl) rfl
    (fun f fn hf hfn => by
      obtain rfl : f = 5 := Option.some.inj ((show Tryd.prog.funcNamed Rows.tableEntryRow.func = some 5 by kernel_rfl).symm.trans hf) |>.symm
      obtain rfl : fn = Tryd.f5 := (Option.some.inj (Tryd.func5.symm.trans hfn)).symm
      exact ⟨by kernel_rfl, fun j t ht => by
        rw [Tryd.params5] at ht
        have hm : t ∈ [26] := by simpa using Array.mem_of_getElem? ht
        have hall : ([26].all fun u => !Tryd.prog.wantsStandIn u) = true := by kernel_rfl
        exact (show Tryd.prog.wantsStandIn t = false by simpa using List.all_eq_true.1 hall t hm)⟩)
    (by kernel_rfl)

end Go.Proofs.YtnpfdnafbpdebaaDoor.tableEntry
namespace Go.Proofs.YtnpfdnafbpdebaaDoor
theorem tableEntry_holds : Rows.TableEntryCardSaid := tableEntry.card
#print axioms tableEntry_holds
end Go.Proofs.YtnpfdnafbpdebaaDoor
