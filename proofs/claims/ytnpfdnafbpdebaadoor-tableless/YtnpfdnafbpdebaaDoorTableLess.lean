/-
  Of every layout: TableLess returns true. A tied card: what unicode/utf8's two tables hold is listed, tied by the given tie.
-/
import Derived.Test.YtnpfdnafbpdebaaDoorRows
import Derived.Test.YtnpfdnafbpdebaaDoorTie
import Derived.Test.YtnpfdnafbpdebaaDoorCards
import Derived.Test.YtnpfdnafbpdebaaDoorTbTwo
import Derived.Test.YtnpfdnafbpdebaaDoorTbOpen
import Derived.Test.YtnpfdnafbpdebaaDoorTbLawN
import Derived.Test.YtnpfdnafbpdebaaDoorLySz4
import Derived.Test.YtnpfdnafbpdebaaDoorOwBase
import Derived.WalkKit
import Derived.ProofKit
import Derived.OpenShut
import Derived.ShutString
import Derived.ChangeOld
import Derived.Below
import Derived.SizedLaws
import Derived.PinnedBridge
import Derived.Lib.LaidU8T
import Derived.Lay
import Derived.LaidOnce
import Derived.SevenTiedAt
import Derived.Deep.DeepHandedRow
namespace Go.Proofs.YtnpfdnafbpdebaaDoor.tableLess
open Go.ChangeShapes Go.WideShapes Go.ChangeAt Go.RowKit

def MAt (b : Nat) (a0 a1 a2 a3 : Value) (W : World) : Prop := W.cell? ⟨b, 0, none⟩ = some a0 ∧ W.cell? ⟨b, 1, none⟩ = some a1 ∧ W.cell? ⟨b, 2, none⟩ = some a2 ∧ W.cell? ⟨b, 3, none⟩ = some a3
theorem MAt.below {b : Nat} {a0 a1 a2 a3 : Value} {W W' : World} (h : MAt b a0 a1 a2 a3 W) (hb : Below W.heap.size W W') : MAt b a0 a1 a2 a3 W' := by
  have up : ∀ {p : Addr} {u : Value}, W.cell? p = some u → W'.cell? p = some u := fun h => (hb.cell (World.block_lt_of_cell? _ _ h)).trans h
  exact ⟨up h.1, up h.2.1, up h.2.2.1, up h.2.2.2⟩

set_option maxRecDepth 1000000 in
set_option maxHeartbeats 8000000 in
theorem walk (w : World) (v : Nat → Value) (l : Lay) (rs : List RtV) (h : LayRd w v l rs) (hB : LayBig l) (hcap : ∀ x ∈ rs, capOk x.2.1) (hcp : capOk (v 3) ∧ capOk (v 0) ∧ capOk (v 2)) (hT : Lib.Utf8Tabs 0 1 w) :
    Calls Tryd.prog 6 #[.agg #[v 0, v 1, v 2, v 3]] w fun e w' => e = .returned (.bool true) ∧ Below w.heap.size w w' := by
  have HLR : Hid (LayRd w v l rs) := h
  have hlr : rs.length = l.routes.length := by rw [← h.m, List.length_map]
  have SM : Hid (LaySmall l → ∀ x ∈ rs, x.1.path.length < 3000 ∧ x.1.points.length < 3000 ∧ x.1.flank.length < 3000) := fun hs x hx => (hs.r.2 x.1 (by rw [← h.m]; exact List.mem_map.2 ⟨x, hx, rfl⟩)).2
  obtain ⟨o0, c0, e0, _⟩ := h.s
  obtain ⟨o1, c1, e1, _⟩ := h.p
  obtain ⟨o2, c2, e2, _⟩ := h.g
  obtain ⟨o3, c3, e3, r3⟩ := h.r
  have R3 : Hid (∀ j x, rs[j]? = some x → ∃ g off, o3 = some ⟨g, off, none⟩ ∧ ∀ i u, (rC x)[i]? = some u → w.cell? ⟨g, off + j * 6 + i, none⟩ = some u) := r3
  have S := BoxAt.start w v
  have SZ : Hid (∀ W, Below w.heap.size w W → Calls Tryd.prog 14 #[.agg #[v 0, v 1, v 2, v 3]] W fun e w' => ∃ n : Int, e = .returned (.int .i64 n) ∧ 0 ≤ n ∧ n ≤ 1125899906842624 ∧ (n < 3000 → LaySmall l) ∧ Below W.heap.size W w') := fun W hW => size4_any v l rs W (h.below hW) hB
  have IS : Hid (LaySmall l → ∀ W, Below w.heap.size w W → Calls Tryd.prog 15 #[.agg #[v 0, v 1, v 2, v 3]] W fun e w' => e = .returned (.bool (isB l)) ∧ Below W.heap.size W w') := fun hs W hW => is_any v l rs W (h.below hW) hcap (LayMid.of hs hB) (tabs_below hT hW)
  have CF : Hid (LaySmall l → ∀ (r s : Nat) (x y : RtV), rs[r]? = some x → rs[s]? = some y → ∀ W, Below w.heap.size w W → Calls Tryd.prog 19 #[.agg #[v 0, v 1, v 2, v 3], .int .i64 (r : Nat), .int .i64 (s : Nat)] W fun e w' => e = .returned (.bool (confB r s x.1 y.1)) ∧ Below W.heap.size W w') := fun hs r s x y hx hy W hW => by
    have b := SM.out hs x (List.mem_of_getElem? hx)
    have c := SM.out hs y (List.mem_of_getElem? hy)
    exact conflict_any v l rs r s x y W (h.below hW) hx hy ⟨by omega, by omega⟩ ⟨by omega, by omega⟩
  have ND : Hid (LaySmall l → ∀ (r : Nat) (x : RtV), rs[r]? = some x → ∀ W, Below w.heap.size w W → Calls Tryd.prog 17 #[.agg #[v 0, v 1, v 2, v 3], .int .i64 (r : Nat)] W fun e w' => ∃ u, e = .returned u ∧ rowAt w' u 2 nC (x.1.points ++ x.1.flank) ∧ Below W.heap.size W w') := fun hs r x hx W hW => by
    have b := SM.out hs x (List.mem_of_getElem? hx)
    exact tableNeeds_any v l rs r x W (h.below hW) hx (by omega)
  have CM : Hid (LaySmall l → ∀ m, m ≤ rs.length → ∀ (r s : Nat) (x y : RtV), r < m → s < m → rs[r]? = some x → rs[s]? = some y → ∀ W, Below w.heap.size w W → Calls Tryd.prog 19 #[.agg #[v 0, v 1, v 2, .slice o3 m c3], .int .i64 (r : Nat), .int .i64 (s : Nat)] W fun e w' => e = .returned (.bool (confB r s x.1 y.1)) ∧ Below W.heap.size W w') := fun hs m hm r s x y hr hs' hx hy W hW => by
    have b := SM.out hs x (List.mem_of_getElem? hx)
    have c := SM.out hs y (List.mem_of_getElem? hy)
    have hh := conflict_any (fun i => match i with | 0 => v 0 | 1 => v 1 | 2 => v 2 | _ => .slice o3 m c3) (lessL l m) (rs.take m) r s x y W (lay_less (h.below hW) o3 m c3 e3 hm) (by rw [List.getElem?_take, if_pos hr]; exact hx) (by rw [List.getElem?_take, if_pos hs']; exact hy) ⟨by omega, by omega⟩ ⟨by omega, by omega⟩
    exact hh
  have NM : Hid (LaySmall l → ∀ m, m ≤ rs.length → ∀ (r : Nat) (x : RtV), r < m → rs[r]? = some x → ∀ W, Below w.heap.size w W → Calls Tryd.prog 17 #[.agg #[v 0, v 1, v 2, .slice o3 m c3], .int .i64 (r : Nat)] W fun e w' => ∃ u, e = .returned u ∧ rowAt w' u 2 nC (x.1.points ++ x.1.flank) ∧ Below W.heap.size W w') := fun hs m hm r x hr hx W hW => by
    have b := SM.out hs x (List.mem_of_getElem? hx)
    have hh := tableNeeds_any (fun i => match i with | 0 => v 0 | 1 => v 1 | 2 => v 2 | _ => .slice o3 m c3) (lessL l m) (rs.take m) r x W (lay_less (h.below hW) o3 m c3 e3 hm) (by rw [List.getElem?_take, if_pos hr]; exact hx) (by omega)
    exact hh
  have IM : Hid (LaySmall l → isB l = true → ∀ m, m ≤ rs.length → ∀ W, Below w.heap.size w W → Calls Tryd.prog 25 #[.agg #[v 0, v 1, v 2, .slice o3 m c3]] W fun e w' => e = .returned (.bool true) ∧ Below W.heap.size W w') := fun hs hi m hm W hW => by
    have := tableIs_any (fun i => match i with | 0 => v 0 | 1 => v 1 | 2 => v 2 | _ => .slice o3 m c3) (lessL l m) (rs.take m) W (lay_less (h.below hW) o3 m c3 e3 hm) ⟨by have := hs.s.1; simp only [lessL]; omega, by have := hs.p.1; simp only [lessL]; omega, by have := hs.g.1; simp only [lessL]; omega, by have := hs.r.1; simp only [lessL, List.length_take]; omega, fun x hx => by
      have hx' := List.mem_of_mem_take hx
      have b := SM.out hs x hx'
      exact ⟨hcap x hx', by omega, by omega, by omega⟩, hcp.2.1, hcp.2.2⟩
    rw [isB_less l m hi] at this
    exact this
  have HV : Hid (v 0 = .slice o0 l.sections.length c0 ∧ v 1 = .slice o1 l.points.length c1 ∧ v 2 = .slice o2 l.signals.length c2 ∧ v 3 = .slice o3 rs.length c3) := ⟨e0, e1, e2, e3⟩
  have HC3 : Hid (rs.length ≤ c3) := hcp.1 _ _ _ e3
  have HN3 : Hid (LaySmall l → rs.length < 3000) := fun hs => by rw [hlr]; exact hs.r.1
  rw [e0, e1, e2] at CM NM IM
  rw [e0, e1, e2, e3] at S SZ IS CF ND ⊢
  clear h hB hcap hcp hT e0 e1 e2 e3 r3 hlr
  generalize hs0 : l.sections.length = n0 at *
  generalize hs1 : l.points.length = n1 at *
  generalize hs2 : l.signals.length = n2 at *
  generalize hs3 : rs.length = n3 at *
  have HS3 : Hid (rs.length = n3) := hs3
  clear hs0 hs1 hs2 hs3
  have hcc := S.cells
  rw [HV.out.1, HV.out.2.1, HV.out.2.2.1, HV.out.2.2.2] at hcc
  obtain ⟨q0, q1, q2, q3⟩ := hcc
  have HB0 : Hid (BoxAt w v (w.alloc (.cells #[.slice o0 n0 c0, .slice o1 n1 c1, .slice o2 n2 c2, .slice o3 n3 c3] 26))) := S
  have D0 := SZ.out _ S.1
  clear S
  go_enter Tryd.func6, Tryd.ntmps6
  go_wp2_with fail
  refine D0.mono ?_
  rintro e w1 ⟨n, rfl, hn0, hn1, hsm, hb1⟩
  have HB1 : Hid (BoxAt w v w1) := HB0.out.step hb1
  have hcc := HB1.out.cells
  rw [HV.out.1, HV.out.2.1, HV.out.2.2.1, HV.out.2.2.2] at hcc
  clear q0 q1 q2 q3 hb1 D0 HB0
  obtain ⟨q0, q1, q2, q3⟩ := hcc
  by_cases hbig : (3000 : Int) ≤ n
  · clear hsm
    go_wp2_with fail
    go_ret
    exact ⟨rfl, HB1.out.1⟩
  have HSM : Hid (LaySmall l) := hsm (by omega)
  clear hsm
  have D1 := IS.out HSM.out _ HB1.out.1
  cases hisb : isB l
  · rw [hisb] at D1
    go_wp2_with fail
    refine D1.mono ?_
    rintro e w2 ⟨rfl, hb2⟩
    go_wp2_with fail
    go_ret
    exact ⟨rfl, (HB1.out.step hb2).1⟩
  rw [hisb] at D1
  have HIB : Hid (isB l = true) := hisb
  clear hisb
  go_wp2_with fail
  refine D1.mono ?_
  rintro e w2 ⟨rfl, hb2⟩
  have HB2 : Hid (BoxAt w v w2) := HB1.out.step hb2
  clear q0 q1 q2 q3 hb2 D1 HB1
  have hn3 := HN3.out HSM.out
  have SM2 := SM.out HSM.out
  have HSM2 : Hid (∀ x ∈ rs, x.1.path.length < 3000 ∧ x.1.points.length < 3000 ∧ x.1.flank.length < 3000) := SM2
  clear SM2 SM
  have hcc := HB2.out.cells
  rw [HV.out.1, HV.out.2.1, HV.out.2.2.1, HV.out.2.2.2] at hcc
  obtain ⟨q0, q1, q2, q3⟩ := hcc
  by_cases hz : n3 = 0
  · have hz' : ((n3 : Int) == 0) = true := by simp [hz]
    have hbl := HB2.out.1
    subst hz
    go_wp2_with fail
    go_ret
    exact ⟨rfl, hbl⟩
  obtain ⟨m, rfl⟩ : ∃ m, n3 = m + 1 := ⟨n3 - 1, by omega⟩
  have hz1 : ((m : Int) + 1 == 0) = false := by simp; omega
  have hbg : decide ((3000 : Int) ≤ n) = false := decide_eq_false (by omega)
  have hz2 : (((m + 1 : Nat) : Int) - 1) = (m : Int) := by omega
  have hmc : m ≤ c3 := by have := HC3.out; omega
  have IMX := IM.out HSM.out HIB.out m (by omega)
  have HIM : Hid (∀ W, Below w.heap.size w W → Calls Tryd.prog 25 #[.agg #[.slice o0 n0 c0, .slice o1 n1 c1, .slice o2 n2 c2, .slice o3 m c3]] W fun e w' => e = .returned (.bool true) ∧ Below W.heap.size W w') := IMX
  clear IMX hz
  have hbl2 := HB2.out.1
  obtain ⟨x0, hx0⟩ : ∃ x, rs[0]? = some x := at_of (by rw [HS3.out]; omega)
  obtain ⟨g, off, ho3, -⟩ := R3.out 0 _ hx0
  subst ho3
  clear hx0 x0
  have hmc' : (m : Int) ≤ (c3 : Int) := by omega
  have hm0 : (0 : Int) ≤ (m : Int) := by omega
  go_upto_region 4 with fail
  go_cut [4] from 25 to 35 (fun s4 wc => ∃ b, s4 = .pointer (some ⟨b, 0, none⟩) ∧ wc.heap[b]? = some (.cells #[.slice o0 n0 c0, .slice o1 n1 c1, .slice o2 n2 c2, .slice (some ⟨g, off, none⟩) m c3] 26 (0, 0)) ∧ Below w2.heap.size w2 wc)
  case first =>
    have z0 := ext_cell q0
    have z1 := ext_cell q1
    have z2 := ext_cell q2
    have z3 := ext_cell q3
    haveI := ext_some w2
    have HT : Hid (Below w2.heap.size w2 w2.drew) := (Below.refl _ _).drew
    clear q0 q1 q2 q3
    refine wp_region_last (C := fun W => ∃ y : Ext w2, W = y.z) [0, 1, 2, 3, 4, 5, 6, 7, 8, 9, 10, 11] [12] (by kernel_rfl) (by kernel_rfl) (by kernel_rfl) (by kernel_rfl) (by simp only [List.filterMap_cons, List.getElem?_toArray, List.getElem?_cons_zero, List.getElem?_cons_succ, List.filterMap_nil]; rfl) (by simp only [List.filterMap_cons, List.getElem?_toArray, List.getElem?_cons_zero, List.getElem?_cons_succ, List.filterMap_nil]; rfl) ⟨⟨_, (Below.refl _ _).drew⟩, rfl⟩ ?_
    generalize w2.drew = w3 at *
    (repeat (first | (with_reducible refine mix_read (by kernel_rfl) ?_; go_big_quiet_want; go_big_quiet_op; go_big_quiet_on; with_reducible refine wpQuiet_nil ?_) | (with_reducible refine mix_pass (by kernel_rfl) ?_; go_big_quiet_skip; with_reducible refine wpQuiet_nil ?_)))
    have HA : Hid (Below w2.heap.size w2 (w3.alloc (.cells #[.slice none 0 0, .slice none 0 0, .slice none 0 0, .slice none 0 0] 26))) := HT.out.alloc HT.out.size _
    refine mix_does (v := .pointer (some ⟨w3.heap.size, 0, none⟩)) (w' := w3.alloc (.cells #[.slice none 0 0, .slice none 0 0, .slice none 0 0, .slice none 0 0] 26)) (by kernel_rfl) (by kernel_rfl) (by kernel_rfl) ⟨⟨_, HA.out⟩, rfl⟩ ?_
    have HN : Hid ((w3.alloc (.cells #[.slice none 0 0, .slice none 0 0, .slice none 0 0, .slice none 0 0] 26)).heap[w3.heap.size]? = some (.cells #[.slice none 0 0, .slice none 0 0, .slice none 0 0, .slice none 0 0] 26 (0, 0))) := blk_new _ _
    have HCS : Hid (w2.heap.size ≤ w3.heap.size) := HT.out.size
    generalize w3.heap.size = b at HN HCS ⊢
    generalize w3.alloc (.cells #[.slice none 0 0, .slice none 0 0, .slice none 0 0, .slice none 0 0] 26) = w4 at *
    simp only [Act.put, List.setIfInBounds_toArray, List.set_cons_zero, List.set_cons_succ]
    with_reducible refine mix_end ?_
    obtain ⟨⟨y0, y1, y2, y3⟩, _⟩ := cells4 HN.out
    have f0 := froz2 HN.out 0
    have f1 := froz2 HN.out 1
    have f2 := froz2 HN.out 2
    have f3 := froz2 HN.out 3
    clear z0 z1 z2 z3
    go_wp2_with fail
    go_meet
    case rel => exact ⟨b, rfl, set4 HN.out _ _ _ _, below_set4 HA.out HCS.out _ _ _ _⟩
  case rest =>
    obtain ⟨b, rfl, hmb, hbc⟩ := hcut
    have HMC : Hid (wc.heap[b]? = some (.cells #[.slice o0 n0 c0, .slice o1 n1 c1, .slice o2 n2 c2, .slice (some ⟨g, off, none⟩) m c3] 26 (0, 0))) := hmb
    have HB3 : Hid (BoxAt w v wc) := HB2.out.step hbc
    clear hmb hbc q0 q1 q2 q3
    have hcc := HB3.out.cells
    rw [HV.out.1, HV.out.2.1, HV.out.2.2.1, HV.out.2.2.2] at hcc
    obtain ⟨q0, q1, q2, q3⟩ := hcc
    obtain ⟨⟨p0, p1, p2, p3⟩, _⟩ := cells4 HMC.out
    have CFX := CF.out HSM.out
    have NDX := ND.out HSM.out
    have CMX := CM.out HSM.out m (by omega)
    have NMX := NM.out HSM.out m (by omega)
    have HCF := (show Hid (∀ (r s : Nat) (x y : RtV), rs[r]? = some x → rs[s]? = some y → ∀ W, Below w.heap.size w W → Calls Tryd.prog 19 #[.agg #[.slice o0 n0 c0, .slice o1 n1 c1, .slice o2 n2 c2, .slice (some ⟨g, off, none⟩) (m + 1) c3], .int .i64 (r : Nat), .int .i64 (s : Nat)] W fun e w' => e = .returned (.bool (confB r s x.1 y.1)) ∧ Below W.heap.size W w') from CFX)
    have HND := (show Hid (∀ (r : Nat) (x : RtV), rs[r]? = some x → ∀ W, Below w.heap.size w W → Calls Tryd.prog 17 #[.agg #[.slice o0 n0 c0, .slice o1 n1 c1, .slice o2 n2 c2, .slice (some ⟨g, off, none⟩) (m + 1) c3], .int .i64 (r : Nat)] W fun e w' => ∃ u, e = .returned u ∧ rowAt w' u 2 nC (x.1.points ++ x.1.flank) ∧ Below W.heap.size W w') from NDX)
    have HCM := (show Hid (∀ (r s : Nat) (x y : RtV), r < m → s < m → rs[r]? = some x → rs[s]? = some y → ∀ W, Below w.heap.size w W → Calls Tryd.prog 19 #[.agg #[.slice o0 n0 c0, .slice o1 n1 c1, .slice o2 n2 c2, .slice (some ⟨g, off, none⟩) m c3], .int .i64 (r : Nat), .int .i64 (s : Nat)] W fun e w' => e = .returned (.bool (confB r s x.1 y.1)) ∧ Below W.heap.size W w') from CMX)
    have HNM := (show Hid (∀ (r : Nat) (x : RtV), r < m → rs[r]? = some x → ∀ W, Below w.heap.size w W → Calls Tryd.prog 17 #[.agg #[.slice o0 n0 c0, .slice o1 n1 c1, .slice o2 n2 c2, .slice (some ⟨g, off, none⟩) m c3], .int .i64 (r : Nat)] W fun e w' => ∃ u, e = .returned u ∧ rowAt w' u 2 nC (x.1.points ++ x.1.flank) ∧ Below W.heap.size W w') from NMX)
    clear CFX NDX CMX NMX CF ND CM NM IM
    go_wp2_with fail
    refine (HIM.out wc HB3.out.1).mono ?_
    rintro e w5 ⟨rfl, hb5⟩
    have HB5 : Hid (BoxAt w v w5) := HB3.out.step hb5
    have HM5 : Hid (w5.heap[b]? = some (.cells #[.slice o0 n0 c0, .slice o1 n1 c1, .slice o2 n2 c2, .slice (some ⟨g, off, none⟩) m c3] 26 (0, 0))) := blk_below hb5 HMC.out
    clear hb5 q0 q1 q2 q3 p0 p1 p2 p3
    go_wp2
    go_loopg [5, 6] m (fun gk i a1 wr => ∃ k : Nat, gk = m - k ∧ i = .int .i64 k ∧ k ≤ m ∧ BoxAt w v wr ∧ wr.heap[b]? = some (.cells #[.slice o0 n0 c0, .slice o1 n1 c1, .slice o2 n2 c2, .slice (some ⟨g, off, none⟩) m c3] 26 (0, 0)))
    case atStart => exact ⟨0, rfl, rfl, by omega, HB5.out, HM5.out⟩
    case round =>
      obtain ⟨k, rfl, rfl, hk, hbx, hmx⟩ := hrel
      have HBX : Hid (BoxAt w v wr) := hbx
      have HMX : Hid (wr.heap[b]? = some (.cells #[.slice o0 n0 c0, .slice o1 n1 c1, .slice o2 n2 c2, .slice (some ⟨g, off, none⟩) m c3] 26 (0, 0))) := hmx
      clear hbx hmx
      by_cases hlt : k < m
      · have hki : (k : Int) < (m : Int) := by omega
        have HKI : Hid ((k : Int) < (m : Int)) := hki
        obtain ⟨x, hx⟩ : ∃ x, rs[k]? = some x := at_of (by rw [HS3.out]; omega)
        have HX : Hid (rs[k]? = some x) := hx
        have HKM : Hid (k < m) := hlt
        clear hx
        generalize wr = wa at *
        go_wp2
        go_loopg [6] m (fun gk i wr' => ∃ s : Nat, gk = m - s ∧ i = .int .i64 s ∧ s ≤ m ∧ Below wa.heap.size wa wr')
        case atStart => exact ⟨0, rfl, rfl, by omega, Below.refl _ _⟩
        case round =>
          obtain ⟨s, rfl, rfl, hs, hbs⟩ := hrel
          have HBS : Hid (Below wa.heap.size wa wr) := hbs
          have HBW : Hid (BoxAt w v wr) := HBX.out.step hbs
          have hcc := HBW.out.cells
          rw [HV.out.1, HV.out.2.1, HV.out.2.2.1, HV.out.2.2.2] at hcc
          obtain ⟨q0, q1, q2, q3⟩ := hcc
          obtain ⟨⟨p0, p1, p2, p3⟩, _⟩ := cells4 (blk_below hbs HMX.out)
          clear hbs
          have z0 := ext_cell q0
          have z1 := ext_cell q1
          have z2 := ext_cell q2
          have z3 := ext_cell q3
          have y0 := ext_cell p0
          have y1 := ext_cell p1
          have y2 := ext_cell p2
          have y3 := ext_cell p3
          haveI := ext_some wr
          have HUP : Hid (∀ W, Below wr.heap.size wr W → Below w.heap.size w W) := fun W hW => HBW.out.1.trans (hW.mono HBW.out.1.size)
          have HDR : Hid (Below wr.heap.size wr wr.drew) := (Below.refl _ _).drew
          by_cases hsl : s < m
          · have hsi : (s : Int) < (m : Int) := by omega
            obtain ⟨y, hy⟩ : ∃ y, rs[s]? = some y := at_of (by rw [HS3.out]; omega)
            have D1 := HCF.out k s x y HX.out hy
            have D2 := HCM.out k s x y HKM.out hsl HX.out hy
            have HD1 := (show Hid (∀ W, Below w.heap.size w W → Calls Tryd.prog 19 #[.agg #[.slice o0 n0 c0, .slice o1 n1 c1, .slice o2 n2 c2, .slice (some ⟨g, off, none⟩) (m + 1) c3], .int .i64 (k : Nat), .int .i64 (s : Nat)] W fun e w' => e = .returned (.bool (confB k s x.1 y.1)) ∧ Below W.heap.size W w') from D1)
            have HD2 := (show Hid (∀ W, Below w.heap.size w W → Calls Tryd.prog 19 #[.agg #[.slice o0 n0 c0, .slice o1 n1 c1, .slice o2 n2 c2, .slice (some ⟨g, off, none⟩) m c3], .int .i64 (k : Nat), .int .i64 (s : Nat)] W fun e w' => e = .returned (.bool (confB k s x.1 y.1)) ∧ Below W.heap.size W w') from D2)
            clear D1 D2 hy
            generalize confB k s x.1 y.1 = cb at *
            go_wp2_with fail
            clear q0 q1 q2 q3 p0 p1 p2 p3
            refine wp_region_mix_seq (C := fun W => ∃ y : Ext wr, W = y.z) [0, 1, 2, 4, 5, 6, 3, 7, 8] (by kernel_rfl) (by kernel_rfl) (by kernel_rfl) (by kernel_rfl) (by simp only [List.filterMap_cons, List.getElem?_toArray, List.getElem?_cons_zero, List.getElem?_cons_succ, List.filterMap_nil]; rfl) ⟨⟨_, (Below.refl _ _).drew⟩, rfl⟩ ?_
            generalize wr.drew = w7 at *
            (repeat (first | (with_reducible refine mix_read (by kernel_rfl) ?_; go_big_quiet_want; go_big_quiet_op; go_big_quiet_on; with_reducible refine wpQuiet_nil ?_) | (with_reducible refine mix_pass (by kernel_rfl) ?_; go_big_quiet_skip; with_reducible refine wpQuiet_nil ?_)))
            with_reducible refine mix_call (by kernel_rfl) (by kernel_rfl) ((HD1.out w7 (HUP.out _ HDR.out)).mono ?_) (by kernel_rfl)
            rintro e w8 ⟨rfl, hb8⟩
            have HB8 : Hid (Below wr.heap.size wr w8) := HDR.out.trans (hb8.mono HDR.out.size)
            clear hb8
            refine ⟨_, rfl, ⟨⟨_, HB8.out⟩, rfl⟩, ?_⟩
            simp only [Act.put, List.setIfInBounds_toArray, List.set_cons_zero, List.set_cons_succ]
            (repeat (first | (with_reducible refine mix_read (by kernel_rfl) ?_; go_big_quiet_want; go_big_quiet_op; go_big_quiet_on; with_reducible refine wpQuiet_nil ?_) | (with_reducible refine mix_pass (by kernel_rfl) ?_; go_big_quiet_skip; with_reducible refine wpQuiet_nil ?_)))
            with_reducible refine mix_call (by kernel_rfl) (by kernel_rfl) ((HD2.out w8 (HUP.out _ HB8.out)).mono ?_) (by kernel_rfl)
            rintro e w9 ⟨rfl, hb9⟩
            have HB9 : Hid (Below wr.heap.size wr w9) := HB8.out.trans (hb9.mono HB8.out.size)
            clear hb9
            refine ⟨_, rfl, ⟨⟨_, HB9.out⟩, rfl⟩, ?_⟩
            simp only [Act.put, List.setIfInBounds_toArray, List.set_cons_zero, List.set_cons_succ]
            cases cb
            all_goals
              (repeat (first | (with_reducible refine mix_read (by kernel_rfl) ?_; go_big_quiet_want; go_big_quiet_op; go_big_quiet_on; with_reducible refine wpQuiet_nil ?_) | (with_reducible refine mix_pass (by kernel_rfl) ?_; go_big_quiet_skip; with_reducible refine wpQuiet_nil ?_)))
              with_reducible refine mix_end ?_
              intro _
              clear z0 z1 z2 z3 y0 y1 y2 y3
              go_wp2
              go_roundg (m - (s + 1))
              case rel => exact ⟨s + 1, rfl, by go_num, by omega, HBS.out.trans (HB9.out.mono HBS.out.size)⟩
              case measure => omega
          · have hsi : ¬ (s : Int) < (m : Int) := by omega
            have hki' := HKI.out
            have D1 := HND.out k x HX.out
            have D2 := HNM.out k x HKM.out HX.out
            have HD1 := (show Hid (∀ W, Below w.heap.size w W → Calls Tryd.prog 17 #[.agg #[.slice o0 n0 c0, .slice o1 n1 c1, .slice o2 n2 c2, .slice (some ⟨g, off, none⟩) (m + 1) c3], .int .i64 (k : Nat)] W fun e w' => ∃ u, e = .returned u ∧ rowAt w' u 2 nC (x.1.points ++ x.1.flank) ∧ Below W.heap.size W w') from D1)
            have HD2 := (show Hid (∀ W, Below w.heap.size w W → Calls Tryd.prog 17 #[.agg #[.slice o0 n0 c0, .slice o1 n1 c1, .slice o2 n2 c2, .slice (some ⟨g, off, none⟩) m c3], .int .i64 (k : Nat)] W fun e w' => ∃ u, e = .returned u ∧ rowAt w' u 2 nC (x.1.points ++ x.1.flank) ∧ Below W.heap.size W w') from D2)
            have hsz := HSM2.out x (List.mem_of_getElem? HX.out)
            have HNL : Hid ((x.1.points ++ x.1.flank).length ≤ 4294967296) := by show _ ≤ _; rw [List.length_append]; omega
            clear D1 D2 hsz
            generalize x.1.points ++ x.1.flank = nl at *
            go_wp2_with fail
            clear q0 q1 q2 q3 p0 p1 p2 p3
            refine wp_region_mix_seq (C := fun W => ∃ y : Ext wr, W = y.z) [0, 1, 3, 4, 2, 5, 6, 7] (by kernel_rfl) (by kernel_rfl) (by kernel_rfl) (by kernel_rfl) (by simp only [List.filterMap_cons, List.getElem?_toArray, List.getElem?_cons_zero, List.getElem?_cons_succ, List.filterMap_nil]; rfl) ⟨⟨_, (Below.refl _ _).drew⟩, rfl⟩ ?_
            generalize wr.drew = w7 at *
            (repeat (first | (with_reducible refine mix_read (by kernel_rfl) ?_; go_big_quiet_want; go_big_quiet_op; go_big_quiet_on; with_reducible refine wpQuiet_nil ?_) | (with_reducible refine mix_pass (by kernel_rfl) ?_; go_big_quiet_skip; with_reducible refine wpQuiet_nil ?_)))
            with_reducible refine mix_call (by kernel_rfl) (by kernel_rfl) ((HD1.out w7 (HUP.out _ HDR.out)).mono ?_) (by kernel_rfl)
            rintro e w8 ⟨u1, rfl, hu1, hb8⟩
            have HB8 : Hid (Below wr.heap.size wr w8) := HDR.out.trans (hb8.mono HDR.out.size)
            have HU1 : Hid (rowAt w8 u1 2 nC nl) := hu1
            clear hb8 hu1
            refine ⟨_, rfl, ⟨⟨_, HB8.out⟩, rfl⟩, ?_⟩
            simp only [Act.put, List.setIfInBounds_toArray, List.set_cons_zero, List.set_cons_succ]
            (repeat (first | (with_reducible refine mix_read (by kernel_rfl) ?_; go_big_quiet_want; go_big_quiet_op; go_big_quiet_on; with_reducible refine wpQuiet_nil ?_) | (with_reducible refine mix_pass (by kernel_rfl) ?_; go_big_quiet_skip; with_reducible refine wpQuiet_nil ?_)))
            with_reducible refine mix_call (by kernel_rfl) (by kernel_rfl) ((HD2.out w8 (HUP.out _ HB8.out)).mono ?_) (by kernel_rfl)
            rintro e w9 ⟨u2, rfl, hu2, hb9⟩
            have HB9 : Hid (Below wr.heap.size wr w9) := HB8.out.trans (hb9.mono HB8.out.size)
            have DN := lawNeeds_same u1 u2 nl w9 (HU1.out.below hb9) hu2 HNL.out
            clear hb9 hu2
            refine ⟨_, rfl, ⟨⟨_, HB9.out⟩, rfl⟩, ?_⟩
            simp only [Act.put, List.setIfInBounds_toArray, List.set_cons_zero, List.set_cons_succ]
            with_reducible refine mix_call (by kernel_rfl) (by kernel_rfl) (DN.mono ?_) (by kernel_rfl)
            rintro e wx ⟨rfl, hbx⟩
            have HBX9 : Hid (Below wr.heap.size wr wx) := HB9.out.trans (hbx.mono HB9.out.size)
            clear hbx DN
            refine ⟨_, rfl, ⟨⟨_, HBX9.out⟩, rfl⟩, ?_⟩
            simp only [Act.put, List.setIfInBounds_toArray, List.set_cons_zero, List.set_cons_succ]
            (repeat (first | (with_reducible refine mix_read (by kernel_rfl) ?_; go_big_quiet_want; go_big_quiet_op; go_big_quiet_on; with_reducible refine wpQuiet_nil ?_) | (with_reducible refine mix_pass (by kernel_rfl) ?_; go_big_quiet_skip; with_reducible refine wpQuiet_nil ?_)))
            with_reducible refine mix_end ?_
            intro _
            clear z0 z1 z2 z3 y0 y1 y2 y3
            go_wp2
            go_roundg (m - (k + 1))
            case rel => exact ⟨k + 1, rfl, by go_num, by omega, HBW.out.step HBX9.out, blk_below (HBS.out.trans (HBX9.out.mono HBS.out.size)) HMX.out⟩
            case measure => omega
      · have hkn : ¬ (k : Int) < (m : Int) := by omega
        go_wp2_with fail
        refine (known_any _).mono ?_
        rintro e w6 ⟨rfl, hb6⟩
        go_wp2
        go_ret
        exact ⟨rfl, HBX.out.1.trans (hb6.mono HBX.out.1.size)⟩

theorem own : ownKnob Tryd.prog.godebug = none := by kernel_rfl
theorem u8x : U8Extra Tryd.prog Tryd.lays260_ren := ⟨by kernel_rfl, by kernel_rfl, by kernel_rfl, by kernel_rfl, by kernel_rfl, by kernel_rfl, by kernel_rfl⟩
theorem accept_eq : (Rows.laid_unicode_utf8_acceptRanges : DataW Unit) = Lib.acceptData := by kernel_rfl
theorem first_eq : Rows.laid_unicode_utf8_first = Lib.firstData := Pinned.utf8First_eq
theorem tabs_of {W : World} (hL : laidMet Tryd.prog Rows.tableLessRow.laid W) : Lib.Utf8Tabs 0 1 W :=
  utf8Tabs_of_readsT (U8Types.of260 Tryd.lays260) u8x (first_eq ▸ Lib.laidMet.reads hL (.tail _ (.head _))) (accept_eq ▸ Lib.laidMet.reads hL (.head _))

set_option maxRecDepth 100000 in
theorem lifted (os : Os) (started : os.Started) (H : Type) (enc : TypeId × Value → H) :
    ReturnsInHanded {} Tryd.checked os 6 .any (fun w args => (Rows.tableLessSpec.pre enc Tryd.prog Tryd.f6 [] false w args ∧ laidMetH Tryd.prog Rows.tableLessRow.laid w) ∧ sizedMet enc Tryd.prog Tryd.f6 (OpenSpec.ofChange Rows.tableLessSpec) false w args)
      (Rows.tableLessSpec.post enc Tryd.prog Tryd.f6 false true false false) := by
  refine returnsInHanded_of_change_and (C := Tryd.checked) (X := fun w _ => laidMetH Tryd.prog Rows.tableLessRow.laid w) (fun _ _ _ hh h => h.of_heap hh) own started (by kernel_rfl) Tryd.func6
    (ChangeSpec.witness_shaped (enc := enc) (C := Tryd.checked) (os := os) (X := fun w _ => laidMetH Tryd.prog Rows.tableLessRow.laid w) false (World.laidAll Tryd.prog os Rows.tableLessRow.laid) #[.agg #[.slice none 0 0, .slice none 0 0, .slice none 0 0, .slice none 0 0]] 8 (World.laidAll_os _ _ _)
      (World.shaped_of_ZipB (by kernel_rfl) (by kernel_rfl)) (by kernel_rfl) (by kernel_rfl) (by kernel_rfl)
      (by rw [MakeChecks.laidMetH_plain _ _ _ (by kernel_rfl)]; exact laidMet_laidAll _ (by kernel_rfl) (by kernel_rfl))) ?_
  intro W base args ds gs before hval0 hW _ hsz0 hL _
  have hval : ∀ (j : Nat) t v, Tryd.f6.params[j]? = some t → args[j]? = some v → Value.okWide Tryd.prog W .any base t v := hval0
  have hsz : (DataW.weightsEach Tryd.prog (Tryd.f6.params.toList ++ Rows.tableLessSpec.plain.varTypes Tryd.prog) (ds ++ gs)).all (· ≤ reachBytes) = true := hsz0
  have hW' := hW
  obtain ⟨p, q, hA0, hV, rfl, _, _⟩ := hW
  have hA : DataW.TrodAll enc Tryd.prog W 0 (fun _ => true) true Tryd.f6.params.toList args.toList ds p := hA0
  rw [Tryd.params6] at hA hval hsz
  obtain ⟨v0, vs0, d0, ds0, p0, q0, hargs, rfl, rfl, h0, r0⟩ := trodAll_cons hA
  obtain ⟨rfl, rfl, rfl⟩ := trodAll_nil r0
  obtain rfl : args = #[v0] := by cases args; simp_all
  obtain ⟨rfl, rfl⟩ := trodVars_none hV
  have k0 := h0
  have lt0 : ∀ x ∈ p0, x.block < W.heap.size := by obtain ⟨m, hm⟩ := k0; exact DataW.trod_lt m _ _ _ hm
  have g0 := weights_at hsz (j := 0) (t := 26) rfl rfl
  obtain ⟨u0, l0, s0, rfl, y0, b0, c0, x0⟩ := open_layout_c (hval 0 26 v0 rfl rfl) h0 g0
  clear hA0 hval0
  rw [MakeChecks.laidMetH_plain _ _ _ (by kernel_rfl)] at hL
  refine (walk W u0 l0 s0 y0 b0 c0 x0 (tabs_of hL)).mono fun e W' ⟨he, bel⟩ => ?_
  subst he
  exact ⟨_, rfl, _, _, _, [], _, [], hW', trodAll_mk1 (shut_bool Tryd.underlying4 _), (trodAll_cons_mk (Below.trod laidOut (by kernel_rfl) (of_decide_eq_true (by kernel_rfl)) k0 bel lt0) trodAll_mk0), rfl, bel.frame _, fun h => by cases h⟩

theorem over : Rows.tableLessRow.holds Tryd.pinned (OpenSpec.ofChange Rows.tableLessSpec) :=
  OpenClaim.holds_of_wide 6 Tryd.f6 rfl rfl rfl rfl rfl rfl rfl ⟨rfl, rfl, rfl, rfl, rfl⟩ rfl rfl rfl rfl rfl (by kernel_rfl) Tryd.func6 (by kernel_rfl)
    (of_decide_eq_true (by kernel_rfl)) (by unfold Func.isWrapper; first | (rw [if_pos (by decide +kernel)]; kernel_rfl) | (rw [if_neg (by decide +kernel)]; exact ⟨rfl, rfl⟩))
    (fun os started H enc _ => lifted os started H enc)

theorem card : Rows.TableLessCardSaid :=
  Claim7.holds_tied_plain_at .later [] _ _ _ _ over (fun _ h => by cases h) (by kernel_rfl) (fun _ h => by cases h) tableLess_row_tie rfl ⟨rfl, rfl⟩ (by kernel_rfl) rfl
    (fun f fn hf hfn => by
      obtain rfl : f = 6 := Option.some.inj ((show Tryd.prog.funcNamed Rows.tableLessRow.func = some 6 by kernel_rfl).symm.trans hf) |>.symm
      obtain rfl : fn = Tryd.f6 := (Option.some.inj (Tryd.func6.symm.trans hfn)).symm
      exact ⟨by kernel_rfl, fun j t ht => by
        rw [Tryd.params6] at ht
        have hm : t ∈ [26] := by simpa using Array.mem_of_getElem? ht
        have hall : ([26].all fun u => !Tryd.prog.wantsStandIn u) = true := by kernel_rfl
        exact (show Tryd.prog.wantsStandIn t = false by simpa using List.all_eq_true.1 hall t hm)⟩)
    (by kernel_rfl)

end Go.Proofs.YtnpfdnafbpdebaaDoor.tableLess
namespace Go.Proofs.YtnpfdnafbpdebaaDoor
theorem tableLess_holds : Rows.TableLessCardSaid := tableLess.card
#print axioms tableLess_holds
end Go.Proofs.YtnpfdnafbpdebaaDoor
