/-
  Texts of this proof, joined: LyRoute, PlTabs, PlRefName, PlRefCap, LyNames.
-/
import Derived.Test.YtceebimgfajbcaaDoorJoin2
import Derived.Deep.CutBlock
import Derived.Test.YtceebimgfajbcaaDoorShelf
import Derived.Test.YtceebimgfajbcaaDoorJoin1
import Derived.Deep.QuietTactic
namespace Go.Proofs.YtceebimgfajbcaaDoor
open Go.RowKit

def countIn (path : List Int) (ps : List (ByteArray × Int)) : Nat := (ps.filter fun p => inB path p.2).length
def pathB (l : Lay) (path : List Int) : Bool := decide (path.Nodup ∧ ∀ i ∈ path, 0 ≤ i ∧ i < l.sections.length)
def headB (l : Lay) (r : Rt) : Bool := decide ((0 ≤ r.frm ∧ r.frm < l.signals.length) ∧ (0 ≤ r.to ∧ r.to < l.signals.length) ∧ r.frm ≠ r.to ∧ 1 ≤ r.path.length ∧ r.path.length ≤ 5)
def restB (l : Lay) (r : Rt) : Bool := decide (r.points.length = countIn r.path l.points) && (needsF l r.path true none r.points && needsF l r.path false none r.flank)
def routeB (l : Lay) (r : Rt) : Bool := headB l r && (pathB l r.path && restB l r)

theorem inB_iff (l : List Int) (n : Int) : inB l n = true ↔ n ∈ l := by
  rw [inB, List.any_eq_true]
  constructor
  · rintro ⟨x, hx, e⟩
    rw [← of_decide_eq_true e]
    exact hx
  · intro h
    exact ⟨n, h, decide_eq_true rfl⟩
theorem take_snocI {α : Type} {l : List α} {k : Nat} {x : α} (h : l[k]? = some x) : l.take (k + 1) = l.take k ++ [x] := by
  rw [List.take_add_one, h]
  rfl
theorem path_more {l : Lay} {p : List Int} {k : Nat} {x : Int} (h : p[k]? = some x) (h1 : (p.take k).Nodup ∧ ∀ y ∈ p.take k, 0 ≤ y ∧ y < l.sections.length) (h2 : 0 ≤ x ∧ x < l.sections.length) (h3 : inB (p.take k) x = false) : (p.take (k + 1)).Nodup ∧ ∀ y ∈ p.take (k + 1), 0 ≤ y ∧ y < l.sections.length := by
  have h3' : x ∉ p.take k := fun hm => by rw [(inB_iff _ _).2 hm] at h3; exact absurd h3 (by simp)
  rw [take_snocI h]
  refine ⟨List.nodup_append.2 ⟨h1.1, by simp, fun a ha b hb => ?_⟩, fun y hy => ?_⟩
  · simp at hb
    subst hb
    intro e
    subst e
    exact h3' ha
  · rcases List.mem_append.1 hy with hy | hy
    · exact h1.2 y hy
    · simp at hy
      rw [hy]
      exact h2
theorem path_no {l : Lay} {p : List Int} {k : Nat} {x : Int} (h : p[k]? = some x) (h2 : ¬ (0 ≤ x ∧ x < l.sections.length) ∨ inB (p.take k) x = true) : pathB l p = false := by
  refine decide_eq_false fun hh => ?_
  rcases h2 with h2 | h2
  · exact h2 (hh.2 x (List.mem_of_getElem? h))
  · have hm := (inB_iff _ _).1 h2
    have h3 : (p.take (k + 1)).Nodup := hh.1.sublist (List.take_sublist _ _)
    rw [take_snocI h] at h3
    exact (List.nodup_append.1 h3).2.2 x hm x (by simp) rfl

/-- A layout and a route that were put into memory. -/
def TwoAt (w0 : World) (v : Nat → Value) (c : Array Value) (w : World) : Prop := BoxAt w0 v w ∧ w.heap[w0.heap.size + 1]? = some (.cells c 63 (0, 0))
theorem TwoAt.lt {w0 : World} {v : Nat → Value} {c : Array Value} {w : World} (h : TwoAt w0 v c w) : w0.heap.size + 1 < w.heap.size := (Array.getElem?_eq_some_iff.1 h.2).1
theorem TwoAt.step {w0 : World} {v : Nat → Value} {c : Array Value} {w w' : World} (h : TwoAt w0 v c w) (hb : Below w.heap.size w w') : TwoAt w0 v c w' := ⟨h.1.step hb, (hb.block _ h.lt).trans h.2⟩
theorem TwoAt.drewN {w0 : World} {v : Nat → Value} {c : Array Value} {w : World} (h : TwoAt w0 v c w) (n : Nat) : TwoAt w0 v c (w.drewN n) := h.step (_root_.Go.below_drewN (Below.refl _ _) n)
theorem TwoAt.start (w : World) (v : Nat → Value) (c : Array Value) : TwoAt w v c ((w.alloc (.cells #[v 0, v 1, v 2, v 3] 26)).alloc (.cells c 63)) := by
  have h1 := BoxAt.start w v
  have hs : (w.alloc (.cells #[v 0, v 1, v 2, v 3] 26)).heap.size = w.heap.size + 1 := by simp
  generalize w.alloc (.cells #[v 0, v 1, v 2, v 3] 26) = w1 at *
  refine ⟨h1.step ((Below.refl _ _).alloc (Nat.le_refl _) _), ?_⟩
  rw [← hs]
  exact blk_new _ _
theorem TwoAt.six {w0 : World} {v : Nat → Value} {c0 c1 c2 c3 c4 c5 : Value} {w : World} (h : TwoAt w0 v #[c0, c1, c2, c3, c4, c5] w) : w.cell? ⟨w0.heap.size + 1, 0, none⟩ = some c0 ∧ w.cell? ⟨w0.heap.size + 1, 1, none⟩ = some c1 ∧ w.cell? ⟨w0.heap.size + 1, 2, none⟩ = some c2 ∧ w.cell? ⟨w0.heap.size + 1, 3, none⟩ = some c3 ∧ w.cell? ⟨w0.heap.size + 1, 4, none⟩ = some c4 ∧ w.cell? ⟨w0.heap.size + 1, 5, none⟩ = some c5 := by
  have hh := h.2
  refine ⟨?_, ?_, ?_, ?_, ?_, ?_⟩ <;> simp [World.cell?, hh]
theorem row_take {w : World} {o : Option Addr} {n c : Nat} {l : List Int} (h : rowAt w (.slice o n c) 1 iC l) (k : Nat) (hk : k ≤ l.length) (c' : Nat) : rowAt w (.slice o k c') 1 iC (l.take k) := by
  obtain ⟨oa, cap, e, h2⟩ := h
  injection e with e1 e2 e3
  subst e1
  refine ⟨o, c', by rw [List.length_take, Nat.min_eq_left hk], fun j x hj => ?_⟩
  rw [List.getElem?_take] at hj
  split at hj
  · exact h2 j x hj
  · exact absurd hj (by simp)

/-- How great what is asked may be. -/
structure RtMid (l : Lay) (r : Rt) : Prop where
  a : l.sections.length ≤ 4294967296
  b : l.points.length ≤ 4294967296 ∧ ∀ x ∈ l.points, okI x.2
  c : l.signals.length ≤ 4294967296
  frm : okI r.frm
  tt : okI r.to
  path : r.path.length ≤ 4294967296 ∧ ∀ i ∈ r.path, okI i
  points : r.points.length ≤ 4294967296 ∧ ∀ n ∈ r.points, okI n.1
  flank : r.flank.length ≤ 4294967296 ∧ ∀ n ∈ r.flank, okI n.1

theorem headB_no {l : Lay} {r : Rt} (h : ¬ ((0 ≤ r.frm ∧ r.frm < l.signals.length) ∧ (0 ≤ r.to ∧ r.to < l.signals.length) ∧ r.frm ≠ r.to ∧ 1 ≤ r.path.length ∧ r.path.length ≤ 5)) : routeB l r = false := by
  rw [routeB, headB, decide_eq_false h, Bool.false_and]

set_option maxRecDepth 1000000 in
set_option maxHeartbeats 8000000 in
theorem refRoute_any (v : Nat → Value) (l : Lay) (rs : List RtV) (r : RtV) (w : World) (h : LayRd w v l rs) (hr : RtAt w r) (hcap : capOk r.2.1) (hm : RtMid l r.1) :
    Calls Tryd.prog 42 #[.agg #[v 0, v 1, v 2, v 3], .agg #[.string r.1.name, .int .i64 r.1.frm, .int .i64 r.1.to, r.2.1, r.2.2.1, r.2.2.2]] w fun e w' => e = .returned (.bool (routeB l r.1)) ∧ Below w.heap.size w w' := by
  obtain ⟨⟨nm, fr, tt, pa, po, fl⟩, v3, v4, v5⟩ := r
  simp only at *
  have HLR : Hid (LayRd w v l rs) := h
  obtain ⟨o0, c0, e0, _⟩ := h.s
  obtain ⟨o1, c1, e1, r1⟩ := h.p
  obtain ⟨o2, c2, e2, _⟩ := h.g
  obtain ⟨o3, c3, e3, _⟩ := h.r
  obtain ⟨hr3, hr4, hr5⟩ := hr
  simp only at hr3 hr4 hr5
  have HR3 : Hid (rowAt w v3 1 iC pa) := hr3
  have HR4 : Hid (rowAt w v4 2 nC po) := hr4
  have HR5 : Hid (rowAt w v5 2 nC fl) := hr5
  obtain ⟨p3, k3, f3, s3⟩ := hr3
  have hk3 : pa.length ≤ k3 := hcap _ _ _ f3
  clear hcap
  obtain ⟨p4, k4, f4, _⟩ := hr4
  obtain ⟨p5, k5, f5, _⟩ := hr5
  have S := TwoAt.start w v #[.string nm, .int .i64 fr, .int .i64 tt, v3, v4, v5]
  have R1 : Hid (∀ j x, l.points[j]? = some x → ∃ g off, o1 = some ⟨g, off, none⟩ ∧ ∀ i u, (pC x)[i]? = some u → w.cell? ⟨g, off + j * 2 + i, none⟩ = some u) := r1
  have R3 : Hid (∀ j x, pa[j]? = some x → ∃ g off, p3 = some ⟨g, off, none⟩ ∧ ∀ i u, (iC x)[i]? = some u → w.cell? ⟨g, off + j * 1 + i, none⟩ = some u) := s3
  have hba := hm.a
  have hbb := hm.b.1
  have hbc := hm.c
  have hpf := hm.frm
  have hpt := hm.tt
  have hp3 := hm.path.1
  have hp4 := hm.points.1
  have hp5 := hm.flank.1
  have HMI : Hid (RtMid l ⟨nm, fr, tt, pa, po, fl⟩) := hm
  simp only [okI] at hpf hpt hp3 hp4 hp5
  rw [f3] at HR3
  rw [f4] at HR4
  rw [f5] at HR5
  have HV : Hid (v 0 = .slice o0 l.sections.length c0 ∧ v 1 = .slice o1 l.points.length c1 ∧ v 2 = .slice o2 l.signals.length c2 ∧ v 3 = .slice o3 rs.length c3) := ⟨e0, e1, e2, e3⟩
  rw [e0, e1, e2, e3, f3, f4, f5] at S ⊢
  clear h r1 s3 e0 e1 e2 e3 hm f3 f4 f5
  generalize hs0 : l.sections.length = n0 at *
  generalize hs1 : l.points.length = n1 at *
  generalize hs2 : l.signals.length = n2 at *
  generalize hs3 : rs.length = n3 at *
  generalize hsp : pa.length = np at *
  generalize hsq : po.length = nq at *
  generalize hsf : fl.length = nf at *
  have HS0 : Hid (l.sections.length = n0) := hs0
  have HS1 : Hid (l.points.length = n1) := hs1
  have HS2 : Hid (l.signals.length = n2) := hs2
  have HSP : Hid (pa.length = np) := hsp
  have HSQ : Hid (po.length = nq) := hsq
  have HSF : Hid (fl.length = nf) := hsf
  clear hs0 hs1 hs2 hs3 hsp hsq hsf
  have no : ∀ (hh : ¬ ((0 ≤ fr ∧ fr < n2) ∧ (0 ≤ tt ∧ tt < n2) ∧ fr ≠ tt ∧ 1 ≤ np ∧ np ≤ 5)), routeB l ⟨nm, fr, tt, pa, po, fl⟩ = false := fun hh => headB_no (by simp only [HS2.out, HSP.out]; exact hh)
  have NO : Hid (¬ ((0 ≤ fr ∧ fr < n2) ∧ (0 ≤ tt ∧ tt < n2) ∧ fr ≠ tt ∧ 1 ≤ np ∧ np ≤ 5) → routeB l ⟨nm, fr, tt, pa, po, fl⟩ = false) := no
  clear no
  have SB : Hid (TwoAt w v #[.string nm, .int .i64 fr, .int .i64 tt, .slice p3 np k3, .slice p4 nq k4, .slice p5 nf k5] ((w.alloc (.cells #[.slice o0 n0 c0, .slice o1 n1 c1, .slice o2 n2 c2, .slice o3 n3 c3] 26)).alloc (.cells #[.string nm, .int .i64 fr, .int .i64 tt, .slice p3 np k3, .slice p4 nq k4, .slice p5 nf k5] 63))) := S
  clear S
  by_cases a1 : fr < 0
  · have HF : Hid (routeB l ⟨nm, fr, tt, pa, po, fl⟩ = false) := NO.out (by omega)
    go_enter Tryd.func42, Tryd.ntmps42
    go_wp2
    go_ret
    exact ⟨ret_bool HF.out.symm, SB.out.1.1⟩
  by_cases a2 : (n2 : Int) ≤ fr
  · have HF : Hid (routeB l ⟨nm, fr, tt, pa, po, fl⟩ = false) := NO.out (by omega)
    go_enter Tryd.func42, Tryd.ntmps42
    go_wp2
    go_ret
    exact ⟨ret_bool HF.out.symm, SB.out.1.1⟩
  by_cases a3 : tt < 0
  · have HF : Hid (routeB l ⟨nm, fr, tt, pa, po, fl⟩ = false) := NO.out (by omega)
    go_enter Tryd.func42, Tryd.ntmps42
    go_wp2
    go_ret
    exact ⟨ret_bool HF.out.symm, SB.out.1.1⟩
  by_cases a4 : (n2 : Int) ≤ tt
  · have HF : Hid (routeB l ⟨nm, fr, tt, pa, po, fl⟩ = false) := NO.out (by omega)
    go_enter Tryd.func42, Tryd.ntmps42
    go_wp2
    go_ret
    exact ⟨ret_bool HF.out.symm, SB.out.1.1⟩
  by_cases a5 : fr = tt
  · have HF : Hid (routeB l ⟨nm, fr, tt, pa, po, fl⟩ = false) := NO.out (by omega)
    have hb : ((fr : Int) == tt) = true := by simp [a5]
    clear a5
    go_enter Tryd.func42, Tryd.ntmps42
    go_wp2
    go_ret
    exact ⟨ret_bool HF.out.symm, SB.out.1.1⟩
  have a5' : ((fr : Int) == tt) = false := by simp [a5]
  have A5 : Hid (¬ fr = tt) := a5
  clear a5
  by_cases a6 : np < 1
  · have HF : Hid (routeB l ⟨nm, fr, tt, pa, po, fl⟩ = false) := NO.out (by omega)
    have hb : (np : Int) < 1 := by omega
    go_enter Tryd.func42, Tryd.ntmps42
    go_wp2
    go_ret
    exact ⟨ret_bool HF.out.symm, SB.out.1.1⟩
  by_cases a7 : 5 < np
  · have HF : Hid (routeB l ⟨nm, fr, tt, pa, po, fl⟩ = false) := NO.out (by omega)
    have hb : ¬ (np : Int) < 1 := by omega
    have hb2 : (5 : Int) < (np : Int) := by omega
    go_enter Tryd.func42, Tryd.ntmps42
    go_wp2
    go_ret
    exact ⟨ret_bool HF.out.symm, SB.out.1.1⟩
  have b6 : ¬ (np : Int) < 1 := by omega
  have b7 : ¬ (5 : Int) < (np : Int) := by omega
  have HH : Hid (routeB l ⟨nm, fr, tt, pa, po, fl⟩ = (pathB l pa && restB l ⟨nm, fr, tt, pa, po, fl⟩)) := by
    have := A5.out
    rw [routeB, headB]
    simp only [HS2.out, HSP.out]
    rw [decide_eq_true (by omega), Bool.true_and]
    rfl
  clear NO
  go_enter Tryd.func42, Tryd.ntmps42
  go_wp2
  go_loopg [5] np (fun gk i wr => ∃ k : Nat, gk = np - k ∧ k ≤ np ∧ i = .int .i64 k ∧ ((pa.take k).Nodup ∧ ∀ y ∈ pa.take k, 0 ≤ y ∧ y < l.sections.length) ∧ TwoAt w v #[.string nm, .int .i64 fr, .int .i64 tt, .slice p3 np k3, .slice p4 nq k4, .slice p5 nf k5] wr)
  case atStart => exact ⟨0, rfl, by omega, rfl, by simp, SB.out⟩
  case round =>
    clear SB
    obtain ⟨k, rfl, hk, rfl, hc, htw⟩ := hrel
    have HC : Hid ((pa.take k).Nodup ∧ ∀ y ∈ pa.take k, 0 ≤ y ∧ y < l.sections.length) := hc
    have HTW : Hid (TwoAt w v #[.string nm, .int .i64 fr, .int .i64 tt, .slice p3 np k3, .slice p4 nq k4, .slice p5 nf k5] wr) := htw
    have hcc := htw.1.cells
    have hbl := htw.1.1
    rw [HV.out.1, HV.out.2.1, HV.out.2.2.1, HV.out.2.2.2] at hcc
    obtain ⟨q0, q1, q2, q3⟩ := hcc
    obtain ⟨g0, g1, g2, g3, g4, g5⟩ := htw.six
    clear hc htw
    by_cases hlt : k < np
    · have hki : (k : Int) < (np : Int) := by omega
      obtain ⟨x, hx⟩ : ∃ x, pa[k]? = some x := ⟨pa[k]'(by rw [HSP.out]; exact hlt), List.getElem?_eq_getElem _⟩
      obtain ⟨g, off, rfl, hcell⟩ := R3.out k x hx
      have d0 := hcell 0 _ rfl
      rw [show off + k * 1 + 0 = off + k by omega] at d0
      have d1 := (hbl.cell (World.block_lt_of_cell? _ _ d0)).trans d0
      have hxi := HMI.out.path.2 x (List.mem_of_getElem? hx)
      simp only [okI] at hxi
      have HX : Hid (pa[k]? = some x) := hx
      clear hcell d0 hx
      have zg := ext_cell g3
      have zq := ext_cell q0
      have zd := ext_cell d1
      haveI := ext_some wr
      by_cases h0 : x < 0
      · have HF : Hid (routeB l ⟨nm, fr, tt, pa, po, fl⟩ = false) := by rw [HH.out, path_no HX.out (.inl (by omega)), Bool.false_and]; rfl
        go_wp2_with fail
        refine wp_region_ext (by kernel_rfl) (by kernel_rfl) ?_
        repeat (first | go_big_quiet_skip | (go_big_quiet_want; go_big_quiet_op; first | go_big_quiet_on | (apply Exists.intro; refine ⟨fun _ => ?_, ?_⟩; (go_at_call 56; fail); go_big_quiet_on)))
        refine wpQuiet_nil ?_
        intro _ hw'
        obtain ⟨z, hw''⟩ := hw'
        subst hw''
        go_wp2
        go_ret
        exact ⟨ret_bool HF.out.symm, hbl.trans (z.h.mono hbl.size)⟩
      · have hd0 : decide (x < 0) = false := decide_eq_false h0
        by_cases h1 : (n0 : Int) ≤ x
        · have HF : Hid (routeB l ⟨nm, fr, tt, pa, po, fl⟩ = false) := by rw [HH.out, path_no HX.out (.inl (by rw [HS0.out]; omega)), Bool.false_and]; rfl
          go_wp2_with fail
          refine wp_region_ext (by kernel_rfl) (by kernel_rfl) ?_
          repeat (first | go_big_quiet_skip | (go_big_quiet_want; go_big_quiet_op; first | go_big_quiet_on | (apply Exists.intro; refine ⟨fun _ => ?_, ?_⟩; (go_at_call 56; fail); go_big_quiet_on)))
          refine wpQuiet_nil ?_
          intro _ hw'
          obtain ⟨z, hw''⟩ := hw'
          subst hw''
          go_wp2
          go_ret
          exact ⟨ret_bool HF.out.symm, hbl.trans (z.h.mono hbl.size)⟩
        · have IN : Hid (∀ z : Ext wr, Calls Tryd.prog 56 #[.slice (some ⟨g, off, none⟩) k k3, .int .i64 x] z.z fun e w' => e = .returned (.bool (inB (pa.take k) x)) ∧ w' = z.z) := fun z =>
            in_any _ (pa.take k) x _ (row_take (HR3.out.below (hbl.trans (z.h.mono hbl.size))) k (by rw [HSP.out]; omega) k3) (by rw [List.length_take, HSP.out]; omega)
          have hkc : (k : Int) ≤ (k3 : Int) := by omega
          have hd1 : decide ((n0 : Int) ≤ x) = false := decide_eq_false h1
          cases hin : inB (pa.take k) x
          · rw [hin] at IN
            go_wp2_with fail
            refine wp_region_ext (by kernel_rfl) (by kernel_rfl) ?_
            repeat (first | go_big_quiet_skip | (go_big_quiet_want; go_big_quiet_op; first | go_big_quiet_on | (apply Exists.intro; refine ⟨fun _ => ?_, ?_⟩; (go_at_call 56; exact ext_of_same (IN.out _)); go_big_quiet_on)))
            refine wpQuiet_nil ?_
            intro _ hw'
            obtain ⟨z, hw''⟩ := hw'
            subst hw''
            go_wp2
            go_roundg (np - (k + 1))
            case rel => exact ⟨k + 1, rfl, by omega, by go_num, path_more HX.out HC.out (by rw [HS0.out]; omega) hin, HTW.out.step z.h⟩
            case measure => omega
          · rw [hin] at IN
            have HF : Hid (routeB l ⟨nm, fr, tt, pa, po, fl⟩ = false) := by rw [HH.out, path_no HX.out (.inr hin), Bool.false_and]; rfl
            go_wp2_with fail
            refine wp_region_ext (by kernel_rfl) (by kernel_rfl) ?_
            repeat (first | go_big_quiet_skip | (go_big_quiet_want; go_big_quiet_op; first | go_big_quiet_on | (apply Exists.intro; refine ⟨fun _ => ?_, ?_⟩; (go_at_call 56; exact ext_of_same (IN.out _)); go_big_quiet_on)))
            refine wpQuiet_nil ?_
            intro _ hw'
            obtain ⟨z, hw''⟩ := hw'
            subst hw''
            go_wp2
            go_ret
            exact ⟨ret_bool HF.out.symm, hbl.trans (z.h.mono hbl.size)⟩
    · have hki : ¬ (k : Int) < (np : Int) := by omega
      have HPB : Hid (routeB l ⟨nm, fr, tt, pa, po, fl⟩ = restB l ⟨nm, fr, tt, pa, po, fl⟩) := by
        have := HC.out
        rw [List.take_of_length_le (by rw [HSP.out]; omega)] at this
        rw [HH.out, show pathB l pa = true from decide_eq_true this, Bool.true_and]
        rfl
      clear HC HH
      go_wp2_with fail
      go_loopg [6, 7] n1 (fun gk c i wr => ∃ j : Nat, gk = n1 - j ∧ j ≤ n1 ∧ i = .int .i64 j ∧ c = .int .i64 (countIn pa (l.points.take j)) ∧ TwoAt w v #[.string nm, .int .i64 fr, .int .i64 tt, .slice p3 np k3, .slice p4 nq k4, .slice p5 nf k5] wr)
      case atStart => exact ⟨0, rfl, by omega, rfl, rfl, HTW.out⟩
      case round =>
        clear HTW hbl q0 q1 q2 q3 g0 g1 g2 g3 g4 g5 hki hlt hk
        obtain ⟨j, rfl, hj, rfl, rfl, htw⟩ := hrel
        have hcn : countIn pa (l.points.take j) ≤ j := Nat.le_trans (List.length_filter_le _ _) (by rw [List.length_take]; omega)
        have HTW : Hid (TwoAt w v #[.string nm, .int .i64 fr, .int .i64 tt, .slice p3 np k3, .slice p4 nq k4, .slice p5 nf k5] wr) := htw
        have hcc := htw.1.cells
        have hbl := htw.1.1
        rw [HV.out.1, HV.out.2.1, HV.out.2.2.1, HV.out.2.2.2] at hcc
        obtain ⟨q0, q1, q2, q3⟩ := hcc
        obtain ⟨g0, g1, g2, g3, g4, g5⟩ := htw.six
        clear htw
        by_cases hlt : j < n1
        · have hji : (j : Int) < (n1 : Int) := by omega
          obtain ⟨⟨pn, ps⟩, hx⟩ : ∃ x, l.points[j]? = some x := ⟨l.points[j]'(by rw [HS1.out]; exact hlt), List.getElem?_eq_getElem _⟩
          obtain ⟨g, off, rfl, hcell⟩ := R1.out j _ hx
          have d0 := hcell 1 _ rfl
          have d1 := (hbl.cell (World.block_lt_of_cell? _ _ d0)).trans d0
          have HX : Hid (l.points[j]? = some (pn, ps)) := hx
          clear hcell d0 hx
          have zg := ext_cell g3
          have zq := ext_cell q1
          have zd := ext_cell d1
          haveI := ext_some wr
          have IN : Hid (∀ z : Ext wr, Calls Tryd.prog 56 #[.slice p3 np k3, .int .i64 ps] z.z fun e w' => e = .returned (.bool (inB pa ps)) ∧ w' = z.z) := fun z =>
            in_any _ pa ps _ (HR3.out.below (hbl.trans (z.h.mono hbl.size))) (by rw [HSP.out]; omega)
          cases hin : inB pa ps
          · rw [hin] at IN
            have GO : Hid (countIn pa (l.points.take j) = countIn pa (l.points.take (j + 1))) := by
              show _ = _
              rw [take_snocI HX.out, countIn, countIn, List.filter_append, List.filter_cons_of_neg (by simp [hin])]
              simp
            go_wp2_with fail
            refine wp_region_ext (by kernel_rfl) (by kernel_rfl) ?_
            repeat (first | go_big_quiet_skip | (go_big_quiet_want; go_big_quiet_op; first | go_big_quiet_on | (apply Exists.intro; refine ⟨fun _ => ?_, ?_⟩; (go_at_call 56; exact ext_of_same (IN.out _)); go_big_quiet_on)))
            refine wpQuiet_nil ?_
            intro _ hw'
            obtain ⟨z, hw''⟩ := hw'
            subst hw''
            go_wp2
            go_roundg (n1 - (j + 1))
            case rel => exact ⟨j + 1, rfl, by omega, by go_num, by rw [GO.out], HTW.out.step z.h⟩
            case measure => omega
          · rw [hin] at IN
            have GO : Hid (countIn pa (l.points.take j) + 1 = countIn pa (l.points.take (j + 1))) := by
              show _ = _
              rw [take_snocI HX.out, countIn, countIn, List.filter_append, List.filter_cons_of_pos (by simp [hin])]
              simp
            generalize hcnt : countIn pa (l.points.take j) = cnt at *
            clear hcnt
            go_wp2_with fail
            refine wp_region_ext (by kernel_rfl) (by kernel_rfl) ?_
            repeat (first | go_big_quiet_skip | (go_big_quiet_want; go_big_quiet_op; first | go_big_quiet_on | (apply Exists.intro; refine ⟨fun _ => ?_, ?_⟩; (go_at_call 56; exact ext_of_same (IN.out _)); go_big_quiet_on)))
            refine wpQuiet_nil ?_
            intro _ hw'
            obtain ⟨z, hw''⟩ := hw'
            subst hw''
            go_wp2
            go_roundg (n1 - (j + 1))
            case rel => exact ⟨j + 1, rfl, by omega, by go_num, by rw [← GO.out]; go_num, HTW.out.step z.h⟩
            case measure => omega
        · have hji : ¬ (j : Int) < (n1 : Int) := by omega
          rw [List.take_of_length_le (by rw [HS1.out]; omega)] at hcn ⊢
          have HR : Hid (restB l ⟨nm, fr, tt, pa, po, fl⟩ = (decide (nq = countIn pa l.points) && (needsF l pa true none po && needsF l pa false none fl))) := by
            show _ = _
            rw [restB]
            simp only [HSQ.out]
          generalize hcnt : countIn pa l.points = cnt at *
          clear hcnt
          have N1 : Hid (∀ W, Below w.heap.size w W → Calls Tryd.prog 69 #[.agg #[.slice o0 n0 c0, .slice o1 n1 c1, .slice o2 n2 c2, .slice o3 n3 c3], .slice p4 nq k4, .slice p3 np k3, .bool true] W fun e w' => e = .returned (.bool (needsF l pa true none po)) ∧ Below W.heap.size W w') := fun W hW => by
            have := refNeeds_any v l rs _ _ po pa true W (HLR.out.below hW) (HR4.out.below hW) (HR3.out.below hW) (by rw [HSQ.out]; omega) (by rw [HSP.out]; omega) (by rw [HS1.out]; omega) HMI.out.points.2
            rw [HV.out.1, HV.out.2.1, HV.out.2.2.1, HV.out.2.2.2] at this
            exact this
          have N2 : Hid (∀ W, Below w.heap.size w W → Calls Tryd.prog 69 #[.agg #[.slice o0 n0 c0, .slice o1 n1 c1, .slice o2 n2 c2, .slice o3 n3 c3], .slice p5 nf k5, .slice p3 np k3, .bool false] W fun e w' => e = .returned (.bool (needsF l pa false none fl)) ∧ Below W.heap.size W w') := fun W hW => by
            have := refNeeds_any v l rs _ _ fl pa false W (HLR.out.below hW) (HR5.out.below hW) (HR3.out.below hW) (by rw [HSF.out]; omega) (by rw [HSP.out]; omega) (by rw [HS1.out]; omega) HMI.out.flank.2
            rw [HV.out.1, HV.out.2.1, HV.out.2.2.1, HV.out.2.2.2] at this
            exact this
          by_cases hq : nq = cnt
          · have hqb : ((nq : Int) == (cnt : Int)) = true := by simp [hq]
            rw [decide_eq_true hq, Bool.true_and] at HR
            clear hq
            have M1 := N1.out _ hbl
            cases hn1 : needsF l pa true none po
            · rw [hn1] at M1
              have HF : Hid (routeB l ⟨nm, fr, tt, pa, po, fl⟩ = false) := by rw [HPB.out, HR.out, hn1, Bool.false_and]; rfl
              go_wp2_with fail
              refine M1.mono ?_
              rintro e w1 ⟨rfl, hb1⟩
              go_wp2_with fail
              go_ret
              exact ⟨ret_bool HF.out.symm, hbl.trans (hb1.mono hbl.size)⟩
            · rw [hn1] at M1
              have HF : Hid (routeB l ⟨nm, fr, tt, pa, po, fl⟩ = needsF l pa false none fl) := by rw [HPB.out, HR.out, hn1, Bool.true_and]; rfl
              go_wp2_with fail
              refine M1.mono ?_
              rintro e w1 ⟨rfl, hb1⟩
              have htw1 := HTW.out.step hb1
              have hcc := htw1.1.cells
              have hbl1 := htw1.1.1
              rw [HV.out.1, HV.out.2.1, HV.out.2.2.1, HV.out.2.2.2] at hcc
              obtain ⟨q0', q1', q2', q3'⟩ := hcc
              obtain ⟨g0', g1', g2', g3', g4', g5'⟩ := htw1.six
              clear htw1
              have M2 := N2.out _ hbl1
              clear N1 N2 M1
              go_wp2_with fail
              refine M2.mono ?_
              rintro e w2 ⟨rfl, hb2⟩
              go_wp2_with fail
              go_ret
              exact ⟨ret_bool HF.out.symm, hbl1.trans (hb2.mono hbl1.size)⟩
          · have hqb : ((nq : Int) == (cnt : Int)) = false := by simp; omega
            have HF : Hid (routeB l ⟨nm, fr, tt, pa, po, fl⟩ = false) := by rw [HPB.out, HR.out, decide_eq_false hq, Bool.false_and]; rfl
            clear hq
            go_wp2_with fail
            go_ret
            exact ⟨ret_bool HF.out.symm, hbl⟩
end Go.Proofs.YtceebimgfajbcaaDoor

namespace Go.Proofs.YtceebimgfajbcaaDoor
open Go.RowKit

theorem tabs_below {w w' : World} (h : Lib.Utf8Tabs 0 1 w) (hb : Below w.heap.size w w') : Lib.Utf8Tabs 0 1 w' := by
  refine ⟨fun c hc => ?_, fun i hi => ?_⟩
  · have h1 := h.1 c hc
    exact (hb.cell (World.block_lt_of_cell? w _ h1)).trans h1
  · have h1 := h.2 i hi
    exact ⟨(hb.cell (World.block_lt_of_cell? w _ h1.1)).trans h1.1, (hb.cell (World.block_lt_of_cell? w _ h1.2)).trans h1.2⟩

/-- Of what there was at the call nothing has turned; the two tables lie. -/
def Ok (w0 w : World) : Prop := Below w0.heap.size w0 w ∧ Lib.Utf8Tabs 0 1 w
theorem Ok.start {w : World} (h : Lib.Utf8Tabs 0 1 w) : Ok w w := ⟨Below.refl _ _, h⟩
theorem Ok.step {w0 w w' : World} (h : Ok w0 w) (hb : Below w.heap.size w w') : Ok w0 w' := ⟨h.1.trans (hb.mono h.1.size), tabs_below h.2 hb⟩
theorem Ok.drewN {w0 w : World} (h : Ok w0 w) (n : Nat) : Ok w0 (w.drewN n) := ⟨_root_.Go.below_drewN h.1 n, h.2⟩

theorem decodeGo_at (s : ByteArray) (p : Nat) (h : p < s.size) : Lib.decodeGo (s.extract p s.size) = Utf8.decode s p := by
  have hl : (s.extract p s.size).data.toList = s.data.toList.drop p := by
    rw [Lib.extract_data, List.take_of_length_le (by rw [List.length_drop, ← Lib.size_eq]; exact Nat.le_refl _)]
  have hs : (s.extract p s.size).size = s.size - p := by rw [Lib.size_eq, hl, List.length_drop, ← Lib.size_eq]
  rw [Lib.decodeGo, if_neg (by omega), decode_drop, decode_drop, hl]
  rfl

theorem decode_any (s : ByteArray) (w : World) (hT : Lib.Utf8Tabs 0 1 w) (hs : s.size ≠ 0) :
    Calls Tryd.prog 121 #[.string s] w fun e w' => e = .returned (.tuple #[.int .i32 (Utf8.decode s 0).1, .int .i64 (Utf8.decode s 0).2]) ∧ Below w.heap.size w w' := by
  have h := Tryd.utf8_DecodeRuneInString s w hT
  rw [Lib.decodeGo, if_neg hs] at h
  exact h

def runeCells (l : List (Nat × Nat)) : List Value := l.flatMap fun x => [.int .i32 x.1, .int .i64 x.2, .bool (badB x)]
theorem runeCells_snoc (l : List (Nat × Nat)) (x : Nat × Nat) : runeCells (l ++ [x]) = runeCells l ++ [.int .i32 x.1, .int .i64 x.2, .bool (badB x)] := by
  simp [runeCells]
theorem infoR : (Tryd.prog.info? 134).map (fun i => (i.zero, i.size, i.bytes)) = some (some (.agg #[.int .i32 0, .int .i64 0, .bool false]), 3, 24) := by kernel_rfl

theorem cell_three_new (w : World) (a b c : Value) (t : TypeId) : ∀ j u, [a, b, c][j]? = some u → (w.alloc (.cells #[a, b, c] t)).cell? ((⟨w.heap.size, 0, none⟩ : Addr).add j) = some u := by
  intro j u hj
  match j, hj with
  | 0, hj => simp at hj; subst hj; simp [Addr.add]
  | 1, hj => simp at hj; subst hj; simp [Addr.add]
  | 2, hj => simp at hj; subst hj; simp [Addr.add]
  | j + 3, hj => simp at hj
theorem three_one (a b : Int) (c : Bool) : ∀ u ∈ [Value.int .i32 a, Value.int .i64 b, Value.bool c], u.oneCell' = true := by
  intro u hu
  simp at hu
  rcases hu with rfl | rfl | rfl <;> rfl

set_option maxRecDepth 1000000 in
set_option maxHeartbeats 4000000 in
theorem refRunes_any (s : ByteArray) (w : World) (hs : s.size ≤ 4294967296) (hT : Lib.Utf8Tabs 0 1 w) :
    Calls Tryd.prog 91 #[.string s] w fun e w' => ∃ v, e = .returned v ∧ w'.ownsRow w.heap.size 134 3 v (runes s.data.toList).length (runeCells (runes s.data.toList)) ∧ Below w.heap.size w w' := by
  obtain ⟨i0, hi, hz0, hz1, hz2⟩ := info_parts infoR
  have H0 : Hid (runesAt s 0 = runes s.data.toList) := by simp [Hid, runesAt]
  have HT : Hid (Lib.Utf8Tabs 0 1 w) := hT
  clear hT
  go_enter Tryd.func91, Tryd.ntmps91
  go_wp2
  go_loopw [3, 4, 5, 6] (fun v i _ _ wr => ∃ (pos : Nat) (rs : List (Nat × Nat)), wr.ownsRow w.heap.size 134 3 v rs.length (runeCells rs) ∧ i = .int .i64 pos ∧
      rs ++ runesAt s pos = runesAt s 0 ∧ rs.length ≤ pos ∧ pos ≤ s.size ∧ Below w.heap.size w wr)
    (fun _ i _ _ _ => s.size - (intOf i).toNat)
  case atStart => exact ⟨0, [], World.ownsRow_nil _ _ _ _, rfl, rfl, by simp, by omega, Below.refl _ _⟩
  case round =>
    obtain ⟨pos, rs, hown, rfl, hc, hl, hps, hbl⟩ := hrel
    have HC : Hid (rs ++ runesAt s pos = runesAt s 0) := hc
    clear hc
    by_cases hp : pos < s.size
    · have hwd := width_at s pos hp
      have HN : Hid (runesAt s pos = Utf8.decode s pos :: runesAt s (pos + (Utf8.decode s pos).2)) := runesAt_next s pos hp
      have hD := fun W h => decode_any (s.extract pos s.size) W h (by simp; omega)
      have e0 : Utf8.decode (s.extract pos s.size) 0 = Utf8.decode s pos := by
        have := decodeGo_at s pos hp
        rw [Lib.decodeGo, if_neg (by simp; omega)] at this
        exact this
      rw [e0] at hD
      clear e0
      generalize hr : Utf8.decode s pos = dd at *
      obtain ⟨r, wd⟩ := dd
      simp only at hwd hD
      clear hr
      go_wp2_with fail
      refine (hD _ (tabs_below HT.out hbl)).mono ?_
      rintro e w2 ⟨rfl, hb2⟩
      have hown2 := owns_below hown hb2
      have hbl2 : Below w.heap.size w w2 := hbl.trans (hb2.mono hbl.size)
      clear hb2 hbl hown hD
      by_cases hr : r = 65533
      · by_cases hw1 : wd = 1
        · subst hr
          subst hw1
          go_wp2_with (at_builtin; refine wpList_append_own _ rfl _ _ 131 rfl w.heap.size 134 i0 (.agg #[.int .i32 0, .int .i64 0, .bool false]) 3 24 Tryd.underlying131 hi hz0 hz1 hz2 rfl (by decide) _ _ _ rfl (hown2.alloc _) ⟨w2.heap.size, 0, none⟩ 1 1 [.int .i32 65533, .int .i64 1, .bool true] rfl rfl (cell_three_new _ _ _ _ _) (three_one _ _ _) (by unfold maxLen; omega) (by omega) (by have := hbl2.size; simp; omega) ?_)
          intro v' w3 hown3 hgrow _
          have hbl3 : Below w.heap.size w w3 := (hbl2.alloc hbl2.size _).grown hgrow (by have := hbl2.size; simp; omega) (fun k hk => (hown2.lt k hk).1)
          have hadd : rs ++ (65533, 1) :: runesAt s (pos + 1) = runesAt s 0 := by rw [← HC.out, HN.out]
          have HADD : Hid (rs ++ (65533, 1) :: runesAt s (pos + 1) = runesAt s 0) := hadd
          have hown4 : w3.ownsRow w.heap.size 134 3 v' (rs ++ [(65533, 1)]).length (runeCells (rs ++ [(65533, 1)])) := by
            rw [runeCells_snoc, List.length_append]
            rw [show badB (65533, 1) = true from rfl]
            exact hown3
          clear hown2 hown3 hgrow hbl2 hadd
          go_wp2
          go_roundw
          case rel => exact ⟨pos + 1, rs ++ [(65533, 1)], hown4, by go_num, by rw [← HADD.out]; simp, by rw [List.length_append]; simp; omega, by omega, hbl3⟩
          case measure => simp [intOf]; omega
        · subst hr
          have hw' : ((wd : Int) == 1) = false := by simp; omega
          go_wp2_with (at_builtin; refine wpList_append_own _ rfl _ _ 131 rfl w.heap.size 134 i0 (.agg #[.int .i32 0, .int .i64 0, .bool false]) 3 24 Tryd.underlying131 hi hz0 hz1 hz2 rfl (by decide) _ _ _ rfl (hown2.alloc _) ⟨w2.heap.size, 0, none⟩ 1 1 [.int .i32 65533, .int .i64 wd, .bool false] rfl rfl (cell_three_new _ _ _ _ _) (three_one _ _ _) (by unfold maxLen; omega) (by omega) (by have := hbl2.size; simp; omega) ?_)
          intro v' w3 hown3 hgrow _
          have hbl3 : Below w.heap.size w w3 := (hbl2.alloc hbl2.size _).grown hgrow (by have := hbl2.size; simp; omega) (fun k hk => (hown2.lt k hk).1)
          have hadd : rs ++ (65533, wd) :: runesAt s (pos + wd) = runesAt s 0 := by rw [← HC.out, HN.out]
          have HADD : Hid (rs ++ (65533, wd) :: runesAt s (pos + wd) = runesAt s 0) := hadd
          have hown4 : w3.ownsRow w.heap.size 134 3 v' (rs ++ [(65533, wd)]).length (runeCells (rs ++ [(65533, wd)])) := by
            rw [runeCells_snoc, List.length_append]
            rw [show badB (65533, wd) = false by rw [badB, decide_eq_false_iff_not]; exact fun h => hw1 h.2]
            exact hown3
          clear hown2 hown3 hgrow hbl2 hadd
          go_wp2
          go_roundw
          case rel => exact ⟨pos + wd, rs ++ [(65533, wd)], hown4, by go_num, by rw [← HADD.out]; simp, by rw [List.length_append]; simp; omega, by omega, hbl3⟩
          case measure => simp [intOf]; omega
      · have hr' : ((r : Int) == 65533) = false := by simp; omega
        go_wp2_with (at_builtin; refine wpList_append_own _ rfl _ _ 131 rfl w.heap.size 134 i0 (.agg #[.int .i32 0, .int .i64 0, .bool false]) 3 24 Tryd.underlying131 hi hz0 hz1 hz2 rfl (by decide) _ _ _ rfl (hown2.alloc _) ⟨w2.heap.size, 0, none⟩ 1 1 [.int .i32 r, .int .i64 wd, .bool false] rfl rfl (cell_three_new _ _ _ _ _) (three_one _ _ _) (by unfold maxLen; omega) (by omega) (by have := hbl2.size; simp; omega) ?_)
        intro v' w3 hown3 hgrow _
        have hbl3 : Below w.heap.size w w3 := (hbl2.alloc hbl2.size _).grown hgrow (by have := hbl2.size; simp; omega) (fun k hk => (hown2.lt k hk).1)
        have hadd : rs ++ (r, wd) :: runesAt s (pos + wd) = runesAt s 0 := by rw [← HC.out, HN.out]
        have HADD : Hid (rs ++ (r, wd) :: runesAt s (pos + wd) = runesAt s 0) := hadd
        have hown4 : w3.ownsRow w.heap.size 134 3 v' (rs ++ [(r, wd)]).length (runeCells (rs ++ [(r, wd)])) := by
          rw [runeCells_snoc, List.length_append]
          rw [show badB (r, wd) = false by rw [badB, decide_eq_false_iff_not]; exact fun h => hr h.1]
          exact hown3
        clear hown2 hown3 hgrow hbl2 hadd
        go_wp2
        go_roundw
        case rel => exact ⟨pos + wd, rs ++ [(r, wd)], hown4, by go_num, by rw [← HADD.out]; simp, by rw [List.length_append]; simp; omega, by omega, hbl3⟩
        case measure => simp [intOf]; omega
    · go_wp2
      go_ret
      refine ⟨_, rfl, ?_, hbl⟩
      have h1 := HC.out
      rw [runesAt_end s pos hp, List.append_nil, H0.out] at h1
      rw [← h1]
      exact hown
end Go.Proofs.YtceebimgfajbcaaDoor

namespace Go.Proofs.YtceebimgfajbcaaDoor
open Go.RowKit

/-- A slice value that holds these runes. -/
def hasRunes (w : World) (v : Value) (rs : List (Nat × Nat)) : Prop :=
  ∃ oa cap, v = .slice oa rs.length cap ∧ ∀ j x, rs[j]? = some x → ∃ g, oa = some ⟨g, 0, none⟩ ∧ w.cell? ⟨g, j * 3, none⟩ = some (.int .i32 x.1) ∧ w.cell? ⟨g, j * 3 + 1, none⟩ = some (.int .i64 x.2) ∧ w.cell? ⟨g, j * 3 + 2, none⟩ = some (.bool (badB x))

theorem runeCells_get : ∀ (rs : List (Nat × Nat)) (j : Nat) (x : Nat × Nat), rs[j]? = some x → (runeCells rs)[j * 3]? = some (.int .i32 x.1) ∧ (runeCells rs)[j * 3 + 1]? = some (.int .i64 x.2) ∧ (runeCells rs)[j * 3 + 2]? = some (.bool (badB x))
  | y :: rs, 0, x, h => by simp at h; subst h; simp [runeCells]
  | y :: rs, j + 1, x, h => by
    have ih := runeCells_get rs j x (by simpa using h)
    have e : runeCells (y :: rs) = .int .i32 y.1 :: .int .i64 y.2 :: .bool (badB y) :: runeCells rs := by simp [runeCells]
    rw [e, show (j + 1) * 3 = j * 3 + 1 + 1 + 1 by omega, show j * 3 + 1 + 1 + 1 + 1 = (j * 3 + 1) + 1 + 1 + 1 by omega, show j * 3 + 1 + 1 + 1 + 2 = (j * 3 + 2) + 1 + 1 + 1 by omega]
    simp only [List.getElem?_cons_succ]
    exact ih

theorem hasRunes_of_owns {w : World} {base : Nat} {e : TypeId} {v : Value} {rs : List (Nat × Nat)} (h : w.ownsRow base e 3 v rs.length (runeCells rs)) : hasRunes w v rs := by
  rcases h.2 with ⟨h1, h2⟩ | ⟨g, cap, cur, h1, _, _, h2, _⟩
  · have e := List.eq_nil_of_length_eq_zero h2
    subst e
    exact ⟨none, 0, h1, fun j x hj => by simp at hj⟩
  · refine ⟨some ⟨g, 0, none⟩, cap, h1, fun j x hj => ⟨g, rfl, ?_⟩⟩
    have hc := h.cells (g := g) (by rw [h1]; rfl)
    have hw := runeCells_get rs j x hj
    have a1 := hc _ _ hw.1
    have a2 := hc _ _ hw.2.1
    have a3 := hc _ _ hw.2.2
    rw [addr_add] at a1 a2 a3
    exact ⟨a1, a2, a3⟩

theorem hasRunes_below {w w' : World} {v : Value} {rs : List (Nat × Nat)} (h : hasRunes w v rs) (hb : Below w.heap.size w w') : hasRunes w' v rs := by
  obtain ⟨oa, cap, h1, h3⟩ := h
  refine ⟨oa, cap, h1, fun j x hj => ?_⟩
  obtain ⟨g, e, c1, c2, c3⟩ := h3 j x hj
  have hlt := World.block_lt_of_cell? w _ c1
  exact ⟨g, e, (hb.cell (p := ⟨g, j * 3, none⟩) hlt).trans c1, (hb.cell (p := ⟨g, j * 3 + 1, none⟩) hlt).trans c2, (hb.cell (p := ⟨g, j * 3 + 2, none⟩) hlt).trans c3⟩

/-- The reference's way: each rune in its place. -/
def refF : Nat → List (Nat × Nat) → Bool
  | _, [] => true
  | k, x :: rs => if badB x = true ∨ (letterB x.1 = false ∧ (k = 0 ∨ digitB x.1 = false)) then false else refF (k + 1) rs

theorem bad_none (x : Nat × Nat) (h : badB x = true) : letterB x.1 = false ∧ digitB x.1 = false := by
  simp only [badB, decide_eq_true_eq] at h
  rw [h.1]
  exact ⟨by decide +kernel, by decide +kernel⟩

theorem refF_name : ∀ (rs : List (Nat × Nat)) (k : Nat), k + rs.length ≤ 8 → nameF k rs = (refF k rs && decide (1 ≤ k + rs.length))
  | [], k, _ => by simp [nameF, refF]; omega
  | x :: rs, k, h => by
    rw [List.length_cons] at h
    have ih := refF_name rs (k + 1) (by omega)
    rw [nameF, refF]
    have hst : standB x.1 k = (letterB x.1 || (decide (0 < k) && digitB x.1)) := by simp [standB]
    by_cases hb : badB x = true
    · obtain ⟨h1, h2⟩ := bad_none x hb
      rw [if_pos (.inr (by rw [hst, h1, h2]; simp)), if_pos (.inl hb)]
      rfl
    · by_cases hc : letterB x.1 = false ∧ (k = 0 ∨ digitB x.1 = false)
      · rw [if_pos (.inr (by rw [hst, hc.1]; rcases hc.2 with h0 | h0 <;> simp [h0])), if_pos (.inr hc)]
        rfl
      · rw [if_neg, if_neg (fun h => h.elim hb hc), ih, List.length_cons, show k + 1 + rs.length = k + (rs.length + 1) by omega]
        rw [hst]
        intro hh
        rcases hh with hh | hh
        · omega
        · apply hc
          revert hh
          cases letterB x.1 <;> cases digitB x.1 <;> simp
theorem nameF_long : ∀ (rs : List (Nat × Nat)) (k : Nat), k ≤ 8 → 8 < k + rs.length → nameF k rs = false
  | [], k, h1, h2 => by simp at h2; omega
  | x :: rs, k, h1, h2 => by
    rw [nameF]
    by_cases h : k = 8 ∨ standB x.1 k = false
    · rw [if_pos h]
    · rw [if_neg h]
      exact nameF_long rs (k + 1) (by omega) (by rw [List.length_cons] at h2; omega)
theorem ref_name (rs : List (Nat × Nat)) : (refF 0 rs && (decide (1 ≤ rs.length) && decide (rs.length ≤ 8))) = nameF 0 rs := by
  by_cases h : rs.length ≤ 8
  · rw [refF_name rs 0 (by omega), Nat.zero_add]
    simp [h]
  · rw [nameF_long rs 0 (by omega) (by omega)]
    simp [h]

set_option maxRecDepth 1000000 in
set_option maxHeartbeats 4000000 in
theorem refName_any (s : ByteArray) (w : World) (hs : s.size ≤ 4294967296) (hT : Lib.Utf8Tabs 0 1 w) :
    Calls Tryd.prog 62 #[.string s] w fun e w' => e = .returned (.bool (nameB s.data.toList)) ∧ Below w.heap.size w w' := by
  have HF : Hid ((refF 0 (runes s.data.toList) && (decide (1 ≤ (runes s.data.toList).length) && decide ((runes s.data.toList).length ≤ 8))) = nameB s.data.toList) := ref_name _
  have hlen : (runes s.data.toList).length ≤ 4294967296 := by have := runes_length_le s.data.toList; rw [← Lib.size_eq] at this; omega
  generalize nameB s.data.toList = ans at *
  go_enter Tryd.func62, Tryd.ntmps62
  go_wp2_with fail
  refine (refRunes_any s _ hs hT).mono ?_
  rintro e w1 ⟨v, rfl, hown, hb1⟩
  obtain ⟨oa, cap, rfl, hcl⟩ := hasRunes_of_owns hown
  clear hown hT
  generalize hrs : runes s.data.toList = rs at *
  have HL : Hid (rs.length = rs.length) := rfl
  generalize hnx : rs.length = nx at *
  have HN : Hid (rs.length = nx) := hnx
  have HCL : Hid (∀ j x, rs[j]? = some x → ∃ g, oa = some ⟨g, 0, none⟩ ∧ w1.cell? ⟨g, j * 3, none⟩ = some (.int .i32 x.1) ∧ w1.cell? ⟨g, j * 3 + 1, none⟩ = some (.int .i64 x.2) ∧ w1.cell? ⟨g, j * 3 + 2, none⟩ = some (.bool (badB x))) := hcl
  clear hcl hnx hrs HL
  go_wp2
  go_loop [4] (fun i => ∃ k : Nat, i = .int .i64 k ∧ k ≤ nx ∧ refF k (rs.drop k) = refF 0 rs) (fun i => nx - (intOf i).toNat)
  case atStart => exact ⟨0, rfl, by omega, by simp⟩
  case round =>
    obtain ⟨k, rfl, hk, hc⟩ := hrel
    have HC : Hid (refF k (rs.drop k) = refF 0 rs) := hc
    clear hc
    by_cases hlt : k < nx
    · obtain ⟨x, hxk⟩ : ∃ x, rs[k]? = some x := ⟨rs[k]'(by rw [HN.out]; exact hlt), List.getElem?_eq_getElem _⟩
      obtain ⟨g, rfl, c1, c2, c3⟩ := HCL.out k x hxk
      have hdr : rs.drop k = x :: rs.drop (k + 1) := by
        obtain ⟨hl, he⟩ := List.getElem?_eq_some_iff.1 hxk
        rw [List.drop_eq_getElem_cons hl, he]
      rw [hdr, refF] at HC
      clear hdr hxk c2
      obtain ⟨r, wd⟩ := x
      simp only at c1 c3 HC
      cases hbad : badB (r, wd)
      · rw [hbad] at c3 HC
        simp only [Bool.false_eq_true, false_or] at HC
        have hL := fun W => refLetter_any (r : Int) W
        cases hle : letterB (r : Int)
        · rw [hle] at hL HC
          simp only [true_and] at HC
          by_cases hk0 : k = 0
          · subst hk0
            simp only [true_or, if_true] at HC
            go_wp2_with (go_at_call 92; refine (hL _).mono ?_; rintro e w' ⟨rfl, rfl⟩)
            go_ret
            refine ⟨ret_bool ?_, hb1⟩
            rw [← HF.out, ← HC.out]
            rfl
          · have hk' : ((k : Int) == 0) = false := by simp; omega
            simp only [hk0, false_or] at HC
            by_cases hd : 48 ≤ (r : Int) ∧ (r : Int) ≤ 57
            · rw [if_neg (by simp [digitB, hd])] at HC
              obtain ⟨hd1, hd2⟩ := hd
              go_wp2_with (go_at_call 92; refine (hL _).mono ?_; rintro e w' ⟨rfl, rfl⟩)
              go_round
              case rel => exact ⟨k + 1, by go_num, by omega, HC.out⟩
              case measure => simp [intOf]; omega
            · rw [if_pos (by simp only [digitB, decide_eq_false_iff_not]; exact hd)] at HC
              rcases (show (r : Int) < 48 ∨ 57 < (r : Int) by omega) with hd | hd
              all_goals
                go_wp2_with (go_at_call 92; refine (hL _).mono ?_; rintro e w' ⟨rfl, rfl⟩)
                go_ret
                refine ⟨ret_bool ?_, hb1⟩
                rw [← HF.out, ← HC.out]
                rfl
        · rw [hle] at hL HC
          simp only [Bool.true_eq_false, false_and, if_false] at HC
          go_wp2_with (go_at_call 92; refine (hL _).mono ?_; rintro e w' ⟨rfl, rfl⟩)
          go_round
          case rel => exact ⟨k + 1, by go_num, by omega, HC.out⟩
          case measure => simp [intOf]; omega
      · rw [hbad] at c3 HC
        go_wp2
        go_ret
        refine ⟨ret_bool ?_, hb1⟩
        rw [← HF.out, ← HC.out]
        simp
    · have h1 := HC.out
      rw [List.drop_of_length_le (by rw [HN.out]; omega), refF] at h1
      rw [← h1, Bool.true_and] at HF
      clear h1
      by_cases hn1 : 1 ≤ nx
      · go_wp2
        go_ret
        refine ⟨ret_bool ?_, hb1⟩
        rw [← HF.out, Bool.eq_iff_iff]
        simp
        omega
      · go_wp2
        go_ret
        refine ⟨ret_bool ?_, hb1⟩
        rw [← HF.out]
        simp [hn1]
end Go.Proofs.YtceebimgfajbcaaDoor

namespace Go.Proofs.YtceebimgfajbcaaDoor
open Go.RowKit

set_option maxRecDepth 1000000 in
set_option maxHeartbeats 4000000 in
theorem refCap_any (s : ByteArray) (w : World) (hs : s.size ≤ 4294967296) (hT : Lib.Utf8Tabs 0 1 w) :
    Calls Tryd.prog 31 #[.string s] w fun e w' => e = .returned (.bool (capB s)) ∧ Below w.heap.size w w' := by
  have N := refName_any s w hs hT
  clear hT
  cases hn : nameB s.data.toList
  · have HC : Hid (capB s = false) := by simp [Hid, capB, hn]
    rw [hn] at N
    rw [HC.out]
    go_enter Tryd.func31, Tryd.ntmps31
    go_wp2_with fail
    refine N.mono ?_
    rintro e w1 ⟨rfl, hb1⟩
    go_wp2
    go_ret
    exact ⟨rfl, hb1⟩
  · rw [hn] at N
    by_cases h1 : s = kSet
    · subst h1
      rw [show capB kSet = false by decide +kernel]
      rw [kSet] at N ⊢
      go_enter Tryd.func31, Tryd.ntmps31
      go_wp2_with fail
      refine N.mono ?_
      rintro e w1 ⟨rfl, hb1⟩
      go_wp2
      go_ret
      exact ⟨rfl, hb1⟩
    · by_cases h2 : s = kFlank
      · subst h2
        rw [show capB kFlank = false by decide +kernel]
        rw [kFlank] at N ⊢
        go_enter Tryd.func31, Tryd.ntmps31
        go_wp2_with fail
        refine N.mono ?_
        rintro e w1 ⟨rfl, hb1⟩
        go_wp2
        go_ret
        exact ⟨rfl, hb1⟩
      · have HC : Hid (capB s = true) := by simp [Hid, capB, hn, endsB, h1, h2]
        rw [HC.out]
        have d1 : ¬ s.toList = [115, 101, 116] := fun h => h1 (bytes_ext (by rw [← Lib.toList_data, h]))
        have d2 : ¬ s.toList = [102, 108, 97, 110, 107] := fun h => h2 (bytes_ext (by rw [← Lib.toList_data, h]))
        go_enter Tryd.func31, Tryd.ntmps31
        go_wp2_with fail
        refine N.mono ?_
        rintro e w1 ⟨rfl, hb1⟩
        go_wp2
        go_ret
        exact ⟨ret_bool (by simp [d1, d2]), hb1⟩
end Go.Proofs.YtceebimgfajbcaaDoor

namespace Go.Proofs.YtceebimgfajbcaaDoor
open Go.RowKit

def namesB (l : List ByteArray) : Bool := decide (l.Nodup ∧ ∀ x ∈ l, capB x = true)
theorem take_snoc {α : Type} {l : List α} {k : Nat} {x : α} (h : l[k]? = some x) : l.take (k + 1) = l.take k ++ [x] := by
  rw [List.take_add_one, h]
  rfl
theorem names_more {l : List ByteArray} {k : Nat} {x : ByteArray} (h : l[k]? = some x) (h1 : (l.take k).Nodup ∧ ∀ y ∈ l.take k, capB y = true) (h2 : capB x = true) (h3 : x ∉ l.take k) : (l.take (k + 1)).Nodup ∧ ∀ y ∈ l.take (k + 1), capB y = true := by
  rw [take_snoc h]
  refine ⟨List.nodup_append.2 ⟨h1.1, by simp, fun a ha b hb => ?_⟩, fun y hy => ?_⟩
  · simp at hb
    subst hb
    intro e
    subst e
    exact h3 ha
  · rcases List.mem_append.1 hy with hy | hy
    · exact h1.2 y hy
    · simp at hy
      rw [hy]
      exact h2
theorem not_nodup {l : List ByteArray} {j k : Nat} {x : ByteArray} (hj : l[j]? = some x) (hk : l[k]? = some x) (h : j < k) : ¬ l.Nodup := by
  intro hn
  obtain ⟨h1, e1⟩ := List.getElem?_eq_some_iff.1 hj
  obtain ⟨h2, e2⟩ := List.getElem?_eq_some_iff.1 hk
  have := (List.getElem_inj (h₀ := h1) (h₁ := h2) hn).1 (e1.trans e2.symm)
  omega

set_option maxRecDepth 1000000 in
set_option maxHeartbeats 4000000 in
theorem names_any (v : Value) (l : List ByteArray) (w : World) (h : rowAt w v 1 sC l) (hl : l.length ≤ 4294967296) (hs : ∀ x ∈ l, x.size ≤ 4294967296) (hT : Lib.Utf8Tabs 0 1 w) :
    Calls Tryd.prog 41 #[v] w fun e w' => e = .returned (.bool (namesB l)) ∧ Below w.heap.size w w' := by
  have o0 := Ok.start hT
  clear hT
  obtain ⟨oa, cap, rfl, h2⟩ := h
  have H2 : Hid (∀ j y, l[j]? = some y → ∃ g off, oa = some ⟨g, off, none⟩ ∧ ∀ i u, (sC y)[i]? = some u → w.cell? ⟨g, off + j * 1 + i, none⟩ = some u) := h2
  have HS : Hid (∀ x ∈ l, x.size ≤ 4294967296) := hs
  clear h2 hs
  generalize hn : l.length = n at *
  have HN : Hid (l.length = n) := hn
  clear hn
  go_enter Tryd.func41, Tryd.ntmps41
  go_wp2
  go_loopg [3] n (fun gk i wr => ∃ k : Nat, gk = n - k ∧ k ≤ n ∧ i = .int .i64 k ∧ ((l.take k).Nodup ∧ ∀ y ∈ l.take k, capB y = true) ∧ Ok w wr)
  case atStart => exact ⟨0, rfl, by omega, rfl, by simp, o0⟩
  case round =>
    clear o0
    obtain ⟨k, rfl, hk, rfl, hc, o1⟩ := hrel
    have HC : Hid ((l.take k).Nodup ∧ ∀ y ∈ l.take k, capB y = true) := hc
    clear hc
    by_cases hlt : k < n
    · obtain ⟨y, hy⟩ : ∃ y, l[k]? = some y := ⟨l[k]'(by rw [HN.out]; exact hlt), List.getElem?_eq_getElem _⟩
      obtain ⟨g, off, rfl, hcell⟩ := H2.out k y hy
      have c0 := hcell 0 _ rfl
      simp only [Nat.mul_one, Nat.add_zero] at c0
      have c1 := (o1.1.cell (World.block_lt_of_cell? _ _ c0)).trans c0
      have hki : (k : Int) < (n : Int) := by omega
      have N := refCap_any y wr (HS.out y (List.mem_of_getElem? hy)) o1.2
      have HY : Hid (l[k]? = some y) := hy
      clear hcell c0 hy
      cases hcap : capB y
      · rw [hcap] at N
        have HF : Hid (namesB l = false) := by
          refine decide_eq_false fun hh => ?_
          have := hh.2 y (List.mem_of_getElem? HY.out)
          rw [hcap] at this
          exact absurd this (by simp)
        go_wp2_with (go_at_call 31; refine N.mono ?_; rintro e w1 ⟨rfl, hb1⟩)
        go_ret
        exact ⟨ret_bool HF.out.symm, (o1.step hb1).1⟩
      · rw [hcap] at N
        go_wp2_with (go_at_call 31; refine N.mono ?_; rintro e w1 ⟨rfl, hb1⟩)
        have o2 := o1.step hb1
        have c2 := (hb1.cell (World.block_lt_of_cell? _ _ c1)).trans c1
        clear N
        go_loopg [4] k (fun gk i wr' => ∃ j m : Nat, gk = k - j ∧ j ≤ k ∧ i = .int .i64 j ∧ y ∉ l.take j ∧ wr' = w1.drewN m)
        case atStart => exact ⟨0, 0, rfl, by omega, rfl, by simp, rfl⟩
        case round =>
          obtain ⟨j, m, rfl, hj, rfl, hd, rfl⟩ := hrel
          have HD : Hid (y ∉ l.take j) := hd
          clear hd
          by_cases hlj : j < k
          · obtain ⟨x, hx⟩ : ∃ x, l[j]? = some x := ⟨l[j]'(by rw [HN.out]; omega), List.getElem?_eq_getElem _⟩
            obtain ⟨g', off', hg, hcell⟩ := H2.out j x hx
            injection hg with hg
            injection hg with hg ho _
            subst hg ho
            have d0 := hcell 0 _ rfl
            simp only [Nat.mul_one, Nat.add_zero] at d0
            have d2 := ((o2.1).cell (World.block_lt_of_cell? _ _ d0)).trans d0
            have hji : (j : Int) < (k : Int) := by omega
            have hjn : j < n := by omega
            have HX : Hid (l[j]? = some x) := hx
            clear hcell d0 hx
            by_cases hxy : x = y
            · have HF : Hid (namesB l = false) := decide_eq_false fun hh => not_nodup HX.out (by rw [HY.out, hxy]) hlj hh.1
              have hb : (x.toList == y.toList) = true := by rw [toList_eq, decide_eq_true hxy]
              clear hxy
              go_wp2_with fail
              go_quiet (fail)
              go_wp2
              go_ret
              exact ⟨ret_bool HF.out.symm, _root_.Go.below_drewN (_root_.Go.below_drewN o2.1 _) _⟩
            · have hb : (x.toList == y.toList) = false := by rw [toList_eq, decide_eq_false hxy]
              have HXY : Hid (¬ x = y) := hxy
              clear hxy
              go_wp2_with fail
              go_quiet (fail)
              go_wp2
              go_roundg (k - (j + 1))
              case rel => exact ⟨j + 1, _, rfl, by omega, by go_num, by rw [take_snoc HX.out]; intro hm; rcases List.mem_append.1 hm with hm | hm; exact HD.out hm; simp at hm; exact HXY.out hm.symm, rfl⟩
              case measure => omega
          · have hjk : j = k := by omega
            subst hjk
            have o3 := o2.drewN m
            clear o1 o2 hb1 c1 c2 hlj
            go_wp2
            go_roundg (n - (j + 1))
            case rel => exact ⟨j + 1, rfl, by omega, by go_num, names_more HY.out HC.out hcap HD.out, o3⟩
            case measure => omega
    · have HF : Hid (namesB l = true) := by
        have := HC.out
        rw [List.take_of_length_le (by rw [HN.out]; omega)] at this
        exact decide_eq_true this
      go_wp2
      go_ret
      exact ⟨ret_bool HF.out.symm, o1.1⟩
end Go.Proofs.YtceebimgfajbcaaDoor
