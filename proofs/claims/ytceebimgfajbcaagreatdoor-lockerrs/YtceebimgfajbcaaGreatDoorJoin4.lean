/-
  Texts of this proof, joined: TbSized, TbPts, LyMix.
-/
import Derived.Test.YtceebimgfajbcaaGreatDoorJoin1
import Derived.Test.YtceebimgfajbcaaGreatDoorJoin3
import Derived.BigQuiet
namespace Go.Proofs.YtceebimgfajbcaaGreatDoor
open Go.RowKit

set_option maxRecDepth 1000000 in
set_option maxHeartbeats 4000000 in
theorem isSized_any (v : Nat → Value) (l : Lay) (rs : List RtV) (w : World) (h : LayRd w v l rs) :
    Calls Tryz.prog 51 #[.agg #[v 0, v 1, v 2, v 3]] w fun e w' => e = .returned (.bool (boundsB l)) ∧ Below w.heap.size w w' := by
  have hlr : l.routes.length = rs.length := by rw [← h.m, List.length_map]
  obtain ⟨o0, c0, e0, _⟩ := h.s
  obtain ⟨o1, c1, e1, _⟩ := h.p
  obtain ⟨o2, c2, e2, _⟩ := h.g
  obtain ⟨o3, c3, e3, _⟩ := h.r
  have S := BoxAt.start w v
  have hcc := S.cells
  have hbl := S.1
  rw [e0, e1, e2, e3] at hcc hbl ⊢
  have HB : Hid (boundsB l = (decide ((1 : Int) ≤ (l.sections.length : Int) ∧ (l.sections.length : Int) ≤ 10) && (decide ((1 : Int) ≤ (l.signals.length : Int) ∧ (l.signals.length : Int) ≤ 6) && (decide ((0 : Int) ≤ (l.points.length : Int) ∧ (l.points.length : Int) ≤ 5) && decide ((0 : Int) ≤ (rs.length : Int) ∧ (rs.length : Int) ≤ 6))))) := by
    show _ = _
    rw [boundsB, hlr, Bool.eq_iff_iff]
    simp
    omega
  clear h e0 e1 e2 e3 S hlr
  generalize l.sections.length = n0 at *
  generalize l.points.length = n1 at *
  generalize l.signals.length = n2 at *
  generalize rs.length = n3 at *
  have C0 := fun W => isCount_any n0 1 10 W
  have C1 := fun W => isCount_any n2 1 6 W
  have C2 := fun W => isCount_any n1 0 5 W
  have C3 := fun W => isCount_any n3 0 6 W
  generalize decide ((1 : Int) ≤ (n0 : Int) ∧ (n0 : Int) ≤ 10) = b0 at *
  generalize decide ((1 : Int) ≤ (n2 : Int) ∧ (n2 : Int) ≤ 6) = b1 at *
  generalize decide ((0 : Int) ≤ (n1 : Int) ∧ (n1 : Int) ≤ 5) = b2 at *
  generalize decide ((0 : Int) ≤ (n3 : Int) ∧ (n3 : Int) ≤ 6) = b3 at *
  generalize boundsB l = B at *
  have HBB : Hid (B = (b0 && (b1 && (b2 && b3)))) := HB
  clear HB
  have D0 : Hid (∀ W, Calls Tryz.prog 72 #[.int .i64 n0, .int .i64 1, .int .i64 10] W fun e w' => e = .returned (.bool b0) ∧ w' = W) := C0
  have D1 : Hid (∀ W, Calls Tryz.prog 72 #[.int .i64 n2, .int .i64 1, .int .i64 6] W fun e w' => e = .returned (.bool b1) ∧ w' = W) := C1
  have D2 : Hid (∀ W, Calls Tryz.prog 72 #[.int .i64 n1, .int .i64 0, .int .i64 5] W fun e w' => e = .returned (.bool b2) ∧ w' = W) := C2
  have D3 : Hid (∀ W, Calls Tryz.prog 72 #[.int .i64 n3, .int .i64 0, .int .i64 6] W fun e w' => e = .returned (.bool b3) ∧ w' = W) := C3
  clear C0 C1 C2 C3
  obtain ⟨q0, q1, q2, q3⟩ := hcc
  go_enter Tryz.func51, Tryz.ntmps51
  go_wp2_with fail
  refine (D0.out _).mono ?_
  rintro e w' ⟨rfl, rfl⟩
  cases b0
  · go_wp2
    go_ret
    exact ⟨ret_bool (by rw [HBB.out]; rfl), hbl⟩
  go_wp2_with fail
  refine (D1.out _).mono ?_
  rintro e w' ⟨rfl, rfl⟩
  cases b1
  · go_wp2
    go_ret
    exact ⟨ret_bool (by rw [HBB.out]; rfl), hbl⟩
  go_wp2_with fail
  refine (D2.out _).mono ?_
  rintro e w' ⟨rfl, rfl⟩
  cases b2
  · go_wp2
    go_ret
    exact ⟨ret_bool (by rw [HBB.out]; rfl), hbl⟩
  go_wp2_with fail
  refine (D3.out _).mono ?_
  rintro e w' ⟨rfl, rfl⟩
  go_wp2
  go_ret
  exact ⟨ret_bool (by rw [HBB.out]; rfl), hbl⟩

set_option maxRecDepth 1000000 in
set_option maxHeartbeats 4000000 in
theorem pointsLie_any (v : Nat → Value) (l : Lay) (rs : List RtV) (w : World) (h : LayRd w v l rs) (hl : l.points.length ≤ 4294967296) :
    Calls Tryz.prog 53 #[.agg #[v 0, v 1, v 2, v 3]] w fun e w' => e = .returned (.bool (secsB l)) ∧ Below w.heap.size w w' := by
  obtain ⟨o0, c0, e0, _⟩ := h.s
  obtain ⟨o1, c1, e1, r1⟩ := h.p
  obtain ⟨o2, c2, e2, _⟩ := h.g
  obtain ⟨o3, c3, e3, _⟩ := h.r
  have S := BoxAt.start w v
  have R1 : Hid (∀ j x, l.points[j]? = some x → ∃ g off, o1 = some ⟨g, off, none⟩ ∧ ∀ i u, (pC x)[i]? = some u → w.cell? ⟨g, off + j * 2 + i, none⟩ = some u) := r1
  have HV : Hid (v 0 = .slice o0 l.sections.length c0 ∧ v 1 = .slice o1 l.points.length c1 ∧ v 2 = .slice o2 l.signals.length c2 ∧ v 3 = .slice o3 rs.length c3) := ⟨e0, e1, e2, e3⟩
  have hcc := S.cells
  rw [e0, e1, e2, e3] at S hcc ⊢
  clear h r1 e0 e1 e2 e3
  generalize hs1 : l.points.length = n1 at *
  generalize hs0 : l.sections.length = n0 at *
  generalize l.signals.length = n2 at *
  generalize rs.length = n3 at *
  have HS1 : Hid (l.points.length = n1) := hs1
  have HS0 : Hid (l.sections.length = n0) := hs0
  clear hs0 hs1
  obtain ⟨q0, q1, q2, q3⟩ := hcc
  go_enter Tryz.func53, Tryz.ntmps53
  go_wp2
  clear q0 q1 q2 q3
  go_loopg [4, 8] n1 (fun gk a i wr => ∃ k : Nat, gk = n1 - k ∧ k ≤ n1 ∧ i = .int .i64 k ∧ (∀ x ∈ l.points.take k, 0 ≤ x.2 ∧ x.2 < l.sections.length) ∧ BoxAt w v wr)
  case atStart => exact ⟨0, rfl, by omega, rfl, by simp, S⟩
  case round =>
    clear S
    obtain ⟨k, rfl, hk, rfl, hc, hbx⟩ := hrel
    have HC : Hid (∀ x ∈ l.points.take k, 0 ≤ x.2 ∧ x.2 < l.sections.length) := hc
    have HBX : Hid (BoxAt w v wr) := hbx
    have hcc := hbx.cells
    have hbl := hbx.1
    have hsz := hbx.lt
    rw [HV.out.1, HV.out.2.1, HV.out.2.2.1, HV.out.2.2.2] at hcc
    obtain ⟨q0, q1, q2, q3⟩ := hcc
    clear hc hbx
    by_cases hlt : k < n1
    · obtain ⟨⟨nm, sc⟩, hx⟩ : ∃ x, l.points[k]? = some x := ⟨l.points[k]'(by rw [HS1.out]; exact hlt), List.getElem?_eq_getElem _⟩
      obtain ⟨g, off, rfl, hcell⟩ := R1.out k _ hx
      have a0 := hcell 0 _ rfl
      have a1 := hcell 1 _ rfl
      rw [Nat.add_zero] at a0
      have d0 := (hbl.cell (World.block_lt_of_cell? _ _ a0)).trans a0
      have d1 := (hbl.cell (World.block_lt_of_cell? _ _ a1)).trans a1
      have hki : (k : Int) < (n1 : Int) := by omega
      have HX : Hid (l.points[k]? = some (nm, sc)) := hx
      have C := fun W => isPlace_any sc n0 W
      have z0 := fun o => (Below.cell (Below.alloc (Below.refl wr.heap.size wr) (Nat.le_refl _) o) (World.block_lt_of_cell? _ _ q0)).trans q0
      clear hcell a0 a1 hx
      by_cases hp : 0 ≤ sc ∧ sc < (n0 : Int)
      · rw [decide_eq_true hp] at C
        have HP : Hid (0 ≤ sc ∧ sc < (n0 : Int)) := hp
        clear hp
        go_wp2_with (go_at_call 78; refine (C _).mono ?_; rintro e w' ⟨rfl, rfl⟩)
        go_roundg (n1 - (k + 1))
        case rel => exact ⟨k + 1, rfl, by omega, by go_num, take_more (P := fun x : ByteArray × Int => 0 ≤ x.2 ∧ x.2 < l.sections.length) HX.out HC.out (by rw [HS0.out]; exact HP.out), HBX.out.step (by repeat' (with_reducible first | exact Below.refl _ _ | apply Below.setCell | apply Below.alloc | exact Nat.le_refl _))⟩
        case measure => omega
      · rw [decide_eq_false hp] at C
        have HF : Hid (secsB l = false) := decide_eq_false fun hh => hp (by have := hh _ (List.mem_of_getElem? HX.out); rw [HS0.out] at this; exact this)
        clear hp
        go_wp2_with (go_at_call 78; refine (C _).mono ?_; rintro e w' ⟨rfl, rfl⟩)
        go_ret
        exact ⟨ret_bool HF.out.symm, (HBX.out.step (by repeat' (with_reducible first | exact Below.refl _ _ | apply Below.setCell | apply Below.alloc | exact Nat.le_refl _))).1⟩
    · have HF : Hid (secsB l = true) := by
        have := HC.out
        rw [List.take_of_length_le (by rw [HS1.out]; omega)] at this
        exact decide_eq_true this
      go_wp2
      go_ret
      exact ⟨ret_bool HF.out.symm, hbl⟩
end Go.Proofs.YtceebimgfajbcaaGreatDoor

namespace Go.Proofs.YtceebimgfajbcaaGreatDoor
open Go.RowKit

theorem infoI : (Tryz.prog.info? 3).map (fun i => (i.zero, i.size, i.bytes)) = some (some (.int .i64 0), 1, 8) := by kernel_rfl
theorem one_int (a : Int) : ∀ u ∈ [Value.int .i64 a], u.oneCell' = true := by
  intro u hu
  simp at hu
  subst hu
  rfl

/-- The points that lie in sections of a path. -/
def ptsF (path : List Int) : List (ByteArray × Int) → Nat → List Int
  | [], _ => []
  | p :: ps, k => if inB path p.2 = true then (k : Int) :: ptsF path ps (k + 1) else ptsF path ps (k + 1)
theorem ptsF_len (path : List Int) : ∀ (ps : List (ByteArray × Int)) (k : Nat), (ptsF path ps k).length = countIn path ps
  | [], _ => rfl
  | p :: ps, k => by
    have ih := ptsF_len path ps (k + 1)
    rw [ptsF, countIn, List.filter_cons]
    rw [countIn] at ih
    split
    · rw [List.length_cons, List.length_cons, ih]
    · exact ih
theorem ptsF_le (path : List Int) (ps : List (ByteArray × Int)) (k : Nat) : (ptsF path ps k).length ≤ ps.length := by
  rw [ptsF_len]
  exact List.length_filter_le _ _
theorem ptsF_mem (path : List Int) (x : Int) : ∀ (ps : List (ByteArray × Int)) (k : Nat), x ∈ ptsF path ps k ↔ ∃ (j : Nat) (p : ByteArray × Int), ps[j]? = some p ∧ inB path p.2 = true ∧ x = ((k + j : Nat) : Int)
  | [], k => by simp [ptsF]
  | p :: ps, k => by
    have ih := ptsF_mem path x ps (k + 1)
    rw [ptsF]
    constructor
    · intro h
      by_cases hp : inB path p.2 = true
      · rw [if_pos hp, List.mem_cons] at h
        rcases h with h | h
        · exact ⟨0, p, rfl, hp, h⟩
        · obtain ⟨j, q, h1, h2, h3⟩ := ih.1 h
          exact ⟨j + 1, q, by simpa using h1, h2, by rw [h3]; congr 1; omega⟩
      · rw [if_neg hp] at h
        obtain ⟨j, q, h1, h2, h3⟩ := ih.1 h
        exact ⟨j + 1, q, by simpa using h1, h2, by rw [h3]; congr 1; omega⟩
    · rintro ⟨j, q, h1, h2, h3⟩
      cases j with
      | zero =>
        simp at h1
        subst h1
        rw [if_pos h2, List.mem_cons]
        exact .inl h3
      | succ j =>
        have hm := ih.2 ⟨j, q, by simpa using h1, h2, by rw [h3]; congr 1; omega⟩
        by_cases hp : inB path p.2 = true
        · rw [if_pos hp, List.mem_cons]
          exact .inr hm
        · rw [if_neg hp]
          exact hm
theorem ptsF_up (path : List Int) : ∀ (ps : List (ByteArray × Int)) (k : Nat), (ptsF path ps k).Pairwise (· < ·)
  | [], _ => List.Pairwise.nil
  | p :: ps, k => by
    have ih := ptsF_up path ps (k + 1)
    rw [ptsF]
    split
    · refine List.Pairwise.cons (fun x hx => ?_) ih
      obtain ⟨j, q, _, _, h3⟩ := (ptsF_mem path x ps (k + 1)).1 hx
      omega
    · exact ih
theorem up_eq : ∀ (ys xs : List Int), ys.Pairwise (· < ·) → xs.Pairwise (· < ·) → (∀ x ∈ xs, x ∈ ys) → ys.length ≤ xs.length → xs = ys
  | [], xs, _, _, h, _ => by
    cases xs with
    | nil => rfl
    | cons x xs => exact absurd (h x (by simp)) (by simp)
  | y :: ys, [], _, _, _, hl => by simp at hl
  | y :: ys, x :: xs, hy, hx, h, hl => by
    have hy1 := (List.pairwise_cons.1 hy).1
    have hx1 := (List.pairwise_cons.1 hx).1
    have hxy : y ≤ x := by
      rcases List.mem_cons.1 (h x (by simp)) with e | e
      · omega
      · have := hy1 x e
        omega
    have e := up_eq ys xs (List.pairwise_cons.1 hy).2 (List.pairwise_cons.1 hx).2 (fun z hz => by
      rcases List.mem_cons.1 (h z (by simp [hz])) with e | e
      · have := hx1 z hz
        omega
      · exact e) (by simp at hl; omega)
    subst e
    rcases List.mem_cons.1 (h x (by simp)) with e | e
    · rw [e]
    · have := hx1 x e
      omega
theorem needsF_iff (l : Lay) (path : List Int) : ∀ (ns : List (Int × Bool)) (pr : Option Int), needsF l path true pr ns = true ↔ (∀ x ∈ ns, (0 ≤ x.1 ∧ x.1 < l.points.length) ∧ inB path (secAt l x.1) = true) ∧ (ns.map (·.1)).Pairwise (· < ·) ∧ ∀ q, pr = some q → ∀ x ∈ ns, q < x.1
  | [], pr => by simp [needsF]
  | y :: ns, pr => by
    have ih := needsF_iff l path ns (some y.1)
    rw [needsF, Bool.and_eq_true, ih, needOk, Bool.and_eq_true, Bool.and_eq_true, decide_eq_true_iff, List.map_cons, List.pairwise_cons]
    constructor
    · rintro ⟨⟨h1, h2, h3⟩, h4, h5, h6⟩
      refine ⟨fun x hx => ?_, ⟨fun z hz => ?_, h5⟩, fun q hq x hx => ?_⟩
      · rcases List.mem_cons.1 hx with rfl | hx
        · exact ⟨h1, by simpa using h3⟩
        · exact h4 x hx
      · obtain ⟨x, hx, rfl⟩ := List.mem_map.1 hz
        exact h6 _ rfl x hx
      · subst hq
        have hq1 : q < y.1 := of_decide_eq_true h2
        rcases List.mem_cons.1 hx with rfl | hx
        · exact hq1
        · have := h6 _ rfl x hx
          omega
    · rintro ⟨h1, ⟨h2, h3⟩, h4⟩
      refine ⟨⟨(h1 y (by simp)).1, ?_, by simpa using (h1 y (by simp)).2⟩, fun x hx => h1 x (by simp [hx]), h3, fun q hq x hx => ?_⟩
      · cases pr with
        | none => rfl
        | some q => exact decide_eq_true (h4 q rfl y (by simp))
      · injection hq with hq
        subst hq
        exact h2 _ (List.mem_map.2 ⟨x, hx, rfl⟩)
def eqF (ns : List (Int × Bool)) (ps : List Int) : Bool := decide (ns.map (·.1) = ps)
theorem eqF_rest (l : Lay) (r : Rt) : eqF r.points (ptsF r.path l.points 0) = (decide (r.points.length = countIn r.path l.points) && needsF l r.path true none r.points) := by
  have hmem : ∀ x : Int, x ∈ ptsF r.path l.points 0 ↔ ((0 ≤ x ∧ x < l.points.length) ∧ inB r.path (secAt l x) = true) := fun x => by
    rw [ptsF_mem]
    constructor
    · rintro ⟨j, p, h1, h2, h3⟩
      have hj := (List.getElem?_eq_some_iff.1 h1).1
      have hx : x = (j : Int) := by rw [h3]; congr 1; omega
      subst hx
      refine ⟨by omega, ?_⟩
      rw [secAt, Int.toNat_natCast, h1]
      exact h2
    · rintro ⟨⟨h1, h2⟩, h3⟩
      obtain ⟨j, rfl⟩ : ∃ j : Nat, x = j := ⟨x.toNat, by omega⟩
      obtain ⟨p, hp⟩ : ∃ p, l.points[j]? = some p := ⟨l.points[j]'(by omega), List.getElem?_eq_getElem _⟩
      rw [secAt, Int.toNat_natCast, hp] at h3
      exact ⟨j, p, hp, h3, by congr 1; omega⟩
  rw [eqF, Bool.eq_iff_iff, Bool.and_eq_true, decide_eq_true_iff, decide_eq_true_iff, needsF_iff]
  constructor
  · intro h
    refine ⟨by rw [← ptsF_len r.path l.points 0, ← h, List.length_map], fun x hx => ?_, by rw [h]; exact ptsF_up _ _ _, by simp⟩
    exact (hmem x.1).1 (by rw [← h]; exact List.mem_map.2 ⟨x, hx, rfl⟩)
  · rintro ⟨h1, h2, h3, _⟩
    refine up_eq _ _ (ptsF_up _ _ _) h3 (fun x hx => ?_) (by rw [ptsF_len, List.length_map]; omega)
    obtain ⟨y, hy, rfl⟩ := List.mem_map.1 hx
    exact (hmem y.1).2 (h2 y hy)

set_option maxRecDepth 1000000 in
set_option maxHeartbeats 4000000 in
theorem pointsIn_any (v : Nat → Value) (l : Lay) (rs : List RtV) (p : Value) (path : List Int) (w : World) (h : LayRd w v l rs) (hp : rowAt w p 1 iC path)
    (hq : path.length ≤ 4294967296) (hl : l.points.length ≤ 4294967296) :
    Calls Tryz.prog 95 #[.agg #[v 0, v 1, v 2, v 3], p] w fun e w' => ∃ u, e = .returned u ∧ rowAt w' u 1 iC (ptsF path l.points 0) ∧ Below w.heap.size w w' := by
  obtain ⟨i0, hii, hz0, hz1, hz2⟩ := info_parts infoI
  obtain ⟨o0, c0, e0, _⟩ := h.s
  obtain ⟨o1, c1, e1, r1⟩ := h.p
  obtain ⟨o2, c2, e2, _⟩ := h.g
  obtain ⟨o3, c3, e3, _⟩ := h.r
  obtain ⟨op, cp, rfl, rp⟩ := hp
  have HP : Hid (rowAt w (.slice op path.length cp) 1 iC path) := ⟨op, cp, rfl, rp⟩
  have S := BoxAt.start w v
  have R1 : Hid (∀ j x, l.points[j]? = some x → ∃ g off, o1 = some ⟨g, off, none⟩ ∧ ∀ i u, (pC x)[i]? = some u → w.cell? ⟨g, off + j * 2 + i, none⟩ = some u) := r1
  have HV : Hid (v 0 = .slice o0 l.sections.length c0 ∧ v 1 = .slice o1 l.points.length c1 ∧ v 2 = .slice o2 l.signals.length c2 ∧ v 3 = .slice o3 rs.length c3) := ⟨e0, e1, e2, e3⟩
  have hcc := S.cells
  rw [e0, e1, e2, e3] at S hcc ⊢
  clear h r1 rp e0 e1 e2 e3
  generalize hs1 : l.points.length = n1 at *
  generalize l.sections.length = n0 at *
  generalize l.signals.length = n2 at *
  generalize rs.length = n3 at *
  generalize hsp : path.length = np at *
  have HS1 : Hid (l.points.length = n1) := hs1
  have HSP : Hid (path.length = np) := hsp
  clear hs1 hsp
  obtain ⟨q0, q1, q2, q3⟩ := hcc
  go_enter Tryz.func95, Tryz.ntmps95
  go_wp2
  clear q0 q1 q2 q3
  go_loopg [5, 6, 7, 11] n1 (fun gk vp a b i wr => ∃ (k : Nat) (pre : List Int), gk = n1 - k ∧ k ≤ n1 ∧ i = .int .i64 k ∧ pre.length ≤ k ∧ pre ++ ptsF path (l.points.drop k) k = ptsF path l.points 0 ∧ wr.ownsRow (w.heap.size + 1) 3 1 vp pre.length (pre.flatMap iC) ∧ BoxAt w v wr)
  case atStart => exact ⟨0, [], rfl, by omega, rfl, by simp, by simp, World.ownsRow_nil _ _ _ _, S⟩
  case round =>
    clear S
    obtain ⟨k, pre, rfl, hk, rfl, hpk, hc, hown, hbx⟩ := hrel
    have HC : Hid (pre ++ ptsF path (l.points.drop k) k = ptsF path l.points 0) := hc
    have HBX : Hid (BoxAt w v wr) := hbx
    have HOWN : Hid (wr.ownsRow (w.heap.size + 1) 3 1 u5 pre.length (pre.flatMap iC)) := hown
    have hbl := hbx.1
    have hsz := hbx.lt
    clear hc hbx hown
    by_cases hlt : k < n1
    · obtain ⟨⟨nm, sc⟩, hx⟩ : ∃ x, l.points[k]? = some x := ⟨l.points[k]'(by rw [HS1.out]; exact hlt), List.getElem?_eq_getElem _⟩
      obtain ⟨g, off, rfl, hcell⟩ := R1.out k _ hx
      have a0 := hcell 0 _ rfl
      have a1 := hcell 1 _ rfl
      rw [Nat.add_zero] at a0
      have d0 := (hbl.cell (World.block_lt_of_cell? _ _ a0)).trans a0
      have d1 := (hbl.cell (World.block_lt_of_cell? _ _ a1)).trans a1
      have hki : (k : Int) < (n1 : Int) := by omega
      have hdr := drop_at hx
      clear hcell a0 a1 hx
      rw [hdr, ptsF] at HC
      clear hdr
      have IN : Hid (∀ W, Below wr.heap.size wr W → Calls Tryz.prog 69 #[.slice op np cp, .int .i64 sc] W fun e w' => e = .returned (.bool (inB path sc)) ∧ Below wr.heap.size wr w') := fun W hW => by
        have := containsI_any _ path sc W (HP.out.below (hbl.trans (hW.mono hbl.size))) (by rw [HSP.out]; exact hq)
        refine this.mono ?_
        rintro e w' ⟨rfl, rfl⟩
        exact ⟨rfl, hW⟩
      cases hin : inB path sc
      · rw [hin] at IN
        rw [if_neg (by rw [hin]; simp)] at HC
        clear hin
        go_wp2_with (go_at_call 69; refine (IN.out _ (by repeat' (with_reducible first | exact Below.refl _ _ | apply Below.setCell | apply Below.alloc | exact Nat.le_refl _))).mono ?_; rintro e w1 ⟨rfl, hb1⟩)
        go_roundg (n1 - (k + 1))
        case rel => exact ⟨k + 1, pre, rfl, by omega, by go_num, by omega, HC.out, owns_below HOWN.out hb1, HBX.out.step hb1⟩
        case measure => omega
      · rw [hin] at IN
        rw [if_pos hin] at HC
        clear hin
        go_wp2_with fail
        refine (IN.out _ (by repeat' (with_reducible first | exact Below.refl _ _ | apply Below.setCell | apply Below.alloc | exact Nat.le_refl _))).mono ?_
        rintro e w1 ⟨rfl, hb1⟩
        have hown1 := owns_below HOWN.out hb1
        have HBX1 : Hid (BoxAt w v w1) := HBX.out.step hb1
        have hs1 := HBX1.out.1.size
        have HPR : Hid ((pre ++ [(k : Int)]).flatMap iC = pre.flatMap iC ++ [.int .i64 k]) := by
          show _ = _
          rw [List.flatMap_append]
          rfl
        have HCC : Hid ((pre ++ [(k : Int)]) ++ ptsF path (l.points.drop (k + 1)) (k + 1) = ptsF path l.points 0) := by
          show _ = _
          rw [List.append_assoc]
          exact HC.out
        have HPL : Hid ((pre ++ [(k : Int)]).length = pre.length + 1) := by
          show _ = _
          simp
        clear HC HOWN hb1 IN HBX
        generalize hcs : pre.flatMap iC = cells at *
        generalize hpl : pre.length = m at *
        clear hcs hpl
        go_wp2_with (at_builtin; refine wpList_append_own _ rfl _ _ 36 rfl (w.heap.size + 1) 3 i0 (.int .i64 0) 1 8 Tryz.underlying36 hii hz0 hz1 hz2 rfl (by decide) _ _ _ rfl (hown1.alloc _) ⟨w1.heap.size, 0, none⟩ 1 1 [.int .i64 k] rfl rfl (cell_one_new _ _ _) (one_int _) (by unfold maxLen; omega) (by omega) (by simp; omega) ?_)
        intro v' w3 hown3 hgrow _
        have HBX3 : Hid (BoxAt w v w3) := HBX1.out.append hown1 hgrow
        clear hown1 hgrow d0 d1
        go_wp2
        go_roundg (n1 - (k + 1))
        case rel => exact ⟨k + 1, pre ++ [(k : Int)], rfl, by omega, by go_num, by rw [HPL.out]; omega, HCC.out, by rw [HPR.out, HPL.out]; exact hown3, HBX3.out⟩
        case measure => omega
    · have HE : Hid (rowAt wr u5 1 iC (ptsF path l.points 0)) := by
        have h1 := HC.out
        rw [List.drop_of_length_le (by rw [HS1.out]; omega), ptsF, List.append_nil] at h1
        rw [← h1]
        exact rowAt_of_owns (fun _ => rfl) HOWN.out
      go_wp2
      go_ret
      exact ⟨_, rfl, HE.out, hbl⟩
end Go.Proofs.YtceebimgfajbcaaGreatDoor

namespace Go.Proofs.YtceebimgfajbcaaGreatDoor
open Go.RowKit

section
variable {P : Program} {ops : Array Oper} {md : Region.Mode} {C : World → Prop}

/-- Operations that never enter a function. -/
def quietOp : Op → Bool
  | .move _ | .assign _ | .pick _ _ _ | .nilCheck _ | .makeFunc _ _ _ | .load _ _ | .binOp _ _ _ _ _ | .unOp _ _ _ | .fieldAddr _ _ _ | .field _ _ _ | .indexAddr _ _ _ | .index _ _ _ | .extract _ _ | .slice _ _ _ _ _ | .build _ _ | .convert _ _ _ => true
  | .call c => match c.callee with
    | .builtin .len => true
    | _ => false
  | _ => false

theorem value_no (s : Sem Value) (w w' : World) (f : FuncId) (args : Array Value) : (do pure (Next.value (← s)) : Sem Next).run P w ≠ .ok (.enter f args) w' := by
  simp only [Sem.run_bind, Sem.run_pure]
  cases s.run P w <;> simp [Result.andThen]
theorem noEnter {o : Oper} (h : quietOp o.op = true) (r : Operand → Value) (w w' : World) (f : FuncId) (args : Array Value) : (execOp r o).run P w ≠ .ok (.enter f args) w' := by
  cases ho : o.op <;> rw [ho] at h <;> simp only [quietOp, Bool.false_eq_true] at h <;> simp only [execOp, ho]
  case move => simp only [Sem.run_pure]; exact fun e => by injection e with e1 e2; cases e1
  case assign => simp only [Sem.run_pure]; exact fun e => by injection e with e1 e2; cases e1
  case pick c a b =>
    simp only [Sem.run_bind, Sem.run_pure]
    cases (asBool (r c)).run P w <;> simp [Result.andThen]
  case nilCheck x =>
    split
    · intro e; simp [runtimePanic, goPanic, go_sem] at e
    · intro e; simp [runtimePanic, goPanic, go_sem] at e
    · intro e; simp [runtimePanic, goPanic, go_sem] at e
    · split
      · intro e; simp [runtimePanic, goPanic, go_sem] at e
      · intro e
        simp only [Sem.run_bind] at e
        generalize (program).run P w = r1 at e
        cases r1 with
        | halt _ _ => simp [Result.andThen] at e
        | ok p w1 =>
          simp only [Result.andThen] at e
          generalize (nilAhead _ _ _ _).run P w1 = r2 at e
          cases r2 with
          | halt _ _ => simp at e
          | ok b w2 =>
            simp only at e
            split at e
            · simp [unsupported, go_sem] at e
            · simp only [Sem.run_pure] at e
              injection e with e1 e2
              cases e1
      · simp only [Sem.run_pure]; exact fun e => by injection e with e1 e2; cases e1
    · simp only [Sem.run_pure]; exact fun e => by injection e with e1 e2; cases e1
  case call c =>
    cases hc : c.callee with
    | builtin b =>
      rw [hc] at h
      cases b <;> simp only [Bool.false_eq_true] at h
      simp only [resolve, hc, invoke, builtin, Sem.run_bind, Sem.run_pure, Result.andThen]
      cases (Builtin.len_ c.argTypes o.type (c.args.map r)).run P w <;> simp
    | invoke _ _ => rw [hc] at h; simp at h
    | value _ => rw [hc] at h; simp at h
  all_goals exact value_no _ _ _ _ _

/-- An operation that is carried out where the world stands. -/
def loudUpon (P : Program) (C : World → Prop) (K : Value → World → Prop) : Result Next → Prop
  | .ok (.value v) w' => C w' ∧ K v w'
  | .ok .skip w' => C w' ∧ K undef w'
  | .ok (.enter f args) w' => Calls P f args w' (fun e w'' => ∃ v, e = .returned v ∧ C w'' ∧ K v w'')
  | _ => False
theorem loudUpon_mono {K K' : Value → World → Prop} {r : Result Next} (h : ∀ v w, K v w → K' v w) (hh : loudUpon P C K r) : loudUpon P C K' r := by
  cases r with
  | ok n w' =>
    cases n <;> simp only [loudUpon] at hh ⊢
    case value v => exact ⟨hh.1, h _ _ hh.2⟩
    case skip => exact ⟨hh.1, h _ _ hh.2⟩
    case enter f args => exact hh.mono fun e w'' ⟨v, he, hc, hk⟩ => ⟨v, he, hc, h _ _ hk⟩
  | halt x w' => simp only [loudUpon] at hh

def mOp (P : Program) (ops : Array Oper) (C : World → Prop) (i : Nat) (K : Act → World → Prop) (a : Act) (w : World) : Prop :=
  match ops[i]? with
  | none => False
  | some o => if Region.wanted o (yielded ops a.tmps) then (if quietOp o.op then o.quiet P a C (fun a' => K a' w) else loudUpon P C (fun v w' => K (a.put o.dst v) w') ((execOp a.eval o).run P w)) else K (a.put o.dst undef) w

theorem mOp_mono {i : Nat} {a : Act} {w : World} {K K' : Act → World → Prop} (h : ∀ a w, K a w → K' a w) (hh : mOp P ops C i K a w) : mOp P ops C i K' a w := by
  unfold mOp at *
  split
  · rename_i ho; rw [ho] at hh; exact hh
  · rename_i o ho
    simp only [ho] at hh
    split
    · rename_i hw
      simp only [hw, if_true] at hh
      split
      · rename_i hq; simp only [hq, if_true] at hh; exact Oper.quiet_mono (fun a => h a w) hh
      · rename_i hq; simp only [hq] at hh; exact loudUpon_mono (fun _ _ => h _ _) hh
    · rename_i hw; simp only [hw] at hh; exact h _ _ hh

def wpAnyM (P : Program) (md : Region.Mode) (ops : Array Oper) (C : World → Prop) (Q : Act → World → Prop) : Nat → Array Bool → Act → World → Prop
  | 0, listed, a, w => Region.ready md ops listed = [] ∧ Q a w
  | fuel + 1, listed, a, w =>
    (Region.ready md ops listed = [] → Q a w) ∧
    ∀ i ∈ Region.ready md ops listed, mOp P ops C i (wpAnyM P md ops C Q fuel (listed.setIfInBounds i true)) a w

theorem wp_of_quietB {o : Oper} {a : Act} {K : Act → Prop} {K' : Act → World → Prop} {Q' : Exit → Act → World → Prop} {w : World} (hq : quietOp o.op = true) (hw : C w) (h : ∀ a, K a → K' a w) (hh : o.quiet P a C K) : o.wp P a w K' Q' := by
  obtain ⟨v, h1, h2⟩ := hh
  have h3 := h1 w hw
  have hn := noEnter (P := P) hq a.eval w
  unfold Oper.quietAt at h3
  unfold Oper.wp
  generalize (execOp a.eval o).run P w = r at *
  cases r with
  | ok n w' =>
    cases n <;> simp only [Oper.quietUpon] at h3 <;> simp only [Oper.upon]
    case value u =>
      obtain ⟨e1, e2⟩ := h3
      rw [e1, e2]
      exact h _ h2
    case skip =>
      obtain ⟨e1, e2⟩ := h3
      rw [e1, ← e2]
      exact h _ h2
    case enter f args => exact absurd rfl (hn w' f args)
  | halt x w' => simp only [Oper.quietUpon] at h3
theorem wp_of_loud {o : Oper} {a : Act} {K : Value → World → Prop} {K' : Act → World → Prop} {Q' : Exit → Act → World → Prop} {w : World} (h : ∀ v w', C w' → K v w' → K' (a.put o.dst v) w') (hh : loudUpon P C K ((execOp a.eval o).run P w)) : o.wp P a w K' Q' := by
  unfold Oper.wp
  generalize (execOp a.eval o).run P w = r at *
  cases r with
  | ok n w' =>
    cases n <;> simp only [loudUpon] at hh <;> simp only [Oper.upon]
    case value u => exact h _ _ hh.1 hh.2
    case skip => exact h _ _ hh.1 hh.2
    case enter f args => exact hh.mono fun e w'' ⟨v, he, hc, hk⟩ => by subst he; exact h _ _ hc hk
  | halt x w' => simp only [loudUpon] at hh
theorem wpOp_of_mOp {i : Nat} {a : Act} {K K' : Act → World → Prop} {Q' : Exit → Act → World → Prop} {w : World} (hC : C w) (h : ∀ a w', C w' → K a w' → K' a w') (hh : mOp P ops C i K a w) : wpOp P ops Q' i K' a w := by
  unfold mOp at hh
  unfold wpOp
  split
  · rename_i ho; simp only [ho] at hh
  · rename_i o ho
    simp only [ho] at hh
    split
    · rename_i hw
      simp only [hw, if_true] at hh
      split at hh
      · rename_i hq; exact .inl (wp_of_quietB hq hC (fun a' => h a' w hC) hh)
      · exact .inl (wp_of_loud (fun v w' hc hk => h _ w' hc hk) hh)
    · rename_i hw; simp only [hw] at hh; exact h _ _ hC hh
theorem wpAny_of_mix {Q : Act → World → Prop} {Q' : Exit → Act → World → Prop} (hQ : ∀ a w, C w → Q a w → Q' .normal a w) : ∀ (fuel : Nat) (listed : Array Bool) (a : Act) (w : World), C w →
    wpAnyM P md ops C Q fuel listed a w → wpAny P md ops Q' fuel listed a w
  | 0, _, _, _, hw, h => ⟨h.1, hQ _ _ hw h.2⟩
  | fuel + 1, _, _, _, hw, h => ⟨fun h0 => hQ _ _ hw (h.1 h0), fun i hi => wpOp_of_mOp hw (fun a' w' hw' => wpAny_of_mix hQ fuel _ a' w' hw') (h.2 i hi)⟩

/-- A reading operation, or one that is passed over. -/
def YieldsM (P : Program) (ops : Array Oper) (C : World → Prop) (o : Oper) (v : Value) (a : Act) : Prop :=
  (quietOp o.op = true ∧ Region.wanted o (yielded ops a.tmps) = true ∧ ∀ w, C w → o.quietAt P a C w v) ∨
  (Region.wanted o (yielded ops a.tmps) = false ∧ v = undef)
theorem YieldsM.mOp {i : Nat} {o : Oper} {v : Value} {a : Act} {w : World} (hi : ops[i]? = some o) (hy : YieldsM P ops C o v a) {K : Act → World → Prop} (h : K (a.put o.dst v) w) : mOp P ops C i K a w := by
  unfold Go.Proofs.YtceebimgfajbcaaGreatDoor.mOp
  simp only [hi]
  rcases hy with ⟨hq, hw, hv⟩ | ⟨hw, rfl⟩
  · simp only [hw, hq, if_true]; exact ⟨v, hv, h⟩
  · simp only [hw, Bool.false_eq_true, if_false]; exact h
theorem YieldsM.of_same {o : Oper} {v : Value} {a a' : Act} (hy : YieldsM P ops C o v a) (he : execOp a'.eval o = execOp a.eval o)
    (hw : Region.wanted o (yielded ops a'.tmps) = Region.wanted o (yielded ops a.tmps)) : YieldsM P ops C o v a' := by
  unfold YieldsM Oper.quietAt at *
  rw [he, hw]
  exact hy

theorem mOp_put {j : Nat} {oi oj : Oper} {v : Value} (hj : ops[j]? = some oj) (hap : oi.apart ops oj = true)
    (hsi : ∀ cs b, oi.op ≠ .select cs b) (hsj : ∀ cs b, oj.op ≠ .select cs b) {K : Act → World → Prop} {a : Act} {w : World}
    (hy : YieldsM P ops C oi v a) (h : mOp P ops C j K (a.put oi.dst v) w) :
    mOp P ops C j (fun a' w' => YieldsM P ops C oi v a' ∧ K (a'.put oi.dst v) w') a w := by
  obtain ⟨h1, h2, h3⟩ := Oper.apart_spec hap
  have keep : ∀ (a : Act), YieldsM P ops C oi v a → ∀ u, YieldsM P ops C oi v (a.put oj.dst u) := fun a hy u =>
    hy.of_same (execOp_put oi hsi a oj.dst u h3) (wanted_put oi a oj.dst u h3)
  unfold mOp at *
  simp only [hj] at *
  rw [wanted_put oj a oi.dst v h1] at h
  split
  · rename_i hw
    simp only [hw, if_true] at h
    split
    · rename_i hq
      simp only [hq, if_true] at h
      obtain ⟨u, hu, hn⟩ := h
      refine ⟨u, fun w hw' => ?_, keep a hy u, by rw [← Act.put_comm a v u h2]; exact hn⟩
      have := hu w hw'
      unfold Oper.quietAt at *
      rwa [execOp_put oj hsj a oi.dst v h1] at this
    · rename_i hq
      simp only [hq] at h
      rw [execOp_put oj hsj a oi.dst v h1] at h
      exact loudUpon_mono (fun u w' hk => ⟨keep a hy u, by rw [← Act.put_comm a v u h2]; exact hk⟩) h
  · rename_i hw
    simp only [hw] at h
    exact ⟨keep a hy _, by rw [← Act.put_comm a v undef h2]; exact h⟩

theorem wpAnyM_first {Q : Act → World → Prop} {i : Nat} {oi : Oper} {v : Value} (hi : ops[i]? = some oi) (hsel : ∀ (j : Nat) (o : Oper) cs b, ops[j]? = some o → o.op ≠ .select cs b) :
    ∀ (fuel : Nat) (listed : Array Bool) (a : Act) (w : World),
      (∀ j oj, ops[j]? = some oj → j ≠ i → listed.getD j true = false → (∀ e ∈ oj.after, Region.binds md e = true → e.on ≠ i) → oi.apart ops oj = true) →
      i ∈ Region.ready md ops listed → YieldsM P ops C oi v a →
      wpAnyM P md ops C Q fuel (listed.setIfInBounds i true) (a.put oi.dst v) w → wpAnyM P md ops C Q (fuel + 1) listed a w := by
  intro fuel
  induction fuel with
  | zero =>
    intro listed a w _ hr hy H
    refine ⟨fun h => (by rw [h] at hr; cases hr), fun j hj => ?_⟩
    by_cases hji : j = i
    · subst hji; exact hy.mOp hi H
    · have := ready_mono hj hji
      rw [H.1] at this
      cases this
  | succ fuel ih =>
    intro listed a w hfree hr hy H
    refine ⟨fun h => (by rw [h] at hr; cases hr), fun j hj => ?_⟩
    by_cases hji : j = i
    · subst hji; exact hy.mOp hi H
    · have h1 := H.2 j (ready_mono hj hji)
      obtain ⟨hjun, oj, hoj, hall⟩ := mem_ready.1 hj
      have hnot : ∀ e ∈ oj.after, Region.binds md e = true → e.on ≠ i := fun e he hb heq => by
        have h1 := hall e he hb
        have h0 := (mem_ready.1 hr).1
        rw [heq] at h1
        rcases Nat.lt_or_ge i listed.size with h' | h'
        · simp [h'] at h0 h1; rw [h0] at h1; cases h1
        · simp [Array.getElem?_eq_none h'] at h1
      have h2 := mOp_put hoj (hfree j oj hoj hji hjun hnot) (fun cs b => hsel i oi cs b hi) (fun cs b => hsel j oj cs b hoj) hy h1
      have hfree' : ∀ k ok, ops[k]? = some ok → k ≠ i → (listed.setIfInBounds j true).getD k true = false →
          (∀ e ∈ ok.after, Region.binds md e = true → e.on ≠ i) → oi.apart ops ok = true := fun k ok hk hki hun hno => by
        refine hfree k ok hk hki ?_ hno
        by_cases hjk : j = k
        · subst hjk; exact hjun
        · rw [getD_set_ne true hjk] at hun; exact hun
      refine mOp_mono (fun a' w' h3 => ih (listed.setIfInBounds j true) a' w' hfree' (ready_mono hr (Ne.symm hji)) h3.1 ?_) h2
      rw [Array.setIfInBounds_comm _ _ hji]
      exact h3.2

/-- The walk, in a given sequence. -/
def wpMix (P : Program) (ops : Array Oper) (C : World → Prop) (Q : Act → World → Prop) : List Nat → Act → World → Prop
  | [], a, w => Q a w
  | i :: rest, a, w => mOp P ops C i (wpMix P ops C Q rest) a w
/-- May it be walked so? -/
def mixB (md : Region.Mode) (ops : Array Oper) : List Nat → Array Bool → Bool
  | [], listed => (Region.ready md ops listed).isEmpty
  | i :: rest, listed =>
    (match ops[i]? with
     | none => false
     | some o => if quietOp o.op then (Region.ready md ops listed).contains i && Region.free md ops listed i else Region.ready md ops listed == [i]) && mixB md ops rest (listed.setIfInBounds i true)

theorem wpAnyM_seq {Q : Act → World → Prop} (hs : Region.noSelect ops = true) : ∀ (l : List Nat) (listed : Array Bool) (a : Act) (w : World), mixB md ops l listed = true → wpMix P ops C Q l a w → wpAnyM P md ops C Q l.length listed a w
  | [], _, _, _, hB, h => ⟨by simpa [mixB] using hB, h⟩
  | i :: l, listed, a, w, hB, h => by
    rw [mixB, Bool.and_eq_true] at hB
    obtain ⟨hB, hB'⟩ := hB
    have h' : mOp P ops C i (wpMix P ops C Q l) a w := h
    have ih := fun a w => wpAnyM_seq (Q := Q) hs l (listed.setIfInBounds i true) a w hB'
    cases ho : ops[i]? with
    | none => simp [ho] at hB
    | some o =>
      simp only [ho] at hB
      by_cases hq : quietOp o.op = true
      · simp only [hq, if_true, Bool.and_eq_true] at hB
        obtain ⟨hr, hf⟩ := hB
        have hy : ∃ v, YieldsM P ops C o v a ∧ wpMix P ops C Q l (a.put o.dst v) w := by
          unfold mOp at h'
          simp only [ho, hq, if_true] at h'
          by_cases hw : Region.wanted o (yielded ops a.tmps) = true
          · simp only [hw, if_true] at h'
            obtain ⟨v, h1, h2⟩ := h'
            exact ⟨v, .inl ⟨hq, hw, h1⟩, h2⟩
          · simp only [hw] at h'
            exact ⟨undef, .inr ⟨by simpa using hw, rfl⟩, h'⟩
        obtain ⟨v, hy, hK⟩ := hy
        exact wpAnyM_first ho (Region.noSelect_spec hs) l.length listed a w (Region.free_spec ho hf) (by simpa using hr) hy (ih _ _ hK)
      · simp only [hq, Bool.false_eq_true, if_false, beq_iff_eq] at hB
        refine ⟨fun h0 => (by rw [hB] at h0; cases h0), fun j hj => ?_⟩
        rw [hB, List.mem_singleton] at hj
        subst hj
        exact mOp_mono ih h'

theorem wp_region_mix (l : List Nat) {id : Nat} {Q : Exit → Act → World → Prop} {a : Act} {w : World} (hm : P.follows .mixedOrders = true) (hn : l.length = ops.size) (hs : Region.noSelect ops = true) (hB : mixB .any ops l (Array.replicate ops.size false) = true) (hC : C w.drew)
    (h : wpMix P ops C (fun a' w' => C w' → Q .normal a' w') l a w.drew) : (Code.region id ops true).wp P Q a w := by
  refine wp_region_any hm (wpAny_of_mix (C := C) (Q := fun a' w' => C w' → Q .normal a' w') (fun _ w' hw' h => h hw') _ _ _ _ hC ?_)
  rw [← hn]
  have := wpAnyM_seq (P := P) (C := C) (md := .any) hs l (Array.replicate ops.size false) a w.drew hB h
  rw [← hn] at this
  exact this

/-- The same walk over the operations themselves. -/
def oOp (P : Program) (ops : Array Oper) (C : World → Prop) (o : Oper) (K : Act → World → Prop) (a : Act) (w : World) : Prop :=
  if Region.wanted o (yielded ops a.tmps) then (if quietOp o.op then o.quiet P a C (fun a' => K a' w) else loudUpon P C (fun v w' => K (a.put o.dst v) w') ((execOp a.eval o).run P w)) else K (a.put o.dst undef) w
def wpMixL (P : Program) (ops : Array Oper) (C : World → Prop) (Q : Act → World → Prop) : List Oper → Act → World → Prop
  | [], a, w => Q a w
  | o :: rest, a, w => oOp P ops C o (wpMixL P ops C Q rest) a w
theorem mix_of_list {Q : Act → World → Prop} : ∀ (idx : List Nat) (listed : Array Bool) (a : Act) (w : World), mixB md ops idx listed = true → wpMixL P ops C Q (idx.filterMap (fun i => ops[i]?)) a w → wpMix P ops C Q idx a w
  | [], _, _, _, _, h => h
  | i :: idx, listed, a, w, hB, h => by
    rw [mixB, Bool.and_eq_true] at hB
    cases ho : ops[i]? with
    | none => simp [ho] at hB
    | some o =>
      rw [List.filterMap_cons, ho] at h
      have h1 : mOp P ops C i (wpMixL P ops C Q (idx.filterMap (fun i => ops[i]?))) a w := by
        unfold mOp
        simp only [ho]
        exact h
      exact mOp_mono (fun a' w' hh => mix_of_list idx (listed.setIfInBounds i true) a' w' hB.2 hh) h1

/-- The beginning, in the order of the text. -/
theorem wp_region_mix_lex {l : List Oper} {id : Nat} {Q : Exit → Act → World → Prop} {a : Act} {w : World} (hm : P.follows .mixedOrders = true) (hs : Region.noSelect l.toArray = true) (hB : mixB .any l.toArray (List.range l.length) (Array.replicate l.toArray.size false) = true)
    (hl : (List.range l.length).filterMap (fun i => l.toArray[i]?) = l) (hC : C w.drew)
    (h : wpMixL P l.toArray C (fun a' w' => C w' → Q .normal a' w') l a w.drew) : (Code.region id l.toArray true).wp P Q a w :=
  wp_region_mix (C := C) (List.range l.length) hm (by simp) hs hB hC (mix_of_list _ _ _ _ hB (by rw [hl]; exact h))
/-- The beginning, in a given sequence. -/
theorem wp_region_mix_seq {l l' : List Oper} (idx : List Nat) {id : Nat} {Q : Exit → Act → World → Prop} {a : Act} {w : World} (hm : P.follows .mixedOrders = true) (hn : idx.length = l.toArray.size) (hs : Region.noSelect l.toArray = true) (hB : mixB .any l.toArray idx (Array.replicate l.toArray.size false) = true)
    (hl : idx.filterMap (fun i => l.toArray[i]?) = l') (hC : C w.drew)
    (h : wpMixL P l.toArray C (fun a' w' => C w' → Q .normal a' w') l' a w.drew) : (Code.region id l.toArray true).wp P Q a w :=
  wp_region_mix (C := C) idx hm hn hs hB hC (mix_of_list _ _ _ _ hB (by rw [hl]; exact h))

theorem mix_end {Q : Act → World → Prop} {a : Act} {w : World} (h : Q a w) : wpMixL P ops C Q [] a w := h
theorem mix_read {Q : Act → World → Prop} {rest : List Oper} {o : Oper} {a : Act} {w : World} (hq : quietOp o.op = true) (h : wpQuiet P ops C (fun a' => wpMixL P ops C Q rest a' w) [o] a) : wpMixL P ops C Q (o :: rest) a w := by
  show oOp _ _ _ _ _ _ _
  unfold oOp
  unfold wpQuiet at h
  split
  · rename_i hw; rw [if_pos hw] at h; first | exact h | (rw [if_pos hq]; exact h)
  · rename_i hw; rw [if_neg hw] at h; exact h
theorem mix_pass {Q : Act → World → Prop} {rest : List Oper} {o : Oper} {a : Act} {w : World} (hw : Region.wanted o (yielded ops a.tmps) = false) (h : wpQuiet P ops C (fun a' => wpMixL P ops C Q rest a' w) [o] a) : wpMixL P ops C Q (o :: rest) a w := by
  show oOp _ _ _ _ _ _ _
  unfold oOp
  simp only [wpQuiet, hw, Bool.false_eq_true, if_false] at h
  simp only [hw, Bool.false_eq_true, if_false]
  exact h
theorem mix_call {Q : Act → World → Prop} {rest : List Oper} {o : Oper} {a : Act} {w : World} {f : FuncId} {args : Array Value} (hq : quietOp o.op = false) (hw : Region.wanted o (yielded ops a.tmps) = true)
    (hc : Calls P f args w (fun e w'' => ∃ v, e = .returned v ∧ C w'' ∧ wpMixL P ops C Q rest (a.put o.dst v) w'')) (hr : (execOp a.eval o).run P w = .ok (.enter f args) w) : wpMixL P ops C Q (o :: rest) a w := by
  show oOp _ _ _ _ _ _ _
  unfold oOp
  simp only [hw, if_true, hq, Bool.false_eq_true, if_false, hr, loudUpon]
  exact hc
theorem mix_does {Q : Act → World → Prop} {rest : List Oper} {o : Oper} {a : Act} {w w' : World} {v : Value} (hq : quietOp o.op = false) (hw : Region.wanted o (yielded ops a.tmps) = true)
    (hr : (execOp a.eval o).run P w = .ok (.value v) w') (hC : C w') (hc : wpMixL P ops C Q rest (a.put o.dst v) w') : wpMixL P ops C Q (o :: rest) a w := by
  show oOp _ _ _ _ _ _ _
  unfold oOp
  simp only [hw, if_true, hq, Bool.false_eq_true, if_false, hr, loudUpon]
  exact ⟨hC, hc⟩
theorem mix_skips {Q : Act → World → Prop} {rest : List Oper} {o : Oper} {a : Act} {w w' : World} (hq : quietOp o.op = false) (hw : Region.wanted o (yielded ops a.tmps) = true)
    (hr : (execOp a.eval o).run P w = .ok .skip w') (hC : C w') (hc : wpMixL P ops C Q rest (a.put o.dst undef) w') : wpMixL P ops C Q (o :: rest) a w := by
  show oOp _ _ _ _ _ _ _
  unfold oOp
  simp only [hw, if_true, hq, Bool.false_eq_true, if_false, hr, loudUpon]
  exact ⟨hC, hc⟩
end

section
variable {P : Program} {ops : Array Oper} {md : Region.Mode} {C C2 : World → Prop} {A : List Nat}

/-- The class of an operation: those of the first phase, those behind it. -/
def clsE (A : List Nat) (C C2 : World → Prop) (i : Nat) : World → Prop := if A.contains i then C else C2

theorem mOp_put2 {D : World → Prop} {j : Nat} {oi oj : Oper} {v : Value} (hj : ops[j]? = some oj) (hap : oi.apart ops oj = true)
    (hsi : ∀ cs b, oi.op ≠ .select cs b) (hsj : ∀ cs b, oj.op ≠ .select cs b) {K : Act → World → Prop} {a : Act} {w : World}
    (hy : YieldsM P ops C oi v a) (h : mOp P ops D j K (a.put oi.dst v) w) :
    mOp P ops D j (fun a' w' => YieldsM P ops C oi v a' ∧ K (a'.put oi.dst v) w') a w := by
  obtain ⟨h1, h2, h3⟩ := Oper.apart_spec hap
  have keep : ∀ (a : Act), YieldsM P ops C oi v a → ∀ u, YieldsM P ops C oi v (a.put oj.dst u) := fun a hy u =>
    hy.of_same (execOp_put oi hsi a oj.dst u h3) (wanted_put oi a oj.dst u h3)
  unfold mOp at *
  simp only [hj] at *
  rw [wanted_put oj a oi.dst v h1] at h
  split
  · rename_i hw
    simp only [hw, if_true] at h
    split
    · rename_i hq
      simp only [hq, if_true] at h
      obtain ⟨u, hu, hn⟩ := h
      refine ⟨u, fun w hw' => ?_, keep a hy u, by rw [← Act.put_comm a v u h2]; exact hn⟩
      have := hu w hw'
      unfold Oper.quietAt at *
      rwa [execOp_put oj hsj a oi.dst v h1] at this
    · rename_i hq
      simp only [hq] at h
      rw [execOp_put oj hsj a oi.dst v h1] at h
      exact loudUpon_mono (fun u w' hk => ⟨keep a hy u, by rw [← Act.put_comm a v u h2]; exact hk⟩) h
  · rename_i hw
    simp only [hw] at h
    exact ⟨keep a hy _, by rw [← Act.put_comm a v undef h2]; exact h⟩

def wpAnyE (P : Program) (md : Region.Mode) (ops : Array Oper) (E : Nat → World → Prop) (Q : Act → World → Prop) : Nat → Array Bool → Act → World → Prop
  | 0, listed, a, w => Region.ready md ops listed = [] ∧ Q a w
  | fuel + 1, listed, a, w =>
    (Region.ready md ops listed = [] → Q a w) ∧
    ∀ i ∈ Region.ready md ops listed, mOp P ops (E i) i (wpAnyE P md ops E Q fuel (listed.setIfInBounds i true)) a w

/-- Whatever stands behind the first phase hangs on all of it. -/
def phB (md : Region.Mode) (ops : Array Oper) (A : List Nat) : Bool :=
  (List.range ops.size).all fun j => A.contains j || (match ops[j]? with
    | none => true
    | some o => A.all fun a => o.after.any fun e => Region.binds md e && e.on == a)
def allA (A : List Nat) (listed : Array Bool) : Bool := A.all fun a => listed.getD a true

theorem ph_ready (h : phB md ops A = true) {listed : Array Bool} {j : Nat} (hj : j ∈ Region.ready md ops listed) (hA : A.contains j = false) : allA A listed = true := by
  obtain ⟨hjun, oj, hoj, hall⟩ := mem_ready.1 hj
  have hlt : j < ops.size := (Array.getElem?_eq_some_iff.1 hoj).1
  have h1 := List.all_eq_true.1 h j (List.mem_range.2 hlt)
  rw [hA, Bool.false_or] at h1
  simp only [hoj] at h1
  refine List.all_eq_true.2 fun a ha => ?_
  have h2 := List.all_eq_true.1 h1 a ha
  obtain ⟨e, he, hb⟩ := Array.any_eq_true'.1 h2
  rw [Bool.and_eq_true, beq_iff_eq] at hb
  have h3 := hall e he hb.1
  rw [hb.2] at h3
  rcases Nat.lt_or_ge a listed.size with h' | h'
  · simp [h'] at h3 ⊢; exact h3
  · simp [h']

theorem wpAny_of_mixE {Q : Act → World → Prop} {Q' : Exit → Act → World → Prop} (hCC : ∀ w, C w → C2 w) (hph : phB md ops A = true) (hQ : ∀ a w, Q a w → Q' .normal a w) : ∀ (fuel : Nat) (listed : Array Bool) (a : Act) (w : World), C2 w → (allA A listed = false → C w) →
    wpAnyE P md ops (clsE A C C2) Q fuel listed a w → wpAny P md ops Q' fuel listed a w
  | 0, _, _, _, _, _, h => ⟨h.1, hQ _ _ h.2⟩
  | fuel + 1, listed, a, w, h2, h1, h => ⟨fun h0 => hQ _ _ (h.1 h0), fun i hi => by
      have hh := h.2 i hi
      have hun := (mem_ready.1 hi).1
      cases hA : A.contains i
      · have hall := ph_ready hph hi hA
        have hE : clsE A C C2 i = C2 := by unfold clsE; rw [hA]; rfl
        rw [hE] at hh
        have hall' : allA A (listed.setIfInBounds i true) = true := by
          refine List.all_eq_true.2 fun b hb => ?_
          have := List.all_eq_true.1 hall b hb
          by_cases hib : i = b
          · subst hib
            rw [hun] at this
            cases this
          · rw [getD_set_ne true hib]; exact this
        exact wpOp_of_mOp h2 (fun a' w' hw' hk => wpAny_of_mixE hCC hph hQ fuel _ a' w' hw' (fun h0 => by rw [hall'] at h0; cases h0) hk) hh
      · have hE : clsE A C C2 i = C := by unfold clsE; rw [hA]; rfl
        rw [hE] at hh
        have hC : C w := by
          refine h1 ?_
          cases hal : allA A listed
          · rfl
          · have := List.all_eq_true.1 hal i (by simpa using hA)
            rw [hun] at this
            cases this
        exact wpOp_of_mOp hC (fun a' w' hw' hk => wpAny_of_mixE hCC hph hQ fuel _ a' w' (hCC _ hw') (fun _ => hw') hk) hh⟩

theorem wpAnyE_first {E : Nat → World → Prop} {Q : Act → World → Prop} {i : Nat} {oi : Oper} {v : Value} (hi : ops[i]? = some oi) (hsel : ∀ (j : Nat) (o : Oper) cs b, ops[j]? = some o → o.op ≠ .select cs b) :
    ∀ (fuel : Nat) (listed : Array Bool) (a : Act) (w : World),
      (∀ j oj, ops[j]? = some oj → j ≠ i → listed.getD j true = false → (∀ e ∈ oj.after, Region.binds md e = true → e.on ≠ i) → oi.apart ops oj = true) →
      i ∈ Region.ready md ops listed → YieldsM P ops (E i) oi v a →
      wpAnyE P md ops E Q fuel (listed.setIfInBounds i true) (a.put oi.dst v) w → wpAnyE P md ops E Q (fuel + 1) listed a w := by
  intro fuel
  induction fuel with
  | zero =>
    intro listed a w _ hr hy H
    refine ⟨fun h => (by rw [h] at hr; cases hr), fun j hj => ?_⟩
    by_cases hji : j = i
    · subst hji; exact hy.mOp hi H
    · have := ready_mono hj hji
      rw [H.1] at this
      cases this
  | succ fuel ih =>
    intro listed a w hfree hr hy H
    refine ⟨fun h => (by rw [h] at hr; cases hr), fun j hj => ?_⟩
    by_cases hji : j = i
    · subst hji; exact hy.mOp hi H
    · have h1 := H.2 j (ready_mono hj hji)
      obtain ⟨hjun, oj, hoj, hall⟩ := mem_ready.1 hj
      have hnot : ∀ e ∈ oj.after, Region.binds md e = true → e.on ≠ i := fun e he hb heq => by
        have h1 := hall e he hb
        have h0 := (mem_ready.1 hr).1
        rw [heq] at h1
        rcases Nat.lt_or_ge i listed.size with h' | h'
        · simp [h'] at h0 h1; rw [h0] at h1; cases h1
        · simp [Array.getElem?_eq_none h'] at h1
      have h2 := mOp_put2 (D := E j) hoj (hfree j oj hoj hji hjun hnot) (fun cs b => hsel i oi cs b hi) (fun cs b => hsel j oj cs b hoj) hy h1
      have hfree' : ∀ k ok, ops[k]? = some ok → k ≠ i → (listed.setIfInBounds j true).getD k true = false →
          (∀ e ∈ ok.after, Region.binds md e = true → e.on ≠ i) → oi.apart ops ok = true := fun k ok hk hki hun hno => by
        refine hfree k ok hk hki ?_ hno
        by_cases hjk : j = k
        · subst hjk; exact hjun
        · rw [getD_set_ne true hjk] at hun; exact hun
      refine mOp_mono (fun a' w' h3 => ih (listed.setIfInBounds j true) a' w' hfree' (ready_mono hr (Ne.symm hji)) h3.1 ?_) h2
      rw [Array.setIfInBounds_comm _ _ hji]
      exact h3.2

def wpMixE (P : Program) (ops : Array Oper) (E : Nat → World → Prop) (Q : Act → World → Prop) : List Nat → Act → World → Prop
  | [], a, w => Q a w
  | i :: rest, a, w => mOp P ops (E i) i (wpMixE P ops E Q rest) a w

theorem wpAnyE_seq {E : Nat → World → Prop} {Q : Act → World → Prop} (hs : Region.noSelect ops = true) : ∀ (l : List Nat) (listed : Array Bool) (a : Act) (w : World), mixB md ops l listed = true → wpMixE P ops E Q l a w → wpAnyE P md ops E Q l.length listed a w
  | [], _, _, _, hB, h => ⟨by simpa [mixB] using hB, h⟩
  | i :: l, listed, a, w, hB, h => by
    rw [mixB, Bool.and_eq_true] at hB
    obtain ⟨hB, hB'⟩ := hB
    have h' : mOp P ops (E i) i (wpMixE P ops E Q l) a w := h
    have ih := fun a w => wpAnyE_seq (E := E) (Q := Q) hs l (listed.setIfInBounds i true) a w hB'
    cases ho : ops[i]? with
    | none => simp [ho] at hB
    | some o =>
      simp only [ho] at hB
      by_cases hq : quietOp o.op = true
      · simp only [hq, if_true, Bool.and_eq_true] at hB
        obtain ⟨hr, hf⟩ := hB
        have hy : ∃ v, YieldsM P ops (E i) o v a ∧ wpMixE P ops E Q l (a.put o.dst v) w := by
          unfold mOp at h'
          simp only [ho, hq, if_true] at h'
          by_cases hw : Region.wanted o (yielded ops a.tmps) = true
          · simp only [hw, if_true] at h'
            obtain ⟨v, h1, h2⟩ := h'
            exact ⟨v, .inl ⟨hq, hw, h1⟩, h2⟩
          · simp only [hw] at h'
            exact ⟨undef, .inr ⟨by simpa using hw, rfl⟩, h'⟩
        obtain ⟨v, hy, hK⟩ := hy
        exact wpAnyE_first ho (Region.noSelect_spec hs) l.length listed a w (Region.free_spec ho hf) (by simpa using hr) hy (ih _ _ hK)
      · simp only [hq, Bool.false_eq_true, if_false, beq_iff_eq] at hB
        refine ⟨fun h0 => (by rw [hB] at h0; cases h0), fun j hj => ?_⟩
        rw [hB, List.mem_singleton] at hj
        subst hj
        exact mOp_mono ih h'

theorem mixE_of_list {E : Nat → World → Prop} {Q : Act → World → Prop} : ∀ (idx : List Nat), (∀ i ∈ idx, E i = C) → (∀ i ∈ idx, i < ops.size) → ∀ (a : Act) (w : World), wpMixL P ops C Q (idx.filterMap (fun i => ops[i]?)) a w → wpMixE P ops E Q idx a w
  | [], _, _, _, _, h => h
  | i :: idx, hE, hlt, a, w, h => by
    obtain ⟨o, ho⟩ : ∃ o, ops[i]? = some o := ⟨ops[i]'(hlt i List.mem_cons_self), Array.getElem?_eq_getElem _⟩
    rw [List.filterMap_cons, ho] at h
    have h1 : mOp P ops C i (wpMixL P ops C Q (idx.filterMap (fun i => ops[i]?))) a w := by
      unfold mOp
      simp only [ho]
      exact h
    show mOp P ops (E i) i _ a w
    rw [hE i List.mem_cons_self]
    exact mOp_mono (fun a' w' hh => mixE_of_list idx (fun j hj => hE j (List.mem_cons_of_mem _ hj)) (fun j hj => hlt j (List.mem_cons_of_mem _ hj)) a' w' hh) h1
theorem mixE_append {E : Nat → World → Prop} {Q : Act → World → Prop} : ∀ (l l' : List Nat) (a : Act) (w : World), wpMixE P ops E (wpMixE P ops E Q l') l a w → wpMixE P ops E Q (l ++ l') a w
  | [], _, _, _, h => h
  | _ :: l, l', _, _, h => mOp_mono (fun a w hh => mixE_append l l' a w hh) h

theorem oOp_mono {o : Oper} {K K' : Act → World → Prop} {a : Act} {w : World} (h : ∀ a w, K a w → K' a w) (hh : oOp P ops C o K a w) : oOp P ops C o K' a w := by
  unfold oOp at *
  split
  · rename_i hw
    simp only [hw, if_true] at hh
    split
    · rename_i hq; simp only [hq, if_true] at hh; exact Oper.quiet_mono (fun a => h a w) hh
    · rename_i hq; simp only [hq] at hh; exact loudUpon_mono (fun _ _ => h _ _) hh
  · rename_i hw; simp only [hw] at hh; exact h _ _ hh
theorem wpMixL_mono {Q Q' : Act → World → Prop} (h : ∀ a w, Q a w → Q' a w) : ∀ (l : List Oper) (a : Act) (w : World), wpMixL P ops C Q l a w → wpMixL P ops C Q' l a w
  | [], a, w, hh => h a w hh
  | _ :: l, _, _, hh => oOp_mono (fun a w hk => wpMixL_mono h l a w hk) hh

/-- Two phases: the reading operations of the first read the same in the worlds of C, those of the second in whatever world. -/
theorem wp_region_two {l l1 l2 : List Oper} (A B : List Nat) {id : Nat} {Q : Exit → Act → World → Prop} {a : Act} {w : World} (hm : P.follows .mixedOrders = true) (hn : (A ++ B).length = l.toArray.size) (hs : Region.noSelect l.toArray = true)
    (hB : mixB .any l.toArray (A ++ B) (Array.replicate l.toArray.size false) = true) (hp : phB .any l.toArray A = true) (hlt : ((A ++ B).all fun i => decide (i < l.toArray.size)) = true) (hd : (B.all fun i => !A.contains i) = true)
    (hl : A.filterMap (fun i => l.toArray[i]?) = l1) (hl2 : B.filterMap (fun i => l.toArray[i]?) = l2) (hC : C w.drew)
    (h : wpMixL P l.toArray C (fun a' w' => wpMixL P l.toArray (fun _ => True) (fun a'' w'' => Q .normal a'' w'') l2 a' w') l1 a w.drew) : (Code.region id l.toArray true).wp P Q a w := by
  have hlt' : ∀ i ∈ A ++ B, i < l.toArray.size := fun i hi => of_decide_eq_true (List.all_eq_true.1 hlt i hi)
  refine wp_region_any hm (wpAny_of_mixE (C := C) (C2 := fun _ => True) (A := A) (Q := fun a' w' => Q .normal a' w') (fun _ _ => trivial) hp (fun _ _ h => h) _ _ _ _ trivial (fun _ => hC) ?_)
  rw [← hn]
  have := wpAnyE_seq (P := P) (E := clsE A C fun _ => True) (md := .any) (Q := fun a' w' => Q .normal a' w') hs (A ++ B) (Array.replicate l.toArray.size false) a w.drew hB ?_
  · rw [← hn] at this
    exact this
  · refine mixE_append A B a _ (mixE_of_list (C := C) A (fun i hi => by unfold clsE; rw [if_pos (by simpa using hi)]) (fun i hi => hlt' i (List.mem_append_left _ hi)) a _ ?_)
    rw [hl]
    refine wpMixL_mono (fun a' w' hh => ?_) l1 a _ h
    refine mixE_of_list (C := fun _ => True) B (fun i hi => ?_) (fun i hi => hlt' i (List.mem_append_right _ hi)) a' w' ?_
    · have := List.all_eq_true.1 hd i hi
      unfold clsE
      rw [if_neg (by simpa using this)]
    · rw [hl2]
      exact hh
end
end Go.Proofs.YtceebimgfajbcaaGreatDoor
