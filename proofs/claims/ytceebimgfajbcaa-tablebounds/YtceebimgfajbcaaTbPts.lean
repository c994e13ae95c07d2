/-
  Package table: the points in a path; needs of just these: by contracts; and what both say, plainly.
-/
import Derived.Test.YtceebimgfajbcaaTbSized
namespace Go.Proofs.Ytceebimgfajbcaa
open Go.RowKit

theorem infoI : (Try.prog.info? 3).map (fun i => (i.zero, i.size, i.bytes)) = some (some (.int .i64 0), 1, 8) := by kernel_rfl
theorem one_int (a : Int) : ∀ u ∈ [Value.int .i64 a], u.oneCell' = true := by
  intro u hu
  simp at hu
  subst hu
  rfl

/-- The points that lie in sections of a path. -/
def ptsF (path : List Int) : List (ByteArray × Int) → Nat → List Int
  | [], _ => []
  | p :: ps, k => if inB path p.2 = true then (k : Int) :: ptsF path ps (k + 1) else ptsF path ps (k + 1)
theorem ptsF_len (path : List Int) : ∀ (ps : List (ByteArray × Int)) (k : Nat), (ptsF path ps k).length = countIn path ps
  | [], _ => rfl
  | p :: ps, k => by
    have ih := ptsF_len path ps (k + 1)
    rw [ptsF, countIn, List.filter_cons]
    rw [countIn] at ih
    split
    · rw [List.length_cons, List.length_cons, ih]
    · exact ih
theorem ptsF_le (path : List Int) (ps : List (ByteArray × Int)) (k : Nat) : (ptsF path ps k).length ≤ ps.length := by
  rw [ptsF_len]
  exact List.length_filter_le _ _
theorem ptsF_mem (path : List Int) (x : Int) : ∀ (ps : List (ByteArray × Int)) (k : Nat), x ∈ ptsF path ps k ↔ ∃ (j : Nat) (p : ByteArray × Int), ps[j]? = some p ∧ inB path p.2 = true ∧ x = ((k + j : Nat) : Int)
  | [], k => by simp [ptsF]
  | p :: ps, k => by
    have ih := ptsF_mem path x ps (k + 1)
    rw [ptsF]
    constructor
    · intro h
      by_cases hp : inB path p.2 = true
      · rw [if_pos hp, List.mem_cons] at h
        rcases h with h | h
        · exact ⟨0, p, rfl, hp, h⟩
        · obtain ⟨j, q, h1, h2, h3⟩ := ih.1 h
          exact ⟨j + 1, q, by simpa using h1, h2, by rw [h3]; congr 1; omega⟩
      · rw [if_neg hp] at h
        obtain ⟨j, q, h1, h2, h3⟩ := ih.1 h
        exact ⟨j + 1, q, by simpa using h1, h2, by rw [h3]; congr 1; omega⟩
    · rintro ⟨j, q, h1, h2, h3⟩
      cases j with
      | zero =>
        simp at h1
        subst h1
        rw [if_pos h2, List.mem_cons]
        exact .inl h3
      | succ j =>
        have hm := ih.2 ⟨j, q, by simpa using h1, h2, by rw [h3]; congr 1; omega⟩
        by_cases hp : inB path p.2 = true
        · rw [if_pos hp, List.mem_cons]
          exact .inr hm
        · rw [if_neg hp]
          exact hm
theorem ptsF_up (path : List Int) : ∀ (ps : List (ByteArray × Int)) (k : Nat), (ptsF path ps k).Pairwise (· < ·)
  | [], _ => List.Pairwise.nil
  | p :: ps, k => by
    have ih := ptsF_up path ps (k + 1)
    rw [ptsF]
    split
    · refine List.Pairwise.cons (fun x hx => ?_) ih
      obtain ⟨j, q, _, _, h3⟩ := (ptsF_mem path x ps (k + 1)).1 hx
      omega
    · exact ih
theorem up_eq : ∀ (ys xs : List Int), ys.Pairwise (· < ·) → xs.Pairwise (· < ·) → (∀ x ∈ xs, x ∈ ys) → ys.length ≤ xs.length → xs = ys
  | [], xs, _, _, h, _ => by
    cases xs with
    | nil => rfl
    | cons x xs => exact absurd (h x (by simp)) (by simp)
  | y :: ys, [], _, _, _, hl => by simp at hl
  | y :: ys, x :: xs, hy, hx, h, hl => by
    have hy1 := (List.pairwise_cons.1 hy).1
    have hx1 := (List.pairwise_cons.1 hx).1
    have hxy : y ≤ x := by
      rcases List.mem_cons.1 (h x (by simp)) with e | e
      · omega
      · have := hy1 x e
        omega
    have e := up_eq ys xs (List.pairwise_cons.1 hy).2 (List.pairwise_cons.1 hx).2 (fun z hz => by
      rcases List.mem_cons.1 (h z (by simp [hz])) with e | e
      · have := hx1 z hz
        omega
      · exact e) (by simp at hl; omega)
    subst e
    rcases List.mem_cons.1 (h x (by simp)) with e | e
    · rw [e]
    · have := hx1 x e
      omega
theorem needsF_iff (l : Lay) (path : List Int) : ∀ (ns : List (Int × Bool)) (pr : Option Int), needsF l path true pr ns = true ↔ (∀ x ∈ ns, (0 ≤ x.1 ∧ x.1 < l.points.length) ∧ inB path (secAt l x.1) = true) ∧ (ns.map (·.1)).Pairwise (· < ·) ∧ ∀ q, pr = some q → ∀ x ∈ ns, q < x.1
  | [], pr => by simp [needsF]
  | y :: ns, pr => by
    have ih := needsF_iff l path ns (some y.1)
    rw [needsF, Bool.and_eq_true, ih, needOk, Bool.and_eq_true, Bool.and_eq_true, decide_eq_true_iff, List.map_cons, List.pairwise_cons]
    constructor
    · rintro ⟨⟨h1, h2, h3⟩, h4, h5, h6⟩
      refine ⟨fun x hx => ?_, ⟨fun z hz => ?_, h5⟩, fun q hq x hx => ?_⟩
      · rcases List.mem_cons.1 hx with rfl | hx
        · exact ⟨h1, by simpa using h3⟩
        · exact h4 x hx
      · obtain ⟨x, hx, rfl⟩ := List.mem_map.1 hz
        exact h6 _ rfl x hx
      · subst hq
        have hq1 : q < y.1 := of_decide_eq_true h2
        rcases List.mem_cons.1 hx with rfl | hx
        · exact hq1
        · have := h6 _ rfl x hx
          omega
    · rintro ⟨h1, ⟨h2, h3⟩, h4⟩
      refine ⟨⟨(h1 y (by simp)).1, ?_, by simpa using (h1 y (by simp)).2⟩, fun x hx => h1 x (by simp [hx]), h3, fun q hq x hx => ?_⟩
      · cases pr with
        | none => rfl
        | some q => exact decide_eq_true (h4 q rfl y (by simp))
      · injection hq with hq
        subst hq
        exact h2 _ (List.mem_map.2 ⟨x, hx, rfl⟩)
def eqF (ns : List (Int × Bool)) (ps : List Int) : Bool := decide (ns.map (·.1) = ps)
theorem eqF_rest (l : Lay) (r : Rt) : eqF r.points (ptsF r.path l.points 0) = (decide (r.points.length = countIn r.path l.points) && needsF l r.path true none r.points) := by
  have hmem : ∀ x : Int, x ∈ ptsF r.path l.points 0 ↔ ((0 ≤ x ∧ x < l.points.length) ∧ inB r.path (secAt l x) = true) := fun x => by
    rw [ptsF_mem]
    constructor
    · rintro ⟨j, p, h1, h2, h3⟩
      have hj := (List.getElem?_eq_some_iff.1 h1).1
      have hx : x = (j : Int) := by rw [h3]; congr 1; omega
      subst hx
      refine ⟨by omega, ?_⟩
      rw [secAt, Int.toNat_natCast, h1]
      exact h2
    · rintro ⟨⟨h1, h2⟩, h3⟩
      obtain ⟨j, rfl⟩ : ∃ j : Nat, x = j := ⟨x.toNat, by omega⟩
      obtain ⟨p, hp⟩ : ∃ p, l.points[j]? = some p := ⟨l.points[j]'(by omega), List.getElem?_eq_getElem _⟩
      rw [secAt, Int.toNat_natCast, hp] at h3
      exact ⟨j, p, hp, h3, by congr 1; omega⟩
  rw [eqF, Bool.eq_iff_iff, Bool.and_eq_true, decide_eq_true_iff, decide_eq_true_iff, needsF_iff]
  constructor
  · intro h
    refine ⟨by rw [← ptsF_len r.path l.points 0, ← h, List.length_map], fun x hx => ?_, by rw [h]; exact ptsF_up _ _ _, by simp⟩
    exact (hmem x.1).1 (by rw [← h]; exact List.mem_map.2 ⟨x, hx, rfl⟩)
  · rintro ⟨h1, h2, h3, _⟩
    refine up_eq _ _ (ptsF_up _ _ _) h3 (fun x hx => ?_) (by rw [ptsF_len, List.length_map]; omega)
    obtain ⟨y, hy, rfl⟩ := List.mem_map.1 hx
    exact (hmem y.1).2 (h2 y hy)

set_option maxRecDepth 1000000 in
set_option maxHeartbeats 4000000 in
theorem pointsIn_any (v : Nat → Value) (l : Lay) (rs : List RtV) (p : Value) (path : List Int) (w : World) (h : LayRd w v l rs) (hp : rowAt w p 1 iC path)
    (hq : path.length ≤ 4294967296) (hl : l.points.length ≤ 4294967296) :
    Calls Try.prog 27 #[.agg #[v 0, v 1, v 2, v 3], p] w fun e w' => ∃ u, e = .returned u ∧ rowAt w' u 1 iC (ptsF path l.points 0) ∧ Below w.heap.size w w' := by
  obtain ⟨i0, hii, hz0, hz1, hz2⟩ := info_parts infoI
  obtain ⟨o0, c0, e0, _⟩ := h.s
  obtain ⟨o1, c1, e1, r1⟩ := h.p
  obtain ⟨o2, c2, e2, _⟩ := h.g
  obtain ⟨o3, c3, e3, _⟩ := h.r
  obtain ⟨op, cp, rfl, rp⟩ := hp
  have HP : Hid (rowAt w (.slice op path.length cp) 1 iC path) := ⟨op, cp, rfl, rp⟩
  have S := BoxAt.start w v
  have R1 : Hid (∀ j x, l.points[j]? = some x → ∃ g off, o1 = some ⟨g, off, none⟩ ∧ ∀ i u, (pC x)[i]? = some u → w.cell? ⟨g, off + j * 2 + i, none⟩ = some u) := r1
  have HV : Hid (v 0 = .slice o0 l.sections.length c0 ∧ v 1 = .slice o1 l.points.length c1 ∧ v 2 = .slice o2 l.signals.length c2 ∧ v 3 = .slice o3 rs.length c3) := ⟨e0, e1, e2, e3⟩
  have hcc := S.cells
  rw [e0, e1, e2, e3] at S hcc ⊢
  clear h r1 rp e0 e1 e2 e3
  generalize hs1 : l.points.length = n1 at *
  generalize l.sections.length = n0 at *
  generalize l.signals.length = n2 at *
  generalize rs.length = n3 at *
  generalize hsp : path.length = np at *
  have HS1 : Hid (l.points.length = n1) := hs1
  have HSP : Hid (path.length = np) := hsp
  clear hs1 hsp
  obtain ⟨q0, q1, q2, q3⟩ := hcc
  go_enter Try.func27, Try.ntmps27
  go_wp2
  clear q0 q1 q2 q3
  go_loopg [5, 6, 7, 11] n1 (fun gk vp a b i wr => ∃ (k : Nat) (pre : List Int), gk = n1 - k ∧ k ≤ n1 ∧ i = .int .i64 k ∧ pre.length ≤ k ∧ pre ++ ptsF path (l.points.drop k) k = ptsF path l.points 0 ∧ wr.ownsRow (w.heap.size + 1) 3 1 vp pre.length (pre.flatMap iC) ∧ BoxAt w v wr)
  case atStart => exact ⟨0, [], rfl, by omega, rfl, by simp, by simp, World.ownsRow_nil _ _ _ _, S⟩
  case round =>
    clear S
    obtain ⟨k, pre, rfl, hk, rfl, hpk, hc, hown, hbx⟩ := hrel
    have HC : Hid (pre ++ ptsF path (l.points.drop k) k = ptsF path l.points 0) := hc
    have HBX : Hid (BoxAt w v wr) := hbx
    have HOWN : Hid (wr.ownsRow (w.heap.size + 1) 3 1 u5 pre.length (pre.flatMap iC)) := hown
    have hbl := hbx.1
    have hsz := hbx.lt
    clear hc hbx hown
    by_cases hlt : k < n1
    · obtain ⟨⟨nm, sc⟩, hx⟩ : ∃ x, l.points[k]? = some x := ⟨l.points[k]'(by rw [HS1.out]; exact hlt), List.getElem?_eq_getElem _⟩
      obtain ⟨g, off, rfl, hcell⟩ := R1.out k _ hx
      have a0 := hcell 0 _ rfl
      have a1 := hcell 1 _ rfl
      rw [Nat.add_zero] at a0
      have d0 := (hbl.cell (World.block_lt_of_cell? _ _ a0)).trans a0
      have d1 := (hbl.cell (World.block_lt_of_cell? _ _ a1)).trans a1
      have hki : (k : Int) < (n1 : Int) := by omega
      have hdr := drop_at hx
      clear hcell a0 a1 hx
      rw [hdr, ptsF] at HC
      clear hdr
      have IN : Hid (∀ W, Below wr.heap.size wr W → Calls Try.prog 31 #[.slice op np cp, .int .i64 sc] W fun e w' => e = .returned (.bool (inB path sc)) ∧ Below wr.heap.size wr w') := fun W hW => by
        have := containsI_any _ path sc W (HP.out.below (hbl.trans (hW.mono hbl.size))) (by rw [HSP.out]; exact hq)
        refine this.mono ?_
        rintro e w' ⟨rfl, rfl⟩
        exact ⟨rfl, hW⟩
      cases hin : inB path sc
      · rw [hin] at IN
        rw [if_neg (by rw [hin]; simp)] at HC
        clear hin
        go_wp2_with (go_at_call 31; refine (IN.out _ (by repeat' (with_reducible first | exact Below.refl _ _ | apply Below.setCell | apply Below.alloc | exact Nat.le_refl _))).mono ?_; rintro e w1 ⟨rfl, hb1⟩)
        go_roundg (n1 - (k + 1))
        case rel => exact ⟨k + 1, pre, rfl, by omega, by go_num, by omega, HC.out, owns_below HOWN.out hb1, HBX.out.step hb1⟩
        case measure => omega
      · rw [hin] at IN
        rw [if_pos hin] at HC
        clear hin
        go_wp2_with fail
        refine (IN.out _ (by repeat' (with_reducible first | exact Below.refl _ _ | apply Below.setCell | apply Below.alloc | exact Nat.le_refl _))).mono ?_
        rintro e w1 ⟨rfl, hb1⟩
        have hown1 := owns_below HOWN.out hb1
        have HBX1 : Hid (BoxAt w v w1) := HBX.out.step hb1
        have hs1 := HBX1.out.1.size
        have HPR : Hid ((pre ++ [(k : Int)]).flatMap iC = pre.flatMap iC ++ [.int .i64 k]) := by
          show _ = _
          rw [List.flatMap_append]
          rfl
        have HCC : Hid ((pre ++ [(k : Int)]) ++ ptsF path (l.points.drop (k + 1)) (k + 1) = ptsF path l.points 0) := by
          show _ = _
          rw [List.append_assoc]
          exact HC.out
        have HPL : Hid ((pre ++ [(k : Int)]).length = pre.length + 1) := by
          show _ = _
          simp
        clear HC HOWN hb1 IN HBX
        generalize hcs : pre.flatMap iC = cells at *
        generalize hpl : pre.length = m at *
        clear hcs hpl
        go_wp2_with (at_builtin; refine wpList_append_own _ rfl _ _ 30 rfl (w.heap.size + 1) 3 i0 (.int .i64 0) 1 8 Try.underlying30 hii hz0 hz1 hz2 rfl (by decide) _ _ _ rfl (hown1.alloc _) ⟨w1.heap.size, 0, none⟩ 1 1 [.int .i64 k] rfl rfl (cell_one_new _ _ _) (one_int _) (by unfold maxLen; omega) (by omega) (by simp; omega) ?_)
        intro v' w3 hown3 hgrow _
        have HBX3 : Hid (BoxAt w v w3) := HBX1.out.append hown1 hgrow
        clear hown1 hgrow d0 d1
        go_wp2
        go_roundg (n1 - (k + 1))
        case rel => exact ⟨k + 1, pre ++ [(k : Int)], rfl, by omega, by go_num, by rw [HPL.out]; omega, HCC.out, by rw [HPR.out, HPL.out]; exact hown3, HBX3.out⟩
        case measure => omega
    · have HE : Hid (rowAt wr u5 1 iC (ptsF path l.points 0)) := by
        have h1 := HC.out
        rw [List.drop_of_length_le (by rw [HS1.out]; omega), ptsF, List.append_nil] at h1
        rw [← h1]
        exact rowAt_of_owns (fun _ => rfl) HOWN.out
      go_wp2
      go_ret
      exact ⟨_, rfl, HE.out, hbl⟩
end Go.Proofs.Ytceebimgfajbcaa
