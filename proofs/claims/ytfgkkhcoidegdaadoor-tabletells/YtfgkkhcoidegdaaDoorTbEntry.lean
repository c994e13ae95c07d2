/-
  Package table: the routes from a signal, by a contract.
-/
import Derived.Test.YtfgkkhcoidegdaaDoorTbPts
namespace Go.Proofs.YtfgkkhcoidegdaaDoor
open Go.RowKit

/-- The routes from a signal. -/
def entF (sg : Int) : List RtV → Nat → List Int
  | [], _ => []
  | x :: xs, k => if x.1.frm = sg then (k : Int) :: entF sg xs (k + 1) else entF sg xs (k + 1)

set_option maxRecDepth 1000000 in
set_option maxHeartbeats 4000000 in
theorem entry_any (v : Nat → Value) (l : Lay) (rs : List RtV) (sg : Int) (w : World) (h : LayRd w v l rs) (hl : rs.length ≤ 4294967296) :
    Calls Tryd.prog 21 #[.agg #[v 0, v 1, v 2, v 3], .int .i64 sg] w fun e w' => ∃ u, e = .returned u ∧ rowAt w' u 1 iC (entF sg rs 0) ∧ Below w.heap.size w w' := by
  obtain ⟨i0, hii, hz0, hz1, hz2⟩ := info_parts infoI
  have SL : Hid (∀ x ∈ rs, (∃ o n c, x.2.1 = .slice o n c) ∧ (∃ o n c, x.2.2.1 = .slice o n c) ∧ ∃ o n c, x.2.2.2 = .slice o n c) := fun x hx => (h.x x hx).slices
  obtain ⟨o0, c0, e0, _⟩ := h.s
  obtain ⟨o1, c1, e1, _⟩ := h.p
  obtain ⟨o2, c2, e2, _⟩ := h.g
  obtain ⟨o3, c3, e3, r3⟩ := h.r
  have S := BoxAt.start w v
  have R3 : Hid (∀ j x, rs[j]? = some x → ∃ g off, o3 = some ⟨g, off, none⟩ ∧ ∀ i u, (rC x)[i]? = some u → w.cell? ⟨g, off + j * 6 + i, none⟩ = some u) := r3
  have hcc := S.cells
  rw [e0, e1, e2, e3] at S hcc ⊢
  clear h r3 e0 e1 e2 e3
  generalize l.sections.length = n0 at *
  generalize l.points.length = n1 at *
  generalize l.signals.length = n2 at *
  generalize hs3 : rs.length = n3 at *
  have HS3 : Hid (rs.length = n3) := hs3
  clear hs3
  obtain ⟨q0, q1, q2, q3⟩ := hcc
  go_enter Tryd.func21, Tryd.ntmps21
  go_wp2
  clear q0 q1 q2 q3
  go_loopg [5, 6, 7, 11] n3 (fun gk vp a b i wr => ∃ (k : Nat) (pre : List Int), gk = n3 - k ∧ k ≤ n3 ∧ i = .int .i64 k ∧ pre.length ≤ k ∧ pre ++ entF sg (rs.drop k) k = entF sg rs 0 ∧ wr.ownsRow (w.heap.size + 1) 3 1 vp pre.length (pre.flatMap iC) ∧ BoxAt w v wr)
  case atStart => exact ⟨0, [], rfl, by omega, rfl, by simp, by simp, World.ownsRow_nil _ _ _ _, S⟩
  case round =>
    clear S
    obtain ⟨k, pre, rfl, hk, rfl, hpk, hc, hown, hbx⟩ := hrel
    have HC : Hid (pre ++ entF sg (rs.drop k) k = entF sg rs 0) := hc
    have HBX : Hid (BoxAt w v wr) := hbx
    have HOWN : Hid (wr.ownsRow (w.heap.size + 1) 3 1 u5 pre.length (pre.flatMap iC)) := hown
    have hbl := hbx.1
    have hsz := hbx.lt
    clear hc hbx hown
    by_cases hlt : k < n3
    · obtain ⟨⟨⟨nm, fr, tt, pa, po, fl⟩, v3, v4, v5⟩, hx⟩ : ∃ x, rs[k]? = some x := ⟨rs[k]'(by rw [HS3.out]; exact hlt), List.getElem?_eq_getElem _⟩
      obtain ⟨⟨p3, m3, k3, f3⟩, ⟨p4, m4, k4, f4⟩, p5, m5, k5, f5⟩ := SL.out _ (List.mem_of_getElem? hx)
      simp only at f3 f4 f5
      subst f3 f4 f5
      obtain ⟨g, off, rfl, hcell⟩ := R3.out k _ hx
      have a0 := hcell 0 _ rfl
      have a1 := hcell 1 _ rfl
      have a2 := hcell 2 _ rfl
      have a3 := hcell 3 _ rfl
      have a4 := hcell 4 _ rfl
      have a5 := hcell 5 _ rfl
      rw [Nat.add_zero] at a0
      have d0 := (hbl.cell (World.block_lt_of_cell? _ _ a0)).trans a0
      have d1 := (hbl.cell (World.block_lt_of_cell? _ _ a1)).trans a1
      have d2 := (hbl.cell (World.block_lt_of_cell? _ _ a2)).trans a2
      have d3 := (hbl.cell (World.block_lt_of_cell? _ _ a3)).trans a3
      have d4 := (hbl.cell (World.block_lt_of_cell? _ _ a4)).trans a4
      have d5 := (hbl.cell (World.block_lt_of_cell? _ _ a5)).trans a5
      have hki : (k : Int) < (n3 : Int) := by omega
      have hdr := drop_at hx
      clear hcell a0 a1 a2 a3 a4 a5 hx
      rw [hdr, entF] at HC
      simp only at HC
      clear hdr
      by_cases hfs : fr = sg
      · have hd1 : (fr == sg) = true := by simp [hfs]
        have hd2 : decide (fr = sg) = true := decide_eq_true hfs
        rw [if_pos hfs] at HC
        clear hfs
        have hba : Below wr.heap.size wr (wr.alloc (.cells #[.string nm, .int .i64 fr, .int .i64 tt, .slice p3 m3 k3, .slice p4 m4 k4, .slice p5 m5 k5] 69)) := (Below.refl _ _).alloc (Nat.le_refl _) _
        have hown1 := owns_below HOWN.out hba
        have HBX1 : Hid (BoxAt w v (wr.alloc (.cells #[.string nm, .int .i64 fr, .int .i64 tt, .slice p3 m3 k3, .slice p4 m4 k4, .slice p5 m5 k5] 69))) := HBX.out.step hba
        have HPR : Hid ((pre ++ [(k : Int)]).flatMap iC = pre.flatMap iC ++ [.int .i64 k]) := by
          show _ = _
          rw [List.flatMap_append]
          rfl
        have HCC : Hid ((pre ++ [(k : Int)]) ++ entF sg (rs.drop (k + 1)) (k + 1) = entF sg rs 0) := by
          show _ = _
          rw [List.append_assoc]
          exact HC.out
        have HPL : Hid ((pre ++ [(k : Int)]).length = pre.length + 1) := by
          show _ = _
          simp
        clear HC HOWN HBX hba
        generalize hcs : pre.flatMap iC = cells at *
        generalize hpl : pre.length = m at *
        clear hcs hpl
        go_wp2_with (at_builtin; refine wpList_append_own _ rfl _ _ 37 rfl (w.heap.size + 1) 3 i0 (.int .i64 0) 1 8 Tryd.underlying37 hii hz0 hz1 hz2 rfl (by decide) _ _ _ rfl (hown1.alloc _) ⟨wr.heap.size + 1, 0, none⟩ 1 1 [.int .i64 k] rfl rfl (by intro j u hj; match j, hj with | 0, hj => (simp at hj; subst hj; simp [addr_add]) | j + 1, hj => simp at hj) (one_int _) (by unfold maxLen; omega) (by omega) (by simp; omega) ?_)
        intro v' w3 hown3 hgrow _
        have HBX3 : Hid (BoxAt w v w3) := HBX1.out.append hown1 hgrow
        clear hown1 hgrow d0 d1 d2 d3 d4 d5
        go_wp2
        go_roundg (n3 - (k + 1))
        case rel => exact ⟨k + 1, pre ++ [(k : Int)], rfl, by omega, by go_num, by rw [HPL.out]; omega, HCC.out, by rw [HPR.out, HPL.out]; exact hown3, HBX3.out⟩
        case measure => omega
      · have hd1 : (fr == sg) = false := by simp [hfs]
        have hd2 : decide (fr = sg) = false := decide_eq_false hfs
        rw [if_neg hfs] at HC
        clear hfs
        go_wp2
        go_roundg (n3 - (k + 1))
        case rel => exact ⟨k + 1, pre, rfl, by omega, by go_num, by omega, HC.out, owns_below HOWN.out (by repeat' (with_reducible first | exact Below.refl _ _ | apply Below.setCell | apply Below.alloc | apply Below.drew | exact Nat.le_refl _)), HBX.out.step (by repeat' (with_reducible first | exact Below.refl _ _ | apply Below.setCell | apply Below.alloc | apply Below.drew | exact Nat.le_refl _))⟩
        case measure => omega
    · have HE : Hid (rowAt wr u5 1 iC (entF sg rs 0)) := by
        have h1 := HC.out
        rw [List.drop_of_length_le (by rw [HS3.out]; omega), entF, List.append_nil] at h1
        rw [← h1]
        exact rowAt_of_owns (fun _ => rfl) HOWN.out
      go_wp2
      go_ret
      exact ⟨_, rfl, HE.out, hbl⟩
end Go.Proofs.YtfgkkhcoidegdaaDoor
