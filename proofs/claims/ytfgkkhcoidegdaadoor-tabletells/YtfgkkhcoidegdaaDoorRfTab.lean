/-
  The reference's Entry, Needs, by contracts; what is appended onto a row of the call's own, read.
-/
import Derived.Test.YtfgkkhcoidegdaaDoorTbConf
import Derived.Test.YtfgkkhcoidegdaaDoorTbEntry
import Derived.Test.YtfgkkhcoidegdaaDoorLyIs
import Derived.Test.YtfgkkhcoidegdaaDoorLyFork
import Derived.Test.YtfgkkhcoidegdaaDoorOwBase
import Derived.Laws.OwnMore
namespace Go.Proofs.YtfgkkhcoidegdaaDoor
open Go.RowKit

theorem infoND : (Tryd.prog.info? 91).map (fun i => (i.zero, i.size, i.bytes)) = some (some (.agg #[.int .i64 0, .bool false]), 2, 16) := by kernel_rfl
theorem cells_nd (l : List (Int × Bool)) : ∀ u ∈ l.flatMap nC, u.oneCell' = true := by
  intro u hu
  obtain ⟨x, _, h⟩ := List.mem_flatMap.1 hu
  simp [nC] at h
  rcases h with h | h <;> subst h <;> rfl
/-- A row that is read, appended onto one of the call's own. -/
theorem append_rd {P : Program} {w : World} (base : Nat) (t ty e : TypeId) (i : TypeInfo) (z : Value) (size bytes : Nat) (ht : P.underlying t = some (.slice e)) (hi : P.info? e = some i) (hz : i.zero = some z) (hsize : i.size = size) (hby : i.bytes = bytes) (hzs : z.cells.size = size) (hsz : 0 < size)
    {α : Type} {cs : α → List Value} (hcs : ∀ x, (cs x).length = size) (h1 : ∀ (l : List α), ∀ u ∈ l.flatMap cs, u.oneCell' = true) (v : Value) (n : Nat) (xs : List Value) (hown : w.ownsRow base e size v n xs) (o : Option Addr) (m c : Nat) (l : List α) (hr : rowAt w (.slice o m c) size cs l)
    (h63 : n + m ≤ maxLen) (hbytes : (n + m) * bytes ≤ 140737488355328) (hbase : base ≤ w.heap.size) :
    ∃ v' w', (Builtin.append_ #[t, t] ty #[v, .slice o m c]).run P w = .ok v' w' ∧ w'.ownsRow base e size v' (n + m) (xs ++ l.flatMap cs) ∧ Below base w w' := by
  have hm := row_len hr
  have hlt : ∀ g, v.ownBlock = some g → base ≤ g := fun g hg => (hown.lt g hg).1
  cases o with
  | none =>
    obtain ⟨rfl, hn⟩ := row_none (by rw [hm] at hr; exact hr)
    obtain rfl : m = 0 := by rw [hm]; rfl
    refine ⟨v, w, ?_, by simpa using hown, Below.refl _ _⟩
    rcases hown.2 with ⟨rfl, rfl⟩ | ⟨g, cap, cur, rfl, _, _, hnc, _⟩
    · simp [Builtin.append_, run_underlying ht, sizeOf, typeInfo, hi, Builtin.lenOf, Builtin.firstCells]
    · simp [Builtin.append_, run_underlying ht, sizeOf, typeInfo, hi, Builtin.lenOf, Builtin.firstCells, hnc, storeCells]
  | some a =>
    have hc := row_some hcs hsz hr
    obtain ⟨v', w', e1, e2, e3, _, _⟩ := run_append_own_at (P := P) (w := w) base t ty e i z size bytes ht hi hz hsize hby hzs hsz v n xs hown a m c (l.flatMap cs) (by rw [flat_lenG hcs, hm]) hc (h1 l) h63 hbytes hbase
    exact ⟨v', w', e1, e2, (Below.refl base w).grown e3 hbase hlt⟩

set_option maxRecDepth 1000000 in
set_option maxHeartbeats 4000000 in
theorem refEntry_any (v : Nat → Value) (l : Lay) (rs : List RtV) (sg : Int) (w : World) (h : LayRd w v l rs) (hl : rs.length ≤ 4294967296) :
    Calls Tryd.prog 22 #[.agg #[v 0, v 1, v 2, v 3], .int .i64 sg] w fun e w' => ∃ u, e = .returned u ∧ rowAt w' u 1 iC (entF sg rs 0) ∧ Below w.heap.size w w' := by
  obtain ⟨i0, hii, hz0, hz1, hz2⟩ := info_parts infoI
  obtain ⟨o0, c0, e0, _⟩ := h.s
  obtain ⟨o1, c1, e1, _⟩ := h.p
  obtain ⟨o2, c2, e2, _⟩ := h.g
  obtain ⟨o3, c3, e3, r3⟩ := h.r
  have S := BoxAt.start w v
  have R3 : Hid (∀ j x, rs[j]? = some x → ∃ g off, o3 = some ⟨g, off, none⟩ ∧ ∀ i u, (rC x)[i]? = some u → w.cell? ⟨g, off + j * 6 + i, none⟩ = some u) := r3
  have HV : Hid (v 0 = .slice o0 l.sections.length c0 ∧ v 1 = .slice o1 l.points.length c1 ∧ v 2 = .slice o2 l.signals.length c2 ∧ v 3 = .slice o3 rs.length c3) := ⟨e0, e1, e2, e3⟩
  rw [e0, e1, e2, e3] at S ⊢
  clear h r3 e0 e1 e2 e3
  generalize l.sections.length = n0 at *
  generalize l.points.length = n1 at *
  generalize l.signals.length = n2 at *
  generalize hs3 : rs.length = n3 at *
  have HS3 : Hid (rs.length = n3) := hs3
  clear hs3
  go_enter Tryd.func22, Tryd.ntmps22
  go_wp2
  go_loopg [5, 6] n3 (fun gk vp i wr => ∃ (k : Nat) (pre : List Int), gk = n3 - k ∧ k ≤ n3 ∧ i = .int .i64 k ∧ pre.length ≤ k ∧ pre ++ entF sg (rs.drop k) k = entF sg rs 0 ∧ wr.ownsRow (w.heap.size + 1) 3 1 vp pre.length (pre.flatMap iC) ∧ BoxAt w v wr)
  case atStart => exact ⟨0, [], rfl, by omega, rfl, by simp, by simp, World.ownsRow_nil _ _ _ _, S⟩
  case round =>
    clear S
    obtain ⟨k, pre, rfl, hk, rfl, hpk, hc, hown, hbx⟩ := hrel
    have HC : Hid (pre ++ entF sg (rs.drop k) k = entF sg rs 0) := hc
    have HBX : Hid (BoxAt w v wr) := hbx
    have HOWN : Hid (wr.ownsRow (w.heap.size + 1) 3 1 u5 pre.length (pre.flatMap iC)) := hown
    have hbl := hbx.1
    have hsz := hbx.lt
    have hcc := hbx.cells
    rw [HV.out.1, HV.out.2.1, HV.out.2.2.1, HV.out.2.2.2] at hcc
    obtain ⟨q0, q1, q2, q3⟩ := hcc
    clear hc hbx hown
    by_cases hlt : k < n3
    · obtain ⟨⟨⟨nm, fr, tt, pa, po, fl⟩, v3, v4, v5⟩, hx⟩ : ∃ x, rs[k]? = some x := ⟨rs[k]'(by rw [HS3.out]; exact hlt), List.getElem?_eq_getElem _⟩
      obtain ⟨g, off, rfl, hcell⟩ := R3.out k _ hx
      have a1 := hcell 1 _ rfl
      have d1 := (hbl.cell (World.block_lt_of_cell? _ _ a1)).trans a1
      have hki : (k : Int) < (n3 : Int) := by omega
      have hdr := drop_at hx
      clear hcell a1 hx
      rw [hdr, entF] at HC
      simp only at HC
      clear hdr
      by_cases hfs : fr = sg
      · have hd1 : (fr == sg) = true := by simp [hfs]
        have hd2 : decide (fr = sg) = true := decide_eq_true hfs
        rw [if_pos hfs] at HC
        clear hfs
        have HPR : Hid ((pre ++ [(k : Int)]).flatMap iC = pre.flatMap iC ++ [.int .i64 k]) := by
          show _ = _
          rw [List.flatMap_append]
          rfl
        have HCC : Hid ((pre ++ [(k : Int)]) ++ entF sg (rs.drop (k + 1)) (k + 1) = entF sg rs 0) := by
          show _ = _
          rw [List.append_assoc]
          exact HC.out
        have HPL : Hid ((pre ++ [(k : Int)]).length = pre.length + 1) := by
          show _ = _
          simp
        have hown1 := HOWN.out
        have HBX1 := HBX
        clear HC HOWN HBX
        generalize hcs : pre.flatMap iC = cells at *
        generalize hpl : pre.length = m at *
        clear hcs hpl
        go_wp2_with (at_builtin; refine wpList_append_own _ rfl _ _ 37 rfl (w.heap.size + 1) 3 i0 (.int .i64 0) 1 8 Tryd.underlying37 hii hz0 hz1 hz2 rfl (by decide) _ _ _ rfl (hown1.alloc _) ⟨wr.heap.size, 0, none⟩ 1 1 [.int .i64 k] rfl rfl (cell_one_new _ _ _) (one_int _) (by unfold maxLen; omega) (by omega) (by simp; omega) ?_)
        intro v' w3 hown3 hgrow _
        have HBX3 : Hid (BoxAt w v w3) := HBX1.out.append hown1 hgrow
        clear hown1 hgrow d1 q0 q1 q2 q3
        go_wp2
        go_roundg (n3 - (k + 1))
        case rel => exact ⟨k + 1, pre ++ [(k : Int)], rfl, by omega, by go_num, by rw [HPL.out]; omega, HCC.out, by rw [HPR.out, HPL.out]; exact hown3, HBX3.out⟩
        case measure => omega
      · have hd1 : (fr == sg) = false := by simp [hfs]
        have hd2 : decide (fr = sg) = false := decide_eq_false hfs
        rw [if_neg hfs] at HC
        clear hfs
        go_wp2
        go_roundg (n3 - (k + 1))
        case rel => exact ⟨k + 1, pre, rfl, by omega, by go_num, by omega, HC.out, HOWN.out, HBX.out⟩
        case measure => omega
    · have HE : Hid (rowAt wr u5 1 iC (entF sg rs 0)) := by
        have h1 := HC.out
        rw [List.drop_of_length_le (by rw [HS3.out]; omega), entF, List.append_nil] at h1
        rw [← h1]
        exact rowAt_of_owns (fun _ => rfl) HOWN.out
      go_wp2
      go_ret
      exact ⟨_, rfl, HE.out, hbl⟩
end Go.Proofs.YtfgkkhcoidegdaaDoor
