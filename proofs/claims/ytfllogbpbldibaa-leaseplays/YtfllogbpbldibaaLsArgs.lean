/-
  A row of acts of three numbers of package pointsmanlaw11 among the arguments of a law.
-/
import Derived.Test.YtfllogbpbldibaaRlArgs
namespace Go.Proofs.Ytfllogbpbldibaa
open Go.ChangeShapes Go.WideShapes Go.ChangeAt Go.RowKit

section
variable {H : Type} {enc : TypeId × Value → H} {W : World}
theorem fieldsAcO : (Try.prog.fieldsOf 30).toList.map (fun f => (f.type, f.offset)) = [(3, 0), (3, 1), (3, 2)] := by kernel_rfl
theorem underAcO : Try.prog.underlying 30 = some (.struct (Try.prog.fieldsOf 30)) := by kernel_rfl
theorem cells_of_ac : Try.prog.cellsOf 30 = 3 := by kernel_rfl
set_option maxRecDepth 100000 in
theorem open_ac {base : Nat} {spare : Nat → Bool} {held : Bool} (fuel : Nat) (cs : List Value) (x : DataW H × List MemPlace)
    (h : DataW.trod enc Try.prog W base spare held fuel 30 cs = some x) : ∃ s : Ac, cs = acC s ∧ (wfI s.1 ∧ wfI s.2.1 ∧ wfI s.2.2) := by
  obtain ⟨f0, f1, f2, hfs, h0, h1, h2⟩ := fmaps_three _ _ _ _ _ fieldsAcO
  have hu : Try.prog.underlying 30 = some (.struct #[f0, f1, f2]) := by
    rw [underAcO]
    congr 2
    exact Array.ext' hfs
  simp only [Prod.mk.injEq] at h0 h1 h2
  obtain ⟨y0, y1, y2, n, rfl, hl, g0, g1, g2⟩ := Deep.trod_struct3 hu h
  rw [cells_of_ac] at hl
  obtain ⟨a, b, c, rfl⟩ := flist_3 cs hl
  rw [h0.1, h0.2, cells_of_int] at g0
  rw [h1.1, h1.2, cells_of_int] at g1
  rw [h2.1, h2.2, cells_of_int] at g2
  simp only [List.drop_zero, List.drop_succ_cons, List.take_succ_cons, List.take_zero] at g0 g1 g2
  obtain ⟨k, e0, rfl, w0⟩ := DataW.trod_int Try.underlying3 g0
  obtain ⟨q, e1, rfl, w1⟩ := DataW.trod_int Try.underlying3 g1
  obtain ⟨r, e2, rfl, w2⟩ := DataW.trod_int Try.underlying3 g2
  rw [List.singleton_inj] at e0 e1 e2
  exact ⟨(k, q, r), by rw [e0, e1, e2]; rfl, w0, w1, w2⟩
theorem open_actr {fuel : Nat} {oa : Option Addr} {len cap : Nat} {x : DataW H × List MemPlace} (h : DataW.trod enc Try.prog W 0 (fun _ => true) true fuel 22 [.slice oa len cap] = some x) :
    ∃ l : List Ac, l.length = len ∧ OkSl oa len cap ∧ rowAt W (.slice oa len cap) 3 acC l ∧ ∀ y ∈ l, wfI y.1 ∧ wfI y.2.1 ∧ wfI y.2.2 :=
  open_rowG acC 3 (fun y => wfI y.1 ∧ wfI y.2.1 ∧ wfI y.2.2) Try.underlying22 cells_of_ac (fun _ => rfl) (by omega) (fun fuel l x hx => open_ac fuel l x hx) h
theorem row_act {w : World} {o : Option Addr} {n c : Nat} {l : List Ac} (h : rowAt w (.slice o n c) 3 acC l) : ∀ j x, l[j]? = some x → ∃ g off, o = some ⟨g, off, none⟩ ∧ w.cell? ⟨g, off + j * 3, none⟩ = some (.int .i64 x.1) ∧ w.cell? ⟨g, off + j * 3 + 1, none⟩ = some (.int .i64 x.2.1) ∧ w.cell? ⟨g, off + j * 3 + 2, none⟩ = some (.int .i64 x.2.2) := fun j x hj => by
  obtain ⟨o', c', e, h2⟩ := h
  injection e with e1 e2 e3
  obtain ⟨g, off, e4, hc⟩ := h2 j x hj
  exact ⟨g, off, e1.trans e4, by simpa using hc 0 _ rfl, hc 1 _ rfl, hc 2 _ rfl⟩
end
end Go.Proofs.Ytfllogbpbldibaa
