/-
  A layout among the arguments, opened, with the rooms of its names' rows.
-/
import Derived.Test.YtfgkkhcoidegdabDoorPlOpen
namespace Go.Proofs.YtfgkkhcoidegdabDoor
open Go.ChangeShapes Go.WideShapes Go.RowKit
section
variable {H : Type} {enc : TypeId × Value → H} {W : World} {fuel : Nat} {cs : List Value} {x : DataW H × List MemPlace}
theorem el_layout_c (h : DataW.trod enc Tryd.prog W 0 (fun _ => true) true fuel 26 cs = some x) (hsz : ∀ n ∈ x.1.weights Tryd.prog 26, n ≤ reachBytes) : ∃ v l rs, cs = [v 0, v 1, v 2, v 3] ∧ LayRd W v l rs ∧ LayBig l ∧ (∀ x ∈ rs, capOk x.2.1) ∧ capOk (v 3) ∧ capOk (v 0) ∧ capOk (v 2) := by
  obtain ⟨a, b, c, d, rfl⟩ := list_four cs ((cells_of underLy h).trans (by kernel_rfl))
  obtain ⟨_, _, h0, z0⟩ := field_of underLy (by kernel_rfl) h hsz (i := 0) (T := 22) (by kernel_rfl)
  obtain ⟨_, _, h1, z1⟩ := field_of underLy (by kernel_rfl) h hsz (i := 1) (T := 23) (by kernel_rfl)
  obtain ⟨_, _, h2, z2⟩ := field_of underLy (by kernel_rfl) h hsz (i := 2) (T := 22) (by kernel_rfl)
  obtain ⟨_, _, h3, z3⟩ := field_of underLy (by kernel_rfl) h hsz (i := 3) (T := 24) (by kernel_rfl)
  clear h hsz
  haveI : Inhabited ByteArray := ⟨⟨#[]⟩⟩
  haveI : Inhabited RtV := ⟨(⟨⟨#[]⟩, 0, 0, [], [], []⟩, (.nilIface, .nilIface, .nilIface))⟩
  obtain ⟨v0, l0, e0, r0, k0, q0, cap0⟩ := open_row sC (fun s => s.size ≤ 140737488355328) Tryd.underlying22 (k := 1) (by kernel_rfl) (fun _ => rfl) (by omega) (by decide +kernel) (fun _ _ _ hh hz => el_str hh hz) h0 z0
  obtain ⟨v1, l1, e1, r1, k1, q1, _⟩ := open_row pC (fun p => p.1.size ≤ 140737488355328 ∧ okI p.2) Tryd.underlying23 (k := 2) (by kernel_rfl) (fun _ => rfl) (by omega) (by decide +kernel) (fun _ _ _ hh hz => el_point hh hz) h1 z1
  obtain ⟨v2, l2, e2, r2, k2, q2, cap2⟩ := open_row sC (fun s => s.size ≤ 140737488355328) Tryd.underlying22 (k := 1) (by kernel_rfl) (fun _ => rfl) (by omega) (by decide +kernel) (fun _ _ _ hh hz => el_str hh hz) h2 z2
  obtain ⟨v3, l3, e3, r3, k3, q3, cap3⟩ := open_row rC (fun p => RtAt W p ∧ RtBig p.1 ∧ capOk p.2.1) Tryd.underlying24 (k := 6) (by kernel_rfl) (fun _ => rfl) (by omega) (by decide +kernel) (fun _ _ _ hh hz => el_route hh hz) h3 z3
  simp at e0 e1 e2 e3
  refine ⟨fun i => match i with | 0 => v0 | 1 => v1 | 2 => v2 | _ => v3, ⟨l0, l1, l2, l3.map (·.1)⟩, l3, ?_, ⟨r0, r1, r2, r3, rfl, fun y hy => (q3 y hy).1⟩, ⟨⟨k0, q0⟩, ⟨k1, q1⟩, ⟨k2, q2⟩, ⟨by simpa using k3, fun y hy => ?_⟩⟩, fun y hy => (q3 y hy).2.2, cap3, cap0, cap2⟩
  · rw [e0, e1, e2, e3]
    rfl
  · obtain ⟨z, hz, rfl⟩ := List.mem_map.1 hy
    exact (q3 z hz).2.1
set_option maxRecDepth 100000 in
/-- A layout among the arguments. -/
theorem open_layout_c {r : Reach} {b0 : Nat} {v : Value} {dd : DataW H} {p : List MemPlace} (hv : Value.okWide Tryd.prog W r b0 26 v) (h : DataW.Trod enc Tryd.prog W 0 (fun _ => true) true 26 v dd p) (hsz : ∀ n ∈ dd.weights Tryd.prog 26, n ≤ reachBytes) :
    ∃ u l rs, v = .agg #[u 0, u 1, u 2, u 3] ∧ LayRd W u l rs ∧ LayBig l ∧ (∀ x ∈ rs, capOk x.2.1) ∧ capOk (u 3) ∧ capOk (u 0) ∧ capOk (u 2) := by
  obtain ⟨fz, hz⟩ : ∃ fz, Tryd.prog.underlying 26 = some (.struct fz) := ⟨_, underLy⟩
  obtain ⟨cz, rfl, _⟩ := okWide_struct hz hv
  obtain ⟨fu, hf⟩ := h
  obtain ⟨u, l, rs, e, h1, h2, h3⟩ := el_layout_c hf hsz
  refine ⟨u, l, rs, ?_, h1, h2, h3⟩
  rw [show cz = #[u 0, u 1, u 2, u 3] from Array.ext' e]
end
end Go.Proofs.YtfgkkhcoidegdabDoor
