/-
  A layout among the arguments, opened: its four slices are read; of each text and each row how long it may be.
-/
import Derived.Test.YtgiaicmhnkhbnaaDoorJoin3
import Derived.ProofKit
import Derived.OpenShut
import Derived.ChangeOld
import Derived.SizedLaws
import Derived.Carry
import Derived.Deep.Slices
import Derived.Lib.SmallJoins
namespace Go.Proofs.YtgiaicmhnkhbnaaDoor
open Go.ChangeShapes Go.WideShapes Go.ChangeAt Go.RowKit

theorem laidOut : laidOutB Tryd.prog = true := by kernel_rfl
theorem weightsAll_mem {H : Type} {P : Program} {e : TypeId} : ∀ {l : List (DataW H)} {d : DataW H} {n : Nat}, d ∈ l → n ∈ d.weights P e → n ∈ DataW.weightsAll P e l
  | y :: l, d, n, h, hn => by
    rw [DataW.weightsAll, List.mem_append]
    rcases List.mem_cons.1 h with rfl | h
    · exact .inl hn
    · exact .inr (weightsAll_mem h hn)
theorem weights_at {H : Type} {P : Program} {ts : List TypeId} {ds : List (DataW H)} (h : (DataW.weightsEach P ts ds).all (· ≤ reachBytes) = true) {j : Nat} {t : TypeId} {d : DataW H} (ht : ts[j]? = some t) (hd : ds[j]? = some d) : ∀ n ∈ d.weights P t, n ≤ reachBytes := by
  intro n hn
  have := List.all_eq_true.1 h n (DataW.weights_mem_each ht hd n hn)
  simpa using this

/-- What a field's reading weighs, inside what the struct's does. -/
theorem weights_field {H : Type} {P : Program} {t : TypeId} {fs : Array Field} {parts : List (DataW H)} (hu : P.underlying t = some (.struct fs)) {B : Nat} (h : ∀ n ∈ (DataW.agg parts).weights P t, n ≤ B) {j : Nat} {f : Field} {d : DataW H} (hf : fs.toList[j]? = some f) (hd : parts[j]? = some d) : ∀ n ∈ d.weights P f.type, n ≤ B := by
  intro n hn
  refine h n ?_
  rw [DataW.weights, hu]
  exact DataW.weights_mem_each (by rw [List.getElem?_map, hf]; rfl) hd n hn

/-- A slice's room is no less than its length. -/
def capOk (v : Value) : Prop := ∀ o n c, v = .slice o n c → n ≤ c

/-- A slice opened: its elements, each as the opener of one says. -/
theorem open_row {H : Type} {enc : TypeId × Value → H} {W : World} {α : Type} [Inhabited α] (C : α → List Value) (Q : α → Prop) {t e : TypeId} {k : Nat} (hu : Tryd.prog.underlying t = some (.slice e)) (hc : Tryd.prog.cellsOf e = k) (hC : ∀ y, (C y).length = k) (hk : 0 < k) (hby : 1 ≤ Tryd.prog.bytesOf e)
    (hel : ∀ fuel cs x, DataW.trod enc Tryd.prog W 0 (fun _ => true) true fuel e cs = some x → (∀ n ∈ x.1.weights Tryd.prog e, n ≤ reachBytes) → ∃ y, cs = C y ∧ Q y)
    {fuel : Nat} {cs : List Value} {x : DataW H × List MemPlace} (h : DataW.trod enc Tryd.prog W 0 (fun _ => true) true fuel t cs = some x) (hsz : ∀ n ∈ x.1.weights Tryd.prog t, n ≤ reachBytes) :
    ∃ v l, cs = [v] ∧ rowAt W v k C l ∧ l.length ≤ 140737488355328 ∧ (∀ y ∈ l, Q y) ∧ capOk v := by
  rcases Deep.open_slice hu h with ⟨hcs, _⟩ | ⟨a, len, cap, m, n, D, Pl, hcs, _, hl, hm, hmm, rfl, hx⟩
  · exact ⟨_, [], hcs, rowAt.nil _ _ _, by simp, fun y hy => by simp at hy, fun o n c e => by injection e with _ e1 e2; omega⟩
  · simp only [if_true] at hmm
    subst hmm
    simp only at hsz
    rw [DataW.weights, hu] at hsz
    simp only [List.length_map, List.length_range] at hsz
    have hlen : len ≤ 140737488355328 := by
      have h1 := hsz _ (List.mem_cons_self ..)
      simp only [reachBytes] at h1
      have h2 : len + (m - len) ≤ (len + (m - len)) * Tryd.prog.bytesOf e := Nat.le_mul_of_pos_right _ hby
      omega
    have each : ∀ i, i < len → ∃ y : α, (∀ (o : Nat) (u : Value), (C y)[o]? = some u → W.cell? (a.add (i * k + o)) = some u) ∧ Q y := by
      intro i hi
      obtain ⟨cs', h1, h2⟩ := hx i (by omega)
      obtain ⟨y, e1, e2⟩ := hel _ _ _ h2 (fun q hq => hsz q (List.mem_cons_of_mem _ (List.mem_append_left _ (weightsAll_mem (List.mem_map.2 ⟨i, List.mem_range.2 hi, rfl⟩) hq))))
      refine ⟨y, fun o u ho => ?_, e2⟩
      rw [hc] at h1
      obtain ⟨_, hlen', hcell⟩ := World.cells?_some h1
      have ho' : o < k := by
        have := (List.getElem?_eq_some_iff.1 ho).1
        rw [hC] at this
        exact this
      have := hcell o ho'
      rw [Deep.add_add, e1, ho] at this
      exact this
    obtain ⟨T, hT⟩ := Deep.choose_lt each
    refine ⟨.slice (some a) len m, (List.range len).map T, hcs, ⟨some a, m, by simp, fun j y hj => ?_⟩, by simpa using hlen, fun y hy => ?_, fun o n c e => by injection e with _ e1 e2; omega⟩
    · have hj' : j < len := by
        have := (List.getElem?_eq_some_iff.1 hj).1
        simpa using this
      have ey : T j = y := by simpa [List.getElem?_range hj'] using hj
      subst ey
      obtain ⟨hcell, _⟩ := hT j hj'
      obtain ⟨blk, off, spot⟩ := a
      have hspot : spot = none := by
        have h0 : 0 < (C (T 0)).length := by rw [hC]; exact hk
        have := (hT 0 (by omega)).1 0 _ (List.getElem?_eq_getElem h0)
        simpa [Addr.add] using World.cell?_spot this
      subst hspot
      have ea : ∀ o, (⟨blk, off, none⟩ : Addr).add o = ⟨blk, off + o, none⟩ := fun o => by unfold Addr.add; split <;> simp_all
      refine ⟨blk, off, rfl, fun i u hu' => ?_⟩
      have := hcell i u hu'
      rw [ea] at this
      rw [Nat.add_assoc]
      exact this
    · obtain ⟨i, hi, rfl⟩ := List.mem_map.1 hy
      exact (hT i (List.mem_range.1 hi)).2

section
variable {H : Type} {enc : TypeId × Value → H} {W : World} {fuel : Nat} {cs : List Value} {x : DataW H × List MemPlace}

def okI (n : Int) : Prop := -9223372036854775808 ≤ n ∧ n ≤ 9223372036854775807
theorem el_int (h : DataW.trod enc Tryd.prog W 0 (fun _ => true) true fuel 3 cs = some x) : ∃ n, cs = iC n ∧ okI n := by
  obtain ⟨k, e0, rfl, hw⟩ := DataW.trod_int Tryd.underlying3 h
  refine ⟨k, e0, ?_⟩
  rw [Lit.wf, Bool.and_eq_true, decide_eq_true_eq, decide_eq_true_eq] at hw
  exact hw
theorem el_str (h : DataW.trod enc Tryd.prog W 0 (fun _ => true) true fuel 9 cs = some x) (hsz : ∀ n ∈ x.1.weights Tryd.prog 9, n ≤ reachBytes) : ∃ s, cs = sC s ∧ s.size ≤ 140737488355328 := by
  obtain ⟨s, e0, rfl, _⟩ := DataW.trod_string Tryd.underlying9 h
  refine ⟨s, e0, ?_⟩
  have := hsz s.data.toList.length (by simp [DataW.weights])
  rw [← Lib.size_eq] at this
  simp only [reachBytes] at this
  omega
theorem el_bool (h : DataW.trod enc Tryd.prog W 0 (fun _ => true) true fuel 4 cs = some x) : ∃ b, cs = [.bool b] := by
  obtain ⟨g, e0, rfl⟩ := DataW.trod_bool Tryd.underlying4 h
  exact ⟨g, e0⟩

/-- A field of one cell, out of what reads at a struct type. -/
theorem field_of {t : TypeId} {fs : Array Field} (hu : Tryd.prog.underlying t = some (.struct fs)) (hone : Deep.oneCellFields Tryd.prog fs = true) (h : DataW.trod enc Tryd.prog W 0 (fun _ => true) true fuel t cs = some x) (hsz : ∀ n ∈ x.1.weights Tryd.prog t, n ≤ reachBytes)
    {i : Nat} {T : TypeId} (hT : (fs[i]?).map (·.type) = some T) : ∃ n y, DataW.trod enc Tryd.prog W 0 (fun _ => true) true n T ((cs.drop i).take 1) = some y ∧ ∀ n ∈ y.1.weights Tryd.prog T, n ≤ reachBytes := by
  obtain ⟨xs, n, _, rfl, hl, hlen, hf⟩ := DataW.trod_struct hu h
  obtain ⟨f, hfi, rfl⟩ := Option.map_eq_some_iff.1 hT
  obtain ⟨o0, k0⟩ := Deep.hone_of hone i f hfi
  have hi : i < xs.length := by rw [hlen]; exact (Array.getElem?_eq_some_iff.1 hfi).1
  have := hf i f hfi
  rw [o0, k0, List.getElem?_eq_getElem hi] at this
  refine ⟨n, xs[i], this, weights_field hu hsz (j := i) (f := f) (by rw [Array.getElem?_toList]; exact hfi) ?_⟩
  rw [List.getElem?_map, List.getElem?_eq_getElem hi]
  rfl
theorem cells_of {t : TypeId} {fs : Array Field} (hu : Tryd.prog.underlying t = some (.struct fs)) (h : DataW.trod enc Tryd.prog W 0 (fun _ => true) true fuel t cs = some x) : cs.length = Tryd.prog.cellsOf t := by
  obtain ⟨xs, n, _, rfl, hl, hlen, hf⟩ := DataW.trod_struct hu h
  exact hl

def fsIn (o : Option TypeDesc) : Array Field := match o with
  | some (.struct fs) => fs
  | _ => #[]
theorem list_two {α : Type} : ∀ (l : List α), l.length = 2 → ∃ a b, l = [a, b]
  | [a, b], _ => ⟨a, b, rfl⟩
theorem list_four {α : Type} : ∀ (l : List α), l.length = 4 → ∃ a b c d, l = [a, b, c, d]
  | [a, b, c, d], _ => ⟨a, b, c, d, rfl⟩
theorem list_six {α : Type} : ∀ (l : List α), l.length = 6 → ∃ a b c d e f, l = [a, b, c, d, e, f]
  | [a, b, c, d, e, f], _ => ⟨a, b, c, d, e, f, rfl⟩

theorem underPt : Tryd.prog.underlying 33 = some (.struct (fsIn (Tryd.prog.underlying 33))) := by kernel_rfl
theorem underNd : Tryd.prog.underlying 60 = some (.struct (fsIn (Tryd.prog.underlying 60))) := by kernel_rfl
theorem underRt : Tryd.prog.underlying 37 = some (.struct (fsIn (Tryd.prog.underlying 37))) := by kernel_rfl
theorem underLy : Tryd.prog.underlying 26 = some (.struct (fsIn (Tryd.prog.underlying 26))) := by kernel_rfl

theorem el_point (h : DataW.trod enc Tryd.prog W 0 (fun _ => true) true fuel 33 cs = some x) (hsz : ∀ n ∈ x.1.weights Tryd.prog 33, n ≤ reachBytes) : ∃ p, cs = pC p ∧ p.1.size ≤ 140737488355328 ∧ okI p.2 := by
  obtain ⟨a, b, rfl⟩ := list_two cs ((cells_of underPt h).trans (by kernel_rfl))
  obtain ⟨_, _, h0, z0⟩ := field_of underPt (by kernel_rfl) h hsz (i := 0) (T := 9) (by kernel_rfl)
  obtain ⟨_, _, h1, z1⟩ := field_of underPt (by kernel_rfl) h hsz (i := 1) (T := 3) (by kernel_rfl)
  obtain ⟨s, e0, k0⟩ := el_str h0 z0
  obtain ⟨n, e1, k1⟩ := el_int h1
  refine ⟨(s, n), ?_, k0, k1⟩
  simp [sC, iC] at e0 e1
  rw [e0, e1]
  rfl
theorem el_need (h : DataW.trod enc Tryd.prog W 0 (fun _ => true) true fuel 60 cs = some x) (hsz : ∀ n ∈ x.1.weights Tryd.prog 60, n ≤ reachBytes) : ∃ p, cs = nC p ∧ okI p.1 := by
  obtain ⟨a, b, rfl⟩ := list_two cs ((cells_of underNd h).trans (by kernel_rfl))
  obtain ⟨_, _, h0, z0⟩ := field_of underNd (by kernel_rfl) h hsz (i := 0) (T := 3) (by kernel_rfl)
  obtain ⟨_, _, h1, z1⟩ := field_of underNd (by kernel_rfl) h hsz (i := 1) (T := 4) (by kernel_rfl)
  obtain ⟨n, e0, k0⟩ := el_int h0
  obtain ⟨s, e1⟩ := el_bool h1
  refine ⟨(n, s), ?_, k0⟩
  simp [iC] at e0 e1
  rw [e0, e1]
  rfl

/-- How great a route may be. -/
structure RtBig (r : Rt) : Prop where
  name : r.name.size ≤ 140737488355328
  frm : okI r.frm
  to : okI r.to
  path : r.path.length ≤ 140737488355328 ∧ ∀ i ∈ r.path, okI i
  points : r.points.length ≤ 140737488355328 ∧ ∀ n ∈ r.points, okI n.1
  flank : r.flank.length ≤ 140737488355328 ∧ ∀ n ∈ r.flank, okI n.1
theorem el_route (h : DataW.trod enc Tryd.prog W 0 (fun _ => true) true fuel 37 cs = some x) (hsz : ∀ n ∈ x.1.weights Tryd.prog 37, n ≤ reachBytes) : ∃ p : RtV, cs = rC p ∧ RtAt W p ∧ RtBig p.1 ∧ capOk p.2.1 := by
  obtain ⟨a, b, c, d, e, f, rfl⟩ := list_six cs ((cells_of underRt h).trans (by kernel_rfl))
  obtain ⟨_, _, h0, z0⟩ := field_of underRt (by kernel_rfl) h hsz (i := 0) (T := 9) (by kernel_rfl)
  obtain ⟨_, _, h1, z1⟩ := field_of underRt (by kernel_rfl) h hsz (i := 1) (T := 3) (by kernel_rfl)
  obtain ⟨_, _, h2, z2⟩ := field_of underRt (by kernel_rfl) h hsz (i := 2) (T := 3) (by kernel_rfl)
  obtain ⟨_, _, h3, z3⟩ := field_of underRt (by kernel_rfl) h hsz (i := 3) (T := 34) (by kernel_rfl)
  obtain ⟨_, _, h4, z4⟩ := field_of underRt (by kernel_rfl) h hsz (i := 4) (T := 35) (by kernel_rfl)
  obtain ⟨_, _, h5, z5⟩ := field_of underRt (by kernel_rfl) h hsz (i := 5) (T := 35) (by kernel_rfl)
  clear h hsz
  obtain ⟨s, e0, k0⟩ := el_str h0 z0
  obtain ⟨m, e1, k1⟩ := el_int h1
  obtain ⟨n, e2, k2⟩ := el_int h2
  obtain ⟨v3, l3, e3, r3, k3, q3, cap3⟩ := open_row iC okI Tryd.underlying34 (k := 1) (by kernel_rfl) (fun _ => rfl) (by omega) (by decide +kernel) (fun _ _ _ hh _ => el_int hh) h3 z3
  obtain ⟨v4, l4, e4, r4, k4, q4, _⟩ := open_row nC (fun p => okI p.1) Tryd.underlying35 (k := 2) (by kernel_rfl) (fun _ => rfl) (by omega) (by decide +kernel) (fun _ _ _ hh hz => el_need hh hz) h4 z4
  obtain ⟨v5, l5, e5, r5, k5, q5, _⟩ := open_row nC (fun p => okI p.1) Tryd.underlying35 (k := 2) (by kernel_rfl) (fun _ => rfl) (by omega) (by decide +kernel) (fun _ _ _ hh hz => el_need hh hz) h5 z5
  simp [sC, iC] at e0 e1 e2 e3 e4 e5
  refine ⟨(⟨s, m, n, l3, l4, l5⟩, (v3, v4, v5)), ?_, ⟨r3, r4, r5⟩, ⟨k0, k1, k2, ⟨k3, q3⟩, ⟨k4, q4⟩, ⟨k5, q5⟩⟩, cap3⟩
  rw [e0, e1, e2, e3, e4, e5]
  rfl

/-- How great a layout may be. -/
structure LayBig (l : Lay) : Prop where
  s : l.sections.length ≤ 140737488355328 ∧ ∀ x ∈ l.sections, x.size ≤ 140737488355328
  p : l.points.length ≤ 140737488355328 ∧ ∀ x ∈ l.points, x.1.size ≤ 140737488355328 ∧ okI x.2
  g : l.signals.length ≤ 140737488355328 ∧ ∀ x ∈ l.signals, x.size ≤ 140737488355328
  r : l.routes.length ≤ 140737488355328 ∧ ∀ x ∈ l.routes, RtBig x
theorem el_layout (h : DataW.trod enc Tryd.prog W 0 (fun _ => true) true fuel 26 cs = some x) (hsz : ∀ n ∈ x.1.weights Tryd.prog 26, n ≤ reachBytes) : ∃ v l rs, cs = [v 0, v 1, v 2, v 3] ∧ LayRd W v l rs ∧ LayBig l ∧ (∀ x ∈ rs, capOk x.2.1) ∧ capOk (v 3) := by
  obtain ⟨a, b, c, d, rfl⟩ := list_four cs ((cells_of underLy h).trans (by kernel_rfl))
  obtain ⟨_, _, h0, z0⟩ := field_of underLy (by kernel_rfl) h hsz (i := 0) (T := 22) (by kernel_rfl)
  obtain ⟨_, _, h1, z1⟩ := field_of underLy (by kernel_rfl) h hsz (i := 1) (T := 23) (by kernel_rfl)
  obtain ⟨_, _, h2, z2⟩ := field_of underLy (by kernel_rfl) h hsz (i := 2) (T := 22) (by kernel_rfl)
  obtain ⟨_, _, h3, z3⟩ := field_of underLy (by kernel_rfl) h hsz (i := 3) (T := 24) (by kernel_rfl)
  clear h hsz
  haveI : Inhabited ByteArray := ⟨⟨#[]⟩⟩
  haveI : Inhabited RtV := ⟨(⟨⟨#[]⟩, 0, 0, [], [], []⟩, (.nilIface, .nilIface, .nilIface))⟩
  obtain ⟨v0, l0, e0, r0, k0, q0, _⟩ := open_row sC (fun s => s.size ≤ 140737488355328) Tryd.underlying22 (k := 1) (by kernel_rfl) (fun _ => rfl) (by omega) (by decide +kernel) (fun _ _ _ hh hz => el_str hh hz) h0 z0
  obtain ⟨v1, l1, e1, r1, k1, q1, _⟩ := open_row pC (fun p => p.1.size ≤ 140737488355328 ∧ okI p.2) Tryd.underlying23 (k := 2) (by kernel_rfl) (fun _ => rfl) (by omega) (by decide +kernel) (fun _ _ _ hh hz => el_point hh hz) h1 z1
  obtain ⟨v2, l2, e2, r2, k2, q2, _⟩ := open_row sC (fun s => s.size ≤ 140737488355328) Tryd.underlying22 (k := 1) (by kernel_rfl) (fun _ => rfl) (by omega) (by decide +kernel) (fun _ _ _ hh hz => el_str hh hz) h2 z2
  obtain ⟨v3, l3, e3, r3, k3, q3, cap3⟩ := open_row rC (fun p => RtAt W p ∧ RtBig p.1 ∧ capOk p.2.1) Tryd.underlying24 (k := 6) (by kernel_rfl) (fun _ => rfl) (by omega) (by decide +kernel) (fun _ _ _ hh hz => el_route hh hz) h3 z3
  simp at e0 e1 e2 e3
  refine ⟨fun i => match i with | 0 => v0 | 1 => v1 | 2 => v2 | _ => v3, ⟨l0, l1, l2, l3.map (·.1)⟩, l3, ?_, ⟨r0, r1, r2, r3, rfl, fun y hy => (q3 y hy).1⟩, ⟨⟨k0, q0⟩, ⟨k1, q1⟩, ⟨k2, q2⟩, ⟨by simpa using k3, fun y hy => ?_⟩⟩, fun y hy => (q3 y hy).2.2, cap3⟩
  · rw [e0, e1, e2, e3]
    rfl
  · obtain ⟨z, hz, rfl⟩ := List.mem_map.1 hy
    exact (q3 z hz).2.1
set_option maxRecDepth 100000 in
/-- A layout among the arguments. -/
theorem open_layout {r : Reach} {b0 : Nat} {v : Value} {dd : DataW H} {p : List MemPlace} (hv : Value.okWide Tryd.prog W r b0 26 v) (h : DataW.Trod enc Tryd.prog W 0 (fun _ => true) true 26 v dd p) (hsz : ∀ n ∈ dd.weights Tryd.prog 26, n ≤ reachBytes) :
    ∃ u l rs, v = .agg #[u 0, u 1, u 2, u 3] ∧ LayRd W u l rs ∧ LayBig l ∧ (∀ x ∈ rs, capOk x.2.1) ∧ capOk (u 3) := by
  obtain ⟨fz, hz⟩ : ∃ fz, Tryd.prog.underlying 26 = some (.struct fz) := ⟨_, underLy⟩
  obtain ⟨cz, rfl, _⟩ := okWide_struct hz hv
  obtain ⟨fu, hf⟩ := h
  obtain ⟨u, l, rs, e, h1, h2, h3⟩ := el_layout hf hsz
  refine ⟨u, l, rs, ?_, h1, h2, h3⟩
  rw [show cz = #[u 0, u 1, u 2, u 3] from Array.ext' e]
end
end Go.Proofs.YtgiaicmhnkhbnaaDoor
