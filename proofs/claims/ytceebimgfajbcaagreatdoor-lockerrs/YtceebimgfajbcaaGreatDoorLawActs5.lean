/-
  A law's row of acts (what is to be done, what the field tells, a command, how routes stand), opened; whether acts are long.
-/
import Derived.Test.YtceebimgfajbcaaGreatDoorLkInOut
import Derived.Deep.Slices
import Derived.Deep.Strs
import Derived.Lib.SmallJoins
namespace Go.Proofs.YtceebimgfajbcaaGreatDoor
open Go.ChangeShapes Go.WideShapes Go.ChangeAt Go.RowKit

/-- What is to be done: its kind, what the field tells, the command, how routes stand. -/
abbrev Ac5 := Int × (List Bool × List Int) × (Int × Int) × List St

theorem maps_four {α β : Type} (g : α → β) : ∀ (l : List α) (a b c d : β), l.map g = [a, b, c, d] → ∃ p q r s, l = [p, q, r, s] ∧ g p = a ∧ g q = b ∧ g r = c ∧ g s = d
  | [p, q, r, s], a, b, c, d, h => by simp at h; exact ⟨p, q, r, s, rfl, h⟩
theorem maps_two {α β : Type} (g : α → β) : ∀ (l : List α) (a b : β), l.map g = [a, b] → ∃ p q, l = [p, q] ∧ g p = a ∧ g q = b
  | [p, q], a, b, h => by simp at h; exact ⟨p, q, rfl, h⟩
set_option maxRecDepth 100000 in
theorem fields_four {t : TypeId} {a b c d : TypeId × Nat} (hf : (Tryz.prog.fieldsOf t).toList.map (fun f => (f.type, f.offset)) = [a, b, c, d]) (hu : Tryz.prog.underlying t = some (.struct (Tryz.prog.fieldsOf t))) :
    ∃ f0 f1 f2 f3 : Field, Tryz.prog.underlying t = some (.struct #[f0, f1, f2, f3]) ∧ (f0.type = a.1 ∧ f0.offset = a.2) ∧ (f1.type = b.1 ∧ f1.offset = b.2) ∧ (f2.type = c.1 ∧ f2.offset = c.2) ∧ (f3.type = d.1 ∧ f3.offset = d.2) := by
  obtain ⟨f0, f1, f2, f3, hfs, h0, h1, h2, h3⟩ := maps_four _ _ _ _ _ _ hf
  refine ⟨f0, f1, f2, f3, ?_, Prod.ext_iff.1 h0, Prod.ext_iff.1 h1, Prod.ext_iff.1 h2, Prod.ext_iff.1 h3⟩
  rw [hu]
  congr 2
  exact Array.ext' hfs
set_option maxRecDepth 100000 in
theorem fields_two {t : TypeId} {a b : TypeId × Nat} (hf : (Tryz.prog.fieldsOf t).toList.map (fun f => (f.type, f.offset)) = [a, b]) (hu : Tryz.prog.underlying t = some (.struct (Tryz.prog.fieldsOf t))) :
    ∃ f0 f1 : Field, Tryz.prog.underlying t = some (.struct #[f0, f1]) ∧ (f0.type = a.1 ∧ f0.offset = a.2) ∧ (f1.type = b.1 ∧ f1.offset = b.2) := by
  obtain ⟨f0, f1, hfs, h0, h1⟩ := maps_two _ _ _ _ hf
  refine ⟨f0, f1, ?_, Prod.ext_iff.1 h0, Prod.ext_iff.1 h1⟩
  rw [hu]
  congr 2
  exact Array.ext' hfs
theorem fieldsAc : (Tryz.prog.fieldsOf 43).toList.map (fun f => (f.type, f.offset)) = [(3, 0), (38, 1), (40, 3), (41, 5)] := by kernel_rfl
theorem underAc : Tryz.prog.underlying 43 = some (.struct (Tryz.prog.fieldsOf 43)) := by kernel_rfl
theorem fieldsRs : (Tryz.prog.fieldsOf 80).toList.map (fun f => (f.type, f.offset)) = [(3, 0), (3, 1), (3, 2), (4, 3)] := by kernel_rfl
theorem underRs : Tryz.prog.underlying 80 = some (.struct (Tryz.prog.fieldsOf 80)) := by kernel_rfl
theorem fieldsCm : (Tryz.prog.fieldsOf 40).toList.map (fun f => (f.type, f.offset)) = [(3, 0), (3, 1)] := by kernel_rfl
theorem underCm : Tryz.prog.underlying 40 = some (.struct (Tryz.prog.fieldsOf 40)) := by kernel_rfl
theorem fieldsIn5 : (Tryz.prog.fieldsOf 38).toList.map (fun f => (f.type, f.offset)) = [(35, 0), (36, 1)] := by kernel_rfl
theorem underIn5 : Tryz.prog.underlying 38 = some (.struct (Tryz.prog.fieldsOf 38)) := by kernel_rfl
theorem sizes5 : Tryz.prog.cellsOf 3 = 1 ∧ Tryz.prog.cellsOf 4 = 1 ∧ Tryz.prog.cellsOf 35 = 1 ∧ Tryz.prog.cellsOf 36 = 1 ∧ Tryz.prog.cellsOf 41 = 1 ∧ Tryz.prog.cellsOf 38 = 2 ∧ Tryz.prog.cellsOf 40 = 2 ∧ Tryz.prog.cellsOf 80 = 4 ∧ Tryz.prog.cellsOf 43 = 6 :=
  ⟨by kernel_rfl, by kernel_rfl, by kernel_rfl, by kernel_rfl, by kernel_rfl, by kernel_rfl, by kernel_rfl, by kernel_rfl, by kernel_rfl⟩
theorem list_2 {α : Type} : ∀ (l : List α), l.length = 2 → ∃ a b, l = [a, b]
  | [a, b], _ => ⟨a, b, rfl⟩
theorem list_4 {α : Type} : ∀ (l : List α), l.length = 4 → ∃ a b c d, l = [a, b, c, d]
  | [a, b, c, d], _ => ⟨a, b, c, d, rfl⟩
theorem list_6 {α : Type} : ∀ (l : List α), l.length = 6 → ∃ a b c d e f, l = [a, b, c, d, e, f]
  | [a, b, c, d, e, f], _ => ⟨a, b, c, d, e, f, rfl⟩
section
variable {H : Type} {enc : TypeId × Value → H} {W : World}
set_option maxRecDepth 100000 in
theorem open_rs {base : Nat} {spare : Nat → Bool} {held : Bool} {fuel : Nat} {cs : List Value} {x : DataW H × List MemPlace}
    (h : DataW.trod enc Tryz.prog W base spare held fuel 80 cs = some x) : ∃ s : St, cs = stC s := by
  obtain ⟨f0, f1, f2, f3, hu, ⟨t0, o0⟩, ⟨t1, o1⟩, ⟨t2, o2⟩, ⟨t3, o3⟩⟩ := fields_four fieldsRs underRs
  obtain ⟨y0, y1, y2, y3, n, rfl, hl, h0, h1, h2, h3⟩ := Go.Joins.trod_struct4 hu h
  obtain ⟨z1, z2, -, -, -, -, -, z8, -⟩ := sizes5
  rw [z8] at hl
  obtain ⟨a, b, c, d, rfl⟩ := list_4 cs hl
  simp only [t0, o0, z1] at h0
  simp only [t1, o1, z1] at h1
  simp only [t2, o2, z1] at h2
  simp only [t3, o3, z2] at h3
  simp only [List.drop_zero, List.drop_succ_cons, List.take_succ_cons, List.take_zero] at h0 h1 h2 h3
  obtain ⟨k, e0, -, _⟩ := DataW.trod_int Tryz.underlying3 h0
  obtain ⟨q, e1, -, _⟩ := DataW.trod_int Tryz.underlying3 h1
  obtain ⟨s, e2, -, _⟩ := DataW.trod_int Tryz.underlying3 h2
  obtain ⟨e, e3, -⟩ := DataW.trod_bool Tryz.underlying4 h3
  refine ⟨(k, q, s, e), ?_⟩
  rw [List.singleton_inj] at e0 e1 e2 e3
  rw [e0, e1, e2, e3]
  rfl
set_option maxRecDepth 100000 in
theorem open_rsrow {fuel : Nat} {v : Value} {x : DataW H × List MemPlace} (h : DataW.trod enc Tryz.prog W 0 (fun _ => true) true fuel 41 [v] = some x) : ∃ l, rowAt W v 4 stC l := by
  rcases Deep.open_slice Tryz.underlying41 h with ⟨hcs, _⟩ | ⟨a, len, cap, m, n, D, Pl, hcs, _, hl, hm, hmm, rfl, hx⟩
  · obtain rfl : v = .slice none 0 0 := by simpa using hcs
    exact ⟨[], none, 0, rfl, fun j y hj => by simp at hj⟩
  · obtain rfl : v = .slice (some a) len cap := by simpa using hcs
    simp only [if_true] at hmm
    subst hmm
    rw [sizes5.2.2.2.2.2.2.2.1] at hx
    have each : ∀ i, i < m → ∃ t : St, ∀ k u, (stC t)[k]? = some u → W.cell? (a.add (i * 4 + k)) = some u := by
      intro i hi
      obtain ⟨cs', h1, h2⟩ := hx i hi
      obtain ⟨t, rfl⟩ := open_rs h2
      obtain ⟨_, hlen, hcell⟩ := World.cells?_some h1
      refine ⟨t, fun k u hk => ?_⟩
      have hk4 : k < (stC t).length := (List.getElem?_eq_some_iff.1 hk).1
      have e0 := hcell k hk4
      rw [Deep.add_add] at e0
      rw [e0]
      simpa using hk
    obtain ⟨T, hT⟩ := Deep.choose_lt each
    refine ⟨(List.range len).map T, some a, m, by simp, fun j y hj => ?_⟩
    have hj' : j < len := by
      have := (List.getElem?_eq_some_iff.1 hj).1
      simpa using this
    have ey : T j = y := by simpa [List.getElem?_range hj'] using hj
    subst ey
    have hj2 := hT j (by omega)
    have hspot : ∃ b off, a = ⟨b, off, none⟩ := by
      have z1 := hT 0 (by omega) 0 _ rfl
      simp only [Nat.zero_mul, Nat.zero_add] at z1
      exact addr_plain z1
    obtain ⟨b, off, rfl⟩ := hspot
    refine ⟨b, off, rfl, fun i u hu => ?_⟩
    have := hj2 i u hu
    rw [addr_at, ← Nat.add_assoc] at this
    exact this
/-- One act in memory. -/
def acAt (w : World) (b off : Nat) (x : Ac5) : Prop := ∃ v : Nat → Value, w.cell? ⟨b, off, none⟩ = some (.int .i64 x.1) ∧ w.cell? ⟨b, off + 1, none⟩ = some (v 0) ∧ w.cell? ⟨b, off + 2, none⟩ = some (v 1) ∧ w.cell? ⟨b, off + 3, none⟩ = some (.int .i64 x.2.2.1.1) ∧ w.cell? ⟨b, off + 4, none⟩ = some (.int .i64 x.2.2.1.2) ∧ w.cell? ⟨b, off + 5, none⟩ = some (v 2) ∧ InRd w v x.2.1.1 x.2.1.2 ∧ rowAt w (v 2) 4 stC x.2.2.2
def hasActs5 (w : World) (oa : Option Addr) (ls : List Ac5) : Prop := ∀ j x, ls[j]? = some x → ∃ b off, oa = some ⟨b, off, none⟩ ∧ acAt w b (off + j * 6) x
set_option maxRecDepth 100000 in
theorem open_ac {fuel : Nat} {cs : List Value} {x : DataW H × List MemPlace}
    (h : DataW.trod enc Tryz.prog W 0 (fun _ => true) true fuel 43 cs = some x) :
    ∃ (t : Ac5) (v : Nat → Value), cs = [.int .i64 t.1, v 0, v 1, .int .i64 t.2.2.1.1, .int .i64 t.2.2.1.2, v 2] ∧ InRd W v t.2.1.1 t.2.1.2 ∧ rowAt W (v 2) 4 stC t.2.2.2 := by
  obtain ⟨f0, f1, f2, f3, hu, ⟨t0, o0⟩, ⟨t1, o1⟩, ⟨t2, o2⟩, ⟨t3, o3⟩⟩ := fields_four fieldsAc underAc
  obtain ⟨y0, y1, y2, y3, n, rfl, hl, h0, h1, h2, h3⟩ := Go.Joins.trod_struct4 hu h
  obtain ⟨z1, z2, z3, z4, z5, z6, z7, z8, z9⟩ := sizes5
  rw [z9] at hl
  obtain ⟨a, b, c, d, e, f, rfl⟩ := list_6 cs hl
  simp only [t0, o0, z1] at h0
  simp only [t1, o1, z6] at h1
  simp only [t2, o2, z7] at h2
  simp only [t3, o3, z5] at h3
  simp only [List.drop_zero, List.drop_succ_cons, List.take_succ_cons, List.take_zero] at h0 h1 h2 h3
  obtain ⟨k, e0, -, _⟩ := DataW.trod_int Tryz.underlying3 h0
  rw [List.singleton_inj] at e0
  obtain ⟨g0, g1, hv, ⟨a0, b0⟩, ⟨a1, b1⟩⟩ := fields_two fieldsIn5 underIn5
  obtain ⟨x0, x1, n1, -, hl1, i0, i1⟩ := trod_struct2 hv h1
  simp only [a0, b0, z3] at i0
  simp only [a1, b1, z4] at i1
  simp only [List.drop_zero, List.drop_succ_cons, List.take_succ_cons, List.take_zero] at i0 i1
  obtain ⟨occ, r0⟩ := open_boolrow i0
  obtain ⟨lies, r1⟩ := open_introw i1
  obtain ⟨g2, g3, hw, ⟨a2, b2⟩, ⟨a3, b3⟩⟩ := fields_two fieldsCm underCm
  obtain ⟨x2, x3, n2, -, hl2, i2, i3⟩ := trod_struct2 hw h2
  simp only [a2, b2, z1] at i2
  simp only [a3, b3, z1] at i3
  simp only [List.drop_zero, List.drop_succ_cons, List.take_succ_cons, List.take_zero] at i2 i3
  obtain ⟨p, e2, -, _⟩ := DataW.trod_int Tryz.underlying3 i2
  obtain ⟨q, e3, -, _⟩ := DataW.trod_int Tryz.underlying3 i3
  rw [List.singleton_inj] at e2 e3
  obtain ⟨ss, r3⟩ := open_rsrow h3
  refine ⟨(k, (occ, lies), (p, q), ss), v4 b c f .nilIface, ?_, ⟨r0, r1⟩, r3⟩
  rw [e0, e2, e3]
  rfl
set_option maxRecDepth 100000 in
theorem open_acts5 {fuel : Nat} {oa : Option Addr} {len cap : Nat} {x : DataW H × List MemPlace}
    (h : DataW.trod enc Tryz.prog W 0 (fun _ => true) true fuel 27 [.slice oa len cap] = some x) :
    ∃ l : List Ac5, l.length = len ∧ len ≤ maxLen ∧ hasActs5 W oa l := by
  rcases Deep.open_slice Tryz.underlying27 h with ⟨hcs, _⟩ | ⟨a, len', cap', m, n, D, Pl, hcs, _, hl, hm, hmm, rfl, hx⟩
  · simp at hcs
    obtain ⟨rfl, rfl, rfl⟩ := hcs
    exact ⟨[], rfl, by unfold maxLen; omega, fun j y hj => by simp at hj⟩
  · simp at hcs
    obtain ⟨rfl, rfl, rfl⟩ := hcs
    simp only [if_true] at hmm
    subst hmm
    rw [sizes5.2.2.2.2.2.2.2.2] at hx
    have each : ∀ i, i < m → ∃ t : Ac5 × (Nat → Value), (∀ k u, [Value.int .i64 t.1.1, t.2 0, t.2 1, .int .i64 t.1.2.2.1.1, .int .i64 t.1.2.2.1.2, t.2 2][k]? = some u → W.cell? (a.add (i * 6 + k)) = some u) ∧ InRd W t.2 t.1.2.1.1 t.1.2.1.2 ∧ rowAt W (t.2 2) 4 stC t.1.2.2.2 := by
      intro i hi
      obtain ⟨cs', h1, h2⟩ := hx i hi
      obtain ⟨t, v, rfl, r1, r2⟩ := open_ac h2
      obtain ⟨_, hlen, hcell⟩ := World.cells?_some h1
      refine ⟨(t, v), fun k u hk => ?_, r1, r2⟩
      have e0 := hcell k (List.getElem?_eq_some_iff.1 hk).1
      rw [Deep.add_add] at e0
      rw [e0]
      simpa using hk
    obtain ⟨T, hT⟩ := Deep.choose_lt each
    refine ⟨(List.range len).map fun i => (T i).1, by simp, by omega, fun j y hj => ?_⟩
    have hj' : j < len := by
      have := (List.getElem?_eq_some_iff.1 hj).1
      simpa using this
    have ey : (T j).1 = y := by simpa [List.getElem?_range hj'] using hj
    subst ey
    obtain ⟨q1, q2, q3⟩ := hT j (by omega)
    have hspot : ∃ b off, a = ⟨b, off, none⟩ := by
      have z1 := (hT 0 (by omega)).1 0 _ rfl
      simp only [Nat.zero_mul, Nat.zero_add] at z1
      exact addr_plain z1
    obtain ⟨b, off, rfl⟩ := hspot
    refine ⟨b, off, rfl, (T j).2, ?_, ?_, ?_, ?_, ?_, ?_, q2, q3⟩
    · simpa [addr_at] using q1 0 _ rfl
    · simpa [addr_at, Nat.add_assoc] using q1 1 _ rfl
    · simpa [addr_at, Nat.add_assoc] using q1 2 _ rfl
    · simpa [addr_at, Nat.add_assoc] using q1 3 _ rfl
    · simpa [addr_at, Nat.add_assoc] using q1 4 _ rfl
    · simpa [addr_at, Nat.add_assoc] using q1 5 _ rfl
end
theorem cell_kept {W W' : World} (hb : Below W.heap.size W W') {b off : Nat} {v : Value} (h : W.cell? ⟨b, off, none⟩ = some v) : W'.cell? ⟨b, off, none⟩ = some v := (hb.cell (p := ⟨b, off, none⟩) (World.block_lt_of_cell? W _ h)).trans h
theorem acAt.below {W W' : World} {b off : Nat} {x : Ac5} (h : acAt W b off x) (hb : Below W.heap.size W W') : acAt W' b off x := by
  obtain ⟨v, h0, h1, h2, h3, h4, h5, hi, hr⟩ := h
  exact ⟨v, cell_kept hb h0, cell_kept hb h1, cell_kept hb h2, cell_kept hb h3, cell_kept hb h4, cell_kept hb h5, hi.below hb, hr.below hb⟩
theorem hasActs5.below {W W' : World} {oa : Option Addr} {l : List Ac5} (h : hasActs5 W oa l) (hb : Below W.heap.size W W') : hasActs5 W' oa l := fun j x hj => by
  obtain ⟨b, off, e, hx⟩ := h j x hj
  exact ⟨b, off, e, hx.below hb⟩
end Go.Proofs.YtceebimgfajbcaaGreatDoor
