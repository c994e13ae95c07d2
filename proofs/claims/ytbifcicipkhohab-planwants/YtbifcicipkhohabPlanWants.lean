/-
  Of every three truths: PlanWants returns true. No condition.
-/
import Derived.Test.YtbifcicipkhohabRows
import Derived.Test.YtbifcicipkhohabPlExt
import Derived.Test.YtbifcicipkhohabPlBy
import Derived.WalkKit
import Derived.ProofKit
import Derived.OpenShut
import Derived.ShutString
import Derived.ChangeOld
import Derived.Below
import Derived.SizedLaws
namespace Go.Proofs.Ytbifcicipkhohab.planWants
open Go.ChangeShapes Go.WideShapes Go.ChangeAt Go.RowKit

theorem sign_true (w : World) : Calls Try.prog 7 #[.bool true] w fun e w' => e = .returned (.string ⟨#[45]⟩) ∧ w' = w := by
  go_enter Try.func7, Try.ntmps7
  go_wp2
  go_ret
  exact ⟨rfl, rfl⟩
theorem sign_false (w : World) : Calls Try.prog 7 #[.bool false] w fun e w' => e = .returned (.string ⟨#[43]⟩) ∧ w' = w := by
  go_enter Try.func7, Try.ntmps7
  go_wp2
  go_ret
  exact ⟨rfl, rfl⟩

theorem rs_one {rs : List RtV} {l : List Rt} {ps fs : List (Int × Bool)} (h : rs.map (·.1) = l) (k : l.map (fun r => (r.points, r.flank)) = [(ps, fs)]) : ∃ x, rs = [x] ∧ x.1.points = ps ∧ x.1.flank = fs := by
  rw [← h, List.map_map] at k
  match rs, k with
  | [], k => simp at k
  | [x], k =>
    simp at k
    exact ⟨x, rfl, k.1, k.2⟩
  | x :: y :: r, k => simp at k

theorem parse_call (hby : BySaid) (T : ByteArray) (hz : T.size ≤ 4294967295) (ps fs : List (Int × Bool)) (h : (parseP T).2 = (6, 0)) (hr : (parseP T).1.routes.map (fun r => (r.points, r.flank)) = [(ps, fs)]) (W : World) :
    Calls Try.prog 5 #[.string T] W fun en w' => ∃ o0 n0 c0 o1 n1 c1 o2 n2 c2 g off c3 nm fr tw o4 n4 c4 o5 c5 o6 c6, en = .returned (.tuple #[.agg #[.slice o0 n0 c0, .slice o1 n1 c1, .slice o2 n2 c2, .slice (some ⟨g, off, none⟩) 1 c3], .int .i64 6, .int .i64 0]) ∧
      (w'.cell? ⟨g, off, none⟩ = some (.string nm) ∧ w'.cell? ⟨g, off + 1, none⟩ = some (.int .i64 fr) ∧ w'.cell? ⟨g, off + 2, none⟩ = some (.int .i64 tw) ∧ w'.cell? ⟨g, off + 3, none⟩ = some (.slice o4 n4 c4) ∧ w'.cell? ⟨g, off + 4, none⟩ = some (.slice o5 ps.length c5) ∧ w'.cell? ⟨g, off + 5, none⟩ = some (.slice o6 fs.length c6)) ∧
      rowAt w' (.slice o5 ps.length c5) 2 nC ps ∧ rowAt w' (.slice o6 fs.length c6) 2 nC fs ∧ Below W.heap.size W w' := by
  refine (parse_any hby T W hz).mono ?_
  rintro en w' ⟨v, rs, rfl, hrd, hs, hb⟩
  obtain ⟨o0, n0, c0, h0⟩ := hs 0
  obtain ⟨o1, n1, c1, h1⟩ := hs 1
  obtain ⟨o2, n2, c2, h2⟩ := hs 2
  obtain ⟨x, hx, hps, hfs⟩ := rs_one hrd.m hr
  subst hx
  obtain ⟨o3, c3, h3, hc⟩ := hrd.r
  obtain ⟨g, off, rfl, hcell⟩ := hc 0 _ rfl
  have hxr := hrd.x x (by simp)
  obtain ⟨o4, n4, c4, h4⟩ := hxr.path.slice
  have hp := hxr.points
  have hf := hxr.flank
  rw [hps] at hp
  rw [hfs] at hf
  have hp' := hp
  have hf' := hf
  obtain ⟨o5, c5, h5, _⟩ := hp'
  obtain ⟨o6, c6, h6, _⟩ := hf'
  rw [h5] at hp
  rw [h6] at hf
  have q0 := hcell 0 _ rfl
  have q1 := hcell 1 _ rfl
  have q2 := hcell 2 _ rfl
  have q3 := hcell 3 _ rfl
  have q4 := hcell 4 _ rfl
  have q5 := hcell 5 _ rfl
  rw [h4] at q3
  rw [h5] at q4
  rw [h6] at q5
  simp only [Nat.zero_mul, Nat.add_zero] at q0 q1 q2 q3 q4 q5
  refine ⟨o0, n0, c0, o1, n1, c1, o2, n2, c2, g, off, c3, x.1.name, x.1.frm, x.1.to, o4, n4, c4, o5, c5, o6, c6, ?_, ⟨q0, q1, q2, q3, q4, q5⟩, hp, hf, hb⟩
  rw [h, h0, h1, h2, h3]
  rfl

theorem pw0 : (parseP ⟨#[115, 101, 99, 116, 105, 111, 110, 32, 97, 10, 115, 105, 103, 110, 97, 108, 32, 115, 10, 115, 105, 103, 110, 97, 108, 32, 116, 10, 112, 111, 105, 110, 116, 32, 112, 32, 105, 110, 32, 97, 10, 112, 111, 105, 110, 116, 32, 113, 32, 105, 110, 32, 97, 10, 114, 111, 117, 116, 101, 32, 114, 32, 102, 114, 111, 109, 32, 115, 32, 116, 111, 32, 116, 32, 118, 105, 97, 32, 97, 32, 115, 101, 116, 32, 112, 43, 32, 102, 108, 97, 110, 107, 32, 113, 43]⟩).2 = (6, 0) ∧ (parseP ⟨#[115, 101, 99, 116, 105, 111, 110, 32, 97, 10, 115, 105, 103, 110, 97, 108, 32, 115, 10, 115, 105, 103, 110, 97, 108, 32, 116, 10, 112, 111, 105, 110, 116, 32, 112, 32, 105, 110, 32, 97, 10, 112, 111, 105, 110, 116, 32, 113, 32, 105, 110, 32, 97, 10, 114, 111, 117, 116, 101, 32, 114, 32, 102, 114, 111, 109, 32, 115, 32, 116, 111, 32, 116, 32, 118, 105, 97, 32, 97, 32, 115, 101, 116, 32, 112, 43, 32, 102, 108, 97, 110, 107, 32, 113, 43]⟩).1.routes.map (fun r => (r.points, r.flank)) = [([((0 : Int), false)], [((1 : Int), false)])] := by decide +kernel
set_option maxRecDepth 1000000 in
set_option maxHeartbeats 4000000 in
theorem walk0 (hby : BySaid) (w : World) : Calls Try.prog 4 #[.bool false, .bool false, .bool false] w fun e w' => e = .returned (.bool true) ∧ Below w.heap.size w w' := by
  have HBY : Hid BySaid := hby
  have D : Hid (∀ W T, T = ⟨#[115, 101, 99, 116, 105, 111, 110, 32, 97, 10, 115, 105, 103, 110, 97, 108, 32, 115, 10, 115, 105, 103, 110, 97, 108, 32, 116, 10, 112, 111, 105, 110, 116, 32, 112, 32, 105, 110, 32, 97, 10, 112, 111, 105, 110, 116, 32, 113, 32, 105, 110, 32, 97, 10, 114, 111, 117, 116, 101, 32, 114, 32, 102, 114, 111, 109, 32, 115, 32, 116, 111, 32, 116, 32, 118, 105, 97, 32, 97, 32, 115, 101, 116, 32, 112, 43, 32, 102, 108, 97, 110, 107, 32, 113, 43]⟩ → Calls Try.prog 5 #[.string T] W fun en w' => ∃ o0 n0 c0 o1 n1 c1 o2 n2 c2 g off c3 nm fr tw o4 n4 c4 o5 c5 o6 c6, en = .returned (.tuple #[.agg #[.slice o0 n0 c0, .slice o1 n1 c1, .slice o2 n2 c2, .slice (some ⟨g, off, none⟩) 1 c3], .int .i64 6, .int .i64 0]) ∧
      (w'.cell? ⟨g, off, none⟩ = some (.string nm) ∧ w'.cell? ⟨g, off + 1, none⟩ = some (.int .i64 fr) ∧ w'.cell? ⟨g, off + 2, none⟩ = some (.int .i64 tw) ∧ w'.cell? ⟨g, off + 3, none⟩ = some (.slice o4 n4 c4) ∧ w'.cell? ⟨g, off + 4, none⟩ = some (.slice o5 1 c5) ∧ w'.cell? ⟨g, off + 5, none⟩ = some (.slice o6 1 c6)) ∧
      rowAt w' (.slice o5 1 c5) 2 nC [((0 : Int), false)] ∧ rowAt w' (.slice o6 1 c6) 2 nC [((1 : Int), false)] ∧ Below W.heap.size W w') := fun W T hT => by
    subst hT
    exact parse_call hby _ (by decide +kernel) [((0 : Int), false)] [((1 : Int), false)] pw0.1 pw0.2 W
  clear hby
  go_enter Try.func4, Try.ntmps4
  go_wp2_with fail
  refine (sign_false _).mono ?_
  rintro e wx ⟨rfl, hwx⟩
  obtain rfl := hwx.symm
  go_wp2_with fail
  refine (sign_false _).mono ?_
  rintro e wx ⟨rfl, hwx⟩
  obtain rfl := hwx.symm
  go_wp2_with fail
  refine (D.out _ _ (by decide +kernel)).mono ?_
  rintro en w2 ⟨o0, n0, c0, o1, n1, c1, o2, n2, c2, g, off, c3, nm, fr, tw, o4, n4, c4, o5, c5, o6, c6, rfl, ⟨q0, q1, q2, q3, q4, q5⟩, hp, hf, hb⟩
  have HB : Hid (Below w.heap.size w w2) := hb
  have hlt := World.block_lt_of_cell? w2 _ q0
  have HCH : Hid (Below w2.heap.size w2 ((((w2.alloc (.cells #[.slice o0 n0 c0, .slice o1 n1 c1, .slice o2 n2 c2, .slice (some ⟨g, off, none⟩) 1 c3] 26)).alloc (.cells #[.string nm, .int .i64 fr, .int .i64 tw, .slice o4 n4 c4, .slice o5 1 c5, .slice o6 1 c6] 36)).alloc (.cells #[.int .i64 0, .bool false] 38)).alloc (.cells #[.int .i64 1, .bool false] 38))) := ((((Below.refl _ _).alloc (Nat.le_refl _) _).alloc (by simp) _).alloc (by simp; omega) _).alloc (by simp; omega) _
  obtain ⟨p6, k6, e6, h6⟩ := hf
  simp only [Value.slice.injEq] at e6
  obtain ⟨rfl, -, rfl⟩ := e6
  obtain ⟨gf, of, rfl, hcf⟩ := h6 0 _ rfl
  obtain ⟨p5, k5, e5, h5⟩ := hp
  simp only [Value.slice.injEq] at e5
  obtain ⟨rfl, -, rfl⟩ := e5
  obtain ⟨gp, op, rfl, hcp⟩ := h5 0 _ rfl
  have y0 := hcp 0 _ rfl
  have y1 := hcp 1 _ rfl
  have y2 := hcf 0 _ rfl
  have y3 := hcf 1 _ rfl
  simp only [Nat.zero_mul, Nat.add_zero] at y0 y1 y2 y3
  have HFIN : Hid (Below w.heap.size w ((((w2.alloc (.cells #[.slice o0 n0 c0, .slice o1 n1 c1, .slice o2 n2 c2, .slice (some ⟨g, off, none⟩) 1 c3] 26)).alloc (.cells #[.string nm, .int .i64 fr, .int .i64 tw, .slice o4 n4 c4, .slice (some ⟨gp, op, none⟩) 1 c5, .slice (some ⟨gf, of, none⟩) 1 c6] 36)).alloc (.cells #[.int .i64 0, .bool false] 38)).alloc (.cells #[.int .i64 1, .bool false] 38))) := stepB HB.out HCH.out
  clear hb h6 hcf HB
  have s0 : (w2.alloc (.cells #[.slice o0 n0 c0, .slice o1 n1 c1, .slice o2 n2 c2, .slice (some ⟨g, off, none⟩) 1 c3] 26)).cell? ⟨g, off, none⟩ = some (.string nm) := (((Below.refl _ w2).alloc (Nat.le_refl _) _).cell (p := ⟨g, off, none⟩) hlt).trans q0
  have s1 : (w2.alloc (.cells #[.slice o0 n0 c0, .slice o1 n1 c1, .slice o2 n2 c2, .slice (some ⟨g, off, none⟩) 1 c3] 26)).cell? ⟨g, off + 1, none⟩ = some (.int .i64 fr) := (((Below.refl _ w2).alloc (Nat.le_refl _) _).cell (p := ⟨g, off + 1, none⟩) hlt).trans q1
  have s2 : (w2.alloc (.cells #[.slice o0 n0 c0, .slice o1 n1 c1, .slice o2 n2 c2, .slice (some ⟨g, off, none⟩) 1 c3] 26)).cell? ⟨g, off + 2, none⟩ = some (.int .i64 tw) := (((Below.refl _ w2).alloc (Nat.le_refl _) _).cell (p := ⟨g, off + 2, none⟩) hlt).trans q2
  have s3 : (w2.alloc (.cells #[.slice o0 n0 c0, .slice o1 n1 c1, .slice o2 n2 c2, .slice (some ⟨g, off, none⟩) 1 c3] 26)).cell? ⟨g, off + 3, none⟩ = some (.slice o4 n4 c4) := (((Below.refl _ w2).alloc (Nat.le_refl _) _).cell (p := ⟨g, off + 3, none⟩) hlt).trans q3
  have s4 : (w2.alloc (.cells #[.slice o0 n0 c0, .slice o1 n1 c1, .slice o2 n2 c2, .slice (some ⟨g, off, none⟩) 1 c3] 26)).cell? ⟨g, off + 4, none⟩ = some (.slice (some ⟨gp, op, none⟩) 1 c5) := (((Below.refl _ w2).alloc (Nat.le_refl _) _).cell (p := ⟨g, off + 4, none⟩) hlt).trans q4
  have s5 : (w2.alloc (.cells #[.slice o0 n0 c0, .slice o1 n1 c1, .slice o2 n2 c2, .slice (some ⟨g, off, none⟩) 1 c3] 26)).cell? ⟨g, off + 5, none⟩ = some (.slice (some ⟨gf, of, none⟩) 1 c6) := (((Below.refl _ w2).alloc (Nat.le_refl _) _).cell (p := ⟨g, off + 5, none⟩) hlt).trans q5
  clear q0 q1 q2 q3 q4 q5
  go_wp2
  have zy0 : ∀ z : Ext ((((w2.alloc (.cells #[.slice o0 n0 c0, .slice o1 n1 c1, .slice o2 n2 c2, .slice (some ⟨g, off, none⟩) 1 c3] 26)).alloc (.cells #[.string nm, .int .i64 fr, .int .i64 tw, .slice o4 n4 c4, .slice (some ⟨gp, op, none⟩) 1 c5, .slice (some ⟨gf, of, none⟩) 1 c6] 36)).alloc (.cells #[.int .i64 0, .bool false] 38)).alloc (.cells #[.int .i64 1, .bool false] 38)), z.z.cell? ⟨gp, op, none⟩ = some (.int .i64 0) := ext_cell ((HCH.out.cell (p := ⟨gp, op, none⟩) (World.block_lt_of_cell? w2 _ y0)).trans y0)
  have zy1 : ∀ z : Ext ((((w2.alloc (.cells #[.slice o0 n0 c0, .slice o1 n1 c1, .slice o2 n2 c2, .slice (some ⟨g, off, none⟩) 1 c3] 26)).alloc (.cells #[.string nm, .int .i64 fr, .int .i64 tw, .slice o4 n4 c4, .slice (some ⟨gp, op, none⟩) 1 c5, .slice (some ⟨gf, of, none⟩) 1 c6] 36)).alloc (.cells #[.int .i64 0, .bool false] 38)).alloc (.cells #[.int .i64 1, .bool false] 38)), z.z.cell? ⟨gp, op + 1, none⟩ = some (.bool false) := ext_cell ((HCH.out.cell (p := ⟨gp, op + 1, none⟩) (World.block_lt_of_cell? w2 _ y1)).trans y1)
  have zy2 : ∀ z : Ext ((((w2.alloc (.cells #[.slice o0 n0 c0, .slice o1 n1 c1, .slice o2 n2 c2, .slice (some ⟨g, off, none⟩) 1 c3] 26)).alloc (.cells #[.string nm, .int .i64 fr, .int .i64 tw, .slice o4 n4 c4, .slice (some ⟨gp, op, none⟩) 1 c5, .slice (some ⟨gf, of, none⟩) 1 c6] 36)).alloc (.cells #[.int .i64 0, .bool false] 38)).alloc (.cells #[.int .i64 1, .bool false] 38)), z.z.cell? ⟨gf, of, none⟩ = some (.int .i64 1) := ext_cell ((HCH.out.cell (p := ⟨gf, of, none⟩) (World.block_lt_of_cell? w2 _ y2)).trans y2)
  have zy3 : ∀ z : Ext ((((w2.alloc (.cells #[.slice o0 n0 c0, .slice o1 n1 c1, .slice o2 n2 c2, .slice (some ⟨g, off, none⟩) 1 c3] 26)).alloc (.cells #[.string nm, .int .i64 fr, .int .i64 tw, .slice o4 n4 c4, .slice (some ⟨gp, op, none⟩) 1 c5, .slice (some ⟨gf, of, none⟩) 1 c6] 36)).alloc (.cells #[.int .i64 0, .bool false] 38)).alloc (.cells #[.int .i64 1, .bool false] 38)), z.z.cell? ⟨gf, of + 1, none⟩ = some (.bool false) := ext_cell ((HCH.out.cell (p := ⟨gf, of + 1, none⟩) (World.block_lt_of_cell? w2 _ y3)).trans y3)
  have hRT : ((((w2.alloc (.cells #[.slice o0 n0 c0, .slice o1 n1 c1, .slice o2 n2 c2, .slice (some ⟨g, off, none⟩) 1 c3] 26)).alloc (.cells #[.string nm, .int .i64 fr, .int .i64 tw, .slice o4 n4 c4, .slice (some ⟨gp, op, none⟩) 1 c5, .slice (some ⟨gf, of, none⟩) 1 c6] 36)).alloc (.cells #[.int .i64 0, .bool false] 38)).alloc (.cells #[.int .i64 1, .bool false] 38)).heap[w2.heap.size + 1]? = some (.cells #[.string nm, .int .i64 fr, .int .i64 tw, .slice o4 n4 c4, .slice (some ⟨gp, op, none⟩) 1 c5, .slice (some ⟨gf, of, none⟩) 1 c6] 36) := blk_old (blk_old (by have := blk_new (w2.alloc (.cells #[.slice o0 n0 c0, .slice o1 n1 c1, .slice o2 n2 c2, .slice (some ⟨g, off, none⟩) 1 c3] 26)) (.cells #[.string nm, .int .i64 fr, .int .i64 tw, .slice o4 n4 c4, .slice (some ⟨gp, op, none⟩) 1 c5, .slice (some ⟨gf, of, none⟩) 1 c6] 36); rw [World.size_alloc] at this; exact this))
  have hX : ((((w2.alloc (.cells #[.slice o0 n0 c0, .slice o1 n1 c1, .slice o2 n2 c2, .slice (some ⟨g, off, none⟩) 1 c3] 26)).alloc (.cells #[.string nm, .int .i64 fr, .int .i64 tw, .slice o4 n4 c4, .slice (some ⟨gp, op, none⟩) 1 c5, .slice (some ⟨gf, of, none⟩) 1 c6] 36)).alloc (.cells #[.int .i64 0, .bool false] 38)).alloc (.cells #[.int .i64 1, .bool false] 38)).heap[w2.heap.size + 1 + 1]? = some (.cells #[.int .i64 0, .bool false] 38) := blk_old (by have := blk_new ((w2.alloc (.cells #[.slice o0 n0 c0, .slice o1 n1 c1, .slice o2 n2 c2, .slice (some ⟨g, off, none⟩) 1 c3] 26)).alloc (.cells #[.string nm, .int .i64 fr, .int .i64 tw, .slice o4 n4 c4, .slice (some ⟨gp, op, none⟩) 1 c5, .slice (some ⟨gf, of, none⟩) 1 c6] 36)) (.cells #[.int .i64 0, .bool false] 38); rw [World.size_alloc, World.size_alloc] at this; exact this)
  have hY : ((((w2.alloc (.cells #[.slice o0 n0 c0, .slice o1 n1 c1, .slice o2 n2 c2, .slice (some ⟨g, off, none⟩) 1 c3] 26)).alloc (.cells #[.string nm, .int .i64 fr, .int .i64 tw, .slice o4 n4 c4, .slice (some ⟨gp, op, none⟩) 1 c5, .slice (some ⟨gf, of, none⟩) 1 c6] 36)).alloc (.cells #[.int .i64 0, .bool false] 38)).alloc (.cells #[.int .i64 1, .bool false] 38)).heap[w2.heap.size + 1 + 1 + 1]? = some (.cells #[.int .i64 1, .bool false] 38) := by have := blk_new (((w2.alloc (.cells #[.slice o0 n0 c0, .slice o1 n1 c1, .slice o2 n2 c2, .slice (some ⟨g, off, none⟩) 1 c3] 26)).alloc (.cells #[.string nm, .int .i64 fr, .int .i64 tw, .slice o4 n4 c4, .slice (some ⟨gp, op, none⟩) 1 c5, .slice (some ⟨gf, of, none⟩) 1 c6] 36)).alloc (.cells #[.int .i64 0, .bool false] 38)) (.cells #[.int .i64 1, .bool false] 38); rw [World.size_alloc, World.size_alloc, World.size_alloc] at this; exact this
  have r4 : ∀ z : Ext ((((w2.alloc (.cells #[.slice o0 n0 c0, .slice o1 n1 c1, .slice o2 n2 c2, .slice (some ⟨g, off, none⟩) 1 c3] 26)).alloc (.cells #[.string nm, .int .i64 fr, .int .i64 tw, .slice o4 n4 c4, .slice (some ⟨gp, op, none⟩) 1 c5, .slice (some ⟨gf, of, none⟩) 1 c6] 36)).alloc (.cells #[.int .i64 0, .bool false] 38)).alloc (.cells #[.int .i64 1, .bool false] 38)), z.z.cell? ⟨w2.heap.size + 1, 4, none⟩ = some (.slice (some ⟨gp, op, none⟩) 1 c5) := ext_cell (six_cells hRT).1.2.2.2.2.1
  have r5 : ∀ z : Ext ((((w2.alloc (.cells #[.slice o0 n0 c0, .slice o1 n1 c1, .slice o2 n2 c2, .slice (some ⟨g, off, none⟩) 1 c3] 26)).alloc (.cells #[.string nm, .int .i64 fr, .int .i64 tw, .slice o4 n4 c4, .slice (some ⟨gp, op, none⟩) 1 c5, .slice (some ⟨gf, of, none⟩) 1 c6] 36)).alloc (.cells #[.int .i64 0, .bool false] 38)).alloc (.cells #[.int .i64 1, .bool false] 38)), z.z.cell? ⟨w2.heap.size + 1, 5, none⟩ = some (.slice (some ⟨gf, of, none⟩) 1 c6) := ext_cell (six_cells hRT).1.2.2.2.2.2
  have x0 : ∀ z : Ext ((((w2.alloc (.cells #[.slice o0 n0 c0, .slice o1 n1 c1, .slice o2 n2 c2, .slice (some ⟨g, off, none⟩) 1 c3] 26)).alloc (.cells #[.string nm, .int .i64 fr, .int .i64 tw, .slice o4 n4 c4, .slice (some ⟨gp, op, none⟩) 1 c5, .slice (some ⟨gf, of, none⟩) 1 c6] 36)).alloc (.cells #[.int .i64 0, .bool false] 38)).alloc (.cells #[.int .i64 1, .bool false] 38)), z.z.cell? ⟨w2.heap.size + 1 + 1, 0, none⟩ = some (.int .i64 0) := ext_cell (two_cells hX).1
  have x1 : ∀ z : Ext ((((w2.alloc (.cells #[.slice o0 n0 c0, .slice o1 n1 c1, .slice o2 n2 c2, .slice (some ⟨g, off, none⟩) 1 c3] 26)).alloc (.cells #[.string nm, .int .i64 fr, .int .i64 tw, .slice o4 n4 c4, .slice (some ⟨gp, op, none⟩) 1 c5, .slice (some ⟨gf, of, none⟩) 1 c6] 36)).alloc (.cells #[.int .i64 0, .bool false] 38)).alloc (.cells #[.int .i64 1, .bool false] 38)), z.z.cell? ⟨w2.heap.size + 1 + 1, 1, none⟩ = some (.bool false) := ext_cell (two_cells hX).2.1
  have v0 : ∀ z : Ext ((((w2.alloc (.cells #[.slice o0 n0 c0, .slice o1 n1 c1, .slice o2 n2 c2, .slice (some ⟨g, off, none⟩) 1 c3] 26)).alloc (.cells #[.string nm, .int .i64 fr, .int .i64 tw, .slice o4 n4 c4, .slice (some ⟨gp, op, none⟩) 1 c5, .slice (some ⟨gf, of, none⟩) 1 c6] 36)).alloc (.cells #[.int .i64 0, .bool false] 38)).alloc (.cells #[.int .i64 1, .bool false] 38)), z.z.cell? ⟨w2.heap.size + 1 + 1 + 1, 0, none⟩ = some (.int .i64 1) := ext_cell (two_cells hY).1
  have v1 : ∀ z : Ext ((((w2.alloc (.cells #[.slice o0 n0 c0, .slice o1 n1 c1, .slice o2 n2 c2, .slice (some ⟨g, off, none⟩) 1 c3] 26)).alloc (.cells #[.string nm, .int .i64 fr, .int .i64 tw, .slice o4 n4 c4, .slice (some ⟨gp, op, none⟩) 1 c5, .slice (some ⟨gf, of, none⟩) 1 c6] 36)).alloc (.cells #[.int .i64 0, .bool false] 38)).alloc (.cells #[.int .i64 1, .bool false] 38)), z.z.cell? ⟨w2.heap.size + 1 + 1 + 1, 1, none⟩ = some (.bool false) := ext_cell (two_cells hY).2.1
  clear hRT hX hY
  haveI : Nonempty (Ext ((((w2.alloc (.cells #[.slice o0 n0 c0, .slice o1 n1 c1, .slice o2 n2 c2, .slice (some ⟨g, off, none⟩) 1 c3] 26)).alloc (.cells #[.string nm, .int .i64 fr, .int .i64 tw, .slice o4 n4 c4, .slice (some ⟨gp, op, none⟩) 1 c5, .slice (some ⟨gf, of, none⟩) 1 c6] 36)).alloc (.cells #[.int .i64 0, .bool false] 38)).alloc (.cells #[.int .i64 1, .bool false] 38))) := ⟨⟨_, Below.refl _ _⟩⟩
  have e1 := run_eqlN 0 0 false false
  rw [decide_eq_true (show (0 : Int) = 0 ∧ false = false from ⟨rfl, rfl⟩)] at e1
  have e2 := run_eqlN 1 1 false false
  rw [decide_eq_true (show (1 : Int) = 1 ∧ false = false from ⟨rfl, rfl⟩)] at e2
  have e3 := eqGuardN
  refine wp_region_ext (by kernel_rfl) (by kernel_rfl) ?_
  repeat (first | go_big_quiet_skip | (go_big_quiet_want; go_big_quiet_op; first | go_big_quiet_on | (apply Exists.intro; refine ⟨fun _ => ?_, ?_⟩; (go_at_call 6; exact ext_of (known_any HBY.out _)); go_big_quiet_on)))
  refine wpQuiet_nil ?_
  intro _ hw'
  obtain ⟨z, hw''⟩ := hw'
  subst hw''
  go_wp2
  go_ret
  exact ⟨rfl, stepB HFIN.out z.h⟩

theorem pw1 : (parseP ⟨#[115, 101, 99, 116, 105, 111, 110, 32, 97, 10, 115, 105, 103, 110, 97, 108, 32, 115, 10, 115, 105, 103, 110, 97, 108, 32, 116, 10, 112, 111, 105, 110, 116, 32, 112, 32, 105, 110, 32, 97, 10, 112, 111, 105, 110, 116, 32, 113, 32, 105, 110, 32, 97, 10, 114, 111, 117, 116, 101, 32, 114, 32, 102, 114, 111, 109, 32, 115, 32, 116, 111, 32, 116, 32, 118, 105, 97, 32, 97, 32, 115, 101, 116, 32, 112, 43, 32, 102, 108, 97, 110, 107, 32, 113, 45]⟩).2 = (6, 0) ∧ (parseP ⟨#[115, 101, 99, 116, 105, 111, 110, 32, 97, 10, 115, 105, 103, 110, 97, 108, 32, 115, 10, 115, 105, 103, 110, 97, 108, 32, 116, 10, 112, 111, 105, 110, 116, 32, 112, 32, 105, 110, 32, 97, 10, 112, 111, 105, 110, 116, 32, 113, 32, 105, 110, 32, 97, 10, 114, 111, 117, 116, 101, 32, 114, 32, 102, 114, 111, 109, 32, 115, 32, 116, 111, 32, 116, 32, 118, 105, 97, 32, 97, 32, 115, 101, 116, 32, 112, 43, 32, 102, 108, 97, 110, 107, 32, 113, 45]⟩).1.routes.map (fun r => (r.points, r.flank)) = [([((0 : Int), false)], [((1 : Int), true)])] := by decide +kernel
set_option maxRecDepth 1000000 in
set_option maxHeartbeats 4000000 in
theorem walk1 (hby : BySaid) (w : World) : Calls Try.prog 4 #[.bool false, .bool true, .bool false] w fun e w' => e = .returned (.bool true) ∧ Below w.heap.size w w' := by
  have HBY : Hid BySaid := hby
  have D : Hid (∀ W T, T = ⟨#[115, 101, 99, 116, 105, 111, 110, 32, 97, 10, 115, 105, 103, 110, 97, 108, 32, 115, 10, 115, 105, 103, 110, 97, 108, 32, 116, 10, 112, 111, 105, 110, 116, 32, 112, 32, 105, 110, 32, 97, 10, 112, 111, 105, 110, 116, 32, 113, 32, 105, 110, 32, 97, 10, 114, 111, 117, 116, 101, 32, 114, 32, 102, 114, 111, 109, 32, 115, 32, 116, 111, 32, 116, 32, 118, 105, 97, 32, 97, 32, 115, 101, 116, 32, 112, 43, 32, 102, 108, 97, 110, 107, 32, 113, 45]⟩ → Calls Try.prog 5 #[.string T] W fun en w' => ∃ o0 n0 c0 o1 n1 c1 o2 n2 c2 g off c3 nm fr tw o4 n4 c4 o5 c5 o6 c6, en = .returned (.tuple #[.agg #[.slice o0 n0 c0, .slice o1 n1 c1, .slice o2 n2 c2, .slice (some ⟨g, off, none⟩) 1 c3], .int .i64 6, .int .i64 0]) ∧
      (w'.cell? ⟨g, off, none⟩ = some (.string nm) ∧ w'.cell? ⟨g, off + 1, none⟩ = some (.int .i64 fr) ∧ w'.cell? ⟨g, off + 2, none⟩ = some (.int .i64 tw) ∧ w'.cell? ⟨g, off + 3, none⟩ = some (.slice o4 n4 c4) ∧ w'.cell? ⟨g, off + 4, none⟩ = some (.slice o5 1 c5) ∧ w'.cell? ⟨g, off + 5, none⟩ = some (.slice o6 1 c6)) ∧
      rowAt w' (.slice o5 1 c5) 2 nC [((0 : Int), false)] ∧ rowAt w' (.slice o6 1 c6) 2 nC [((1 : Int), true)] ∧ Below W.heap.size W w') := fun W T hT => by
    subst hT
    exact parse_call hby _ (by decide +kernel) [((0 : Int), false)] [((1 : Int), true)] pw1.1 pw1.2 W
  clear hby
  go_enter Try.func4, Try.ntmps4
  go_wp2_with fail
  refine (sign_false _).mono ?_
  rintro e wx ⟨rfl, hwx⟩
  obtain rfl := hwx.symm
  go_wp2_with fail
  refine (sign_true _).mono ?_
  rintro e wx ⟨rfl, hwx⟩
  obtain rfl := hwx.symm
  go_wp2_with fail
  refine (D.out _ _ (by decide +kernel)).mono ?_
  rintro en w2 ⟨o0, n0, c0, o1, n1, c1, o2, n2, c2, g, off, c3, nm, fr, tw, o4, n4, c4, o5, c5, o6, c6, rfl, ⟨q0, q1, q2, q3, q4, q5⟩, hp, hf, hb⟩
  have HB : Hid (Below w.heap.size w w2) := hb
  have hlt := World.block_lt_of_cell? w2 _ q0
  have HCH : Hid (Below w2.heap.size w2 ((((w2.alloc (.cells #[.slice o0 n0 c0, .slice o1 n1 c1, .slice o2 n2 c2, .slice (some ⟨g, off, none⟩) 1 c3] 26)).alloc (.cells #[.string nm, .int .i64 fr, .int .i64 tw, .slice o4 n4 c4, .slice o5 1 c5, .slice o6 1 c6] 36)).alloc (.cells #[.int .i64 0, .bool false] 38)).alloc (.cells #[.int .i64 1, .bool true] 38))) := ((((Below.refl _ _).alloc (Nat.le_refl _) _).alloc (by simp) _).alloc (by simp; omega) _).alloc (by simp; omega) _
  obtain ⟨p6, k6, e6, h6⟩ := hf
  simp only [Value.slice.injEq] at e6
  obtain ⟨rfl, -, rfl⟩ := e6
  obtain ⟨gf, of, rfl, hcf⟩ := h6 0 _ rfl
  obtain ⟨p5, k5, e5, h5⟩ := hp
  simp only [Value.slice.injEq] at e5
  obtain ⟨rfl, -, rfl⟩ := e5
  obtain ⟨gp, op, rfl, hcp⟩ := h5 0 _ rfl
  have y0 := hcp 0 _ rfl
  have y1 := hcp 1 _ rfl
  have y2 := hcf 0 _ rfl
  have y3 := hcf 1 _ rfl
  simp only [Nat.zero_mul, Nat.add_zero] at y0 y1 y2 y3
  have HFIN : Hid (Below w.heap.size w ((((w2.alloc (.cells #[.slice o0 n0 c0, .slice o1 n1 c1, .slice o2 n2 c2, .slice (some ⟨g, off, none⟩) 1 c3] 26)).alloc (.cells #[.string nm, .int .i64 fr, .int .i64 tw, .slice o4 n4 c4, .slice (some ⟨gp, op, none⟩) 1 c5, .slice (some ⟨gf, of, none⟩) 1 c6] 36)).alloc (.cells #[.int .i64 0, .bool false] 38)).alloc (.cells #[.int .i64 1, .bool true] 38))) := stepB HB.out HCH.out
  clear hb h6 hcf HB
  have s0 : (w2.alloc (.cells #[.slice o0 n0 c0, .slice o1 n1 c1, .slice o2 n2 c2, .slice (some ⟨g, off, none⟩) 1 c3] 26)).cell? ⟨g, off, none⟩ = some (.string nm) := (((Below.refl _ w2).alloc (Nat.le_refl _) _).cell (p := ⟨g, off, none⟩) hlt).trans q0
  have s1 : (w2.alloc (.cells #[.slice o0 n0 c0, .slice o1 n1 c1, .slice o2 n2 c2, .slice (some ⟨g, off, none⟩) 1 c3] 26)).cell? ⟨g, off + 1, none⟩ = some (.int .i64 fr) := (((Below.refl _ w2).alloc (Nat.le_refl _) _).cell (p := ⟨g, off + 1, none⟩) hlt).trans q1
  have s2 : (w2.alloc (.cells #[.slice o0 n0 c0, .slice o1 n1 c1, .slice o2 n2 c2, .slice (some ⟨g, off, none⟩) 1 c3] 26)).cell? ⟨g, off + 2, none⟩ = some (.int .i64 tw) := (((Below.refl _ w2).alloc (Nat.le_refl _) _).cell (p := ⟨g, off + 2, none⟩) hlt).trans q2
  have s3 : (w2.alloc (.cells #[.slice o0 n0 c0, .slice o1 n1 c1, .slice o2 n2 c2, .slice (some ⟨g, off, none⟩) 1 c3] 26)).cell? ⟨g, off + 3, none⟩ = some (.slice o4 n4 c4) := (((Below.refl _ w2).alloc (Nat.le_refl _) _).cell (p := ⟨g, off + 3, none⟩) hlt).trans q3
  have s4 : (w2.alloc (.cells #[.slice o0 n0 c0, .slice o1 n1 c1, .slice o2 n2 c2, .slice (some ⟨g, off, none⟩) 1 c3] 26)).cell? ⟨g, off + 4, none⟩ = some (.slice (some ⟨gp, op, none⟩) 1 c5) := (((Below.refl _ w2).alloc (Nat.le_refl _) _).cell (p := ⟨g, off + 4, none⟩) hlt).trans q4
  have s5 : (w2.alloc (.cells #[.slice o0 n0 c0, .slice o1 n1 c1, .slice o2 n2 c2, .slice (some ⟨g, off, none⟩) 1 c3] 26)).cell? ⟨g, off + 5, none⟩ = some (.slice (some ⟨gf, of, none⟩) 1 c6) := (((Below.refl _ w2).alloc (Nat.le_refl _) _).cell (p := ⟨g, off + 5, none⟩) hlt).trans q5
  clear q0 q1 q2 q3 q4 q5
  go_wp2
  have zy0 : ∀ z : Ext ((((w2.alloc (.cells #[.slice o0 n0 c0, .slice o1 n1 c1, .slice o2 n2 c2, .slice (some ⟨g, off, none⟩) 1 c3] 26)).alloc (.cells #[.string nm, .int .i64 fr, .int .i64 tw, .slice o4 n4 c4, .slice (some ⟨gp, op, none⟩) 1 c5, .slice (some ⟨gf, of, none⟩) 1 c6] 36)).alloc (.cells #[.int .i64 0, .bool false] 38)).alloc (.cells #[.int .i64 1, .bool true] 38)), z.z.cell? ⟨gp, op, none⟩ = some (.int .i64 0) := ext_cell ((HCH.out.cell (p := ⟨gp, op, none⟩) (World.block_lt_of_cell? w2 _ y0)).trans y0)
  have zy1 : ∀ z : Ext ((((w2.alloc (.cells #[.slice o0 n0 c0, .slice o1 n1 c1, .slice o2 n2 c2, .slice (some ⟨g, off, none⟩) 1 c3] 26)).alloc (.cells #[.string nm, .int .i64 fr, .int .i64 tw, .slice o4 n4 c4, .slice (some ⟨gp, op, none⟩) 1 c5, .slice (some ⟨gf, of, none⟩) 1 c6] 36)).alloc (.cells #[.int .i64 0, .bool false] 38)).alloc (.cells #[.int .i64 1, .bool true] 38)), z.z.cell? ⟨gp, op + 1, none⟩ = some (.bool false) := ext_cell ((HCH.out.cell (p := ⟨gp, op + 1, none⟩) (World.block_lt_of_cell? w2 _ y1)).trans y1)
  have zy2 : ∀ z : Ext ((((w2.alloc (.cells #[.slice o0 n0 c0, .slice o1 n1 c1, .slice o2 n2 c2, .slice (some ⟨g, off, none⟩) 1 c3] 26)).alloc (.cells #[.string nm, .int .i64 fr, .int .i64 tw, .slice o4 n4 c4, .slice (some ⟨gp, op, none⟩) 1 c5, .slice (some ⟨gf, of, none⟩) 1 c6] 36)).alloc (.cells #[.int .i64 0, .bool false] 38)).alloc (.cells #[.int .i64 1, .bool true] 38)), z.z.cell? ⟨gf, of, none⟩ = some (.int .i64 1) := ext_cell ((HCH.out.cell (p := ⟨gf, of, none⟩) (World.block_lt_of_cell? w2 _ y2)).trans y2)
  have zy3 : ∀ z : Ext ((((w2.alloc (.cells #[.slice o0 n0 c0, .slice o1 n1 c1, .slice o2 n2 c2, .slice (some ⟨g, off, none⟩) 1 c3] 26)).alloc (.cells #[.string nm, .int .i64 fr, .int .i64 tw, .slice o4 n4 c4, .slice (some ⟨gp, op, none⟩) 1 c5, .slice (some ⟨gf, of, none⟩) 1 c6] 36)).alloc (.cells #[.int .i64 0, .bool false] 38)).alloc (.cells #[.int .i64 1, .bool true] 38)), z.z.cell? ⟨gf, of + 1, none⟩ = some (.bool true) := ext_cell ((HCH.out.cell (p := ⟨gf, of + 1, none⟩) (World.block_lt_of_cell? w2 _ y3)).trans y3)
  have hRT : ((((w2.alloc (.cells #[.slice o0 n0 c0, .slice o1 n1 c1, .slice o2 n2 c2, .slice (some ⟨g, off, none⟩) 1 c3] 26)).alloc (.cells #[.string nm, .int .i64 fr, .int .i64 tw, .slice o4 n4 c4, .slice (some ⟨gp, op, none⟩) 1 c5, .slice (some ⟨gf, of, none⟩) 1 c6] 36)).alloc (.cells #[.int .i64 0, .bool false] 38)).alloc (.cells #[.int .i64 1, .bool true] 38)).heap[w2.heap.size + 1]? = some (.cells #[.string nm, .int .i64 fr, .int .i64 tw, .slice o4 n4 c4, .slice (some ⟨gp, op, none⟩) 1 c5, .slice (some ⟨gf, of, none⟩) 1 c6] 36) := blk_old (blk_old (by have := blk_new (w2.alloc (.cells #[.slice o0 n0 c0, .slice o1 n1 c1, .slice o2 n2 c2, .slice (some ⟨g, off, none⟩) 1 c3] 26)) (.cells #[.string nm, .int .i64 fr, .int .i64 tw, .slice o4 n4 c4, .slice (some ⟨gp, op, none⟩) 1 c5, .slice (some ⟨gf, of, none⟩) 1 c6] 36); rw [World.size_alloc] at this; exact this))
  have hX : ((((w2.alloc (.cells #[.slice o0 n0 c0, .slice o1 n1 c1, .slice o2 n2 c2, .slice (some ⟨g, off, none⟩) 1 c3] 26)).alloc (.cells #[.string nm, .int .i64 fr, .int .i64 tw, .slice o4 n4 c4, .slice (some ⟨gp, op, none⟩) 1 c5, .slice (some ⟨gf, of, none⟩) 1 c6] 36)).alloc (.cells #[.int .i64 0, .bool false] 38)).alloc (.cells #[.int .i64 1, .bool true] 38)).heap[w2.heap.size + 1 + 1]? = some (.cells #[.int .i64 0, .bool false] 38) := blk_old (by have := blk_new ((w2.alloc (.cells #[.slice o0 n0 c0, .slice o1 n1 c1, .slice o2 n2 c2, .slice (some ⟨g, off, none⟩) 1 c3] 26)).alloc (.cells #[.string nm, .int .i64 fr, .int .i64 tw, .slice o4 n4 c4, .slice (some ⟨gp, op, none⟩) 1 c5, .slice (some ⟨gf, of, none⟩) 1 c6] 36)) (.cells #[.int .i64 0, .bool false] 38); rw [World.size_alloc, World.size_alloc] at this; exact this)
  have hY : ((((w2.alloc (.cells #[.slice o0 n0 c0, .slice o1 n1 c1, .slice o2 n2 c2, .slice (some ⟨g, off, none⟩) 1 c3] 26)).alloc (.cells #[.string nm, .int .i64 fr, .int .i64 tw, .slice o4 n4 c4, .slice (some ⟨gp, op, none⟩) 1 c5, .slice (some ⟨gf, of, none⟩) 1 c6] 36)).alloc (.cells #[.int .i64 0, .bool false] 38)).alloc (.cells #[.int .i64 1, .bool true] 38)).heap[w2.heap.size + 1 + 1 + 1]? = some (.cells #[.int .i64 1, .bool true] 38) := by have := blk_new (((w2.alloc (.cells #[.slice o0 n0 c0, .slice o1 n1 c1, .slice o2 n2 c2, .slice (some ⟨g, off, none⟩) 1 c3] 26)).alloc (.cells #[.string nm, .int .i64 fr, .int .i64 tw, .slice o4 n4 c4, .slice (some ⟨gp, op, none⟩) 1 c5, .slice (some ⟨gf, of, none⟩) 1 c6] 36)).alloc (.cells #[.int .i64 0, .bool false] 38)) (.cells #[.int .i64 1, .bool true] 38); rw [World.size_alloc, World.size_alloc, World.size_alloc] at this; exact this
  have r4 : ∀ z : Ext ((((w2.alloc (.cells #[.slice o0 n0 c0, .slice o1 n1 c1, .slice o2 n2 c2, .slice (some ⟨g, off, none⟩) 1 c3] 26)).alloc (.cells #[.string nm, .int .i64 fr, .int .i64 tw, .slice o4 n4 c4, .slice (some ⟨gp, op, none⟩) 1 c5, .slice (some ⟨gf, of, none⟩) 1 c6] 36)).alloc (.cells #[.int .i64 0, .bool false] 38)).alloc (.cells #[.int .i64 1, .bool true] 38)), z.z.cell? ⟨w2.heap.size + 1, 4, none⟩ = some (.slice (some ⟨gp, op, none⟩) 1 c5) := ext_cell (six_cells hRT).1.2.2.2.2.1
  have r5 : ∀ z : Ext ((((w2.alloc (.cells #[.slice o0 n0 c0, .slice o1 n1 c1, .slice o2 n2 c2, .slice (some ⟨g, off, none⟩) 1 c3] 26)).alloc (.cells #[.string nm, .int .i64 fr, .int .i64 tw, .slice o4 n4 c4, .slice (some ⟨gp, op, none⟩) 1 c5, .slice (some ⟨gf, of, none⟩) 1 c6] 36)).alloc (.cells #[.int .i64 0, .bool false] 38)).alloc (.cells #[.int .i64 1, .bool true] 38)), z.z.cell? ⟨w2.heap.size + 1, 5, none⟩ = some (.slice (some ⟨gf, of, none⟩) 1 c6) := ext_cell (six_cells hRT).1.2.2.2.2.2
  have x0 : ∀ z : Ext ((((w2.alloc (.cells #[.slice o0 n0 c0, .slice o1 n1 c1, .slice o2 n2 c2, .slice (some ⟨g, off, none⟩) 1 c3] 26)).alloc (.cells #[.string nm, .int .i64 fr, .int .i64 tw, .slice o4 n4 c4, .slice (some ⟨gp, op, none⟩) 1 c5, .slice (some ⟨gf, of, none⟩) 1 c6] 36)).alloc (.cells #[.int .i64 0, .bool false] 38)).alloc (.cells #[.int .i64 1, .bool true] 38)), z.z.cell? ⟨w2.heap.size + 1 + 1, 0, none⟩ = some (.int .i64 0) := ext_cell (two_cells hX).1
  have x1 : ∀ z : Ext ((((w2.alloc (.cells #[.slice o0 n0 c0, .slice o1 n1 c1, .slice o2 n2 c2, .slice (some ⟨g, off, none⟩) 1 c3] 26)).alloc (.cells #[.string nm, .int .i64 fr, .int .i64 tw, .slice o4 n4 c4, .slice (some ⟨gp, op, none⟩) 1 c5, .slice (some ⟨gf, of, none⟩) 1 c6] 36)).alloc (.cells #[.int .i64 0, .bool false] 38)).alloc (.cells #[.int .i64 1, .bool true] 38)), z.z.cell? ⟨w2.heap.size + 1 + 1, 1, none⟩ = some (.bool false) := ext_cell (two_cells hX).2.1
  have v0 : ∀ z : Ext ((((w2.alloc (.cells #[.slice o0 n0 c0, .slice o1 n1 c1, .slice o2 n2 c2, .slice (some ⟨g, off, none⟩) 1 c3] 26)).alloc (.cells #[.string nm, .int .i64 fr, .int .i64 tw, .slice o4 n4 c4, .slice (some ⟨gp, op, none⟩) 1 c5, .slice (some ⟨gf, of, none⟩) 1 c6] 36)).alloc (.cells #[.int .i64 0, .bool false] 38)).alloc (.cells #[.int .i64 1, .bool true] 38)), z.z.cell? ⟨w2.heap.size + 1 + 1 + 1, 0, none⟩ = some (.int .i64 1) := ext_cell (two_cells hY).1
  have v1 : ∀ z : Ext ((((w2.alloc (.cells #[.slice o0 n0 c0, .slice o1 n1 c1, .slice o2 n2 c2, .slice (some ⟨g, off, none⟩) 1 c3] 26)).alloc (.cells #[.string nm, .int .i64 fr, .int .i64 tw, .slice o4 n4 c4, .slice (some ⟨gp, op, none⟩) 1 c5, .slice (some ⟨gf, of, none⟩) 1 c6] 36)).alloc (.cells #[.int .i64 0, .bool false] 38)).alloc (.cells #[.int .i64 1, .bool true] 38)), z.z.cell? ⟨w2.heap.size + 1 + 1 + 1, 1, none⟩ = some (.bool true) := ext_cell (two_cells hY).2.1
  clear hRT hX hY
  haveI : Nonempty (Ext ((((w2.alloc (.cells #[.slice o0 n0 c0, .slice o1 n1 c1, .slice o2 n2 c2, .slice (some ⟨g, off, none⟩) 1 c3] 26)).alloc (.cells #[.string nm, .int .i64 fr, .int .i64 tw, .slice o4 n4 c4, .slice (some ⟨gp, op, none⟩) 1 c5, .slice (some ⟨gf, of, none⟩) 1 c6] 36)).alloc (.cells #[.int .i64 0, .bool false] 38)).alloc (.cells #[.int .i64 1, .bool true] 38))) := ⟨⟨_, Below.refl _ _⟩⟩
  have e1 := run_eqlN 0 0 false false
  rw [decide_eq_true (show (0 : Int) = 0 ∧ false = false from ⟨rfl, rfl⟩)] at e1
  have e2 := run_eqlN 1 1 true true
  rw [decide_eq_true (show (1 : Int) = 1 ∧ true = true from ⟨rfl, rfl⟩)] at e2
  have e3 := eqGuardN
  refine wp_region_ext (by kernel_rfl) (by kernel_rfl) ?_
  repeat (first | go_big_quiet_skip | (go_big_quiet_want; go_big_quiet_op; first | go_big_quiet_on | (apply Exists.intro; refine ⟨fun _ => ?_, ?_⟩; (go_at_call 6; exact ext_of (known_any HBY.out _)); go_big_quiet_on)))
  refine wpQuiet_nil ?_
  intro _ hw'
  obtain ⟨z, hw''⟩ := hw'
  subst hw''
  go_wp2
  go_ret
  exact ⟨rfl, stepB HFIN.out z.h⟩

theorem pw2 : (parseP ⟨#[115, 101, 99, 116, 105, 111, 110, 32, 97, 10, 115, 105, 103, 110, 97, 108, 32, 115, 10, 115, 105, 103, 110, 97, 108, 32, 116, 10, 112, 111, 105, 110, 116, 32, 112, 32, 105, 110, 32, 97, 10, 112, 111, 105, 110, 116, 32, 113, 32, 105, 110, 32, 97, 10, 114, 111, 117, 116, 101, 32, 114, 32, 102, 114, 111, 109, 32, 115, 32, 116, 111, 32, 116, 32, 118, 105, 97, 32, 97, 32, 115, 101, 116, 32, 112, 45, 32, 102, 108, 97, 110, 107, 32, 113, 43]⟩).2 = (6, 0) ∧ (parseP ⟨#[115, 101, 99, 116, 105, 111, 110, 32, 97, 10, 115, 105, 103, 110, 97, 108, 32, 115, 10, 115, 105, 103, 110, 97, 108, 32, 116, 10, 112, 111, 105, 110, 116, 32, 112, 32, 105, 110, 32, 97, 10, 112, 111, 105, 110, 116, 32, 113, 32, 105, 110, 32, 97, 10, 114, 111, 117, 116, 101, 32, 114, 32, 102, 114, 111, 109, 32, 115, 32, 116, 111, 32, 116, 32, 118, 105, 97, 32, 97, 32, 115, 101, 116, 32, 112, 45, 32, 102, 108, 97, 110, 107, 32, 113, 43]⟩).1.routes.map (fun r => (r.points, r.flank)) = [([((0 : Int), true)], [((1 : Int), false)])] := by decide +kernel
set_option maxRecDepth 1000000 in
set_option maxHeartbeats 4000000 in
theorem walk2 (hby : BySaid) (w : World) : Calls Try.prog 4 #[.bool true, .bool false, .bool false] w fun e w' => e = .returned (.bool true) ∧ Below w.heap.size w w' := by
  have HBY : Hid BySaid := hby
  have D : Hid (∀ W T, T = ⟨#[115, 101, 99, 116, 105, 111, 110, 32, 97, 10, 115, 105, 103, 110, 97, 108, 32, 115, 10, 115, 105, 103, 110, 97, 108, 32, 116, 10, 112, 111, 105, 110, 116, 32, 112, 32, 105, 110, 32, 97, 10, 112, 111, 105, 110, 116, 32, 113, 32, 105, 110, 32, 97, 10, 114, 111, 117, 116, 101, 32, 114, 32, 102, 114, 111, 109, 32, 115, 32, 116, 111, 32, 116, 32, 118, 105, 97, 32, 97, 32, 115, 101, 116, 32, 112, 45, 32, 102, 108, 97, 110, 107, 32, 113, 43]⟩ → Calls Try.prog 5 #[.string T] W fun en w' => ∃ o0 n0 c0 o1 n1 c1 o2 n2 c2 g off c3 nm fr tw o4 n4 c4 o5 c5 o6 c6, en = .returned (.tuple #[.agg #[.slice o0 n0 c0, .slice o1 n1 c1, .slice o2 n2 c2, .slice (some ⟨g, off, none⟩) 1 c3], .int .i64 6, .int .i64 0]) ∧
      (w'.cell? ⟨g, off, none⟩ = some (.string nm) ∧ w'.cell? ⟨g, off + 1, none⟩ = some (.int .i64 fr) ∧ w'.cell? ⟨g, off + 2, none⟩ = some (.int .i64 tw) ∧ w'.cell? ⟨g, off + 3, none⟩ = some (.slice o4 n4 c4) ∧ w'.cell? ⟨g, off + 4, none⟩ = some (.slice o5 1 c5) ∧ w'.cell? ⟨g, off + 5, none⟩ = some (.slice o6 1 c6)) ∧
      rowAt w' (.slice o5 1 c5) 2 nC [((0 : Int), true)] ∧ rowAt w' (.slice o6 1 c6) 2 nC [((1 : Int), false)] ∧ Below W.heap.size W w') := fun W T hT => by
    subst hT
    exact parse_call hby _ (by decide +kernel) [((0 : Int), true)] [((1 : Int), false)] pw2.1 pw2.2 W
  clear hby
  go_enter Try.func4, Try.ntmps4
  go_wp2_with fail
  refine (sign_true _).mono ?_
  rintro e wx ⟨rfl, hwx⟩
  obtain rfl := hwx.symm
  go_wp2_with fail
  refine (sign_false _).mono ?_
  rintro e wx ⟨rfl, hwx⟩
  obtain rfl := hwx.symm
  go_wp2_with fail
  refine (D.out _ _ (by decide +kernel)).mono ?_
  rintro en w2 ⟨o0, n0, c0, o1, n1, c1, o2, n2, c2, g, off, c3, nm, fr, tw, o4, n4, c4, o5, c5, o6, c6, rfl, ⟨q0, q1, q2, q3, q4, q5⟩, hp, hf, hb⟩
  have HB : Hid (Below w.heap.size w w2) := hb
  have hlt := World.block_lt_of_cell? w2 _ q0
  have HCH : Hid (Below w2.heap.size w2 ((((w2.alloc (.cells #[.slice o0 n0 c0, .slice o1 n1 c1, .slice o2 n2 c2, .slice (some ⟨g, off, none⟩) 1 c3] 26)).alloc (.cells #[.string nm, .int .i64 fr, .int .i64 tw, .slice o4 n4 c4, .slice o5 1 c5, .slice o6 1 c6] 36)).alloc (.cells #[.int .i64 0, .bool true] 38)).alloc (.cells #[.int .i64 1, .bool false] 38))) := ((((Below.refl _ _).alloc (Nat.le_refl _) _).alloc (by simp) _).alloc (by simp; omega) _).alloc (by simp; omega) _
  obtain ⟨p6, k6, e6, h6⟩ := hf
  simp only [Value.slice.injEq] at e6
  obtain ⟨rfl, -, rfl⟩ := e6
  obtain ⟨gf, of, rfl, hcf⟩ := h6 0 _ rfl
  obtain ⟨p5, k5, e5, h5⟩ := hp
  simp only [Value.slice.injEq] at e5
  obtain ⟨rfl, -, rfl⟩ := e5
  obtain ⟨gp, op, rfl, hcp⟩ := h5 0 _ rfl
  have y0 := hcp 0 _ rfl
  have y1 := hcp 1 _ rfl
  have y2 := hcf 0 _ rfl
  have y3 := hcf 1 _ rfl
  simp only [Nat.zero_mul, Nat.add_zero] at y0 y1 y2 y3
  have HFIN : Hid (Below w.heap.size w ((((w2.alloc (.cells #[.slice o0 n0 c0, .slice o1 n1 c1, .slice o2 n2 c2, .slice (some ⟨g, off, none⟩) 1 c3] 26)).alloc (.cells #[.string nm, .int .i64 fr, .int .i64 tw, .slice o4 n4 c4, .slice (some ⟨gp, op, none⟩) 1 c5, .slice (some ⟨gf, of, none⟩) 1 c6] 36)).alloc (.cells #[.int .i64 0, .bool true] 38)).alloc (.cells #[.int .i64 1, .bool false] 38))) := stepB HB.out HCH.out
  clear hb h6 hcf HB
  have s0 : (w2.alloc (.cells #[.slice o0 n0 c0, .slice o1 n1 c1, .slice o2 n2 c2, .slice (some ⟨g, off, none⟩) 1 c3] 26)).cell? ⟨g, off, none⟩ = some (.string nm) := (((Below.refl _ w2).alloc (Nat.le_refl _) _).cell (p := ⟨g, off, none⟩) hlt).trans q0
  have s1 : (w2.alloc (.cells #[.slice o0 n0 c0, .slice o1 n1 c1, .slice o2 n2 c2, .slice (some ⟨g, off, none⟩) 1 c3] 26)).cell? ⟨g, off + 1, none⟩ = some (.int .i64 fr) := (((Below.refl _ w2).alloc (Nat.le_refl _) _).cell (p := ⟨g, off + 1, none⟩) hlt).trans q1
  have s2 : (w2.alloc (.cells #[.slice o0 n0 c0, .slice o1 n1 c1, .slice o2 n2 c2, .slice (some ⟨g, off, none⟩) 1 c3] 26)).cell? ⟨g, off + 2, none⟩ = some (.int .i64 tw) := (((Below.refl _ w2).alloc (Nat.le_refl _) _).cell (p := ⟨g, off + 2, none⟩) hlt).trans q2
  have s3 : (w2.alloc (.cells #[.slice o0 n0 c0, .slice o1 n1 c1, .slice o2 n2 c2, .slice (some ⟨g, off, none⟩) 1 c3] 26)).cell? ⟨g, off + 3, none⟩ = some (.slice o4 n4 c4) := (((Below.refl _ w2).alloc (Nat.le_refl _) _).cell (p := ⟨g, off + 3, none⟩) hlt).trans q3
  have s4 : (w2.alloc (.cells #[.slice o0 n0 c0, .slice o1 n1 c1, .slice o2 n2 c2, .slice (some ⟨g, off, none⟩) 1 c3] 26)).cell? ⟨g, off + 4, none⟩ = some (.slice (some ⟨gp, op, none⟩) 1 c5) := (((Below.refl _ w2).alloc (Nat.le_refl _) _).cell (p := ⟨g, off + 4, none⟩) hlt).trans q4
  have s5 : (w2.alloc (.cells #[.slice o0 n0 c0, .slice o1 n1 c1, .slice o2 n2 c2, .slice (some ⟨g, off, none⟩) 1 c3] 26)).cell? ⟨g, off + 5, none⟩ = some (.slice (some ⟨gf, of, none⟩) 1 c6) := (((Below.refl _ w2).alloc (Nat.le_refl _) _).cell (p := ⟨g, off + 5, none⟩) hlt).trans q5
  clear q0 q1 q2 q3 q4 q5
  go_wp2
  have zy0 : ∀ z : Ext ((((w2.alloc (.cells #[.slice o0 n0 c0, .slice o1 n1 c1, .slice o2 n2 c2, .slice (some ⟨g, off, none⟩) 1 c3] 26)).alloc (.cells #[.string nm, .int .i64 fr, .int .i64 tw, .slice o4 n4 c4, .slice (some ⟨gp, op, none⟩) 1 c5, .slice (some ⟨gf, of, none⟩) 1 c6] 36)).alloc (.cells #[.int .i64 0, .bool true] 38)).alloc (.cells #[.int .i64 1, .bool false] 38)), z.z.cell? ⟨gp, op, none⟩ = some (.int .i64 0) := ext_cell ((HCH.out.cell (p := ⟨gp, op, none⟩) (World.block_lt_of_cell? w2 _ y0)).trans y0)
  have zy1 : ∀ z : Ext ((((w2.alloc (.cells #[.slice o0 n0 c0, .slice o1 n1 c1, .slice o2 n2 c2, .slice (some ⟨g, off, none⟩) 1 c3] 26)).alloc (.cells #[.string nm, .int .i64 fr, .int .i64 tw, .slice o4 n4 c4, .slice (some ⟨gp, op, none⟩) 1 c5, .slice (some ⟨gf, of, none⟩) 1 c6] 36)).alloc (.cells #[.int .i64 0, .bool true] 38)).alloc (.cells #[.int .i64 1, .bool false] 38)), z.z.cell? ⟨gp, op + 1, none⟩ = some (.bool true) := ext_cell ((HCH.out.cell (p := ⟨gp, op + 1, none⟩) (World.block_lt_of_cell? w2 _ y1)).trans y1)
  have zy2 : ∀ z : Ext ((((w2.alloc (.cells #[.slice o0 n0 c0, .slice o1 n1 c1, .slice o2 n2 c2, .slice (some ⟨g, off, none⟩) 1 c3] 26)).alloc (.cells #[.string nm, .int .i64 fr, .int .i64 tw, .slice o4 n4 c4, .slice (some ⟨gp, op, none⟩) 1 c5, .slice (some ⟨gf, of, none⟩) 1 c6] 36)).alloc (.cells #[.int .i64 0, .bool true] 38)).alloc (.cells #[.int .i64 1, .bool false] 38)), z.z.cell? ⟨gf, of, none⟩ = some (.int .i64 1) := ext_cell ((HCH.out.cell (p := ⟨gf, of, none⟩) (World.block_lt_of_cell? w2 _ y2)).trans y2)
  have zy3 : ∀ z : Ext ((((w2.alloc (.cells #[.slice o0 n0 c0, .slice o1 n1 c1, .slice o2 n2 c2, .slice (some ⟨g, off, none⟩) 1 c3] 26)).alloc (.cells #[.string nm, .int .i64 fr, .int .i64 tw, .slice o4 n4 c4, .slice (some ⟨gp, op, none⟩) 1 c5, .slice (some ⟨gf, of, none⟩) 1 c6] 36)).alloc (.cells #[.int .i64 0, .bool true] 38)).alloc (.cells #[.int .i64 1, .bool false] 38)), z.z.cell? ⟨gf, of + 1, none⟩ = some (.bool false) := ext_cell ((HCH.out.cell (p := ⟨gf, of + 1, none⟩) (World.block_lt_of_cell? w2 _ y3)).trans y3)
  have hRT : ((((w2.alloc (.cells #[.slice o0 n0 c0, .slice o1 n1 c1, .slice o2 n2 c2, .slice (some ⟨g, off, none⟩) 1 c3] 26)).alloc (.cells #[.string nm, .int .i64 fr, .int .i64 tw, .slice o4 n4 c4, .slice (some ⟨gp, op, none⟩) 1 c5, .slice (some ⟨gf, of, none⟩) 1 c6] 36)).alloc (.cells #[.int .i64 0, .bool true] 38)).alloc (.cells #[.int .i64 1, .bool false] 38)).heap[w2.heap.size + 1]? = some (.cells #[.string nm, .int .i64 fr, .int .i64 tw, .slice o4 n4 c4, .slice (some ⟨gp, op, none⟩) 1 c5, .slice (some ⟨gf, of, none⟩) 1 c6] 36) := blk_old (blk_old (by have := blk_new (w2.alloc (.cells #[.slice o0 n0 c0, .slice o1 n1 c1, .slice o2 n2 c2, .slice (some ⟨g, off, none⟩) 1 c3] 26)) (.cells #[.string nm, .int .i64 fr, .int .i64 tw, .slice o4 n4 c4, .slice (some ⟨gp, op, none⟩) 1 c5, .slice (some ⟨gf, of, none⟩) 1 c6] 36); rw [World.size_alloc] at this; exact this))
  have hX : ((((w2.alloc (.cells #[.slice o0 n0 c0, .slice o1 n1 c1, .slice o2 n2 c2, .slice (some ⟨g, off, none⟩) 1 c3] 26)).alloc (.cells #[.string nm, .int .i64 fr, .int .i64 tw, .slice o4 n4 c4, .slice (some ⟨gp, op, none⟩) 1 c5, .slice (some ⟨gf, of, none⟩) 1 c6] 36)).alloc (.cells #[.int .i64 0, .bool true] 38)).alloc (.cells #[.int .i64 1, .bool false] 38)).heap[w2.heap.size + 1 + 1]? = some (.cells #[.int .i64 0, .bool true] 38) := blk_old (by have := blk_new ((w2.alloc (.cells #[.slice o0 n0 c0, .slice o1 n1 c1, .slice o2 n2 c2, .slice (some ⟨g, off, none⟩) 1 c3] 26)).alloc (.cells #[.string nm, .int .i64 fr, .int .i64 tw, .slice o4 n4 c4, .slice (some ⟨gp, op, none⟩) 1 c5, .slice (some ⟨gf, of, none⟩) 1 c6] 36)) (.cells #[.int .i64 0, .bool true] 38); rw [World.size_alloc, World.size_alloc] at this; exact this)
  have hY : ((((w2.alloc (.cells #[.slice o0 n0 c0, .slice o1 n1 c1, .slice o2 n2 c2, .slice (some ⟨g, off, none⟩) 1 c3] 26)).alloc (.cells #[.string nm, .int .i64 fr, .int .i64 tw, .slice o4 n4 c4, .slice (some ⟨gp, op, none⟩) 1 c5, .slice (some ⟨gf, of, none⟩) 1 c6] 36)).alloc (.cells #[.int .i64 0, .bool true] 38)).alloc (.cells #[.int .i64 1, .bool false] 38)).heap[w2.heap.size + 1 + 1 + 1]? = some (.cells #[.int .i64 1, .bool false] 38) := by have := blk_new (((w2.alloc (.cells #[.slice o0 n0 c0, .slice o1 n1 c1, .slice o2 n2 c2, .slice (some ⟨g, off, none⟩) 1 c3] 26)).alloc (.cells #[.string nm, .int .i64 fr, .int .i64 tw, .slice o4 n4 c4, .slice (some ⟨gp, op, none⟩) 1 c5, .slice (some ⟨gf, of, none⟩) 1 c6] 36)).alloc (.cells #[.int .i64 0, .bool true] 38)) (.cells #[.int .i64 1, .bool false] 38); rw [World.size_alloc, World.size_alloc, World.size_alloc] at this; exact this
  have r4 : ∀ z : Ext ((((w2.alloc (.cells #[.slice o0 n0 c0, .slice o1 n1 c1, .slice o2 n2 c2, .slice (some ⟨g, off, none⟩) 1 c3] 26)).alloc (.cells #[.string nm, .int .i64 fr, .int .i64 tw, .slice o4 n4 c4, .slice (some ⟨gp, op, none⟩) 1 c5, .slice (some ⟨gf, of, none⟩) 1 c6] 36)).alloc (.cells #[.int .i64 0, .bool true] 38)).alloc (.cells #[.int .i64 1, .bool false] 38)), z.z.cell? ⟨w2.heap.size + 1, 4, none⟩ = some (.slice (some ⟨gp, op, none⟩) 1 c5) := ext_cell (six_cells hRT).1.2.2.2.2.1
  have r5 : ∀ z : Ext ((((w2.alloc (.cells #[.slice o0 n0 c0, .slice o1 n1 c1, .slice o2 n2 c2, .slice (some ⟨g, off, none⟩) 1 c3] 26)).alloc (.cells #[.string nm, .int .i64 fr, .int .i64 tw, .slice o4 n4 c4, .slice (some ⟨gp, op, none⟩) 1 c5, .slice (some ⟨gf, of, none⟩) 1 c6] 36)).alloc (.cells #[.int .i64 0, .bool true] 38)).alloc (.cells #[.int .i64 1, .bool false] 38)), z.z.cell? ⟨w2.heap.size + 1, 5, none⟩ = some (.slice (some ⟨gf, of, none⟩) 1 c6) := ext_cell (six_cells hRT).1.2.2.2.2.2
  have x0 : ∀ z : Ext ((((w2.alloc (.cells #[.slice o0 n0 c0, .slice o1 n1 c1, .slice o2 n2 c2, .slice (some ⟨g, off, none⟩) 1 c3] 26)).alloc (.cells #[.string nm, .int .i64 fr, .int .i64 tw, .slice o4 n4 c4, .slice (some ⟨gp, op, none⟩) 1 c5, .slice (some ⟨gf, of, none⟩) 1 c6] 36)).alloc (.cells #[.int .i64 0, .bool true] 38)).alloc (.cells #[.int .i64 1, .bool false] 38)), z.z.cell? ⟨w2.heap.size + 1 + 1, 0, none⟩ = some (.int .i64 0) := ext_cell (two_cells hX).1
  have x1 : ∀ z : Ext ((((w2.alloc (.cells #[.slice o0 n0 c0, .slice o1 n1 c1, .slice o2 n2 c2, .slice (some ⟨g, off, none⟩) 1 c3] 26)).alloc (.cells #[.string nm, .int .i64 fr, .int .i64 tw, .slice o4 n4 c4, .slice (some ⟨gp, op, none⟩) 1 c5, .slice (some ⟨gf, of, none⟩) 1 c6] 36)).alloc (.cells #[.int .i64 0, .bool true] 38)).alloc (.cells #[.int .i64 1, .bool false] 38)), z.z.cell? ⟨w2.heap.size + 1 + 1, 1, none⟩ = some (.bool true) := ext_cell (two_cells hX).2.1
  have v0 : ∀ z : Ext ((((w2.alloc (.cells #[.slice o0 n0 c0, .slice o1 n1 c1, .slice o2 n2 c2, .slice (some ⟨g, off, none⟩) 1 c3] 26)).alloc (.cells #[.string nm, .int .i64 fr, .int .i64 tw, .slice o4 n4 c4, .slice (some ⟨gp, op, none⟩) 1 c5, .slice (some ⟨gf, of, none⟩) 1 c6] 36)).alloc (.cells #[.int .i64 0, .bool true] 38)).alloc (.cells #[.int .i64 1, .bool false] 38)), z.z.cell? ⟨w2.heap.size + 1 + 1 + 1, 0, none⟩ = some (.int .i64 1) := ext_cell (two_cells hY).1
  have v1 : ∀ z : Ext ((((w2.alloc (.cells #[.slice o0 n0 c0, .slice o1 n1 c1, .slice o2 n2 c2, .slice (some ⟨g, off, none⟩) 1 c3] 26)).alloc (.cells #[.string nm, .int .i64 fr, .int .i64 tw, .slice o4 n4 c4, .slice (some ⟨gp, op, none⟩) 1 c5, .slice (some ⟨gf, of, none⟩) 1 c6] 36)).alloc (.cells #[.int .i64 0, .bool true] 38)).alloc (.cells #[.int .i64 1, .bool false] 38)), z.z.cell? ⟨w2.heap.size + 1 + 1 + 1, 1, none⟩ = some (.bool false) := ext_cell (two_cells hY).2.1
  clear hRT hX hY
  haveI : Nonempty (Ext ((((w2.alloc (.cells #[.slice o0 n0 c0, .slice o1 n1 c1, .slice o2 n2 c2, .slice (some ⟨g, off, none⟩) 1 c3] 26)).alloc (.cells #[.string nm, .int .i64 fr, .int .i64 tw, .slice o4 n4 c4, .slice (some ⟨gp, op, none⟩) 1 c5, .slice (some ⟨gf, of, none⟩) 1 c6] 36)).alloc (.cells #[.int .i64 0, .bool true] 38)).alloc (.cells #[.int .i64 1, .bool false] 38))) := ⟨⟨_, Below.refl _ _⟩⟩
  have e1 := run_eqlN 0 0 true true
  rw [decide_eq_true (show (0 : Int) = 0 ∧ true = true from ⟨rfl, rfl⟩)] at e1
  have e2 := run_eqlN 1 1 false false
  rw [decide_eq_true (show (1 : Int) = 1 ∧ false = false from ⟨rfl, rfl⟩)] at e2
  have e3 := eqGuardN
  refine wp_region_ext (by kernel_rfl) (by kernel_rfl) ?_
  repeat (first | go_big_quiet_skip | (go_big_quiet_want; go_big_quiet_op; first | go_big_quiet_on | (apply Exists.intro; refine ⟨fun _ => ?_, ?_⟩; (go_at_call 6; exact ext_of (known_any HBY.out _)); go_big_quiet_on)))
  refine wpQuiet_nil ?_
  intro _ hw'
  obtain ⟨z, hw''⟩ := hw'
  subst hw''
  go_wp2
  go_ret
  exact ⟨rfl, stepB HFIN.out z.h⟩

theorem pw3 : (parseP ⟨#[115, 101, 99, 116, 105, 111, 110, 32, 97, 10, 115, 105, 103, 110, 97, 108, 32, 115, 10, 115, 105, 103, 110, 97, 108, 32, 116, 10, 112, 111, 105, 110, 116, 32, 112, 32, 105, 110, 32, 97, 10, 112, 111, 105, 110, 116, 32, 113, 32, 105, 110, 32, 97, 10, 114, 111, 117, 116, 101, 32, 114, 32, 102, 114, 111, 109, 32, 115, 32, 116, 111, 32, 116, 32, 118, 105, 97, 32, 97, 32, 115, 101, 116, 32, 112, 45, 32, 102, 108, 97, 110, 107, 32, 113, 45]⟩).2 = (6, 0) ∧ (parseP ⟨#[115, 101, 99, 116, 105, 111, 110, 32, 97, 10, 115, 105, 103, 110, 97, 108, 32, 115, 10, 115, 105, 103, 110, 97, 108, 32, 116, 10, 112, 111, 105, 110, 116, 32, 112, 32, 105, 110, 32, 97, 10, 112, 111, 105, 110, 116, 32, 113, 32, 105, 110, 32, 97, 10, 114, 111, 117, 116, 101, 32, 114, 32, 102, 114, 111, 109, 32, 115, 32, 116, 111, 32, 116, 32, 118, 105, 97, 32, 97, 32, 115, 101, 116, 32, 112, 45, 32, 102, 108, 97, 110, 107, 32, 113, 45]⟩).1.routes.map (fun r => (r.points, r.flank)) = [([((0 : Int), true)], [((1 : Int), true)])] := by decide +kernel
set_option maxRecDepth 1000000 in
set_option maxHeartbeats 4000000 in
theorem walk3 (hby : BySaid) (w : World) : Calls Try.prog 4 #[.bool true, .bool true, .bool false] w fun e w' => e = .returned (.bool true) ∧ Below w.heap.size w w' := by
  have HBY : Hid BySaid := hby
  have D : Hid (∀ W T, T = ⟨#[115, 101, 99, 116, 105, 111, 110, 32, 97, 10, 115, 105, 103, 110, 97, 108, 32, 115, 10, 115, 105, 103, 110, 97, 108, 32, 116, 10, 112, 111, 105, 110, 116, 32, 112, 32, 105, 110, 32, 97, 10, 112, 111, 105, 110, 116, 32, 113, 32, 105, 110, 32, 97, 10, 114, 111, 117, 116, 101, 32, 114, 32, 102, 114, 111, 109, 32, 115, 32, 116, 111, 32, 116, 32, 118, 105, 97, 32, 97, 32, 115, 101, 116, 32, 112, 45, 32, 102, 108, 97, 110, 107, 32, 113, 45]⟩ → Calls Try.prog 5 #[.string T] W fun en w' => ∃ o0 n0 c0 o1 n1 c1 o2 n2 c2 g off c3 nm fr tw o4 n4 c4 o5 c5 o6 c6, en = .returned (.tuple #[.agg #[.slice o0 n0 c0, .slice o1 n1 c1, .slice o2 n2 c2, .slice (some ⟨g, off, none⟩) 1 c3], .int .i64 6, .int .i64 0]) ∧
      (w'.cell? ⟨g, off, none⟩ = some (.string nm) ∧ w'.cell? ⟨g, off + 1, none⟩ = some (.int .i64 fr) ∧ w'.cell? ⟨g, off + 2, none⟩ = some (.int .i64 tw) ∧ w'.cell? ⟨g, off + 3, none⟩ = some (.slice o4 n4 c4) ∧ w'.cell? ⟨g, off + 4, none⟩ = some (.slice o5 1 c5) ∧ w'.cell? ⟨g, off + 5, none⟩ = some (.slice o6 1 c6)) ∧
      rowAt w' (.slice o5 1 c5) 2 nC [((0 : Int), true)] ∧ rowAt w' (.slice o6 1 c6) 2 nC [((1 : Int), true)] ∧ Below W.heap.size W w') := fun W T hT => by
    subst hT
    exact parse_call hby _ (by decide +kernel) [((0 : Int), true)] [((1 : Int), true)] pw3.1 pw3.2 W
  clear hby
  go_enter Try.func4, Try.ntmps4
  go_wp2_with fail
  refine (sign_true _).mono ?_
  rintro e wx ⟨rfl, hwx⟩
  obtain rfl := hwx.symm
  go_wp2_with fail
  refine (sign_true _).mono ?_
  rintro e wx ⟨rfl, hwx⟩
  obtain rfl := hwx.symm
  go_wp2_with fail
  refine (D.out _ _ (by decide +kernel)).mono ?_
  rintro en w2 ⟨o0, n0, c0, o1, n1, c1, o2, n2, c2, g, off, c3, nm, fr, tw, o4, n4, c4, o5, c5, o6, c6, rfl, ⟨q0, q1, q2, q3, q4, q5⟩, hp, hf, hb⟩
  have HB : Hid (Below w.heap.size w w2) := hb
  have hlt := World.block_lt_of_cell? w2 _ q0
  have HCH : Hid (Below w2.heap.size w2 ((((w2.alloc (.cells #[.slice o0 n0 c0, .slice o1 n1 c1, .slice o2 n2 c2, .slice (some ⟨g, off, none⟩) 1 c3] 26)).alloc (.cells #[.string nm, .int .i64 fr, .int .i64 tw, .slice o4 n4 c4, .slice o5 1 c5, .slice o6 1 c6] 36)).alloc (.cells #[.int .i64 0, .bool true] 38)).alloc (.cells #[.int .i64 1, .bool true] 38))) := ((((Below.refl _ _).alloc (Nat.le_refl _) _).alloc (by simp) _).alloc (by simp; omega) _).alloc (by simp; omega) _
  obtain ⟨p6, k6, e6, h6⟩ := hf
  simp only [Value.slice.injEq] at e6
  obtain ⟨rfl, -, rfl⟩ := e6
  obtain ⟨gf, of, rfl, hcf⟩ := h6 0 _ rfl
  obtain ⟨p5, k5, e5, h5⟩ := hp
  simp only [Value.slice.injEq] at e5
  obtain ⟨rfl, -, rfl⟩ := e5
  obtain ⟨gp, op, rfl, hcp⟩ := h5 0 _ rfl
  have y0 := hcp 0 _ rfl
  have y1 := hcp 1 _ rfl
  have y2 := hcf 0 _ rfl
  have y3 := hcf 1 _ rfl
  simp only [Nat.zero_mul, Nat.add_zero] at y0 y1 y2 y3
  have HFIN : Hid (Below w.heap.size w ((((w2.alloc (.cells #[.slice o0 n0 c0, .slice o1 n1 c1, .slice o2 n2 c2, .slice (some ⟨g, off, none⟩) 1 c3] 26)).alloc (.cells #[.string nm, .int .i64 fr, .int .i64 tw, .slice o4 n4 c4, .slice (some ⟨gp, op, none⟩) 1 c5, .slice (some ⟨gf, of, none⟩) 1 c6] 36)).alloc (.cells #[.int .i64 0, .bool true] 38)).alloc (.cells #[.int .i64 1, .bool true] 38))) := stepB HB.out HCH.out
  clear hb h6 hcf HB
  have s0 : (w2.alloc (.cells #[.slice o0 n0 c0, .slice o1 n1 c1, .slice o2 n2 c2, .slice (some ⟨g, off, none⟩) 1 c3] 26)).cell? ⟨g, off, none⟩ = some (.string nm) := (((Below.refl _ w2).alloc (Nat.le_refl _) _).cell (p := ⟨g, off, none⟩) hlt).trans q0
  have s1 : (w2.alloc (.cells #[.slice o0 n0 c0, .slice o1 n1 c1, .slice o2 n2 c2, .slice (some ⟨g, off, none⟩) 1 c3] 26)).cell? ⟨g, off + 1, none⟩ = some (.int .i64 fr) := (((Below.refl _ w2).alloc (Nat.le_refl _) _).cell (p := ⟨g, off + 1, none⟩) hlt).trans q1
  have s2 : (w2.alloc (.cells #[.slice o0 n0 c0, .slice o1 n1 c1, .slice o2 n2 c2, .slice (some ⟨g, off, none⟩) 1 c3] 26)).cell? ⟨g, off + 2, none⟩ = some (.int .i64 tw) := (((Below.refl _ w2).alloc (Nat.le_refl _) _).cell (p := ⟨g, off + 2, none⟩) hlt).trans q2
  have s3 : (w2.alloc (.cells #[.slice o0 n0 c0, .slice o1 n1 c1, .slice o2 n2 c2, .slice (some ⟨g, off, none⟩) 1 c3] 26)).cell? ⟨g, off + 3, none⟩ = some (.slice o4 n4 c4) := (((Below.refl _ w2).alloc (Nat.le_refl _) _).cell (p := ⟨g, off + 3, none⟩) hlt).trans q3
  have s4 : (w2.alloc (.cells #[.slice o0 n0 c0, .slice o1 n1 c1, .slice o2 n2 c2, .slice (some ⟨g, off, none⟩) 1 c3] 26)).cell? ⟨g, off + 4, none⟩ = some (.slice (some ⟨gp, op, none⟩) 1 c5) := (((Below.refl _ w2).alloc (Nat.le_refl _) _).cell (p := ⟨g, off + 4, none⟩) hlt).trans q4
  have s5 : (w2.alloc (.cells #[.slice o0 n0 c0, .slice o1 n1 c1, .slice o2 n2 c2, .slice (some ⟨g, off, none⟩) 1 c3] 26)).cell? ⟨g, off + 5, none⟩ = some (.slice (some ⟨gf, of, none⟩) 1 c6) := (((Below.refl _ w2).alloc (Nat.le_refl _) _).cell (p := ⟨g, off + 5, none⟩) hlt).trans q5
  clear q0 q1 q2 q3 q4 q5
  go_wp2
  have zy0 : ∀ z : Ext ((((w2.alloc (.cells #[.slice o0 n0 c0, .slice o1 n1 c1, .slice o2 n2 c2, .slice (some ⟨g, off, none⟩) 1 c3] 26)).alloc (.cells #[.string nm, .int .i64 fr, .int .i64 tw, .slice o4 n4 c4, .slice (some ⟨gp, op, none⟩) 1 c5, .slice (some ⟨gf, of, none⟩) 1 c6] 36)).alloc (.cells #[.int .i64 0, .bool true] 38)).alloc (.cells #[.int .i64 1, .bool true] 38)), z.z.cell? ⟨gp, op, none⟩ = some (.int .i64 0) := ext_cell ((HCH.out.cell (p := ⟨gp, op, none⟩) (World.block_lt_of_cell? w2 _ y0)).trans y0)
  have zy1 : ∀ z : Ext ((((w2.alloc (.cells #[.slice o0 n0 c0, .slice o1 n1 c1, .slice o2 n2 c2, .slice (some ⟨g, off, none⟩) 1 c3] 26)).alloc (.cells #[.string nm, .int .i64 fr, .int .i64 tw, .slice o4 n4 c4, .slice (some ⟨gp, op, none⟩) 1 c5, .slice (some ⟨gf, of, none⟩) 1 c6] 36)).alloc (.cells #[.int .i64 0, .bool true] 38)).alloc (.cells #[.int .i64 1, .bool true] 38)), z.z.cell? ⟨gp, op + 1, none⟩ = some (.bool true) := ext_cell ((HCH.out.cell (p := ⟨gp, op + 1, none⟩) (World.block_lt_of_cell? w2 _ y1)).trans y1)
  have zy2 : ∀ z : Ext ((((w2.alloc (.cells #[.slice o0 n0 c0, .slice o1 n1 c1, .slice o2 n2 c2, .slice (some ⟨g, off, none⟩) 1 c3] 26)).alloc (.cells #[.string nm, .int .i64 fr, .int .i64 tw, .slice o4 n4 c4, .slice (some ⟨gp, op, none⟩) 1 c5, .slice (some ⟨gf, of, none⟩) 1 c6] 36)).alloc (.cells #[.int .i64 0, .bool true] 38)).alloc (.cells #[.int .i64 1, .bool true] 38)), z.z.cell? ⟨gf, of, none⟩ = some (.int .i64 1) := ext_cell ((HCH.out.cell (p := ⟨gf, of, none⟩) (World.block_lt_of_cell? w2 _ y2)).trans y2)
  have zy3 : ∀ z : Ext ((((w2.alloc (.cells #[.slice o0 n0 c0, .slice o1 n1 c1, .slice o2 n2 c2, .slice (some ⟨g, off, none⟩) 1 c3] 26)).alloc (.cells #[.string nm, .int .i64 fr, .int .i64 tw, .slice o4 n4 c4, .slice (some ⟨gp, op, none⟩) 1 c5, .slice (some ⟨gf, of, none⟩) 1 c6] 36)).alloc (.cells #[.int .i64 0, .bool true] 38)).alloc (.cells #[.int .i64 1, .bool true] 38)), z.z.cell? ⟨gf, of + 1, none⟩ = some (.bool true) := ext_cell ((HCH.out.cell (p := ⟨gf, of + 1, none⟩) (World.block_lt_of_cell? w2 _ y3)).trans y3)
  have hRT : ((((w2.alloc (.cells #[.slice o0 n0 c0, .slice o1 n1 c1, .slice o2 n2 c2, .slice (some ⟨g, off, none⟩) 1 c3] 26)).alloc (.cells #[.string nm, .int .i64 fr, .int .i64 tw, .slice o4 n4 c4, .slice (some ⟨gp, op, none⟩) 1 c5, .slice (some ⟨gf, of, none⟩) 1 c6] 36)).alloc (.cells #[.int .i64 0, .bool true] 38)).alloc (.cells #[.int .i64 1, .bool true] 38)).heap[w2.heap.size + 1]? = some (.cells #[.string nm, .int .i64 fr, .int .i64 tw, .slice o4 n4 c4, .slice (some ⟨gp, op, none⟩) 1 c5, .slice (some ⟨gf, of, none⟩) 1 c6] 36) := blk_old (blk_old (by have := blk_new (w2.alloc (.cells #[.slice o0 n0 c0, .slice o1 n1 c1, .slice o2 n2 c2, .slice (some ⟨g, off, none⟩) 1 c3] 26)) (.cells #[.string nm, .int .i64 fr, .int .i64 tw, .slice o4 n4 c4, .slice (some ⟨gp, op, none⟩) 1 c5, .slice (some ⟨gf, of, none⟩) 1 c6] 36); rw [World.size_alloc] at this; exact this))
  have hX : ((((w2.alloc (.cells #[.slice o0 n0 c0, .slice o1 n1 c1, .slice o2 n2 c2, .slice (some ⟨g, off, none⟩) 1 c3] 26)).alloc (.cells #[.string nm, .int .i64 fr, .int .i64 tw, .slice o4 n4 c4, .slice (some ⟨gp, op, none⟩) 1 c5, .slice (some ⟨gf, of, none⟩) 1 c6] 36)).alloc (.cells #[.int .i64 0, .bool true] 38)).alloc (.cells #[.int .i64 1, .bool true] 38)).heap[w2.heap.size + 1 + 1]? = some (.cells #[.int .i64 0, .bool true] 38) := blk_old (by have := blk_new ((w2.alloc (.cells #[.slice o0 n0 c0, .slice o1 n1 c1, .slice o2 n2 c2, .slice (some ⟨g, off, none⟩) 1 c3] 26)).alloc (.cells #[.string nm, .int .i64 fr, .int .i64 tw, .slice o4 n4 c4, .slice (some ⟨gp, op, none⟩) 1 c5, .slice (some ⟨gf, of, none⟩) 1 c6] 36)) (.cells #[.int .i64 0, .bool true] 38); rw [World.size_alloc, World.size_alloc] at this; exact this)
  have hY : ((((w2.alloc (.cells #[.slice o0 n0 c0, .slice o1 n1 c1, .slice o2 n2 c2, .slice (some ⟨g, off, none⟩) 1 c3] 26)).alloc (.cells #[.string nm, .int .i64 fr, .int .i64 tw, .slice o4 n4 c4, .slice (some ⟨gp, op, none⟩) 1 c5, .slice (some ⟨gf, of, none⟩) 1 c6] 36)).alloc (.cells #[.int .i64 0, .bool true] 38)).alloc (.cells #[.int .i64 1, .bool true] 38)).heap[w2.heap.size + 1 + 1 + 1]? = some (.cells #[.int .i64 1, .bool true] 38) := by have := blk_new (((w2.alloc (.cells #[.slice o0 n0 c0, .slice o1 n1 c1, .slice o2 n2 c2, .slice (some ⟨g, off, none⟩) 1 c3] 26)).alloc (.cells #[.string nm, .int .i64 fr, .int .i64 tw, .slice o4 n4 c4, .slice (some ⟨gp, op, none⟩) 1 c5, .slice (some ⟨gf, of, none⟩) 1 c6] 36)).alloc (.cells #[.int .i64 0, .bool true] 38)) (.cells #[.int .i64 1, .bool true] 38); rw [World.size_alloc, World.size_alloc, World.size_alloc] at this; exact this
  have r4 : ∀ z : Ext ((((w2.alloc (.cells #[.slice o0 n0 c0, .slice o1 n1 c1, .slice o2 n2 c2, .slice (some ⟨g, off, none⟩) 1 c3] 26)).alloc (.cells #[.string nm, .int .i64 fr, .int .i64 tw, .slice o4 n4 c4, .slice (some ⟨gp, op, none⟩) 1 c5, .slice (some ⟨gf, of, none⟩) 1 c6] 36)).alloc (.cells #[.int .i64 0, .bool true] 38)).alloc (.cells #[.int .i64 1, .bool true] 38)), z.z.cell? ⟨w2.heap.size + 1, 4, none⟩ = some (.slice (some ⟨gp, op, none⟩) 1 c5) := ext_cell (six_cells hRT).1.2.2.2.2.1
  have r5 : ∀ z : Ext ((((w2.alloc (.cells #[.slice o0 n0 c0, .slice o1 n1 c1, .slice o2 n2 c2, .slice (some ⟨g, off, none⟩) 1 c3] 26)).alloc (.cells #[.string nm, .int .i64 fr, .int .i64 tw, .slice o4 n4 c4, .slice (some ⟨gp, op, none⟩) 1 c5, .slice (some ⟨gf, of, none⟩) 1 c6] 36)).alloc (.cells #[.int .i64 0, .bool true] 38)).alloc (.cells #[.int .i64 1, .bool true] 38)), z.z.cell? ⟨w2.heap.size + 1, 5, none⟩ = some (.slice (some ⟨gf, of, none⟩) 1 c6) := ext_cell (six_cells hRT).1.2.2.2.2.2
  have x0 : ∀ z : Ext ((((w2.alloc (.cells #[.slice o0 n0 c0, .slice o1 n1 c1, .slice o2 n2 c2, .slice (some ⟨g, off, none⟩) 1 c3] 26)).alloc (.cells #[.string nm, .int .i64 fr, .int .i64 tw, .slice o4 n4 c4, .slice (some ⟨gp, op, none⟩) 1 c5, .slice (some ⟨gf, of, none⟩) 1 c6] 36)).alloc (.cells #[.int .i64 0, .bool true] 38)).alloc (.cells #[.int .i64 1, .bool true] 38)), z.z.cell? ⟨w2.heap.size + 1 + 1, 0, none⟩ = some (.int .i64 0) := ext_cell (two_cells hX).1
  have x1 : ∀ z : Ext ((((w2.alloc (.cells #[.slice o0 n0 c0, .slice o1 n1 c1, .slice o2 n2 c2, .slice (some ⟨g, off, none⟩) 1 c3] 26)).alloc (.cells #[.string nm, .int .i64 fr, .int .i64 tw, .slice o4 n4 c4, .slice (some ⟨gp, op, none⟩) 1 c5, .slice (some ⟨gf, of, none⟩) 1 c6] 36)).alloc (.cells #[.int .i64 0, .bool true] 38)).alloc (.cells #[.int .i64 1, .bool true] 38)), z.z.cell? ⟨w2.heap.size + 1 + 1, 1, none⟩ = some (.bool true) := ext_cell (two_cells hX).2.1
  have v0 : ∀ z : Ext ((((w2.alloc (.cells #[.slice o0 n0 c0, .slice o1 n1 c1, .slice o2 n2 c2, .slice (some ⟨g, off, none⟩) 1 c3] 26)).alloc (.cells #[.string nm, .int .i64 fr, .int .i64 tw, .slice o4 n4 c4, .slice (some ⟨gp, op, none⟩) 1 c5, .slice (some ⟨gf, of, none⟩) 1 c6] 36)).alloc (.cells #[.int .i64 0, .bool true] 38)).alloc (.cells #[.int .i64 1, .bool true] 38)), z.z.cell? ⟨w2.heap.size + 1 + 1 + 1, 0, none⟩ = some (.int .i64 1) := ext_cell (two_cells hY).1
  have v1 : ∀ z : Ext ((((w2.alloc (.cells #[.slice o0 n0 c0, .slice o1 n1 c1, .slice o2 n2 c2, .slice (some ⟨g, off, none⟩) 1 c3] 26)).alloc (.cells #[.string nm, .int .i64 fr, .int .i64 tw, .slice o4 n4 c4, .slice (some ⟨gp, op, none⟩) 1 c5, .slice (some ⟨gf, of, none⟩) 1 c6] 36)).alloc (.cells #[.int .i64 0, .bool true] 38)).alloc (.cells #[.int .i64 1, .bool true] 38)), z.z.cell? ⟨w2.heap.size + 1 + 1 + 1, 1, none⟩ = some (.bool true) := ext_cell (two_cells hY).2.1
  clear hRT hX hY
  haveI : Nonempty (Ext ((((w2.alloc (.cells #[.slice o0 n0 c0, .slice o1 n1 c1, .slice o2 n2 c2, .slice (some ⟨g, off, none⟩) 1 c3] 26)).alloc (.cells #[.string nm, .int .i64 fr, .int .i64 tw, .slice o4 n4 c4, .slice (some ⟨gp, op, none⟩) 1 c5, .slice (some ⟨gf, of, none⟩) 1 c6] 36)).alloc (.cells #[.int .i64 0, .bool true] 38)).alloc (.cells #[.int .i64 1, .bool true] 38))) := ⟨⟨_, Below.refl _ _⟩⟩
  have e1 := run_eqlN 0 0 true true
  rw [decide_eq_true (show (0 : Int) = 0 ∧ true = true from ⟨rfl, rfl⟩)] at e1
  have e2 := run_eqlN 1 1 true true
  rw [decide_eq_true (show (1 : Int) = 1 ∧ true = true from ⟨rfl, rfl⟩)] at e2
  have e3 := eqGuardN
  refine wp_region_ext (by kernel_rfl) (by kernel_rfl) ?_
  repeat (first | go_big_quiet_skip | (go_big_quiet_want; go_big_quiet_op; first | go_big_quiet_on | (apply Exists.intro; refine ⟨fun _ => ?_, ?_⟩; (go_at_call 6; exact ext_of (known_any HBY.out _)); go_big_quiet_on)))
  refine wpQuiet_nil ?_
  intro _ hw'
  obtain ⟨z, hw''⟩ := hw'
  subst hw''
  go_wp2
  go_ret
  exact ⟨rfl, stepB HFIN.out z.h⟩

theorem pw4 : (parseP ⟨#[115, 101, 99, 116, 105, 111, 110, 32, 97, 10, 115, 105, 103, 110, 97, 108, 32, 115, 10, 115, 105, 103, 110, 97, 108, 32, 116, 10, 112, 111, 105, 110, 116, 32, 112, 32, 105, 110, 32, 97, 10, 112, 111, 105, 110, 116, 32, 113, 32, 105, 110, 32, 97, 10, 114, 111, 117, 116, 101, 32, 114, 32, 102, 114, 111, 109, 32, 115, 32, 116, 111, 32, 116, 32, 118, 105, 97, 32, 97, 32, 102, 108, 97, 110, 107, 32, 112, 43, 32, 113, 43]⟩).2 = (6, 0) ∧ (parseP ⟨#[115, 101, 99, 116, 105, 111, 110, 32, 97, 10, 115, 105, 103, 110, 97, 108, 32, 115, 10, 115, 105, 103, 110, 97, 108, 32, 116, 10, 112, 111, 105, 110, 116, 32, 112, 32, 105, 110, 32, 97, 10, 112, 111, 105, 110, 116, 32, 113, 32, 105, 110, 32, 97, 10, 114, 111, 117, 116, 101, 32, 114, 32, 102, 114, 111, 109, 32, 115, 32, 116, 111, 32, 116, 32, 118, 105, 97, 32, 97, 32, 102, 108, 97, 110, 107, 32, 112, 43, 32, 113, 43]⟩).1.routes.map (fun r => (r.points, r.flank)) = [([], [((0 : Int), false), (1, false)])] := by decide +kernel
set_option maxRecDepth 1000000 in
set_option maxHeartbeats 4000000 in
theorem walk4 (hby : BySaid) (w : World) : Calls Try.prog 4 #[.bool false, .bool false, .bool true] w fun e w' => e = .returned (.bool true) ∧ Below w.heap.size w w' := by
  have HBY : Hid BySaid := hby
  have D : Hid (∀ W T, T = ⟨#[115, 101, 99, 116, 105, 111, 110, 32, 97, 10, 115, 105, 103, 110, 97, 108, 32, 115, 10, 115, 105, 103, 110, 97, 108, 32, 116, 10, 112, 111, 105, 110, 116, 32, 112, 32, 105, 110, 32, 97, 10, 112, 111, 105, 110, 116, 32, 113, 32, 105, 110, 32, 97, 10, 114, 111, 117, 116, 101, 32, 114, 32, 102, 114, 111, 109, 32, 115, 32, 116, 111, 32, 116, 32, 118, 105, 97, 32, 97, 32, 102, 108, 97, 110, 107, 32, 112, 43, 32, 113, 43]⟩ → Calls Try.prog 5 #[.string T] W fun en w' => ∃ o0 n0 c0 o1 n1 c1 o2 n2 c2 g off c3 nm fr tw o4 n4 c4 o5 c5 o6 c6, en = .returned (.tuple #[.agg #[.slice o0 n0 c0, .slice o1 n1 c1, .slice o2 n2 c2, .slice (some ⟨g, off, none⟩) 1 c3], .int .i64 6, .int .i64 0]) ∧
      (w'.cell? ⟨g, off, none⟩ = some (.string nm) ∧ w'.cell? ⟨g, off + 1, none⟩ = some (.int .i64 fr) ∧ w'.cell? ⟨g, off + 2, none⟩ = some (.int .i64 tw) ∧ w'.cell? ⟨g, off + 3, none⟩ = some (.slice o4 n4 c4) ∧ w'.cell? ⟨g, off + 4, none⟩ = some (.slice o5 0 c5) ∧ w'.cell? ⟨g, off + 5, none⟩ = some (.slice o6 2 c6)) ∧
      rowAt w' (.slice o5 0 c5) 2 nC [] ∧ rowAt w' (.slice o6 2 c6) 2 nC [((0 : Int), false), (1, false)] ∧ Below W.heap.size W w') := fun W T hT => by
    subst hT
    exact parse_call hby _ (by decide +kernel) [] [((0 : Int), false), (1, false)] pw4.1 pw4.2 W
  clear hby
  go_enter Try.func4, Try.ntmps4
  go_wp2_with fail
  refine (sign_false _).mono ?_
  rintro e wx ⟨rfl, hwx⟩
  obtain rfl := hwx.symm
  go_wp2_with fail
  refine (sign_false _).mono ?_
  rintro e wx ⟨rfl, hwx⟩
  obtain rfl := hwx.symm
  go_wp2_with fail
  refine (D.out _ _ (by decide +kernel)).mono ?_
  rintro en w2 ⟨o0, n0, c0, o1, n1, c1, o2, n2, c2, g, off, c3, nm, fr, tw, o4, n4, c4, o5, c5, o6, c6, rfl, ⟨q0, q1, q2, q3, q4, q5⟩, hp, hf, hb⟩
  have HB : Hid (Below w.heap.size w w2) := hb
  have hlt := World.block_lt_of_cell? w2 _ q0
  have HCH : Hid (Below w2.heap.size w2 ((((w2.alloc (.cells #[.slice o0 n0 c0, .slice o1 n1 c1, .slice o2 n2 c2, .slice (some ⟨g, off, none⟩) 1 c3] 26)).alloc (.cells #[.string nm, .int .i64 fr, .int .i64 tw, .slice o4 n4 c4, .slice o5 0 c5, .slice o6 2 c6] 36)).alloc (.cells #[.int .i64 0, .bool false] 38)).alloc (.cells #[.int .i64 1, .bool false] 38))) := ((((Below.refl _ _).alloc (Nat.le_refl _) _).alloc (by simp) _).alloc (by simp; omega) _).alloc (by simp; omega) _
  obtain ⟨p6, k6, e6, h6⟩ := hf
  simp only [Value.slice.injEq] at e6
  obtain ⟨rfl, -, rfl⟩ := e6
  obtain ⟨gf, of, rfl, hcf⟩ := h6 0 _ rfl
  obtain ⟨gf', of', e6, hcf'⟩ := h6 1 _ rfl
  simp only [Option.some.injEq, Addr.mk.injEq, and_true] at e6
  obtain ⟨rfl, rfl⟩ := e6
  have y0 := hcf 0 _ rfl
  have y1 := hcf 1 _ rfl
  have y2 := hcf' 0 _ rfl
  have y3 := hcf' 1 _ rfl
  simp only [Nat.zero_mul, Nat.one_mul, Nat.add_zero] at y0 y1 y2 y3
  have HFIN : Hid (Below w.heap.size w ((((w2.alloc (.cells #[.slice o0 n0 c0, .slice o1 n1 c1, .slice o2 n2 c2, .slice (some ⟨g, off, none⟩) 1 c3] 26)).alloc (.cells #[.string nm, .int .i64 fr, .int .i64 tw, .slice o4 n4 c4, .slice o5 0 c5, .slice (some ⟨gf, of, none⟩) 2 c6] 36)).alloc (.cells #[.int .i64 0, .bool false] 38)).alloc (.cells #[.int .i64 1, .bool false] 38))) := stepB HB.out HCH.out
  clear hb h6 hcf HB
  have s0 : (w2.alloc (.cells #[.slice o0 n0 c0, .slice o1 n1 c1, .slice o2 n2 c2, .slice (some ⟨g, off, none⟩) 1 c3] 26)).cell? ⟨g, off, none⟩ = some (.string nm) := (((Below.refl _ w2).alloc (Nat.le_refl _) _).cell (p := ⟨g, off, none⟩) hlt).trans q0
  have s1 : (w2.alloc (.cells #[.slice o0 n0 c0, .slice o1 n1 c1, .slice o2 n2 c2, .slice (some ⟨g, off, none⟩) 1 c3] 26)).cell? ⟨g, off + 1, none⟩ = some (.int .i64 fr) := (((Below.refl _ w2).alloc (Nat.le_refl _) _).cell (p := ⟨g, off + 1, none⟩) hlt).trans q1
  have s2 : (w2.alloc (.cells #[.slice o0 n0 c0, .slice o1 n1 c1, .slice o2 n2 c2, .slice (some ⟨g, off, none⟩) 1 c3] 26)).cell? ⟨g, off + 2, none⟩ = some (.int .i64 tw) := (((Below.refl _ w2).alloc (Nat.le_refl _) _).cell (p := ⟨g, off + 2, none⟩) hlt).trans q2
  have s3 : (w2.alloc (.cells #[.slice o0 n0 c0, .slice o1 n1 c1, .slice o2 n2 c2, .slice (some ⟨g, off, none⟩) 1 c3] 26)).cell? ⟨g, off + 3, none⟩ = some (.slice o4 n4 c4) := (((Below.refl _ w2).alloc (Nat.le_refl _) _).cell (p := ⟨g, off + 3, none⟩) hlt).trans q3
  have s4 : (w2.alloc (.cells #[.slice o0 n0 c0, .slice o1 n1 c1, .slice o2 n2 c2, .slice (some ⟨g, off, none⟩) 1 c3] 26)).cell? ⟨g, off + 4, none⟩ = some (.slice o5 0 c5) := (((Below.refl _ w2).alloc (Nat.le_refl _) _).cell (p := ⟨g, off + 4, none⟩) hlt).trans q4
  have s5 : (w2.alloc (.cells #[.slice o0 n0 c0, .slice o1 n1 c1, .slice o2 n2 c2, .slice (some ⟨g, off, none⟩) 1 c3] 26)).cell? ⟨g, off + 5, none⟩ = some (.slice (some ⟨gf, of, none⟩) 2 c6) := (((Below.refl _ w2).alloc (Nat.le_refl _) _).cell (p := ⟨g, off + 5, none⟩) hlt).trans q5
  clear q0 q1 q2 q3 q4 q5
  go_wp2
  have zy0 : ∀ z : Ext ((((w2.alloc (.cells #[.slice o0 n0 c0, .slice o1 n1 c1, .slice o2 n2 c2, .slice (some ⟨g, off, none⟩) 1 c3] 26)).alloc (.cells #[.string nm, .int .i64 fr, .int .i64 tw, .slice o4 n4 c4, .slice o5 0 c5, .slice (some ⟨gf, of, none⟩) 2 c6] 36)).alloc (.cells #[.int .i64 0, .bool false] 38)).alloc (.cells #[.int .i64 1, .bool false] 38)), z.z.cell? ⟨gf, of, none⟩ = some (.int .i64 0) := ext_cell ((HCH.out.cell (p := ⟨gf, of, none⟩) (World.block_lt_of_cell? w2 _ y0)).trans y0)
  have zy1 : ∀ z : Ext ((((w2.alloc (.cells #[.slice o0 n0 c0, .slice o1 n1 c1, .slice o2 n2 c2, .slice (some ⟨g, off, none⟩) 1 c3] 26)).alloc (.cells #[.string nm, .int .i64 fr, .int .i64 tw, .slice o4 n4 c4, .slice o5 0 c5, .slice (some ⟨gf, of, none⟩) 2 c6] 36)).alloc (.cells #[.int .i64 0, .bool false] 38)).alloc (.cells #[.int .i64 1, .bool false] 38)), z.z.cell? ⟨gf, of + 1, none⟩ = some (.bool false) := ext_cell ((HCH.out.cell (p := ⟨gf, of + 1, none⟩) (World.block_lt_of_cell? w2 _ y1)).trans y1)
  have zy2 : ∀ z : Ext ((((w2.alloc (.cells #[.slice o0 n0 c0, .slice o1 n1 c1, .slice o2 n2 c2, .slice (some ⟨g, off, none⟩) 1 c3] 26)).alloc (.cells #[.string nm, .int .i64 fr, .int .i64 tw, .slice o4 n4 c4, .slice o5 0 c5, .slice (some ⟨gf, of, none⟩) 2 c6] 36)).alloc (.cells #[.int .i64 0, .bool false] 38)).alloc (.cells #[.int .i64 1, .bool false] 38)), z.z.cell? ⟨gf, of + 2, none⟩ = some (.int .i64 1) := ext_cell ((HCH.out.cell (p := ⟨gf, of + 2, none⟩) (World.block_lt_of_cell? w2 _ y2)).trans y2)
  have zy3 : ∀ z : Ext ((((w2.alloc (.cells #[.slice o0 n0 c0, .slice o1 n1 c1, .slice o2 n2 c2, .slice (some ⟨g, off, none⟩) 1 c3] 26)).alloc (.cells #[.string nm, .int .i64 fr, .int .i64 tw, .slice o4 n4 c4, .slice o5 0 c5, .slice (some ⟨gf, of, none⟩) 2 c6] 36)).alloc (.cells #[.int .i64 0, .bool false] 38)).alloc (.cells #[.int .i64 1, .bool false] 38)), z.z.cell? ⟨gf, of + 2 + 1, none⟩ = some (.bool false) := ext_cell ((HCH.out.cell (p := ⟨gf, of + 2 + 1, none⟩) (World.block_lt_of_cell? w2 _ y3)).trans y3)
  have hRT : ((((w2.alloc (.cells #[.slice o0 n0 c0, .slice o1 n1 c1, .slice o2 n2 c2, .slice (some ⟨g, off, none⟩) 1 c3] 26)).alloc (.cells #[.string nm, .int .i64 fr, .int .i64 tw, .slice o4 n4 c4, .slice o5 0 c5, .slice (some ⟨gf, of, none⟩) 2 c6] 36)).alloc (.cells #[.int .i64 0, .bool false] 38)).alloc (.cells #[.int .i64 1, .bool false] 38)).heap[w2.heap.size + 1]? = some (.cells #[.string nm, .int .i64 fr, .int .i64 tw, .slice o4 n4 c4, .slice o5 0 c5, .slice (some ⟨gf, of, none⟩) 2 c6] 36) := blk_old (blk_old (by have := blk_new (w2.alloc (.cells #[.slice o0 n0 c0, .slice o1 n1 c1, .slice o2 n2 c2, .slice (some ⟨g, off, none⟩) 1 c3] 26)) (.cells #[.string nm, .int .i64 fr, .int .i64 tw, .slice o4 n4 c4, .slice o5 0 c5, .slice (some ⟨gf, of, none⟩) 2 c6] 36); rw [World.size_alloc] at this; exact this))
  have hX : ((((w2.alloc (.cells #[.slice o0 n0 c0, .slice o1 n1 c1, .slice o2 n2 c2, .slice (some ⟨g, off, none⟩) 1 c3] 26)).alloc (.cells #[.string nm, .int .i64 fr, .int .i64 tw, .slice o4 n4 c4, .slice o5 0 c5, .slice (some ⟨gf, of, none⟩) 2 c6] 36)).alloc (.cells #[.int .i64 0, .bool false] 38)).alloc (.cells #[.int .i64 1, .bool false] 38)).heap[w2.heap.size + 1 + 1]? = some (.cells #[.int .i64 0, .bool false] 38) := blk_old (by have := blk_new ((w2.alloc (.cells #[.slice o0 n0 c0, .slice o1 n1 c1, .slice o2 n2 c2, .slice (some ⟨g, off, none⟩) 1 c3] 26)).alloc (.cells #[.string nm, .int .i64 fr, .int .i64 tw, .slice o4 n4 c4, .slice o5 0 c5, .slice (some ⟨gf, of, none⟩) 2 c6] 36)) (.cells #[.int .i64 0, .bool false] 38); rw [World.size_alloc, World.size_alloc] at this; exact this)
  have hY : ((((w2.alloc (.cells #[.slice o0 n0 c0, .slice o1 n1 c1, .slice o2 n2 c2, .slice (some ⟨g, off, none⟩) 1 c3] 26)).alloc (.cells #[.string nm, .int .i64 fr, .int .i64 tw, .slice o4 n4 c4, .slice o5 0 c5, .slice (some ⟨gf, of, none⟩) 2 c6] 36)).alloc (.cells #[.int .i64 0, .bool false] 38)).alloc (.cells #[.int .i64 1, .bool false] 38)).heap[w2.heap.size + 1 + 1 + 1]? = some (.cells #[.int .i64 1, .bool false] 38) := by have := blk_new (((w2.alloc (.cells #[.slice o0 n0 c0, .slice o1 n1 c1, .slice o2 n2 c2, .slice (some ⟨g, off, none⟩) 1 c3] 26)).alloc (.cells #[.string nm, .int .i64 fr, .int .i64 tw, .slice o4 n4 c4, .slice o5 0 c5, .slice (some ⟨gf, of, none⟩) 2 c6] 36)).alloc (.cells #[.int .i64 0, .bool false] 38)) (.cells #[.int .i64 1, .bool false] 38); rw [World.size_alloc, World.size_alloc, World.size_alloc] at this; exact this
  have r4 : ∀ z : Ext ((((w2.alloc (.cells #[.slice o0 n0 c0, .slice o1 n1 c1, .slice o2 n2 c2, .slice (some ⟨g, off, none⟩) 1 c3] 26)).alloc (.cells #[.string nm, .int .i64 fr, .int .i64 tw, .slice o4 n4 c4, .slice o5 0 c5, .slice (some ⟨gf, of, none⟩) 2 c6] 36)).alloc (.cells #[.int .i64 0, .bool false] 38)).alloc (.cells #[.int .i64 1, .bool false] 38)), z.z.cell? ⟨w2.heap.size + 1, 4, none⟩ = some (.slice o5 0 c5) := ext_cell (six_cells hRT).1.2.2.2.2.1
  have r5 : ∀ z : Ext ((((w2.alloc (.cells #[.slice o0 n0 c0, .slice o1 n1 c1, .slice o2 n2 c2, .slice (some ⟨g, off, none⟩) 1 c3] 26)).alloc (.cells #[.string nm, .int .i64 fr, .int .i64 tw, .slice o4 n4 c4, .slice o5 0 c5, .slice (some ⟨gf, of, none⟩) 2 c6] 36)).alloc (.cells #[.int .i64 0, .bool false] 38)).alloc (.cells #[.int .i64 1, .bool false] 38)), z.z.cell? ⟨w2.heap.size + 1, 5, none⟩ = some (.slice (some ⟨gf, of, none⟩) 2 c6) := ext_cell (six_cells hRT).1.2.2.2.2.2
  have x0 : ∀ z : Ext ((((w2.alloc (.cells #[.slice o0 n0 c0, .slice o1 n1 c1, .slice o2 n2 c2, .slice (some ⟨g, off, none⟩) 1 c3] 26)).alloc (.cells #[.string nm, .int .i64 fr, .int .i64 tw, .slice o4 n4 c4, .slice o5 0 c5, .slice (some ⟨gf, of, none⟩) 2 c6] 36)).alloc (.cells #[.int .i64 0, .bool false] 38)).alloc (.cells #[.int .i64 1, .bool false] 38)), z.z.cell? ⟨w2.heap.size + 1 + 1, 0, none⟩ = some (.int .i64 0) := ext_cell (two_cells hX).1
  have x1 : ∀ z : Ext ((((w2.alloc (.cells #[.slice o0 n0 c0, .slice o1 n1 c1, .slice o2 n2 c2, .slice (some ⟨g, off, none⟩) 1 c3] 26)).alloc (.cells #[.string nm, .int .i64 fr, .int .i64 tw, .slice o4 n4 c4, .slice o5 0 c5, .slice (some ⟨gf, of, none⟩) 2 c6] 36)).alloc (.cells #[.int .i64 0, .bool false] 38)).alloc (.cells #[.int .i64 1, .bool false] 38)), z.z.cell? ⟨w2.heap.size + 1 + 1, 1, none⟩ = some (.bool false) := ext_cell (two_cells hX).2.1
  have v0 : ∀ z : Ext ((((w2.alloc (.cells #[.slice o0 n0 c0, .slice o1 n1 c1, .slice o2 n2 c2, .slice (some ⟨g, off, none⟩) 1 c3] 26)).alloc (.cells #[.string nm, .int .i64 fr, .int .i64 tw, .slice o4 n4 c4, .slice o5 0 c5, .slice (some ⟨gf, of, none⟩) 2 c6] 36)).alloc (.cells #[.int .i64 0, .bool false] 38)).alloc (.cells #[.int .i64 1, .bool false] 38)), z.z.cell? ⟨w2.heap.size + 1 + 1 + 1, 0, none⟩ = some (.int .i64 1) := ext_cell (two_cells hY).1
  have v1 : ∀ z : Ext ((((w2.alloc (.cells #[.slice o0 n0 c0, .slice o1 n1 c1, .slice o2 n2 c2, .slice (some ⟨g, off, none⟩) 1 c3] 26)).alloc (.cells #[.string nm, .int .i64 fr, .int .i64 tw, .slice o4 n4 c4, .slice o5 0 c5, .slice (some ⟨gf, of, none⟩) 2 c6] 36)).alloc (.cells #[.int .i64 0, .bool false] 38)).alloc (.cells #[.int .i64 1, .bool false] 38)), z.z.cell? ⟨w2.heap.size + 1 + 1 + 1, 1, none⟩ = some (.bool false) := ext_cell (two_cells hY).2.1
  clear hRT hX hY
  haveI : Nonempty (Ext ((((w2.alloc (.cells #[.slice o0 n0 c0, .slice o1 n1 c1, .slice o2 n2 c2, .slice (some ⟨g, off, none⟩) 1 c3] 26)).alloc (.cells #[.string nm, .int .i64 fr, .int .i64 tw, .slice o4 n4 c4, .slice o5 0 c5, .slice (some ⟨gf, of, none⟩) 2 c6] 36)).alloc (.cells #[.int .i64 0, .bool false] 38)).alloc (.cells #[.int .i64 1, .bool false] 38))) := ⟨⟨_, Below.refl _ _⟩⟩
  have e1 := run_eqlN 0 0 false false
  rw [decide_eq_true (show (0 : Int) = 0 ∧ false = false from ⟨rfl, rfl⟩)] at e1
  have e2 := run_eqlN 1 1 false false
  rw [decide_eq_true (show (1 : Int) = 1 ∧ false = false from ⟨rfl, rfl⟩)] at e2
  have e3 := eqGuardN
  refine wp_region_ext (by kernel_rfl) (by kernel_rfl) ?_
  repeat (first | go_big_quiet_skip | (go_big_quiet_want; go_big_quiet_op; first | go_big_quiet_on | (apply Exists.intro; refine ⟨fun _ => ?_, ?_⟩; (go_at_call 6; exact ext_of (known_any HBY.out _)); go_big_quiet_on)))
  refine wpQuiet_nil ?_
  intro _ hw'
  obtain ⟨z, hw''⟩ := hw'
  subst hw''
  go_wp2
  go_ret
  exact ⟨rfl, stepB HFIN.out z.h⟩

theorem pw5 : (parseP ⟨#[115, 101, 99, 116, 105, 111, 110, 32, 97, 10, 115, 105, 103, 110, 97, 108, 32, 115, 10, 115, 105, 103, 110, 97, 108, 32, 116, 10, 112, 111, 105, 110, 116, 32, 112, 32, 105, 110, 32, 97, 10, 112, 111, 105, 110, 116, 32, 113, 32, 105, 110, 32, 97, 10, 114, 111, 117, 116, 101, 32, 114, 32, 102, 114, 111, 109, 32, 115, 32, 116, 111, 32, 116, 32, 118, 105, 97, 32, 97, 32, 102, 108, 97, 110, 107, 32, 112, 43, 32, 113, 45]⟩).2 = (6, 0) ∧ (parseP ⟨#[115, 101, 99, 116, 105, 111, 110, 32, 97, 10, 115, 105, 103, 110, 97, 108, 32, 115, 10, 115, 105, 103, 110, 97, 108, 32, 116, 10, 112, 111, 105, 110, 116, 32, 112, 32, 105, 110, 32, 97, 10, 112, 111, 105, 110, 116, 32, 113, 32, 105, 110, 32, 97, 10, 114, 111, 117, 116, 101, 32, 114, 32, 102, 114, 111, 109, 32, 115, 32, 116, 111, 32, 116, 32, 118, 105, 97, 32, 97, 32, 102, 108, 97, 110, 107, 32, 112, 43, 32, 113, 45]⟩).1.routes.map (fun r => (r.points, r.flank)) = [([], [((0 : Int), false), (1, true)])] := by decide +kernel
set_option maxRecDepth 1000000 in
set_option maxHeartbeats 4000000 in
theorem walk5 (hby : BySaid) (w : World) : Calls Try.prog 4 #[.bool false, .bool true, .bool true] w fun e w' => e = .returned (.bool true) ∧ Below w.heap.size w w' := by
  have HBY : Hid BySaid := hby
  have D : Hid (∀ W T, T = ⟨#[115, 101, 99, 116, 105, 111, 110, 32, 97, 10, 115, 105, 103, 110, 97, 108, 32, 115, 10, 115, 105, 103, 110, 97, 108, 32, 116, 10, 112, 111, 105, 110, 116, 32, 112, 32, 105, 110, 32, 97, 10, 112, 111, 105, 110, 116, 32, 113, 32, 105, 110, 32, 97, 10, 114, 111, 117, 116, 101, 32, 114, 32, 102, 114, 111, 109, 32, 115, 32, 116, 111, 32, 116, 32, 118, 105, 97, 32, 97, 32, 102, 108, 97, 110, 107, 32, 112, 43, 32, 113, 45]⟩ → Calls Try.prog 5 #[.string T] W fun en w' => ∃ o0 n0 c0 o1 n1 c1 o2 n2 c2 g off c3 nm fr tw o4 n4 c4 o5 c5 o6 c6, en = .returned (.tuple #[.agg #[.slice o0 n0 c0, .slice o1 n1 c1, .slice o2 n2 c2, .slice (some ⟨g, off, none⟩) 1 c3], .int .i64 6, .int .i64 0]) ∧
      (w'.cell? ⟨g, off, none⟩ = some (.string nm) ∧ w'.cell? ⟨g, off + 1, none⟩ = some (.int .i64 fr) ∧ w'.cell? ⟨g, off + 2, none⟩ = some (.int .i64 tw) ∧ w'.cell? ⟨g, off + 3, none⟩ = some (.slice o4 n4 c4) ∧ w'.cell? ⟨g, off + 4, none⟩ = some (.slice o5 0 c5) ∧ w'.cell? ⟨g, off + 5, none⟩ = some (.slice o6 2 c6)) ∧
      rowAt w' (.slice o5 0 c5) 2 nC [] ∧ rowAt w' (.slice o6 2 c6) 2 nC [((0 : Int), false), (1, true)] ∧ Below W.heap.size W w') := fun W T hT => by
    subst hT
    exact parse_call hby _ (by decide +kernel) [] [((0 : Int), false), (1, true)] pw5.1 pw5.2 W
  clear hby
  go_enter Try.func4, Try.ntmps4
  go_wp2_with fail
  refine (sign_false _).mono ?_
  rintro e wx ⟨rfl, hwx⟩
  obtain rfl := hwx.symm
  go_wp2_with fail
  refine (sign_true _).mono ?_
  rintro e wx ⟨rfl, hwx⟩
  obtain rfl := hwx.symm
  go_wp2_with fail
  refine (D.out _ _ (by decide +kernel)).mono ?_
  rintro en w2 ⟨o0, n0, c0, o1, n1, c1, o2, n2, c2, g, off, c3, nm, fr, tw, o4, n4, c4, o5, c5, o6, c6, rfl, ⟨q0, q1, q2, q3, q4, q5⟩, hp, hf, hb⟩
  have HB : Hid (Below w.heap.size w w2) := hb
  have hlt := World.block_lt_of_cell? w2 _ q0
  have HCH : Hid (Below w2.heap.size w2 ((((w2.alloc (.cells #[.slice o0 n0 c0, .slice o1 n1 c1, .slice o2 n2 c2, .slice (some ⟨g, off, none⟩) 1 c3] 26)).alloc (.cells #[.string nm, .int .i64 fr, .int .i64 tw, .slice o4 n4 c4, .slice o5 0 c5, .slice o6 2 c6] 36)).alloc (.cells #[.int .i64 0, .bool false] 38)).alloc (.cells #[.int .i64 1, .bool true] 38))) := ((((Below.refl _ _).alloc (Nat.le_refl _) _).alloc (by simp) _).alloc (by simp; omega) _).alloc (by simp; omega) _
  obtain ⟨p6, k6, e6, h6⟩ := hf
  simp only [Value.slice.injEq] at e6
  obtain ⟨rfl, -, rfl⟩ := e6
  obtain ⟨gf, of, rfl, hcf⟩ := h6 0 _ rfl
  obtain ⟨gf', of', e6, hcf'⟩ := h6 1 _ rfl
  simp only [Option.some.injEq, Addr.mk.injEq, and_true] at e6
  obtain ⟨rfl, rfl⟩ := e6
  have y0 := hcf 0 _ rfl
  have y1 := hcf 1 _ rfl
  have y2 := hcf' 0 _ rfl
  have y3 := hcf' 1 _ rfl
  simp only [Nat.zero_mul, Nat.one_mul, Nat.add_zero] at y0 y1 y2 y3
  have HFIN : Hid (Below w.heap.size w ((((w2.alloc (.cells #[.slice o0 n0 c0, .slice o1 n1 c1, .slice o2 n2 c2, .slice (some ⟨g, off, none⟩) 1 c3] 26)).alloc (.cells #[.string nm, .int .i64 fr, .int .i64 tw, .slice o4 n4 c4, .slice o5 0 c5, .slice (some ⟨gf, of, none⟩) 2 c6] 36)).alloc (.cells #[.int .i64 0, .bool false] 38)).alloc (.cells #[.int .i64 1, .bool true] 38))) := stepB HB.out HCH.out
  clear hb h6 hcf HB
  have s0 : (w2.alloc (.cells #[.slice o0 n0 c0, .slice o1 n1 c1, .slice o2 n2 c2, .slice (some ⟨g, off, none⟩) 1 c3] 26)).cell? ⟨g, off, none⟩ = some (.string nm) := (((Below.refl _ w2).alloc (Nat.le_refl _) _).cell (p := ⟨g, off, none⟩) hlt).trans q0
  have s1 : (w2.alloc (.cells #[.slice o0 n0 c0, .slice o1 n1 c1, .slice o2 n2 c2, .slice (some ⟨g, off, none⟩) 1 c3] 26)).cell? ⟨g, off + 1, none⟩ = some (.int .i64 fr) := (((Below.refl _ w2).alloc (Nat.le_refl _) _).cell (p := ⟨g, off + 1, none⟩) hlt).trans q1
  have s2 : (w2.alloc (.cells #[.slice o0 n0 c0, .slice o1 n1 c1, .slice o2 n2 c2, .slice (some ⟨g, off, none⟩) 1 c3] 26)).cell? ⟨g, off + 2, none⟩ = some (.int .i64 tw) := (((Below.refl _ w2).alloc (Nat.le_refl _) _).cell (p := ⟨g, off + 2, none⟩) hlt).trans q2
  have s3 : (w2.alloc (.cells #[.slice o0 n0 c0, .slice o1 n1 c1, .slice o2 n2 c2, .slice (some ⟨g, off, none⟩) 1 c3] 26)).cell? ⟨g, off + 3, none⟩ = some (.slice o4 n4 c4) := (((Below.refl _ w2).alloc (Nat.le_refl _) _).cell (p := ⟨g, off + 3, none⟩) hlt).trans q3
  have s4 : (w2.alloc (.cells #[.slice o0 n0 c0, .slice o1 n1 c1, .slice o2 n2 c2, .slice (some ⟨g, off, none⟩) 1 c3] 26)).cell? ⟨g, off + 4, none⟩ = some (.slice o5 0 c5) := (((Below.refl _ w2).alloc (Nat.le_refl _) _).cell (p := ⟨g, off + 4, none⟩) hlt).trans q4
  have s5 : (w2.alloc (.cells #[.slice o0 n0 c0, .slice o1 n1 c1, .slice o2 n2 c2, .slice (some ⟨g, off, none⟩) 1 c3] 26)).cell? ⟨g, off + 5, none⟩ = some (.slice (some ⟨gf, of, none⟩) 2 c6) := (((Below.refl _ w2).alloc (Nat.le_refl _) _).cell (p := ⟨g, off + 5, none⟩) hlt).trans q5
  clear q0 q1 q2 q3 q4 q5
  go_wp2
  have zy0 : ∀ z : Ext ((((w2.alloc (.cells #[.slice o0 n0 c0, .slice o1 n1 c1, .slice o2 n2 c2, .slice (some ⟨g, off, none⟩) 1 c3] 26)).alloc (.cells #[.string nm, .int .i64 fr, .int .i64 tw, .slice o4 n4 c4, .slice o5 0 c5, .slice (some ⟨gf, of, none⟩) 2 c6] 36)).alloc (.cells #[.int .i64 0, .bool false] 38)).alloc (.cells #[.int .i64 1, .bool true] 38)), z.z.cell? ⟨gf, of, none⟩ = some (.int .i64 0) := ext_cell ((HCH.out.cell (p := ⟨gf, of, none⟩) (World.block_lt_of_cell? w2 _ y0)).trans y0)
  have zy1 : ∀ z : Ext ((((w2.alloc (.cells #[.slice o0 n0 c0, .slice o1 n1 c1, .slice o2 n2 c2, .slice (some ⟨g, off, none⟩) 1 c3] 26)).alloc (.cells #[.string nm, .int .i64 fr, .int .i64 tw, .slice o4 n4 c4, .slice o5 0 c5, .slice (some ⟨gf, of, none⟩) 2 c6] 36)).alloc (.cells #[.int .i64 0, .bool false] 38)).alloc (.cells #[.int .i64 1, .bool true] 38)), z.z.cell? ⟨gf, of + 1, none⟩ = some (.bool false) := ext_cell ((HCH.out.cell (p := ⟨gf, of + 1, none⟩) (World.block_lt_of_cell? w2 _ y1)).trans y1)
  have zy2 : ∀ z : Ext ((((w2.alloc (.cells #[.slice o0 n0 c0, .slice o1 n1 c1, .slice o2 n2 c2, .slice (some ⟨g, off, none⟩) 1 c3] 26)).alloc (.cells #[.string nm, .int .i64 fr, .int .i64 tw, .slice o4 n4 c4, .slice o5 0 c5, .slice (some ⟨gf, of, none⟩) 2 c6] 36)).alloc (.cells #[.int .i64 0, .bool false] 38)).alloc (.cells #[.int .i64 1, .bool true] 38)), z.z.cell? ⟨gf, of + 2, none⟩ = some (.int .i64 1) := ext_cell ((HCH.out.cell (p := ⟨gf, of + 2, none⟩) (World.block_lt_of_cell? w2 _ y2)).trans y2)
  have zy3 : ∀ z : Ext ((((w2.alloc (.cells #[.slice o0 n0 c0, .slice o1 n1 c1, .slice o2 n2 c2, .slice (some ⟨g, off, none⟩) 1 c3] 26)).alloc (.cells #[.string nm, .int .i64 fr, .int .i64 tw, .slice o4 n4 c4, .slice o5 0 c5, .slice (some ⟨gf, of, none⟩) 2 c6] 36)).alloc (.cells #[.int .i64 0, .bool false] 38)).alloc (.cells #[.int .i64 1, .bool true] 38)), z.z.cell? ⟨gf, of + 2 + 1, none⟩ = some (.bool true) := ext_cell ((HCH.out.cell (p := ⟨gf, of + 2 + 1, none⟩) (World.block_lt_of_cell? w2 _ y3)).trans y3)
  have hRT : ((((w2.alloc (.cells #[.slice o0 n0 c0, .slice o1 n1 c1, .slice o2 n2 c2, .slice (some ⟨g, off, none⟩) 1 c3] 26)).alloc (.cells #[.string nm, .int .i64 fr, .int .i64 tw, .slice o4 n4 c4, .slice o5 0 c5, .slice (some ⟨gf, of, none⟩) 2 c6] 36)).alloc (.cells #[.int .i64 0, .bool false] 38)).alloc (.cells #[.int .i64 1, .bool true] 38)).heap[w2.heap.size + 1]? = some (.cells #[.string nm, .int .i64 fr, .int .i64 tw, .slice o4 n4 c4, .slice o5 0 c5, .slice (some ⟨gf, of, none⟩) 2 c6] 36) := blk_old (blk_old (by have := blk_new (w2.alloc (.cells #[.slice o0 n0 c0, .slice o1 n1 c1, .slice o2 n2 c2, .slice (some ⟨g, off, none⟩) 1 c3] 26)) (.cells #[.string nm, .int .i64 fr, .int .i64 tw, .slice o4 n4 c4, .slice o5 0 c5, .slice (some ⟨gf, of, none⟩) 2 c6] 36); rw [World.size_alloc] at this; exact this))
  have hX : ((((w2.alloc (.cells #[.slice o0 n0 c0, .slice o1 n1 c1, .slice o2 n2 c2, .slice (some ⟨g, off, none⟩) 1 c3] 26)).alloc (.cells #[.string nm, .int .i64 fr, .int .i64 tw, .slice o4 n4 c4, .slice o5 0 c5, .slice (some ⟨gf, of, none⟩) 2 c6] 36)).alloc (.cells #[.int .i64 0, .bool false] 38)).alloc (.cells #[.int .i64 1, .bool true] 38)).heap[w2.heap.size + 1 + 1]? = some (.cells #[.int .i64 0, .bool false] 38) := blk_old (by have := blk_new ((w2.alloc (.cells #[.slice o0 n0 c0, .slice o1 n1 c1, .slice o2 n2 c2, .slice (some ⟨g, off, none⟩) 1 c3] 26)).alloc (.cells #[.string nm, .int .i64 fr, .int .i64 tw, .slice o4 n4 c4, .slice o5 0 c5, .slice (some ⟨gf, of, none⟩) 2 c6] 36)) (.cells #[.int .i64 0, .bool false] 38); rw [World.size_alloc, World.size_alloc] at this; exact this)
  have hY : ((((w2.alloc (.cells #[.slice o0 n0 c0, .slice o1 n1 c1, .slice o2 n2 c2, .slice (some ⟨g, off, none⟩) 1 c3] 26)).alloc (.cells #[.string nm, .int .i64 fr, .int .i64 tw, .slice o4 n4 c4, .slice o5 0 c5, .slice (some ⟨gf, of, none⟩) 2 c6] 36)).alloc (.cells #[.int .i64 0, .bool false] 38)).alloc (.cells #[.int .i64 1, .bool true] 38)).heap[w2.heap.size + 1 + 1 + 1]? = some (.cells #[.int .i64 1, .bool true] 38) := by have := blk_new (((w2.alloc (.cells #[.slice o0 n0 c0, .slice o1 n1 c1, .slice o2 n2 c2, .slice (some ⟨g, off, none⟩) 1 c3] 26)).alloc (.cells #[.string nm, .int .i64 fr, .int .i64 tw, .slice o4 n4 c4, .slice o5 0 c5, .slice (some ⟨gf, of, none⟩) 2 c6] 36)).alloc (.cells #[.int .i64 0, .bool false] 38)) (.cells #[.int .i64 1, .bool true] 38); rw [World.size_alloc, World.size_alloc, World.size_alloc] at this; exact this
  have r4 : ∀ z : Ext ((((w2.alloc (.cells #[.slice o0 n0 c0, .slice o1 n1 c1, .slice o2 n2 c2, .slice (some ⟨g, off, none⟩) 1 c3] 26)).alloc (.cells #[.string nm, .int .i64 fr, .int .i64 tw, .slice o4 n4 c4, .slice o5 0 c5, .slice (some ⟨gf, of, none⟩) 2 c6] 36)).alloc (.cells #[.int .i64 0, .bool false] 38)).alloc (.cells #[.int .i64 1, .bool true] 38)), z.z.cell? ⟨w2.heap.size + 1, 4, none⟩ = some (.slice o5 0 c5) := ext_cell (six_cells hRT).1.2.2.2.2.1
  have r5 : ∀ z : Ext ((((w2.alloc (.cells #[.slice o0 n0 c0, .slice o1 n1 c1, .slice o2 n2 c2, .slice (some ⟨g, off, none⟩) 1 c3] 26)).alloc (.cells #[.string nm, .int .i64 fr, .int .i64 tw, .slice o4 n4 c4, .slice o5 0 c5, .slice (some ⟨gf, of, none⟩) 2 c6] 36)).alloc (.cells #[.int .i64 0, .bool false] 38)).alloc (.cells #[.int .i64 1, .bool true] 38)), z.z.cell? ⟨w2.heap.size + 1, 5, none⟩ = some (.slice (some ⟨gf, of, none⟩) 2 c6) := ext_cell (six_cells hRT).1.2.2.2.2.2
  have x0 : ∀ z : Ext ((((w2.alloc (.cells #[.slice o0 n0 c0, .slice o1 n1 c1, .slice o2 n2 c2, .slice (some ⟨g, off, none⟩) 1 c3] 26)).alloc (.cells #[.string nm, .int .i64 fr, .int .i64 tw, .slice o4 n4 c4, .slice o5 0 c5, .slice (some ⟨gf, of, none⟩) 2 c6] 36)).alloc (.cells #[.int .i64 0, .bool false] 38)).alloc (.cells #[.int .i64 1, .bool true] 38)), z.z.cell? ⟨w2.heap.size + 1 + 1, 0, none⟩ = some (.int .i64 0) := ext_cell (two_cells hX).1
  have x1 : ∀ z : Ext ((((w2.alloc (.cells #[.slice o0 n0 c0, .slice o1 n1 c1, .slice o2 n2 c2, .slice (some ⟨g, off, none⟩) 1 c3] 26)).alloc (.cells #[.string nm, .int .i64 fr, .int .i64 tw, .slice o4 n4 c4, .slice o5 0 c5, .slice (some ⟨gf, of, none⟩) 2 c6] 36)).alloc (.cells #[.int .i64 0, .bool false] 38)).alloc (.cells #[.int .i64 1, .bool true] 38)), z.z.cell? ⟨w2.heap.size + 1 + 1, 1, none⟩ = some (.bool false) := ext_cell (two_cells hX).2.1
  have v0 : ∀ z : Ext ((((w2.alloc (.cells #[.slice o0 n0 c0, .slice o1 n1 c1, .slice o2 n2 c2, .slice (some ⟨g, off, none⟩) 1 c3] 26)).alloc (.cells #[.string nm, .int .i64 fr, .int .i64 tw, .slice o4 n4 c4, .slice o5 0 c5, .slice (some ⟨gf, of, none⟩) 2 c6] 36)).alloc (.cells #[.int .i64 0, .bool false] 38)).alloc (.cells #[.int .i64 1, .bool true] 38)), z.z.cell? ⟨w2.heap.size + 1 + 1 + 1, 0, none⟩ = some (.int .i64 1) := ext_cell (two_cells hY).1
  have v1 : ∀ z : Ext ((((w2.alloc (.cells #[.slice o0 n0 c0, .slice o1 n1 c1, .slice o2 n2 c2, .slice (some ⟨g, off, none⟩) 1 c3] 26)).alloc (.cells #[.string nm, .int .i64 fr, .int .i64 tw, .slice o4 n4 c4, .slice o5 0 c5, .slice (some ⟨gf, of, none⟩) 2 c6] 36)).alloc (.cells #[.int .i64 0, .bool false] 38)).alloc (.cells #[.int .i64 1, .bool true] 38)), z.z.cell? ⟨w2.heap.size + 1 + 1 + 1, 1, none⟩ = some (.bool true) := ext_cell (two_cells hY).2.1
  clear hRT hX hY
  haveI : Nonempty (Ext ((((w2.alloc (.cells #[.slice o0 n0 c0, .slice o1 n1 c1, .slice o2 n2 c2, .slice (some ⟨g, off, none⟩) 1 c3] 26)).alloc (.cells #[.string nm, .int .i64 fr, .int .i64 tw, .slice o4 n4 c4, .slice o5 0 c5, .slice (some ⟨gf, of, none⟩) 2 c6] 36)).alloc (.cells #[.int .i64 0, .bool false] 38)).alloc (.cells #[.int .i64 1, .bool true] 38))) := ⟨⟨_, Below.refl _ _⟩⟩
  have e1 := run_eqlN 0 0 false false
  rw [decide_eq_true (show (0 : Int) = 0 ∧ false = false from ⟨rfl, rfl⟩)] at e1
  have e2 := run_eqlN 1 1 true true
  rw [decide_eq_true (show (1 : Int) = 1 ∧ true = true from ⟨rfl, rfl⟩)] at e2
  have e3 := eqGuardN
  refine wp_region_ext (by kernel_rfl) (by kernel_rfl) ?_
  repeat (first | go_big_quiet_skip | (go_big_quiet_want; go_big_quiet_op; first | go_big_quiet_on | (apply Exists.intro; refine ⟨fun _ => ?_, ?_⟩; (go_at_call 6; exact ext_of (known_any HBY.out _)); go_big_quiet_on)))
  refine wpQuiet_nil ?_
  intro _ hw'
  obtain ⟨z, hw''⟩ := hw'
  subst hw''
  go_wp2
  go_ret
  exact ⟨rfl, stepB HFIN.out z.h⟩

theorem pw6 : (parseP ⟨#[115, 101, 99, 116, 105, 111, 110, 32, 97, 10, 115, 105, 103, 110, 97, 108, 32, 115, 10, 115, 105, 103, 110, 97, 108, 32, 116, 10, 112, 111, 105, 110, 116, 32, 112, 32, 105, 110, 32, 97, 10, 112, 111, 105, 110, 116, 32, 113, 32, 105, 110, 32, 97, 10, 114, 111, 117, 116, 101, 32, 114, 32, 102, 114, 111, 109, 32, 115, 32, 116, 111, 32, 116, 32, 118, 105, 97, 32, 97, 32, 102, 108, 97, 110, 107, 32, 112, 45, 32, 113, 43]⟩).2 = (6, 0) ∧ (parseP ⟨#[115, 101, 99, 116, 105, 111, 110, 32, 97, 10, 115, 105, 103, 110, 97, 108, 32, 115, 10, 115, 105, 103, 110, 97, 108, 32, 116, 10, 112, 111, 105, 110, 116, 32, 112, 32, 105, 110, 32, 97, 10, 112, 111, 105, 110, 116, 32, 113, 32, 105, 110, 32, 97, 10, 114, 111, 117, 116, 101, 32, 114, 32, 102, 114, 111, 109, 32, 115, 32, 116, 111, 32, 116, 32, 118, 105, 97, 32, 97, 32, 102, 108, 97, 110, 107, 32, 112, 45, 32, 113, 43]⟩).1.routes.map (fun r => (r.points, r.flank)) = [([], [((0 : Int), true), (1, false)])] := by decide +kernel
set_option maxRecDepth 1000000 in
set_option maxHeartbeats 4000000 in
theorem walk6 (hby : BySaid) (w : World) : Calls Try.prog 4 #[.bool true, .bool false, .bool true] w fun e w' => e = .returned (.bool true) ∧ Below w.heap.size w w' := by
  have HBY : Hid BySaid := hby
  have D : Hid (∀ W T, T = ⟨#[115, 101, 99, 116, 105, 111, 110, 32, 97, 10, 115, 105, 103, 110, 97, 108, 32, 115, 10, 115, 105, 103, 110, 97, 108, 32, 116, 10, 112, 111, 105, 110, 116, 32, 112, 32, 105, 110, 32, 97, 10, 112, 111, 105, 110, 116, 32, 113, 32, 105, 110, 32, 97, 10, 114, 111, 117, 116, 101, 32, 114, 32, 102, 114, 111, 109, 32, 115, 32, 116, 111, 32, 116, 32, 118, 105, 97, 32, 97, 32, 102, 108, 97, 110, 107, 32, 112, 45, 32, 113, 43]⟩ → Calls Try.prog 5 #[.string T] W fun en w' => ∃ o0 n0 c0 o1 n1 c1 o2 n2 c2 g off c3 nm fr tw o4 n4 c4 o5 c5 o6 c6, en = .returned (.tuple #[.agg #[.slice o0 n0 c0, .slice o1 n1 c1, .slice o2 n2 c2, .slice (some ⟨g, off, none⟩) 1 c3], .int .i64 6, .int .i64 0]) ∧
      (w'.cell? ⟨g, off, none⟩ = some (.string nm) ∧ w'.cell? ⟨g, off + 1, none⟩ = some (.int .i64 fr) ∧ w'.cell? ⟨g, off + 2, none⟩ = some (.int .i64 tw) ∧ w'.cell? ⟨g, off + 3, none⟩ = some (.slice o4 n4 c4) ∧ w'.cell? ⟨g, off + 4, none⟩ = some (.slice o5 0 c5) ∧ w'.cell? ⟨g, off + 5, none⟩ = some (.slice o6 2 c6)) ∧
      rowAt w' (.slice o5 0 c5) 2 nC [] ∧ rowAt w' (.slice o6 2 c6) 2 nC [((0 : Int), true), (1, false)] ∧ Below W.heap.size W w') := fun W T hT => by
    subst hT
    exact parse_call hby _ (by decide +kernel) [] [((0 : Int), true), (1, false)] pw6.1 pw6.2 W
  clear hby
  go_enter Try.func4, Try.ntmps4
  go_wp2_with fail
  refine (sign_true _).mono ?_
  rintro e wx ⟨rfl, hwx⟩
  obtain rfl := hwx.symm
  go_wp2_with fail
  refine (sign_false _).mono ?_
  rintro e wx ⟨rfl, hwx⟩
  obtain rfl := hwx.symm
  go_wp2_with fail
  refine (D.out _ _ (by decide +kernel)).mono ?_
  rintro en w2 ⟨o0, n0, c0, o1, n1, c1, o2, n2, c2, g, off, c3, nm, fr, tw, o4, n4, c4, o5, c5, o6, c6, rfl, ⟨q0, q1, q2, q3, q4, q5⟩, hp, hf, hb⟩
  have HB : Hid (Below w.heap.size w w2) := hb
  have hlt := World.block_lt_of_cell? w2 _ q0
  have HCH : Hid (Below w2.heap.size w2 ((((w2.alloc (.cells #[.slice o0 n0 c0, .slice o1 n1 c1, .slice o2 n2 c2, .slice (some ⟨g, off, none⟩) 1 c3] 26)).alloc (.cells #[.string nm, .int .i64 fr, .int .i64 tw, .slice o4 n4 c4, .slice o5 0 c5, .slice o6 2 c6] 36)).alloc (.cells #[.int .i64 0, .bool true] 38)).alloc (.cells #[.int .i64 1, .bool false] 38))) := ((((Below.refl _ _).alloc (Nat.le_refl _) _).alloc (by simp) _).alloc (by simp; omega) _).alloc (by simp; omega) _
  obtain ⟨p6, k6, e6, h6⟩ := hf
  simp only [Value.slice.injEq] at e6
  obtain ⟨rfl, -, rfl⟩ := e6
  obtain ⟨gf, of, rfl, hcf⟩ := h6 0 _ rfl
  obtain ⟨gf', of', e6, hcf'⟩ := h6 1 _ rfl
  simp only [Option.some.injEq, Addr.mk.injEq, and_true] at e6
  obtain ⟨rfl, rfl⟩ := e6
  have y0 := hcf 0 _ rfl
  have y1 := hcf 1 _ rfl
  have y2 := hcf' 0 _ rfl
  have y3 := hcf' 1 _ rfl
  simp only [Nat.zero_mul, Nat.one_mul, Nat.add_zero] at y0 y1 y2 y3
  have HFIN : Hid (Below w.heap.size w ((((w2.alloc (.cells #[.slice o0 n0 c0, .slice o1 n1 c1, .slice o2 n2 c2, .slice (some ⟨g, off, none⟩) 1 c3] 26)).alloc (.cells #[.string nm, .int .i64 fr, .int .i64 tw, .slice o4 n4 c4, .slice o5 0 c5, .slice (some ⟨gf, of, none⟩) 2 c6] 36)).alloc (.cells #[.int .i64 0, .bool true] 38)).alloc (.cells #[.int .i64 1, .bool false] 38))) := stepB HB.out HCH.out
  clear hb h6 hcf HB
  have s0 : (w2.alloc (.cells #[.slice o0 n0 c0, .slice o1 n1 c1, .slice o2 n2 c2, .slice (some ⟨g, off, none⟩) 1 c3] 26)).cell? ⟨g, off, none⟩ = some (.string nm) := (((Below.refl _ w2).alloc (Nat.le_refl _) _).cell (p := ⟨g, off, none⟩) hlt).trans q0
  have s1 : (w2.alloc (.cells #[.slice o0 n0 c0, .slice o1 n1 c1, .slice o2 n2 c2, .slice (some ⟨g, off, none⟩) 1 c3] 26)).cell? ⟨g, off + 1, none⟩ = some (.int .i64 fr) := (((Below.refl _ w2).alloc (Nat.le_refl _) _).cell (p := ⟨g, off + 1, none⟩) hlt).trans q1
  have s2 : (w2.alloc (.cells #[.slice o0 n0 c0, .slice o1 n1 c1, .slice o2 n2 c2, .slice (some ⟨g, off, none⟩) 1 c3] 26)).cell? ⟨g, off + 2, none⟩ = some (.int .i64 tw) := (((Below.refl _ w2).alloc (Nat.le_refl _) _).cell (p := ⟨g, off + 2, none⟩) hlt).trans q2
  have s3 : (w2.alloc (.cells #[.slice o0 n0 c0, .slice o1 n1 c1, .slice o2 n2 c2, .slice (some ⟨g, off, none⟩) 1 c3] 26)).cell? ⟨g, off + 3, none⟩ = some (.slice o4 n4 c4) := (((Below.refl _ w2).alloc (Nat.le_refl _) _).cell (p := ⟨g, off + 3, none⟩) hlt).trans q3
  have s4 : (w2.alloc (.cells #[.slice o0 n0 c0, .slice o1 n1 c1, .slice o2 n2 c2, .slice (some ⟨g, off, none⟩) 1 c3] 26)).cell? ⟨g, off + 4, none⟩ = some (.slice o5 0 c5) := (((Below.refl _ w2).alloc (Nat.le_refl _) _).cell (p := ⟨g, off + 4, none⟩) hlt).trans q4
  have s5 : (w2.alloc (.cells #[.slice o0 n0 c0, .slice o1 n1 c1, .slice o2 n2 c2, .slice (some ⟨g, off, none⟩) 1 c3] 26)).cell? ⟨g, off + 5, none⟩ = some (.slice (some ⟨gf, of, none⟩) 2 c6) := (((Below.refl _ w2).alloc (Nat.le_refl _) _).cell (p := ⟨g, off + 5, none⟩) hlt).trans q5
  clear q0 q1 q2 q3 q4 q5
  go_wp2
  have zy0 : ∀ z : Ext ((((w2.alloc (.cells #[.slice o0 n0 c0, .slice o1 n1 c1, .slice o2 n2 c2, .slice (some ⟨g, off, none⟩) 1 c3] 26)).alloc (.cells #[.string nm, .int .i64 fr, .int .i64 tw, .slice o4 n4 c4, .slice o5 0 c5, .slice (some ⟨gf, of, none⟩) 2 c6] 36)).alloc (.cells #[.int .i64 0, .bool true] 38)).alloc (.cells #[.int .i64 1, .bool false] 38)), z.z.cell? ⟨gf, of, none⟩ = some (.int .i64 0) := ext_cell ((HCH.out.cell (p := ⟨gf, of, none⟩) (World.block_lt_of_cell? w2 _ y0)).trans y0)
  have zy1 : ∀ z : Ext ((((w2.alloc (.cells #[.slice o0 n0 c0, .slice o1 n1 c1, .slice o2 n2 c2, .slice (some ⟨g, off, none⟩) 1 c3] 26)).alloc (.cells #[.string nm, .int .i64 fr, .int .i64 tw, .slice o4 n4 c4, .slice o5 0 c5, .slice (some ⟨gf, of, none⟩) 2 c6] 36)).alloc (.cells #[.int .i64 0, .bool true] 38)).alloc (.cells #[.int .i64 1, .bool false] 38)), z.z.cell? ⟨gf, of + 1, none⟩ = some (.bool true) := ext_cell ((HCH.out.cell (p := ⟨gf, of + 1, none⟩) (World.block_lt_of_cell? w2 _ y1)).trans y1)
  have zy2 : ∀ z : Ext ((((w2.alloc (.cells #[.slice o0 n0 c0, .slice o1 n1 c1, .slice o2 n2 c2, .slice (some ⟨g, off, none⟩) 1 c3] 26)).alloc (.cells #[.string nm, .int .i64 fr, .int .i64 tw, .slice o4 n4 c4, .slice o5 0 c5, .slice (some ⟨gf, of, none⟩) 2 c6] 36)).alloc (.cells #[.int .i64 0, .bool true] 38)).alloc (.cells #[.int .i64 1, .bool false] 38)), z.z.cell? ⟨gf, of + 2, none⟩ = some (.int .i64 1) := ext_cell ((HCH.out.cell (p := ⟨gf, of + 2, none⟩) (World.block_lt_of_cell? w2 _ y2)).trans y2)
  have zy3 : ∀ z : Ext ((((w2.alloc (.cells #[.slice o0 n0 c0, .slice o1 n1 c1, .slice o2 n2 c2, .slice (some ⟨g, off, none⟩) 1 c3] 26)).alloc (.cells #[.string nm, .int .i64 fr, .int .i64 tw, .slice o4 n4 c4, .slice o5 0 c5, .slice (some ⟨gf, of, none⟩) 2 c6] 36)).alloc (.cells #[.int .i64 0, .bool true] 38)).alloc (.cells #[.int .i64 1, .bool false] 38)), z.z.cell? ⟨gf, of + 2 + 1, none⟩ = some (.bool false) := ext_cell ((HCH.out.cell (p := ⟨gf, of + 2 + 1, none⟩) (World.block_lt_of_cell? w2 _ y3)).trans y3)
  have hRT : ((((w2.alloc (.cells #[.slice o0 n0 c0, .slice o1 n1 c1, .slice o2 n2 c2, .slice (some ⟨g, off, none⟩) 1 c3] 26)).alloc (.cells #[.string nm, .int .i64 fr, .int .i64 tw, .slice o4 n4 c4, .slice o5 0 c5, .slice (some ⟨gf, of, none⟩) 2 c6] 36)).alloc (.cells #[.int .i64 0, .bool true] 38)).alloc (.cells #[.int .i64 1, .bool false] 38)).heap[w2.heap.size + 1]? = some (.cells #[.string nm, .int .i64 fr, .int .i64 tw, .slice o4 n4 c4, .slice o5 0 c5, .slice (some ⟨gf, of, none⟩) 2 c6] 36) := blk_old (blk_old (by have := blk_new (w2.alloc (.cells #[.slice o0 n0 c0, .slice o1 n1 c1, .slice o2 n2 c2, .slice (some ⟨g, off, none⟩) 1 c3] 26)) (.cells #[.string nm, .int .i64 fr, .int .i64 tw, .slice o4 n4 c4, .slice o5 0 c5, .slice (some ⟨gf, of, none⟩) 2 c6] 36); rw [World.size_alloc] at this; exact this))
  have hX : ((((w2.alloc (.cells #[.slice o0 n0 c0, .slice o1 n1 c1, .slice o2 n2 c2, .slice (some ⟨g, off, none⟩) 1 c3] 26)).alloc (.cells #[.string nm, .int .i64 fr, .int .i64 tw, .slice o4 n4 c4, .slice o5 0 c5, .slice (some ⟨gf, of, none⟩) 2 c6] 36)).alloc (.cells #[.int .i64 0, .bool true] 38)).alloc (.cells #[.int .i64 1, .bool false] 38)).heap[w2.heap.size + 1 + 1]? = some (.cells #[.int .i64 0, .bool true] 38) := blk_old (by have := blk_new ((w2.alloc (.cells #[.slice o0 n0 c0, .slice o1 n1 c1, .slice o2 n2 c2, .slice (some ⟨g, off, none⟩) 1 c3] 26)).alloc (.cells #[.string nm, .int .i64 fr, .int .i64 tw, .slice o4 n4 c4, .slice o5 0 c5, .slice (some ⟨gf, of, none⟩) 2 c6] 36)) (.cells #[.int .i64 0, .bool true] 38); rw [World.size_alloc, World.size_alloc] at this; exact this)
  have hY : ((((w2.alloc (.cells #[.slice o0 n0 c0, .slice o1 n1 c1, .slice o2 n2 c2, .slice (some ⟨g, off, none⟩) 1 c3] 26)).alloc (.cells #[.string nm, .int .i64 fr, .int .i64 tw, .slice o4 n4 c4, .slice o5 0 c5, .slice (some ⟨gf, of, none⟩) 2 c6] 36)).alloc (.cells #[.int .i64 0, .bool true] 38)).alloc (.cells #[.int .i64 1, .bool false] 38)).heap[w2.heap.size + 1 + 1 + 1]? = some (.cells #[.int .i64 1, .bool false] 38) := by have := blk_new (((w2.alloc (.cells #[.slice o0 n0 c0, .slice o1 n1 c1, .slice o2 n2 c2, .slice (some ⟨g, off, none⟩) 1 c3] 26)).alloc (.cells #[.string nm, .int .i64 fr, .int .i64 tw, .slice o4 n4 c4, .slice o5 0 c5, .slice (some ⟨gf, of, none⟩) 2 c6] 36)).alloc (.cells #[.int .i64 0, .bool true] 38)) (.cells #[.int .i64 1, .bool false] 38); rw [World.size_alloc, World.size_alloc, World.size_alloc] at this; exact this
  have r4 : ∀ z : Ext ((((w2.alloc (.cells #[.slice o0 n0 c0, .slice o1 n1 c1, .slice o2 n2 c2, .slice (some ⟨g, off, none⟩) 1 c3] 26)).alloc (.cells #[.string nm, .int .i64 fr, .int .i64 tw, .slice o4 n4 c4, .slice o5 0 c5, .slice (some ⟨gf, of, none⟩) 2 c6] 36)).alloc (.cells #[.int .i64 0, .bool true] 38)).alloc (.cells #[.int .i64 1, .bool false] 38)), z.z.cell? ⟨w2.heap.size + 1, 4, none⟩ = some (.slice o5 0 c5) := ext_cell (six_cells hRT).1.2.2.2.2.1
  have r5 : ∀ z : Ext ((((w2.alloc (.cells #[.slice o0 n0 c0, .slice o1 n1 c1, .slice o2 n2 c2, .slice (some ⟨g, off, none⟩) 1 c3] 26)).alloc (.cells #[.string nm, .int .i64 fr, .int .i64 tw, .slice o4 n4 c4, .slice o5 0 c5, .slice (some ⟨gf, of, none⟩) 2 c6] 36)).alloc (.cells #[.int .i64 0, .bool true] 38)).alloc (.cells #[.int .i64 1, .bool false] 38)), z.z.cell? ⟨w2.heap.size + 1, 5, none⟩ = some (.slice (some ⟨gf, of, none⟩) 2 c6) := ext_cell (six_cells hRT).1.2.2.2.2.2
  have x0 : ∀ z : Ext ((((w2.alloc (.cells #[.slice o0 n0 c0, .slice o1 n1 c1, .slice o2 n2 c2, .slice (some ⟨g, off, none⟩) 1 c3] 26)).alloc (.cells #[.string nm, .int .i64 fr, .int .i64 tw, .slice o4 n4 c4, .slice o5 0 c5, .slice (some ⟨gf, of, none⟩) 2 c6] 36)).alloc (.cells #[.int .i64 0, .bool true] 38)).alloc (.cells #[.int .i64 1, .bool false] 38)), z.z.cell? ⟨w2.heap.size + 1 + 1, 0, none⟩ = some (.int .i64 0) := ext_cell (two_cells hX).1
  have x1 : ∀ z : Ext ((((w2.alloc (.cells #[.slice o0 n0 c0, .slice o1 n1 c1, .slice o2 n2 c2, .slice (some ⟨g, off, none⟩) 1 c3] 26)).alloc (.cells #[.string nm, .int .i64 fr, .int .i64 tw, .slice o4 n4 c4, .slice o5 0 c5, .slice (some ⟨gf, of, none⟩) 2 c6] 36)).alloc (.cells #[.int .i64 0, .bool true] 38)).alloc (.cells #[.int .i64 1, .bool false] 38)), z.z.cell? ⟨w2.heap.size + 1 + 1, 1, none⟩ = some (.bool true) := ext_cell (two_cells hX).2.1
  have v0 : ∀ z : Ext ((((w2.alloc (.cells #[.slice o0 n0 c0, .slice o1 n1 c1, .slice o2 n2 c2, .slice (some ⟨g, off, none⟩) 1 c3] 26)).alloc (.cells #[.string nm, .int .i64 fr, .int .i64 tw, .slice o4 n4 c4, .slice o5 0 c5, .slice (some ⟨gf, of, none⟩) 2 c6] 36)).alloc (.cells #[.int .i64 0, .bool true] 38)).alloc (.cells #[.int .i64 1, .bool false] 38)), z.z.cell? ⟨w2.heap.size + 1 + 1 + 1, 0, none⟩ = some (.int .i64 1) := ext_cell (two_cells hY).1
  have v1 : ∀ z : Ext ((((w2.alloc (.cells #[.slice o0 n0 c0, .slice o1 n1 c1, .slice o2 n2 c2, .slice (some ⟨g, off, none⟩) 1 c3] 26)).alloc (.cells #[.string nm, .int .i64 fr, .int .i64 tw, .slice o4 n4 c4, .slice o5 0 c5, .slice (some ⟨gf, of, none⟩) 2 c6] 36)).alloc (.cells #[.int .i64 0, .bool true] 38)).alloc (.cells #[.int .i64 1, .bool false] 38)), z.z.cell? ⟨w2.heap.size + 1 + 1 + 1, 1, none⟩ = some (.bool false) := ext_cell (two_cells hY).2.1
  clear hRT hX hY
  haveI : Nonempty (Ext ((((w2.alloc (.cells #[.slice o0 n0 c0, .slice o1 n1 c1, .slice o2 n2 c2, .slice (some ⟨g, off, none⟩) 1 c3] 26)).alloc (.cells #[.string nm, .int .i64 fr, .int .i64 tw, .slice o4 n4 c4, .slice o5 0 c5, .slice (some ⟨gf, of, none⟩) 2 c6] 36)).alloc (.cells #[.int .i64 0, .bool true] 38)).alloc (.cells #[.int .i64 1, .bool false] 38))) := ⟨⟨_, Below.refl _ _⟩⟩
  have e1 := run_eqlN 0 0 true true
  rw [decide_eq_true (show (0 : Int) = 0 ∧ true = true from ⟨rfl, rfl⟩)] at e1
  have e2 := run_eqlN 1 1 false false
  rw [decide_eq_true (show (1 : Int) = 1 ∧ false = false from ⟨rfl, rfl⟩)] at e2
  have e3 := eqGuardN
  refine wp_region_ext (by kernel_rfl) (by kernel_rfl) ?_
  repeat (first | go_big_quiet_skip | (go_big_quiet_want; go_big_quiet_op; first | go_big_quiet_on | (apply Exists.intro; refine ⟨fun _ => ?_, ?_⟩; (go_at_call 6; exact ext_of (known_any HBY.out _)); go_big_quiet_on)))
  refine wpQuiet_nil ?_
  intro _ hw'
  obtain ⟨z, hw''⟩ := hw'
  subst hw''
  go_wp2
  go_ret
  exact ⟨rfl, stepB HFIN.out z.h⟩

theorem pw7 : (parseP ⟨#[115, 101, 99, 116, 105, 111, 110, 32, 97, 10, 115, 105, 103, 110, 97, 108, 32, 115, 10, 115, 105, 103, 110, 97, 108, 32, 116, 10, 112, 111, 105, 110, 116, 32, 112, 32, 105, 110, 32, 97, 10, 112, 111, 105, 110, 116, 32, 113, 32, 105, 110, 32, 97, 10, 114, 111, 117, 116, 101, 32, 114, 32, 102, 114, 111, 109, 32, 115, 32, 116, 111, 32, 116, 32, 118, 105, 97, 32, 97, 32, 102, 108, 97, 110, 107, 32, 112, 45, 32, 113, 45]⟩).2 = (6, 0) ∧ (parseP ⟨#[115, 101, 99, 116, 105, 111, 110, 32, 97, 10, 115, 105, 103, 110, 97, 108, 32, 115, 10, 115, 105, 103, 110, 97, 108, 32, 116, 10, 112, 111, 105, 110, 116, 32, 112, 32, 105, 110, 32, 97, 10, 112, 111, 105, 110, 116, 32, 113, 32, 105, 110, 32, 97, 10, 114, 111, 117, 116, 101, 32, 114, 32, 102, 114, 111, 109, 32, 115, 32, 116, 111, 32, 116, 32, 118, 105, 97, 32, 97, 32, 102, 108, 97, 110, 107, 32, 112, 45, 32, 113, 45]⟩).1.routes.map (fun r => (r.points, r.flank)) = [([], [((0 : Int), true), (1, true)])] := by decide +kernel
set_option maxRecDepth 1000000 in
set_option maxHeartbeats 4000000 in
theorem walk7 (hby : BySaid) (w : World) : Calls Try.prog 4 #[.bool true, .bool true, .bool true] w fun e w' => e = .returned (.bool true) ∧ Below w.heap.size w w' := by
  have HBY : Hid BySaid := hby
  have D : Hid (∀ W T, T = ⟨#[115, 101, 99, 116, 105, 111, 110, 32, 97, 10, 115, 105, 103, 110, 97, 108, 32, 115, 10, 115, 105, 103, 110, 97, 108, 32, 116, 10, 112, 111, 105, 110, 116, 32, 112, 32, 105, 110, 32, 97, 10, 112, 111, 105, 110, 116, 32, 113, 32, 105, 110, 32, 97, 10, 114, 111, 117, 116, 101, 32, 114, 32, 102, 114, 111, 109, 32, 115, 32, 116, 111, 32, 116, 32, 118, 105, 97, 32, 97, 32, 102, 108, 97, 110, 107, 32, 112, 45, 32, 113, 45]⟩ → Calls Try.prog 5 #[.string T] W fun en w' => ∃ o0 n0 c0 o1 n1 c1 o2 n2 c2 g off c3 nm fr tw o4 n4 c4 o5 c5 o6 c6, en = .returned (.tuple #[.agg #[.slice o0 n0 c0, .slice o1 n1 c1, .slice o2 n2 c2, .slice (some ⟨g, off, none⟩) 1 c3], .int .i64 6, .int .i64 0]) ∧
      (w'.cell? ⟨g, off, none⟩ = some (.string nm) ∧ w'.cell? ⟨g, off + 1, none⟩ = some (.int .i64 fr) ∧ w'.cell? ⟨g, off + 2, none⟩ = some (.int .i64 tw) ∧ w'.cell? ⟨g, off + 3, none⟩ = some (.slice o4 n4 c4) ∧ w'.cell? ⟨g, off + 4, none⟩ = some (.slice o5 0 c5) ∧ w'.cell? ⟨g, off + 5, none⟩ = some (.slice o6 2 c6)) ∧
      rowAt w' (.slice o5 0 c5) 2 nC [] ∧ rowAt w' (.slice o6 2 c6) 2 nC [((0 : Int), true), (1, true)] ∧ Below W.heap.size W w') := fun W T hT => by
    subst hT
    exact parse_call hby _ (by decide +kernel) [] [((0 : Int), true), (1, true)] pw7.1 pw7.2 W
  clear hby
  go_enter Try.func4, Try.ntmps4
  go_wp2_with fail
  refine (sign_true _).mono ?_
  rintro e wx ⟨rfl, hwx⟩
  obtain rfl := hwx.symm
  go_wp2_with fail
  refine (sign_true _).mono ?_
  rintro e wx ⟨rfl, hwx⟩
  obtain rfl := hwx.symm
  go_wp2_with fail
  refine (D.out _ _ (by decide +kernel)).mono ?_
  rintro en w2 ⟨o0, n0, c0, o1, n1, c1, o2, n2, c2, g, off, c3, nm, fr, tw, o4, n4, c4, o5, c5, o6, c6, rfl, ⟨q0, q1, q2, q3, q4, q5⟩, hp, hf, hb⟩
  have HB : Hid (Below w.heap.size w w2) := hb
  have hlt := World.block_lt_of_cell? w2 _ q0
  have HCH : Hid (Below w2.heap.size w2 ((((w2.alloc (.cells #[.slice o0 n0 c0, .slice o1 n1 c1, .slice o2 n2 c2, .slice (some ⟨g, off, none⟩) 1 c3] 26)).alloc (.cells #[.string nm, .int .i64 fr, .int .i64 tw, .slice o4 n4 c4, .slice o5 0 c5, .slice o6 2 c6] 36)).alloc (.cells #[.int .i64 0, .bool true] 38)).alloc (.cells #[.int .i64 1, .bool true] 38))) := ((((Below.refl _ _).alloc (Nat.le_refl _) _).alloc (by simp) _).alloc (by simp; omega) _).alloc (by simp; omega) _
  obtain ⟨p6, k6, e6, h6⟩ := hf
  simp only [Value.slice.injEq] at e6
  obtain ⟨rfl, -, rfl⟩ := e6
  obtain ⟨gf, of, rfl, hcf⟩ := h6 0 _ rfl
  obtain ⟨gf', of', e6, hcf'⟩ := h6 1 _ rfl
  simp only [Option.some.injEq, Addr.mk.injEq, and_true] at e6
  obtain ⟨rfl, rfl⟩ := e6
  have y0 := hcf 0 _ rfl
  have y1 := hcf 1 _ rfl
  have y2 := hcf' 0 _ rfl
  have y3 := hcf' 1 _ rfl
  simp only [Nat.zero_mul, Nat.one_mul, Nat.add_zero] at y0 y1 y2 y3
  have HFIN : Hid (Below w.heap.size w ((((w2.alloc (.cells #[.slice o0 n0 c0, .slice o1 n1 c1, .slice o2 n2 c2, .slice (some ⟨g, off, none⟩) 1 c3] 26)).alloc (.cells #[.string nm, .int .i64 fr, .int .i64 tw, .slice o4 n4 c4, .slice o5 0 c5, .slice (some ⟨gf, of, none⟩) 2 c6] 36)).alloc (.cells #[.int .i64 0, .bool true] 38)).alloc (.cells #[.int .i64 1, .bool true] 38))) := stepB HB.out HCH.out
  clear hb h6 hcf HB
  have s0 : (w2.alloc (.cells #[.slice o0 n0 c0, .slice o1 n1 c1, .slice o2 n2 c2, .slice (some ⟨g, off, none⟩) 1 c3] 26)).cell? ⟨g, off, none⟩ = some (.string nm) := (((Below.refl _ w2).alloc (Nat.le_refl _) _).cell (p := ⟨g, off, none⟩) hlt).trans q0
  have s1 : (w2.alloc (.cells #[.slice o0 n0 c0, .slice o1 n1 c1, .slice o2 n2 c2, .slice (some ⟨g, off, none⟩) 1 c3] 26)).cell? ⟨g, off + 1, none⟩ = some (.int .i64 fr) := (((Below.refl _ w2).alloc (Nat.le_refl _) _).cell (p := ⟨g, off + 1, none⟩) hlt).trans q1
  have s2 : (w2.alloc (.cells #[.slice o0 n0 c0, .slice o1 n1 c1, .slice o2 n2 c2, .slice (some ⟨g, off, none⟩) 1 c3] 26)).cell? ⟨g, off + 2, none⟩ = some (.int .i64 tw) := (((Below.refl _ w2).alloc (Nat.le_refl _) _).cell (p := ⟨g, off + 2, none⟩) hlt).trans q2
  have s3 : (w2.alloc (.cells #[.slice o0 n0 c0, .slice o1 n1 c1, .slice o2 n2 c2, .slice (some ⟨g, off, none⟩) 1 c3] 26)).cell? ⟨g, off + 3, none⟩ = some (.slice o4 n4 c4) := (((Below.refl _ w2).alloc (Nat.le_refl _) _).cell (p := ⟨g, off + 3, none⟩) hlt).trans q3
  have s4 : (w2.alloc (.cells #[.slice o0 n0 c0, .slice o1 n1 c1, .slice o2 n2 c2, .slice (some ⟨g, off, none⟩) 1 c3] 26)).cell? ⟨g, off + 4, none⟩ = some (.slice o5 0 c5) := (((Below.refl _ w2).alloc (Nat.le_refl _) _).cell (p := ⟨g, off + 4, none⟩) hlt).trans q4
  have s5 : (w2.alloc (.cells #[.slice o0 n0 c0, .slice o1 n1 c1, .slice o2 n2 c2, .slice (some ⟨g, off, none⟩) 1 c3] 26)).cell? ⟨g, off + 5, none⟩ = some (.slice (some ⟨gf, of, none⟩) 2 c6) := (((Below.refl _ w2).alloc (Nat.le_refl _) _).cell (p := ⟨g, off + 5, none⟩) hlt).trans q5
  clear q0 q1 q2 q3 q4 q5
  go_wp2
  have zy0 : ∀ z : Ext ((((w2.alloc (.cells #[.slice o0 n0 c0, .slice o1 n1 c1, .slice o2 n2 c2, .slice (some ⟨g, off, none⟩) 1 c3] 26)).alloc (.cells #[.string nm, .int .i64 fr, .int .i64 tw, .slice o4 n4 c4, .slice o5 0 c5, .slice (some ⟨gf, of, none⟩) 2 c6] 36)).alloc (.cells #[.int .i64 0, .bool true] 38)).alloc (.cells #[.int .i64 1, .bool true] 38)), z.z.cell? ⟨gf, of, none⟩ = some (.int .i64 0) := ext_cell ((HCH.out.cell (p := ⟨gf, of, none⟩) (World.block_lt_of_cell? w2 _ y0)).trans y0)
  have zy1 : ∀ z : Ext ((((w2.alloc (.cells #[.slice o0 n0 c0, .slice o1 n1 c1, .slice o2 n2 c2, .slice (some ⟨g, off, none⟩) 1 c3] 26)).alloc (.cells #[.string nm, .int .i64 fr, .int .i64 tw, .slice o4 n4 c4, .slice o5 0 c5, .slice (some ⟨gf, of, none⟩) 2 c6] 36)).alloc (.cells #[.int .i64 0, .bool true] 38)).alloc (.cells #[.int .i64 1, .bool true] 38)), z.z.cell? ⟨gf, of + 1, none⟩ = some (.bool true) := ext_cell ((HCH.out.cell (p := ⟨gf, of + 1, none⟩) (World.block_lt_of_cell? w2 _ y1)).trans y1)
  have zy2 : ∀ z : Ext ((((w2.alloc (.cells #[.slice o0 n0 c0, .slice o1 n1 c1, .slice o2 n2 c2, .slice (some ⟨g, off, none⟩) 1 c3] 26)).alloc (.cells #[.string nm, .int .i64 fr, .int .i64 tw, .slice o4 n4 c4, .slice o5 0 c5, .slice (some ⟨gf, of, none⟩) 2 c6] 36)).alloc (.cells #[.int .i64 0, .bool true] 38)).alloc (.cells #[.int .i64 1, .bool true] 38)), z.z.cell? ⟨gf, of + 2, none⟩ = some (.int .i64 1) := ext_cell ((HCH.out.cell (p := ⟨gf, of + 2, none⟩) (World.block_lt_of_cell? w2 _ y2)).trans y2)
  have zy3 : ∀ z : Ext ((((w2.alloc (.cells #[.slice o0 n0 c0, .slice o1 n1 c1, .slice o2 n2 c2, .slice (some ⟨g, off, none⟩) 1 c3] 26)).alloc (.cells #[.string nm, .int .i64 fr, .int .i64 tw, .slice o4 n4 c4, .slice o5 0 c5, .slice (some ⟨gf, of, none⟩) 2 c6] 36)).alloc (.cells #[.int .i64 0, .bool true] 38)).alloc (.cells #[.int .i64 1, .bool true] 38)), z.z.cell? ⟨gf, of + 2 + 1, none⟩ = some (.bool true) := ext_cell ((HCH.out.cell (p := ⟨gf, of + 2 + 1, none⟩) (World.block_lt_of_cell? w2 _ y3)).trans y3)
  have hRT : ((((w2.alloc (.cells #[.slice o0 n0 c0, .slice o1 n1 c1, .slice o2 n2 c2, .slice (some ⟨g, off, none⟩) 1 c3] 26)).alloc (.cells #[.string nm, .int .i64 fr, .int .i64 tw, .slice o4 n4 c4, .slice o5 0 c5, .slice (some ⟨gf, of, none⟩) 2 c6] 36)).alloc (.cells #[.int .i64 0, .bool true] 38)).alloc (.cells #[.int .i64 1, .bool true] 38)).heap[w2.heap.size + 1]? = some (.cells #[.string nm, .int .i64 fr, .int .i64 tw, .slice o4 n4 c4, .slice o5 0 c5, .slice (some ⟨gf, of, none⟩) 2 c6] 36) := blk_old (blk_old (by have := blk_new (w2.alloc (.cells #[.slice o0 n0 c0, .slice o1 n1 c1, .slice o2 n2 c2, .slice (some ⟨g, off, none⟩) 1 c3] 26)) (.cells #[.string nm, .int .i64 fr, .int .i64 tw, .slice o4 n4 c4, .slice o5 0 c5, .slice (some ⟨gf, of, none⟩) 2 c6] 36); rw [World.size_alloc] at this; exact this))
  have hX : ((((w2.alloc (.cells #[.slice o0 n0 c0, .slice o1 n1 c1, .slice o2 n2 c2, .slice (some ⟨g, off, none⟩) 1 c3] 26)).alloc (.cells #[.string nm, .int .i64 fr, .int .i64 tw, .slice o4 n4 c4, .slice o5 0 c5, .slice (some ⟨gf, of, none⟩) 2 c6] 36)).alloc (.cells #[.int .i64 0, .bool true] 38)).alloc (.cells #[.int .i64 1, .bool true] 38)).heap[w2.heap.size + 1 + 1]? = some (.cells #[.int .i64 0, .bool true] 38) := blk_old (by have := blk_new ((w2.alloc (.cells #[.slice o0 n0 c0, .slice o1 n1 c1, .slice o2 n2 c2, .slice (some ⟨g, off, none⟩) 1 c3] 26)).alloc (.cells #[.string nm, .int .i64 fr, .int .i64 tw, .slice o4 n4 c4, .slice o5 0 c5, .slice (some ⟨gf, of, none⟩) 2 c6] 36)) (.cells #[.int .i64 0, .bool true] 38); rw [World.size_alloc, World.size_alloc] at this; exact this)
  have hY : ((((w2.alloc (.cells #[.slice o0 n0 c0, .slice o1 n1 c1, .slice o2 n2 c2, .slice (some ⟨g, off, none⟩) 1 c3] 26)).alloc (.cells #[.string nm, .int .i64 fr, .int .i64 tw, .slice o4 n4 c4, .slice o5 0 c5, .slice (some ⟨gf, of, none⟩) 2 c6] 36)).alloc (.cells #[.int .i64 0, .bool true] 38)).alloc (.cells #[.int .i64 1, .bool true] 38)).heap[w2.heap.size + 1 + 1 + 1]? = some (.cells #[.int .i64 1, .bool true] 38) := by have := blk_new (((w2.alloc (.cells #[.slice o0 n0 c0, .slice o1 n1 c1, .slice o2 n2 c2, .slice (some ⟨g, off, none⟩) 1 c3] 26)).alloc (.cells #[.string nm, .int .i64 fr, .int .i64 tw, .slice o4 n4 c4, .slice o5 0 c5, .slice (some ⟨gf, of, none⟩) 2 c6] 36)).alloc (.cells #[.int .i64 0, .bool true] 38)) (.cells #[.int .i64 1, .bool true] 38); rw [World.size_alloc, World.size_alloc, World.size_alloc] at this; exact this
  have r4 : ∀ z : Ext ((((w2.alloc (.cells #[.slice o0 n0 c0, .slice o1 n1 c1, .slice o2 n2 c2, .slice (some ⟨g, off, none⟩) 1 c3] 26)).alloc (.cells #[.string nm, .int .i64 fr, .int .i64 tw, .slice o4 n4 c4, .slice o5 0 c5, .slice (some ⟨gf, of, none⟩) 2 c6] 36)).alloc (.cells #[.int .i64 0, .bool true] 38)).alloc (.cells #[.int .i64 1, .bool true] 38)), z.z.cell? ⟨w2.heap.size + 1, 4, none⟩ = some (.slice o5 0 c5) := ext_cell (six_cells hRT).1.2.2.2.2.1
  have r5 : ∀ z : Ext ((((w2.alloc (.cells #[.slice o0 n0 c0, .slice o1 n1 c1, .slice o2 n2 c2, .slice (some ⟨g, off, none⟩) 1 c3] 26)).alloc (.cells #[.string nm, .int .i64 fr, .int .i64 tw, .slice o4 n4 c4, .slice o5 0 c5, .slice (some ⟨gf, of, none⟩) 2 c6] 36)).alloc (.cells #[.int .i64 0, .bool true] 38)).alloc (.cells #[.int .i64 1, .bool true] 38)), z.z.cell? ⟨w2.heap.size + 1, 5, none⟩ = some (.slice (some ⟨gf, of, none⟩) 2 c6) := ext_cell (six_cells hRT).1.2.2.2.2.2
  have x0 : ∀ z : Ext ((((w2.alloc (.cells #[.slice o0 n0 c0, .slice o1 n1 c1, .slice o2 n2 c2, .slice (some ⟨g, off, none⟩) 1 c3] 26)).alloc (.cells #[.string nm, .int .i64 fr, .int .i64 tw, .slice o4 n4 c4, .slice o5 0 c5, .slice (some ⟨gf, of, none⟩) 2 c6] 36)).alloc (.cells #[.int .i64 0, .bool true] 38)).alloc (.cells #[.int .i64 1, .bool true] 38)), z.z.cell? ⟨w2.heap.size + 1 + 1, 0, none⟩ = some (.int .i64 0) := ext_cell (two_cells hX).1
  have x1 : ∀ z : Ext ((((w2.alloc (.cells #[.slice o0 n0 c0, .slice o1 n1 c1, .slice o2 n2 c2, .slice (some ⟨g, off, none⟩) 1 c3] 26)).alloc (.cells #[.string nm, .int .i64 fr, .int .i64 tw, .slice o4 n4 c4, .slice o5 0 c5, .slice (some ⟨gf, of, none⟩) 2 c6] 36)).alloc (.cells #[.int .i64 0, .bool true] 38)).alloc (.cells #[.int .i64 1, .bool true] 38)), z.z.cell? ⟨w2.heap.size + 1 + 1, 1, none⟩ = some (.bool true) := ext_cell (two_cells hX).2.1
  have v0 : ∀ z : Ext ((((w2.alloc (.cells #[.slice o0 n0 c0, .slice o1 n1 c1, .slice o2 n2 c2, .slice (some ⟨g, off, none⟩) 1 c3] 26)).alloc (.cells #[.string nm, .int .i64 fr, .int .i64 tw, .slice o4 n4 c4, .slice o5 0 c5, .slice (some ⟨gf, of, none⟩) 2 c6] 36)).alloc (.cells #[.int .i64 0, .bool true] 38)).alloc (.cells #[.int .i64 1, .bool true] 38)), z.z.cell? ⟨w2.heap.size + 1 + 1 + 1, 0, none⟩ = some (.int .i64 1) := ext_cell (two_cells hY).1
  have v1 : ∀ z : Ext ((((w2.alloc (.cells #[.slice o0 n0 c0, .slice o1 n1 c1, .slice o2 n2 c2, .slice (some ⟨g, off, none⟩) 1 c3] 26)).alloc (.cells #[.string nm, .int .i64 fr, .int .i64 tw, .slice o4 n4 c4, .slice o5 0 c5, .slice (some ⟨gf, of, none⟩) 2 c6] 36)).alloc (.cells #[.int .i64 0, .bool true] 38)).alloc (.cells #[.int .i64 1, .bool true] 38)), z.z.cell? ⟨w2.heap.size + 1 + 1 + 1, 1, none⟩ = some (.bool true) := ext_cell (two_cells hY).2.1
  clear hRT hX hY
  haveI : Nonempty (Ext ((((w2.alloc (.cells #[.slice o0 n0 c0, .slice o1 n1 c1, .slice o2 n2 c2, .slice (some ⟨g, off, none⟩) 1 c3] 26)).alloc (.cells #[.string nm, .int .i64 fr, .int .i64 tw, .slice o4 n4 c4, .slice o5 0 c5, .slice (some ⟨gf, of, none⟩) 2 c6] 36)).alloc (.cells #[.int .i64 0, .bool true] 38)).alloc (.cells #[.int .i64 1, .bool true] 38))) := ⟨⟨_, Below.refl _ _⟩⟩
  have e1 := run_eqlN 0 0 true true
  rw [decide_eq_true (show (0 : Int) = 0 ∧ true = true from ⟨rfl, rfl⟩)] at e1
  have e2 := run_eqlN 1 1 true true
  rw [decide_eq_true (show (1 : Int) = 1 ∧ true = true from ⟨rfl, rfl⟩)] at e2
  have e3 := eqGuardN
  refine wp_region_ext (by kernel_rfl) (by kernel_rfl) ?_
  repeat (first | go_big_quiet_skip | (go_big_quiet_want; go_big_quiet_op; first | go_big_quiet_on | (apply Exists.intro; refine ⟨fun _ => ?_, ?_⟩; (go_at_call 6; exact ext_of (known_any HBY.out _)); go_big_quiet_on)))
  refine wpQuiet_nil ?_
  intro _ hw'
  obtain ⟨z, hw''⟩ := hw'
  subst hw''
  go_wp2
  go_ret
  exact ⟨rfl, stepB HFIN.out z.h⟩

theorem walk (a b c : Bool) (w : World) : Calls Try.prog 4 #[.bool a, .bool b, .bool c] w fun e w' => e = .returned (.bool true) ∧ Below w.heap.size w w' := by
  cases c <;> cases a <;> cases b
  · exact walk0 byPlaces_any w
  · exact walk1 byPlaces_any w
  · exact walk2 byPlaces_any w
  · exact walk3 byPlaces_any w
  · exact walk4 byPlaces_any w
  · exact walk5 byPlaces_any w
  · exact walk6 byPlaces_any w
  · exact walk7 byPlaces_any w

theorem own : ownKnob Try.prog.godebug = none := by kernel_rfl

set_option maxRecDepth 100000 in
theorem lifted (os : Os) (started : os.Started) (H : Type) (enc : TypeId × Value → H) :
    ReturnsInHanded {} Try.checked os 4 .any (Rows.planWantsSpec.pre6 enc Try.prog Try.f4 Rows.planWantsRow.domain false) (Rows.planWantsSpec.post enc Try.prog Try.f4 false true false false) := by
  refine returnsInHanded_of_change (C := Try.checked) own started (by kernel_rfl) Try.func4
    (ChangeSpec.witness6 (enc := enc) (C := Try.checked) false ⟨#[], #[.bool false, .bool false, .bool false], []⟩ 8 (by kernel_rfl) (by kernel_rfl) (by kernel_rfl) (by kernel_rfl)) ?_
  intro W base args ds gs before hval0 hW _ _
  have hval : ∀ (j : Nat) t v, Try.f4.params[j]? = some t → args[j]? = some v → Value.okWide Try.prog W .any base t v := hval0
  have hW' := hW
  obtain ⟨p, q, hA0, hV, rfl, _, _⟩ := hW
  have hA : DataW.TrodAll enc Try.prog W 0 (fun _ => true) true Try.f4.params.toList args.toList ds p := hA0
  rw [Try.params4] at hA hval
  obtain ⟨v0, vs0, d0, ds0, p0, q0, hargs, rfl, rfl, h0, r0⟩ := trodAll_cons hA
  obtain ⟨v1, vs1, d1, ds1, p1, q1, rfl, rfl, rfl, h1, r1⟩ := trodAll_cons r0
  obtain ⟨v2, vs2, d2, ds2, p2, q2, rfl, rfl, rfl, h2, r2⟩ := trodAll_cons r1
  obtain ⟨rfl, rfl, rfl⟩ := trodAll_nil r2
  obtain rfl : args = #[v0, v1, v2] := by cases args; simp_all
  obtain ⟨rfl, rfl⟩ := trodVars_none hV
  obtain ⟨a0, rfl, rfl, rfl⟩ := open_bool Try.underlying4 (hval 0 4 v0 rfl rfl) h0
  obtain ⟨a1, rfl, rfl, rfl⟩ := open_bool Try.underlying4 (hval 1 4 v1 rfl rfl) h1
  obtain ⟨a2, rfl, rfl, rfl⟩ := open_bool Try.underlying4 (hval 2 4 v2 rfl rfl) h2
  clear hA0 hval0
  refine (walk a0 a1 a2  W).mono fun e W' ⟨he, bel⟩ => ?_
  subst he
  exact ⟨_, rfl, _, _, _, [], _, [], hW', trodAll_mk1 (shut_bool Try.underlying4 _), (trodAll_cons_mk (shut_bool Try.underlying4 _) (trodAll_cons_mk (shut_bool Try.underlying4 _) (trodAll_cons_mk (shut_bool Try.underlying4 _) trodAll_mk0))), rfl, bel.frame _, fun h => by cases h⟩

theorem over : Rows.planWantsRow.holds Try.pinned (OpenSpec.ofChange Rows.planWantsSpec) :=
  OpenClaim.holds_of_wide 4 Try.f4 rfl rfl rfl rfl rfl rfl rfl ⟨rfl, rfl, rfl, rfl, rfl⟩ rfl rfl rfl rfl rfl (by kernel_rfl) Try.func4 (by kernel_rfl)
    (of_decide_eq_true (by kernel_rfl)) (by unfold Func.isWrapper; first | (rw [if_pos (by decide +kernel)]; kernel_rfl) | (rw [if_neg (by decide +kernel)]; exact ⟨rfl, rfl⟩))
    (fun os started H enc _ => lifted os started H enc)


end Go.Proofs.Ytbifcicipkhohab.planWants
namespace Go.Proofs.Ytbifcicipkhohab
theorem planWants_holds : Rows.PlanWantsSaid := planWants.over
#print axioms planWants_holds
end Go.Proofs.Ytbifcicipkhohab
