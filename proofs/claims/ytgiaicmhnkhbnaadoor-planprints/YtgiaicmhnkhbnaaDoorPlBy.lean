/-
  plan.byPlaces, by a contract.
-/
import Derived.Test.YtgiaicmhnkhbnaaDoorPlAddR
namespace Go.Proofs.YtgiaicmhnkhbnaaDoor
open Go.RowKit

theorem put6 {w : World} {c : Nat} {a b d e f g a' b' d' e' f' g' : Value} {t : TypeId} (h : w.heap[c]? = some (.cells #[a, b, d, e, f, g] t (0, 0))) :
    ((((((w.setCell ⟨c, 0, none⟩ a').setCell ⟨c, 1, none⟩ b').setCell ⟨c, 2, none⟩ d').setCell ⟨c, 3, none⟩ e').setCell ⟨c, 4, none⟩ f').setCell ⟨c, 5, none⟩ g').heap[c]? = some (.cells #[a', b', d', e', f', g'] t (0, 0)) :=
  heap_put (heap_put (heap_put (heap_put (heap_put (heap_put h)))))
theorem set6_owns {w : World} {c : Nat} {a' b' d' e' f' g' : Value} {B : Nat} {e : TypeId} {size : Nat} {v : Value} {n : Nat} {xs : List Value} (h : w.ownsRow B e size v n xs) (hne : v.ownBlock ≠ some c) :
    ((((((w.setCell ⟨c, 0, none⟩ a').setCell ⟨c, 1, none⟩ b').setCell ⟨c, 2, none⟩ d').setCell ⟨c, 3, none⟩ e').setCell ⟨c, 4, none⟩ f').setCell ⟨c, 5, none⟩ g').ownsRow B e size v n xs := by
  have k : ∀ (W : World) (o : Nat) (u : Value), W.ownsRow B e size v n xs → (W.setCell ⟨c, o, none⟩ u).ownsRow B e size v n xs := fun W o u hW => hW.kept (grown_set W c o u) (.inr hne)
  exact k _ _ _ (k _ _ _ (k _ _ _ (k _ _ _ (k _ _ _ (k _ _ _ h)))))
theorem set6_below {a w : World} {c : Nat} {a' b' d' e' f' g' : Value} {B : Nat} (h : Below B a w) (hc : B ≤ c) :
    Below B a ((((((w.setCell ⟨c, 0, none⟩ a').setCell ⟨c, 1, none⟩ b').setCell ⟨c, 2, none⟩ d').setCell ⟨c, 3, none⟩ e').setCell ⟨c, 4, none⟩ f').setCell ⟨c, 5, none⟩ g') :=
  (((((h.setCell hc _).setCell hc _).setCell hc _).setCell hc _).setCell hc _).setCell hc _

set_option maxRecDepth 1000000 in
set_option maxHeartbeats 16000000 in
theorem byPlaces_any : BySaid := by
  intro L l r vS vP vG v0 v1 v2 w cS cP cG hS hP hG ok hr l0 l1 l2
  obtain ⟨i0, hii, hz0, hz1, hz2⟩ := info_parts infoI
  have hs10 := ok.s
  have hp5 := ok.p
  have hg6 := ok.g
  obtain ⟨a0, n0, k0, rfl⟩ := hr.via.slice
  obtain ⟨a1, n1, k1, rfl⟩ := hr.set.slice
  obtain ⟨a2, n2, k2, rfl⟩ := hr.flank.slice
  obtain ⟨b0, m0, j0, rfl⟩ := hS.slice
  obtain ⟨b1, m1, j1, rfl⟩ := hP.slice
  obtain ⟨b2, m2, j2, rfl⟩ := hG.slice
  obtain ⟨w1, hw1⟩ : ∃ w1, w1 = (w.alloc (.cells #[.string r.name, .string r.frm, .string r.to, .slice a0 n0 k0, .slice a1 n1 k1, .slice a2 n2 k2] 109)).alloc (.cells #[.string ⟨#[]⟩, .int .i64 0, .int .i64 0, .slice none 0 0, .slice none 0 0, .slice none 0 0] 37) := ⟨_, rfl⟩
  have HW1 : Hid ((w.alloc (.cells #[.string r.name, .string r.frm, .string r.to, .slice a0 n0 k0, .slice a1 n1 k1, .slice a2 n2 k2] 109)).alloc (.cells #[.string ⟨#[]⟩, .int .i64 0, .int .i64 0, .slice none 0 0, .slice none 0 0, .slice none 0 0] 37) = w1) := hw1.symm
  have HB1 : Hid (Below w.heap.size w w1) := by rw [hw1]; exact ((Below.refl _ _).alloc (Nat.le_refl _) _).alloc (by simp) _
  have HZ1 : Hid (w1.heap.size = w.heap.size + 2) := by rw [hw1]; simp [Hid]
  have HL1 : Hid (w1.heap[w.heap.size]? = some (.cells #[.string r.name, .string r.frm, .string r.to, .slice a0 n0 k0, .slice a1 n1 k1, .slice a2 n2 k2] 109 (0, 0))) := by rw [hw1]; exact blk_old (blk_new _ _)
  have HR1 : Hid (w1.heap[w.heap.size + 1]? = some (.cells #[.string ⟨#[]⟩, .int .i64 0, .int .i64 0, .slice none 0 0, .slice none 0 0, .slice none 0 0] 37 (0, 0))) := by
    rw [hw1]
    have := blk_new (w.alloc (.cells #[.string r.name, .string r.frm, .string r.to, .slice a0 n0 k0, .slice a1 n1 k1, .slice a2 n2 k2] 109)) (.cells #[.string ⟨#[]⟩, .int .i64 0, .int .i64 0, .slice none 0 0, .slice none 0 0, .slice none 0 0] 37)
    rw [World.size_alloc] at this
    exact this
  clear hw1
  have OF : Hid (∀ W, Below w1.heap.size w1 W → (W.cell? ⟨w.heap.size, 0, none⟩ = some (.string r.name) ∧ W.cell? ⟨w.heap.size, 1, none⟩ = some (.string r.frm) ∧ W.cell? ⟨w.heap.size, 2, none⟩ = some (.string r.to) ∧ W.cell? ⟨w.heap.size, 4, none⟩ = some (.slice a1 n1 k1) ∧ W.cell? ⟨w.heap.size, 5, none⟩ = some (.slice a2 n2 k2)) ∧ W.cell? ⟨L, 2, none⟩ = some (.slice b2 m2 j2)) := fun W hb => by
    obtain ⟨⟨q0, q1, q2, q3, q4, q5⟩, _⟩ := six_cells (blk_below hb HL1.out)
    exact ⟨⟨q0, q1, q2, q4, q5⟩, ((stepB HB1.out hb).cell (p := ⟨L, 2, none⟩) (World.block_lt_of_cell? w _ cG)).trans cG⟩
  have hIG := fun x W (hb : Below w1.heap.size w1 W) => index_any _ l.signals x W (hG.below (stepB HB1.out hb)) (by omega)
  have hNS := fun W (hb : Below w1.heap.size w1 W) => needs_any L _ _ l.points r.set W (((stepB HB1.out hb).cell (p := ⟨L, 1, none⟩) (World.block_lt_of_cell? w _ cP)).trans cP) (hP.below (stepB HB1.out hb)) (by omega) (hr.set.below (stepB HB1.out hb)) l1
  have hNF := fun W (hb : Below w1.heap.size w1 W) => needs_any L _ _ l.points r.flank W (((stepB HB1.out hb).cell (p := ⟨L, 1, none⟩) (World.block_lt_of_cell? w _ cP)).trans cP) (hP.below (stepB HB1.out hb)) (by omega) (hr.flank.below (stepB HB1.out hb)) l2
  have HBP : Hid (byPlaces l r = ⟨r.name, idx l.signals r.frm, idx l.signals r.to, r.via.map (idx l.sections), r.set.map fun x => (idx (l.points.map (·.1)) x.1, x.2), r.flank.map fun x => (idx (l.points.map (·.1)) x.1, x.2)⟩) := rfl
  have hlens : r.set.length = (r.set.map fun x => (idx (l.points.map (·.1)) x.1, x.2)).length ∧ r.flank.length = (r.flank.map fun x => (idx (l.points.map (·.1)) x.1, x.2)).length := ⟨by simp, by simp⟩
  generalize byPlaces l r = ans at *
  have D1 := hIG r.frm
  have D2 := hIG r.to
  clear hIG
  generalize idx l.signals r.frm = sf at *
  generalize idx l.signals r.to = st at *
  generalize (r.set.map fun x => (idx (l.points.map (·.1)) x.1, x.2)) = ls at *
  generalize (r.flank.map fun x => (idx (l.points.map (·.1)) x.1, x.2)) = lf at *
  have E1 : Hid (∀ W, Below w1.heap.size w1 W → Calls Tryd.prog 60 #[.slice b2 m2 j2, .string r.frm] W fun e w' => e = .returned (.int .i64 sf) ∧ w' = W) := D1
  have E2 : Hid (∀ W, Below w1.heap.size w1 W → Calls Tryd.prog 60 #[.slice b2 m2 j2, .string r.to] W fun e w' => e = .returned (.int .i64 st) ∧ w' = W) := D2
  have HLS : Hid (r.set.length = ls.length ∧ r.flank.length = lf.length) := hlens
  rw [HLS.out.1] at hNS
  rw [HLS.out.2] at hNF
  have E3 : Hid (∀ W, Below w1.heap.size w1 W → Calls Tryd.prog 77 #[.pointer (some ⟨L, 0, none⟩), .slice a1 n1 k1] W fun e w' => ∃ v, e = .returned v ∧ w'.ownsRow W.heap.size 60 2 v ls.length (ls.flatMap nC) ∧ Below W.heap.size W w') := hNS
  have E4 : Hid (∀ W, Below w1.heap.size w1 W → Calls Tryd.prog 77 #[.pointer (some ⟨L, 0, none⟩), .slice a2 n2 k2] W fun e w' => ∃ v, e = .returned v ∧ w'.ownsRow W.heap.size 60 2 v lf.length (lf.flatMap nC) ∧ Below W.heap.size W w') := hNF
  have HSV : Hid (∀ W, Below w.heap.size w W → W.cell? ⟨L, 0, none⟩ = some (.slice b0 m0 j0) ∧ rowAt W (.slice b0 m0 j0) 1 sC l.sections) := fun W hb => ⟨(hb.cell (p := ⟨L, 0, none⟩) (World.block_lt_of_cell? w _ cS)).trans cS, hS.below hb⟩
  have HVI : Hid (rowAt w (.slice a0 n0 k0) 1 sC r.via) := hr.via
  clear D1 D2 hNS hNF cS cP cG hS hP hG hr ok l1 l2 hlens
  go_enter Tryd.func63, Tryd.ntmps63
  go_upto_region 1 with fail
  rw [HW1.out]
  go_cut [5] from 8 to 32 (fun s5 wc => ∃ br u1 u2, s5 = .pointer (some ⟨br, 0, none⟩) ∧ w1.heap.size ≤ br ∧ wc.heap[br]? = some (.cells #[.string r.name, .int .i64 sf, .int .i64 st, .slice none 0 0, u1, u2] 37 (0, 0)) ∧
      wc.ownsRow w1.heap.size 60 2 u1 ls.length (ls.flatMap nC) ∧ wc.ownsRow w1.heap.size 60 2 u2 lf.length (lf.flatMap nC) ∧ u1.ownBlock ≠ some br ∧ u2.ownBlock ≠ some br ∧ Below w1.heap.size w1 wc)
  case first =>
    go_region_held (fun W => (W.cell? ⟨w.heap.size, 0, none⟩ = some (.string r.name) ∧ W.cell? ⟨w.heap.size, 1, none⟩ = some (.string r.frm) ∧ W.cell? ⟨w.heap.size, 2, none⟩ = some (.string r.to) ∧ W.cell? ⟨w.heap.size, 4, none⟩ = some (.slice a1 n1 k1) ∧ W.cell? ⟨w.heap.size, 5, none⟩ = some (.slice a2 n2 k2)) ∧ W.cell? ⟨L, 2, none⟩ = some (.slice b2 m2 j2))
      (exact OF.out _ (by repeat' (first | with_reducible exact Below.refl _ _ | with_reducible exact HBb.out | with_reducible exact HBa.out | with_reducible refine Below.drew ?_ | with_reducible refine Below.alloc ?_ ?_ _ | with_reducible refine Below.setCell ?_ ?_ _ | with_reducible exact Nat.le_refl _ | with_reducible exact HBb.out.size | with_reducible exact HBa.out.size | (simp; done) | (have q1 := HBb.out.size; simp; omega) | (have q1 := HBa.out.size; simp; omega) | (simp; omega))))
      (first
        | (go_at_call_of 60 (Value.string r.frm); refine (E1.out _ (by repeat' (first | with_reducible exact Below.refl _ _ | with_reducible exact HBb.out | with_reducible exact HBa.out | with_reducible refine Below.drew ?_ | with_reducible refine Below.alloc ?_ ?_ _ | with_reducible refine Below.setCell ?_ ?_ _ | with_reducible exact Nat.le_refl _ | with_reducible exact HBb.out.size | with_reducible exact HBa.out.size | (simp; done) | (have q1 := HBb.out.size; simp; omega) | (have q1 := HBa.out.size; simp; omega) | (simp; omega)))).mono ?_; rintro e wx ⟨rfl, rfl⟩)
        | (go_at_call_of 60 (Value.string r.to); refine (E2.out _ (by repeat' (first | with_reducible exact Below.refl _ _ | with_reducible exact HBb.out | with_reducible exact HBa.out | with_reducible refine Below.drew ?_ | with_reducible refine Below.alloc ?_ ?_ _ | with_reducible refine Below.setCell ?_ ?_ _ | with_reducible exact Nat.le_refl _ | with_reducible exact HBb.out.size | with_reducible exact HBa.out.size | (simp; done) | (have q1 := HBb.out.size; simp; omega) | (have q1 := HBa.out.size; simp; omega) | (simp; omega)))).mono ?_; rintro e wx ⟨rfl, rfl⟩)
        | (go_at_call_of 77 (Value.slice a1 n1 k1); refine (E3.out _ (by repeat' (first | with_reducible exact Below.refl _ _ | with_reducible exact HBb.out | with_reducible exact HBa.out | with_reducible refine Below.drew ?_ | with_reducible refine Below.alloc ?_ ?_ _ | with_reducible refine Below.setCell ?_ ?_ _ | with_reducible exact Nat.le_refl _ | with_reducible exact HBb.out.size | with_reducible exact HBa.out.size | (simp; done) | (have q1 := HBb.out.size; simp; omega) | (have q1 := HBa.out.size; simp; omega) | (simp; omega)))).mono ?_; rintro e wa ⟨ua, rfl, howna, hba⟩; obtain ⟨oa, ca, rfl⟩ := own_slice howna; have HOa : Hid (wa.ownsRow w1.heap.size 60 2 (.slice oa ls.length ca) ls.length (ls.flatMap nC)) := (owns_mono howna (by first | (simp; done) | (simp; omega))); have HBa : Hid (Below w1.heap.size w1 wa) := stepB (by repeat' (first | with_reducible exact Below.refl _ _ | with_reducible exact HBb.out | with_reducible exact HBa.out | with_reducible refine Below.drew ?_ | with_reducible refine Below.alloc ?_ ?_ _ | with_reducible refine Below.setCell ?_ ?_ _ | with_reducible exact Nat.le_refl _ | with_reducible exact HBb.out.size | with_reducible exact HBa.out.size | (simp; done) | (have q1 := HBb.out.size; simp; omega) | (have q1 := HBa.out.size; simp; omega) | (simp; omega))) hba; (try (have KA : Hid (wa.heap[w1.heap.size]? = some (.cells #[.string ⟨#[]⟩, .int .i64 0, .int .i64 0, .slice none 0 0, .slice none 0 0, .slice none 0 0] 37 (0, 0))) := blk_below hba (blk_new w1.drew _))); have NA : Hid (∀ k, (Value.slice oa ls.length ca).ownBlock = some k → _ ≤ k ∧ k < wa.heap.size) := howna.lt; clear howna hba)
        | (go_at_call_of 77 (Value.slice a2 n2 k2); refine (E4.out _ (by repeat' (first | with_reducible exact Below.refl _ _ | with_reducible exact HBb.out | with_reducible exact HBa.out | with_reducible refine Below.drew ?_ | with_reducible refine Below.alloc ?_ ?_ _ | with_reducible refine Below.setCell ?_ ?_ _ | with_reducible exact Nat.le_refl _ | with_reducible exact HBb.out.size | with_reducible exact HBa.out.size | (simp; done) | (have q1 := HBb.out.size; simp; omega) | (have q1 := HBa.out.size; simp; omega) | (simp; omega)))).mono ?_; rintro e wb ⟨ub, rfl, hownb, hbb⟩; obtain ⟨ob, cb, rfl⟩ := own_slice hownb; have HOb : Hid (wb.ownsRow w1.heap.size 60 2 (.slice ob lf.length cb) lf.length (lf.flatMap nC)) := (owns_mono hownb (by first | (simp; done) | exact HBa.out.size | (have := HBa.out.size; simp; omega))); have HOab : Hid (wb.ownsRow w1.heap.size 60 2 (.slice oa ls.length ca) ls.length (ls.flatMap nC)) := (by first | exact owns_below HOa.out hbb | exact owns_below (HOa.out.alloc _) hbb); have HBb : Hid (Below w1.heap.size w1 wb) := stepB (by repeat' (first | with_reducible exact Below.refl _ _ | with_reducible exact HBb.out | with_reducible exact HBa.out | with_reducible refine Below.drew ?_ | with_reducible refine Below.alloc ?_ ?_ _ | with_reducible refine Below.setCell ?_ ?_ _ | with_reducible exact Nat.le_refl _ | with_reducible exact HBb.out.size | with_reducible exact HBa.out.size | (simp; done) | (have q1 := HBb.out.size; simp; omega) | (have q1 := HBa.out.size; simp; omega) | (simp; omega))) hbb; (try (have KB := blk_below hbb KA.out; have KC : Hid (wb.heap[w1.heap.size]? = some (.cells #[.string ⟨#[]⟩, .int .i64 0, .int .i64 0, .slice none 0 0, .slice none 0 0, .slice none 0 0] 37 (0, 0))) := KB; obtain ⟨⟨y0, y1, y2, y3, y4, y5⟩, z0, z1, z2, z3, z4, z5⟩ := six_cells KB; clear KB)); (try (have KB := blk_below hbb (blk_new wa _); have KC : Hid (wb.heap[wa.heap.size]? = some (.cells #[.string ⟨#[]⟩, .int .i64 0, .int .i64 0, .slice none 0 0, .slice none 0 0, .slice none 0 0] 37 (0, 0))) := KB; obtain ⟨⟨y0, y1, y2, y3, y4, y5⟩, z0, z1, z2, z3, z4, z5⟩ := six_cells KB; clear KB)); have NB : Hid (∀ k, (Value.slice ob lf.length cb).ownBlock = some k → _ ≤ k ∧ k < wb.heap.size) := hownb.lt; have ZB : Hid (_ ≤ wb.heap.size) := hbb.size; clear hownb hbb))
    · go_wp2_with fail
      go_meet
      case rel =>
        refine ⟨wb.heap.size, .slice oa ls.length ca, .slice ob lf.length cb, rfl, HBb.out.size, blk_new _ _, HOab.out.alloc _, HOb.out.alloc _, ?_, ?_, HBb.out.alloc HBb.out.size _⟩
        · intro e
          have n1 := (HOab.out.lt _ e).2
          omega
        · intro e
          have n1 := (HOb.out.lt _ e).2
          omega
    · go_wp2_with fail
      go_meet
      case rel =>
        have na : (Value.slice oa ls.length ca).ownBlock ≠ some wa.heap.size := fun e => by
          have n1 := (NA.out _ e).2
          omega
        have nb : (Value.slice ob lf.length cb).ownBlock ≠ some wa.heap.size := fun e => by
          have n1 := (NB.out _ e).1
          simp at n1
          omega
        exact ⟨wa.heap.size, .slice oa ls.length ca, .slice ob lf.length cb, rfl, HBa.out.size, put6 KC.out, set6_owns HOab.out na, set6_owns HOb.out nb, na, nb, set6_below HBb.out HBa.out.size⟩
    · go_wp2_with fail
      go_meet
      case rel =>
        have na : (Value.slice oa ls.length ca).ownBlock ≠ some w1.heap.size := fun e => by
          have n1 := (NA.out _ e).1
          simp at n1
          omega
        have nb : (Value.slice ob lf.length cb).ownBlock ≠ some w1.heap.size := fun e => by
          have n1 := (NB.out _ e).1
          have n2 := (Array.getElem?_eq_some_iff.1 KA.out).1
          omega
        exact ⟨w1.heap.size, .slice oa ls.length ca, .slice ob lf.length cb, rfl, Nat.le_refl _, put6 KC.out, set6_owns HOab.out na, set6_owns HOb.out nb, na, nb, set6_below HBb.out (Nat.le_refl _)⟩
    · go_wp2_with fail
      go_meet
      case rel =>
        have na : (Value.slice oa ls.length ca).ownBlock ≠ some w1.heap.size := fun e => by
          have n1 := (NA.out _ e).1
          simp at n1
          omega
        have nb : (Value.slice ob lf.length cb).ownBlock ≠ some w1.heap.size := fun e => by
          have n1 := (NB.out _ e).1
          have n2 := (Array.getElem?_eq_some_iff.1 KA.out).1
          omega
        exact ⟨w1.heap.size, .slice oa ls.length ca, .slice ob lf.length cb, rfl, Nat.le_refl _, put6 KC.out, set6_owns HOab.out na, set6_owns HOb.out nb, na, nb, set6_below HBb.out (Nat.le_refl _)⟩
    · go_wp2_with fail
      go_meet
      case rel =>
        have na : (Value.slice oa ls.length ca).ownBlock ≠ some w1.heap.size := fun e => by
          have n1 := (NA.out _ e).1
          simp at n1
          omega
        have nb : (Value.slice ob lf.length cb).ownBlock ≠ some w1.heap.size := fun e => by
          have n1 := (NB.out _ e).1
          have n2 := (Array.getElem?_eq_some_iff.1 KA.out).1
          omega
        exact ⟨w1.heap.size, .slice oa ls.length ca, .slice ob lf.length cb, rfl, Nat.le_refl _, put6 KC.out, set6_owns HOab.out na, set6_owns HOb.out nb, na, nb, set6_below HBb.out (Nat.le_refl _)⟩
  case rest =>
    obtain ⟨br, u1, u2, rfl, hbr, hblk, ho1, ho2, ne1, ne2, hbc⟩ := hcut
    obtain ⟨p1, d1, rfl⟩ := own_slice ho1
    obtain ⟨p2, d2, rfl⟩ := own_slice ho2
    have HZ : Hid (w.heap.size + 2 ≤ br) := by rw [Hid, ← HZ1.out]; exact hbr
    have HBK : Hid (wc.heap[br]? = some (.cells #[.string r.name, .int .i64 sf, .int .i64 st, .slice none 0 0, .slice p1 ls.length d1, .slice p2 lf.length d2] 37 (0, 0))) := hblk
    have HO1 : Hid (wc.ownsRow w1.heap.size 60 2 (.slice p1 ls.length d1) ls.length (ls.flatMap nC)) := ho1
    have HO2 : Hid (wc.ownsRow w1.heap.size 60 2 (.slice p2 lf.length d2) lf.length (lf.flatMap nC)) := ho2
    have HN1 : Hid ((Value.slice p1 ls.length d1).ownBlock ≠ some br) := ne1
    have HN2 : Hid ((Value.slice p2 lf.length d2).ownBlock ≠ some br) := ne2
    have HBC : Hid (Below w1.heap.size w1 wc) := hbc
    have HWC : Hid (Below w.heap.size w wc) := stepB HB1.out hbc
    have HLC : Hid (wc.heap[w.heap.size]? = some (.cells #[.string r.name, .string r.frm, .string r.to, .slice a0 n0 k0, .slice a1 n1 k1, .slice a2 n2 k2] 109 (0, 0))) := blk_below hbc HL1.out
    have HRC : Hid (wc.heap[w.heap.size + 1]? = some (.cells #[.string ⟨#[]⟩, .int .i64 0, .int .i64 0, .slice none 0 0, .slice none 0 0, .slice none 0 0] 37 (0, 0))) := blk_below hbc HR1.out
    have hbrlt : br < wc.heap.size := (Array.getElem?_eq_some_iff.1 hblk).1
    have cvia := (six_cells HLC.out).1.2.2.2.1
    have HMS : Hid (l.sections.length ≤ 10) := hs10
    obtain ⟨ov, cv, hvs, hvc⟩ := HVI.out
    simp only [Value.slice.injEq] at hvs
    obtain ⟨rfl, hn0, rfl⟩ := hvs
    have HN0 : Hid (r.via.length = n0) := hn0.symm
    have hl0 : n0 ≤ 4294967296 := by rw [hn0]; exact l0
    have HVC : Hid (∀ j x, r.via[j]? = some x → ∃ g off, a0 = some ⟨g, off, none⟩ ∧ ∀ i u, (sC x)[i]? = some u → w.cell? ⟨g, off + j * 1 + i, none⟩ = some u) := hvc
    clear hblk ho1 ho2 ne1 ne2 hbc hbr hvc hn0 l0 E1 E2 E3 E4 OF HB1 HL1 HR1 HW1 hs10 hp5 hg6
    go_wp2
    go_loopw [7, 36] (fun _ i wr => ∃ (k : Nat) (vp : Value), i = .int .i64 k ∧ k ≤ n0 ∧ wr.heap[br]? = some (.cells #[.string r.name, .int .i64 sf, .int .i64 st, vp, .slice p1 ls.length d1, .slice p2 lf.length d2] 37 (0, 0)) ∧ wr.ownsRow wc.heap.size 3 1 vp k (((r.via.take k).map (idx l.sections)).flatMap iC) ∧ wc.grownBy wr (some br)) (fun _ i _ => n0 - (intOf i).toNat)
    case atStart => exact ⟨0, .slice none 0 0, rfl, by omega, HBK.out, World.ownsRow_nil _ _ _ _, World.grownBy.refl _ _⟩
    case round =>
      obtain ⟨k, vp, rfl, hk, hbk, hov, hgr⟩ := hrel
      obtain ⟨op, cp, rfl⟩ := own_slice hov
      have HGR : Hid (wc.grownBy wr (some br)) := hgr
      have HBW : Hid (Below w.heap.size w wr) := HWC.out.grown hgr HWC.out.size (fun j e => by cases e; have := HZ.out; omega)
      have HBK2 : Hid (wr.heap[br]? = some (.cells #[.string r.name, .int .i64 sf, .int .i64 st, .slice op k cp, .slice p1 ls.length d1, .slice p2 lf.length d2] 37 (0, 0))) := hbk
      have HOV : Hid (wr.ownsRow wc.heap.size 3 1 (.slice op k cp) k (((r.via.take k).map (idx l.sections)).flatMap iC)) := hov
      have hszr := hgr.size
      clear hbk hov hgr
      by_cases hlt : k < n0
      · obtain ⟨y, hy⟩ : ∃ y, r.via[k]? = some y := ⟨r.via[k]'(by rw [HN0.out]; exact hlt), List.getElem?_eq_getElem _⟩
        obtain ⟨g, off, rfl, hcell⟩ := HVC.out k y hy
        have cy := (HBW.out.cell (p := ⟨g, off + k * 1 + 0, none⟩) (World.block_lt_of_cell? w _ (hcell 0 _ rfl))).trans (hcell 0 _ rfl)
        simp only [Nat.mul_one, Nat.add_zero] at cy
        obtain ⟨cs0, hrs0⟩ := HSV.out _ HBW.out
        have HSR : Hid (rowAt wr.drew (.slice b0 m0 j0) 1 sC l.sections) := hrs0.below (Below.refl _ _).drew
        have HTK : Hid (((r.via.take (k + 1)).map (idx l.sections)).flatMap iC = ((r.via.take k).map (idx l.sections)).flatMap iC ++ [.int .i64 (idx l.sections y)]) := by
          obtain ⟨hkl, he⟩ := List.getElem?_eq_some_iff.1 hy
          rw [Hid, List.take_succ_eq_append_getElem hkl, he]
          simp [iC]
        have D5 : Hid (Calls Tryd.prog 60 #[.slice b0 m0 j0, .string y] wr.drew fun e w' => e = .returned (.int .i64 (idx l.sections y)) ∧ w' = wr.drew) := index_any _ l.sections y _ HSR.out (by have := HMS.out; omega)
        generalize idx l.sections y = si at *
        generalize ((r.via.take k).map (idx l.sections)).flatMap iC = cells at *
        obtain ⟨⟨q0, q1, q2, q3, q4, q5⟩, _, _, _, z3, _, _⟩ := six_cells HBK2.out
        have hbrr : br < wr.heap.size := (Array.getElem?_eq_some_iff.1 HBK2.out).1
        have cs1 : (wr.alloc (.cells #[.int .i64 si] 3)).cell? ⟨br, 3, none⟩ = some (.slice op k cp) := (World.cell?_of_block (w := wr) (a := ⟨br, 3, none⟩) (Below.heap_alloc _ _ _ hbrr)).trans q3
        have S1 : Hid ((wr.alloc (.cells #[.int .i64 si] 3)).drew.ownsRow wc.heap.size 3 1 (.slice op k cp) k cells) := HOV.out.alloc _
        have S3 : Hid (wc.heap.size ≤ (wr.alloc (.cells #[.int .i64 si] 3)).drew.heap.size) := by
          show wc.heap.size ≤ (wr.alloc (.cells #[.int .i64 si] 3)).heap.size
          simp
          omega
        have HNB : Hid ((Value.slice op k cp).ownBlock ≠ some br) := own_ne HOV.out hbrlt
        have HQ3 : Hid (wr.cell? ⟨br, 3, none⟩ = some (.slice op k cp) ∧ wr.frozen? ⟨br, 3, none⟩ = false) := ⟨q3, z3⟩
        clear hcell hy hrs0
        go_wp2_with fail
        go_region_law (first
          | (refine step_append_own rfl (.tmp 41) (.tmp 48) 34 rfl wc.heap.size 3 i0 (.int .i64 0) 1 8 Tryd.underlying34 hii hz0 hz1 hz2 rfl (by decide) (.slice op k cp) k cells (by simp [Act.eval]) S1.out ⟨wr.heap.size, 0, none⟩ 1 1 [.int .i64 si] (by simp [Act.eval]) rfl (cell_one_new wr _ _) (one_int _) (by unfold maxLen; omega) (by omega) S3.out ?_; intro v' w8 hown8 hg8 hat8; obtain ⟨oa', cap', rfl⟩ := own_slice hown8; have hb8 : w8.heap[br]? = wr.heap[br]? := ((hg8.block br (by simp; omega) (fun e => HNB.out e.symm)).trans (Below.heap_alloc wr _ _ hbrr)); have x1 := (World.cell?_of_block (w := wr) (a := ⟨br, 3, none⟩) hb8).trans HQ3.out.1; have x2 := (World.frozen?_of_block (w := wr) (a := ⟨br, 3, none⟩) hb8).trans HQ3.out.2; have G0 : Hid (w8.heap[br]? = wr.heap[br]?) := hb8; have G1 : Hid ((wr.alloc (.cells #[.int .i64 si] 3)).drew.grownBy w8 (Value.slice op k cp).ownBlock) := hg8; have G3 : Hid (w8.ownsRow wc.heap.size 3 1 (.slice oa' (k + 1) cap') (k + 1) (cells ++ [.int .i64 si])) := hown8; clear hown8 hg8 hat8 hb8)
          | (go_simp; go_at_call 60; refine D5.out.mono ?_; rintro e wx ⟨rfl, rfl⟩))
        all_goals
          go_wp2
          go_roundw
          case rel =>
            refine ⟨k + 1, .slice oa' (k + 1) cap', by go_num, by omega, heap_put (G0.out.trans HBK2.out), ?_, ?_⟩
            · rw [HTK.out]
              exact G3.out.kept (grown_set _ _ _ _) (.inr (own_ne G3.out hbrlt))
            · exact ((HGR.out.andThen (World.grownBy_alloc wr _ none) (fun j e => by cases e)).andThen (undrew G1.out) (fun j e => .inl (HOV.out.lt j e).1)).andThen (grown_set _ _ _ _) (fun j e => .inr e)
          case measure => simp [intOf]; omega
      · have hkn : k = n0 := by omega
        subst hkn
        obtain ⟨⟨q0, q1, q2, q3, q4, q5⟩, _⟩ := six_cells HBK2.out
        have hRW := blk_grown HGR.out HRC.out (by have := HZ.out; omega)
        obtain ⟨⟨e0, e1, e2, e3, e4, e5⟩, g0, g1, g2, g3, g4, g5⟩ := six_cells hRW
        have HO1R : Hid (wr.ownsRow w1.heap.size 60 2 (.slice p1 ls.length d1) ls.length (ls.flatMap nC)) := HO1.out.kept HGR.out (.inr HN1.out)
        have HO2R : Hid (wr.ownsRow w1.heap.size 60 2 (.slice p2 lf.length d2) lf.length (lf.flatMap nC)) := HO2.out.kept HGR.out (.inr HN2.out)
        clear hRW
        go_wp2
        refine bodyPost_ret (v := .agg #[.string r.name, .int .i64 sf, .int .i64 st, .slice op k cp, .slice p1 ls.length d1, .slice p2 lf.length d2]) (by simp [results, Tryd.results63, go_sem, e0, e1, e2, e3, e4, e5]) rfl ⟨.slice op k cp, .slice p1 ls.length d1, .slice p2 lf.length d2, by rw [HBP.out], ?_, ?_, ?_, ?_⟩
        · rw [HBP.out]
          have hlen : (r.via.map (idx l.sections)).length = k := by rw [List.length_map]; exact HN0.out
          have q := HOV.out
          rw [List.take_of_length_le (by rw [HN0.out]; exact Nat.le_refl _)] at q
          simp only
          rw [hlen]
          exact set6_owns (owns_mono q HWC.out.size) (own_ne q (by have := HZ.out; omega))
        · rw [HBP.out]
          exact set6_owns (owns_mono HO1R.out (by have := HZ1.out; omega)) (own_ne HO1R.out (by have := HZ1.out; omega))
        · rw [HBP.out]
          exact set6_owns (owns_mono HO2R.out (by have := HZ1.out; omega)) (own_ne HO2R.out (by have := HZ1.out; omega))
        · exact set6_below HBW.out (by omega)

end Go.Proofs.YtgiaicmhnkhbnaaDoor
