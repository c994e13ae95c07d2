/-
  addRoute (package plan), by a contract.
-/
import Derived.Test.YtgiaicmhnkhbnaaDoorPlByS
import Derived.Deep.RegionLaw
namespace Go.Proofs.YtgiaicmhnkhbnaaDoor
open Go.RowKit

theorem L4.congr {w : World} {B L : Nat} {v : Nat → Value} {n n' : Nat → Nat} {cs cs' : Nat → List Value} {X : World → Prop} (h : L4 w B L v n cs X) (hn : ∀ i, i < 4 → n i = n' i) (hc : ∀ i, i < 4 → cs i = cs' i) : L4 w B L v n' cs' X :=
  ⟨h.blk, h.base, fun i hi => by rw [← hn i hi, ← hc i hi]; exact h.own i hi, h.noL, h.apart, h.inn⟩
theorem lt_four {P : Nat → Prop} (h0 : P 0) (h1 : P 1) (h2 : P 2) (h3 : P 3) : ∀ i, i < 4 → P i
  | 0, _ => h0
  | 1, _ => h1
  | 2, _ => h2
  | 3, _ => h3
theorem undrew {w w' : World} {r : Option Nat} (h : w.drew.grownBy w' r) : w.grownBy w' r := ⟨h.os, h.tape, h.output, h.size, h.block⟩
theorem infoRt : (Tryd.prog.info? 37).map (fun i => (i.zero, i.size, i.bytes)) = some (some (.agg #[.string ⟨#[]⟩, .int .i64 0, .int .i64 0, .slice none 0 0, .slice none 0 0, .slice none 0 0]), 6, 104) := by kernel_rfl
theorem cell_six_new (w : World) (a b c d e f : Value) (t : TypeId) : ∀ j u, [a, b, c, d, e, f][j]? = some u → (w.alloc (.cells #[a, b, c, d, e, f] t)).cell? ((⟨w.heap.size, 0, none⟩ : Addr).add j) = some u := by
  intro j u hj
  match j, hj with
  | 0, hj => simp at hj; subst hj; simp [Addr.add]
  | 1, hj => simp at hj; subst hj; simp [Addr.add]
  | 2, hj => simp at hj; subst hj; simp [Addr.add]
  | 3, hj => simp at hj; subst hj; simp [Addr.add]
  | 4, hj => simp at hj; subst hj; simp [Addr.add]
  | 5, hj => simp at hj; subst hj; simp [Addr.add]
  | j + 6, hj => simp at hj
theorem six_one (s : ByteArray) (a b : Int) (o p q : Option Addr) (n m k x y z : Nat) : ∀ u ∈ [Value.string s, Value.int .i64 a, Value.int .i64 b, Value.slice o n x, Value.slice p m y, Value.slice q k z], u.oneCell' = true := by
  intro u hu
  simp at hu
  rcases hu with rfl | rfl | rfl | rfl | rfl | rfl <;> rfl
theorem rows_len {α : Type} {w : World} {B : Nat} {e : TypeId} {size : Nat} {v : Value} {l : List α} {xs : List Value} (h : w.ownsRow B e size v l.length xs) : l.length ≤ maxLen := by
  rcases h.2 with ⟨_, h2⟩ | ⟨g, cap, cur, _, _, _, h2, h3, _⟩
  · rw [h2]; exact Nat.zero_le _
  · exact Nat.le_trans h2 h3
theorem rowF_len {α : Type} (one : Rd → α × Rd) : ∀ (k : Nat) (r : Rd), (rowF one k r).1.length ≤ k
  | 0, _ => Nat.le_refl _
  | k + 1, r => by
    rw [rowF]
    split
    · have := rowF_len one k (one r).2
      simp; omega
    · simp
theorem rRow_len {α : Type} (one : Rd → α × Rd) (ht : ∀ r, (one r).2.1 = r.1.tail) (r : Rd) : (rRow one r).1.length ≤ r.1.length + 1 := by
  have := rowF_len one (one r).2.1.length (one r).2
  rw [rRow]
  have h2 := ht r
  simp only [List.length_cons]
  rw [h2, List.length_tail] at this
  rw [h2, List.length_tail]
  omega

theorem wants_len (t : ByteArray) (r : Rd) : (rWants t r).1.length ≤ r.1.length + 1 := by
  rw [rWants]
  split
  · have h := rRow_len rWant rWant_tail (rWord t r)
    have h2 : (rWord t r).1.length ≤ r.1.length := by
      rw [rWord]
      have h3 : (rNext r).2.1.length ≤ r.1.length := by rw [rNext_tail, List.length_tail]; omega
      split
      · exact h3
      · exact h3
    omega
  · simp

/-- The route that a reader tells has no more than there are words. -/
structure RlOk (r : RL) : Prop where
  via : r.via.length ≤ 4294967296
  set : r.set.length ≤ 4294967296
  flank : r.flank.length ≤ 4294967296
theorem tail_le (r : Rd) : (rNext r).2.1.length ≤ r.1.length := by rw [rNext_tail, List.length_tail]; omega
theorem name_le (r : Rd) : (rName r).2.1.length ≤ r.1.length := by rw [rName_tail, List.length_tail]; omega
theorem word_le (t : ByteArray) (r : Rd) : (rWord t r).1.length ≤ r.1.length := by
  rw [rWord]
  split
  · exact tail_le r
  · exact tail_le r
theorem rowF_le {α : Type} (one : Rd → α × Rd) (ht : ∀ r, (one r).2.1 = r.1.tail) : ∀ (k : Nat) (r : Rd), (rowF one k r).2.1.length ≤ r.1.length
  | 0, _ => Nat.le_refl _
  | k + 1, r => by
    rw [rowF]
    split
    · have := rowF_le one ht k (one r).2
      rw [ht r, List.length_tail] at this
      simp only
      omega
    · exact Nat.le_refl _
theorem rRow_le {α : Type} (one : Rd → α × Rd) (ht : ∀ r, (one r).2.1 = r.1.tail) (r : Rd) : (rRow one r).2.1.length ≤ r.1.length := by
  have := rowF_le one ht (one r).2.1.length (one r).2
  have h2 : (one r).2.1.length ≤ r.1.length := by rw [ht r, List.length_tail]; omega
  exact Nat.le_trans this h2
theorem wants_le (t : ByteArray) (r : Rd) : (rWants t r).2.1.length ≤ r.1.length := by
  rw [rWants]
  split
  · have := rRow_le rWant rWant_tail (rWord t r)
    have := word_le t r
    omega
  · exact Nat.le_refl _
theorem route_ok (r : Rd) (h : r.1.length ≤ 4294967295) : RlOk (rRoute r).1 := by
  have e : rRoute r = (⟨(rName r).1, (rName (rWord kFrom (rName r).2)).1, (rName (rWord kTo (rName (rWord kFrom (rName r).2)).2)).1, (rRow rName (rWord kVia (rName (rWord kTo (rName (rWord kFrom (rName r).2)).2)).2)).1,
      (rWants kSet (rRow rName (rWord kVia (rName (rWord kTo (rName (rWord kFrom (rName r).2)).2)).2)).2).1, (rWants kFlank (rWants kSet (rRow rName (rWord kVia (rName (rWord kTo (rName (rWord kFrom (rName r).2)).2)).2)).2).2).1⟩,
      rEnd (rWants kFlank (rWants kSet (rRow rName (rWord kVia (rName (rWord kTo (rName (rWord kFrom (rName r).2)).2)).2)).2).2).2) := rfl
  rw [e]
  clear e
  have a1 := name_le r
  generalize rName r = q1 at *
  have a2 := word_le kFrom q1.2
  generalize rWord kFrom q1.2 = q2 at *
  have a3 := name_le q2
  generalize rName q2 = q3 at *
  have a4 := word_le kTo q3.2
  generalize rWord kTo q3.2 = q4 at *
  have a5 := name_le q4
  generalize rName q4 = q5 at *
  have a6 := word_le kVia q5.2
  generalize rWord kVia q5.2 = q6 at *
  have a7 := rRow_le rName rName_tail q6
  have b7 := rRow_len rName rName_tail q6
  generalize rRow rName q6 = q7 at *
  have a8 := wants_le kSet q7.2
  have b8 := wants_len kSet q7.2
  generalize rWants kSet q7.2 = q8 at *
  have b9 := wants_len kFlank q8.2
  generalize rWants kFlank q8.2 = q9 at *
  exact ⟨by simp only; omega, by simp only; omega, by simp only; omega⟩

set_option maxRecDepth 1000000 in
set_option maxHeartbeats 8000000 in
theorem addRoute_any (hby : BySaid) {B L : Nat} (R : Nat) (r : Rd) (l : Lay) (w0 w : World) (h : LayIn w0 B L l) (hb : Below w0.heap.size w0 w) (hR : w0.heap.size ≤ R) (hrd : RdIn w R r) (hlen : r.1.length ≤ 4294967295) :
    Calls Tryd.prog 48 #[.pointer (some ⟨L, 0, none⟩), .pointer (some ⟨R, 0, none⟩)] w fun e w' => e = .returned (.int .i64 (addRouteP l r).1) ∧
      ((addRouteP l r).1 = 0 → LayIn w' B L (addRouteP l r).2) ∧ Below B w0 w' := by
  obtain ⟨ok, v, rs, hm, h⟩ := h
  have HOK : Hid (LayOk l) := ok
  have HBY : Hid BySaid := hby
  obtain ⟨i0, hii, hz0, hz1, hz2⟩ := info_parts infoRt
  have HL4 : Hid (L4 w0 B L v (nOf l) (csOf l rs) (fun W => ∀ x ∈ rs, RtAt W x)) := h
  have HM : Hid (rs.map (·.1) = l.routes) := hm
  have hB : B ≤ w0.heap.size := by have := h.base; have := h.lt; omega
  obtain ⟨oR, capR, hv3⟩ : ∃ oR capR, v 3 = .slice oR l.routes.length capR := own_slice (h.own 3 (by omega))
  have hr6 : l.routes.length ≤ 6 := ok.r
  have HRL : Hid (rs.length = l.routes.length) := by rw [Hid, ← hm, List.length_map]
  have HC3 : Hid (∀ W, Below w0.heap.size w0 W → W.cell? ⟨L, 3, none⟩ = some (.slice oR l.routes.length capR) ∧ W.frozen? ⟨L, 3, none⟩ = false) := fun W hW => by
    have q := (h.below hW).cells
    rw [hv3] at q
    exact ⟨q.1.2.2.2, q.2.2.2.2⟩
  have HRD : Hid (RdIn w R r) := hrd
  have HB : Hid (Below w0.heap.size w0 w) := hb
  have HLR : Hid (R < w.heap.size) := hrd.lt
  have HU : Hid (addRouteP l r = if (rRoute r).2.2 ≠ 0 then ((rRoute r).2.2, l) else if hasRoute l (rRoute r).1.name = true then (4, l) else if lacks (byPlaces l (rRoute r).1) = true then (5, l) else if 6 ≤ l.routes.length ∨ tooLong (byPlaces l (rRoute r).1) = true then (6, l)
      else (0, { l with routes := l.routes ++ [byPlaces l (rRoute r).1] })) := rfl
  have hro := route_ok r hlen
  have HHR : Hid (hasRoute l (rRoute r).1.name = rs.any fun y => decide (y.1.name = (rRoute r).1.name)) := by
    rw [Hid, hasRoute, ← hm, List.any_map]
    rfl
  rw [HHR.out] at HU
  clear HHR h hrd hb hm hby hlen
  have N1 := fun W => route_any R r W
  generalize addRouteP l r = ans at *
  generalize rRoute r = q1 at *
  obtain ⟨rl, ws1, f1⟩ := q1
  simp only at *
  have D1 : Hid (∀ W, RdIn W R r → Calls Tryd.prog 62 #[.pointer (some ⟨R, 0, none⟩)] W fun en w' => ∃ v0 v1 v2, en = .returned (.agg #[.string rl.name, .string rl.frm, .string rl.to, v0, v1, v2]) ∧
      w'.ownsRow W.heap.size 9 1 v0 rl.via.length (strCells rl.via) ∧ w'.ownsRow W.heap.size 132 2 v1 rl.set.length (wtCells rl.set) ∧
      w'.ownsRow W.heap.size 132 2 v2 rl.flank.length (wtCells rl.flank) ∧ RdIn w' R (ws1, f1) ∧ W.grownBy w' (some R)) := N1
  clear N1
  go_enter Tryd.func48, Tryd.ntmps48
  go_wp2_with fail
  refine (D1.out _ HRD.out).mono ?_
  rintro e w1 ⟨v0, v1, v2, rfl, ho0, ho1, ho2, hr1, hg1⟩
  obtain ⟨a0, k0, rfl⟩ := own_slice ho0
  obtain ⟨a1, k1, rfl⟩ := own_slice ho1
  obtain ⟨a2, k2, rfl⟩ := own_slice ho2
  have HLN : Hid (LnAt w1 rl (.slice a0 rl.via.length k0) (.slice a1 rl.set.length k1) (.slice a2 rl.flank.length k2)) := ⟨rowAt_of_owns (fun _ => rfl) (by rw [← strCells_flat]; exact ho0), rowAt_of_owns (fun _ => rfl) ho1, rowAt_of_owns (fun _ => rfl) ho2⟩
  have HB1 : Hid (Below w0.heap.size w0 w1) := below_read HB.out hg1 hR
  have HR1 : Hid (RdIn w1 R (ws1, f1)) := hr1
  clear ho0 ho1 ho2 hg1 hr1 D1
  by_cases hf : f1 = 0
  · subst hf
    rw [if_neg (by simp)] at HU
    have hblt := HR1.out.lt
    obtain ⟨g1, g2⟩ := HR1.out.fault
    simp only at g1
    have hb2 : Below w1.heap.size w1 (w1.alloc (.cells #[.string rl.name, .string rl.frm, .string rl.to, .slice a0 rl.via.length k0, .slice a1 rl.set.length k1, .slice a2 rl.flank.length k2] 109)) := (Below.refl _ _).alloc (Nat.le_refl _) _
    have K2 : Hid ((w1.alloc (.cells #[.string rl.name, .string rl.frm, .string rl.to, .slice a0 rl.via.length k0, .slice a1 rl.set.length k1, .slice a2 rl.flank.length k2] 109)).heap[w1.heap.size]? = some (.cells #[.string rl.name, .string rl.frm, .string rl.to, .slice a0 rl.via.length k0, .slice a1 rl.set.length k1, .slice a2 rl.flank.length k2] 109 (0, 0))) := blk_new _ _
    have HB2 : Hid (Below w0.heap.size w0 (w1.alloc (.cells #[.string rl.name, .string rl.frm, .string rl.to, .slice a0 rl.via.length k0, .slice a1 rl.set.length k1, .slice a2 rl.flank.length k2] 109))) := stepB HB1.out hb2
    have D2 : Hid (Calls Tryd.prog 63 #[.pointer (some ⟨L, 0, none⟩), .agg #[.string rl.name, .string rl.frm, .string rl.to, .slice a0 rl.via.length k0, .slice a1 rl.set.length k1, .slice a2 rl.flank.length k2]] (w1.alloc (.cells #[.string rl.name, .string rl.frm, .string rl.to, .slice a0 rl.via.length k0, .slice a1 rl.set.length k1, .slice a2 rl.flank.length k2] 109)) fun e w' => ∃ u0 u1 u2,
      e = .returned (.agg #[.string (byPlaces l rl).name, .int .i64 (byPlaces l rl).frm, .int .i64 (byPlaces l rl).to, u0, u1, u2]) ∧ w'.ownsRow (w1.alloc (.cells #[.string rl.name, .string rl.frm, .string rl.to, .slice a0 rl.via.length k0, .slice a1 rl.set.length k1, .slice a2 rl.flank.length k2] 109)).heap.size 3 1 u0 (byPlaces l rl).path.length ((byPlaces l rl).path.flatMap iC) ∧
      w'.ownsRow (w1.alloc (.cells #[.string rl.name, .string rl.frm, .string rl.to, .slice a0 rl.via.length k0, .slice a1 rl.set.length k1, .slice a2 rl.flank.length k2] 109)).heap.size 60 2 u1 (byPlaces l rl).points.length ((byPlaces l rl).points.flatMap nC) ∧ w'.ownsRow (w1.alloc (.cells #[.string rl.name, .string rl.frm, .string rl.to, .slice a0 rl.via.length k0, .slice a1 rl.set.length k1, .slice a2 rl.flank.length k2] 109)).heap.size 60 2 u2 (byPlaces l rl).flank.length ((byPlaces l rl).flank.flatMap nC) ∧
      Below (w1.alloc (.cells #[.string rl.name, .string rl.frm, .string rl.to, .slice a0 rl.via.length k0, .slice a1 rl.set.length k1, .slice a2 rl.flank.length k2] 109)).heap.size (w1.alloc (.cells #[.string rl.name, .string rl.frm, .string rl.to, .slice a0 rl.via.length k0, .slice a1 rl.set.length k1, .slice a2 rl.flank.length k2] 109)) w') := by
      have q := HL4.out.below HB2.out
      have q1 := q.cells
      have q2 := q.rd HM.out
      exact HBY.out L l rl (v 0) (v 1) (v 2) _ _ _ _ q1.1.1 q1.1.2.1 q1.1.2.2.1 q2.s q2.p q2.g HOK.out (HLN.out.below hb2) hro.via hro.set hro.flank
    have HPL : Hid ((byPlaces l rl).path.length = rl.via.length ∧ (byPlaces l rl).points.length = rl.set.length ∧ (byPlaces l rl).flank.length = rl.flank.length) := ⟨by simp [byPlaces], by simp [byPlaces, needsP], by simp [byPlaces, needsP]⟩
    have hp0 : (byPlaces l rl).path.length ≤ 4294967296 := by rw [HPL.out.1]; exact hro.via
    have hp1 : (byPlaces l rl).points.length ≤ 4294967296 := by rw [HPL.out.2.1]; exact hro.set
    have hp2 : (byPlaces l rl).flank.length ≤ 4294967296 := by rw [HPL.out.2.2]; exact hro.flank
    generalize byPlaces l rl = T at *
    clear HPL hb2 HLN hro HRD HB
    go_wp2_with fail
    refine D2.out.mono ?_
    rintro e w3 ⟨u0, u1, u2, rfl, ho0, ho1, ho2, hb3⟩
    have HB3 : Hid (Below w0.heap.size w0 w3) := stepB HB2.out hb3
    have K3 : Hid (w3.heap[w1.heap.size]? = some (.cells #[.string rl.name, .string rl.frm, .string rl.to, .slice a0 rl.via.length k0, .slice a1 rl.set.length k1, .slice a2 rl.flank.length k2] 109 (0, 0))) := blk_below hb3 K2.out
    have hX : RtAt w3 (T, u0, u1, u2) := ⟨rowAt_of_owns (fun _ => rfl) ho0, rowAt_of_owns (fun _ => rfl) ho1, rowAt_of_owns (fun _ => rfl) ho2⟩
    obtain ⟨⟨o0, n0, c0, rfl⟩, ⟨o1, n1, c1, rfl⟩, ⟨o2, n2, c2, rfl⟩⟩ := hX.slices
    have HX3 : Hid (RtAt w3 (T, .slice o0 n0 c0, .slice o1 n1 c1, .slice o2 n2 c2)) := hX
    have HO3 : Hid (w3.ownsRow w0.heap.size 3 1 (.slice o0 n0 c0) T.path.length (T.path.flatMap iC) ∧ w3.ownsRow w0.heap.size 60 2 (.slice o1 n1 c1) T.points.length (T.points.flatMap nC) ∧ w3.ownsRow w0.heap.size 60 2 (.slice o2 n2 c2) T.flank.length (T.flank.flatMap nC)) := ⟨owns_mono ho0 HB2.out.size, owns_mono ho1 HB2.out.size, owns_mono ho2 HB2.out.size⟩
    have hb4 : Below w3.heap.size w3 (w3.alloc (.cells #[.string T.name, .int .i64 T.frm, .int .i64 T.to, .slice o0 n0 c0, .slice o1 n1 c1, .slice o2 n2 c2] 37)) := (Below.refl _ _).alloc (Nat.le_refl _) _
    have HB4 : Hid (Below w0.heap.size w0 (w3.alloc (.cells #[.string T.name, .int .i64 T.frm, .int .i64 T.to, .slice o0 n0 c0, .slice o1 n1 c1, .slice o2 n2 c2] 37))) := stepB HB3.out hb4
    have M4 : Hid ((w3.alloc (.cells #[.string T.name, .int .i64 T.frm, .int .i64 T.to, .slice o0 n0 c0, .slice o1 n1 c1, .slice o2 n2 c2] 37)).heap[w3.heap.size]? = some (.cells #[.string T.name, .int .i64 T.frm, .int .i64 T.to, .slice o0 n0 c0, .slice o1 n1 c1, .slice o2 n2 c2] 37 (0, 0))) := blk_new _ _
    have K4 := (six_cells (blk_below hb4 K3.out)).1.1
    have HX4 : Hid (RtAt (w3.alloc (.cells #[.string T.name, .int .i64 T.frm, .int .i64 T.to, .slice o0 n0 c0, .slice o1 n1 c1, .slice o2 n2 c2] 37)) (T, .slice o0 n0 c0, .slice o1 n1 c1, .slice o2 n2 c2)) := hX.below hb4
    have HO4 : Hid ((w3.alloc (.cells #[.string T.name, .int .i64 T.frm, .int .i64 T.to, .slice o0 n0 c0, .slice o1 n1 c1, .slice o2 n2 c2] 37)).ownsRow w0.heap.size 3 1 (.slice o0 n0 c0) T.path.length (T.path.flatMap iC) ∧ (w3.alloc (.cells #[.string T.name, .int .i64 T.frm, .int .i64 T.to, .slice o0 n0 c0, .slice o1 n1 c1, .slice o2 n2 c2] 37)).ownsRow w0.heap.size 60 2 (.slice o1 n1 c1) T.points.length (T.points.flatMap nC) ∧ (w3.alloc (.cells #[.string T.name, .int .i64 T.frm, .int .i64 T.to, .slice o0 n0 c0, .slice o1 n1 c1, .slice o2 n2 c2] 37)).ownsRow w0.heap.size 60 2 (.slice o2 n2 c2) T.flank.length (T.flank.flatMap nC)) := ⟨HO3.out.1.alloc _, HO3.out.2.1.alloc _, HO3.out.2.2.alloc _⟩
    have D3 := fun W (hW : Below w0.heap.size w0 W) => hasRoute_any L (v 3) rs rl.name W ((HL4.out.below hW).cells).1.2.2.2 ((HL4.out.below hW).rd HM.out).r (by rw [HRL.out]; omega) (fun y hy => (((HL4.out.below hW).rd HM.out).x y hy).slices)
    clear hX ho0 ho1 ho2 hb3 hb4 D2 K2 K3 HX3 HO3 g1 g2
    generalize (rs.any fun y => decide (y.1.name = rl.name)) = hasR at *
    have E3 : Hid (∀ W, Below w0.heap.size w0 W → Calls Tryd.prog 64 #[.pointer (some ⟨L, 0, none⟩), .string rl.name] W fun e w' => e = .returned (.bool hasR) ∧ Below W.heap.size W w') := D3
    clear D3
    go_wp2_with fail
    refine (E3.out _ HB4.out).mono ?_
    rintro e w5 ⟨rfl, hb5⟩
    have HB5 : Hid (Below w0.heap.size w0 w5) := stepB HB4.out hb5
    have M5 : Hid (w5.heap[w3.heap.size]? = some (.cells #[.string T.name, .int .i64 T.frm, .int .i64 T.to, .slice o0 n0 c0, .slice o1 n1 c1, .slice o2 n2 c2] 37 (0, 0))) := blk_below hb5 M4.out
    have HX5 : Hid (RtAt w5 (T, .slice o0 n0 c0, .slice o1 n1 c1, .slice o2 n2 c2)) := HX4.out.below hb5
    have HO5 : Hid (w5.ownsRow w0.heap.size 3 1 (.slice o0 n0 c0) T.path.length (T.path.flatMap iC) ∧ w5.ownsRow w0.heap.size 60 2 (.slice o1 n1 c1) T.points.length (T.points.flatMap nC) ∧ w5.ownsRow w0.heap.size 60 2 (.slice o2 n2 c2) T.flank.length (T.flank.flatMap nC)) := ⟨owns_below HO4.out.1 hb5, owns_below HO4.out.2.1 hb5, owns_below HO4.out.2.2 hb5⟩
    clear hb5 K4 E3 HX4 HO4 M4
    cases hasR
    · rw [if_neg (by simp)] at HU
      obtain ⟨⟨y0, y1, y2, y3, y4, y5⟩, _⟩ := six_cells M5.out
      have D5 := lacks_any _ _ HX5.out hp0 hp1 hp2
      simp only at D5
      generalize lacks T = lk at *
      have E5 : Hid (Calls Tryd.prog 65 #[.agg #[.string T.name, .int .i64 T.frm, .int .i64 T.to, .slice o0 n0 c0, .slice o1 n1 c1, .slice o2 n2 c2]] w5 fun e w' => e = .returned (.bool lk) ∧ Below w5.heap.size w5 w') := D5
      clear D5
      go_wp2_with fail
      refine E5.out.mono ?_
      rintro e w6 ⟨rfl, hb6⟩
      have HB6 : Hid (Below w0.heap.size w0 w6) := stepB HB5.out hb6
      have M6 : Hid (w6.heap[w3.heap.size]? = some (.cells #[.string T.name, .int .i64 T.frm, .int .i64 T.to, .slice o0 n0 c0, .slice o1 n1 c1, .slice o2 n2 c2] 37 (0, 0))) := blk_below hb6 M5.out
      have HX6 : Hid (RtAt w6 (T, .slice o0 n0 c0, .slice o1 n1 c1, .slice o2 n2 c2)) := HX5.out.below hb6
      have HO6 : Hid (w6.ownsRow w0.heap.size 3 1 (.slice o0 n0 c0) T.path.length (T.path.flatMap iC) ∧ w6.ownsRow w0.heap.size 60 2 (.slice o1 n1 c1) T.points.length (T.points.flatMap nC) ∧ w6.ownsRow w0.heap.size 60 2 (.slice o2 n2 c2) T.flank.length (T.flank.flatMap nC)) := ⟨owns_below HO5.out.1 hb6, owns_below HO5.out.2.1 hb6, owns_below HO5.out.2.2 hb6⟩
      clear hb6 y0 y1 y2 y3 y4 y5 E5 HX5 HO5 M5
      cases lk
      · rw [if_neg (by simp)] at HU
        obtain ⟨⟨y0, y1, y2, y3, y4, y5⟩, _⟩ := six_cells M6.out
        obtain ⟨s3, s4⟩ := HC3.out _ HB6.out
        generalize hnr : l.routes.length = nr at *
        have HNR : Hid (l.routes.length = nr) := hnr
        clear hnr
        by_cases h6 : 6 ≤ nr
        · have h6' : decide ((6 : Int) ≤ (nr : Int)) = true := by simp; omega
          rw [if_pos (.inl h6)] at HU
          go_wp2
          go_ret
          exact ⟨by rw [HU.out]; rfl, fun e => by rw [HU.out] at e; simp at e, HB6.out.mono hB⟩
        · have h6' : decide ((6 : Int) ≤ (nr : Int)) = false := by simp; omega
          have D6 := tooLong_any _ _ HX6.out
          simp only at D6
          generalize tooLong T = tl at *
          have E6 : Hid (Calls Tryd.prog 66 #[.agg #[.string T.name, .int .i64 T.frm, .int .i64 T.to, .slice o0 n0 c0, .slice o1 n1 c1, .slice o2 n2 c2]] w6 fun e w' => e = .returned (.bool tl) ∧ Below w6.heap.size w6 w') := D6
          clear D6
          go_wp2_with fail
          refine E6.out.mono ?_
          rintro e w7 ⟨rfl, hb7⟩
          have HB7 : Hid (Below w0.heap.size w0 w7) := stepB HB6.out hb7
          have M7 : Hid (w7.heap[w3.heap.size]? = some (.cells #[.string T.name, .int .i64 T.frm, .int .i64 T.to, .slice o0 n0 c0, .slice o1 n1 c1, .slice o2 n2 c2] 37 (0, 0))) := blk_below hb7 M6.out
          have HO7 : Hid (w7.ownsRow w0.heap.size 3 1 (.slice o0 n0 c0) T.path.length (T.path.flatMap iC) ∧ w7.ownsRow w0.heap.size 60 2 (.slice o1 n1 c1) T.points.length (T.points.flatMap nC) ∧ w7.ownsRow w0.heap.size 60 2 (.slice o2 n2 c2) T.flank.length (T.flank.flatMap nC)) := ⟨owns_below HO6.out.1 hb7, owns_below HO6.out.2.1 hb7, owns_below HO6.out.2.2 hb7⟩
          clear hb7 y0 y1 y2 y3 y4 y5 s3 s4 E6 HX6 HO6 M6
          cases tl
          · rw [if_neg (by simp [h6])] at HU
            obtain ⟨⟨y0, y1, y2, y3, y4, y5⟩, _⟩ := six_cells M7.out
            obtain ⟨s3, s4⟩ := HC3.out _ HB7.out
            have HLD : Hid (L4 w7 B L v (nOf l) (csOf l rs) (fun W => ∀ x ∈ rs, RtAt W x)) := HL4.out.below HB7.out
            have HV3 : Hid (v 3 = .slice oR nr capR) := hv3
            have hown : (w7.alloc (.cells #[.string T.name, .int .i64 T.frm, .int .i64 T.to, .slice o0 n0 c0, .slice o1 n1 c1, .slice o2 n2 c2] 37)).drew.ownsRow B 37 6 (.slice oR nr capR) nr (rs.flatMap rC) := by
              have q := (HLD.out.own 3 (by omega)).alloc (.cells #[.string T.name, .int .i64 T.frm, .int .i64 T.to, .slice o0 n0 c0, .slice o1 n1 c1, .slice o2 n2 c2] 37)
              rw [hv3, show nOf l 3 = nr from HNR.out] at q
              exact q
            have S1 : Hid ((w7.alloc (.cells #[.string T.name, .int .i64 T.frm, .int .i64 T.to, .slice o0 n0 c0, .slice o1 n1 c1, .slice o2 n2 c2] 37)).drew.ownsRow B 37 6 (.slice oR nr capR) nr (rs.flatMap rC)) := hown
            have S3 : Hid (B ≤ (w7.alloc (.cells #[.string T.name, .int .i64 T.frm, .int .i64 T.to, .slice o0 n0 c0, .slice o1 n1 c1, .slice o2 n2 c2] 37)).drew.heap.size) := by
              have := HB7.out.size
              show B ≤ (w7.alloc (.cells #[.string T.name, .int .i64 T.frm, .int .i64 T.to, .slice o0 n0 c0, .slice o1 n1 c1, .slice o2 n2 c2] 37)).drew.heap.size
              simp
              omega
            have HLT : Hid (L < w7.heap.size) := HLD.out.lt
            have HNL : Hid ((Value.slice oR nr capR).ownBlock ≠ some L) := by rw [Hid, ← hv3]; exact HL4.out.noL 3 (by omega)
            have HS3 : Hid (w7.cell? ⟨L, 3, none⟩ = some (.slice oR nr capR) ∧ w7.frozen? ⟨L, 3, none⟩ = false) := ⟨s3, s4⟩
            have s5 : (w7.alloc (.cells #[.string T.name, .int .i64 T.frm, .int .i64 T.to, .slice o0 n0 c0, .slice o1 n1 c1, .slice o2 n2 c2] 37)).cell? ⟨L, 3, none⟩ = some (.slice oR nr capR) := (World.cell?_of_block (w := w7) (a := ⟨L, 3, none⟩) (Below.heap_alloc _ _ _ HLT.out)).trans s3
            clear hown hv3 hp0 hp1 hp2
            go_wp2_with fail
            go_region_law (refine step_append_own rfl (.tmp 44) (.tmp 46) 24 rfl B 37 i0 (.agg #[.string ⟨#[]⟩, .int .i64 0, .int .i64 0, .slice none 0 0, .slice none 0 0, .slice none 0 0]) 6 104 Tryd.underlying24 hii hz0 hz1 hz2 rfl (by decide) (.slice oR nr capR) nr (rs.flatMap rC) (by simp [Act.eval]) S1.out ⟨w7.heap.size, 0, none⟩ 1 1 [.string T.name, .int .i64 T.frm, .int .i64 T.to, .slice o0 n0 c0, .slice o1 n1 c1, .slice o2 n2 c2] (by simp [Act.eval]) rfl (cell_six_new w7 _ _ _ _ _ _ _) (six_one _ _ _ _ _ _ _ _ _ _ _ _) (by unfold maxLen; omega) (by omega) S3.out ?_; intro v' w8 hown8 hg8 hat8; obtain ⟨oa', cap', rfl⟩ := own_slice hown8; have hblk : w8.heap[L]? = w7.heap[L]? := ((hg8.block L (by have := HLT.out; simp; omega) (fun e => HNL.out e.symm)).trans (Below.heap_alloc w7 _ _ HLT.out)); have d1 := (World.cell?_of_block (w := w7) (a := ⟨L, 3, none⟩) hblk).trans HS3.out.1; have d2 := (World.frozen?_of_block (w := w7) (a := ⟨L, 3, none⟩) hblk).trans HS3.out.2; have G1 : Hid ((w7.alloc (.cells #[.string T.name, .int .i64 T.frm, .int .i64 T.to, .slice o0 n0 c0, .slice o1 n1 c1, .slice o2 n2 c2] 37)).drew.grownBy w8 (Value.slice oR nr capR).ownBlock) := hg8; have G2 : Hid ((Value.slice oa' (nr + 1) cap').ownBlock = (Value.slice oR nr capR).ownBlock ∨ (Value.slice oa' (nr + 1) cap').ownBlock = some (w7.alloc (.cells #[.string T.name, .int .i64 T.frm, .int .i64 T.to, .slice o0 n0 c0, .slice o1 n1 c1, .slice o2 n2 c2] 37)).drew.heap.size) := hat8; have G3 : Hid (w8.ownsRow B 37 6 (.slice oa' (nr + 1) cap') (nr + 1) (rs.flatMap rC ++ [.string T.name, .int .i64 T.frm, .int .i64 T.to, .slice o0 n0 c0, .slice o1 n1 c1, .slice o2 n2 c2])) := hown8; clear hown8 hg8 hat8 hblk)
            all_goals
              go_wp2
              go_ret
              have P := HLD.out.put (i := 3) (by omega) (X' := fun W => ∀ x ∈ rs ++ [(T, .slice o0 n0 c0, .slice o1 n1 c1, .slice o2 n2 c2)], RtAt W x) G3.out (by rw [HV3.out]; exact undrew G1.out) (by rw [HV3.out]; have := G2.out; simpa using this) (fun W hW x hx => by
                rcases List.mem_append.1 hx with hx | hx
                · exact HLD.out.inn W hW x hx
                · rw [List.mem_singleton.1 hx]
                  have far : ∀ (u : Value) (k : Nat), u.ownBlock = some k → w0.heap.size ≤ k → k < w7.heap.size → W.heap[k]? = w7.heap[k]? := fun u k _ hk1 hk2 => hW k (Nat.le_trans hB hk1) hk2 (fun hf => by have := (HL4.out.foot hf).2; omega)
                  exact ⟨rowAt_of_owns (fun _ => rfl) (owns_keep HO7.out.1 fun k hk => far _ k hk (HO7.out.1.lt k hk).1 (HO7.out.1.lt k hk).2), rowAt_of_owns (fun _ => rfl) (owns_keep HO7.out.2.1 fun k hk => far _ k hk (HO7.out.2.1.lt k hk).1 (HO7.out.2.1.lt k hk).2), rowAt_of_owns (fun _ => rfl) (owns_keep HO7.out.2.2 fun k hk => far _ k hk (HO7.out.2.2.lt k hk).1 (HO7.out.2.2.lt k hk).2)⟩)
              refine ⟨by rw [HU.out]; rfl, fun _ => ?_, (HB7.out.mono hB).trans P.2⟩
              rw [HU.out]
              refine ⟨⟨HOK.out.s, HOK.out.p, HOK.out.g, ?_⟩, upd v 3 (.slice oa' (nr + 1) cap'), rs ++ [(T, .slice o0 n0 c0, .slice o1 n1 c1, .slice o2 n2 c2)], ?_, ?_⟩
              · show (l.routes ++ [T]).length ≤ 6
                rw [List.length_append, HNR.out]
                simp
                omega
              · show (rs ++ [(T, Value.slice o0 n0 c0, Value.slice o1 n1 c1, Value.slice o2 n2 c2)]).map (·.1) = l.routes ++ [T]
                rw [List.map_append, HM.out]
                rfl
              · refine P.1.congr (lt_four rfl rfl rfl ?_) (lt_four rfl rfl rfl ?_)
                · show nr + 1 = (l.routes ++ [T]).length
                  rw [List.length_append, HNR.out]
                  rfl
                · show rs.flatMap rC ++ [.string T.name, .int .i64 T.frm, .int .i64 T.to, .slice o0 n0 c0, .slice o1 n1 c1, .slice o2 n2 c2] = (rs ++ [(T, Value.slice o0 n0 c0, Value.slice o1 n1 c1, Value.slice o2 n2 c2)]).flatMap rC
                  rw [List.flatMap_append]
                  rfl
          · rw [if_pos (.inr rfl)] at HU
            go_wp2
            go_ret
            exact ⟨by rw [HU.out]; rfl, fun e => by rw [HU.out] at e; simp at e, HB7.out.mono hB⟩
      · rw [if_pos rfl] at HU
        go_wp2
        go_ret
        exact ⟨by rw [HU.out]; rfl, fun e => by rw [HU.out] at e; simp at e, HB6.out.mono hB⟩
    · rw [if_pos rfl] at HU
      go_wp2
      go_ret
      exact ⟨by rw [HU.out]; rfl, fun e => by rw [HU.out] at e; simp at e, HB5.out.mono hB⟩
  · rw [if_pos (by simpa using hf)] at HU
    have hf' : ((f1 : Int) == 0) = false := by simp; omega
    have HF : Hid (¬ f1 = 0) := hf
    obtain ⟨c1, c2⟩ := HR1.out.fault
    simp only at c1
    have hblt := HR1.out.lt
    clear hf
    go_wp2
    go_ret
    exact ⟨by rw [HU.out]; rfl, fun e => by rw [HU.out] at e; exact absurd e HF.out, (HB1.out.alloc HB1.out.size _).mono hB⟩

end Go.Proofs.YtgiaicmhnkhbnaaDoor
