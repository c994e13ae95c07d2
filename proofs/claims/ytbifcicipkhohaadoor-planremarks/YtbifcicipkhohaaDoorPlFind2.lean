/-
  pointAt, hasRoute, lacks, tooLong (package plan), each by a contract.
-/
import Derived.Test.YtbifcicipkhohaaDoorPlFind
namespace Go.Proofs.YtbifcicipkhohaaDoor
open Go.RowKit

set_option maxHeartbeats 400000 in
theorem pointAt_any (L : Nat) (vP : Value) (l : List (ByteArray × Int)) (x : ByteArray) (w : World) (hL : w.cell? ⟨L, 1, none⟩ = some vP) (h : rowAt w vP 2 pC l) (hl : l.length ≤ 4294967296) :
    Calls Tryd.prog 66 #[.pointer (some ⟨L, 0, none⟩), .string x] w fun e w' => e = .returned (.int .i64 (idx (l.map (·.1)) x)) ∧ Below w.heap.size w w' := by
  have hb : Below w.heap.size w (w.alloc (.cells #[.string x] 9)) := (Below.refl _ _).alloc (Nat.le_refl _) _
  have C := idxPoint_any vP l x w.heap.size _ (h.below hb) hl (by simp)
  rw [idxBy_map] at C
  have D : Hid (Calls Tryd.prog 80 #[vP, .func (.func 81) #[] #[.pointer (some ⟨w.heap.size, 0, none⟩)]] (w.alloc (.cells #[.string x] 9)) fun e w' => e = .returned (.int .i64 (idx (l.map (·.1)) x)) ∧ Below (w.alloc (.cells #[.string x] 9)).heap.size (w.alloc (.cells #[.string x] 9)) w') := C
  clear C
  generalize idx (l.map (·.1)) x = n at *
  obtain ⟨oa, cap, rfl, _⟩ := h
  have hL' : (w.alloc (.cells #[.string x] 9)).cell? ⟨L, 1, none⟩ = some (.slice oa l.length cap) := (hb.cell (p := ⟨L, 1, none⟩) (World.block_lt_of_cell? w _ hL)).trans hL
  generalize l.length = m at *
  have HB : Hid (Below w.heap.size w (w.alloc (.cells #[.string x] 9))) := hb
  clear hb hL
  go_enter Tryd.func66, Tryd.ntmps66
  go_wp2_with fail
  refine D.out.mono ?_
  rintro e w1 ⟨rfl, hb1⟩
  go_wp2
  go_ret
  exact ⟨rfl, HB.out.trans (hb1.mono HB.out.size)⟩

set_option maxHeartbeats 400000 in
theorem hasRoute_any (L : Nat) (vR : Value) (l : List RtV) (x : ByteArray) (w : World) (hL : w.cell? ⟨L, 3, none⟩ = some vR) (h : rowAt w vR 6 rC l) (hl : l.length ≤ 4294967296)
    (hsl : ∀ y ∈ l, (∃ o n c, y.2.1 = .slice o n c) ∧ (∃ o n c, y.2.2.1 = .slice o n c) ∧ ∃ o n c, y.2.2.2 = .slice o n c) :
    Calls Tryd.prog 69 #[.pointer (some ⟨L, 0, none⟩), .string x] w fun e w' => e = .returned (.bool (l.any fun y => decide (y.1.name = x))) ∧ Below w.heap.size w w' := by
  have hb : Below w.heap.size w (w.alloc (.cells #[.string x] 9)) := (Below.refl _ _).alloc (Nat.le_refl _) _
  have D : Hid (∀ W, W = w.alloc (.cells #[.string x] 9) → Calls Tryd.prog 85 #[vR, .func (.func 86) #[] #[.pointer (some ⟨w.heap.size, 0, none⟩)]] W fun e w' => e = .returned (.bool (l.any fun y => decide (y.1.name = x))) ∧ Below W.heap.size W w') := by
    intro W hW
    have C := idxRoute_any vR l x w.heap.size W (by rw [hW]; exact h.below hb) hl (by rw [hW]; simp) hsl
    have HY : Hid (decide (0 ≤ idxBy (fun y : RtV => decide (y.1.name = x)) l 0) = l.any fun y => decide (y.1.name = x)) := idxBy_any _ _ _
    rw [← HY.out]
    generalize idxBy (fun y : RtV => decide (y.1.name = x)) l 0 = n at *
    clear HY h hsl hb hL hW
    go_enter Tryd.func85, Tryd.ntmps85
    go_wp2_with fail
    refine C.mono ?_
    rintro e w1 ⟨rfl, hb1⟩
    go_wp2
    go_ret
    exact ⟨rfl, hb1⟩
  generalize (l.any fun y => decide (y.1.name = x)) = b at *
  obtain ⟨oa, cap, rfl, _⟩ := h
  have hL' : (w.alloc (.cells #[.string x] 9)).cell? ⟨L, 3, none⟩ = some (.slice oa l.length cap) := (hb.cell (p := ⟨L, 3, none⟩) (World.block_lt_of_cell? w _ hL)).trans hL
  clear hsl
  generalize l.length = m at *
  have HB : Hid (Below w.heap.size w (w.alloc (.cells #[.string x] 9))) := hb
  clear hb hL
  go_enter Tryd.func69, Tryd.ntmps69
  go_wp2_with fail
  refine (D.out _ rfl).mono ?_
  rintro e w1 ⟨rfl, hb1⟩
  go_wp2
  go_ret
  exact ⟨rfl, HB.out.trans (hb1.mono HB.out.size)⟩

set_option maxHeartbeats 400000 in
theorem hasNone_any (v : Value) (l : List (Int × Bool)) (w : World) (h : rowAt w v 2 nC l) (hl : l.length ≤ 4294967296) :
    Calls Tryd.prog 89 #[v, .func (.func 87) #[] #[]] w fun e w' => e = .returned (.bool (l.any fun n => decide (n.1 = -1))) ∧ Below w.heap.size w w' := by
  have C := idxNeed_any v l w h hl
  have HY : Hid (decide (0 ≤ idxBy (fun y : Int × Bool => decide (y.1 = -1)) l 0) = l.any fun y => decide (y.1 = -1)) := idxBy_any _ _ _
  rw [← HY.out]
  generalize idxBy (fun y : Int × Bool => decide (y.1 = -1)) l 0 = n at *
  clear HY h
  go_enter Tryd.func89, Tryd.ntmps89
  go_wp2_with fail
  refine C.mono ?_
  rintro e w1 ⟨rfl, hb1⟩
  go_wp2
  go_ret
  exact ⟨rfl, hb1⟩

set_option maxRecDepth 1000000 in
set_option maxHeartbeats 1000000 in
theorem indexI_any (v : Value) (l : List Int) (w : World) (h : rowAt w v 1 iC l) (hl : l.length ≤ 4294967296) :
    Calls Tryd.prog 100 #[v, .int .i64 (-1)] w fun e w' => e = .returned (.int .i64 (idxBy (fun n => decide (n = -1)) l 0)) ∧ w' = w := by
  obtain ⟨oa, cap, rfl, h2⟩ := h
  have H2 : Hid (∀ j y, l[j]? = some y → ∃ g off, oa = some ⟨g, off, none⟩ ∧ ∀ i u, (iC y)[i]? = some u → w.cell? ⟨g, off + j * 1 + i, none⟩ = some u) := h2
  clear h2
  generalize hans : idxBy (fun n => decide (n = -1)) l 0 = ans at *
  have HA : Hid (idxBy (fun n => decide (n = -1)) l 0 = ans) := hans
  clear hans
  generalize hn : l.length = n at *
  have HN : Hid (l.length = n) := hn
  clear hn
  go_enter Tryd.func100, Tryd.ntmps100
  go_wp2
  go_loop [5, 8] (fun _ i => ∃ k : Nat, i = .int .i64 k ∧ k ≤ n ∧ idxBy (fun n => decide (n = -1)) (l.drop k) k = ans) (fun _ i => n - (intOf i).toNat)
  case atStart => exact ⟨0, rfl, by omega, by rw [List.drop_zero]; exact HA.out⟩
  case round =>
    obtain ⟨k, rfl, hk, hc⟩ := hrel
    have HC : Hid (idxBy (fun n => decide (n = -1)) (l.drop k) k = ans) := hc
    clear hc
    by_cases hlt : k < n
    · obtain ⟨y, hy⟩ : ∃ y, l[k]? = some y := ⟨l[k]'(by rw [HN.out]; exact hlt), List.getElem?_eq_getElem _⟩
      obtain ⟨g, off, rfl, hcell⟩ := H2.out k y hy
      have c0 := hcell 0 _ rfl
      simp only [Nat.mul_one, Nat.add_zero] at c0
      rw [drop_at hy, idxBy] at HC
      clear hcell hy
      by_cases hxy : y = -1
      · subst hxy
        rw [if_pos (by simp)] at HC
        go_wp2
        go_ret
        exact ⟨by rw [← HC.out]; rfl, rfl⟩
      · have hb : ((-1 : Int) == y) = false := by simp; omega
        rw [if_neg (by simp [hxy])] at HC
        clear hxy
        go_wp2
        go_round
        case rel => exact ⟨k + 1, by go_num, by omega, HC.out⟩
        case measure => simp [intOf]; omega
    · have h1 := HC.out
      rw [List.drop_of_length_le (by rw [HN.out]; omega), idxBy] at h1
      have H1 : Hid (-1 = ans) := h1
      clear h1
      go_wp2
      go_ret
      exact ⟨by rw [← H1.out]; rfl, rfl⟩

set_option maxHeartbeats 400000 in
theorem containsI_any (v : Value) (l : List Int) (w : World) (h : rowAt w v 1 iC l) (hl : l.length ≤ 4294967296) :
    Calls Tryd.prog 88 #[v, .int .i64 (-1)] w fun e w' => e = .returned (.bool (l.any fun n => decide (n = -1))) ∧ w' = w := by
  have C := indexI_any v l w h hl
  have HY : Hid (decide (0 ≤ idxBy (fun y : Int => decide (y = -1)) l 0) = l.any fun y => decide (y = -1)) := idxBy_any _ _ _
  rw [← HY.out]
  generalize idxBy (fun y : Int => decide (y = -1)) l 0 = n at *
  clear HY h
  go_enter Tryd.func88, Tryd.ntmps88
  go_wp2_with fail
  refine C.mono ?_
  rintro e w1 ⟨rfl, rfl⟩
  go_wp2
  go_ret
  exact ⟨rfl, rfl⟩

/-- A route whose slices lie so. -/
structure RtAt (w : World) (x : RtV) : Prop where
  path : rowAt w x.2.1 1 iC x.1.path
  points : rowAt w x.2.2.1 2 nC x.1.points
  flank : rowAt w x.2.2.2 2 nC x.1.flank
theorem RtAt.below {w w' : World} {x : RtV} (h : RtAt w x) (hb : Below w.heap.size w w') : RtAt w' x := ⟨h.path.below hb, h.points.below hb, h.flank.below hb⟩
theorem rowAt.slice {α : Type} {w : World} {v : Value} {size : Nat} {cs : α → List Value} {l : List α} (h : rowAt w v size cs l) : ∃ o n c, v = .slice o n c := by
  obtain ⟨oa, cap, h, _⟩ := h
  exact ⟨_, _, _, h⟩
theorem RtAt.slices {w : World} {x : RtV} (h : RtAt w x) : (∃ o n c, x.2.1 = .slice o n c) ∧ (∃ o n c, x.2.2.1 = .slice o n c) ∧ ∃ o n c, x.2.2.2 = .slice o n c := ⟨h.path.slice, h.points.slice, h.flank.slice⟩

set_option maxRecDepth 1000000 in
set_option maxHeartbeats 2000000 in
theorem lacks_any (x : RtV) (w : World) (h : RtAt w x) (h1 : x.1.path.length ≤ 4294967296) (h2 : x.1.points.length ≤ 4294967296) (h3 : x.1.flank.length ≤ 4294967296) :
    Calls Tryd.prog 70 #[.agg #[.string x.1.name, .int .i64 x.1.frm, .int .i64 x.1.to, x.2.1, x.2.2.1, x.2.2.2]] w fun e w' => e = .returned (.bool (lacks x.1)) ∧ Below w.heap.size w w' := by
  obtain ⟨rt, v0, v1, v2⟩ := x
  simp only at *
  have hp := h.path
  have hq := h.points
  have hf := h.flank
  simp only at hp hq hf
  obtain ⟨o0, n0, k0, rfl⟩ := hp.slice
  obtain ⟨o1, n1, k1, rfl⟩ := hq.slice
  obtain ⟨o2, n2, k2, rfl⟩ := hf.slice
  have hb : Below w.heap.size w (w.alloc (.cells #[.string rt.name, .int .i64 rt.frm, .int .i64 rt.to, .slice o0 n0 k0, .slice o1 n1 k1, .slice o2 n2 k2] 43)) := (Below.refl _ _).alloc (Nat.le_refl _) _
  have hblk := blk_new w (.cells #[.string rt.name, .int .i64 rt.frm, .int .i64 rt.to, .slice o0 n0 k0, .slice o1 n1 k1, .slice o2 n2 k2] 43)
  have C0 := containsI_any _ _ _ (hp.below hb) h1
  have HP : Hid (rowAt (w.alloc (.cells #[.string rt.name, .int .i64 rt.frm, .int .i64 rt.to, .slice o0 n0 k0, .slice o1 n1 k1, .slice o2 n2 k2] 43)) (.slice o1 n1 k1) 2 nC rt.points) := hq.below hb
  have HF : Hid (rowAt (w.alloc (.cells #[.string rt.name, .int .i64 rt.frm, .int .i64 rt.to, .slice o0 n0 k0, .slice o1 n1 k1, .slice o2 n2 k2] 43)) (.slice o2 n2 k2) 2 nC rt.flank) := hf.below hb
  have C1 := fun W h => hasNone_any (.slice o1 n1 k1) rt.points W h h2
  have C2 := fun W h => hasNone_any (.slice o2 n2 k2) rt.flank W h h3
  have HL : Hid (lacks rt = (decide (rt.frm = -1) || (decide (rt.to = -1) || (rt.path.any (fun n => decide (n = -1)) || (rt.points.any (fun n => decide (n.1 = -1)) || rt.flank.any (fun n => decide (n.1 = -1))))))) := rfl
  generalize lacks rt = ans at *
  generalize rt.path.any (fun n => decide (n = -1)) = b0 at *
  generalize rt.points.any (fun n => decide (n.1 = -1)) = b1 at *
  generalize rt.flank.any (fun n => decide (n.1 = -1)) = b2 at *
  have D0 : Hid (Calls Tryd.prog 88 #[.slice o0 n0 k0, .int .i64 (-1)] (w.alloc (.cells #[.string rt.name, .int .i64 rt.frm, .int .i64 rt.to, .slice o0 n0 k0, .slice o1 n1 k1, .slice o2 n2 k2] 43)) fun e w' => e = .returned (.bool b0) ∧ w' = w.alloc (.cells #[.string rt.name, .int .i64 rt.frm, .int .i64 rt.to, .slice o0 n0 k0, .slice o1 n1 k1, .slice o2 n2 k2] 43)) := C0
  have D1 : Hid (∀ W, rowAt W (.slice o1 n1 k1) 2 nC rt.points → Calls Tryd.prog 89 #[.slice o1 n1 k1, .func (.func 87) #[] #[]] W fun e w' => e = .returned (.bool b1) ∧ Below W.heap.size W w') := C1
  have D2 : Hid (∀ W, rowAt W (.slice o2 n2 k2) 2 nC rt.flank → Calls Tryd.prog 89 #[.slice o2 n2 k2, .func (.func 87) #[] #[]] W fun e w' => e = .returned (.bool b2) ∧ Below W.heap.size W w') := C2
  have HB : Hid (Below w.heap.size w (w.alloc (.cells #[.string rt.name, .int .i64 rt.frm, .int .i64 rt.to, .slice o0 n0 k0, .slice o1 n1 k1, .slice o2 n2 k2] 43))) := hb
  have HK : Hid ((w.alloc (.cells #[.string rt.name, .int .i64 rt.frm, .int .i64 rt.to, .slice o0 n0 k0, .slice o1 n1 k1, .slice o2 n2 k2] 43)).heap[w.heap.size]? = some (.cells #[.string rt.name, .int .i64 rt.frm, .int .i64 rt.to, .slice o0 n0 k0, .slice o1 n1 k1, .slice o2 n2 k2] 43 (0, 0))) := hblk
  clear C0 C1 C2 hb hp hq hf h h1 h2 h3 hblk
  have e0 : (rt.frm == -1) = decide (rt.frm = -1) := by rw [Bool.eq_iff_iff]; simp
  have e1 : (rt.to == -1) = decide (rt.to = -1) := by rw [Bool.eq_iff_iff]; simp
  generalize decide (rt.frm = -1) = d0 at *
  generalize decide (rt.to = -1) = d1 at *
  cases d0
  · cases d1
    · cases b0
      · cases b1
        · go_enter Tryd.func70, Tryd.ntmps70
          go_wp2_with fail
          refine D0.out.mono ?_
          rintro e w1 ⟨rfl, hw⟩
          obtain rfl := hw.symm
          go_wp2_with fail
          refine (D1.out _ HP.out).mono ?_
          rintro e w2 ⟨rfl, hb2⟩
          obtain ⟨⟨a0, a1, a2, a3, a4, a5⟩, _⟩ := six_cells (blk_below hb2 HK.out)
          go_wp2_with fail
          refine (D2.out _ (HF.out.below hb2)).mono ?_
          rintro e w3 ⟨rfl, hb3⟩
          go_wp2
          go_ret
          exact ⟨ret_bool (by rw [HL.out]; simp), (HB.out.trans (hb2.mono HB.out.size)).trans (hb3.mono (by have := HB.out.size; have := hb2.size; omega))⟩
        · go_enter Tryd.func70, Tryd.ntmps70
          go_wp2_with fail
          refine D0.out.mono ?_
          rintro e w1 ⟨rfl, hw⟩
          obtain rfl := hw.symm
          go_wp2_with fail
          refine (D1.out _ HP.out).mono ?_
          rintro e w2 ⟨rfl, hb2⟩
          go_wp2
          go_ret
          exact ⟨ret_bool (by rw [HL.out]; simp), HB.out.trans (hb2.mono HB.out.size)⟩
      · go_enter Tryd.func70, Tryd.ntmps70
        go_wp2_with fail
        refine D0.out.mono ?_
        rintro e w1 ⟨rfl, hw⟩
        obtain rfl := hw.symm
        go_wp2
        go_ret
        exact ⟨ret_bool (by rw [HL.out]; simp), HB.out⟩
    · go_enter Tryd.func70, Tryd.ntmps70
      go_wp2
      go_ret
      exact ⟨ret_bool (by rw [HL.out]; simp), HB.out⟩
  · go_enter Tryd.func70, Tryd.ntmps70
    go_wp2
    go_ret
    exact ⟨ret_bool (by rw [HL.out]; simp), HB.out⟩

set_option maxRecDepth 1000000 in
set_option maxHeartbeats 2000000 in
theorem tooLong_any (x : RtV) (w : World) (h : RtAt w x) :
    Calls Tryd.prog 71 #[.agg #[.string x.1.name, .int .i64 x.1.frm, .int .i64 x.1.to, x.2.1, x.2.2.1, x.2.2.2]] w fun e w' => e = .returned (.bool (tooLong x.1)) ∧ Below w.heap.size w w' := by
  obtain ⟨rt, v0, v1, v2⟩ := x
  obtain ⟨⟨o0, k0, h0, _⟩, ⟨o1, k1, h1, _⟩, ⟨o2, k2, h2, _⟩⟩ := h
  simp only at *
  subst h0 h1 h2
  have HL : Hid (tooLong rt = (decide (5 < rt.path.length) || (decide (5 < rt.points.length) || decide (5 < rt.flank.length)))) := rfl
  generalize tooLong rt = ans at *
  generalize rt.path.length = n0 at *
  generalize rt.points.length = n1 at *
  generalize rt.flank.length = n2 at *
  have HB : Hid (Below w.heap.size w (w.alloc (.cells #[.string rt.name, .int .i64 rt.frm, .int .i64 rt.to, .slice o0 n0 k0, .slice o1 n1 k1, .slice o2 n2 k2] 43))) := (Below.refl _ _).alloc (Nat.le_refl _) _
  have e0 : decide ((5 : Int) < (n0 : Int)) = decide (5 < n0) := by rw [Bool.eq_iff_iff]; simp; omega
  have e1 : decide ((5 : Int) < (n1 : Int)) = decide (5 < n1) := by rw [Bool.eq_iff_iff]; simp; omega
  have e2 : decide ((5 : Int) < (n2 : Int)) = decide (5 < n2) := by rw [Bool.eq_iff_iff]; simp; omega
  generalize decide (5 < n0) = d0 at *
  generalize decide (5 < n1) = d1 at *
  generalize decide (5 < n2) = d2 at *
  cases d0
  · cases d1
    all_goals
      go_enter Tryd.func71, Tryd.ntmps71
      go_wp2
      go_ret
      exact ⟨ret_bool (by rw [HL.out]; simp), HB.out⟩
  · go_enter Tryd.func71, Tryd.ntmps71
    go_wp2
    go_ret
    exact ⟨ret_bool (by rw [HL.out]; simp), HB.out⟩

end Go.Proofs.YtbifcicipkhohaaDoor
