/-
  Package lock: New, by a contract.
-/
import Derived.Test.YtceebimgfajbcaaGreatDoorLkWay
import Derived.Test.YtceebimgfajbcaaGreatDoorTbIs
namespace Go.Proofs.YtceebimgfajbcaaGreatDoor
open Go.RowKit

def waysG (rs : List RtV) : List RtV → Nat → List Wy
  | [], _ => []
  | y :: ys, k => wayF rs k y.1 :: waysG rs ys (k + 1)

theorem waysG_map (rs : List RtV) : ∀ (l : List RtV) (k : Nat), (waysG rs l k).length = l.length
  | [], _ => rfl
  | _ :: l, k => by rw [waysG, List.length_cons, List.length_cons, waysG_map rs l (k + 1)]
theorem infoWy : (Tryz.prog.info? 74).map (fun i => (i.zero, i.size, i.bytes)) = some (some (.agg #[.int .i64 0, .slice none 0 0, .slice none 0 0, .slice none 0 0]), 4, 80) := by kernel_rfl
theorem made_st (n : Nat) : madeCells #[Value.int .i64 0, .int .i64 0, .int .i64 0, .bool false] (n * 4) = ((List.replicate n idleS).flatMap stC).toArray := by
  apply Array.ext
  · rw [size_madeCells, List.size_toArray, flat_st_len, List.length_replicate]
  · intro i h1 h2
    rw [size_madeCells] at h1
    have hq : i / 4 < (List.replicate n idleS).length := by rw [List.length_replicate]; omega
    have hi : i % 4 < 4 := Nat.mod_lt _ (by omega)
    have h3 := flat_st_at hq hi
    rw [show i / 4 * 4 + i % 4 = i by omega] at h3
    have h4 : ((List.replicate n idleS).flatMap stC)[i]? = some (((List.replicate n idleS).flatMap stC).toArray[i]) := by
      rw [List.getElem_toArray]
      exact List.getElem?_eq_getElem _
    rw [h4, List.getElem_replicate] at h3
    have h5 : (stC idleS)[i % 4]? = some ((madeCells #[Value.int .i64 0, .int .i64 0, .int .i64 0, .bool false] (n * 4))[i]'(by rw [size_madeCells]; exact h1)) := by
      simp only [madeCells, Array.getElem_map, Array.getElem_range]
      generalize i % 4 = j at hi ⊢
      match j, hi with
      | 0, _ => rfl
      | 1, _ => rfl
      | 2, _ => rfl
      | 3, _ => rfl
    rw [h5] at h3
    exact (Option.some.inj h3).symm
theorem mk_st (n : Nat) (hn : n ≤ 1000) (w : World) : (Instr.makeSlice 41 (.int .i64 (n : Int)) (.int .i64 (n : Int))).run Tryz.prog w = .ok (.slice (some ⟨w.heap.size, 0, none⟩) n n) (w.alloc (.cells ((List.replicate n idleS).flatMap stC).toArray 80)) := by
  obtain ⟨i, hi, hz, hs, hb⟩ := info_parts infoSt
  have := run_makeSlice (P := Tryz.prog) w 41 80 i (.agg #[.int .i64 0, .int .i64 0, .int .i64 0, .bool false]) Tryz.underlying41 hi hz .i64 .i64 n n (by omega) (Int.le_refl _) (by rw [hs]; omega) (by rw [hb]; omega) (by omega)
  rw [this]
  simp only [Int.toNat_natCast, hs]
  rw [← made_st]
  rfl

set_option maxRecDepth 1000000 in
set_option maxHeartbeats 32000000 in
theorem new_any (v : Nat → Value) (l : Lay) (rs : List RtV) (w : World) (h : LayRd w v l rs) (hm : IsMid l rs v) (hi : isB l = true) (hb : rs.length ≤ 1000 ∧ l.points.length ≤ 1000) (hm2 : ∀ y ∈ rs, y.1.path.length ≤ 1000000 ∧ y.1.points.length + y.1.flank.length ≤ 1000000) :
    Calls Tryz.prog 8 #[.agg #[v 0, v 1, v 2, v 3]] w fun e w' => ∃ kb u ws, e = .returned (.tuple #[.pointer (some ⟨kb, 0, none⟩), .int .i64 0]) ∧ LkAt w' w.heap.size kb u l.sections.length l.signals.length (l.points.map (·.2)) ws (List.replicate rs.length idleS) ∧ ws.map (·.1) = waysG rs rs 0 ∧ Below w.heap.size w w' := by
  obtain ⟨i0, hii, hz0, hz1, hz2⟩ := info_parts infoInt
  obtain ⟨i1, jii, jz0, jz1, jz2⟩ := info_parts infoWy
  have IS : Hid (∀ W, Below w.heap.size w W → Calls Tryz.prog 25 #[.agg #[v 0, v 1, v 2, v 3]] W fun e w' => e = .returned (.bool true) ∧ Below W.heap.size W w') := fun W hW => by
    have := tableIs_any v l rs W (h.below hW) hm
    rw [hi] at this
    exact this
  have WO : Hid (∀ (k : Nat) (y : RtV), rs[k]? = some y → ∀ W, Below w.heap.size w W → Calls Tryz.prog 26 #[.agg #[v 0, v 1, v 2, v 3], .int .i64 k] W fun e w' => ∃ v1 v2 v3, e = .returned (.agg #[.int .i64 y.1.frm, v1, v2, v3]) ∧ WyIn w' (wayF rs k y.1, v1, v2, v3) ∧ Below W.heap.size W w') := fun k y hy W hW => wayOf_any v l rs k y W (h.below hW) hy hb.1 hm2
  have P1 : Hid (∀ j y, l.points[j]? = some y → ∀ W, Below w.heap.size w W → ∃ g off, (∃ n c, v 1 = .slice (some ⟨g, off, none⟩) n c) ∧ W.cell? ⟨g, off + j * 2, none⟩ = some (.string y.1) ∧ W.cell? ⟨g, off + j * 2 + 1, none⟩ = some (.int .i64 y.2)) := fun j y hj W hW => by
    obtain ⟨o, c, e, r⟩ := h.p.below hW
    obtain ⟨g, off, rfl, hc⟩ := r j y hj
    exact ⟨g, off, ⟨_, _, e⟩, by simpa using hc 0 _ rfl, hc 1 _ rfl⟩
  obtain ⟨o0, c0, e0, _⟩ := h.s
  obtain ⟨o1, c1, e1, _⟩ := h.p
  obtain ⟨o2, c2, e2, _⟩ := h.g
  obtain ⟨o3, c3, e3, _⟩ := h.r
  rw [e1] at P1
  rw [e0, e1, e2, e3] at IS WO ⊢
  obtain ⟨hb1, hb2⟩ := hb
  clear h hm hi hm2 e0 e1 e2 e3
  generalize l.sections.length = n0 at *
  generalize hn1 : l.points.length = n1 at *
  generalize l.signals.length = n2 at *
  generalize hn3 : rs.length = n3 at *
  have HN1 : Hid (l.points.length = n1) := hn1
  have HN3 : Hid (rs.length = n3) := hn3
  have HBN : Hid (n3 ≤ 1000 ∧ n1 ≤ 1000) := ⟨hb1, hb2⟩
  clear hn1 hn3 hb1 hb2
  generalize hch : w.alloc (.cells #[.slice o0 n0 c0, .slice o1 n1 c1, .slice o2 n2 c2, .slice o3 n3 c3] 26) = w1
  have HB1 : Hid (Below w.heap.size w w1) := by show Below _ _ _; rw [← hch]; exact (Below.refl _ _).alloc (Nat.le_refl _) _
  have H0 : Hid (w1.heap[w.heap.size]? = some (.cells #[.slice o0 n0 c0, .slice o1 n1 c1, .slice o2 n2 c2, .slice o3 n3 c3] 26 (0, 0))) := by show _ = _; rw [← hch]; exact blk_new _ _
  obtain ⟨⟨x0, x1, x2, x3⟩, _⟩ := cells4 H0.out
  go_enter Tryz.func8, Tryz.ntmps8
  go_wp2_with fail
  clear x0 x1 x2 x3 hch
  refine (IS.out _ HB1.out).mono ?_
  rintro e w2 ⟨rfl, hb2⟩
  have HB2 : Hid (Below w.heap.size w w2) := HB1.out.trans (hb2.mono HB1.out.size)
  have H02 : Hid (w2.heap[w.heap.size]? = some (.cells #[.slice o0 n0 c0, .slice o1 n1 c1, .slice o2 n2 c2, .slice o3 n3 c3] 26 (0, 0))) := blk_below hb2 H0.out
  clear hb2
  obtain ⟨⟨x0, x1, x2, x3⟩, _⟩ := cells4 H02.out
  generalize hch : w2.alloc (.cells #[.int .i64 (n0 : Nat), .int .i64 (n2 : Nat), .slice none 0 0, .slice none 0 0, .slice none 0 0] 72) = w3
  have HB23 : Hid (Below w2.heap.size w2 w3) := by show Below _ _ _; rw [← hch]; exact (Below.refl _ _).alloc (Nat.le_refl _) _
  have HK : Hid (w3.heap[w2.heap.size]? = some (.cells #[.int .i64 (n0 : Nat), .int .i64 (n2 : Nat), .slice none 0 0, .slice none 0 0, .slice none 0 0] 72 (0, 0))) := by show _ = _; rw [← hch]; exact blk_new _ _
  have HB3 : Hid (Below w.heap.size w w3) := HB2.out.trans (HB23.out.mono HB2.out.size)
  have H03 : Hid (w3.heap[w.heap.size]? = some (.cells #[.slice o0 n0 c0, .slice o1 n1 c1, .slice o2 n2 c2, .slice o3 n3 c3] 26 (0, 0))) := blk_below HB23.out H02.out
  obtain ⟨⟨y0, y1, y2, y3⟩, _⟩ := cells4 H03.out
  have HK2 : Hid (w.heap.size < w2.heap.size) := (Array.getElem?_eq_some_iff.1 H02.out).1
  have HK3 : Hid (w2.heap.size < w3.heap.size) := (Array.getElem?_eq_some_iff.1 HK.out).1
  go_wp2
  clear hch x0 x1 x2 x3 y0 y1 y2 y3
  obtain ⟨kb, hkb⟩ : ∃ kb, kb = w2.heap.size := ⟨_, rfl⟩
  rw [← hkb] at HK HK2 HK3 ⊢
  clear hkb
  go_loopg [6, 22] n1 (fun gk a i wr => ∃ (k : Nat) (vp : Value), gk = n1 - k ∧ i = .int .i64 k ∧ k ≤ n1 ∧ wr.ownsRow w3.heap.size 3 1 vp k (((l.points.map (·.2)).take k).flatMap iC) ∧ wr.heap[kb]? = some (.cells #[.int .i64 (n0 : Nat), .int .i64 (n2 : Nat), vp, .slice none 0 0, .slice none 0 0] 72 (0, 0)) ∧ Chg (fun k => k = kb) w3 wr)
  case atStart => exact ⟨0, _, rfl, rfl, by omega, World.ownsRow_nil _ _ _ _, HK.out, Chg.refl _ _⟩
  case round =>
    obtain ⟨k, vp, rfl, rfl, hk, hown, hbox, hcg⟩ := hrel
    have HOW : Hid (wr.ownsRow w3.heap.size 3 1 vp k (((l.points.map (·.2)).take k).flatMap iC)) := hown
    have HBX : Hid (wr.heap[kb]? = some (.cells #[.int .i64 (n0 : Nat), .int .i64 (n2 : Nat), vp, .slice none 0 0, .slice none 0 0] 72 (0, 0))) := hbox
    have HCG : Hid (Chg (fun k => k = kb) w3 wr) := hcg
    have HBW : Hid (Below w.heap.size w wr) := HB3.out.trans (hcg.below (fun k (hk : k = kb) => by have := HK2.out; omega) HB3.out.size)
    have HM0 : Hid (wr.heap[w.heap.size]? = some (.cells #[.slice o0 n0 c0, .slice o1 n1 c1, .slice o2 n2 c2, .slice o3 n3 c3] 26 (0, 0))) := hcg.blk H03.out (by have := HK2.out; show ¬ w.heap.size = kb; omega)
    clear hown hbox hcg
    by_cases hlt : k < n1
    · obtain ⟨⟨ps, pn⟩, hy⟩ : ∃ y, l.points[k]? = some y := at_of (by rw [HN1.out]; exact hlt)
      obtain ⟨g, off, ⟨nn, cc, e1⟩, a0, a1⟩ := P1.out k _ hy wr HBW.out
      injection e1 with e11 e12 e13
      subst e11
      have htk : ((l.points.map (·.2)).take (k + 1)).flatMap iC = ((l.points.map (·.2)).take k).flatMap iC ++ [.int .i64 pn] := by
        have hg : (l.points.map (·.2))[k]? = some pn := by rw [List.getElem?_map, hy]; rfl
        rw [List.take_add_one, hg, List.flatMap_append]
        rfl
      have HTK : Hid (((l.points.map (·.2)).take (k + 1)).flatMap iC = ((l.points.map (·.2)).take k).flatMap iC ++ [.int .i64 pn]) := htk
      have hki : (k : Int) < (n1 : Int) := by omega
      have hnb : n1 ≤ 1000 := HBN.out.2
      obtain ⟨ov, cv, hvp⟩ := owns_slice HOW.out
      subst hvp
      clear hy htk e12 e13
      generalize ((l.points.map (·.2)).take k).flatMap iC = cells at *
      generalize hch : wr.alloc (.cells #[.string ps, .int .i64 pn] 63) = wa
      have HBA : Hid (Below wr.heap.size wr wa) := by show Below _ _ _; rw [← hch]; exact (Below.refl _ _).alloc (Nat.le_refl _) _
      have HPB : Hid (wa.heap[wr.heap.size]? = some (.cells #[.string ps, .int .i64 pn] 63 (0, 0))) := by show _ = _; rw [← hch]; exact blk_new _ _
      have HBXA : Hid (wa.heap[kb]? = some (.cells #[.int .i64 (n0 : Nat), .int .i64 (n2 : Nat), .slice ov k cv, .slice none 0 0, .slice none 0 0] 72 (0, 0))) := blk_below HBA.out HBX.out
      go_wp2_with fail
      clear hch a0 a1
      obtain ⟨⟨b0, b1, b2, b3, b4⟩, f2, f3, f4⟩ := cells5 HBXA.out
      obtain ⟨d0, d1⟩ := cells2 HPB.out
      have CLS : Hid ((∀ y : Cls [(⟨kb, 2, none⟩, .slice ov k cv), (⟨wr.heap.size, 1, none⟩, .int .i64 pn)], y.z.cell? ⟨kb, 2, none⟩ = some (.slice ov k cv)) ∧ ∀ y : Cls [(⟨kb, 2, none⟩, .slice ov k cv), (⟨wr.heap.size, 1, none⟩, .int .i64 pn)], y.z.cell? ⟨wr.heap.size, 1, none⟩ = some (.int .i64 pn)) := ⟨fun y => y.h (⟨kb, 2, none⟩, .slice ov k cv) (by simp), fun y => y.h (⟨wr.heap.size, 1, none⟩, .int .i64 pn) (by simp)⟩
      have mkc : ∀ W : World, W.cell? ⟨kb, 2, none⟩ = some (.slice ov k cv) → W.cell? ⟨wr.heap.size, 1, none⟩ = some (.int .i64 pn) → ∃ y : Cls [(⟨kb, 2, none⟩, .slice ov k cv), (⟨wr.heap.size, 1, none⟩, .int .i64 pn)], W = y.z := fun W h1 h2 => ⟨⟨W, fun p hp => by
        rcases List.mem_cons.1 hp with rfl | hp
        · exact h1
        · rw [List.mem_singleton.1 hp]; exact h2⟩, rfl⟩
      have MKC : Hid (∀ W : World, W.cell? ⟨kb, 2, none⟩ = some (.slice ov k cv) → W.cell? ⟨wr.heap.size, 1, none⟩ = some (.int .i64 pn) → ∃ y : Cls [(⟨kb, 2, none⟩, .slice ov k cv), (⟨wr.heap.size, 1, none⟩, .int .i64 pn)], W = y.z) := mkc
      have g0 := CLS.out.1
      have g1 := CLS.out.2
      haveI : Nonempty (Cls [(⟨kb, 2, none⟩, .slice ov k cv), (⟨wr.heap.size, 1, none⟩, .int .i64 pn)]) := by obtain ⟨y, _⟩ := mkc wa b2 d1; exact ⟨y⟩
      have HC0 := MKC.out wa.drew b2 d1
      clear b0 b1 b2 b3 b4 f2 f3 f4 d0 d1 mkc
      refine wp_region_last (C := fun W => ∃ y : Cls [(⟨kb, 2, none⟩, .slice ov k cv), (⟨wr.heap.size, 1, none⟩, .int .i64 pn)], W = y.z) [0, 1, 2, 3, 4, 5, 6, 7, 8] [9, 10, 11] (by kernel_rfl) (by kernel_rfl) (by kernel_rfl) (by kernel_rfl) (by simp only [List.filterMap_cons, List.getElem?_toArray, List.getElem?_cons_zero, List.getElem?_cons_succ, List.filterMap_nil]; rfl) (by simp only [List.filterMap_cons, List.getElem?_toArray, List.getElem?_cons_zero, List.getElem?_cons_succ, List.filterMap_nil]; rfl) HC0 ?_
      (repeat (first | (with_reducible refine mix_read (by kernel_rfl) ?_; go_big_quiet_want; go_big_quiet_op; go_big_quiet_on; with_reducible refine wpQuiet_nil ?_) | (with_reducible refine mix_pass (by kernel_rfl) ?_; go_big_quiet_skip; with_reducible refine wpQuiet_nil ?_)))
      have HBE : Hid (Below wa.heap.size wa (wa.drew.alloc (.cells #[.int .i64 pn] 3))) := ((Below.refl _ _).drew).alloc (Nat.le_refl _) _
      have HSA : Hid (w3.heap.size ≤ wa.heap.size) := Nat.le_trans HCG.out.size HBA.out.size
      have HNEW : Hid ((wa.drew.alloc (.cells #[.int .i64 pn] 3)).heap[wa.heap.size]? = some (.cells #[.int .i64 pn] 3 (0, 0))) := blk_new wa.drew _
      have HBXB : Hid ((wa.drew.alloc (.cells #[.int .i64 pn] 3)).heap[kb]? = some (.cells #[.int .i64 (n0 : Nat), .int .i64 (n2 : Nat), .slice ov k cv, .slice none 0 0, .slice none 0 0] 72 (0, 0))) := blk_below HBE.out HBXA.out
      have HPBB : Hid ((wa.drew.alloc (.cells #[.int .i64 pn] 3)).heap[wr.heap.size]? = some (.cells #[.string ps, .int .i64 pn] 63 (0, 0))) := blk_below HBE.out HPB.out
      refine mix_does (v := .slice (some ⟨wa.heap.size, 0, none⟩) 1 1) (w' := wa.drew.alloc (.cells #[.int .i64 pn] 3)) (by kernel_rfl) (by kernel_rfl) (by kernel_rfl) (MKC.out _ (cells5 HBXB.out).1.2.2.1 (cells2 HPBB.out).2) ?_
      simp only [Act.put, List.setIfInBounds_toArray, List.set_cons_zero, List.set_cons_succ]
      have hownB := owns_below (owns_below HOW.out HBA.out) HBE.out
      have hszB := HBE.out.size
      generalize wa.drew.alloc (.cells #[.int .i64 pn] 3) = wb at *
      have HOWB : Hid (wb.ownsRow w3.heap.size 3 1 (.slice ov k cv) k cells) := hownB
      obtain ⟨v', w4, hrun, hown4, hgrow, _⟩ := run_append_own (P := Tryz.prog) wb w3.heap.size 36 36 3 i0 (.int .i64 0) 1 8 Tryz.underlying36 hii hz0 hz1 hz2 rfl (by decide) (.slice ov k cv) k cells hownB ⟨wa.heap.size, 0, none⟩ 1 1 [.int .i64 pn] rfl (by
        intro j u hj
        match j, hj with
        | 0, hj => simp at hj; subst hj; rw [addr_add]; exact cells1 HNEW.out
        | j + 1, hj => simp at hj) (one_int _) (by unfold maxLen; omega) (by omega) (by have := HSA.out; omega)
      have keep4 : ∀ i, i < w3.heap.size → w4.heap[i]? = wb.heap[i]? := fun i hi => hgrow.block i (by have := HSA.out; omega) (fun e => by have := (HOWB.out.lt i e.symm).1; omega)
      have keepP : w4.heap[wr.heap.size]? = wb.heap[wr.heap.size]? := hgrow.block _ (Array.getElem?_eq_some_iff.1 HPBB.out).1 (fun e => owns_ne HOWB.out HPBB.out (by decide) _ e.symm rfl)
      have HBX4 : Hid (w4.heap[kb]? = some (.cells #[.int .i64 (n0 : Nat), .int .i64 (n2 : Nat), .slice ov k cv, .slice none 0 0, .slice none 0 0] 72 (0, 0))) := (keep4 kb HK3.out).trans HBXB.out
      refine mix_does (by kernel_rfl) (by kernel_rfl) (append_op _ _ _ _ rfl _ _ rfl rfl v' hrun) (MKC.out _ (cells5 HBX4.out).1.2.2.1 (cells2 (keepP.trans HPBB.out)).2) ?_
      simp only [Act.put, List.setIfInBounds_toArray, List.set_cons_zero, List.set_cons_succ]
      with_reducible refine mix_end ?_
      obtain ⟨ow, cw, rfl⟩ := owns_slice hown4
      have HO4 : Hid (w4.ownsRow w3.heap.size 3 1 (.slice ow (k + 1) cw) (k + 1) (cells ++ [.int .i64 pn])) := hown4
      have HR4 : Hid ((w4.setCell ⟨kb, 2, none⟩ (.slice ow (k + 1) cw)).ownsRow w3.heap.size 3 1 (.slice ow (k + 1) cw) (k + 1) (cells ++ [.int .i64 pn]) ∧ (w4.setCell ⟨kb, 2, none⟩ (.slice ow (k + 1) cw)).heap[kb]? = some (.cells #[.int .i64 (n0 : Nat), .int .i64 (n2 : Nat), .slice ow (k + 1) cw, .slice none 0 0, .slice none 0 0] 72 (0, 0)) ∧ Chg (fun k => k = kb) w3 (w4.setCell ⟨kb, 2, none⟩ (.slice ow (k + 1) cw))) := by
        refine ⟨owns_keep HO4.out fun i hi => Below.heap_setCell _ _ _ _ (by have := (HO4.out.lt i hi).1; have := HK3.out; show i ≠ kb; omega), ?_, ?_⟩
        · rw [heap_put HBX4.out]
          rfl
        · have h5 := (HCG.out.trans (Chg.of_below HBA.out)).trans (Chg.of_below HBE.out)
          refine ⟨hgrow.os.trans h5.os, hgrow.tape.trans h5.tape, hgrow.output.trans h5.output, ?_, fun i hi hf => ?_⟩
          · have := HSA.out
            have := hgrow.size
            simp only [World.setCell, Array.size_modify]
            omega
          · rw [Below.heap_setCell _ _ _ _ (by exact hf), keep4 i hi]
            exact h5.block i hi hf
      obtain ⟨⟨b0, b1, b2, b3, b4⟩, f2, f3, f4⟩ := cells5 HBX4.out
      clear hrun hown4 hgrow keep4 keepP hownB hszB g0 g1 HC0
      go_wp2
      go_roundg (n1 - (k + 1))
      case rel => exact ⟨k + 1, _, rfl, by go_num, by omega, by rw [HTK.out]; exact HR4.out.1, HR4.out.2.1, HR4.out.2.2⟩
      case measure => omega
    · have hkn : k = n1 := by omega
      subst hkn
      obtain ⟨op, cp, hvp⟩ := owns_slice HOW.out
      subst hvp
      have HPT : Hid (wr.ownsRow w3.heap.size 3 1 (.slice op k cp) (l.points.map (·.2)).length ((l.points.map (·.2)).flatMap iC)) := by
        have h1 := HOW.out
        rw [List.take_of_length_le (by rw [List.length_map, HN1.out]; omega)] at h1
        show World.ownsRow _ _ _ _ _ _ _
        rw [List.length_map, HN1.out]
        exact h1
      obtain ⟨⟨y0, y1, y2, y3⟩, _⟩ := cells4 HM0.out
      go_wp2
      clear y0 y1 y2 y3 HOW hlt hk
      generalize wr = wz at *
      generalize k = n1 at *
      have HKZ : Hid (kb < wz.heap.size) := (Array.getElem?_eq_some_iff.1 HBX.out).1
      go_loopg [7, 41] n3 (fun gk a i wr => ∃ (k : Nat) (vw : Value) (ws : List WyV), gk = n3 - k ∧ i = .int .i64 k ∧ k ≤ n3 ∧ ws.length = k ∧ ws.map (·.1) ++ waysG rs (rs.drop k) k = waysG rs rs 0 ∧ wr.ownsRow wz.heap.size 74 4 vw k (ws.flatMap wyC) ∧ (∀ y ∈ ws, WyIn wr y) ∧ wr.heap[kb]? = some (.cells #[.int .i64 (n0 : Nat), .int .i64 (n2 : Nat), .slice op n1 cp, vw, .slice none 0 0] 72 (0, 0)) ∧ Chg (fun k => k = kb) wz wr)
      case atStart => exact ⟨0, _, [], rfl, rfl, by omega, rfl, by simp, World.ownsRow_nil _ _ _ _, by simp, HBX.out, Chg.refl _ _⟩
      case round =>
        obtain ⟨k, vw, ws, rfl, rfl, hk, hwl, hc, hown, hwi, hbox, hcg⟩ := hrel
        have HC : Hid (ws.map (·.1) ++ waysG rs (rs.drop k) k = waysG rs rs 0) := hc
        have HOW : Hid (wr.ownsRow wz.heap.size 74 4 vw k (ws.flatMap wyC)) := hown
        have HWI : Hid (∀ y ∈ ws, WyIn wr y) := hwi
        have HBX2 : Hid (wr.heap[kb]? = some (.cells #[.int .i64 (n0 : Nat), .int .i64 (n2 : Nat), .slice op n1 cp, vw, .slice none 0 0] 72 (0, 0))) := hbox
        have HCZ : Hid (Chg (fun k => k = kb) wz wr) := hcg
        have HBR : Hid (Below w.heap.size w wr) := HBW.out.trans (hcg.below (fun k (hk : k = kb) => by have := HK2.out; omega) HBW.out.size)
        have HMR : Hid (wr.heap[w.heap.size]? = some (.cells #[.slice o0 n0 c0, .slice o1 n1 c1, .slice o2 n2 c2, .slice o3 n3 c3] 26 (0, 0))) := hcg.blk HM0.out (by have := HK2.out; show ¬ w.heap.size = kb; omega)
        have HWL : Hid (ws.length = k) := hwl
        clear hc hown hwi hbox hcg hwl
        by_cases hlt : k < n3
        · obtain ⟨x, hx⟩ : ∃ x, rs[k]? = some x := at_of (by rw [HN3.out]; exact hlt)
          have WX := WO.out k x hx
          rw [drop_at hx, waysG] at HC
          have hki : (k : Int) < (n3 : Int) := by omega
          have hnb : n3 ≤ 1000 := HBN.out.1
          obtain ⟨ov, cv, hvw⟩ := owns_slice HOW.out
          subst hvw
          have HWX : Hid (∀ W, Below w.heap.size w W → Calls Tryz.prog 26 #[.agg #[.slice o0 n0 c0, .slice o1 n1 c1, .slice o2 n2 c2, .slice o3 n3 c3], .int .i64 k] W fun e w' => ∃ v1 v2 v3, e = .returned (.agg #[.int .i64 x.1.frm, v1, v2, v3]) ∧ WyIn w' (wayF rs k x.1, v1, v2, v3) ∧ Below W.heap.size W w') := WX
          clear hx WX
          generalize hcw : ws.flatMap wyC = cells at *
          have HCW : Hid (ws.flatMap wyC = cells) := hcw
          clear hcw
          go_wp2_with fail
          obtain ⟨⟨b0, b1, b2, b3, b4⟩, f2, f3, f4⟩ := cells5 HBX2.out
          obtain ⟨⟨y0, y1, y2, y3⟩, _⟩ := cells4 HMR.out
          have MKC : Hid (∀ W : World, W.cell? ⟨kb, 3, none⟩ = some (.slice ov k cv) → (W.cell? ⟨w.heap.size, 0, none⟩ = some (.slice o0 n0 c0) ∧ W.cell? ⟨w.heap.size, 1, none⟩ = some (.slice o1 n1 c1) ∧ W.cell? ⟨w.heap.size, 2, none⟩ = some (.slice o2 n2 c2) ∧ W.cell? ⟨w.heap.size, 3, none⟩ = some (.slice o3 n3 c3)) → ∃ y : Cls [(⟨kb, 3, none⟩, .slice ov k cv), (⟨w.heap.size, 0, none⟩, .slice o0 n0 c0), (⟨w.heap.size, 1, none⟩, .slice o1 n1 c1), (⟨w.heap.size, 2, none⟩, .slice o2 n2 c2), (⟨w.heap.size, 3, none⟩, .slice o3 n3 c3)], W = y.z) := fun W h1 h2 => ⟨⟨W, fun p hp => by
            rcases List.mem_cons.1 hp with rfl | hp
            · exact h1
            rcases List.mem_cons.1 hp with rfl | hp
            · exact h2.1
            rcases List.mem_cons.1 hp with rfl | hp
            · exact h2.2.1
            rcases List.mem_cons.1 hp with rfl | hp
            · exact h2.2.2.1
            · rw [List.mem_singleton.1 hp]; exact h2.2.2.2⟩, rfl⟩
          haveI : Nonempty (Cls [(⟨kb, 3, none⟩, .slice ov k cv), (⟨w.heap.size, 0, none⟩, .slice o0 n0 c0), (⟨w.heap.size, 1, none⟩, .slice o1 n1 c1), (⟨w.heap.size, 2, none⟩, .slice o2 n2 c2), (⟨w.heap.size, 3, none⟩, .slice o3 n3 c3)]) := by obtain ⟨y, _⟩ := MKC.out wr b3 ⟨y0, y1, y2, y3⟩; exact ⟨y⟩
          have g0 : ∀ y : Cls [(⟨kb, 3, none⟩, .slice ov k cv), (⟨w.heap.size, 0, none⟩, .slice o0 n0 c0), (⟨w.heap.size, 1, none⟩, .slice o1 n1 c1), (⟨w.heap.size, 2, none⟩, .slice o2 n2 c2), (⟨w.heap.size, 3, none⟩, .slice o3 n3 c3)], y.z.cell? ⟨kb, 3, none⟩ = some (.slice ov k cv) := fun y => y.h (⟨kb, 3, none⟩, .slice ov k cv) (by simp)
          have g1 : ∀ y : Cls [(⟨kb, 3, none⟩, .slice ov k cv), (⟨w.heap.size, 0, none⟩, .slice o0 n0 c0), (⟨w.heap.size, 1, none⟩, .slice o1 n1 c1), (⟨w.heap.size, 2, none⟩, .slice o2 n2 c2), (⟨w.heap.size, 3, none⟩, .slice o3 n3 c3)], y.z.cell? ⟨w.heap.size, 0, none⟩ = some (.slice o0 n0 c0) := fun y => y.h (⟨w.heap.size, 0, none⟩, .slice o0 n0 c0) (by simp)
          have g2 : ∀ y : Cls [(⟨kb, 3, none⟩, .slice ov k cv), (⟨w.heap.size, 0, none⟩, .slice o0 n0 c0), (⟨w.heap.size, 1, none⟩, .slice o1 n1 c1), (⟨w.heap.size, 2, none⟩, .slice o2 n2 c2), (⟨w.heap.size, 3, none⟩, .slice o3 n3 c3)], y.z.cell? ⟨w.heap.size, 1, none⟩ = some (.slice o1 n1 c1) := fun y => y.h (⟨w.heap.size, 1, none⟩, .slice o1 n1 c1) (by simp)
          have g3 : ∀ y : Cls [(⟨kb, 3, none⟩, .slice ov k cv), (⟨w.heap.size, 0, none⟩, .slice o0 n0 c0), (⟨w.heap.size, 1, none⟩, .slice o1 n1 c1), (⟨w.heap.size, 2, none⟩, .slice o2 n2 c2), (⟨w.heap.size, 3, none⟩, .slice o3 n3 c3)], y.z.cell? ⟨w.heap.size, 2, none⟩ = some (.slice o2 n2 c2) := fun y => y.h (⟨w.heap.size, 2, none⟩, .slice o2 n2 c2) (by simp)
          have g4 : ∀ y : Cls [(⟨kb, 3, none⟩, .slice ov k cv), (⟨w.heap.size, 0, none⟩, .slice o0 n0 c0), (⟨w.heap.size, 1, none⟩, .slice o1 n1 c1), (⟨w.heap.size, 2, none⟩, .slice o2 n2 c2), (⟨w.heap.size, 3, none⟩, .slice o3 n3 c3)], y.z.cell? ⟨w.heap.size, 3, none⟩ = some (.slice o3 n3 c3) := fun y => y.h (⟨w.heap.size, 3, none⟩, .slice o3 n3 c3) (by simp)
          have HC0 := MKC.out wr.drew b3 ⟨y0, y1, y2, y3⟩
          clear b0 b1 b2 b3 b4 f2 f3 f4 y0 y1 y2 y3
          have HB5 : Hid (Below wr.heap.size wr wr.drew) := (Below.refl _ _).drew
          refine wp_region_last (C := fun W => ∃ y : Cls [(⟨kb, 3, none⟩, .slice ov k cv), (⟨w.heap.size, 0, none⟩, .slice o0 n0 c0), (⟨w.heap.size, 1, none⟩, .slice o1 n1 c1), (⟨w.heap.size, 2, none⟩, .slice o2 n2 c2), (⟨w.heap.size, 3, none⟩, .slice o3 n3 c3)], W = y.z) [0, 1, 2, 3, 4, 5, 6, 7, 8, 9] [10, 11, 12] (by kernel_rfl) (by kernel_rfl) (by kernel_rfl) (by kernel_rfl) (by simp only [List.filterMap_cons, List.getElem?_toArray, List.getElem?_cons_zero, List.getElem?_cons_succ, List.filterMap_nil]; rfl) (by simp only [List.filterMap_cons, List.getElem?_toArray, List.getElem?_cons_zero, List.getElem?_cons_succ, List.filterMap_nil]; rfl) HC0 ?_
          (repeat (first | (with_reducible refine mix_read (by kernel_rfl) ?_; go_big_quiet_want; go_big_quiet_op; go_big_quiet_on; with_reducible refine wpQuiet_nil ?_) | (with_reducible refine mix_pass (by kernel_rfl) ?_; go_big_quiet_skip; with_reducible refine wpQuiet_nil ?_)))
          with_reducible refine mix_call (by kernel_rfl) (by kernel_rfl) ((HWX.out _ (HBR.out.trans (HB5.out.mono HBR.out.size))).mono ?_) (by kernel_rfl)
          rintro e wa ⟨v1, v2, v3, rfl, hwy, hba⟩
          have HBA : Hid (Below wr.heap.size wr wa) := HB5.out.trans (hba.mono HB5.out.size)
          have hat := hwy wa fun _ _ _ => rfl
          obtain ⟨q1, d1, r1, _⟩ := hat.path
          obtain ⟨q2, d2, r2, _⟩ := hat.needs
          obtain ⟨q3, d3, r3, _⟩ := hat.foes
          simp only at r1 r2 r3
          subst r1 r2 r3
          have HWY : Hid (WyIn wa (wayF rs k x.1, .slice q1 (wayF rs k x.1).path.length d1, .slice q2 (wayF rs k x.1).needs.length d2, .slice q3 (wayF rs k x.1).foes.length d3)) := hwy
          have hfr : (wayF rs k x.1).frm = x.1.frm := rfl
          have HFR : Hid ((wayF rs k x.1).frm = x.1.frm) := hfr
          clear hba hwy hat hfr
          generalize wayF rs k x.1 = wy at *
          generalize hl1 : wy.path.length = m1 at *
          generalize hl2 : wy.needs.length = m2 at *
          generalize hl3 : wy.foes.length = m3 at *
          clear hl1 hl2 hl3
          generalize x.1.frm = fr at *
          have HBXA : Hid (wa.heap[kb]? = some (.cells #[.int .i64 (n0 : Nat), .int .i64 (n2 : Nat), .slice op n1 cp, .slice ov k cv, .slice none 0 0] 72 (0, 0))) := blk_below HBA.out HBX2.out
          have HMA : Hid (wa.heap[w.heap.size]? = some (.cells #[.slice o0 n0 c0, .slice o1 n1 c1, .slice o2 n2 c2, .slice o3 n3 c3] 26 (0, 0))) := blk_below HBA.out HMR.out
          refine ⟨_, rfl, MKC.out _ (cells5 HBXA.out).1.2.2.2.1 (cells4 HMA.out).1, ?_⟩
          simp only [Act.put, List.setIfInBounds_toArray, List.set_cons_zero, List.set_cons_succ]
          have HBE : Hid (Below wa.heap.size wa (wa.alloc (.cells #[.int .i64 fr, .slice q1 m1 d1, .slice q2 m2 d2, .slice q3 m3 d3] 74))) := (Below.refl _ _).alloc (Nat.le_refl _) _
          have HSA : Hid (wz.heap.size ≤ wa.heap.size) := Nat.le_trans HCZ.out.size HBA.out.size
          have HNEW : Hid ((wa.alloc (.cells #[.int .i64 fr, .slice q1 m1 d1, .slice q2 m2 d2, .slice q3 m3 d3] 74)).heap[wa.heap.size]? = some (.cells #[.int .i64 fr, .slice q1 m1 d1, .slice q2 m2 d2, .slice q3 m3 d3] 74 (0, 0))) := blk_new wa _
          have HBXB : Hid ((wa.alloc (.cells #[.int .i64 fr, .slice q1 m1 d1, .slice q2 m2 d2, .slice q3 m3 d3] 74)).heap[kb]? = some (.cells #[.int .i64 (n0 : Nat), .int .i64 (n2 : Nat), .slice op n1 cp, .slice ov k cv, .slice none 0 0] 72 (0, 0))) := blk_below HBE.out HBXA.out
          have HMB : Hid ((wa.alloc (.cells #[.int .i64 fr, .slice q1 m1 d1, .slice q2 m2 d2, .slice q3 m3 d3] 74)).heap[w.heap.size]? = some (.cells #[.slice o0 n0 c0, .slice o1 n1 c1, .slice o2 n2 c2, .slice o3 n3 c3] 26 (0, 0))) := blk_below HBE.out HMA.out
          refine mix_does (v := .slice (some ⟨wa.heap.size, 0, none⟩) 1 1) (w' := wa.alloc (.cells #[.int .i64 fr, .slice q1 m1 d1, .slice q2 m2 d2, .slice q3 m3 d3] 74)) (by kernel_rfl) (by kernel_rfl) (by kernel_rfl) (MKC.out _ (cells5 HBXB.out).1.2.2.2.1 (cells4 HMB.out).1) ?_
          simp only [Act.put, List.setIfInBounds_toArray, List.set_cons_zero, List.set_cons_succ]
          have hownB := owns_below (owns_below HOW.out HBA.out) HBE.out
          have hszB := HBE.out.size
          have HWB : Hid (∀ y ∈ ws ++ [((wy, .slice q1 m1 d1, .slice q2 m2 d2, .slice q3 m3 d3) : WyV)], WyIn (wa.alloc (.cells #[.int .i64 fr, .slice q1 m1 d1, .slice q2 m2 d2, .slice q3 m3 d3] 74)) y) := fun y hy => by
            rcases List.mem_append.1 hy with hy | hy
            · exact ((HWI.out y hy).step HBA.out.size fun i hi _ => HBA.out.block i hi).step HBE.out.size fun i hi _ => HBE.out.block i hi
            · rw [List.mem_singleton.1 hy]
              exact HWY.out.step HBE.out.size fun i hi _ => HBE.out.block i hi
          generalize wa.alloc (.cells #[.int .i64 fr, .slice q1 m1 d1, .slice q2 m2 d2, .slice q3 m3 d3] 74) = wb at *
          have HOWB : Hid (wb.ownsRow wz.heap.size 74 4 (.slice ov k cv) k cells) := hownB
          obtain ⟨v', w4, hrun, hown4, hgrow, _⟩ := run_append_own (P := Tryz.prog) wb wz.heap.size 70 70 74 i1 (.agg #[.int .i64 0, .slice none 0 0, .slice none 0 0, .slice none 0 0]) 4 80 Tryz.underlying70 jii jz0 jz1 jz2 rfl (by decide) (.slice ov k cv) k cells hownB ⟨wa.heap.size, 0, none⟩ 1 1 [.int .i64 fr, .slice q1 m1 d1, .slice q2 m2 d2, .slice q3 m3 d3] rfl (by
            intro j u hj
            obtain ⟨⟨t0, t1, t2, t3⟩, _⟩ := cells4 HNEW.out
            match j, hj with
            | 0, hj => simp at hj; subst hj; rw [addr_add]; exact t0
            | 1, hj => simp at hj; subst hj; rw [addr_add]; exact t1
            | 2, hj => simp at hj; subst hj; rw [addr_add]; exact t2
            | 3, hj => simp at hj; subst hj; rw [addr_add]; exact t3
            | j + 4, hj => simp at hj) (by
            intro u hu
            simp at hu
            rcases hu with rfl | rfl | rfl | rfl <;> rfl) (by unfold maxLen; omega) (by omega) (by have := HSA.out; omega)
          have keep4 : ∀ i, i < wz.heap.size → w4.heap[i]? = wb.heap[i]? := fun i hi => hgrow.block i (by have := HSA.out; omega) (fun e => by have := (HOWB.out.lt i e.symm).1; omega)
          have HBX4 : Hid (w4.heap[kb]? = some (.cells #[.int .i64 (n0 : Nat), .int .i64 (n2 : Nat), .slice op n1 cp, .slice ov k cv, .slice none 0 0] 72 (0, 0))) := (keep4 kb HKZ.out).trans HBXB.out
          have HM4 : Hid (w4.heap[w.heap.size]? = some (.cells #[.slice o0 n0 c0, .slice o1 n1 c1, .slice o2 n2 c2, .slice o3 n3 c3] 26 (0, 0))) := (keep4 _ (by have := HK2.out; have := HKZ.out; omega)).trans HMB.out
          refine mix_does (by kernel_rfl) (by kernel_rfl) (append_op _ _ _ _ rfl _ _ rfl rfl v' hrun) (MKC.out _ (cells5 HBX4.out).1.2.2.2.1 (cells4 HM4.out).1) ?_
          simp only [Act.put, List.setIfInBounds_toArray, List.set_cons_zero, List.set_cons_succ]
          with_reducible refine mix_end ?_
          obtain ⟨ow, cw, rfl⟩ := owns_slice hown4
          have HO4 : Hid (w4.ownsRow wz.heap.size 74 4 (.slice ow (k + 1) cw) (k + 1) (cells ++ [.int .i64 fr, .slice q1 m1 d1, .slice q2 m2 d2, .slice q3 m3 d3])) := hown4
          have HR4 : Hid ((w4.setCell ⟨kb, 3, none⟩ (.slice ow (k + 1) cw)).ownsRow wz.heap.size 74 4 (.slice ow (k + 1) cw) (k + 1) (cells ++ [.int .i64 fr, .slice q1 m1 d1, .slice q2 m2 d2, .slice q3 m3 d3]) ∧ (w4.setCell ⟨kb, 3, none⟩ (.slice ow (k + 1) cw)).heap[kb]? = some (.cells #[.int .i64 (n0 : Nat), .int .i64 (n2 : Nat), .slice op n1 cp, .slice ow (k + 1) cw, .slice none 0 0] 72 (0, 0)) ∧ Chg (fun k => k = kb) wz (w4.setCell ⟨kb, 3, none⟩ (.slice ow (k + 1) cw)) ∧ ∀ y ∈ ws ++ [((wy, .slice q1 m1 d1, .slice q2 m2 d2, .slice q3 m3 d3) : WyV)], WyIn (w4.setCell ⟨kb, 3, none⟩ (.slice ow (k + 1) cw)) y) := by
            refine ⟨owns_keep HO4.out fun i hi => Below.heap_setCell _ _ _ _ (by have := (HO4.out.lt i hi).1; have := HKZ.out; show i ≠ kb; omega), ?_, ?_, fun y hy => (HWB.out y hy).step ?_ fun i hi hrb => ?_⟩
            · rw [heap_put HBX4.out]
              rfl
            · have h5 := (HCZ.out.trans (Chg.of_below HBA.out)).trans (Chg.of_below HBE.out)
              refine ⟨hgrow.os.trans h5.os, hgrow.tape.trans h5.tape, hgrow.output.trans h5.output, ?_, fun i hi hf => ?_⟩
              · have := HSA.out
                have := hgrow.size
                simp only [World.setCell, Array.size_modify]
                omega
              · rw [Below.heap_setCell _ _ _ _ (by exact hf), keep4 i hi]
                exact h5.block i hi hf
            · have := hgrow.size
              simp only [World.setCell, Array.size_modify]
              omega
            · obtain ⟨cc, tt, zz, hbb, ht⟩ := hrb
              have hne : i ≠ kb := fun e => by
                rw [e, HBXB.out] at hbb
                injection hbb with hbb
                injection hbb with h1 h2 h3
                subst h2
                revert ht
                decide
              rw [Below.heap_setCell _ _ _ _ (by exact hne)]
              refine hgrow.block i hi fun e => ?_
              refine owns_ne HOWB.out hbb ?_ i e.symm rfl
              rcases ht with rfl | rfl <;> decide
          obtain ⟨⟨b0, b1, b2, b3, b4⟩, f2, f3, f4⟩ := cells5 HBX4.out
          clear hrun hown4 hgrow keep4 hownB hszB g0 g1 g2 g3 g4 HC0
          have HFL : Hid ((ws ++ [((wy, .slice q1 m1 d1, .slice q2 m2 d2, .slice q3 m3 d3) : WyV)]).flatMap wyC = cells ++ [.int .i64 fr, .slice q1 m1 d1, .slice q2 m2 d2, .slice q3 m3 d3]) := by
            show _ = _
            rw [List.flatMap_append, HCW.out, ← HFR.out]
            rfl
          have HCC : Hid ((ws ++ [((wy, .slice q1 m1 d1, .slice q2 m2 d2, .slice q3 m3 d3) : WyV)]).map (·.1) ++ waysG rs (rs.drop (k + 1)) (k + 1) = waysG rs rs 0) := by
            show _ = _
            rw [← HC.out, List.map_append, List.append_assoc]
            rfl
          go_wp2
          go_roundg (n3 - (k + 1))
          case rel => exact ⟨k + 1, _, _, rfl, by go_num, by omega, by rw [List.length_append, HWL.out]; rfl, HCC.out, by rw [HFL.out]; exact HR4.out.1, HR4.out.2.2.2, HR4.out.2.1, HR4.out.2.2.1⟩
          case measure => omega
        · have hkn : k = n3 := by omega
          subst hkn
          rw [List.drop_of_length_le (by rw [HN3.out]; omega), waysG, List.append_nil] at HC
          obtain ⟨ov, cv, hvw⟩ := owns_slice HOW.out
          subst hvw
          have hmk := mk_st k HBN.out.1
          obtain ⟨⟨b0, b1, b2, b3, b4⟩, f2, f3, f4⟩ := cells5 HBX2.out
          have HBE : Hid (Below wr.heap.size wr (wr.alloc (.cells ((List.replicate k idleS).flatMap stC).toArray 80))) := (Below.refl _ _).alloc (Nat.le_refl _) _
          have HBXB : Hid ((wr.alloc (.cells ((List.replicate k idleS).flatMap stC).toArray 80)).heap[kb]? = some (.cells #[.int .i64 (n0 : Nat), .int .i64 (n2 : Nat), .slice op n1 cp, .slice ov k cv, .slice none 0 0] 72 (0, 0))) := blk_below HBE.out HBX2.out
          have HNEW : Hid ((wr.alloc (.cells ((List.replicate k idleS).flatMap stC).toArray 80)).heap[wr.heap.size]? = some (.cells ((List.replicate k idleS).flatMap stC).toArray 80 (0, 0))) := blk_new _ _
          have hkk : k ≤ 1000 := HBN.out.1
          generalize hch : wr.alloc (.cells ((List.replicate k idleS).flatMap stC).toArray 80) = wa at *
          obtain ⟨⟨r0, r1, r2, r3, r4⟩, s2, s3, s4⟩ := cells5 HBXB.out
          go_wp2
          refine bodyPost_ret (results_tmp2 Tryz.results8 _ _ _) rfl ?_
          have hkb := HK2.out
          have hlt := HKZ.out
          have hsz := HCZ.out.size
          have oth : ∀ i, i ≠ kb → (wa.setCell ⟨kb, 4, none⟩ (.slice (some ⟨wr.heap.size, 0, none⟩) k k)).heap[i]? = wa.heap[i]? := fun i hi => Below.heap_setCell _ _ _ _ (by exact hi)
          have p1 := owns_keep (w' := wr) HPT.out fun i hi => HCZ.out.block i (HPT.out.lt i hi).2 (owns_ne HPT.out HBX.out (by decide) i hi)
          have p2 := owns_below p1 HBE.out
          have p3 := owns_keep (w' := wa.setCell ⟨kb, 4, none⟩ (.slice (some ⟨wr.heap.size, 0, none⟩) k k)) p2 fun i hi => oth i (owns_ne p2 HBXB.out (by decide) i hi)
          have q2 := owns_below HOW.out HBE.out
          have q3 := owns_keep (w' := wa.setCell ⟨kb, 4, none⟩ (.slice (some ⟨wr.heap.size, 0, none⟩) k k)) q2 fun i hi => oth i (owns_ne q2 HBXB.out (by decide) i hi)
          refine ⟨kb, (fun i => match i with | 0 => .slice op n1 cp | 1 => .slice ov k cv | _ => .slice (some ⟨wr.heap.size, 0, none⟩) k k), ws, rfl, ⟨?_, by omega, .inl ⟨flat_st_len _, .inr ⟨wr.heap.size, k, ((List.replicate k idleS).flatMap stC).toArray, by rw [List.length_replicate]; rfl, by omega, ?_, by rw [List.length_replicate]; omega, by unfold maxLen; omega, by rw [List.size_toArray, flat_st_len, List.length_replicate], ?_⟩⟩, fun W' hW' => ⟨?_, ?_, ?_⟩⟩, HC.out, ?_⟩
          · rw [heap_put HBXB.out]
            rfl
          · rw [oth _ (by omega)]
            exact HNEW.out
          · rw [List.length_replicate, List.take_of_length_le (by rw [flat_st_len, List.length_replicate]; omega)]
          · refine rowAt_of_owns (fun _ => rfl) (owns_keep p3 fun i hi => hW' i (p3.lt i hi).2 ?_)
            rcases p3.2 with ⟨e, _⟩ | ⟨g, cap, cur, e, _, hg, _⟩
            · rw [e] at hi; cases hi
            · rw [e] at hi
              have := Option.some.inj hi
              simp only at this
              subst this
              exact ⟨_, _, _, hg, .inl rfl⟩
          · have h1 := owns_keep (w' := W') q3 fun i hi => hW' i (q3.lt i hi).2 (by
              rcases q3.2 with ⟨e, _⟩ | ⟨g, cap, cur, e, _, hg, _⟩
              · rw [e] at hi; cases hi
              · rw [e] at hi
                have := Option.some.inj hi
                simp only at this
                subst this
                exact ⟨_, _, _, hg, .inr (.inr rfl)⟩)
            rw [← HWL.out] at h1 ⊢
            exact rowAt_of_owns (fun _ => rfl) h1
          · intro y hy
            refine ((HWI.out y hy).step HBE.out.size fun i hi _ => HBE.out.block i hi) W' fun i hi hrb => ?_
            obtain ⟨cc, tt, zz, hbb, ht⟩ := hrb
            have hne : i ≠ kb := fun e => by
              rw [e, HBXB.out] at hbb
              injection hbb with hbb
              injection hbb with h1 h2 h3
              subst h2
              revert ht
              decide
            rw [hW' i (by simp only [World.setCell, Array.size_modify]; exact hi) ⟨cc, tt, zz, (oth i hne).trans hbb, by rcases ht with rfl | rfl; exact .inl rfl; exact .inr (.inl rfl)⟩, oth i hne]
          · exact ((HBR.out.trans (HBE.out.mono HBR.out.size)).setCell (by show w.heap.size ≤ kb; omega) _)
end Go.Proofs.YtceebimgfajbcaaGreatDoor
