/-
  plan.needs, by a contract.
-/
import Derived.Test.YtgiaicmhnkhbnaaDoorPlAddP
import Derived.Deep.RegionHeldLaw
import Derived.Deep.Cut
namespace Go.Proofs.YtgiaicmhnkhbnaaDoor
open Go.RowKit

theorem step_append_own {P : Program} {ops : Array Oper} {o : Oper} {a : Act} {w : World} {K : Act → World → Prop} {Q : Exit → Act → World → Prop} {E : Prop}
    (hg : o.guard = none) (s x : Operand) (t : TypeId) (hop : o.op = Op.call { callee := Callee.builtin Builtin.append, args := #[s, x], argTypes := #[t, t] })
    (base : Nat) (e : TypeId) (i : TypeInfo) (z : Value) (size bytes : Nat) (h1 : P.underlying t = some (.slice e)) (h2 : P.info? e = some i) (h3 : i.zero = some z) (h4 : i.size = size) (h5 : i.bytes = bytes) (h6 : z.cells.size = size) (h7 : 0 < size)
    (v : Value) (n : Nat) (xs : List Value) (hs : a.eval s = v) (hown : w.ownsRow base e size v n xs)
    (ad : Addr) (m c : Nat) (news : List Value) (hx : a.eval x = .slice (some ad) m c) (hn : news.length = m * size) (hc : ∀ j u, news[j]? = some u → w.cell? (ad.add j) = some u) (h1c : ∀ u ∈ news, u.oneCell' = true)
    (b1 : n + m ≤ maxLen) (b2 : (n + m) * bytes ≤ 140737488355328) (hbase : base ≤ w.heap.size)
    (hK : ∀ v' w', w'.ownsRow base e size v' (n + m) (xs ++ news) → w.grownBy w' v.ownBlock → (v'.ownBlock = v.ownBlock ∨ v'.ownBlock = some w.heap.size) → K (a.put o.dst v') w') :
    if Region.wanted o (yielded ops a.tmps) = true then Oper.wp P o a w K Q else E := by
  have hw : Region.wanted o (yielded ops a.tmps) = true := by simp [Region.wanted, hg]
  rw [if_pos hw]
  obtain ⟨v', w', hrun, r1, r2, _, r3⟩ := run_append_own_at (P := P) w base t o.type e i z size bytes h1 h2 h3 h4 h5 h6 h7 v n xs hown ad m c news hn hc h1c b1 b2 hbase
  unfold Oper.wp
  simp [execOp, hop, resolve, invoke, builtin, hs, hx, hrun, Result.andThen]
  exact hK v' w' r1 r2 r3

theorem infoN : (Tryd.prog.info? 60).map (fun i => (i.zero, i.size, i.bytes)) = some (some (.agg #[.int .i64 0, .bool false]), 2, 16) := by kernel_rfl
theorem two_nb (a : Int) (b : Bool) : ∀ u ∈ [Value.int .i64 a, Value.bool b], u.oneCell' = true := by
  intro u hu
  simp at hu
  rcases hu with rfl | rfl <;> rfl

set_option maxRecDepth 1000000 in
set_option maxHeartbeats 4000000 in
theorem needs_any (L : Nat) (vP vW : Value) (pts : List (ByteArray × Int)) (ws : List Wt) (w : World) (hL : w.cell? ⟨L, 1, none⟩ = some vP) (hP : rowAt w vP 2 pC pts) (hp : pts.length ≤ 5) (hW : rowAt w vW 2 wC ws) (hl : ws.length ≤ 4294967296) :
    Calls Tryd.prog 77 #[.pointer (some ⟨L, 0, none⟩), vW] w fun e w' => ∃ v, e = .returned v ∧ w'.ownsRow w.heap.size 60 2 v ws.length ((ws.map fun x => (idx (pts.map (·.1)) x.1, x.2)).flatMap nC) ∧ Below w.heap.size w w' := by
  obtain ⟨i0, hii, hz0, hz1, hz2⟩ := info_parts infoN
  obtain ⟨oa, cap, rfl, h2⟩ := hW
  have H2 : Hid (∀ j y, ws[j]? = some y → ∃ g off, oa = some ⟨g, off, none⟩ ∧ ∀ i u, (wC y)[i]? = some u → w.cell? ⟨g, off + j * 2 + i, none⟩ = some u) := h2
  have HP : Hid (∀ W, Below w.heap.size w W → W.cell? ⟨L, 1, none⟩ = some vP ∧ rowAt W vP 2 pC pts) := fun W hb => ⟨(hb.cell (p := ⟨L, 1, none⟩) (World.block_lt_of_cell? w _ hL)).trans hL, hP.below hb⟩
  have hp' : pts.length ≤ 4294967296 := by omega
  clear h2 hL hP hp
  generalize hn : ws.length = n at *
  have HN : Hid (ws.length = n) := hn
  clear hn
  go_enter Tryd.func77, Tryd.ntmps77
  go_wp2
  go_loopw [5, 7, 10] (fun v _ i wr => ∃ k : Nat, i = .int .i64 k ∧ k ≤ n ∧ wr.ownsRow w.heap.size 60 2 v k (((ws.take k).map fun x => (idx (pts.map (·.1)) x.1, x.2)).flatMap nC) ∧ Below w.heap.size w wr) (fun _ _ i _ => n - (intOf i).toNat)
  case atStart => exact ⟨0, rfl, by omega, World.ownsRow_nil _ _ _ _, Below.refl _ _⟩
  case round =>
    obtain ⟨k, rfl, hk, hown, hbl⟩ := hrel
    by_cases hlt : k < n
    · obtain ⟨y, hy⟩ : ∃ y, ws[k]? = some y := ⟨ws[k]'(by rw [HN.out]; exact hlt), List.getElem?_eq_getElem _⟩
      obtain ⟨g, off, rfl, hcell⟩ := H2.out k y hy
      have c0 := (hbl.cell (p := ⟨g, off + k * 2 + 0, none⟩) (World.block_lt_of_cell? w _ (hcell 0 _ rfl))).trans (hcell 0 _ rfl)
      have c1 := (hbl.cell (p := ⟨g, off + k * 2 + 1, none⟩) (World.block_lt_of_cell? w _ (hcell 1 _ rfl))).trans (hcell 1 _ rfl)
      simp only [Nat.add_zero] at c0
      have HY : Hid (ws[k]? = some y) := hy
      obtain ⟨x, b⟩ := y
      simp only at c0 c1
      clear hcell hy
      have hb1 : Below wr.heap.size wr (wr.alloc (.cells #[.string x, .bool b] 132)) := (Below.refl _ _).alloc (Nat.le_refl _) _
      have HB1 : Hid (Below w.heap.size w (wr.alloc (.cells #[.string x, .bool b] 132)).drew) := (hbl.trans (hb1.mono hbl.size)).drew
      have HO1 : Hid ((wr.alloc (.cells #[.string x, .bool b] 132)).drew.ownsRow w.heap.size 60 2 u5 k (((ws.take k).map fun x => (idx (pts.map (·.1)) x.1, x.2)).flatMap nC)) := owns_below hown hb1.drew
      have HK1 : Hid ((wr.alloc (.cells #[.string x, .bool b] 132)).drew.cell? ⟨wr.heap.size, 0, none⟩ = some (.string x) ∧ (wr.alloc (.cells #[.string x, .bool b] 132)).drew.cell? ⟨wr.heap.size, 1, none⟩ = some (.bool b)) := ⟨by simp, by simp⟩
      have D6 : Hid (∀ W, Below w.heap.size w W → Calls Tryd.prog 61 #[.pointer (some ⟨L, 0, none⟩), .string x] W fun e w' => e = .returned (.int .i64 (idx (pts.map (·.1)) x)) ∧ Below W.heap.size W w') := fun W hb => pointAt_any L vP pts x W (HP.out W hb).1 (HP.out W hb).2 hp'
      have HTK : Hid (((ws.take (k + 1)).map fun x => (idx (pts.map (·.1)) x.1, x.2)).flatMap nC = ((ws.take k).map fun x => (idx (pts.map (·.1)) x.1, x.2)).flatMap nC ++ [.int .i64 (idx (pts.map (·.1)) x), .bool b]) := by
        obtain ⟨hkl, he⟩ := List.getElem?_eq_some_iff.1 HY.out
        rw [Hid, List.take_succ_eq_append_getElem hkl, he]
        simp [nC]
      generalize idx (pts.map (·.1)) x = pi at *
      generalize ((ws.take k).map fun x => (idx (pts.map (·.1)) x.1, x.2)).flatMap nC = cells at *
      have HNE : Hid (u5.ownBlock ≠ some wr.heap.size) := fun e => by
        have := (hown.lt _ e).2
        omega
      clear hb1 hown
      go_wp2_with fail
      go_region_held_law (fun W => W.cell? ⟨wr.heap.size, 0, none⟩ = some (.string x) ∧ W.cell? ⟨wr.heap.size, 1, none⟩ = some (.bool b)) (first | exact HK1.out | exact HK2.out | exact HK3.out | exact HK4.out) (first
        | (go_at_call 61; refine (D6.out _ HB1.out).mono ?_; rintro e w2 ⟨rfl, hb2⟩; have HB2 : Hid (Below w.heap.size w w2) := HB1.out.trans (hb2.mono HB1.out.size); have HO2 : Hid (w2.ownsRow w.heap.size 60 2 u5 k cells) := owns_below HO1.out hb2; have HK2 : Hid (w2.cell? ⟨wr.heap.size, 0, none⟩ = some (.string x) ∧ w2.cell? ⟨wr.heap.size, 1, none⟩ = some (.bool b)) := ⟨(hb2.cell (p := ⟨wr.heap.size, 0, none⟩) (World.block_lt_of_cell? _ _ HK1.out.1)).trans HK1.out.1, (hb2.cell (p := ⟨wr.heap.size, 1, none⟩) (World.block_lt_of_cell? _ _ HK1.out.2)).trans HK1.out.2⟩; have hb3 : Below w2.heap.size w2 (w2.alloc (.cells #[.int .i64 pi, .bool b] 60)) := (Below.refl _ _).alloc (Nat.le_refl _) _; have HK3 : Hid ((w2.alloc (.cells #[.int .i64 pi, .bool b] 60)).cell? ⟨wr.heap.size, 0, none⟩ = some (.string x) ∧ (w2.alloc (.cells #[.int .i64 pi, .bool b] 60)).cell? ⟨wr.heap.size, 1, none⟩ = some (.bool b)) := ⟨(hb3.cell (p := ⟨wr.heap.size, 0, none⟩) (World.block_lt_of_cell? _ _ HK2.out.1)).trans HK2.out.1, (hb3.cell (p := ⟨wr.heap.size, 1, none⟩) (World.block_lt_of_cell? _ _ HK2.out.2)).trans HK2.out.2⟩; clear hb2 hb3)
        | (refine step_append_own rfl (.tmp 14) (.tmp 22) 35 rfl w.heap.size 60 i0 (.agg #[.int .i64 0, .bool false]) 2 16 Tryd.underlying35 hii hz0 hz1 hz2 rfl (by decide) u5 k cells (by simp [Act.eval]) (HO2.out.alloc _) ⟨w2.heap.size, 0, none⟩ 1 1 [.int .i64 pi, .bool b] (by simp [Act.eval]) rfl (cell_two_new _ _ _ _) (two_nb _ _) (by unfold maxLen; omega) (by omega) (by have := HB2.out.size; simp; omega) ?_; intro v' w4 hown4 hg4 hat4; have HO4 : Hid (w4.ownsRow w.heap.size 60 2 v' (k + 1) (cells ++ [.int .i64 pi, .bool b])) := hown4; have HB4 : Hid (Below w.heap.size w w4) := (HB2.out.alloc HB2.out.size _).grown hg4 (by have := HB2.out.size; simp; omega) (fun j hj => (HO2.out.lt j hj).1); have HK4 : Hid (w4.cell? ⟨wr.heap.size, 0, none⟩ = some (.string x) ∧ w4.cell? ⟨wr.heap.size, 1, none⟩ = some (.bool b)) := ⟨hg4.cell HK3.out.1 (fun e => HNE.out e.symm), hg4.cell HK3.out.2 (fun e => HNE.out e.symm)⟩; clear hown4 hg4 hat4))
      go_wp2
      go_roundw
      case rel => exact ⟨k + 1, by go_num, by omega, by rw [HTK.out]; exact HO4.out, HB4.out⟩
      case measure => simp [intOf]; omega
    · go_wp2
      go_ret
      have hkn : k = n := by omega
      subst hkn
      exact ⟨_, rfl, by rw [List.take_of_length_le (by rw [HN.out]; omega)] at hown; exact hown, hbl⟩

end Go.Proofs.YtgiaicmhnkhbnaaDoor
