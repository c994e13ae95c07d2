/-
  plan's wantWords, by a contract.
-/
import Derived.Test.YtgiaicmhnkhbnaaDoorPlPtName
import Derived.Test.YtgiaicmhnkhbnaaDoorLyWants
import Derived.Test.YtgiaicmhnkhbnaaDoorPlNeeds
import Derived.Deep.RegionHeldLaw
import Derived.Deep.CutBlock
namespace Go.Proofs.YtgiaicmhnkhbnaaDoor
open Go.RowKit

theorem wantW_is (n : ByteArray) (b : Bool) : n ++ (if b = true then (⟨#[45]⟩ : ByteArray) else ⟨#[43]⟩) = wantW (n, b) := by
  apply bytes_eq
  cases b <;> simp [wantW]

set_option maxRecDepth 1000000 in
set_option maxHeartbeats 16000000 in
theorem wantWords_any (v : Nat → Value) (l : Lay) (rs : List RtV) (t : ByteArray) (u : Value) (ns : List (Int × Bool)) (w : World) (h : LayRd w v l rs) (hu : rowAt w u 2 nC ns) (hn : ns.length ≤ 3000) (hz : ∀ x ∈ l.points, x.1.size < 3000) (hi : ∀ n ∈ ns, 0 ≤ n.1 ∧ n.1 < l.points.length) (hne : ns ≠ []) :
    Calls Tryd.prog 33 #[.agg #[v 0, v 1, v 2, v 3], .string t, u] w fun e w' => ∃ a, e = .returned a ∧ w'.ownsRow (w.heap.size + 1) 9 1 a (ns.length + 1) (.string t :: (ns.map fun n => Value.string (wantW (wantOf l n)))) ∧ Below w.heap.size w w' := by
  obtain ⟨i0, hii, hz0, hz1, hz2⟩ := info_parts infoS
  have HLR : Hid (LayRd w v l rs) := h
  obtain ⟨o0, c0, e0, _⟩ := h.s
  obtain ⟨o1, c1, e1, _⟩ := h.p
  obtain ⟨o2, c2, e2, _⟩ := h.g
  obtain ⟨o3, c3, e3, _⟩ := h.r
  obtain ⟨ou, cu, rfl, ru⟩ := hu
  have S := BoxAt.start w v
  have HI : Hid (∀ n ∈ ns, 0 ≤ n.1 ∧ n.1 < l.points.length) := hi
  have HZ : Hid (∀ x ∈ l.points, x.1.size < 3000) := hz
  have RU : Hid (∀ j x, ns[j]? = some x → ∃ g off, ou = some ⟨g, off, none⟩ ∧ ∀ i u, (nC x)[i]? = some u → w.cell? ⟨g, off + j * 2 + i, none⟩ = some u) := ru
  have HV : Hid (v 0 = .slice o0 l.sections.length c0 ∧ v 1 = .slice o1 l.points.length c1 ∧ v 2 = .slice o2 l.signals.length c2 ∧ v 3 = .slice o3 rs.length c3) := ⟨e0, e1, e2, e3⟩
  rw [e0, e1, e2, e3] at S ⊢
  have hn0 : ns.length ≠ 0 := fun e => hne (List.length_eq_zero_iff.1 e)
  clear h ru e0 e1 e2 e3 hz hne
  clear hi
  obtain ⟨n1, hs1⟩ : ∃ n1, n1 = l.points.length := ⟨_, rfl⟩
  rw [← hs1] at S ⊢
  have HVV : Hid (v 1 = .slice o1 n1 c1) := by rw [hs1]; exact HV.out.2.1
  generalize hs0 : l.sections.length = n0 at *
  generalize hs2 : l.signals.length = n2 at *
  generalize hs3 : rs.length = n3 at *
  generalize hsu : ns.length = nu at *
  have HSU : Hid (ns.length = nu) := hsu
  clear hs0 hs1 hs2 hs3 hsu
  have hb0 : ((nu : Int) == 0) = false := by simp; omega
  have hown : ((w.alloc (.cells #[.slice o0 n0 c0, .slice o1 n1 c1, .slice o2 n2 c2, .slice o3 n3 c3] 26)).alloc (.cells #[.string t] 9)).ownsRow (w.heap.size + 1) 9 1 (.slice (some ⟨w.heap.size + 1, 0, none⟩) 1 1) 1 [.string t] := owns_lit (by have := blk_new (w.alloc (.cells #[.slice o0 n0 c0, .slice o1 n1 c1, .slice o2 n2 c2, .slice o3 n3 c3] 26)) (.cells #[.string t] 9); rw [World.size_alloc] at this; exact this) (Nat.le_refl _) rfl (by decide)
  have S2 := S.step ((Below.refl _ _).alloc (Nat.le_refl _) (.cells #[.string t] 9))
  clear S
  go_enter Tryd.func33, Tryd.ntmps33
  go_wp2
  go_loopg [7, 17] nu (fun gk s i wr => ∃ k : Nat, gk = nu - k ∧ k ≤ nu ∧ i = .int .i64 k ∧ wr.ownsRow (w.heap.size + 1) 9 1 s (k + 1) (.string t :: ((ns.take k).map fun n => Value.string (wantW (wantOf l n)))) ∧ BoxAt w v wr)
  case atStart => exact ⟨0, rfl, by omega, rfl, hown, S2⟩
  case round =>
    clear hown S2
    obtain ⟨k, rfl, hk, rfl, hown, hbx⟩ := hrel
    have HBX : Hid (BoxAt w v wr) := hbx
    have hcc := hbx.cells
    have hbl := hbx.1
    rw [HV.out.1, HVV.out, HV.out.2.2.1, HV.out.2.2.2] at hcc
    obtain ⟨q0, q1, q2, q3⟩ := hcc
    clear hbx
    by_cases hlt : k < nu
    · obtain ⟨⟨x, rv⟩, hx⟩ : ∃ x, ns[k]? = some x := ⟨ns[k]'(by rw [HSU.out]; exact hlt), List.getElem?_eq_getElem _⟩
      have hin : 0 ≤ x ∧ x < l.points.length := HI.out _ (List.mem_of_getElem? hx)
      obtain ⟨g, off, rfl, hcell⟩ := RU.out k _ hx
      have up : ∀ {p : Addr} {u : Value}, w.cell? p = some u → wr.cell? p = some u := fun h => (hbl.cell (World.block_lt_of_cell? _ _ h)).trans h
      have d0 := up (hcell 0 _ rfl)
      have d1 := up (hcell 1 _ rfl)
      rw [Nat.add_zero] at d0
      have hki : (k : Int) < (nu : Int) := by omega
      have HTK : Hid ((.string t :: ((ns.take (k + 1)).map fun n => Value.string (wantW (wantOf l n)))) = (.string t :: ((ns.take k).map fun n => Value.string (wantW (wantOf l n)))) ++ [.string (wantW (wantOf l (x, rv)))]) := by
        show _ = _
        rw [take_snocI hx]
        simp
      generalize hcs : (.string t :: ((ns.take k).map fun n => Value.string (wantW (wantOf l n)))) = cells at *
      have hpz : (nth (l.points.map (·.1)) x).size < 3000 := nth_size (fun q hq => by
        obtain ⟨q', h1, rfl⟩ := List.mem_map.1 hq
        exact HZ.out q' h1) _
      have hal : Below wr.heap.size wr (wr.alloc (.cells #[.int .i64 x, .bool rv] 60)) := (Below.refl _ _).alloc (Nat.le_refl _) _
      have PN : Hid (∀ W, Below wr.heap.size wr W → Calls Tryd.prog 41 #[.agg #[.slice o0 n0 c0, .slice o1 n1 c1, .slice o2 n2 c2, .slice o3 n3 c3], .int .i64 x] W fun e w' => e = .returned (.string (nth (l.points.map (·.1)) x)) ∧ Below W.heap.size W w') := fun W hW => by
        have := pointName_any v l rs x W (HLR.out.below (hbl.trans (hW.mono hbl.size))) hin
        rw [HV.out.1, HVV.out, HV.out.2.2.1, HV.out.2.2.2] at this
        exact this
      clear hcell up hx hcs hin
      have HOW : Hid (wr.ownsRow (w.heap.size + 1) 9 1 u7 (k + 1) cells) := hown
      generalize hpn : nth (l.points.map (·.1)) x = pn at *
      have HWT : Hid (pn ++ (if rv = true then (⟨#[45]⟩ : ByteArray) else ⟨#[43]⟩) = wantW (wantOf l (x, rv))) := by
        show _ = _
        rw [wantW_is, wantOf, hpn]
      rw [← HWT.out] at HTK
      clear hpn HWT
      cases rv
      · rw [show (if false = true then (⟨#[45]⟩ : ByteArray) else ⟨#[43]⟩) = ⟨#[43]⟩ from rfl] at HTK
        have henc : Utf8.encode 43 = ⟨#[43]⟩ := by decide +kernel
        have hez : (⟨#[43]⟩ : ByteArray).size = 1 := rfl
        go_wp2_with fail
        have q0' := (hal.cell (World.block_lt_of_cell? _ _ q0)).trans q0
        have q1' := (hal.cell (World.block_lt_of_cell? _ _ q1)).trans q1
        have q2' := (hal.cell (World.block_lt_of_cell? _ _ q2)).trans q2
        have q3' := (hal.cell (World.block_lt_of_cell? _ _ q3)).trans q3
        have k0 : (wr.alloc (.cells #[.int .i64 x, .bool false] 60)).cell? ⟨wr.heap.size, 0, none⟩ = some (.int .i64 x) := by simp
        have k1 : (wr.alloc (.cells #[.int .i64 x, .bool false] 60)).cell? ⟨wr.heap.size, 1, none⟩ = some (.bool false) := by simp
        have hsz1 : wr.heap.size < (wr.alloc (.cells #[.int .i64 x, .bool false] 60)).heap.size := by simp
        have own1 := owns_below hown hal
        generalize wr.alloc (.cells #[.int .i64 x, .bool false] 60) = w1 at *
        have KEEP : Hid (∀ W : World, Below w1.heap.size w1 W → W.cell? ⟨w.heap.size, 0, none⟩ = some (.slice o0 n0 c0) ∧ W.cell? ⟨w.heap.size, 1, none⟩ = some (.slice o1 n1 c1) ∧ W.cell? ⟨w.heap.size, 2, none⟩ = some (.slice o2 n2 c2) ∧ W.cell? ⟨w.heap.size, 3, none⟩ = some (.slice o3 n3 c3) ∧ W.cell? ⟨wr.heap.size, 0, none⟩ = some (.int .i64 x) ∧ W.cell? ⟨wr.heap.size, 1, none⟩ = some (.bool false)) := fun W hW => by
          have up : ∀ {p : Addr} {u : Value}, w1.cell? p = some u → W.cell? p = some u := fun h => (hW.cell (World.block_lt_of_cell? _ _ h)).trans h
          exact ⟨up q0', up q1', up q2', up q3', up k0, up k1⟩
        have HB1 : Hid (Below w1.heap.size w1 w1.drew) := (Below.refl _ _).drew
        have HAL : Hid (Below wr.heap.size wr w1) := hal
        have HO1 : Hid (w1.ownsRow (w.heap.size + 1) 9 1 u7 (k + 1) cells) := own1
        have HSZ : Hid (w.heap.size + 1 ≤ w1.heap.size) := by
          have := HBX.out.lt
          have := hal.size
          show _ ≤ _
          omega
        clear q0' q1' q2' q3' k0 k1 own1 hal hown hsz1
        go_region_held_law (fun W => W.cell? ⟨w.heap.size, 0, none⟩ = some (.slice o0 n0 c0) ∧ W.cell? ⟨w.heap.size, 1, none⟩ = some (.slice o1 n1 c1) ∧ W.cell? ⟨w.heap.size, 2, none⟩ = some (.slice o2 n2 c2) ∧ W.cell? ⟨w.heap.size, 3, none⟩ = some (.slice o3 n3 c3) ∧ W.cell? ⟨wr.heap.size, 0, none⟩ = some (.int .i64 x) ∧ W.cell? ⟨wr.heap.size, 1, none⟩ = some (.bool false)) (first | exact KEEP.out _ HB1.out | exact KEEP.out _ HB2.out | exact KEEP.out _ HB3.out | exact KEEP.out _ HB4.out | exact HK5.out) (first
          | (go_at_call 41; refine (PN.out _ (HAL.out.trans (HB1.out.mono HAL.out.size))).mono ?_; rintro e w2 ⟨rfl, hb2⟩; have HB2 : Hid (Below w1.heap.size w1 w2) := HB1.out.trans (hb2.mono HB1.out.size); clear hb2)
          | (go_at_call 42; refine (sign_any x false w2).mono ?_; rintro e w3 ⟨rfl, hb3⟩; have HB3 : Hid (Below w1.heap.size w1 w3) := HB2.out.trans (hb3.mono HB2.out.size); have HB4 : Hid (Below w1.heap.size w1 (w3.alloc (.cells #[.string (pn ++ ⟨#[43]⟩)] 9))) := HB3.out.alloc HB3.out.size _; have HO3 : Hid (w3.ownsRow (w.heap.size + 1) 9 1 u7 (k + 1) cells) := owns_below HO1.out HB3.out; clear hb3)
          | (refine step_append_own rfl (.tmp 21) (.tmp 30) 22 rfl (w.heap.size + 1) 9 i0 (.string ⟨#[]⟩) 1 16 Tryd.underlying22 hii hz0 hz1 hz2 rfl (by decide) u7 (k + 1) cells (by simp [Act.eval]) (HO3.out.alloc _) ⟨w3.heap.size, 0, none⟩ 1 1 [.string (pn ++ ⟨#[43]⟩)] (by simp [Act.eval]) rfl (cell_one_new _ _ _) (one_str _) (by unfold maxLen; omega) (by omega) (by have := HSZ.out; have := HB3.out.size; simp; omega) ?_; intro v' w4 hown4 hg4 hat4; have HO4 : Hid (w4.ownsRow (w.heap.size + 1) 9 1 v' (k + 1 + 1) (cells ++ [.string (pn ++ ⟨#[43]⟩)])) := hown4; have HX4 : Hid ((w3.alloc (.cells #[.string (pn ++ ⟨#[43]⟩)] 9)).grownBy w4 u7.ownBlock) := hg4; have HK5 : Hid (w4.cell? ⟨w.heap.size, 0, none⟩ = some (.slice o0 n0 c0) ∧ w4.cell? ⟨w.heap.size, 1, none⟩ = some (.slice o1 n1 c1) ∧ w4.cell? ⟨w.heap.size, 2, none⟩ = some (.slice o2 n2 c2) ∧ w4.cell? ⟨w.heap.size, 3, none⟩ = some (.slice o3 n3 c3) ∧ w4.cell? ⟨wr.heap.size, 0, none⟩ = some (.int .i64 x) ∧ w4.cell? ⟨wr.heap.size, 1, none⟩ = some (.bool false)) := (by have kk := KEEP.out _ HB4.out; have nb := fun (b : Nat) (hb : b < w.heap.size + 1) (e : u7.ownBlock = some b) => Nat.not_le_of_lt hb (HO1.out.lt b e).1; have nn := fun (e : u7.ownBlock = some wr.heap.size) => Nat.lt_irrefl _ (HOW.out.lt _ e).2; exact ⟨hg4.cell kk.1 (fun e => nb _ (by simp) e.symm), hg4.cell kk.2.1 (fun e => nb _ (by simp) e.symm), hg4.cell kk.2.2.1 (fun e => nb _ (by simp) e.symm), hg4.cell kk.2.2.2.1 (fun e => nb _ (by simp) e.symm), hg4.cell kk.2.2.2.2.1 (fun e => nn e.symm), hg4.cell kk.2.2.2.2.2 (fun e => nn e.symm)⟩); clear hown4 hg4 hat4))
        go_wp2
        go_roundg (nu - (k + 1))
        case rel => exact ⟨k + 1, rfl, by omega, by go_num, by rw [HTK.out]; exact HO4.out, ((HBX.out.step HAL.out).step HB3.out).append HO3.out HX4.out⟩
        case measure => omega
      · rw [show (if true = true then (⟨#[45]⟩ : ByteArray) else ⟨#[43]⟩) = ⟨#[45]⟩ from rfl] at HTK
        have henc : Utf8.encode 45 = ⟨#[45]⟩ := by decide +kernel
        have hez : (⟨#[45]⟩ : ByteArray).size = 1 := rfl
        go_wp2_with fail
        have q0' := (hal.cell (World.block_lt_of_cell? _ _ q0)).trans q0
        have q1' := (hal.cell (World.block_lt_of_cell? _ _ q1)).trans q1
        have q2' := (hal.cell (World.block_lt_of_cell? _ _ q2)).trans q2
        have q3' := (hal.cell (World.block_lt_of_cell? _ _ q3)).trans q3
        have k0 : (wr.alloc (.cells #[.int .i64 x, .bool true] 60)).cell? ⟨wr.heap.size, 0, none⟩ = some (.int .i64 x) := by simp
        have k1 : (wr.alloc (.cells #[.int .i64 x, .bool true] 60)).cell? ⟨wr.heap.size, 1, none⟩ = some (.bool true) := by simp
        have hsz1 : wr.heap.size < (wr.alloc (.cells #[.int .i64 x, .bool true] 60)).heap.size := by simp
        have own1 := owns_below hown hal
        generalize wr.alloc (.cells #[.int .i64 x, .bool true] 60) = w1 at *
        have KEEP : Hid (∀ W : World, Below w1.heap.size w1 W → W.cell? ⟨w.heap.size, 0, none⟩ = some (.slice o0 n0 c0) ∧ W.cell? ⟨w.heap.size, 1, none⟩ = some (.slice o1 n1 c1) ∧ W.cell? ⟨w.heap.size, 2, none⟩ = some (.slice o2 n2 c2) ∧ W.cell? ⟨w.heap.size, 3, none⟩ = some (.slice o3 n3 c3) ∧ W.cell? ⟨wr.heap.size, 0, none⟩ = some (.int .i64 x) ∧ W.cell? ⟨wr.heap.size, 1, none⟩ = some (.bool true)) := fun W hW => by
          have up : ∀ {p : Addr} {u : Value}, w1.cell? p = some u → W.cell? p = some u := fun h => (hW.cell (World.block_lt_of_cell? _ _ h)).trans h
          exact ⟨up q0', up q1', up q2', up q3', up k0, up k1⟩
        have HB1 : Hid (Below w1.heap.size w1 w1.drew) := (Below.refl _ _).drew
        have HAL : Hid (Below wr.heap.size wr w1) := hal
        have HO1 : Hid (w1.ownsRow (w.heap.size + 1) 9 1 u7 (k + 1) cells) := own1
        have HSZ : Hid (w.heap.size + 1 ≤ w1.heap.size) := by
          have := HBX.out.lt
          have := hal.size
          show _ ≤ _
          omega
        clear q0' q1' q2' q3' k0 k1 own1 hal hown hsz1
        go_region_held_law (fun W => W.cell? ⟨w.heap.size, 0, none⟩ = some (.slice o0 n0 c0) ∧ W.cell? ⟨w.heap.size, 1, none⟩ = some (.slice o1 n1 c1) ∧ W.cell? ⟨w.heap.size, 2, none⟩ = some (.slice o2 n2 c2) ∧ W.cell? ⟨w.heap.size, 3, none⟩ = some (.slice o3 n3 c3) ∧ W.cell? ⟨wr.heap.size, 0, none⟩ = some (.int .i64 x) ∧ W.cell? ⟨wr.heap.size, 1, none⟩ = some (.bool true)) (first | exact KEEP.out _ HB1.out | exact KEEP.out _ HB2.out | exact KEEP.out _ HB3.out | exact KEEP.out _ HB4.out | exact HK5.out) (first
          | (go_at_call 41; refine (PN.out _ (HAL.out.trans (HB1.out.mono HAL.out.size))).mono ?_; rintro e w2 ⟨rfl, hb2⟩; have HB2 : Hid (Below w1.heap.size w1 w2) := HB1.out.trans (hb2.mono HB1.out.size); clear hb2)
          | (go_at_call 42; refine (sign_any x true w2).mono ?_; rintro e w3 ⟨rfl, hb3⟩; have HB3 : Hid (Below w1.heap.size w1 w3) := HB2.out.trans (hb3.mono HB2.out.size); have HB4 : Hid (Below w1.heap.size w1 (w3.alloc (.cells #[.string (pn ++ ⟨#[45]⟩)] 9))) := HB3.out.alloc HB3.out.size _; have HO3 : Hid (w3.ownsRow (w.heap.size + 1) 9 1 u7 (k + 1) cells) := owns_below HO1.out HB3.out; clear hb3)
          | (refine step_append_own rfl (.tmp 21) (.tmp 30) 22 rfl (w.heap.size + 1) 9 i0 (.string ⟨#[]⟩) 1 16 Tryd.underlying22 hii hz0 hz1 hz2 rfl (by decide) u7 (k + 1) cells (by simp [Act.eval]) (HO3.out.alloc _) ⟨w3.heap.size, 0, none⟩ 1 1 [.string (pn ++ ⟨#[45]⟩)] (by simp [Act.eval]) rfl (cell_one_new _ _ _) (one_str _) (by unfold maxLen; omega) (by omega) (by have := HSZ.out; have := HB3.out.size; simp; omega) ?_; intro v' w4 hown4 hg4 hat4; have HO4 : Hid (w4.ownsRow (w.heap.size + 1) 9 1 v' (k + 1 + 1) (cells ++ [.string (pn ++ ⟨#[45]⟩)])) := hown4; have HX4 : Hid ((w3.alloc (.cells #[.string (pn ++ ⟨#[45]⟩)] 9)).grownBy w4 u7.ownBlock) := hg4; have HK5 : Hid (w4.cell? ⟨w.heap.size, 0, none⟩ = some (.slice o0 n0 c0) ∧ w4.cell? ⟨w.heap.size, 1, none⟩ = some (.slice o1 n1 c1) ∧ w4.cell? ⟨w.heap.size, 2, none⟩ = some (.slice o2 n2 c2) ∧ w4.cell? ⟨w.heap.size, 3, none⟩ = some (.slice o3 n3 c3) ∧ w4.cell? ⟨wr.heap.size, 0, none⟩ = some (.int .i64 x) ∧ w4.cell? ⟨wr.heap.size, 1, none⟩ = some (.bool true)) := (by have kk := KEEP.out _ HB4.out; have nb := fun (b : Nat) (hb : b < w.heap.size + 1) (e : u7.ownBlock = some b) => Nat.not_le_of_lt hb (HO1.out.lt b e).1; have nn := fun (e : u7.ownBlock = some wr.heap.size) => Nat.lt_irrefl _ (HOW.out.lt _ e).2; exact ⟨hg4.cell kk.1 (fun e => nb _ (by simp) e.symm), hg4.cell kk.2.1 (fun e => nb _ (by simp) e.symm), hg4.cell kk.2.2.1 (fun e => nb _ (by simp) e.symm), hg4.cell kk.2.2.2.1 (fun e => nb _ (by simp) e.symm), hg4.cell kk.2.2.2.2.1 (fun e => nn e.symm), hg4.cell kk.2.2.2.2.2 (fun e => nn e.symm)⟩); clear hown4 hg4 hat4))
        go_wp2
        go_roundg (nu - (k + 1))
        case rel => exact ⟨k + 1, rfl, by omega, by go_num, by rw [HTK.out]; exact HO4.out, ((HBX.out.step HAL.out).step HB3.out).append HO3.out HX4.out⟩
        case measure => omega
    · have hki : ¬ (k : Int) < (nu : Int) := by omega
      have HO : Hid (wr.ownsRow (w.heap.size + 1) 9 1 u7 (nu + 1) (.string t :: (ns.map fun n => Value.string (wantW (wantOf l n))))) := by
        have := hown
        rw [take_all HSU.out (by omega), show k = nu by omega] at this
        exact this
      clear hown
      go_wp2
      go_ret
      exact ⟨_, rfl, HO.out, hbl⟩
end Go.Proofs.YtgiaicmhnkhbnaaDoor
