/-
  Texts of this proof, joined: PlFind, PlFind2, PlLay, LyEq, LyIn, LyRows.
-/
import Derived.Test.YtgiaicmhnkhbnaaDoorJoin2
import Derived.Laws.StructEq
import Derived.Deep.LoopGhost
import Derived.Deep.QuietTactic
import Derived.BigQuiet
namespace Go.Proofs.YtgiaicmhnkhbnaaDoor
open Go.RowKit

def idxBy {α : Type} (p : α → Bool) : List α → Nat → Int
  | [], _ => -1
  | y :: l, k => if p y = true then (k : Int) else idxBy p l (k + 1)
theorem idxBy_any {α : Type} (p : α → Bool) : ∀ (l : List α) (k : Nat), decide (0 ≤ idxBy p l k) = l.any p
  | [], _ => rfl
  | y :: l, k => by
    rw [idxBy, List.any_cons]
    cases h : p y
    · rw [if_neg (by simp), idxBy_any p l (k + 1)]; rfl
    · rw [if_pos rfl]; simp
theorem idxBy_map {α : Type} (f : α → ByteArray) (x : ByteArray) : ∀ (l : List α) (k : Nat), idxBy (fun y => decide (f y = x)) l k = idxF x (l.map f) k
  | [], _ => rfl
  | y :: l, k => by
    rw [idxBy, List.map_cons, idxF, idxBy_map f x l (k + 1)]
    by_cases h : f y = x
    · rw [if_pos (by simp [h]), if_pos h.symm]
    · rw [if_neg (by simp [h]), if_neg (fun e => h e.symm)]

set_option maxHeartbeats 400000 in
theorem pointIs_any (nm x : ByteArray) (sec : Int) (B : Nat) (w : World) (hB : w.cell? ⟨B, 0, none⟩ = some (.string x)) :
    Calls Tryd.prog 74 #[.agg #[.string nm, .int .i64 sec], .pointer (some ⟨B, 0, none⟩)] w fun e w' => e = .returned (.bool (decide (nm = x))) ∧ Below w.heap.size w w' := by
  have hB' : (w.alloc (.cells #[.string nm, .int .i64 sec] 33)).cell? ⟨B, 0, none⟩ = some (.string x) := (((Below.refl _ w).alloc (Nat.le_refl _) _).cell (p := ⟨B, 0, none⟩) (World.block_lt_of_cell? w _ hB)).trans hB
  have HE : Hid ((nm.toList == x.toList) = decide (nm = x)) := toList_eq _ _
  go_enter Tryd.func74, Tryd.ntmps74
  go_wp2
  go_ret
  exact ⟨ret_bool HE.out, (Below.refl _ _).alloc (Nat.le_refl _) _⟩
set_option maxHeartbeats 400000 in
theorem routeIs_any (nm x : ByteArray) (a b : Int) (v0 v1 v2 : Value) (s0 : ∃ o n c, v0 = .slice o n c) (s1 : ∃ o n c, v1 = .slice o n c) (s2 : ∃ o n c, v2 = .slice o n c) (B : Nat) (w : World) (hB : w.cell? ⟨B, 0, none⟩ = some (.string x)) :
    Calls Tryd.prog 79 #[.agg #[.string nm, .int .i64 a, .int .i64 b, v0, v1, v2], .pointer (some ⟨B, 0, none⟩)] w fun e w' => e = .returned (.bool (decide (nm = x))) ∧ Below w.heap.size w w' := by
  obtain ⟨o0, n0, k0, rfl⟩ := s0
  obtain ⟨o1, n1, k1, rfl⟩ := s1
  obtain ⟨o2, n2, k2, rfl⟩ := s2
  have hB' : (w.alloc (.cells #[.string nm, .int .i64 a, .int .i64 b, .slice o0 n0 k0, .slice o1 n1 k1, .slice o2 n2 k2] 37)).cell? ⟨B, 0, none⟩ = some (.string x) := (((Below.refl _ w).alloc (Nat.le_refl _) _).cell (p := ⟨B, 0, none⟩) (World.block_lt_of_cell? w _ hB)).trans hB
  have HE : Hid ((nm.toList == x.toList) = decide (nm = x)) := toList_eq _ _
  go_enter Tryd.func79, Tryd.ntmps79
  go_wp2
  go_ret
  exact ⟨ret_bool HE.out, (Below.refl _ _).alloc (Nat.le_refl _) _⟩
set_option maxHeartbeats 400000 in
theorem noPoint_any (n : Int) (b : Bool) (w : World) :
    Calls Tryd.prog 80 #[.agg #[.int .i64 n, .bool b]] w fun e w' => e = .returned (.bool (decide (n = -1))) ∧ Below w.heap.size w w' := by
  have HE : Hid ((n == -1) = decide (n = -1)) := by rw [Hid, Bool.eq_iff_iff]; simp
  go_enter Tryd.func80, Tryd.ntmps80
  go_wp2
  go_ret
  exact ⟨ret_bool HE.out, (Below.refl _ _).alloc (Nat.le_refl _) _⟩

set_option maxRecDepth 1000000 in
set_option maxHeartbeats 1000000 in
theorem idxPoint_any (v : Value) (l : List (ByteArray × Int)) (x : ByteArray) (B : Nat) (w : World) (h : rowAt w v 2 pC l) (hl : l.length ≤ 4294967296) (hB : w.cell? ⟨B, 0, none⟩ = some (.string x)) :
    Calls Tryd.prog 73 #[v, .func (.func 74) #[] #[.pointer (some ⟨B, 0, none⟩)]] w fun e w' => e = .returned (.int .i64 (idxBy (fun y => decide (y.1 = x)) l 0)) ∧ Below w.heap.size w w' := by
  obtain ⟨oa, cap, rfl, h2⟩ := h
  have H2 : Hid (∀ j y, l[j]? = some y → ∃ g off, oa = some ⟨g, off, none⟩ ∧ ∀ i u, (pC y)[i]? = some u → w.cell? ⟨g, off + j * 2 + i, none⟩ = some u) := h2
  clear h2
  have HI : Hid (idxBy (fun y => decide (y.1 = x)) l 0 = idxBy (fun y => decide (y.1 = x)) l 0) := rfl
  generalize hans : idxBy (fun y => decide (y.1 = x)) l 0 = ans at *
  have HA : Hid (idxBy (fun y => decide (y.1 = x)) l 0 = ans) := hans
  clear HI hans
  generalize hn : l.length = n at *
  have HN : Hid (l.length = n) := hn
  clear hn
  go_enter Tryd.func73, Tryd.ntmps73
  go_wp2
  go_loopw [5, 8] (fun _ i wr => ∃ k : Nat, i = .int .i64 k ∧ k ≤ n ∧ idxBy (fun y => decide (y.1 = x)) (l.drop k) k = ans ∧ Below w.heap.size w wr) (fun _ i _ => n - (intOf i).toNat)
  case atStart => exact ⟨0, rfl, by omega, by rw [List.drop_zero]; exact HA.out, Below.refl _ _⟩
  case round =>
    obtain ⟨k, rfl, hk, hc, hbl⟩ := hrel
    have HC : Hid (idxBy (fun y => decide (y.1 = x)) (l.drop k) k = ans) := hc
    clear hc
    by_cases hlt : k < n
    · obtain ⟨y, hy⟩ : ∃ y, l[k]? = some y := ⟨l[k]'(by rw [HN.out]; exact hlt), List.getElem?_eq_getElem _⟩
      obtain ⟨g, off, rfl, hcell⟩ := H2.out k y hy
      have c0 := (hbl.cell (p := ⟨g, off + k * 2 + 0, none⟩) (World.block_lt_of_cell? w _ (hcell 0 _ rfl))).trans (hcell 0 _ rfl)
      have c1 := (hbl.cell (p := ⟨g, off + k * 2 + 1, none⟩) (World.block_lt_of_cell? w _ (hcell 1 _ rfl))).trans (hcell 1 _ rfl)
      simp only [Nat.add_zero] at c0 c1
      rw [drop_at hy, idxBy] at HC
      clear hcell hy
      have P := fun W => pointIs_any y.1 x y.2 B W
      generalize hp : decide (y.1 = x) = b at *
      cases b
      · rw [if_neg (by simp)] at HC
        go_wp2_with fail
        refine (P _ ((hbl.cell (p := ⟨B, 0, none⟩) (World.block_lt_of_cell? w _ hB)).trans hB)).mono ?_
        rintro e w2 ⟨rfl, hb2⟩
        have hbl2 : Below w.heap.size w w2 := hbl.trans (hb2.mono hbl.size)
        clear hb2 P
        go_wp2
        go_roundw
        case rel => exact ⟨k + 1, by go_num, by omega, HC.out, hbl2⟩
        case measure => simp [intOf]; omega
      · rw [if_pos rfl] at HC
        go_wp2_with fail
        refine (P _ ((hbl.cell (p := ⟨B, 0, none⟩) (World.block_lt_of_cell? w _ hB)).trans hB)).mono ?_
        rintro e w2 ⟨rfl, hb2⟩
        have hbl2 : Below w.heap.size w w2 := hbl.trans (hb2.mono hbl.size)
        clear hb2 P
        go_wp2
        go_ret
        exact ⟨by rw [← HC.out]; rfl, hbl2⟩
    · have h1 := HC.out
      rw [List.drop_of_length_le (by rw [HN.out]; omega), idxBy] at h1
      have H1 : Hid (-1 = ans) := h1
      clear h1
      go_wp2
      go_ret
      exact ⟨by rw [← H1.out]; rfl, hbl⟩

set_option maxRecDepth 1000000 in
set_option maxHeartbeats 1000000 in
theorem idxNeed_any (v : Value) (l : List (Int × Bool)) (w : World) (h : rowAt w v 2 nC l) (hl : l.length ≤ 4294967296) :
    Calls Tryd.prog 93 #[v, .func (.func 80) #[] #[]] w fun e w' => e = .returned (.int .i64 (idxBy (fun y => decide (y.1 = -1)) l 0)) ∧ Below w.heap.size w w' := by
  obtain ⟨oa, cap, rfl, h2⟩ := h
  have H2 : Hid (∀ j y, l[j]? = some y → ∃ g off, oa = some ⟨g, off, none⟩ ∧ ∀ i u, (nC y)[i]? = some u → w.cell? ⟨g, off + j * 2 + i, none⟩ = some u) := h2
  clear h2
  have HI : Hid (idxBy (fun y => decide (y.1 = -1)) l 0 = idxBy (fun y => decide (y.1 = -1)) l 0) := rfl
  generalize hans : idxBy (fun y => decide (y.1 = -1)) l 0 = ans at *
  have HA : Hid (idxBy (fun y => decide (y.1 = -1)) l 0 = ans) := hans
  clear HI hans
  generalize hn : l.length = n at *
  have HN : Hid (l.length = n) := hn
  clear hn
  go_enter Tryd.func93, Tryd.ntmps93
  go_wp2
  go_loopw [5, 8] (fun _ i wr => ∃ k : Nat, i = .int .i64 k ∧ k ≤ n ∧ idxBy (fun y => decide (y.1 = -1)) (l.drop k) k = ans ∧ Below w.heap.size w wr) (fun _ i _ => n - (intOf i).toNat)
  case atStart => exact ⟨0, rfl, by omega, by rw [List.drop_zero]; exact HA.out, Below.refl _ _⟩
  case round =>
    obtain ⟨k, rfl, hk, hc, hbl⟩ := hrel
    have HC : Hid (idxBy (fun y => decide (y.1 = -1)) (l.drop k) k = ans) := hc
    clear hc
    by_cases hlt : k < n
    · obtain ⟨y, hy⟩ : ∃ y, l[k]? = some y := ⟨l[k]'(by rw [HN.out]; exact hlt), List.getElem?_eq_getElem _⟩
      obtain ⟨g, off, rfl, hcell⟩ := H2.out k y hy
      have c0 := (hbl.cell (p := ⟨g, off + k * 2 + 0, none⟩) (World.block_lt_of_cell? w _ (hcell 0 _ rfl))).trans (hcell 0 _ rfl)
      have c1 := (hbl.cell (p := ⟨g, off + k * 2 + 1, none⟩) (World.block_lt_of_cell? w _ (hcell 1 _ rfl))).trans (hcell 1 _ rfl)
      simp only [Nat.add_zero] at c0 c1
      rw [drop_at hy, idxBy] at HC
      clear hcell hy
      have P := fun W => noPoint_any y.1 y.2 W
      generalize hp : decide (y.1 = -1) = b at *
      cases b
      · rw [if_neg (by simp)] at HC
        go_wp2_with fail
        refine (P _).mono ?_
        rintro e w2 ⟨rfl, hb2⟩
        have hbl2 : Below w.heap.size w w2 := hbl.trans (hb2.mono hbl.size)
        clear hb2 P
        go_wp2
        go_roundw
        case rel => exact ⟨k + 1, by go_num, by omega, HC.out, hbl2⟩
        case measure => simp [intOf]; omega
      · rw [if_pos rfl] at HC
        go_wp2_with fail
        refine (P _).mono ?_
        rintro e w2 ⟨rfl, hb2⟩
        have hbl2 : Below w.heap.size w w2 := hbl.trans (hb2.mono hbl.size)
        clear hb2 P
        go_wp2
        go_ret
        exact ⟨by rw [← HC.out]; rfl, hbl2⟩
    · have h1 := HC.out
      rw [List.drop_of_length_le (by rw [HN.out]; omega), idxBy] at h1
      have H1 : Hid (-1 = ans) := h1
      clear h1
      go_wp2
      go_ret
      exact ⟨by rw [← H1.out]; rfl, hbl⟩

set_option maxRecDepth 1000000 in
set_option maxHeartbeats 1000000 in
theorem idxRoute_any (v : Value) (l : List RtV) (x : ByteArray) (B : Nat) (w : World) (h : rowAt w v 6 rC l) (hl : l.length ≤ 4294967296) (hB : w.cell? ⟨B, 0, none⟩ = some (.string x)) (hsl : ∀ y ∈ l, (∃ o n c, y.2.1 = .slice o n c) ∧ (∃ o n c, y.2.2.1 = .slice o n c) ∧ ∃ o n c, y.2.2.2 = .slice o n c) :
    Calls Tryd.prog 91 #[v, .func (.func 79) #[] #[.pointer (some ⟨B, 0, none⟩)]] w fun e w' => e = .returned (.int .i64 (idxBy (fun y => decide (y.1.name = x)) l 0)) ∧ Below w.heap.size w w' := by
  have HSL : Hid (∀ y ∈ l, (∃ o n c, y.2.1 = .slice o n c) ∧ (∃ o n c, y.2.2.1 = .slice o n c) ∧ ∃ o n c, y.2.2.2 = .slice o n c) := hsl
  clear hsl
  obtain ⟨oa, cap, rfl, h2⟩ := h
  have H2 : Hid (∀ j y, l[j]? = some y → ∃ g off, oa = some ⟨g, off, none⟩ ∧ ∀ i u, (rC y)[i]? = some u → w.cell? ⟨g, off + j * 6 + i, none⟩ = some u) := h2
  clear h2
  have HI : Hid (idxBy (fun y => decide (y.1.name = x)) l 0 = idxBy (fun y => decide (y.1.name = x)) l 0) := rfl
  generalize hans : idxBy (fun y => decide (y.1.name = x)) l 0 = ans at *
  have HA : Hid (idxBy (fun y => decide (y.1.name = x)) l 0 = ans) := hans
  clear HI hans
  generalize hn : l.length = n at *
  have HN : Hid (l.length = n) := hn
  clear hn
  go_enter Tryd.func91, Tryd.ntmps91
  go_wp2
  go_loopw [5, 8] (fun _ i wr => ∃ k : Nat, i = .int .i64 k ∧ k ≤ n ∧ idxBy (fun y => decide (y.1.name = x)) (l.drop k) k = ans ∧ Below w.heap.size w wr) (fun _ i _ => n - (intOf i).toNat)
  case atStart => exact ⟨0, rfl, by omega, by rw [List.drop_zero]; exact HA.out, Below.refl _ _⟩
  case round =>
    obtain ⟨k, rfl, hk, hc, hbl⟩ := hrel
    have HC : Hid (idxBy (fun y => decide (y.1.name = x)) (l.drop k) k = ans) := hc
    clear hc
    by_cases hlt : k < n
    · obtain ⟨y, hy⟩ : ∃ y, l[k]? = some y := ⟨l[k]'(by rw [HN.out]; exact hlt), List.getElem?_eq_getElem _⟩
      obtain ⟨g, off, rfl, hcell⟩ := H2.out k y hy
      have hin := HSL.out y (List.mem_of_getElem? hy)
      obtain ⟨rt, z0, z1, z2⟩ := y
      simp only at hin
      obtain ⟨⟨o0, n0, k0, rfl⟩, ⟨o1, n1, k1, rfl⟩, ⟨o2, n2, k2, rfl⟩⟩ := hin
      have c0 := (hbl.cell (p := ⟨g, off + k * 6 + 0, none⟩) (World.block_lt_of_cell? w _ (hcell 0 _ rfl))).trans (hcell 0 _ rfl)
      have c1 := (hbl.cell (p := ⟨g, off + k * 6 + 1, none⟩) (World.block_lt_of_cell? w _ (hcell 1 _ rfl))).trans (hcell 1 _ rfl)
      have c2 := (hbl.cell (p := ⟨g, off + k * 6 + 2, none⟩) (World.block_lt_of_cell? w _ (hcell 2 _ rfl))).trans (hcell 2 _ rfl)
      have c3 := (hbl.cell (p := ⟨g, off + k * 6 + 3, none⟩) (World.block_lt_of_cell? w _ (hcell 3 _ rfl))).trans (hcell 3 _ rfl)
      have c4 := (hbl.cell (p := ⟨g, off + k * 6 + 4, none⟩) (World.block_lt_of_cell? w _ (hcell 4 _ rfl))).trans (hcell 4 _ rfl)
      have c5 := (hbl.cell (p := ⟨g, off + k * 6 + 5, none⟩) (World.block_lt_of_cell? w _ (hcell 5 _ rfl))).trans (hcell 5 _ rfl)
      simp only [Nat.add_zero] at c0 c1 c2 c3 c4 c5
      rw [drop_at hy, idxBy] at HC
      clear hcell hy
      have P := fun W => routeIs_any rt.name x rt.frm rt.to (.slice o0 n0 k0) (.slice o1 n1 k1) (.slice o2 n2 k2) ⟨_, _, _, rfl⟩ ⟨_, _, _, rfl⟩ ⟨_, _, _, rfl⟩ B W
      generalize hp : decide (rt.name = x) = b at *
      cases b
      · rw [if_neg (by simp)] at HC
        go_wp2_with fail
        refine (P _ ((hbl.cell (p := ⟨B, 0, none⟩) (World.block_lt_of_cell? w _ hB)).trans hB)).mono ?_
        rintro e w2 ⟨rfl, hb2⟩
        have hbl2 : Below w.heap.size w w2 := hbl.trans (hb2.mono hbl.size)
        clear hb2 P
        go_wp2
        go_roundw
        case rel => exact ⟨k + 1, by go_num, by omega, HC.out, hbl2⟩
        case measure => simp [intOf]; omega
      · rw [if_pos rfl] at HC
        go_wp2_with fail
        refine (P _ ((hbl.cell (p := ⟨B, 0, none⟩) (World.block_lt_of_cell? w _ hB)).trans hB)).mono ?_
        rintro e w2 ⟨rfl, hb2⟩
        have hbl2 : Below w.heap.size w w2 := hbl.trans (hb2.mono hbl.size)
        clear hb2 P
        go_wp2
        go_ret
        exact ⟨by rw [← HC.out]; rfl, hbl2⟩
    · have h1 := HC.out
      rw [List.drop_of_length_le (by rw [HN.out]; omega), idxBy] at h1
      have H1 : Hid (-1 = ans) := h1
      clear h1
      go_wp2
      go_ret
      exact ⟨by rw [← H1.out]; rfl, hbl⟩

end Go.Proofs.YtgiaicmhnkhbnaaDoor

namespace Go.Proofs.YtgiaicmhnkhbnaaDoor
open Go.RowKit

set_option maxHeartbeats 400000 in
theorem pointAt_any (L : Nat) (vP : Value) (l : List (ByteArray × Int)) (x : ByteArray) (w : World) (hL : w.cell? ⟨L, 1, none⟩ = some vP) (h : rowAt w vP 2 pC l) (hl : l.length ≤ 4294967296) :
    Calls Tryd.prog 61 #[.pointer (some ⟨L, 0, none⟩), .string x] w fun e w' => e = .returned (.int .i64 (idx (l.map (·.1)) x)) ∧ Below w.heap.size w w' := by
  have hb : Below w.heap.size w (w.alloc (.cells #[.string x] 9)) := (Below.refl _ _).alloc (Nat.le_refl _) _
  have C := idxPoint_any vP l x w.heap.size _ (h.below hb) hl (by simp)
  rw [idxBy_map] at C
  have D : Hid (Calls Tryd.prog 73 #[vP, .func (.func 74) #[] #[.pointer (some ⟨w.heap.size, 0, none⟩)]] (w.alloc (.cells #[.string x] 9)) fun e w' => e = .returned (.int .i64 (idx (l.map (·.1)) x)) ∧ Below (w.alloc (.cells #[.string x] 9)).heap.size (w.alloc (.cells #[.string x] 9)) w') := C
  clear C
  generalize idx (l.map (·.1)) x = n at *
  obtain ⟨oa, cap, rfl, _⟩ := h
  have hL' : (w.alloc (.cells #[.string x] 9)).cell? ⟨L, 1, none⟩ = some (.slice oa l.length cap) := (hb.cell (p := ⟨L, 1, none⟩) (World.block_lt_of_cell? w _ hL)).trans hL
  generalize l.length = m at *
  have HB : Hid (Below w.heap.size w (w.alloc (.cells #[.string x] 9))) := hb
  clear hb hL
  go_enter Tryd.func61, Tryd.ntmps61
  go_wp2_with fail
  refine D.out.mono ?_
  rintro e w1 ⟨rfl, hb1⟩
  go_wp2
  go_ret
  exact ⟨rfl, HB.out.trans (hb1.mono HB.out.size)⟩

set_option maxHeartbeats 400000 in
theorem hasRoute_any (L : Nat) (vR : Value) (l : List RtV) (x : ByteArray) (w : World) (hL : w.cell? ⟨L, 3, none⟩ = some vR) (h : rowAt w vR 6 rC l) (hl : l.length ≤ 4294967296)
    (hsl : ∀ y ∈ l, (∃ o n c, y.2.1 = .slice o n c) ∧ (∃ o n c, y.2.2.1 = .slice o n c) ∧ ∃ o n c, y.2.2.2 = .slice o n c) :
    Calls Tryd.prog 64 #[.pointer (some ⟨L, 0, none⟩), .string x] w fun e w' => e = .returned (.bool (l.any fun y => decide (y.1.name = x))) ∧ Below w.heap.size w w' := by
  have hb : Below w.heap.size w (w.alloc (.cells #[.string x] 9)) := (Below.refl _ _).alloc (Nat.le_refl _) _
  have D : Hid (∀ W, W = w.alloc (.cells #[.string x] 9) → Calls Tryd.prog 78 #[vR, .func (.func 79) #[] #[.pointer (some ⟨w.heap.size, 0, none⟩)]] W fun e w' => e = .returned (.bool (l.any fun y => decide (y.1.name = x))) ∧ Below W.heap.size W w') := by
    intro W hW
    have C := idxRoute_any vR l x w.heap.size W (by rw [hW]; exact h.below hb) hl (by rw [hW]; simp) hsl
    have HY : Hid (decide (0 ≤ idxBy (fun y : RtV => decide (y.1.name = x)) l 0) = l.any fun y => decide (y.1.name = x)) := idxBy_any _ _ _
    rw [← HY.out]
    generalize idxBy (fun y : RtV => decide (y.1.name = x)) l 0 = n at *
    clear HY h hsl hb hL hW
    go_enter Tryd.func78, Tryd.ntmps78
    go_wp2_with fail
    refine C.mono ?_
    rintro e w1 ⟨rfl, hb1⟩
    go_wp2
    go_ret
    exact ⟨rfl, hb1⟩
  generalize (l.any fun y => decide (y.1.name = x)) = b at *
  obtain ⟨oa, cap, rfl, _⟩ := h
  have hL' : (w.alloc (.cells #[.string x] 9)).cell? ⟨L, 3, none⟩ = some (.slice oa l.length cap) := (hb.cell (p := ⟨L, 3, none⟩) (World.block_lt_of_cell? w _ hL)).trans hL
  clear hsl
  generalize l.length = m at *
  have HB : Hid (Below w.heap.size w (w.alloc (.cells #[.string x] 9))) := hb
  clear hb hL
  go_enter Tryd.func64, Tryd.ntmps64
  go_wp2_with fail
  refine (D.out _ rfl).mono ?_
  rintro e w1 ⟨rfl, hb1⟩
  go_wp2
  go_ret
  exact ⟨rfl, HB.out.trans (hb1.mono HB.out.size)⟩

set_option maxHeartbeats 400000 in
theorem hasNone_any (v : Value) (l : List (Int × Bool)) (w : World) (h : rowAt w v 2 nC l) (hl : l.length ≤ 4294967296) :
    Calls Tryd.prog 82 #[v, .func (.func 80) #[] #[]] w fun e w' => e = .returned (.bool (l.any fun n => decide (n.1 = -1))) ∧ Below w.heap.size w w' := by
  have C := idxNeed_any v l w h hl
  have HY : Hid (decide (0 ≤ idxBy (fun y : Int × Bool => decide (y.1 = -1)) l 0) = l.any fun y => decide (y.1 = -1)) := idxBy_any _ _ _
  rw [← HY.out]
  generalize idxBy (fun y : Int × Bool => decide (y.1 = -1)) l 0 = n at *
  clear HY h
  go_enter Tryd.func82, Tryd.ntmps82
  go_wp2_with fail
  refine C.mono ?_
  rintro e w1 ⟨rfl, hb1⟩
  go_wp2
  go_ret
  exact ⟨rfl, hb1⟩

set_option maxRecDepth 1000000 in
set_option maxHeartbeats 1000000 in
theorem indexI_any (v : Value) (l : List Int) (w : World) (h : rowAt w v 1 iC l) (hl : l.length ≤ 4294967296) :
    Calls Tryd.prog 92 #[v, .int .i64 (-1)] w fun e w' => e = .returned (.int .i64 (idxBy (fun n => decide (n = -1)) l 0)) ∧ w' = w := by
  obtain ⟨oa, cap, rfl, h2⟩ := h
  have H2 : Hid (∀ j y, l[j]? = some y → ∃ g off, oa = some ⟨g, off, none⟩ ∧ ∀ i u, (iC y)[i]? = some u → w.cell? ⟨g, off + j * 1 + i, none⟩ = some u) := h2
  clear h2
  generalize hans : idxBy (fun n => decide (n = -1)) l 0 = ans at *
  have HA : Hid (idxBy (fun n => decide (n = -1)) l 0 = ans) := hans
  clear hans
  generalize hn : l.length = n at *
  have HN : Hid (l.length = n) := hn
  clear hn
  go_enter Tryd.func92, Tryd.ntmps92
  go_wp2
  go_loop [5, 8] (fun _ i => ∃ k : Nat, i = .int .i64 k ∧ k ≤ n ∧ idxBy (fun n => decide (n = -1)) (l.drop k) k = ans) (fun _ i => n - (intOf i).toNat)
  case atStart => exact ⟨0, rfl, by omega, by rw [List.drop_zero]; exact HA.out⟩
  case round =>
    obtain ⟨k, rfl, hk, hc⟩ := hrel
    have HC : Hid (idxBy (fun n => decide (n = -1)) (l.drop k) k = ans) := hc
    clear hc
    by_cases hlt : k < n
    · obtain ⟨y, hy⟩ : ∃ y, l[k]? = some y := ⟨l[k]'(by rw [HN.out]; exact hlt), List.getElem?_eq_getElem _⟩
      obtain ⟨g, off, rfl, hcell⟩ := H2.out k y hy
      have c0 := hcell 0 _ rfl
      simp only [Nat.mul_one, Nat.add_zero] at c0
      rw [drop_at hy, idxBy] at HC
      clear hcell hy
      by_cases hxy : y = -1
      · subst hxy
        rw [if_pos (by simp)] at HC
        go_wp2
        go_ret
        exact ⟨by rw [← HC.out]; rfl, rfl⟩
      · have hb : ((-1 : Int) == y) = false := by simp; omega
        rw [if_neg (by simp [hxy])] at HC
        clear hxy
        go_wp2
        go_round
        case rel => exact ⟨k + 1, by go_num, by omega, HC.out⟩
        case measure => simp [intOf]; omega
    · have h1 := HC.out
      rw [List.drop_of_length_le (by rw [HN.out]; omega), idxBy] at h1
      have H1 : Hid (-1 = ans) := h1
      clear h1
      go_wp2
      go_ret
      exact ⟨by rw [← H1.out]; rfl, rfl⟩

set_option maxHeartbeats 400000 in
theorem containsI_any (v : Value) (l : List Int) (w : World) (h : rowAt w v 1 iC l) (hl : l.length ≤ 4294967296) :
    Calls Tryd.prog 81 #[v, .int .i64 (-1)] w fun e w' => e = .returned (.bool (l.any fun n => decide (n = -1))) ∧ w' = w := by
  have C := indexI_any v l w h hl
  have HY : Hid (decide (0 ≤ idxBy (fun y : Int => decide (y = -1)) l 0) = l.any fun y => decide (y = -1)) := idxBy_any _ _ _
  rw [← HY.out]
  generalize idxBy (fun y : Int => decide (y = -1)) l 0 = n at *
  clear HY h
  go_enter Tryd.func81, Tryd.ntmps81
  go_wp2_with fail
  refine C.mono ?_
  rintro e w1 ⟨rfl, rfl⟩
  go_wp2
  go_ret
  exact ⟨rfl, rfl⟩

/-- A route whose slices lie so. -/
structure RtAt (w : World) (x : RtV) : Prop where
  path : rowAt w x.2.1 1 iC x.1.path
  points : rowAt w x.2.2.1 2 nC x.1.points
  flank : rowAt w x.2.2.2 2 nC x.1.flank
theorem RtAt.below {w w' : World} {x : RtV} (h : RtAt w x) (hb : Below w.heap.size w w') : RtAt w' x := ⟨h.path.below hb, h.points.below hb, h.flank.below hb⟩
theorem rowAt.slice {α : Type} {w : World} {v : Value} {size : Nat} {cs : α → List Value} {l : List α} (h : rowAt w v size cs l) : ∃ o n c, v = .slice o n c := by
  obtain ⟨oa, cap, h, _⟩ := h
  exact ⟨_, _, _, h⟩
theorem RtAt.slices {w : World} {x : RtV} (h : RtAt w x) : (∃ o n c, x.2.1 = .slice o n c) ∧ (∃ o n c, x.2.2.1 = .slice o n c) ∧ ∃ o n c, x.2.2.2 = .slice o n c := ⟨h.path.slice, h.points.slice, h.flank.slice⟩

set_option maxRecDepth 1000000 in
set_option maxHeartbeats 2000000 in
theorem lacks_any (x : RtV) (w : World) (h : RtAt w x) (h1 : x.1.path.length ≤ 4294967296) (h2 : x.1.points.length ≤ 4294967296) (h3 : x.1.flank.length ≤ 4294967296) :
    Calls Tryd.prog 65 #[.agg #[.string x.1.name, .int .i64 x.1.frm, .int .i64 x.1.to, x.2.1, x.2.2.1, x.2.2.2]] w fun e w' => e = .returned (.bool (lacks x.1)) ∧ Below w.heap.size w w' := by
  obtain ⟨rt, v0, v1, v2⟩ := x
  simp only at *
  have hp := h.path
  have hq := h.points
  have hf := h.flank
  simp only at hp hq hf
  obtain ⟨o0, n0, k0, rfl⟩ := hp.slice
  obtain ⟨o1, n1, k1, rfl⟩ := hq.slice
  obtain ⟨o2, n2, k2, rfl⟩ := hf.slice
  have hb : Below w.heap.size w (w.alloc (.cells #[.string rt.name, .int .i64 rt.frm, .int .i64 rt.to, .slice o0 n0 k0, .slice o1 n1 k1, .slice o2 n2 k2] 37)) := (Below.refl _ _).alloc (Nat.le_refl _) _
  have hblk := blk_new w (.cells #[.string rt.name, .int .i64 rt.frm, .int .i64 rt.to, .slice o0 n0 k0, .slice o1 n1 k1, .slice o2 n2 k2] 37)
  have C0 := containsI_any _ _ _ (hp.below hb) h1
  have HP : Hid (rowAt (w.alloc (.cells #[.string rt.name, .int .i64 rt.frm, .int .i64 rt.to, .slice o0 n0 k0, .slice o1 n1 k1, .slice o2 n2 k2] 37)) (.slice o1 n1 k1) 2 nC rt.points) := hq.below hb
  have HF : Hid (rowAt (w.alloc (.cells #[.string rt.name, .int .i64 rt.frm, .int .i64 rt.to, .slice o0 n0 k0, .slice o1 n1 k1, .slice o2 n2 k2] 37)) (.slice o2 n2 k2) 2 nC rt.flank) := hf.below hb
  have C1 := fun W h => hasNone_any (.slice o1 n1 k1) rt.points W h h2
  have C2 := fun W h => hasNone_any (.slice o2 n2 k2) rt.flank W h h3
  have HL : Hid (lacks rt = (decide (rt.frm = -1) || (decide (rt.to = -1) || (rt.path.any (fun n => decide (n = -1)) || (rt.points.any (fun n => decide (n.1 = -1)) || rt.flank.any (fun n => decide (n.1 = -1))))))) := rfl
  generalize lacks rt = ans at *
  generalize rt.path.any (fun n => decide (n = -1)) = b0 at *
  generalize rt.points.any (fun n => decide (n.1 = -1)) = b1 at *
  generalize rt.flank.any (fun n => decide (n.1 = -1)) = b2 at *
  have D0 : Hid (Calls Tryd.prog 81 #[.slice o0 n0 k0, .int .i64 (-1)] (w.alloc (.cells #[.string rt.name, .int .i64 rt.frm, .int .i64 rt.to, .slice o0 n0 k0, .slice o1 n1 k1, .slice o2 n2 k2] 37)) fun e w' => e = .returned (.bool b0) ∧ w' = w.alloc (.cells #[.string rt.name, .int .i64 rt.frm, .int .i64 rt.to, .slice o0 n0 k0, .slice o1 n1 k1, .slice o2 n2 k2] 37)) := C0
  have D1 : Hid (∀ W, rowAt W (.slice o1 n1 k1) 2 nC rt.points → Calls Tryd.prog 82 #[.slice o1 n1 k1, .func (.func 80) #[] #[]] W fun e w' => e = .returned (.bool b1) ∧ Below W.heap.size W w') := C1
  have D2 : Hid (∀ W, rowAt W (.slice o2 n2 k2) 2 nC rt.flank → Calls Tryd.prog 82 #[.slice o2 n2 k2, .func (.func 80) #[] #[]] W fun e w' => e = .returned (.bool b2) ∧ Below W.heap.size W w') := C2
  have HB : Hid (Below w.heap.size w (w.alloc (.cells #[.string rt.name, .int .i64 rt.frm, .int .i64 rt.to, .slice o0 n0 k0, .slice o1 n1 k1, .slice o2 n2 k2] 37))) := hb
  have HK : Hid ((w.alloc (.cells #[.string rt.name, .int .i64 rt.frm, .int .i64 rt.to, .slice o0 n0 k0, .slice o1 n1 k1, .slice o2 n2 k2] 37)).heap[w.heap.size]? = some (.cells #[.string rt.name, .int .i64 rt.frm, .int .i64 rt.to, .slice o0 n0 k0, .slice o1 n1 k1, .slice o2 n2 k2] 37 (0, 0))) := hblk
  clear C0 C1 C2 hb hp hq hf h h1 h2 h3 hblk
  have e0 : (rt.frm == -1) = decide (rt.frm = -1) := by rw [Bool.eq_iff_iff]; simp
  have e1 : (rt.to == -1) = decide (rt.to = -1) := by rw [Bool.eq_iff_iff]; simp
  generalize decide (rt.frm = -1) = d0 at *
  generalize decide (rt.to = -1) = d1 at *
  cases d0
  · cases d1
    · cases b0
      · cases b1
        · go_enter Tryd.func65, Tryd.ntmps65
          go_wp2_with fail
          refine D0.out.mono ?_
          rintro e w1 ⟨rfl, hw⟩
          obtain rfl := hw.symm
          go_wp2_with fail
          refine (D1.out _ HP.out).mono ?_
          rintro e w2 ⟨rfl, hb2⟩
          obtain ⟨⟨a0, a1, a2, a3, a4, a5⟩, _⟩ := six_cells (blk_below hb2 HK.out)
          go_wp2_with fail
          refine (D2.out _ (HF.out.below hb2)).mono ?_
          rintro e w3 ⟨rfl, hb3⟩
          go_wp2
          go_ret
          exact ⟨ret_bool (by rw [HL.out]; simp), (HB.out.trans (hb2.mono HB.out.size)).trans (hb3.mono (by have := HB.out.size; have := hb2.size; omega))⟩
        · go_enter Tryd.func65, Tryd.ntmps65
          go_wp2_with fail
          refine D0.out.mono ?_
          rintro e w1 ⟨rfl, hw⟩
          obtain rfl := hw.symm
          go_wp2_with fail
          refine (D1.out _ HP.out).mono ?_
          rintro e w2 ⟨rfl, hb2⟩
          go_wp2
          go_ret
          exact ⟨ret_bool (by rw [HL.out]; simp), HB.out.trans (hb2.mono HB.out.size)⟩
      · go_enter Tryd.func65, Tryd.ntmps65
        go_wp2_with fail
        refine D0.out.mono ?_
        rintro e w1 ⟨rfl, hw⟩
        obtain rfl := hw.symm
        go_wp2
        go_ret
        exact ⟨ret_bool (by rw [HL.out]; simp), HB.out⟩
    · go_enter Tryd.func65, Tryd.ntmps65
      go_wp2
      go_ret
      exact ⟨ret_bool (by rw [HL.out]; simp), HB.out⟩
  · go_enter Tryd.func65, Tryd.ntmps65
    go_wp2
    go_ret
    exact ⟨ret_bool (by rw [HL.out]; simp), HB.out⟩

set_option maxRecDepth 1000000 in
set_option maxHeartbeats 2000000 in
theorem tooLong_any (x : RtV) (w : World) (h : RtAt w x) :
    Calls Tryd.prog 66 #[.agg #[.string x.1.name, .int .i64 x.1.frm, .int .i64 x.1.to, x.2.1, x.2.2.1, x.2.2.2]] w fun e w' => e = .returned (.bool (tooLong x.1)) ∧ Below w.heap.size w w' := by
  obtain ⟨rt, v0, v1, v2⟩ := x
  obtain ⟨⟨o0, k0, h0, _⟩, ⟨o1, k1, h1, _⟩, ⟨o2, k2, h2, _⟩⟩ := h
  simp only at *
  subst h0 h1 h2
  have HL : Hid (tooLong rt = (decide (5 < rt.path.length) || (decide (5 < rt.points.length) || decide (5 < rt.flank.length)))) := rfl
  generalize tooLong rt = ans at *
  generalize rt.path.length = n0 at *
  generalize rt.points.length = n1 at *
  generalize rt.flank.length = n2 at *
  have HB : Hid (Below w.heap.size w (w.alloc (.cells #[.string rt.name, .int .i64 rt.frm, .int .i64 rt.to, .slice o0 n0 k0, .slice o1 n1 k1, .slice o2 n2 k2] 37))) := (Below.refl _ _).alloc (Nat.le_refl _) _
  have e0 : decide ((5 : Int) < (n0 : Int)) = decide (5 < n0) := by rw [Bool.eq_iff_iff]; simp; omega
  have e1 : decide ((5 : Int) < (n1 : Int)) = decide (5 < n1) := by rw [Bool.eq_iff_iff]; simp; omega
  have e2 : decide ((5 : Int) < (n2 : Int)) = decide (5 < n2) := by rw [Bool.eq_iff_iff]; simp; omega
  generalize decide (5 < n0) = d0 at *
  generalize decide (5 < n1) = d1 at *
  generalize decide (5 < n2) = d2 at *
  cases d0
  · cases d1
    all_goals
      go_enter Tryd.func66, Tryd.ntmps66
      go_wp2
      go_ret
      exact ⟨ret_bool (by rw [HL.out]; simp), HB.out⟩
  · go_enter Tryd.func66, Tryd.ntmps66
    go_wp2
    go_ret
    exact ⟨ret_bool (by rw [HL.out]; simp), HB.out⟩

end Go.Proofs.YtgiaicmhnkhbnaaDoor

namespace Go.Proofs.YtgiaicmhnkhbnaaDoor
open Go.RowKit

def eOf : Nat → TypeId
  | 0 => 9
  | 1 => 33
  | 2 => 9
  | _ => 37
def szOf : Nat → Nat
  | 0 => 1
  | 1 => 2
  | 2 => 1
  | _ => 6
def upd {α : Type} (f : Nat → α) (i : Nat) (x : α) (j : Nat) : α := if j = i then x else f j
theorem upd_at {α : Type} (f : Nat → α) (i : Nat) (x : α) : upd f i x i = x := if_pos rfl
theorem upd_ne {α : Type} (f : Nat → α) (i : Nat) (x : α) {j : Nat} (h : j ≠ i) : upd f i x j = f j := if_neg h

/-- The blocks that a layout of the call's own may still turn. -/
def foot4 (L : Nat) (v : Nat → Value) (k : Nat) : Prop := k = L ∨ ∃ i, i < 4 ∧ (v i).ownBlock = some k

structure L4 (w : World) (B L : Nat) (v : Nat → Value) (n : Nat → Nat) (cs : Nat → List Value) (X : World → Prop) : Prop where
  blk : w.heap[L]? = some (.cells #[v 0, v 1, v 2, v 3] 26 (0, 0))
  base : B ≤ L
  own : ∀ i, i < 4 → w.ownsRow B (eOf i) (szOf i) (v i) (n i) (cs i)
  noL : ∀ i, i < 4 → (v i).ownBlock ≠ some L
  apart : ∀ i j k, i < 4 → j < 4 → i ≠ j → (v i).ownBlock = some k → (v j).ownBlock ≠ some k
  inn : ∀ W : World, (∀ k, B ≤ k → k < w.heap.size → ¬ foot4 L v k → W.heap[k]? = w.heap[k]?) → X W

variable {w w' : World} {B L : Nat} {v : Nat → Value} {n : Nat → Nat} {cs : Nat → List Value} {X : World → Prop}

theorem L4.lt (h : L4 w B L v n cs X) : L < w.heap.size := (Array.getElem?_eq_some_iff.1 h.blk).1
theorem L4.foot (h : L4 w B L v n cs X) {k : Nat} (hk : foot4 L v k) : B ≤ k ∧ k < w.heap.size := by
  rcases hk with rfl | ⟨i, hi, hk⟩
  · exact ⟨h.base, h.lt⟩
  · exact (h.own i hi).lt k hk
theorem owns_keep {e : TypeId} {size : Nat} {w w' : World} {B n : Nat} {v : Value} {xs : List Value} (h : w.ownsRow B e size v n xs) (hk : ∀ k, v.ownBlock = some k → w'.heap[k]? = w.heap[k]?) : w'.ownsRow B e size v n xs := by
  refine ⟨h.1, ?_⟩
  rcases h.2 with h2 | ⟨g, cap, cur, rfl, b, hg, r⟩
  · exact .inl h2
  · exact .inr ⟨g, cap, cur, rfl, b, (hk g rfl).trans hg, r⟩
theorem L4.below (h : L4 w B L v n cs X) (hb : Below w.heap.size w w') : L4 w' B L v n cs X :=
  ⟨(hb.block _ h.lt).trans h.blk, h.base, fun i hi => owns_keep (h.own i hi) fun k hk => hb.block k ((h.own i hi).lt k hk).2, h.noL, h.apart,
    fun W hW => h.inn W fun k hB hk hf => (hW k hB (Nat.lt_of_lt_of_le hk hb.size) hf).trans (hb.block k hk)⟩
theorem L4.far (h : L4 w B L v n cs X) (hk : ∀ k, B ≤ k → k < w.heap.size → w'.heap[k]? = w.heap[k]?) (hs : w.heap.size ≤ w'.heap.size) : L4 w' B L v n cs X :=
  ⟨(hk _ h.base h.lt).trans h.blk, h.base, fun i hi => owns_keep (h.own i hi) fun k e => hk k ((h.own i hi).lt k e).1 ((h.own i hi).lt k e).2, h.noL, h.apart,
    fun W hW => h.inn W fun k hB hk' hf => (hW k hB (Nat.lt_of_lt_of_le hk' hs) hf).trans (hk k hB hk')⟩
theorem L4.cells (h : L4 w B L v n cs X) : (w.cell? ⟨L, 0, none⟩ = some (v 0) ∧ w.cell? ⟨L, 1, none⟩ = some (v 1) ∧ w.cell? ⟨L, 2, none⟩ = some (v 2) ∧ w.cell? ⟨L, 3, none⟩ = some (v 3)) ∧
    w.frozen? ⟨L, 0, none⟩ = false ∧ w.frozen? ⟨L, 1, none⟩ = false ∧ w.frozen? ⟨L, 2, none⟩ = false ∧ w.frozen? ⟨L, 3, none⟩ = false := by
  have hb := h.blk
  refine ⟨⟨?_, ?_, ?_, ?_⟩, ?_, ?_, ?_, ?_⟩ <;> simp [World.cell?, World.frozen?, hb]

theorem upd_four (v : Nat → Value) (u : Value) : ∀ i, i < 4 → #[v 0, v 1, v 2, v 3].setIfInBounds i u = #[upd v i u 0, upd v i u 1, upd v i u 2, upd v i u 3]
  | 0, _ => rfl
  | 1, _ => rfl
  | 2, _ => rfl
  | 3, _ => rfl

/-- What stands behind an append to one of its rows, and the store into its field. -/
theorem L4.put (h : L4 w B L v n cs X) {i m : Nat} (hi : i < 4) {o : Obj} {w1 : World} {v' : Value} {ys : List Value} {X' : World → Prop} (hown : w1.ownsRow B (eOf i) (szOf i) v' m ys)
    (hg : (w.alloc o).grownBy w1 (v i).ownBlock) (hat : v'.ownBlock = (v i).ownBlock ∨ v'.ownBlock = some (w.heap.size + 1))
    (hX : (∀ W : World, (∀ k, B ≤ k → k < w.heap.size → ¬ foot4 L v k → W.heap[k]? = w.heap[k]?) → X' W)) :
    L4 (w1.setCell ⟨L, i, none⟩ v') B L (upd v i v') (upd n i m) (upd cs i ys) X' ∧ Below B w (w1.setCell ⟨L, i, none⟩ v') := by
  have hLlt := h.lt
  have hsz := hg.size
  rw [World.size_alloc] at hsz
  have keep : ∀ k, k < w.heap.size → (v i).ownBlock ≠ some k → w1.heap[k]? = w.heap[k]? := fun k hk hne => by
    rw [hg.block k (by simp; omega) (fun e => hne e.symm), Below.heap_alloc _ _ _ hk]
  have keep2 : ∀ k, k < w.heap.size → (v i).ownBlock ≠ some k → k ≠ L → (w1.setCell ⟨L, i, none⟩ v').heap[k]? = w.heap[k]? := fun k hk hne hl => by
    rw [Below.heap_setCell _ _ _ _ (by show k ≠ L; exact hl), keep k hk hne]
  have new : ∀ k, v'.ownBlock = some k → (v i).ownBlock = some k ∨ w.heap.size < k := fun k hk => by
    rcases hat with e | e
    · exact .inl (by rw [← e]; exact hk)
    · right
      rw [hk] at e
      have := Option.some.inj e
      omega
  refine ⟨⟨?_, h.base, fun j hj => ?_, fun j hj => ?_, fun a b k ha hb hab hk => ?_, fun W hW => hX W fun k hBk hk hf => ?_⟩, ?_⟩
  · rw [← upd_four v v' i hi]
    exact heap_put ((keep L hLlt (h.noL i hi)).trans h.blk)
  · by_cases hij : j = i
    · subst hij
      rw [upd_at, upd_at, upd_at]
      refine owns_keep hown fun k hk => Below.heap_setCell _ _ _ _ (by
        show k ≠ L
        rintro rfl
        rcases new _ hk with e | e
        · exact h.noL _ hi e
        · omega)
    · rw [upd_ne _ _ _ hij, upd_ne _ _ _ hij, upd_ne _ _ _ hij]
      refine owns_keep (h.own j hj) fun k hk => keep2 k ((h.own j hj).lt k hk).2 (h.apart j i k hj hi hij hk) (by rintro rfl; exact h.noL j hj hk)
  · by_cases hij : j = i
    · subst hij
      rw [upd_at]
      intro hk
      rcases new _ hk with e | e
      · exact h.noL _ hi e
      · omega
    · rw [upd_ne _ _ _ hij]
      exact h.noL j hj
  · by_cases hai : a = i
    · subst hai
      rw [upd_at] at hk
      rw [upd_ne _ _ _ (fun e => hab e.symm)]
      intro hbk
      rcases new _ hk with e | e
      · exact h.apart a b k ha hb hab e hbk
      · have := ((h.own b hb).lt k hbk).2
        omega
    · rw [upd_ne _ _ _ hai] at hk
      by_cases hbi : b = i
      · subst hbi
        rw [upd_at]
        intro hbk
        rcases new _ hbk with e | e
        · exact h.apart a b k ha hb hab hk e
        · have := ((h.own a ha).lt k hk).2
          omega
      · rw [upd_ne _ _ _ hbi]
        exact h.apart a b k ha hb hab hk
  · have hnf : ¬ foot4 L (upd v i v') k := by
      rintro (rfl | ⟨j, hj, hjk⟩)
      · exact hf (.inl rfl)
      · by_cases hij : j = i
        · subst hij
          rw [upd_at] at hjk
          rcases new _ hjk with e | e
          · exact hf (.inr ⟨j, hj, e⟩)
          · omega
        · rw [upd_ne _ _ _ hij] at hjk
          exact hf (.inr ⟨j, hj, hjk⟩)
    rw [hW k hBk (by simp only [World.setCell, Array.size_modify]; omega) hnf]
    exact keep2 k hk (fun e => hf (.inr ⟨i, hi, e⟩)) (fun e => hf (.inl e))
  · have h1 : Below B w w1 := ((Below.refl B w).alloc (by have := h.base; omega) o).grown hg (by have := h.base; simp; omega) (fun k hk => ((h.own i hi).lt k hk).1)
    exact h1.setCell h.base _

/-- How many, and which cells. -/
def nOf (l : Lay) : Nat → Nat
  | 0 => l.sections.length
  | 1 => l.points.length
  | 2 => l.signals.length
  | _ => l.routes.length
def csOf (l : Lay) (rs : List RtV) : Nat → List Value
  | 0 => l.sections.flatMap sC
  | 1 => l.points.flatMap pC
  | 2 => l.signals.flatMap sC
  | _ => rs.flatMap rC

structure LayOk (l : Lay) : Prop where
  s : l.sections.length ≤ 10
  p : l.points.length ≤ 5
  g : l.signals.length ≤ 6
  r : l.routes.length ≤ 6

def LayIn (w : World) (B L : Nat) (l : Lay) : Prop := LayOk l ∧ ∃ v rs, rs.map (·.1) = l.routes ∧ L4 w B L v (nOf l) (csOf l rs) (fun W => ∀ x ∈ rs, RtAt W x)
theorem LayIn.below {l : Lay} (h : LayIn w B L l) (hb : Below w.heap.size w w') : LayIn w' B L l := by
  obtain ⟨h1, v, rs, h2, h3⟩ := h
  exact ⟨h1, v, rs, h2, h3.below hb⟩
theorem LayIn.lt {l : Lay} (h : LayIn w B L l) : B ≤ L ∧ L < w.heap.size := by
  obtain ⟨h1, v, rs, h2, h3⟩ := h
  exact ⟨h3.base, h3.lt⟩

/-- A layout, read: its four slices. -/
structure LayRd (w : World) (v : Nat → Value) (l : Lay) (rs : List RtV) : Prop where
  s : rowAt w (v 0) 1 sC l.sections
  p : rowAt w (v 1) 2 pC l.points
  g : rowAt w (v 2) 1 sC l.signals
  r : rowAt w (v 3) 6 rC rs
  m : rs.map (·.1) = l.routes
  x : ∀ x ∈ rs, RtAt w x
theorem LayRd.below {v : Nat → Value} {l : Lay} {rs : List RtV} (h : LayRd w v l rs) (hb : Below w.heap.size w w') : LayRd w' v l rs :=
  ⟨h.s.below hb, h.p.below hb, h.g.below hb, h.r.below hb, h.m, fun x hx => (h.x x hx).below hb⟩
theorem L4.rd {l : Lay} {rs : List RtV} (h : L4 w B L v (nOf l) (csOf l rs) (fun W => ∀ x ∈ rs, RtAt W x)) (hm : rs.map (·.1) = l.routes) : LayRd w v l rs := by
  have hl : l.routes.length = rs.length := by rw [← hm, List.length_map]
  refine ⟨rowAt_of_owns (fun _ => rfl) (h.own 0 (by omega)), rowAt_of_owns (fun _ => rfl) (h.own 1 (by omega)), rowAt_of_owns (fun _ => rfl) (h.own 2 (by omega)), rowAt_of_owns (base := B) (e := 37) (fun _ => rfl) ?_, hm, h.inn w fun _ _ _ _ => rfl⟩
  have := h.own 3 (by omega)
  rw [show nOf l 3 = rs.length from hl] at this
  exact this

end Go.Proofs.YtgiaicmhnkhbnaaDoor

namespace Go.Proofs.YtgiaicmhnkhbnaaDoor
open Go.RowKit

theorem eqGuardNd : Tryd.prog.eqGuardType Tryd.prog.depth 60 = false := by kernel_rfl
theorem stoodNd : Tryd.prog.stoodInHeld 60 = false := by kernel_rfl
theorem fieldsNd : (Tryd.prog.fieldsOf 60).toList.map (fun f => (f.name, f.type, f.offset)) = [("Point", 3, 0), ("Reverse", 4, 1)] := by kernel_rfl
theorem underNeed : Tryd.prog.underlying 60 = some (.struct (Tryd.prog.fieldsOf 60)) := by kernel_rfl
theorem partNdI (n : Int) (b : Bool) (W : World) : (part 3 #[.int .i64 n, .bool b] 0).run Tryd.prog W = .ok (.int .i64 n) W := by go_simp
theorem partNdB (n : Int) (b : Bool) (W : World) : (part 4 #[.int .i64 n, .bool b] 1).run Tryd.prog W = .ok (.bool b) W := by go_simp
theorem run_eqNd (n m : Int) (a b : Bool) (W : World) :
    (Op.equalIn 10000 60 (.agg #[.int .i64 n, .bool a]) (.agg #[.int .i64 m, .bool b])).run Tryd.prog W = .ok (decide (n = m ∧ a = b)) W := by
  rw [run_equalIn_struct W 9999 _ _ _ underNeed stoodNd]
  obtain ⟨f, g, hfg⟩ : ∃ f g, (Tryd.prog.fieldsOf 60).toList = [f, g] := by
    match h : (Tryd.prog.fieldsOf 60).toList with
    | [f, g] => exact ⟨f, g, rfl⟩
    | [] => have := fieldsNd; rw [h] at this; simp at this
    | [f] => have := fieldsNd; rw [h] at this; simp at this
    | f :: g :: k :: r => have := fieldsNd; rw [h] at this; simp at this
  have hf := fieldsNd
  rw [hfg] at hf ⊢
  simp at hf
  obtain ⟨⟨f1, f2, f3⟩, g1, g2, g3⟩ := hf
  have q1 : ∀ k n : Int, (Op.equalIn 9999 3 (.int .i64 k) (.int .i64 n)).run Tryd.prog W = .ok (k == n) W := fun k n => run_equalIn_int (P := Tryd.prog) W 9998 3 .i64 .i64 k n Tryd.underlying3
  have q2 : ∀ a b : Bool, (Op.equalIn 9999 4 (.bool a) (.bool b)).run Tryd.prog W = .ok (a == b) W := fun a b => run_equalIn_bool (P := Tryd.prog) W 9998 4 a b Tryd.underlying4
  have e1 : ¬ (("Point" : String) = "_") := by decide
  have e2 : ¬ (("Reverse" : String) = "_") := by decide
  simp only [Op.eqFields, f1, f2, f3, g1, g2, g3, ne_eq, e1, e2, not_false_eq_true, if_true, Sem.run_bind, partNdI, Result.andThen_ok, q1]
  by_cases hn : n = m <;> by_cases hb : a = b <;> simp [hn, hb, partNdB, q2]
theorem run_neqNd (n m : Int) (a b : Bool) (W : World) : (binOp .neq 60 (.agg #[.int .i64 n, .bool a]) (.agg #[.int .i64 m, .bool b])).run Tryd.prog W = .ok (.bool (!decide (n = m ∧ a = b))) W := by
  rw [run_neq_struct, run_eqNd]
  rfl

theorem eqGuardPt : Tryd.prog.eqGuardType Tryd.prog.depth 33 = false := by kernel_rfl
theorem stoodPt : Tryd.prog.stoodInHeld 33 = false := by kernel_rfl
theorem fieldsPt : (Tryd.prog.fieldsOf 33).toList.map (fun f => (f.name, f.type, f.offset)) = [("Name", 9, 0), ("Section", 3, 1)] := by kernel_rfl
theorem underPoint : Tryd.prog.underlying 33 = some (.struct (Tryd.prog.fieldsOf 33)) := by kernel_rfl
theorem partPtS (a : ByteArray) (m : Int) (W : World) : (part 9 #[.string a, .int .i64 m] 0).run Tryd.prog W = .ok (.string a) W := by go_simp
theorem partPtI (a : ByteArray) (m : Int) (W : World) : (part 3 #[.string a, .int .i64 m] 1).run Tryd.prog W = .ok (.int .i64 m) W := by go_simp
theorem run_neqPt (a b : ByteArray) (m n : Int) (W : World) :
    (binOp .neq 33 (.agg #[.string a, .int .i64 m]) (.agg #[.string b, .int .i64 n])).run Tryd.prog W = .ok (.bool (!decide (a = b ∧ m = n))) W := by
  rw [run_neq_struct, run_equalIn_struct W 9999 _ _ _ underPoint stoodPt]
  obtain ⟨f, g, hfg⟩ : ∃ f g, (Tryd.prog.fieldsOf 33).toList = [f, g] := by
    match h : (Tryd.prog.fieldsOf 33).toList with
    | [f, g] => exact ⟨f, g, rfl⟩
    | [] => have := fieldsPt; rw [h] at this; simp at this
    | [f] => have := fieldsPt; rw [h] at this; simp at this
    | f :: g :: k :: r => have := fieldsPt; rw [h] at this; simp at this
  have hf := fieldsPt
  rw [hfg] at hf ⊢
  simp at hf
  obtain ⟨⟨f1, f2, f3⟩, g1, g2, g3⟩ := hf
  have q1 := fun d => run_equalIn_string (P := Tryd.prog) W d 9 a b Tryd.underlying9
  have q2' := fun k d => run_equalIn_int (P := Tryd.prog) W d 3 .i64 .i64 k n Tryd.underlying3
  have e1 : ¬ (("Name" : String) = "_") := by decide
  have e2 : ¬ (("Section" : String) = "_") := by decide
  simp only [Op.eqFields, f1, f2, f3, g1, g2, g3, ne_eq, e1, e2, not_false_eq_true, if_true, Sem.run_bind, partPtS, Result.andThen_ok, q1 9998]
  have h1 : (a.toList == b.toList) = decide (a = b) := by
    rw [Lib.toList_data, Lib.toList_data, Bool.eq_iff_iff]
    simp only [beq_iff_eq, decide_eq_true_eq]
    exact ⟨fun h => ByteArray.ext (Array.ext' h), fun h => by rw [h]⟩
  rw [h1]
  by_cases ha : a = b <;> by_cases hm : m = n <;> simp [ha, hm, partPtI, q2' _ 9998]
end Go.Proofs.YtgiaicmhnkhbnaaDoor

namespace Go.Proofs.YtgiaicmhnkhbnaaDoor
open Go.RowKit

def inB (l : List Int) (n : Int) : Bool := l.any fun x => decide (x = n)
theorem inB_cons (x : Int) (l : List Int) (n : Int) : inB (x :: l) n = (decide (x = n) || inB l n) := rfl

end Go.Proofs.YtgiaicmhnkhbnaaDoor

namespace Go.Proofs.YtgiaicmhnkhbnaaDoor
open Go.RowKit

theorem take_one {α : Type} {l : List α} {k : Nat} {x : α} (h : l[k]? = some x) : l.take (k + 1) = l.take k ++ [x] := by
  rw [List.take_add_one, h]
  rfl
theorem rows_no {α : Type} {xs ys : List α} {k : Nat} {x y : α} (hx : xs[k]? = some x) (hy : ys[k]? = some y) (h : ¬ x = y) : ¬ xs = ys := fun e => by
  rw [e, hy] at hx
  exact h (Option.some.inj hx).symm

set_option maxRecDepth 1000000 in
set_option maxHeartbeats 4000000 in
theorem refTexts_any (va vb : Value) (xs ys : List (ByteArray)) (w : World) (ha : rowAt w va 1 sC xs) (hb : rowAt w vb 1 sC ys) (hn : xs.length ≤ 4294967296) :
    Calls Tryd.prog 15 #[va, vb] w fun e w' => e = .returned (.bool (decide (xs = ys))) ∧ ∃ n, w' = w.drewN n := by
  obtain ⟨oa, ca, rfl, h1⟩ := ha
  obtain ⟨ob, cb, rfl, h2⟩ := hb
  have H1 : Hid (∀ j x, xs[j]? = some x → ∃ g off, oa = some ⟨g, off, none⟩ ∧ ∀ i u, (sC x)[i]? = some u → w.cell? ⟨g, off + j * 1 + i, none⟩ = some u) := h1
  have H2 : Hid (∀ j x, ys[j]? = some x → ∃ g off, ob = some ⟨g, off, none⟩ ∧ ∀ i u, (sC x)[i]? = some u → w.cell? ⟨g, off + j * 1 + i, none⟩ = some u) := h2
  clear h1 h2
  by_cases hlen : xs.length = ys.length
  · generalize hx : xs.length = nx at *
    have HN : Hid (xs.length = nx) := hx
    rw [← hlen]
    have HM : Hid (ys.length = nx) := hlen.symm
    have hbl : ((nx : Int) == (nx : Int)) = true := by simp
    clear hx hlen
    go_enter Tryd.func15, Tryd.ntmps15
    go_wp2
    go_loopw [5] (fun i wr => ∃ k n : Nat, i = .int .i64 k ∧ k ≤ nx ∧ wr = w.drewN n ∧ xs.take k = ys.take k) (fun i _ => nx - (intOf i).toNat)
    case atStart => exact ⟨0, 0, rfl, by omega, rfl, by simp⟩
    case round =>
     obtain ⟨k, n, rfl, hk, rfl, ht⟩ := hrel
     have HT : Hid (xs.take k = ys.take k) := ht
     clear ht
     by_cases hlt : k < nx
     · have hki : (k : Int) < (nx : Int) := by omega
       obtain ⟨x, hxk⟩ : ∃ x, xs[k]? = some x := ⟨xs[k]'(by rw [HN.out]; exact hlt), List.getElem?_eq_getElem _⟩
       obtain ⟨y, hyk⟩ : ∃ y, ys[k]? = some y := ⟨ys[k]'(by rw [HM.out]; exact hlt), List.getElem?_eq_getElem _⟩
       obtain ⟨g, off, rfl, hcx⟩ := H1.out k x hxk
       obtain ⟨g', off', rfl, hcy⟩ := H2.out k y hyk
       have HXK : Hid (xs[k]? = some x) := hxk
       have HYK : Hid (ys[k]? = some y) := hyk
       have a0 := hcx 0 _ rfl
       have b0 := hcy 0 _ rfl
       rw [show off + k * 1 + 0 = off + k by omega] at a0
       rw [show off' + k * 1 + 0 = off' + k by omega] at b0
       clear H1 H2 hxk hyk hcx hcy
       by_cases hxy : x = y
       · have HXY : Hid (x = y) := hxy
         have hb : (x.toList == y.toList) = true := by rw [toList_eq, decide_eq_true hxy]
         clear hxy
         go_wp2_with fail
         go_quiet (fail)
         go_wp2
         go_roundw
         case rel => exact ⟨k + 1, _, by go_num, by omega, rfl, by rw [take_one HXK.out, take_one HYK.out, HT.out, HXY.out]⟩
         case measure => simp [intOf]; omega
       · have HXY : Hid (¬ x = y) := hxy
         have hb : (x.toList == y.toList) = false := by rw [toList_eq, decide_eq_false hxy]
         clear hxy
         go_wp2_with fail
         go_quiet (fail)
         go_wp2
         go_ret
         exact ⟨ret_bool (decide_eq_false (rows_no HXK.out HYK.out HXY.out)).symm, _, World.drewN_drewN ..⟩
     · have hki : ¬ (k : Int) < (nx : Int) := by omega
       have HE : Hid (xs = ys) := by
         have := HT.out
         rw [List.take_of_length_le (by rw [HN.out]; omega), List.take_of_length_le (by rw [HM.out]; omega)] at this
         exact this
       go_wp2
       go_ret
       exact ⟨ret_bool (decide_eq_true HE.out).symm, _, rfl⟩
  · have HNE : Hid (¬ xs = ys) := fun e => hlen (by rw [e])
    generalize hx : xs.length = nx at *
    generalize hy : ys.length = ny at *
    have hbl : ((nx : Int) == (ny : Int)) = false := by simp; omega
    clear hx hy hlen
    go_enter Tryd.func15, Tryd.ntmps15
    go_wp2
    go_ret
    exact ⟨ret_bool (decide_eq_false HNE.out).symm, 0, rfl⟩

set_option maxRecDepth 1000000 in
set_option maxHeartbeats 4000000 in
theorem refInts_any (va vb : Value) (xs ys : List (Int)) (w : World) (ha : rowAt w va 1 iC xs) (hb : rowAt w vb 1 iC ys) (hn : xs.length ≤ 4294967296) :
    Calls Tryd.prog 16 #[va, vb] w fun e w' => e = .returned (.bool (decide (xs = ys))) ∧ ∃ n, w' = w.drewN n := by
  obtain ⟨oa, ca, rfl, h1⟩ := ha
  obtain ⟨ob, cb, rfl, h2⟩ := hb
  have H1 : Hid (∀ j x, xs[j]? = some x → ∃ g off, oa = some ⟨g, off, none⟩ ∧ ∀ i u, (iC x)[i]? = some u → w.cell? ⟨g, off + j * 1 + i, none⟩ = some u) := h1
  have H2 : Hid (∀ j x, ys[j]? = some x → ∃ g off, ob = some ⟨g, off, none⟩ ∧ ∀ i u, (iC x)[i]? = some u → w.cell? ⟨g, off + j * 1 + i, none⟩ = some u) := h2
  clear h1 h2
  by_cases hlen : xs.length = ys.length
  · generalize hx : xs.length = nx at *
    have HN : Hid (xs.length = nx) := hx
    rw [← hlen]
    have HM : Hid (ys.length = nx) := hlen.symm
    have hbl : ((nx : Int) == (nx : Int)) = true := by simp
    clear hx hlen
    go_enter Tryd.func16, Tryd.ntmps16
    go_wp2
    go_loopw [5] (fun i wr => ∃ k n : Nat, i = .int .i64 k ∧ k ≤ nx ∧ wr = w.drewN n ∧ xs.take k = ys.take k) (fun i _ => nx - (intOf i).toNat)
    case atStart => exact ⟨0, 0, rfl, by omega, rfl, by simp⟩
    case round =>
     obtain ⟨k, n, rfl, hk, rfl, ht⟩ := hrel
     have HT : Hid (xs.take k = ys.take k) := ht
     clear ht
     by_cases hlt : k < nx
     · have hki : (k : Int) < (nx : Int) := by omega
       obtain ⟨x, hxk⟩ : ∃ x, xs[k]? = some x := ⟨xs[k]'(by rw [HN.out]; exact hlt), List.getElem?_eq_getElem _⟩
       obtain ⟨y, hyk⟩ : ∃ y, ys[k]? = some y := ⟨ys[k]'(by rw [HM.out]; exact hlt), List.getElem?_eq_getElem _⟩
       obtain ⟨g, off, rfl, hcx⟩ := H1.out k x hxk
       obtain ⟨g', off', rfl, hcy⟩ := H2.out k y hyk
       have HXK : Hid (xs[k]? = some x) := hxk
       have HYK : Hid (ys[k]? = some y) := hyk
       have a0 := hcx 0 _ rfl
       have b0 := hcy 0 _ rfl
       rw [show off + k * 1 + 0 = off + k by omega] at a0
       rw [show off' + k * 1 + 0 = off' + k by omega] at b0
       clear H1 H2 hxk hyk hcx hcy
       by_cases hxy : x = y
       · have HXY : Hid (x = y) := hxy
         have hb : ((x : Int) == y) = true := by simp [hxy]
         clear hxy
         go_wp2_with fail
         go_quiet (fail)
         go_wp2
         go_roundw
         case rel => exact ⟨k + 1, _, by go_num, by omega, rfl, by rw [take_one HXK.out, take_one HYK.out, HT.out, HXY.out]⟩
         case measure => simp [intOf]; omega
       · have HXY : Hid (¬ x = y) := hxy
         have hb : ((x : Int) == y) = false := by simp [hxy]
         clear hxy
         go_wp2_with fail
         go_quiet (fail)
         go_wp2
         go_ret
         exact ⟨ret_bool (decide_eq_false (rows_no HXK.out HYK.out HXY.out)).symm, _, World.drewN_drewN ..⟩
     · have hki : ¬ (k : Int) < (nx : Int) := by omega
       have HE : Hid (xs = ys) := by
         have := HT.out
         rw [List.take_of_length_le (by rw [HN.out]; omega), List.take_of_length_le (by rw [HM.out]; omega)] at this
         exact this
       go_wp2
       go_ret
       exact ⟨ret_bool (decide_eq_true HE.out).symm, _, rfl⟩
  · have HNE : Hid (¬ xs = ys) := fun e => hlen (by rw [e])
    generalize hx : xs.length = nx at *
    generalize hy : ys.length = ny at *
    have hbl : ((nx : Int) == (ny : Int)) = false := by simp; omega
    clear hx hy hlen
    go_enter Tryd.func16, Tryd.ntmps16
    go_wp2
    go_ret
    exact ⟨ret_bool (decide_eq_false HNE.out).symm, 0, rfl⟩

set_option maxRecDepth 1000000 in
set_option maxHeartbeats 4000000 in
theorem refSameN_any (va vb : Value) (xs ys : List (Int × Bool)) (w : World) (ha : rowAt w va 2 nC xs) (hb : rowAt w vb 2 nC ys) (hn : xs.length ≤ 4294967296) :
    Calls Tryd.prog 17 #[va, vb] w fun e w' => e = .returned (.bool (decide (xs = ys))) ∧ ∃ n, w' = w.drewN n := by
  obtain ⟨oa, ca, rfl, h1⟩ := ha
  obtain ⟨ob, cb, rfl, h2⟩ := hb
  have H1 : Hid (∀ j x, xs[j]? = some x → ∃ g off, oa = some ⟨g, off, none⟩ ∧ ∀ i u, (nC x)[i]? = some u → w.cell? ⟨g, off + j * 2 + i, none⟩ = some u) := h1
  have H2 : Hid (∀ j x, ys[j]? = some x → ∃ g off, ob = some ⟨g, off, none⟩ ∧ ∀ i u, (nC x)[i]? = some u → w.cell? ⟨g, off + j * 2 + i, none⟩ = some u) := h2
  clear h1 h2
  by_cases hlen : xs.length = ys.length
  · generalize hx : xs.length = nx at *
    have HN : Hid (xs.length = nx) := hx
    rw [← hlen]
    have HM : Hid (ys.length = nx) := hlen.symm
    have hbl : ((nx : Int) == (nx : Int)) = true := by simp
    clear hx hlen
    go_enter Tryd.func17, Tryd.ntmps17
    go_wp2
    go_loopw [5] (fun i wr => ∃ k n : Nat, i = .int .i64 k ∧ k ≤ nx ∧ wr = w.drewN n ∧ xs.take k = ys.take k) (fun i _ => nx - (intOf i).toNat)
    case atStart => exact ⟨0, 0, rfl, by omega, rfl, by simp⟩
    case round =>
     obtain ⟨k, n, rfl, hk, rfl, ht⟩ := hrel
     have HT : Hid (xs.take k = ys.take k) := ht
     clear ht
     by_cases hlt : k < nx
     · have hki : (k : Int) < (nx : Int) := by omega
       obtain ⟨x, hxk⟩ : ∃ x, xs[k]? = some x := ⟨xs[k]'(by rw [HN.out]; exact hlt), List.getElem?_eq_getElem _⟩
       obtain ⟨y, hyk⟩ : ∃ y, ys[k]? = some y := ⟨ys[k]'(by rw [HM.out]; exact hlt), List.getElem?_eq_getElem _⟩
       obtain ⟨g, off, rfl, hcx⟩ := H1.out k x hxk
       obtain ⟨g', off', rfl, hcy⟩ := H2.out k y hyk
       have HXK : Hid (xs[k]? = some x) := hxk
       have HYK : Hid (ys[k]? = some y) := hyk
       have a0 := hcx 0 _ rfl
       have b0 := hcy 0 _ rfl
       rw [show off + k * 2 + 0 = off + k * 2 by omega] at a0
       rw [show off' + k * 2 + 0 = off' + k * 2 by omega] at b0
       obtain ⟨xn, xb⟩ := x
       obtain ⟨yn, yb⟩ := y
       have e1 := run_neqNd xn yn xb yb
       have e2 := eqGuardNd
       have a1 := hcx 1 _ rfl
       have b1 := hcy 1 _ rfl
       have HE : Hid (((xn, xb) = (yn, yb)) = (xn = yn ∧ xb = yb)) := by simp [Hid]
       clear H1 H2 hxk hyk hcx hcy
       by_cases hxy : (xn, xb) = (yn, yb)
       · have HXY : Hid ((xn, xb) = (yn, yb)) := hxy
         rw [decide_eq_true (by rw [← HE.out]; exact hxy)] at e1
         clear hxy
         go_wp2_with fail
         go_quiet (fail)
         go_wp2
         go_roundw
         case rel => exact ⟨k + 1, _, by go_num, by omega, rfl, by rw [take_one HXK.out, take_one HYK.out, HT.out, HXY.out]⟩
         case measure => simp [intOf]; omega
       · have HXY : Hid (¬ (xn, xb) = (yn, yb)) := hxy
         rw [decide_eq_false (by rw [← HE.out]; exact hxy)] at e1
         clear hxy
         go_wp2_with fail
         go_quiet (fail)
         go_wp2
         go_ret
         exact ⟨ret_bool (decide_eq_false (rows_no HXK.out HYK.out HXY.out)).symm, _, World.drewN_drewN ..⟩
     · have hki : ¬ (k : Int) < (nx : Int) := by omega
       have HE : Hid (xs = ys) := by
         have := HT.out
         rw [List.take_of_length_le (by rw [HN.out]; omega), List.take_of_length_le (by rw [HM.out]; omega)] at this
         exact this
       go_wp2
       go_ret
       exact ⟨ret_bool (decide_eq_true HE.out).symm, _, rfl⟩
  · have HNE : Hid (¬ xs = ys) := fun e => hlen (by rw [e])
    generalize hx : xs.length = nx at *
    generalize hy : ys.length = ny at *
    have hbl : ((nx : Int) == (ny : Int)) = false := by simp; omega
    clear hx hy hlen
    go_enter Tryd.func17, Tryd.ntmps17
    go_wp2
    go_ret
    exact ⟨ret_bool (decide_eq_false HNE.out).symm, 0, rfl⟩
end Go.Proofs.YtgiaicmhnkhbnaaDoor
