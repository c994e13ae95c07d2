/-
  What package slices finds in rows of points, routes, needs, numbers; pointAt, hasRoute, lacks, tooLong (package plan), each by a contract.
-/
import Derived.Test.YtbifcicipkhohaaDoorPlHas
namespace Go.Proofs.YtbifcicipkhohaaDoor
open Go.RowKit

def idxBy {α : Type} (p : α → Bool) : List α → Nat → Int
  | [], _ => -1
  | y :: l, k => if p y = true then (k : Int) else idxBy p l (k + 1)
theorem idxBy_any {α : Type} (p : α → Bool) : ∀ (l : List α) (k : Nat), decide (0 ≤ idxBy p l k) = l.any p
  | [], _ => rfl
  | y :: l, k => by
    rw [idxBy, List.any_cons]
    cases h : p y
    · rw [if_neg (by simp), idxBy_any p l (k + 1)]; rfl
    · rw [if_pos rfl]; simp
theorem idxBy_map {α : Type} (f : α → ByteArray) (x : ByteArray) : ∀ (l : List α) (k : Nat), idxBy (fun y => decide (f y = x)) l k = idxF x (l.map f) k
  | [], _ => rfl
  | y :: l, k => by
    rw [idxBy, List.map_cons, idxF, idxBy_map f x l (k + 1)]
    by_cases h : f y = x
    · rw [if_pos (by simp [h]), if_pos h.symm]
    · rw [if_neg (by simp [h]), if_neg (fun e => h e.symm)]

set_option maxHeartbeats 400000 in
theorem pointIs_any (nm x : ByteArray) (sec : Int) (B : Nat) (w : World) (hB : w.cell? ⟨B, 0, none⟩ = some (.string x)) :
    Calls Tryd.prog 81 #[.agg #[.string nm, .int .i64 sec], .pointer (some ⟨B, 0, none⟩)] w fun e w' => e = .returned (.bool (decide (nm = x))) ∧ Below w.heap.size w w' := by
  have hB' : (w.alloc (.cells #[.string nm, .int .i64 sec] 39)).cell? ⟨B, 0, none⟩ = some (.string x) := (((Below.refl _ w).alloc (Nat.le_refl _) _).cell (p := ⟨B, 0, none⟩) (World.block_lt_of_cell? w _ hB)).trans hB
  have HE : Hid ((nm.toList == x.toList) = decide (nm = x)) := toList_eq _ _
  go_enter Tryd.func81, Tryd.ntmps81
  go_wp2
  go_ret
  exact ⟨ret_bool HE.out, (Below.refl _ _).alloc (Nat.le_refl _) _⟩
set_option maxHeartbeats 400000 in
theorem routeIs_any (nm x : ByteArray) (a b : Int) (v0 v1 v2 : Value) (s0 : ∃ o n c, v0 = .slice o n c) (s1 : ∃ o n c, v1 = .slice o n c) (s2 : ∃ o n c, v2 = .slice o n c) (B : Nat) (w : World) (hB : w.cell? ⟨B, 0, none⟩ = some (.string x)) :
    Calls Tryd.prog 86 #[.agg #[.string nm, .int .i64 a, .int .i64 b, v0, v1, v2], .pointer (some ⟨B, 0, none⟩)] w fun e w' => e = .returned (.bool (decide (nm = x))) ∧ Below w.heap.size w w' := by
  obtain ⟨o0, n0, k0, rfl⟩ := s0
  obtain ⟨o1, n1, k1, rfl⟩ := s1
  obtain ⟨o2, n2, k2, rfl⟩ := s2
  have hB' : (w.alloc (.cells #[.string nm, .int .i64 a, .int .i64 b, .slice o0 n0 k0, .slice o1 n1 k1, .slice o2 n2 k2] 43)).cell? ⟨B, 0, none⟩ = some (.string x) := (((Below.refl _ w).alloc (Nat.le_refl _) _).cell (p := ⟨B, 0, none⟩) (World.block_lt_of_cell? w _ hB)).trans hB
  have HE : Hid ((nm.toList == x.toList) = decide (nm = x)) := toList_eq _ _
  go_enter Tryd.func86, Tryd.ntmps86
  go_wp2
  go_ret
  exact ⟨ret_bool HE.out, (Below.refl _ _).alloc (Nat.le_refl _) _⟩
set_option maxHeartbeats 400000 in
theorem noPoint_any (n : Int) (b : Bool) (w : World) :
    Calls Tryd.prog 87 #[.agg #[.int .i64 n, .bool b]] w fun e w' => e = .returned (.bool (decide (n = -1))) ∧ Below w.heap.size w w' := by
  have HE : Hid ((n == -1) = decide (n = -1)) := by rw [Hid, Bool.eq_iff_iff]; simp
  go_enter Tryd.func87, Tryd.ntmps87
  go_wp2
  go_ret
  exact ⟨ret_bool HE.out, (Below.refl _ _).alloc (Nat.le_refl _) _⟩

set_option maxRecDepth 1000000 in
set_option maxHeartbeats 1000000 in
theorem idxPoint_any (v : Value) (l : List (ByteArray × Int)) (x : ByteArray) (B : Nat) (w : World) (h : rowAt w v 2 pC l) (hl : l.length ≤ 4294967296) (hB : w.cell? ⟨B, 0, none⟩ = some (.string x)) :
    Calls Tryd.prog 80 #[v, .func (.func 81) #[] #[.pointer (some ⟨B, 0, none⟩)]] w fun e w' => e = .returned (.int .i64 (idxBy (fun y => decide (y.1 = x)) l 0)) ∧ Below w.heap.size w w' := by
  obtain ⟨oa, cap, rfl, h2⟩ := h
  have H2 : Hid (∀ j y, l[j]? = some y → ∃ g off, oa = some ⟨g, off, none⟩ ∧ ∀ i u, (pC y)[i]? = some u → w.cell? ⟨g, off + j * 2 + i, none⟩ = some u) := h2
  clear h2
  have HI : Hid (idxBy (fun y => decide (y.1 = x)) l 0 = idxBy (fun y => decide (y.1 = x)) l 0) := rfl
  generalize hans : idxBy (fun y => decide (y.1 = x)) l 0 = ans at *
  have HA : Hid (idxBy (fun y => decide (y.1 = x)) l 0 = ans) := hans
  clear HI hans
  generalize hn : l.length = n at *
  have HN : Hid (l.length = n) := hn
  clear hn
  go_enter Tryd.func80, Tryd.ntmps80
  go_wp2
  go_loopw [5, 8] (fun _ i wr => ∃ k : Nat, i = .int .i64 k ∧ k ≤ n ∧ idxBy (fun y => decide (y.1 = x)) (l.drop k) k = ans ∧ Below w.heap.size w wr) (fun _ i _ => n - (intOf i).toNat)
  case atStart => exact ⟨0, rfl, by omega, by rw [List.drop_zero]; exact HA.out, Below.refl _ _⟩
  case round =>
    obtain ⟨k, rfl, hk, hc, hbl⟩ := hrel
    have HC : Hid (idxBy (fun y => decide (y.1 = x)) (l.drop k) k = ans) := hc
    clear hc
    by_cases hlt : k < n
    · obtain ⟨y, hy⟩ : ∃ y, l[k]? = some y := ⟨l[k]'(by rw [HN.out]; exact hlt), List.getElem?_eq_getElem _⟩
      obtain ⟨g, off, rfl, hcell⟩ := H2.out k y hy
      have c0 := (hbl.cell (p := ⟨g, off + k * 2 + 0, none⟩) (World.block_lt_of_cell? w _ (hcell 0 _ rfl))).trans (hcell 0 _ rfl)
      have c1 := (hbl.cell (p := ⟨g, off + k * 2 + 1, none⟩) (World.block_lt_of_cell? w _ (hcell 1 _ rfl))).trans (hcell 1 _ rfl)
      simp only [Nat.add_zero] at c0 c1
      rw [drop_at hy, idxBy] at HC
      clear hcell hy
      have P := fun W => pointIs_any y.1 x y.2 B W
      generalize hp : decide (y.1 = x) = b at *
      cases b
      · rw [if_neg (by simp)] at HC
        go_wp2_with fail
        refine (P _ ((hbl.cell (p := ⟨B, 0, none⟩) (World.block_lt_of_cell? w _ hB)).trans hB)).mono ?_
        rintro e w2 ⟨rfl, hb2⟩
        have hbl2 : Below w.heap.size w w2 := hbl.trans (hb2.mono hbl.size)
        clear hb2 P
        go_wp2
        go_roundw
        case rel => exact ⟨k + 1, by go_num, by omega, HC.out, hbl2⟩
        case measure => simp [intOf]; omega
      · rw [if_pos rfl] at HC
        go_wp2_with fail
        refine (P _ ((hbl.cell (p := ⟨B, 0, none⟩) (World.block_lt_of_cell? w _ hB)).trans hB)).mono ?_
        rintro e w2 ⟨rfl, hb2⟩
        have hbl2 : Below w.heap.size w w2 := hbl.trans (hb2.mono hbl.size)
        clear hb2 P
        go_wp2
        go_ret
        exact ⟨by rw [← HC.out]; rfl, hbl2⟩
    · have h1 := HC.out
      rw [List.drop_of_length_le (by rw [HN.out]; omega), idxBy] at h1
      have H1 : Hid (-1 = ans) := h1
      clear h1
      go_wp2
      go_ret
      exact ⟨by rw [← H1.out]; rfl, hbl⟩

set_option maxRecDepth 1000000 in
set_option maxHeartbeats 1000000 in
theorem idxNeed_any (v : Value) (l : List (Int × Bool)) (w : World) (h : rowAt w v 2 nC l) (hl : l.length ≤ 4294967296) :
    Calls Tryd.prog 101 #[v, .func (.func 87) #[] #[]] w fun e w' => e = .returned (.int .i64 (idxBy (fun y => decide (y.1 = -1)) l 0)) ∧ Below w.heap.size w w' := by
  obtain ⟨oa, cap, rfl, h2⟩ := h
  have H2 : Hid (∀ j y, l[j]? = some y → ∃ g off, oa = some ⟨g, off, none⟩ ∧ ∀ i u, (nC y)[i]? = some u → w.cell? ⟨g, off + j * 2 + i, none⟩ = some u) := h2
  clear h2
  have HI : Hid (idxBy (fun y => decide (y.1 = -1)) l 0 = idxBy (fun y => decide (y.1 = -1)) l 0) := rfl
  generalize hans : idxBy (fun y => decide (y.1 = -1)) l 0 = ans at *
  have HA : Hid (idxBy (fun y => decide (y.1 = -1)) l 0 = ans) := hans
  clear HI hans
  generalize hn : l.length = n at *
  have HN : Hid (l.length = n) := hn
  clear hn
  go_enter Tryd.func101, Tryd.ntmps101
  go_wp2
  go_loopw [5, 8] (fun _ i wr => ∃ k : Nat, i = .int .i64 k ∧ k ≤ n ∧ idxBy (fun y => decide (y.1 = -1)) (l.drop k) k = ans ∧ Below w.heap.size w wr) (fun _ i _ => n - (intOf i).toNat)
  case atStart => exact ⟨0, rfl, by omega, by rw [List.drop_zero]; exact HA.out, Below.refl _ _⟩
  case round =>
    obtain ⟨k, rfl, hk, hc, hbl⟩ := hrel
    have HC : Hid (idxBy (fun y => decide (y.1 = -1)) (l.drop k) k = ans) := hc
    clear hc
    by_cases hlt : k < n
    · obtain ⟨y, hy⟩ : ∃ y, l[k]? = some y := ⟨l[k]'(by rw [HN.out]; exact hlt), List.getElem?_eq_getElem _⟩
      obtain ⟨g, off, rfl, hcell⟩ := H2.out k y hy
      have c0 := (hbl.cell (p := ⟨g, off + k * 2 + 0, none⟩) (World.block_lt_of_cell? w _ (hcell 0 _ rfl))).trans (hcell 0 _ rfl)
      have c1 := (hbl.cell (p := ⟨g, off + k * 2 + 1, none⟩) (World.block_lt_of_cell? w _ (hcell 1 _ rfl))).trans (hcell 1 _ rfl)
      simp only [Nat.add_zero] at c0 c1
      rw [drop_at hy, idxBy] at HC
      clear hcell hy
      have P := fun W => noPoint_any y.1 y.2 W
      generalize hp : decide (y.1 = -1) = b at *
      cases b
      · rw [if_neg (by simp)] at HC
        go_wp2_with fail
        refine (P _).mono ?_
        rintro e w2 ⟨rfl, hb2⟩
        have hbl2 : Below w.heap.size w w2 := hbl.trans (hb2.mono hbl.size)
        clear hb2 P
        go_wp2
        go_roundw
        case rel => exact ⟨k + 1, by go_num, by omega, HC.out, hbl2⟩
        case measure => simp [intOf]; omega
      · rw [if_pos rfl] at HC
        go_wp2_with fail
        refine (P _).mono ?_
        rintro e w2 ⟨rfl, hb2⟩
        have hbl2 : Below w.heap.size w w2 := hbl.trans (hb2.mono hbl.size)
        clear hb2 P
        go_wp2
        go_ret
        exact ⟨by rw [← HC.out]; rfl, hbl2⟩
    · have h1 := HC.out
      rw [List.drop_of_length_le (by rw [HN.out]; omega), idxBy] at h1
      have H1 : Hid (-1 = ans) := h1
      clear h1
      go_wp2
      go_ret
      exact ⟨by rw [← H1.out]; rfl, hbl⟩

set_option maxRecDepth 1000000 in
set_option maxHeartbeats 1000000 in
theorem idxRoute_any (v : Value) (l : List RtV) (x : ByteArray) (B : Nat) (w : World) (h : rowAt w v 6 rC l) (hl : l.length ≤ 4294967296) (hB : w.cell? ⟨B, 0, none⟩ = some (.string x)) (hsl : ∀ y ∈ l, (∃ o n c, y.2.1 = .slice o n c) ∧ (∃ o n c, y.2.2.1 = .slice o n c) ∧ ∃ o n c, y.2.2.2 = .slice o n c) :
    Calls Tryd.prog 99 #[v, .func (.func 86) #[] #[.pointer (some ⟨B, 0, none⟩)]] w fun e w' => e = .returned (.int .i64 (idxBy (fun y => decide (y.1.name = x)) l 0)) ∧ Below w.heap.size w w' := by
  have HSL : Hid (∀ y ∈ l, (∃ o n c, y.2.1 = .slice o n c) ∧ (∃ o n c, y.2.2.1 = .slice o n c) ∧ ∃ o n c, y.2.2.2 = .slice o n c) := hsl
  clear hsl
  obtain ⟨oa, cap, rfl, h2⟩ := h
  have H2 : Hid (∀ j y, l[j]? = some y → ∃ g off, oa = some ⟨g, off, none⟩ ∧ ∀ i u, (rC y)[i]? = some u → w.cell? ⟨g, off + j * 6 + i, none⟩ = some u) := h2
  clear h2
  have HI : Hid (idxBy (fun y => decide (y.1.name = x)) l 0 = idxBy (fun y => decide (y.1.name = x)) l 0) := rfl
  generalize hans : idxBy (fun y => decide (y.1.name = x)) l 0 = ans at *
  have HA : Hid (idxBy (fun y => decide (y.1.name = x)) l 0 = ans) := hans
  clear HI hans
  generalize hn : l.length = n at *
  have HN : Hid (l.length = n) := hn
  clear hn
  go_enter Tryd.func99, Tryd.ntmps99
  go_wp2
  go_loopw [5, 8] (fun _ i wr => ∃ k : Nat, i = .int .i64 k ∧ k ≤ n ∧ idxBy (fun y => decide (y.1.name = x)) (l.drop k) k = ans ∧ Below w.heap.size w wr) (fun _ i _ => n - (intOf i).toNat)
  case atStart => exact ⟨0, rfl, by omega, by rw [List.drop_zero]; exact HA.out, Below.refl _ _⟩
  case round =>
    obtain ⟨k, rfl, hk, hc, hbl⟩ := hrel
    have HC : Hid (idxBy (fun y => decide (y.1.name = x)) (l.drop k) k = ans) := hc
    clear hc
    by_cases hlt : k < n
    · obtain ⟨y, hy⟩ : ∃ y, l[k]? = some y := ⟨l[k]'(by rw [HN.out]; exact hlt), List.getElem?_eq_getElem _⟩
      obtain ⟨g, off, rfl, hcell⟩ := H2.out k y hy
      have hin := HSL.out y (List.mem_of_getElem? hy)
      obtain ⟨rt, z0, z1, z2⟩ := y
      simp only at hin
      obtain ⟨⟨o0, n0, k0, rfl⟩, ⟨o1, n1, k1, rfl⟩, ⟨o2, n2, k2, rfl⟩⟩ := hin
      have c0 := (hbl.cell (p := ⟨g, off + k * 6 + 0, none⟩) (World.block_lt_of_cell? w _ (hcell 0 _ rfl))).trans (hcell 0 _ rfl)
      have c1 := (hbl.cell (p := ⟨g, off + k * 6 + 1, none⟩) (World.block_lt_of_cell? w _ (hcell 1 _ rfl))).trans (hcell 1 _ rfl)
      have c2 := (hbl.cell (p := ⟨g, off + k * 6 + 2, none⟩) (World.block_lt_of_cell? w _ (hcell 2 _ rfl))).trans (hcell 2 _ rfl)
      have c3 := (hbl.cell (p := ⟨g, off + k * 6 + 3, none⟩) (World.block_lt_of_cell? w _ (hcell 3 _ rfl))).trans (hcell 3 _ rfl)
      have c4 := (hbl.cell (p := ⟨g, off + k * 6 + 4, none⟩) (World.block_lt_of_cell? w _ (hcell 4 _ rfl))).trans (hcell 4 _ rfl)
      have c5 := (hbl.cell (p := ⟨g, off + k * 6 + 5, none⟩) (World.block_lt_of_cell? w _ (hcell 5 _ rfl))).trans (hcell 5 _ rfl)
      simp only [Nat.add_zero] at c0 c1 c2 c3 c4 c5
      rw [drop_at hy, idxBy] at HC
      clear hcell hy
      have P := fun W => routeIs_any rt.name x rt.frm rt.to (.slice o0 n0 k0) (.slice o1 n1 k1) (.slice o2 n2 k2) ⟨_, _, _, rfl⟩ ⟨_, _, _, rfl⟩ ⟨_, _, _, rfl⟩ B W
      generalize hp : decide (rt.name = x) = b at *
      cases b
      · rw [if_neg (by simp)] at HC
        go_wp2_with fail
        refine (P _ ((hbl.cell (p := ⟨B, 0, none⟩) (World.block_lt_of_cell? w _ hB)).trans hB)).mono ?_
        rintro e w2 ⟨rfl, hb2⟩
        have hbl2 : Below w.heap.size w w2 := hbl.trans (hb2.mono hbl.size)
        clear hb2 P
        go_wp2
        go_roundw
        case rel => exact ⟨k + 1, by go_num, by omega, HC.out, hbl2⟩
        case measure => simp [intOf]; omega
      · rw [if_pos rfl] at HC
        go_wp2_with fail
        refine (P _ ((hbl.cell (p := ⟨B, 0, none⟩) (World.block_lt_of_cell? w _ hB)).trans hB)).mono ?_
        rintro e w2 ⟨rfl, hb2⟩
        have hbl2 : Below w.heap.size w w2 := hbl.trans (hb2.mono hbl.size)
        clear hb2 P
        go_wp2
        go_ret
        exact ⟨by rw [← HC.out]; rfl, hbl2⟩
    · have h1 := HC.out
      rw [List.drop_of_length_le (by rw [HN.out]; omega), idxBy] at h1
      have H1 : Hid (-1 = ans) := h1
      clear h1
      go_wp2
      go_ret
      exact ⟨by rw [← H1.out]; rfl, hbl⟩

end Go.Proofs.YtbifcicipkhohaaDoor
