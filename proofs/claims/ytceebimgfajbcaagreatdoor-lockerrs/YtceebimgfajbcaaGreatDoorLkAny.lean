/-
  Package lock: is one of some routes not idle? is there what is no position? lies a point wrong that may not be moved? by contracts.
-/
import Derived.Test.YtceebimgfajbcaaGreatDoorLkHold
namespace Go.Proofs.YtceebimgfajbcaaGreatDoor
open Go.RowKit

set_option maxRecDepth 1000000 in
set_option maxHeartbeats 2000000 in
theorem indexBusy_any (v : Value) (l : List Int) (p : Int → Bool) (b : Nat) (w : World) (h : rowAt w v 1 iC l) (hl : l.length ≤ 4294967296)
    (CL : ∀ x W, x ∈ l → Below w.heap.size w W → Calls Tryz.prog 85 #[.int .i64 x, .pointer (some ⟨b, 0, none⟩)] W fun e w' => e = .returned (.bool (p x)) ∧ Below W.heap.size W w') :
    Calls Tryz.prog 101 #[v, .func (.func 85) #[] #[.pointer (some ⟨b, 0, none⟩)]] w fun e w' => e = .returned (.int .i64 (atF p l 0)) ∧ Below w.heap.size w w' := by
  obtain ⟨oa, cap, rfl, h2⟩ := h
  have H2 : Hid (∀ j y, l[j]? = some y → ∃ g off, oa = some ⟨g, off, none⟩ ∧ ∀ i u, (iC y)[i]? = some u → w.cell? ⟨g, off + j * 1 + i, none⟩ = some u) := h2
  clear h2
  have CLH : Hid (∀ x W, x ∈ l → Below w.heap.size w W → Calls Tryz.prog 85 #[.int .i64 x, .pointer (some ⟨b, 0, none⟩)] W fun e w' => e = .returned (.bool (p x)) ∧ Below W.heap.size W w') := CL
  clear CL
  generalize hA : atF p l 0 = ans at *
  have HI : Hid (atF p l 0 = ans) := hA
  clear hA
  generalize hn : l.length = n at *
  have HN : Hid (l.length = n) := hn
  clear hn
  go_enter Tryz.func101, Tryz.ntmps101
  go_wp2
  go_loopg [5, 8] n (fun gk _ i wr => ∃ k : Nat, gk = n - k ∧ i = .int .i64 k ∧ k ≤ n ∧ atF p (l.drop k) k = atF p l 0 ∧ Below w.heap.size w wr)
  case atStart => exact ⟨0, rfl, rfl, by omega, by simp, Below.refl _ _⟩
  case round =>
    obtain ⟨k, rfl, rfl, hk, hc, hbl⟩ := hrel
    have HC : Hid (atF p (l.drop k) k = atF p l 0) := hc
    clear hc
    by_cases hlt : k < n
    · obtain ⟨y, hy⟩ : ∃ y, l[k]? = some y := ⟨l[k]'(by rw [HN.out]; exact hlt), List.getElem?_eq_getElem _⟩
      obtain ⟨g, off, rfl, hcell⟩ := H2.out k y hy
      have hki : (k : Int) < (n : Int) := by omega
      rw [drop_at hy, atF] at HC
      have CY : Hid (∀ W, Below w.heap.size w W → Calls Tryz.prog 85 #[.int .i64 y, .pointer (some ⟨b, 0, none⟩)] W fun e w' => e = .returned (.bool (p y)) ∧ Below W.heap.size W w') := fun W hW => CLH.out y W (List.mem_of_getElem? hy) hW
      have a0 := hcell 0 _ rfl
      simp only [Nat.mul_one, Nat.add_zero] at a0
      have d0 := (hbl.cell (World.block_lt_of_cell? _ _ a0)).trans a0
      clear hcell hy a0
      generalize hpy : p y = py at *
      clear hpy
      cases py
      · rw [if_neg (by simp)] at HC
        go_wp2_with fail
        refine (CY.out _ hbl).mono ?_
        rintro e w1 ⟨rfl, hb1⟩
        have hb2 := hbl.trans (hb1.mono hbl.size)
        clear hb1
        go_wp2
        go_roundg (n - (k + 1))
        case rel => exact ⟨k + 1, rfl, by go_num, by omega, HC.out, hb2⟩
        case measure => omega
      · rw [if_pos rfl] at HC
        go_wp2_with fail
        refine (CY.out _ hbl).mono ?_
        rintro e w1 ⟨rfl, hb1⟩
        have hb2 := hbl.trans (hb1.mono hbl.size)
        clear hb1
        go_wp2
        go_ret
        exact ⟨by rw [← HI.out, ← HC.out]; rfl, hb2⟩
    · have h1 := HC.out
      rw [List.drop_of_length_le (by rw [HN.out]; omega), atF] at h1
      have H1 : Hid (-1 = atF p l 0) := h1
      clear h1
      go_wp2
      go_ret
      exact ⟨by rw [← HI.out, ← H1.out]; rfl, hbl⟩

theorem containsBusy_any (v : Value) (l : List Int) (p : Int → Bool) (b : Nat) (w : World) (h : rowAt w v 1 iC l) (hl : l.length ≤ 4294967296)
    (CL : ∀ x W, x ∈ l → Below w.heap.size w W → Calls Tryz.prog 85 #[.int .i64 x, .pointer (some ⟨b, 0, none⟩)] W fun e w' => e = .returned (.bool (p x)) ∧ Below W.heap.size W w') :
    Calls Tryz.prog 83 #[v, .func (.func 85) #[] #[.pointer (some ⟨b, 0, none⟩)]] w fun e w' => e = .returned (.bool (l.any p)) ∧ Below w.heap.size w w' := by
  have HI : decide (0 ≤ atF p l 0) = l.any p := atF_ge _ _ _
  have C := indexBusy_any v l p b w h hl CL
  rw [← HI]
  generalize atF p l 0 = n at *
  clear h HI CL
  go_enter Tryz.func83, Tryz.ntmps83
  go_wp2_with fail
  refine C.mono ?_
  rintro e w1 ⟨rfl, hb⟩
  go_wp2
  go_ret
  exact ⟨rfl, hb⟩

set_option maxRecDepth 1000000 in
set_option maxHeartbeats 2000000 in
theorem indexNoPos_any (v : Value) (l : List Int) (p : Int → Bool) (w : World) (h : rowAt w v 1 iC l) (hl : l.length ≤ 4294967296)
    (CL : ∀ x W, x ∈ l → Below w.heap.size w W → Calls Tryz.prog 84 #[.int .i64 x] W fun e w' => e = .returned (.bool (p x)) ∧ Below W.heap.size W w') :
    Calls Tryz.prog 101 #[v, .func (.func 84) #[] #[]] w fun e w' => e = .returned (.int .i64 (atF p l 0)) ∧ Below w.heap.size w w' := by
  obtain ⟨oa, cap, rfl, h2⟩ := h
  have H2 : Hid (∀ j y, l[j]? = some y → ∃ g off, oa = some ⟨g, off, none⟩ ∧ ∀ i u, (iC y)[i]? = some u → w.cell? ⟨g, off + j * 1 + i, none⟩ = some u) := h2
  clear h2
  have CLH : Hid (∀ x W, x ∈ l → Below w.heap.size w W → Calls Tryz.prog 84 #[.int .i64 x] W fun e w' => e = .returned (.bool (p x)) ∧ Below W.heap.size W w') := CL
  clear CL
  generalize hA : atF p l 0 = ans at *
  have HI : Hid (atF p l 0 = ans) := hA
  clear hA
  generalize hn : l.length = n at *
  have HN : Hid (l.length = n) := hn
  clear hn
  go_enter Tryz.func101, Tryz.ntmps101
  go_wp2
  go_loopg [5, 8] n (fun gk _ i wr => ∃ k : Nat, gk = n - k ∧ i = .int .i64 k ∧ k ≤ n ∧ atF p (l.drop k) k = atF p l 0 ∧ Below w.heap.size w wr)
  case atStart => exact ⟨0, rfl, rfl, by omega, by simp, Below.refl _ _⟩
  case round =>
    obtain ⟨k, rfl, rfl, hk, hc, hbl⟩ := hrel
    have HC : Hid (atF p (l.drop k) k = atF p l 0) := hc
    clear hc
    by_cases hlt : k < n
    · obtain ⟨y, hy⟩ : ∃ y, l[k]? = some y := ⟨l[k]'(by rw [HN.out]; exact hlt), List.getElem?_eq_getElem _⟩
      obtain ⟨g, off, rfl, hcell⟩ := H2.out k y hy
      have hki : (k : Int) < (n : Int) := by omega
      rw [drop_at hy, atF] at HC
      have CY : Hid (∀ W, Below w.heap.size w W → Calls Tryz.prog 84 #[.int .i64 y] W fun e w' => e = .returned (.bool (p y)) ∧ Below W.heap.size W w') := fun W hW => CLH.out y W (List.mem_of_getElem? hy) hW
      have a0 := hcell 0 _ rfl
      simp only [Nat.mul_one, Nat.add_zero] at a0
      have d0 := (hbl.cell (World.block_lt_of_cell? _ _ a0)).trans a0
      clear hcell hy a0
      generalize hpy : p y = py at *
      clear hpy
      cases py
      · rw [if_neg (by simp)] at HC
        go_wp2_with fail
        refine (CY.out _ hbl).mono ?_
        rintro e w1 ⟨rfl, hb1⟩
        have hb2 := hbl.trans (hb1.mono hbl.size)
        clear hb1
        go_wp2
        go_roundg (n - (k + 1))
        case rel => exact ⟨k + 1, rfl, by go_num, by omega, HC.out, hb2⟩
        case measure => omega
      · rw [if_pos rfl] at HC
        go_wp2_with fail
        refine (CY.out _ hbl).mono ?_
        rintro e w1 ⟨rfl, hb1⟩
        have hb2 := hbl.trans (hb1.mono hbl.size)
        clear hb1
        go_wp2
        go_ret
        exact ⟨by rw [← HI.out, ← HC.out]; rfl, hb2⟩
    · have h1 := HC.out
      rw [List.drop_of_length_le (by rw [HN.out]; omega), atF] at h1
      have H1 : Hid (-1 = atF p l 0) := h1
      clear h1
      go_wp2
      go_ret
      exact ⟨by rw [← HI.out, ← H1.out]; rfl, hbl⟩

theorem containsNoPos_any (v : Value) (l : List Int) (p : Int → Bool) (w : World) (h : rowAt w v 1 iC l) (hl : l.length ≤ 4294967296)
    (CL : ∀ x W, x ∈ l → Below w.heap.size w W → Calls Tryz.prog 84 #[.int .i64 x] W fun e w' => e = .returned (.bool (p x)) ∧ Below W.heap.size W w') :
    Calls Tryz.prog 83 #[v, .func (.func 84) #[] #[]] w fun e w' => e = .returned (.bool (l.any p)) ∧ Below w.heap.size w w' := by
  have HI : decide (0 ≤ atF p l 0) = l.any p := atF_ge _ _ _
  have C := indexNoPos_any v l p w h hl CL
  rw [← HI]
  generalize atF p l 0 = n at *
  clear h HI CL
  go_enter Tryz.func83, Tryz.ntmps83
  go_wp2_with fail
  refine C.mono ?_
  rintro e w1 ⟨rfl, hb⟩
  go_wp2
  go_ret
  exact ⟨rfl, hb⟩

set_option maxRecDepth 1000000 in
set_option maxHeartbeats 2000000 in
theorem indexBar_any (v : Value) (l : List (Int × Bool)) (p : (Int × Bool) → Bool) (b : Nat) (b2 : Nat) (b3 : Nat) (w : World) (h : rowAt w v 2 nC l) (hl : l.length ≤ 4294967296)
    (CL : ∀ x W, x ∈ l → Below w.heap.size w W → Calls Tryz.prog 87 #[.agg #[.int .i64 x.1, .bool x.2], .pointer (some ⟨b, 0, none⟩), .pointer (some ⟨b2, 0, none⟩), .pointer (some ⟨b3, 0, none⟩)] W fun e w' => e = .returned (.bool (p x)) ∧ Below W.heap.size W w') :
    Calls Tryz.prog 102 #[v, .func (.func 87) #[] #[.pointer (some ⟨b, 0, none⟩), .pointer (some ⟨b2, 0, none⟩), .pointer (some ⟨b3, 0, none⟩)]] w fun e w' => e = .returned (.int .i64 (atF p l 0)) ∧ Below w.heap.size w w' := by
  obtain ⟨oa, cap, rfl, h2⟩ := h
  have H2 : Hid (∀ j y, l[j]? = some y → ∃ g off, oa = some ⟨g, off, none⟩ ∧ ∀ i u, (nC y)[i]? = some u → w.cell? ⟨g, off + j * 2 + i, none⟩ = some u) := h2
  clear h2
  have CLH : Hid (∀ x W, x ∈ l → Below w.heap.size w W → Calls Tryz.prog 87 #[.agg #[.int .i64 x.1, .bool x.2], .pointer (some ⟨b, 0, none⟩), .pointer (some ⟨b2, 0, none⟩), .pointer (some ⟨b3, 0, none⟩)] W fun e w' => e = .returned (.bool (p x)) ∧ Below W.heap.size W w') := CL
  clear CL
  generalize hA : atF p l 0 = ans at *
  have HI : Hid (atF p l 0 = ans) := hA
  clear hA
  generalize hn : l.length = n at *
  have HN : Hid (l.length = n) := hn
  clear hn
  go_enter Tryz.func102, Tryz.ntmps102
  go_wp2
  go_loopg [5, 8] n (fun gk _ i wr => ∃ k : Nat, gk = n - k ∧ i = .int .i64 k ∧ k ≤ n ∧ atF p (l.drop k) k = atF p l 0 ∧ Below w.heap.size w wr)
  case atStart => exact ⟨0, rfl, rfl, by omega, by simp, Below.refl _ _⟩
  case round =>
    obtain ⟨k, rfl, rfl, hk, hc, hbl⟩ := hrel
    have HC : Hid (atF p (l.drop k) k = atF p l 0) := hc
    clear hc
    by_cases hlt : k < n
    · obtain ⟨y, hy⟩ : ∃ y, l[k]? = some y := ⟨l[k]'(by rw [HN.out]; exact hlt), List.getElem?_eq_getElem _⟩
      obtain ⟨g, off, rfl, hcell⟩ := H2.out k y hy
      have hki : (k : Int) < (n : Int) := by omega
      rw [drop_at hy, atF] at HC
      have CY : Hid (∀ W, Below w.heap.size w W → Calls Tryz.prog 87 #[.agg #[.int .i64 y.1, .bool y.2], .pointer (some ⟨b, 0, none⟩), .pointer (some ⟨b2, 0, none⟩), .pointer (some ⟨b3, 0, none⟩)] W fun e w' => e = .returned (.bool (p y)) ∧ Below W.heap.size W w') := fun W hW => CLH.out y W (List.mem_of_getElem? hy) hW
      have a0 := hcell 0 _ rfl
      have a1 := hcell 1 _ rfl
      have d1 := (hbl.cell (World.block_lt_of_cell? _ _ a1)).trans a1
      clear a1
      simp only [Nat.add_zero] at a0
      have d0 := (hbl.cell (World.block_lt_of_cell? _ _ a0)).trans a0
      clear hcell hy a0
      generalize hpy : p y = py at *
      obtain ⟨y1, y2⟩ := y
      simp only at d0 d1 CY
      clear hpy
      cases py
      · rw [if_neg (by simp)] at HC
        go_wp2_with fail
        refine (CY.out _ hbl).mono ?_
        rintro e w1 ⟨rfl, hb1⟩
        have hb2 := hbl.trans (hb1.mono hbl.size)
        clear hb1
        go_wp2
        go_roundg (n - (k + 1))
        case rel => exact ⟨k + 1, rfl, by go_num, by omega, HC.out, hb2⟩
        case measure => omega
      · rw [if_pos rfl] at HC
        go_wp2_with fail
        refine (CY.out _ hbl).mono ?_
        rintro e w1 ⟨rfl, hb1⟩
        have hb2 := hbl.trans (hb1.mono hbl.size)
        clear hb1
        go_wp2
        go_ret
        exact ⟨by rw [← HI.out, ← HC.out]; rfl, hb2⟩
    · have h1 := HC.out
      rw [List.drop_of_length_le (by rw [HN.out]; omega), atF] at h1
      have H1 : Hid (-1 = atF p l 0) := h1
      clear h1
      go_wp2
      go_ret
      exact ⟨by rw [← HI.out, ← H1.out]; rfl, hbl⟩

theorem containsBar_any (v : Value) (l : List (Int × Bool)) (p : (Int × Bool) → Bool) (b : Nat) (b2 : Nat) (b3 : Nat) (w : World) (h : rowAt w v 2 nC l) (hl : l.length ≤ 4294967296)
    (CL : ∀ x W, x ∈ l → Below w.heap.size w W → Calls Tryz.prog 87 #[.agg #[.int .i64 x.1, .bool x.2], .pointer (some ⟨b, 0, none⟩), .pointer (some ⟨b2, 0, none⟩), .pointer (some ⟨b3, 0, none⟩)] W fun e w' => e = .returned (.bool (p x)) ∧ Below W.heap.size W w') :
    Calls Tryz.prog 86 #[v, .func (.func 87) #[] #[.pointer (some ⟨b, 0, none⟩), .pointer (some ⟨b2, 0, none⟩), .pointer (some ⟨b3, 0, none⟩)]] w fun e w' => e = .returned (.bool (l.any p)) ∧ Below w.heap.size w w' := by
  have HI : decide (0 ≤ atF p l 0) = l.any p := atF_ge _ _ _
  have C := indexBar_any v l p b b2 b3 w h hl CL
  rw [← HI]
  generalize atF p l 0 = n at *
  clear h HI CL
  go_enter Tryz.func86, Tryz.ntmps86
  go_wp2_with fail
  refine C.mono ?_
  rintro e w1 ⟨rfl, hb⟩
  go_wp2
  go_ret
  exact ⟨rfl, hb⟩

theorem isNoPosition_any (n : Int) (w : World) :
    Calls Tryz.prog 84 #[.int .i64 n] w fun e w' => e = .returned (.bool (decide (n < 0 ∨ 2 < n))) ∧ Below w.heap.size w w' := by
  by_cases h0 : n = 0
  · subst h0
    go_enter Tryz.func84, Tryz.ntmps84
    go_wp2
    go_ret
    exact ⟨rfl, Below.refl _ _⟩
  by_cases h1 : n = 1
  · subst h1
    go_enter Tryz.func84, Tryz.ntmps84
    go_wp2
    go_ret
    exact ⟨rfl, Below.refl _ _⟩
  have d0 : (n == 0) = false := by simp [h0]
  have d1 : (n == 1) = false := by simp [h1]
  have e0 : (n != 0) = true := by simp [h0]
  have e1 : (n != 1) = true := by simp [h1]
  go_enter Tryz.func84, Tryz.ntmps84
  go_wp2
  go_ret
  exact ⟨ret_bool (by rw [Bool.eq_iff_iff]; simp; omega), Below.refl _ _⟩

theorem busy1_any (u : Value) (ss : List St) (i : Int) (b : Nat) (w : World) (hu : rowAt w u 4 stC ss) (hb : w.cell? ⟨b, 0, none⟩ = some u) (hi : 0 ≤ i ∧ i < (ss.length : Nat)) :
    Calls Tryz.prog 85 #[.int .i64 i, .pointer (some ⟨b, 0, none⟩)] w fun e w' => e = .returned (.bool (decide ((stAt ss i).1 ≠ 0))) ∧ Below w.heap.size w w' := by
  obtain ⟨k, rfl, hk⟩ := nat_of hi
  obtain ⟨s, hs⟩ := at_of hk
  obtain ⟨o, c, rfl, q⟩ := hu
  obtain ⟨g, f, rfl, a0, -, -, -⟩ := row_st (w := w) ⟨o, c, rfl, q⟩ k s hs
  rw [stAt_at hs]
  have hki : (k : Int) < (ss.length : Int) := by omega
  clear q hs hi hk
  generalize ss.length = n at *
  go_enter Tryz.func85, Tryz.ntmps85
  go_wp2
  go_ret
  exact ⟨ret_bool (by rw [Bool.eq_iff_iff]; simp), Below.refl _ _⟩

set_option maxRecDepth 1000000 in
set_option maxHeartbeats 2000000 in
theorem anyBusy_any (u v : Value) (ss : List St) (rs : List Int) (w : World) (hu : rowAt w u 4 stC ss) (hv : rowAt w v 1 iC rs) (hi : ∀ i ∈ rs, 0 ≤ i ∧ i < (ss.length : Nat)) (hl : rs.length ≤ 4294967296) :
    Calls Tryz.prog 59 #[u, v] w fun e w' => e = .returned (.bool (busyB ss rs)) ∧ Below w.heap.size w w' := by
  have hb1 : Below w.heap.size w (w.alloc (.cells #[u] 41)) := (Below.refl _ _).alloc (Nat.le_refl _) _
  have hc : (w.alloc (.cells #[u] 41)).cell? ⟨w.heap.size, 0, none⟩ = some u := cells1 (blk_new w (.cells #[u] 41))
  have hu1 := hu.below hb1
  have D : Hid (Calls Tryz.prog 83 #[v, .func (.func 85) #[] #[.pointer (some ⟨w.heap.size, 0, none⟩)]] (w.alloc (.cells #[u] 41)) fun e w' => e = .returned (.bool (busyB ss rs)) ∧ Below (w.alloc (.cells #[u] 41)).heap.size (w.alloc (.cells #[u] 41)) w') :=
    containsBusy_any v rs _ w.heap.size _ (hv.below hb1) hl fun x W hx hW => busy1_any u ss x w.heap.size W (hu1.below hW) (up_cell hW hc) (hi x hx)
  have HB : Hid (Below w.heap.size w (w.alloc (.cells #[u] 41))) := hb1
  generalize busyB ss rs = ans at *
  obtain ⟨o, c, rfl, _⟩ := hv
  obtain ⟨o', c', rfl, _⟩ := hu
  clear hb1 hc hu1 hi hl
  generalize ss.length = n at *
  generalize rs.length = m at *
  go_enter Tryz.func59, Tryz.ntmps59
  go_wp2_with fail
  refine D.out.mono ?_
  rintro e w2 ⟨rfl, hb2⟩
  go_wp2
  go_ret
  exact ⟨rfl, HB.out.trans (hb2.mono HB.out.size)⟩

def posB (n : Int) : Bool := decide (n < 0 ∨ 2 < n)
/-- May the field tell this? -/
def inB2 (occ : List Bool) (lies : List Int) (ns np : Int) : Bool := decide ((occ.length : Int) = ns) && (decide ((lies.length : Int) = np) && !(lies.any posB))

set_option maxRecDepth 1000000 in
set_option maxHeartbeats 2000000 in
theorem isIn_any (v : Nat → Value) (occ : List Bool) (lies : List Int) (ns np : Int) (w : World) (h : InRd w v occ lies) (hl : lies.length ≤ 4294967296) :
    Calls Tryz.prog 58 #[.agg #[v 0, v 1], .int .i64 ns, .int .i64 np] w fun e w' => e = .returned (.bool (inB2 occ lies ns np)) ∧ Below w.heap.size w w' := by
  obtain ⟨o0, c0, e0, _⟩ := h.o
  have hbl : Below w.heap.size w (w.alloc (.cells #[v 0, v 1] 38)) := (Below.refl _ _).alloc (Nat.le_refl _) _
  have D := containsNoPos_any (v 1) lies posB (w.alloc (.cells #[v 0, v 1] 38)) (h.l.below hbl) hl fun x W _ _ => isNoPosition_any x W
  have HB : Hid (Below w.heap.size w (w.alloc (.cells #[v 0, v 1] 38))) := hbl
  obtain ⟨o1, c1, e1, _⟩ := h.l
  have HF : Hid (inB2 occ lies ns np = (decide ((occ.length : Int) = ns) && (decide ((lies.length : Int) = np) && !(lies.any posB)))) := rfl
  generalize inB2 occ lies ns np = ans at *
  rw [e0, e1] at HB D ⊢
  have HDD : Hid (Calls Tryz.prog 83 #[.slice o1 lies.length c1, .func (.func 84) #[] #[]] (w.alloc (.cells #[.slice o0 occ.length c0, .slice o1 lies.length c1] 38)) fun e w' => e = .returned (.bool (lies.any posB)) ∧ Below (w.alloc (.cells #[.slice o0 occ.length c0, .slice o1 lies.length c1] 38)).heap.size (w.alloc (.cells #[.slice o0 occ.length c0, .slice o1 lies.length c1] 38)) w') := D
  clear h hbl hl e0 e1 D
  generalize lies.any posB = bad at *
  generalize occ.length = n0 at *
  generalize lies.length = n1 at *
  by_cases h0 : (n0 : Int) = ns
  · have d0 : ((n0 : Int) == ns) = true := by simp [h0]
    by_cases h1 : (n1 : Int) = np
    · have d1 : ((n1 : Int) == np) = true := by simp [h1]
      have HA : Hid (ans = !bad) := by show _ = _; rw [HF.out]; simp [h0, h1]
      clear h0 h1
      go_enter Tryz.func58, Tryz.ntmps58
      go_wp2_with fail
      refine HDD.out.mono ?_
      rintro e w2 ⟨rfl, hb2⟩
      go_wp2
      go_ret
      exact ⟨ret_bool HA.out.symm, HB.out.trans (hb2.mono HB.out.size)⟩
    · have d1 : ((n1 : Int) == np) = false := by simp [h1]
      have HA : Hid (ans = false) := by show _ = _; rw [HF.out]; simp [h1]
      clear h0 h1
      go_enter Tryz.func58, Tryz.ntmps58
      go_wp2
      go_ret
      exact ⟨ret_bool HA.out.symm, HB.out⟩
  · have d0 : ((n0 : Int) == ns) = false := by simp [h0]
    have HA : Hid (ans = false) := by show _ = _; rw [HF.out]; simp [h0]
    clear h0
    go_enter Tryz.func58, Tryz.ntmps58
    go_wp2
    go_ret
    exact ⟨ret_bool HA.out.symm, HB.out⟩

set_option maxRecDepth 1000000 in
set_option maxHeartbeats 2000000 in
theorem mayIn_any (kb : Nat) (u : Nat → Value) (ns ng : Nat) (pts : List Int) (ws : List WyV) (ss : List St) (v : Nat → Value) (occ : List Bool) (lies : List Int) (w : World) (h : LkRd w kb u ns ng pts ws ss) (hin : InRd w v occ lies) (hl : lies.length ≤ 4294967296) :
    Calls Tryz.prog 27 #[.pointer (some ⟨kb, 0, none⟩), .agg #[v 0, v 1]] w fun e w' => e = .returned (.bool (inB2 occ lies ns pts.length)) ∧ Below w.heap.size w w' := by
  have D : Hid (∀ W, Below w.heap.size w W → Calls Tryz.prog 58 #[.agg #[v 0, v 1], .int .i64 (ns : Nat), .int .i64 (pts.length : Nat)] W fun e w' => e = .returned (.bool (inB2 occ lies ns pts.length)) ∧ Below W.heap.size W w') := fun W hW => isIn_any v occ lies ns pts.length W (hin.below hW) hl
  have h0 := h.c0
  have h2 := h.c2
  obtain ⟨o2, c2, e2, _⟩ := h.p
  obtain ⟨o0, d0, e0, _⟩ := hin.o
  obtain ⟨o1, d1, e1, _⟩ := hin.l
  rw [e2] at h2
  rw [e0, e1] at D ⊢
  clear h hin e0 e1 e2
  generalize inB2 occ lies ns pts.length = ans at *
  generalize occ.length = n0 at *
  generalize lies.length = n1 at *
  generalize pts.length = n2 at *
  have hbl : Below w.heap.size w (w.alloc (.cells #[.slice o0 n0 d0, .slice o1 n1 d1] 38)) := (Below.refl _ _).alloc (Nat.le_refl _) _
  obtain ⟨x0, x1⟩ := cells2 (blk_new w (.cells #[.slice o0 n0 d0, .slice o1 n1 d1] 38))
  have x2 := up_cell hbl h0
  have x3 := up_cell hbl h2
  have HB : Hid (Below w.heap.size w (w.alloc (.cells #[.slice o0 n0 d0, .slice o1 n1 d1] 38))) := hbl
  clear hbl h0 h2
  go_enter Tryz.func27, Tryz.ntmps27
  go_wp2_with fail
  generalize w.alloc (.cells #[.slice o0 n0 d0, .slice o1 n1 d1] 38) = w1 at *
  have y0 := ext_cell x0
  have y1 := ext_cell x1
  have y2 := ext_cell x2
  have y3 := ext_cell x3
  haveI := ext_some w1
  have HB1 : Hid (Below w1.heap.size w1 w1.drew) := (Below.refl _ _).drew
  clear x0 x1 x2 x3
  refine wp_region_mix_lex (C := fun W => ∃ y : Ext w1, W = y.z) (by kernel_rfl) (by kernel_rfl) (by kernel_rfl) (by kernel_rfl) ⟨⟨_, (Below.refl _ _).drew⟩, rfl⟩ ?_
  (repeat (first | (with_reducible refine mix_read (by kernel_rfl) ?_; go_big_quiet_want; go_big_quiet_op; go_big_quiet_on; with_reducible refine wpQuiet_nil ?_) | (with_reducible refine mix_pass (by kernel_rfl) ?_; go_big_quiet_skip; with_reducible refine wpQuiet_nil ?_)))
  with_reducible refine mix_call (by kernel_rfl) (by kernel_rfl) ((D.out _ (HB.out.trans (HB1.out.mono HB.out.size))).mono ?_) (by kernel_rfl)
  rintro e w2 ⟨rfl, hb2⟩
  have HB2 : Hid (Below w1.heap.size w1 w2) := HB1.out.trans (hb2.mono HB1.out.size)
  clear hb2
  refine ⟨_, rfl, ⟨⟨_, HB2.out⟩, rfl⟩, ?_⟩
  simp only [Act.put, List.setIfInBounds_toArray, List.set_cons_zero, List.set_cons_succ]
  (repeat (first | (with_reducible refine mix_read (by kernel_rfl) ?_; go_big_quiet_want; go_big_quiet_op; go_big_quiet_on; with_reducible refine wpQuiet_nil ?_) | (with_reducible refine mix_pass (by kernel_rfl) ?_; go_big_quiet_skip; with_reducible refine wpQuiet_nil ?_)))
  with_reducible refine mix_end ?_
  intro _
  go_wp2
  go_ret
  exact ⟨rfl, HB.out.trans (HB2.out.mono HB.out.size)⟩
end Go.Proofs.YtceebimgfajbcaaGreatDoor
