/-
  Texts of this proof, joined: TbShare, TbNeeds, TbNeed2, TbConf.
-/
import Derived.Test.YtceebimgfajbcaaGreatDoorJoin4
import Derived.Test.YtceebimgfajbcaaGreatDoorJoin2
import Derived.Lib.AppendZeros
import Derived.Deep.Upon
import Derived.Deep.RegionHeld
import Derived.Deep.CutBlock
namespace Go.Proofs.YtceebimgfajbcaaGreatDoor
open Go.RowKit

def shareB (a b : List Int) : Bool := a.any (inB b)
def needEq (x y : Int × Bool) : Bool := decide (x.1 = y.1 ∧ x.2 = y.2)
def pullB (a b : List (Int × Bool)) : Bool := a.any fun n => b.any fun m => needEq (n.1, !n.2) m

theorem run_eqlNd (n m : Int) (a b : Bool) (W : World) : (binOp .eql 96 (.agg #[.int .i64 n, .bool a]) (.agg #[.int .i64 m, .bool b])).run Tryz.prog W = .ok (.bool (decide (n = m ∧ a = b))) W := by
  rw [run_eql_struct, run_eqNd]
  rfl

set_option maxRecDepth 1000000 in
set_option maxHeartbeats 2000000 in
theorem indexFuncI_any (v : Value) (l : List Int) (p : Int → Bool) (b : Nat) (w : World) (h : rowAt w v 1 iC l) (hl : l.length ≤ 4294967296)
    (CL : ∀ x W, Below w.heap.size w W → Calls Tryz.prog 98 #[.int .i64 x, .pointer (some ⟨b, 0, none⟩)] W fun e w' => e = .returned (.bool (p x)) ∧ Below W.heap.size W w') :
    Calls Tryz.prog 101 #[v, .func (.func 98) #[] #[.pointer (some ⟨b, 0, none⟩)]] w fun e w' => e = .returned (.int .i64 (atF p l 0)) ∧ Below w.heap.size w w' := by
  obtain ⟨oa, cap, rfl, h2⟩ := h
  have H2 : Hid (∀ j y, l[j]? = some y → ∃ g off, oa = some ⟨g, off, none⟩ ∧ ∀ i u, (iC y)[i]? = some u → w.cell? ⟨g, off + j * 1 + i, none⟩ = some u) := h2
  clear h2
  have CLH : Hid (∀ x W, Below w.heap.size w W → Calls Tryz.prog 98 #[.int .i64 x, .pointer (some ⟨b, 0, none⟩)] W fun e w' => e = .returned (.bool (p x)) ∧ Below W.heap.size W w') := CL
  clear CL
  generalize hA : atF p l 0 = ans at *
  have HI : Hid (atF p l 0 = ans) := hA
  clear hA
  generalize hn : l.length = n at *
  have HN : Hid (l.length = n) := hn
  clear hn
  go_enter Tryz.func101, Tryz.ntmps101
  go_wp2
  go_loopg [5, 8] n (fun gk _ i wr => ∃ k : Nat, gk = n - k ∧ i = .int .i64 k ∧ k ≤ n ∧ atF p (l.drop k) k = atF p l 0 ∧ Below w.heap.size w wr)
  case atStart => exact ⟨0, rfl, rfl, by omega, by simp, Below.refl _ _⟩
  case round =>
    obtain ⟨k, rfl, rfl, hk, hc, hbl⟩ := hrel
    have HC : Hid (atF p (l.drop k) k = atF p l 0) := hc
    clear hc
    by_cases hlt : k < n
    · obtain ⟨y, hy⟩ : ∃ y, l[k]? = some y := ⟨l[k]'(by rw [HN.out]; exact hlt), List.getElem?_eq_getElem _⟩
      obtain ⟨g, off, rfl, hcell⟩ := H2.out k y hy
      have hki : (k : Int) < (n : Int) := by omega
      rw [drop_at hy, atF] at HC
      have CY : Hid (∀ W, Below w.heap.size w W → Calls Tryz.prog 98 #[.int .i64 y, .pointer (some ⟨b, 0, none⟩)] W fun e w' => e = .returned (.bool (p y)) ∧ Below W.heap.size W w') := CLH.out y
      have a0 := hcell 0 _ rfl
      simp only [Nat.mul_one, Nat.add_zero] at a0
      have d0 := (hbl.cell (World.block_lt_of_cell? _ _ a0)).trans a0
      clear hcell hy a0
      generalize hpy : p y = py at *
      clear hpy
      cases py
      · rw [if_neg (by simp)] at HC
        go_wp2_with fail
        refine (CY.out _ hbl).mono ?_
        rintro e w1 ⟨rfl, hb1⟩
        have hb2 := hbl.trans (hb1.mono hbl.size)
        clear hb1
        go_wp2
        go_roundg (n - (k + 1))
        case rel => exact ⟨k + 1, rfl, by go_num, by omega, HC.out, hb2⟩
        case measure => omega
      · rw [if_pos rfl] at HC
        go_wp2_with fail
        refine (CY.out _ hbl).mono ?_
        rintro e w1 ⟨rfl, hb1⟩
        have hb2 := hbl.trans (hb1.mono hbl.size)
        clear hb1
        go_wp2
        go_ret
        exact ⟨by rw [← HI.out, ← HC.out]; rfl, hb2⟩
    · have h1 := HC.out
      rw [List.drop_of_length_le (by rw [HN.out]; omega), atF] at h1
      have H1 : Hid (-1 = atF p l 0) := h1
      clear h1
      go_wp2
      go_ret
      exact ⟨by rw [← HI.out, ← H1.out]; rfl, hbl⟩

theorem containsFuncI_any (v : Value) (l : List Int) (p : Int → Bool) (b : Nat) (w : World) (h : rowAt w v 1 iC l) (hl : l.length ≤ 4294967296)
    (CL : ∀ x W, Below w.heap.size w W → Calls Tryz.prog 98 #[.int .i64 x, .pointer (some ⟨b, 0, none⟩)] W fun e w' => e = .returned (.bool (p x)) ∧ Below W.heap.size W w') :
    Calls Tryz.prog 83 #[v, .func (.func 98) #[] #[.pointer (some ⟨b, 0, none⟩)]] w fun e w' => e = .returned (.bool (l.any p)) ∧ Below w.heap.size w w' := by
  have HI : decide (0 ≤ atF p l 0) = l.any p := atF_ge _ _ _
  have C := indexFuncI_any v l p b w h hl CL
  rw [← HI]
  generalize atF p l 0 = n at *
  clear h HI CL
  go_enter Tryz.func83, Tryz.ntmps83
  go_wp2_with fail
  refine C.mono ?_
  rintro e w1 ⟨rfl, hb⟩
  go_wp2
  go_ret
  exact ⟨rfl, hb⟩

set_option maxRecDepth 1000000 in
set_option maxHeartbeats 2000000 in
theorem indexFuncN_any (v : Value) (l : List (Int × Bool)) (p : (Int × Bool) → Bool) (b : Nat) (w : World) (h : rowAt w v 2 nC l) (hl : l.length ≤ 4294967296)
    (CL : ∀ x W, Below w.heap.size w W → Calls Tryz.prog 99 #[.agg #[.int .i64 x.1, .bool x.2], .pointer (some ⟨b, 0, none⟩)] W fun e w' => e = .returned (.bool (p x)) ∧ Below W.heap.size W w') :
    Calls Tryz.prog 102 #[v, .func (.func 99) #[] #[.pointer (some ⟨b, 0, none⟩)]] w fun e w' => e = .returned (.int .i64 (atF p l 0)) ∧ Below w.heap.size w w' := by
  obtain ⟨oa, cap, rfl, h2⟩ := h
  have H2 : Hid (∀ j y, l[j]? = some y → ∃ g off, oa = some ⟨g, off, none⟩ ∧ ∀ i u, (nC y)[i]? = some u → w.cell? ⟨g, off + j * 2 + i, none⟩ = some u) := h2
  clear h2
  have CLH : Hid (∀ x W, Below w.heap.size w W → Calls Tryz.prog 99 #[.agg #[.int .i64 x.1, .bool x.2], .pointer (some ⟨b, 0, none⟩)] W fun e w' => e = .returned (.bool (p x)) ∧ Below W.heap.size W w') := CL
  clear CL
  generalize hA : atF p l 0 = ans at *
  have HI : Hid (atF p l 0 = ans) := hA
  clear hA
  generalize hn : l.length = n at *
  have HN : Hid (l.length = n) := hn
  clear hn
  go_enter Tryz.func102, Tryz.ntmps102
  go_wp2
  go_loopg [5, 8] n (fun gk _ i wr => ∃ k : Nat, gk = n - k ∧ i = .int .i64 k ∧ k ≤ n ∧ atF p (l.drop k) k = atF p l 0 ∧ Below w.heap.size w wr)
  case atStart => exact ⟨0, rfl, rfl, by omega, by simp, Below.refl _ _⟩
  case round =>
    obtain ⟨k, rfl, rfl, hk, hc, hbl⟩ := hrel
    have HC : Hid (atF p (l.drop k) k = atF p l 0) := hc
    clear hc
    by_cases hlt : k < n
    · obtain ⟨y, hy⟩ : ∃ y, l[k]? = some y := ⟨l[k]'(by rw [HN.out]; exact hlt), List.getElem?_eq_getElem _⟩
      obtain ⟨g, off, rfl, hcell⟩ := H2.out k y hy
      have hki : (k : Int) < (n : Int) := by omega
      rw [drop_at hy, atF] at HC
      have CY : Hid (∀ W, Below w.heap.size w W → Calls Tryz.prog 99 #[.agg #[.int .i64 y.1, .bool y.2], .pointer (some ⟨b, 0, none⟩)] W fun e w' => e = .returned (.bool (p y)) ∧ Below W.heap.size W w') := CLH.out y
      have a0 := hcell 0 _ rfl
      have a1 := hcell 1 _ rfl
      have d1 := (hbl.cell (World.block_lt_of_cell? _ _ a1)).trans a1
      clear a1
      simp only [Nat.add_zero] at a0
      have d0 := (hbl.cell (World.block_lt_of_cell? _ _ a0)).trans a0
      clear hcell hy a0
      generalize hpy : p y = py at *
      obtain ⟨y1, y2⟩ := y
      simp only at d0 d1 CY
      clear hpy
      cases py
      · rw [if_neg (by simp)] at HC
        go_wp2_with fail
        refine (CY.out _ hbl).mono ?_
        rintro e w1 ⟨rfl, hb1⟩
        have hb2 := hbl.trans (hb1.mono hbl.size)
        clear hb1
        go_wp2
        go_roundg (n - (k + 1))
        case rel => exact ⟨k + 1, rfl, by go_num, by omega, HC.out, hb2⟩
        case measure => omega
      · rw [if_pos rfl] at HC
        go_wp2_with fail
        refine (CY.out _ hbl).mono ?_
        rintro e w1 ⟨rfl, hb1⟩
        have hb2 := hbl.trans (hb1.mono hbl.size)
        clear hb1
        go_wp2
        go_ret
        exact ⟨by rw [← HI.out, ← HC.out]; rfl, hb2⟩
    · have h1 := HC.out
      rw [List.drop_of_length_le (by rw [HN.out]; omega), atF] at h1
      have H1 : Hid (-1 = atF p l 0) := h1
      clear h1
      go_wp2
      go_ret
      exact ⟨by rw [← HI.out, ← H1.out]; rfl, hbl⟩

theorem containsFuncN_any (v : Value) (l : List (Int × Bool)) (p : (Int × Bool) → Bool) (b : Nat) (w : World) (h : rowAt w v 2 nC l) (hl : l.length ≤ 4294967296)
    (CL : ∀ x W, Below w.heap.size w W → Calls Tryz.prog 99 #[.agg #[.int .i64 x.1, .bool x.2], .pointer (some ⟨b, 0, none⟩)] W fun e w' => e = .returned (.bool (p x)) ∧ Below W.heap.size W w') :
    Calls Tryz.prog 86 #[v, .func (.func 99) #[] #[.pointer (some ⟨b, 0, none⟩)]] w fun e w' => e = .returned (.bool (l.any p)) ∧ Below w.heap.size w w' := by
  have HI : decide (0 ≤ atF p l 0) = l.any p := atF_ge _ _ _
  have C := indexFuncN_any v l p b w h hl CL
  rw [← HI]
  generalize atF p l 0 = n at *
  clear h HI CL
  go_enter Tryz.func86, Tryz.ntmps86
  go_wp2_with fail
  refine C.mono ?_
  rintro e w1 ⟨rfl, hb⟩
  go_wp2
  go_ret
  exact ⟨rfl, hb⟩

theorem share1_any (x : Int) (vb : Value) (l : List Int) (b : Nat) (w : World) (hv : rowAt w vb 1 iC l) (hb : w.cell? ⟨b, 0, none⟩ = some vb) (hl : l.length ≤ 4294967296) :
    Calls Tryz.prog 98 #[.int .i64 x, .pointer (some ⟨b, 0, none⟩)] w fun e w' => e = .returned (.bool (inB l x)) ∧ Below w.heap.size w w' := by
  have C := containsI_any vb l x w hv hl
  obtain ⟨oa, c, rfl, _⟩ := hv
  generalize inB l x = r at *
  go_enter Tryz.func98, Tryz.ntmps98
  go_wp2_with fail
  refine C.mono ?_
  rintro e w1 ⟨rfl, rfl⟩
  go_wp2
  go_ret
  exact ⟨rfl, Below.refl _ _⟩

theorem shareSection_any (va vb : Value) (a b : List Int) (w : World) (ha : rowAt w va 1 iC a) (hb : rowAt w vb 1 iC b) (hla : a.length ≤ 4294967296) (hlb : b.length ≤ 4294967296) :
    Calls Tryz.prog 81 #[va, vb] w fun e w' => e = .returned (.bool (shareB a b)) ∧ Below w.heap.size w w' := by
  have hal : ∀ o, Below w.heap.size w (w.alloc o) := fun o => (Below.refl _ _).alloc (Nat.le_refl _) _
  have C : Hid (∀ W, Below w.heap.size w W → W.cell? ⟨w.heap.size, 0, none⟩ = some vb → Calls Tryz.prog 83 #[va, .func (.func 98) #[] #[.pointer (some ⟨w.heap.size, 0, none⟩)]] W fun e w' => e = .returned (.bool (shareB a b)) ∧ Below W.heap.size W w') := fun W hW hc =>
    containsFuncI_any va a (inB b) w.heap.size W (ha.below hW) hla (fun x W' hW' => share1_any x vb b w.heap.size W' ((hb.below hW).below hW') ((hW'.cell (World.block_lt_of_cell? _ _ hc)).trans hc) hlb)
  obtain ⟨ob, cb, rfl, _⟩ := hb
  obtain ⟨oa, ca, rfl, _⟩ := ha
  have hcell : (w.alloc (.cells #[.slice ob b.length cb] 36)).cell? ⟨w.heap.size, 0, none⟩ = some (.slice ob b.length cb) := by simp
  generalize shareB a b = r at *
  go_enter Tryz.func81, Tryz.ntmps81
  go_wp2_with fail
  refine (C.out _ (hal _) hcell).mono ?_
  rintro e w1 ⟨rfl, hb1⟩
  have hb2 := (hal (.cells #[.slice ob b.length cb] 36)).trans (hb1.mono (by simp))
  clear hb1
  go_wp2
  go_ret
  exact ⟨rfl, hb2⟩

set_option maxRecDepth 1000000 in
set_option maxHeartbeats 2000000 in
theorem indexN_any (v : Value) (l : List (Int × Bool)) (x : Int × Bool) (w : World) (h : rowAt w v 2 nC l) (hl : l.length ≤ 4294967296) :
    Calls Tryz.prog 108 #[v, .agg #[.int .i64 x.1, .bool x.2]] w fun e w' => e = .returned (.int .i64 (atF (needEq x) l 0)) ∧ Below w.heap.size w w' := by
  obtain ⟨x1, x2⟩ := x
  obtain ⟨oa, cap, rfl, h2⟩ := h
  have H2 : Hid (∀ j y, l[j]? = some y → ∃ g off, oa = some ⟨g, off, none⟩ ∧ ∀ i u, (nC y)[i]? = some u → w.cell? ⟨g, off + j * 2 + i, none⟩ = some u) := h2
  clear h2
  have hbx : Below w.heap.size w (w.alloc (.cells #[.int .i64 x1, .bool x2] 96)) := (Below.refl _ _).alloc (Nat.le_refl _) _
  have hx0 : (w.alloc (.cells #[.int .i64 x1, .bool x2] 96)).cell? ⟨w.heap.size, 0, none⟩ = some (.int .i64 x1) := by simp
  have hx1 : (w.alloc (.cells #[.int .i64 x1, .bool x2] 96)).cell? ⟨w.heap.size, 1, none⟩ = some (.bool x2) := by simp
  generalize hA : atF (needEq (x1, x2)) l 0 = ans at *
  have HI : Hid (atF (needEq (x1, x2)) l 0 = ans) := hA
  clear hA
  generalize hn : l.length = n at *
  have HN : Hid (l.length = n) := hn
  clear hn
  go_enter Tryz.func108, Tryz.ntmps108
  go_wp2
  generalize w.alloc (.cells #[.int .i64 x1, .bool x2] 96) = w1 at *
  go_loopg [5, 8] n (fun gk _ i wr => ∃ k q : Nat, gk = n - k ∧ i = .int .i64 k ∧ k ≤ n ∧ atF (needEq (x1, x2)) (l.drop k) k = atF (needEq (x1, x2)) l 0 ∧ wr = w1.drewN q)
  case atStart => exact ⟨0, 0, rfl, rfl, by omega, by simp, rfl⟩
  case round =>
    obtain ⟨k, q, rfl, rfl, hk, hc, rfl⟩ := hrel
    have HC : Hid (atF (needEq (x1, x2)) (l.drop k) k = atF (needEq (x1, x2)) l 0) := hc
    clear hc
    by_cases hlt : k < n
    · obtain ⟨⟨y1, y2⟩, hy⟩ : ∃ y, l[k]? = some y := ⟨l[k]'(by rw [HN.out]; exact hlt), List.getElem?_eq_getElem _⟩
      obtain ⟨g, off, rfl, hcell⟩ := H2.out k _ hy
      have hki : (k : Int) < (n : Int) := by omega
      rw [drop_at hy, atF] at HC
      have a0 := hcell 0 _ rfl
      have a1 := hcell 1 _ rfl
      rw [Nat.add_zero] at a0
      have d0 := (hbx.cell (World.block_lt_of_cell? _ _ a0)).trans a0
      have d1 := (hbx.cell (World.block_lt_of_cell? _ _ a1)).trans a1
      clear hcell hy a0 a1
      have hEQ : ∀ W : World, (binOp .eql 96 (.agg #[.int .i64 x1, .bool x2]) (.agg #[.int .i64 y1, .bool y2])).run Tryz.prog W = .ok (.bool (needEq (x1, x2) (y1, y2))) W := fun W => run_eqlNd x1 y1 x2 y2 W
      generalize hpy : needEq (x1, x2) (y1, y2) = py at *
      clear hpy
      have hgd := eqGuardNd
      go_wp2_with fail
      go_quiet (fail)
      cases py
      · rw [if_neg (by simp)] at HC
        go_wp2
        go_roundg (n - (k + 1))
        case rel => exact ⟨k + 1, q + nq, rfl, by go_num, by omega, HC.out, rfl⟩
        case measure => omega
      · rw [if_pos rfl] at HC
        go_wp2
        go_ret
        exact ⟨by rw [← HI.out, ← HC.out]; rfl, _root_.Go.below_drewN (_root_.Go.below_drewN hbx _) _⟩
    · have h1 := HC.out
      rw [List.drop_of_length_le (by rw [HN.out]; omega), atF] at h1
      have H1 : Hid (-1 = atF (needEq (x1, x2)) l 0) := h1
      clear h1
      go_wp2
      go_ret
      exact ⟨by rw [← HI.out, ← H1.out]; rfl, _root_.Go.below_drewN hbx _⟩

theorem containsN_any (v : Value) (l : List (Int × Bool)) (x : Int × Bool) (w : World) (h : rowAt w v 2 nC l) (hl : l.length ≤ 4294967296) :
    Calls Tryz.prog 100 #[v, .agg #[.int .i64 x.1, .bool x.2]] w fun e w' => e = .returned (.bool (l.any (needEq x))) ∧ Below w.heap.size w w' := by
  have HI : decide (0 ≤ atF (needEq x) l 0) = l.any (needEq x) := atF_ge _ _ _
  have hal : ∀ o, Below w.heap.size w (w.alloc o) := fun o => (Below.refl _ _).alloc (Nat.le_refl _) _
  have C : Hid (∀ W, Below w.heap.size w W → Calls Tryz.prog 108 #[v, .agg #[.int .i64 x.1, .bool x.2]] W fun e w' => e = .returned (.int .i64 (atF (needEq x) l 0)) ∧ Below W.heap.size W w') := fun W hW => indexN_any v l x W (h.below hW) hl
  rw [← HI]
  generalize atF (needEq x) l 0 = n at *
  obtain ⟨x1, x2⟩ := x
  simp only at C ⊢
  clear HI
  obtain ⟨oa, c, rfl, _⟩ := h
  go_enter Tryz.func100, Tryz.ntmps100
  go_wp2_with fail
  refine (C.out _ (hal _)).mono ?_
  rintro e w1 ⟨rfl, hb1⟩
  have hb2 := (hal (.cells #[.int .i64 x1, .bool x2] 96)).trans (hb1.mono (by simp))
  clear hb1
  go_wp2
  go_ret
  exact ⟨rfl, hb2⟩

set_option maxRecDepth 1000000 in
theorem pull1_any (x : Int × Bool) (vb : Value) (l : List (Int × Bool)) (b : Nat) (w : World) (hv : rowAt w vb 2 nC l) (hb : w.cell? ⟨b, 0, none⟩ = some vb) (hl : l.length ≤ 4294967296) :
    Calls Tryz.prog 99 #[.agg #[.int .i64 x.1, .bool x.2], .pointer (some ⟨b, 0, none⟩)] w fun e w' => e = .returned (.bool (l.any (needEq (x.1, !x.2)))) ∧ Below w.heap.size w w' := by
  have hal : ∀ o, Below w.heap.size w (w.alloc o) := fun o => (Below.refl _ _).alloc (Nat.le_refl _) _
  obtain ⟨x1, x2⟩ := x
  have C : Hid (∀ W, Below w.heap.size w W → Calls Tryz.prog 100 #[vb, .agg #[.int .i64 x1, .bool (!x2)]] W fun e w' => e = .returned (.bool (l.any (needEq (x1, !x2)))) ∧ Below W.heap.size W w') := fun W hW => containsN_any vb l (x1, !x2) W (hv.below hW) hl
  simp only at C ⊢
  generalize l.any (needEq (x1, !x2)) = r at *
  obtain ⟨oa, c, rfl, _⟩ := hv
  have hblt := World.block_lt_of_cell? _ _ hb
  go_enter Tryz.func99, Tryz.ntmps99
  go_wp2_with fail
  refine (C.out _ (hal _)).mono ?_
  rintro e w1 ⟨rfl, hb1⟩
  have hb2 := (hal (.cells #[.int .i64 x1, .bool x2] 96)).trans (hb1.mono (by simp))
  clear hb1
  go_wp2
  go_ret
  exact ⟨rfl, hb2⟩

theorem pullApart_any (va vb : Value) (a b : List (Int × Bool)) (w : World) (ha : rowAt w va 2 nC a) (hb : rowAt w vb 2 nC b) (hla : a.length ≤ 4294967296) (hlb : b.length ≤ 4294967296) :
    Calls Tryz.prog 82 #[va, vb] w fun e w' => e = .returned (.bool (pullB a b)) ∧ Below w.heap.size w w' := by
  have hal : ∀ o, Below w.heap.size w (w.alloc o) := fun o => (Below.refl _ _).alloc (Nat.le_refl _) _
  have C : Hid (∀ W, Below w.heap.size w W → W.cell? ⟨w.heap.size, 0, none⟩ = some vb → Calls Tryz.prog 86 #[va, .func (.func 99) #[] #[.pointer (some ⟨w.heap.size, 0, none⟩)]] W fun e w' => e = .returned (.bool (pullB a b)) ∧ Below W.heap.size W w') := fun W hW hc =>
    containsFuncN_any va a (fun x => b.any (needEq (x.1, !x.2))) w.heap.size W (ha.below hW) hla (fun x W' hW' => pull1_any x vb b w.heap.size W' ((hb.below hW).below hW') ((hW'.cell (World.block_lt_of_cell? _ _ hc)).trans hc) hlb)
  obtain ⟨ob, cb, rfl, _⟩ := hb
  obtain ⟨oa, ca, rfl, _⟩ := ha
  have hcell : (w.alloc (.cells #[.slice ob b.length cb] 64)).cell? ⟨w.heap.size, 0, none⟩ = some (.slice ob b.length cb) := by simp
  generalize pullB a b = r at *
  go_enter Tryz.func82, Tryz.ntmps82
  go_wp2_with fail
  refine (C.out _ (hal _) hcell).mono ?_
  rintro e w1 ⟨rfl, hb1⟩
  have hb2 := (hal (.cells #[.slice ob b.length cb] 64)).trans (hb1.mono (by simp))
  clear hb1
  go_wp2
  go_ret
  exact ⟨rfl, hb2⟩
end Go.Proofs.YtceebimgfajbcaaGreatDoor

namespace Go.Proofs.YtceebimgfajbcaaGreatDoor
open Go.RowKit

theorem infoN : (Tryz.prog.info? 96).map (fun i => (i.zero, i.size, i.bytes)) = some (some (.agg #[.int .i64 0, .bool false]), 2, 16) := by kernel_rfl

/-- A row of needs in memory that was made. -/
def nOwn (w : World) (u : Value) (l : List (Int × Bool)) : Prop := w.ownsRow 0 96 2 u l.length (l.flatMap nC)
theorem cells_one : ∀ (l : List (Int × Bool)), ∀ u ∈ l.flatMap nC, u.oneCell' = true := by
  intro l u hu
  obtain ⟨x, _, h⟩ := List.mem_flatMap.1 hu
  simp [nC] at h
  rcases h with h | h <;> subst h <;> rfl
theorem flat_lenN (l : List (Int × Bool)) : (l.flatMap nC).length = l.length * 2 := by
  induction l with
  | nil => rfl
  | cons x l ih => rw [List.flatMap_cons, List.length_append, ih, List.length_cons]; simp [nC]; omega
theorem row_flat {w : World} {g off cap : Nat} {l : List (Int × Bool)} (h : rowAt w (.slice (some ⟨g, off, none⟩) l.length cap) 2 nC l) : ∀ j u, (l.flatMap nC)[j]? = some u → w.cell? ((⟨g, off, none⟩ : Addr).add j) = some u := by
  intro j u hj
  obtain ⟨oa, c, e, h2⟩ := h
  injection e with e1 e2 e3
  have hlt : j < (l.flatMap nC).length := (List.getElem?_eq_some_iff.1 hj).1
  rw [flat_lenN] at hlt
  obtain ⟨x, hx⟩ : ∃ x, l[j / 2]? = some x := ⟨l[j / 2]'(by omega), List.getElem?_eq_getElem _⟩
  obtain ⟨g', off', e4, hc⟩ := h2 _ _ hx
  rw [← e1] at e4
  injection e4 with e4
  injection e4 with e5 e6
  subst e5 e6
  have hi : j % 2 < (nC x).length := by simp [nC]; omega
  have hu : (nC x)[j % 2]? = some u := by
    have h3 := flat_get (cs := nC) (size := 2) (fun _ => rfl) l (j / 2) x (j % 2) _ hx (List.getElem?_eq_getElem hi)
    rw [show j / 2 * 2 + j % 2 = j by omega, hj] at h3
    rw [List.getElem?_eq_getElem hi]
    exact h3.symm
  have := hc (j % 2) u hu
  rw [show off + j / 2 * 2 + j % 2 = off + j by omega] at this
  have ha : (⟨g, off, none⟩ : Addr).add j = ⟨g, off + j, none⟩ := by unfold Addr.add; split <;> simp_all
  rw [ha]
  exact this

set_option maxRecDepth 100000 in
/-- A row of needs put behind one of the call's own. -/
theorem append_needs {w : World} {base n : Nat} {v x : Value} {xs : List Value} {l : List (Int × Bool)} (hown : w.ownsRow base 96 2 v n xs) (hx : rowAt w x 2 nC l) (ty : TypeId) (h63 : n + l.length ≤ 1000000) (hbase : base ≤ w.heap.size) :
    ∃ v' w', (Builtin.append_ #[64, 64] ty #[v, x]).run Tryz.prog w = .ok v' w' ∧ w'.ownsRow base 96 2 v' (n + l.length) (xs ++ l.flatMap nC) ∧ w.grownBy w' v.ownBlock := by
  obtain ⟨i0, hii, hz0, hz1, hz2⟩ := info_parts infoN
  have hx' := hx
  obtain ⟨oa, c, rfl, _⟩ := hx
  cases oa with
  | some a =>
    cases l with
    | nil =>
      obtain ⟨v', w', h1, h2, h3, _⟩ := run_append_own (P := Tryz.prog) w base 64 ty 96 i0 (.agg #[.int .i64 0, .bool false]) 2 16 Tryz.underlying64 hii hz0 hz1 hz2 rfl (by decide) v n xs hown a 0 c [] (by simp) (fun j u h => by simp at h) (fun u h => by simp at h) (by unfold maxLen; omega) (by omega) hbase
      exact ⟨v', w', h1, by simpa using h2, h3⟩
    | cons y l =>
      have hx2 := hx'
      obtain ⟨oa', c', e, h2⟩ := hx'
      injection e with e1 e2 e3
      obtain ⟨g, off, e4, _⟩ := h2 0 y rfl
      rw [← e1] at e4
      injection e4 with e4
      subst e4
      obtain ⟨v', w', h1, h2, h3, _⟩ := run_append_own (P := Tryz.prog) w base 64 ty 96 i0 (.agg #[.int .i64 0, .bool false]) 2 16 Tryz.underlying64 hii hz0 hz1 hz2 rfl (by decide) v n xs hown ⟨g, off, none⟩ (y :: l).length c ((y :: l).flatMap nC) (flat_lenN _) (row_flat hx2) (cells_one _) (by unfold maxLen; omega) (by omega) hbase
      exact ⟨v', w', h1, h2, h3⟩
  | none =>
    have hl : l = [] := by
      cases l with
      | nil => rfl
      | cons y l =>
        obtain ⟨oa, c', e, h2⟩ := hx'
        injection e with e1 e2 e3
        obtain ⟨g, off, e4, _⟩ := h2 0 y rfl
        rw [← e1] at e4
        exact absurd e4 (by simp)
    subst hl
    have hv : ∃ b k, v = .slice b n k ∧ n ≤ k := by
      rcases hown.2 with ⟨h1, h2⟩ | ⟨g, cap, cur, h1, _, _, h2, _⟩
      · exact ⟨none, 0, by rw [h1, h2], by omega⟩
      · exact ⟨_, cap, h1, h2⟩
    obtain ⟨b, k, rfl, hk⟩ := hv
    refine ⟨_, w, run_append_nothing w _ _ _ _ i0 Tryz.underlying64 hii b n k hk _ ⟨.inl ⟨_, Tryz.underlying64⟩, fun w' => ?_, ?_, ?_, by simp, by simp⟩, by simpa using hown, ⟨rfl, rfl, rfl, Nat.le_refl _, fun _ _ _ => rfl⟩⟩
    · simp [Builtin.lenOf]
    · simp [Builtin.firstCells]
    · simp [Builtin.firstCells]

set_option maxRecDepth 1000000 in
set_option maxHeartbeats 4000000 in
theorem grow_any (n : Nat) (w : World) (hn : n ≤ 1000000) :
    Calls Tryz.prog 97 #[.slice none 0 0, .int .i64 n] w fun e w' => ∃ v, e = .returned v ∧ w'.ownsRow w.heap.size 96 2 v 0 [] ∧ Below w.heap.size w w' := by
  obtain ⟨i0, hii, hz0, hz1, hz2⟩ := info_parts infoN
  have h1 : ¬ ((n : Int) < 0) := by omega
  by_cases h0 : n = 0
  · subst h0
    go_enter Tryz.func97, Tryz.ntmps97
    go_wp2
    go_ret
    exact ⟨_, rfl, World.ownsRow_nil _ _ _ _, Below.refl _ _⟩
  · have hp : (0 : Int) < (n : Int) := by omega
    have hrun := Lib.run_append_nil_zeros (P := Tryz.prog) w 64 3 64 96 i0 (.agg #[.int .i64 0, .bool false]) .i64 .i64 Tryz.underlying64 Tryz.underlying3 hii hz0 n (by omega) (by omega) (by omega) (by rw [hz2]; omega)
    have hge := grownCap_ge w n 0 96
    have hmx := grownCap_le_maxLen w n 0 96 (by unfold maxLen; omega)
    generalize grownCap w n 0 96 = gc at *
    go_enter Tryz.func97, Tryz.ntmps97
    go_wp2_with (at_builtin; refine Lib.wpList_append_run _ rfl _ _ _ _ rfl _ _ rfl rfl _ _ hrun ?_)
    go_ret
    refine ⟨_, rfl, ?_, ?_⟩
    · exact World.ownsRow_made w.drew _ gc (Nat.le_refl _) hmx (by simp [size_zeroCells]; omega)
    · exact (Below.refl _ _).drew.alloc (Nat.le_refl _) _

abbrev NRow := Value × List (Int × Bool)
def vC (x : NRow) : List Value := [x.1]
def total (rows : List NRow) : Nat := (rows.map (·.2.length)).sum
theorem total_snoc {rows : List NRow} {k : Nat} {x : NRow} (h : rows[k]? = some x) : total (rows.take (k + 1)) = total (rows.take k) + x.2.length := by
  rw [List.take_add_one, h, total, total, List.map_append, List.sum_append]
  simp
theorem total_le (rows : List NRow) (k : Nat) : total (rows.take k) ≤ total rows := by
  conv => rhs; rw [← List.take_append_drop k rows]
  rw [total, total, List.map_append, List.sum_append]
  omega
theorem flat_snoc {rows : List NRow} {k : Nat} {x : NRow} (h : rows[k]? = some x) : (rows.take (k + 1)).flatMap (·.2) = (rows.take k).flatMap (·.2) ++ x.2 := by
  rw [List.take_add_one, h, List.flatMap_append]
  simp
theorem total_len (rows : List NRow) : (rows.flatMap (·.2)).length = total rows := by
  induction rows with
  | nil => rfl
  | cons x l ih => rw [List.flatMap_cons, List.length_append, ih, total, total, List.map_cons, List.sum_cons]

set_option maxRecDepth 1000000 in
set_option maxHeartbeats 4000000 in
theorem concatO_any (v : Value) (rows : List NRow) (w : World) (h : rowAt w v 1 vC rows) (hr : ∀ x ∈ rows, rowAt w x.1 2 nC x.2) (hn : rows.length ≤ 1000000) (ht : total rows ≤ 1000000) :
    Calls Tryz.prog 80 #[v] w fun e w' => ∃ u, e = .returned u ∧ nOwn w' u (rows.flatMap (·.2)) ∧ Below w.heap.size w w' := by
  obtain ⟨oa, cap, rfl, h2⟩ := h
  have H2 : Hid (∀ j y, rows[j]? = some y → ∃ g off, oa = some ⟨g, off, none⟩ ∧ ∀ i u, (vC y)[i]? = some u → w.cell? ⟨g, off + j * 1 + i, none⟩ = some u) := h2
  have HR : Hid (∀ x ∈ rows, rowAt w x.1 2 nC x.2) := hr
  have TL : Hid (∀ k, total (rows.take k) ≤ 1000000) := fun k => Nat.le_trans (total_le rows k) ht
  clear h2 hr
  generalize hln : rows.length = n at *
  have HN : Hid (rows.length = n) := hln
  clear hln
  go_enter Tryz.func80, Tryz.ntmps80
  go_wp2
  go_loop [3, 5, 11] (fun sz _ i => ∃ k m : Nat, i = .int .i64 k ∧ k ≤ n ∧ sz = .int .i64 m ∧ m = total (rows.take k)) (fun _ _ i => n - (intOf i).toNat)
  case atStart => exact ⟨0, 0, rfl, by omega, rfl, rfl⟩
  case round =>
    obtain ⟨k, m, rfl, hk, rfl, hm⟩ := hrel
    have HM : Hid (m = total (rows.take k)) := hm
    have hmt : m ≤ 1000000 := by rw [hm]; exact TL.out k
    clear hm
    by_cases hlt : k < n
    · obtain ⟨⟨u, ns⟩, hx⟩ : ∃ x, rows[k]? = some x := ⟨rows[k]'(by rw [HN.out]; exact hlt), List.getElem?_eq_getElem _⟩
      obtain ⟨g, off, rfl, hcell⟩ := H2.out k _ hx
      have c0 := hcell 0 _ rfl
      simp only [Nat.mul_one, Nat.add_zero] at c0
      obtain ⟨ou, cu, hu, _⟩ := HR.out _ (List.mem_of_getElem? hx)
      simp only at hu
      subst hu
      have hki : (k : Int) < (n : Int) := by omega
      have HT : Hid (m + ns.length = total (rows.take (k + 1))) := by
        show _ = _
        rw [total_snoc hx, HM.out]
      have hnt : m + ns.length ≤ 1000000 := by rw [HT.out]; exact TL.out _
      clear hcell hx
      generalize ns.length = q at *
      have hz : ¬ ((m : Int) + (q : Int) < 0) := by omega
      go_wp2
      go_round
      case rel => exact ⟨k + 1, m + q, by go_num, by omega, by go_num, HT.out⟩
      case measure => simp [intOf]; omega
    · have GR := fun W => grow_any m W hmt
      have hkn : k = n := by omega
      subst hkn
      clear HM
      go_wp2_with fail
      refine (GR _).mono ?_
      rintro e w1 ⟨v1, rfl, ho1, hb1⟩
      have HO1 : Hid (w1.ownsRow w.heap.size 96 2 v1 0 []) := ho1
      have hsz1 := hb1.size
      clear GR ho1
      go_wp2
      go_loopg [6, 8, 27] k (fun gk vv _ i wr => ∃ (j : Nat) (c : List (Int × Bool)), gk = k - j ∧ j ≤ k ∧ i = .int .i64 j ∧ c = (rows.take j).flatMap (·.2) ∧ wr.ownsRow w.heap.size 96 2 vv c.length (c.flatMap nC) ∧ Below w.heap.size w wr)
      case atStart => exact ⟨0, [], rfl, by omega, rfl, rfl, HO1.out, hb1⟩
      case round =>
        obtain ⟨j, c, rfl, hj, rfl, hc, hown, hbl⟩ := hrel
        have HC : Hid (c = (rows.take j).flatMap (·.2)) := hc
        have HOW : Hid (wr.ownsRow w.heap.size 96 2 u6 c.length (c.flatMap nC)) := hown
        have HCL : Hid (c.length ≤ 1000000) := by
          show _ ≤ _
          rw [hc, total_len]
          exact TL.out j
        clear hc hown
        by_cases hlt2 : j < k
        · obtain ⟨⟨u, ns⟩, hx⟩ : ∃ x, rows[j]? = some x := ⟨rows[j]'(by rw [HN.out]; exact hlt2), List.getElem?_eq_getElem _⟩
          obtain ⟨g, off, rfl, hcell⟩ := H2.out j _ hx
          have c0 := hcell 0 _ rfl
          simp only [Nat.mul_one, Nat.add_zero] at c0
          have c1 := (hbl.cell (World.block_lt_of_cell? _ _ c0)).trans c0
          have hri := (HR.out _ (List.mem_of_getElem? hx)).below hbl
          simp only at hri
          have hji : (j : Int) < (k : Int) := by omega
          have HF : Hid (c ++ ns = (rows.take (j + 1)).flatMap (·.2)) := by
            show _ = _
            rw [flat_snoc hx, HC.out]
          have HFL : Hid (c.length + ns.length ≤ 1000000) := by
            show _ ≤ _
            rw [← List.length_append, HF.out, total_len]
            exact TL.out _
          obtain ⟨v', w3, hrun, hown3, hg3⟩ := append_needs HOW.out hri 64 HFL.out hbl.size
          have HO3 : Hid (w3.ownsRow w.heap.size 96 2 v' (c ++ ns).length ((c ++ ns).flatMap nC)) := by
            rw [List.length_append, List.flatMap_append]
            exact hown3
          have HB3 : Hid (Below w.heap.size w w3) := hbl.grown hg3 hbl.size (fun b hb => (HOW.out.lt b hb).1)
          clear hcell hx hri hown3 hg3 c0
          go_wp2_with (at_builtin; refine Lib.wpList_append_run _ rfl _ _ _ _ rfl _ _ rfl rfl _ _ hrun ?_)
          go_roundg (k - (j + 1))
          case rel => exact ⟨j + 1, c ++ ns, rfl, by omega, by go_num, HF.out, HO3.out, HB3.out⟩
          case measure => omega
        · have HE : Hid (nOwn wr u6 (rows.flatMap (·.2))) := by
            have h1 := HC.out
            rw [List.take_of_length_le (by rw [HN.out]; omega)] at h1
            rw [← h1]
            exact owns_mono HOW.out (Nat.zero_le _)
          go_wp2
          go_ret
          exact ⟨u6, rfl, HE.out, hbl⟩
theorem concat_any (v : Value) (rows : List NRow) (w : World) (h : rowAt w v 1 vC rows) (hr : ∀ x ∈ rows, rowAt w x.1 2 nC x.2) (hn : rows.length ≤ 1000000) (ht : total rows ≤ 1000000) :
    Calls Tryz.prog 80 #[v] w fun e w' => ∃ u, e = .returned u ∧ rowAt w' u 2 nC (rows.flatMap (·.2)) ∧ Below w.heap.size w w' :=
  (concatO_any v rows w h hr hn ht).mono fun _ _ ⟨u, he, ho, hb⟩ => ⟨u, he, rowAt_of_owns (fun _ => rfl) ho, hb⟩
end Go.Proofs.YtceebimgfajbcaaGreatDoor

namespace Go.Proofs.YtceebimgfajbcaaGreatDoor
open Go.RowKit

set_option maxRecDepth 1000000 in
set_option maxHeartbeats 4000000 in
theorem tableNeedsO_any (v : Nat → Value) (l : Lay) (rs : List RtV) (r : Nat) (x : RtV) (w : World) (h : LayRd w v l rs) (hx : rs[r]? = some x) (hm : x.1.points.length + x.1.flank.length ≤ 1000000) :
    Calls Tryz.prog 56 #[.agg #[v 0, v 1, v 2, v 3], .int .i64 r] w fun e w' => ∃ u, e = .returned u ∧ nOwn w' u (x.1.points ++ x.1.flank) ∧ Below w.heap.size w w' := by
  obtain ⟨⟨nm, fr, tt, pa, po, fl⟩, v3, v4, v5⟩ := x
  have hrx := h.x _ (List.mem_of_getElem? hx)
  obtain ⟨hr3, hr4, hr5⟩ := hrx
  simp only at hr3 hr4 hr5 hm
  have CC : Hid (∀ W b, Below w.heap.size w W → W.heap[b]? = some (.cells #[v4, v5] 64 (0, 0)) → Calls Tryz.prog 80 #[.slice (some ⟨b, 0, none⟩) 2 2] W fun e w' => ∃ u, e = .returned u ∧ nOwn w' u (po ++ fl) ∧ Below W.heap.size W w') := fun W b hW hb => by
    have := concatO_any (.slice (some ⟨b, 0, none⟩) 2 2) [(v4, po), (v5, fl)] W ⟨_, _, rfl, fun j y hj => ⟨b, 0, rfl, fun i u hu => ?_⟩⟩ (fun y hy => ?_) (by simp) (by simp [total]; omega)
    · have e : [(v4, po), (v5, fl)].flatMap (fun x => x.2) = po ++ fl := by simp
      rw [e] at this
      exact this
    · match i, hu with
      | 0, hu =>
        simp [vC] at hu
        subst hu
        match j, hj with
        | 0, hj => simp at hj; subst hj; simp [World.cell?, hb]
        | 1, hj => simp at hj; subst hj; simp [World.cell?, hb]
        | j + 2, hj => simp at hj
      | i + 1, hu => simp [vC] at hu
    · simp at hy
      rcases hy with rfl | rfl
      · exact hr4.below hW
      · exact hr5.below hW
  obtain ⟨o0, c0, e0, _⟩ := h.s
  obtain ⟨o1, c1, e1, _⟩ := h.p
  obtain ⟨o2, c2, e2, _⟩ := h.g
  obtain ⟨o3, c3, e3, r3⟩ := h.r
  obtain ⟨p4, k4, f4, _⟩ := hr4
  obtain ⟨p5, k5, f5, _⟩ := hr5
  have S := BoxAt.start w v
  obtain ⟨g, off, rfl, hcell⟩ := r3 r _ hx
  have a4 := hcell 4 _ rfl
  have a5 := hcell 5 _ rfl
  have HV : Hid (v 0 = .slice o0 l.sections.length c0 ∧ v 1 = .slice o1 l.points.length c1 ∧ v 2 = .slice o2 l.signals.length c2 ∧ v 3 = .slice (some ⟨g, off, none⟩) rs.length c3) := ⟨e0, e1, e2, e3⟩
  have hrl : r < rs.length := (List.getElem?_eq_some_iff.1 hx).1
  rw [e0, e1, e2, e3] at S ⊢
  rw [f4, f5] at CC
  rw [f4] at a4
  rw [f5] at a5
  clear h hm hx hcell r3 hr3 e0 e1 e2 e3 f4 f5
  generalize l.sections.length = n0 at *
  generalize l.points.length = n1 at *
  generalize l.signals.length = n2 at *
  generalize rs.length = n3 at *
  generalize po.length = m4 at *
  generalize fl.length = m5 at *
  have C := fun W => isPlace_any (r : Int) n3 W
  rw [decide_eq_true (show (0 : Int) ≤ (r : Int) ∧ (r : Int) < (n3 : Int) by omega)] at C
  have TA : Hid (BoxAt w v (w.alloc (.cells #[.slice o0 n0 c0, .slice o1 n1 c1, .slice o2 n2 c2, .slice (some ⟨g, off, none⟩) n3 c3] 26))) := S
  clear S
  go_enter Tryz.func56, Tryz.ntmps56
  go_wp2_with (go_at_call 78; refine (C _).mono ?_; rintro e w' ⟨rfl, rfl⟩)
  generalize w.alloc (.cells #[.slice o0 n0 c0, .slice o1 n1 c1, .slice o2 n2 c2, .slice (some ⟨g, off, none⟩) n3 c3] 26) = w1 at *
  have h2 := TA.out.cells
  rw [HV.out.1, HV.out.2.1, HV.out.2.2.1, HV.out.2.2.2] at h2
  have x3 := ext_cell h2.2.2.2
  have b4 := (TA.out.1.cell (World.block_lt_of_cell? _ _ a4)).trans a4
  have b5 := (TA.out.1.cell (World.block_lt_of_cell? _ _ a5)).trans a5
  have y4 := ext_cell b4
  have y5 := ext_cell b5
  haveI := ext_some w1
  have HB1 : Hid (Below w1.heap.size w1 w1.drew) := (Below.refl _ _).drew
  have hri : (r : Int) < (n3 : Int) := by omega
  have HW : Hid (∀ W, Below w1.heap.size w1 W → Below w.heap.size w W) := fun W hW => TA.out.1.trans (hW.mono TA.out.1.size)
  clear h2 a4 a5 b4 b5 C
  refine wp_region_mix_lex (C := fun W => ∃ y : Ext w1, W = y.z) (by kernel_rfl) (by kernel_rfl) (by kernel_rfl) (by kernel_rfl) ⟨⟨_, (Below.refl _ _).drew⟩, rfl⟩ ?_
  (repeat (first | (with_reducible refine mix_read (by kernel_rfl) ?_; go_big_quiet_want; go_big_quiet_op; go_big_quiet_on; with_reducible refine wpQuiet_nil ?_) | (with_reducible refine mix_pass (by kernel_rfl) ?_; go_big_quiet_skip; with_reducible refine wpQuiet_nil ?_)))
  have HB2 : Hid (Below w1.heap.size w1 (w1.drew.alloc (.cells #[.slice p4 m4 k4, .slice p5 m5 k5] 64))) := HB1.out.alloc HB1.out.size _
  have HBK : Hid ((w1.drew.alloc (.cells #[.slice p4 m4 k4, .slice p5 m5 k5] 64)).heap[w1.drew.heap.size]? = some (.cells #[.slice p4 m4 k4, .slice p5 m5 k5] 64 (0, 0))) := blk_new _ _
  refine mix_does (v := .slice (some ⟨w1.drew.heap.size, 0, none⟩) 2 2) (w' := w1.drew.alloc (.cells #[.slice p4 m4 k4, .slice p5 m5 k5] 64)) (by kernel_rfl) (by kernel_rfl) (by kernel_rfl) ⟨⟨_, HB2.out⟩, rfl⟩ ?_
  simp only [Act.put, List.setIfInBounds_toArray, List.set_cons_zero, List.set_cons_succ]
  with_reducible refine mix_call (by kernel_rfl) (by kernel_rfl) ((CC.out _ _ (HW.out _ HB2.out) HBK.out).mono ?_) (by kernel_rfl)
  rintro e w2 ⟨u2, rfl, r2, hb2⟩
  have HB3 : Hid (Below w1.heap.size w1 w2) := HB2.out.trans (hb2.mono HB2.out.size)
  have HR2 : Hid (nOwn w2 u2 (po ++ fl)) := r2
  clear hb2 r2
  refine ⟨_, rfl, ⟨⟨_, HB3.out⟩, rfl⟩, ?_⟩
  simp only [Act.put, List.setIfInBounds_toArray, List.set_cons_zero, List.set_cons_succ]
  (repeat (first | (with_reducible refine mix_read (by kernel_rfl) ?_; go_big_quiet_want; go_big_quiet_op; go_big_quiet_on; with_reducible refine wpQuiet_nil ?_) | (with_reducible refine mix_pass (by kernel_rfl) ?_; go_big_quiet_skip; with_reducible refine wpQuiet_nil ?_)))
  with_reducible refine mix_end ?_
  intro _
  go_wp2
  go_ret
  exact ⟨_, rfl, HR2.out, HW.out _ HB3.out⟩
theorem tableNeeds_any (v : Nat → Value) (l : Lay) (rs : List RtV) (r : Nat) (x : RtV) (w : World) (h : LayRd w v l rs) (hx : rs[r]? = some x) (hm : x.1.points.length + x.1.flank.length ≤ 1000000) :
    Calls Tryz.prog 56 #[.agg #[v 0, v 1, v 2, v 3], .int .i64 r] w fun e w' => ∃ u, e = .returned u ∧ rowAt w' u 2 nC (x.1.points ++ x.1.flank) ∧ Below w.heap.size w w' :=
  (tableNeedsO_any v l rs r x w h hx hm).mono fun _ _ ⟨u, he, ho, hb⟩ => ⟨u, he, rowAt_of_owns (fun _ => rfl) ho, hb⟩
end Go.Proofs.YtceebimgfajbcaaGreatDoor

namespace Go.Proofs.YtceebimgfajbcaaGreatDoor
open Go.RowKit

/-- Two routes exclude one another. -/
def confB (r s : Nat) (a b : Rt) : Bool := decide (r = s) || (decide (a.frm = b.frm) || (shareB a.path b.path || pullB (a.points ++ a.flank) (b.points ++ b.flank)))

/-- A route's three cells that are read. -/
def Rt3 (b : Nat) (f p : Value) (w : World) : Prop := w.cell? ⟨b, 1, none⟩ = some f ∧ w.cell? ⟨b, 3, none⟩ = some p
theorem Rt3.ext {b : Nat} {f p : Value} {w : World} (h : Rt3 b f p w) (y : Ext w) : y.z.cell? ⟨b, 1, none⟩ = some f ∧ y.z.cell? ⟨b, 3, none⟩ = some p := ⟨ext_cell h.1 y, ext_cell h.2 y⟩

set_option maxRecDepth 1000000 in
set_option maxHeartbeats 8000000 in
theorem conflict_any (v : Nat → Value) (l : Lay) (rs : List RtV) (r s : Nat) (x y : RtV) (w : World) (h : LayRd w v l rs) (hx : rs[r]? = some x) (hy : rs[s]? = some y)
    (hmx : x.1.path.length ≤ 1000000 ∧ x.1.points.length + x.1.flank.length ≤ 1000000) (hmy : y.1.path.length ≤ 1000000 ∧ y.1.points.length + y.1.flank.length ≤ 1000000) :
    Calls Tryz.prog 57 #[.agg #[v 0, v 1, v 2, v 3], .int .i64 r, .int .i64 s] w fun e w' => e = .returned (.bool (confB r s x.1 y.1)) ∧ Below w.heap.size w w' := by
  have NR : Hid (∀ W, Below w.heap.size w W → Calls Tryz.prog 56 #[.agg #[v 0, v 1, v 2, v 3], .int .i64 r] W fun e w' => ∃ u, e = .returned u ∧ rowAt w' u 2 nC (x.1.points ++ x.1.flank) ∧ Below W.heap.size W w') := fun W hW => tableNeeds_any v l rs r x W (h.below hW) hx hmx.2
  have NS : Hid (∀ W, Below w.heap.size w W → Calls Tryz.prog 56 #[.agg #[v 0, v 1, v 2, v 3], .int .i64 s] W fun e w' => ∃ u, e = .returned u ∧ rowAt w' u 2 nC (y.1.points ++ y.1.flank) ∧ Below W.heap.size W w') := fun W hW => tableNeeds_any v l rs s y W (h.below hW) hy hmy.2
  have PU : Hid (∀ ua ub W, rowAt W ua 2 nC (x.1.points ++ x.1.flank) → rowAt W ub 2 nC (y.1.points ++ y.1.flank) → Calls Tryz.prog 82 #[ua, ub] W fun e w' => e = .returned (.bool (pullB (x.1.points ++ x.1.flank) (y.1.points ++ y.1.flank))) ∧ Below W.heap.size W w') := fun ua ub W h1 h2 => pullApart_any ua ub _ _ W h1 h2 (by rw [List.length_append]; omega) (by rw [List.length_append]; omega)
  have SH : Hid (∀ W, Below w.heap.size w W → Calls Tryz.prog 81 #[x.2.1, y.2.1] W fun e w' => e = .returned (.bool (shareB x.1.path y.1.path)) ∧ Below W.heap.size W w') := fun W hW => shareSection_any _ _ _ _ W ((h.x x (List.mem_of_getElem? hx)).path.below hW) ((h.x y (List.mem_of_getElem? hy)).path.below hW) (by omega) (by omega)
  obtain ⟨⟨o3x, n3x, k3x, fx3⟩, ⟨o4x, n4x, k4x, fx4⟩, o5x, n5x, k5x, fx5⟩ := (h.x x (List.mem_of_getElem? hx)).slices
  obtain ⟨⟨o3y, n3y, k3y, fy3⟩, ⟨o4y, n4y, k4y, fy4⟩, o5y, n5y, k5y, fy5⟩ := (h.x y (List.mem_of_getElem? hy)).slices
  obtain ⟨o0, c0, e0, _⟩ := h.s
  obtain ⟨o1, c1, e1, _⟩ := h.p
  obtain ⟨o2, c2, e2, _⟩ := h.g
  obtain ⟨o3, c3, e3, r3⟩ := h.r
  have S := BoxAt.start w v
  obtain ⟨g, off, rfl, hcx⟩ := r3 r _ hx
  obtain ⟨g', off', e', hcy⟩ := r3 s _ hy
  injection e' with e'
  injection e' with e1' e2'
  subst e1' e2'
  have hrl : r < rs.length := (List.getElem?_eq_some_iff.1 hx).1
  have hsl : s < rs.length := (List.getElem?_eq_some_iff.1 hy).1
  have xa0 := hcx 0 _ rfl
  have xa1 := hcx 1 _ rfl
  have xa2 := hcx 2 _ rfl
  have xa3 := hcx 3 _ rfl
  have xa4 := hcx 4 _ rfl
  have xa5 := hcx 5 _ rfl
  have ya0 := hcy 0 _ rfl
  have ya1 := hcy 1 _ rfl
  have ya2 := hcy 2 _ rfl
  have ya3 := hcy 3 _ rfl
  have ya4 := hcy 4 _ rfl
  have ya5 := hcy 5 _ rfl
  rw [Nat.add_zero] at xa0 ya0
  rw [fx3] at xa3 SH
  rw [fy3] at ya3 SH
  rw [fx4] at xa4
  rw [fx5] at xa5
  rw [fy4] at ya4
  rw [fy5] at ya5
  have HV : Hid (v 0 = .slice o0 l.sections.length c0 ∧ v 1 = .slice o1 l.points.length c1 ∧ v 2 = .slice o2 l.signals.length c2 ∧ v 3 = .slice (some ⟨g, off, none⟩) rs.length c3) := ⟨e0, e1, e2, e3⟩
  have HCF : Hid (confB r s x.1 y.1 = (decide (r = s) || (decide (x.1.frm = y.1.frm) || (shareB x.1.path y.1.path || pullB (x.1.points ++ x.1.flank) (y.1.points ++ y.1.flank))))) := rfl
  rw [e0, e1, e2, e3] at S ⊢
  rw [e0, e1, e2, e3] at NR NS
  clear h hmx hmy hx hy hcx hcy r3 e0 e1 e2 e3 fx3 fx4 fx5 fy3 fy4 fy5
  generalize confB r s x.1 y.1 = B at *
  generalize shareB x.1.path y.1.path = b2 at *
  generalize pullB (x.1.points ++ x.1.flank) (y.1.points ++ y.1.flank) = b3 at *
  generalize x.1.points ++ x.1.flank = nx at *
  generalize y.1.points ++ y.1.flank = ny at *
  generalize x.1.frm = fx at *
  generalize y.1.frm = fy at *
  generalize x.1.name = xn at *
  generalize y.1.name = yn at *
  generalize x.1.to = xt at *
  generalize y.1.to = yt at *
  generalize l.sections.length = n0 at *
  generalize l.points.length = n1 at *
  generalize l.signals.length = n2 at *
  generalize rs.length = n3 at *
  have C1 := fun W => isPlace_any (r : Int) n3 W
  rw [decide_eq_true (show (0 : Int) ≤ (r : Int) ∧ (r : Int) < (n3 : Int) by omega)] at C1
  have C2 := fun W => isPlace_any (s : Int) n3 W
  rw [decide_eq_true (show (0 : Int) ≤ (s : Int) ∧ (s : Int) < (n3 : Int) by omega)] at C2
  have hri : (r : Int) < (n3 : Int) := by omega
  have hsi : (s : Int) < (n3 : Int) := by omega
  have TA : Hid (BoxAt w v (w.alloc (.cells #[.slice o0 n0 c0, .slice o1 n1 c1, .slice o2 n2 c2, .slice (some ⟨g, off, none⟩) n3 c3] 26))) := S
  clear S
  go_enter Tryz.func57, Tryz.ntmps57
  go_wp2_with fail
  refine (C1 _).mono ?_
  rintro e w' ⟨rfl, rfl⟩
  go_wp2_with fail
  refine (C2 _).mono ?_
  rintro e w' ⟨rfl, rfl⟩
  clear C1 C2
  generalize w.alloc (.cells #[.slice o0 n0 c0, .slice o1 n1 c1, .slice o2 n2 c2, .slice (some ⟨g, off, none⟩) n3 c3] 26) = w1 at *
  have h2 := TA.out.cells
  rw [HV.out.1, HV.out.2.1, HV.out.2.2.1, HV.out.2.2.2] at h2
  have up : ∀ {p : Addr} {u : Value}, w.cell? p = some u → w1.cell? p = some u := fun h => (TA.out.1.cell (World.block_lt_of_cell? _ _ h)).trans h
  have xb0 := up xa0
  have xb1 := up xa1
  have xb2 := up xa2
  have xb3 := up xa3
  have xb4 := up xa4
  have xb5 := up xa5
  have yb0 := up ya0
  have yb1 := up ya1
  have yb2 := up ya2
  have yb3 := up ya3
  have yb4 := up ya4
  have yb5 := up ya5
  have q3 := h2.2.2.2
  have HW : Hid (∀ W, Below w1.heap.size w1 W → Below w.heap.size w W) := fun W hW => TA.out.1.trans (hW.mono TA.out.1.size)
  have KEEP : Hid (∀ W : World, Below w1.heap.size w1 W → W.cell? ⟨w.heap.size, 3, none⟩ = some (.slice (some ⟨g, off, none⟩) n3 c3) ∧ (W.cell? ⟨g, off + r * 6, none⟩ = some (.string xn) ∧ W.cell? ⟨g, off + r * 6 + 1, none⟩ = some (.int .i64 fx) ∧ W.cell? ⟨g, off + r * 6 + 2, none⟩ = some (.int .i64 xt) ∧ W.cell? ⟨g, off + r * 6 + 3, none⟩ = some (.slice o3x n3x k3x) ∧ W.cell? ⟨g, off + r * 6 + 4, none⟩ = some (.slice o4x n4x k4x) ∧ W.cell? ⟨g, off + r * 6 + 5, none⟩ = some (.slice o5x n5x k5x)) ∧ W.cell? ⟨g, off + s * 6, none⟩ = some (.string yn) ∧ W.cell? ⟨g, off + s * 6 + 1, none⟩ = some (.int .i64 fy) ∧ W.cell? ⟨g, off + s * 6 + 2, none⟩ = some (.int .i64 yt) ∧ W.cell? ⟨g, off + s * 6 + 3, none⟩ = some (.slice o3y n3y k3y) ∧ W.cell? ⟨g, off + s * 6 + 4, none⟩ = some (.slice o4y n4y k4y) ∧ W.cell? ⟨g, off + s * 6 + 5, none⟩ = some (.slice o5y n5y k5y)) := fun W hW => by
    have up : ∀ {p : Addr} {u : Value}, w1.cell? p = some u → W.cell? p = some u := fun h => (hW.cell (World.block_lt_of_cell? _ _ h)).trans h
    exact ⟨up q3, ⟨up xb0, up xb1, up xb2, up xb3, up xb4, up xb5⟩, up yb0, up yb1, up yb2, up yb3, up yb4, up yb5⟩
  clear up xa0 xa1 xa2 xa3 xa4 xa5 ya0 ya1 ya2 ya3 ya4 ya5 h2
  go_upto_region 3 with fail
  go_cut [7, 8] from 23 to 58 (fun sx sy wc => ∃ b c, sx = .pointer (some ⟨b, 0, none⟩) ∧ sy = .pointer (some ⟨c, 0, none⟩) ∧ Rt3 b (.int .i64 fx) (.slice o3x n3x k3x) wc ∧ Rt3 c (.int .i64 fy) (.slice o3y n3y k3y) wc ∧ Below w1.heap.size w1 wc)
  case first =>
    clear hrl hsl
    go_region_held (fun W => W.cell? ⟨w.heap.size, 3, none⟩ = some (.slice (some ⟨g, off, none⟩) n3 c3) ∧ (W.cell? ⟨g, off + r * 6, none⟩ = some (.string xn) ∧ W.cell? ⟨g, off + r * 6 + 1, none⟩ = some (.int .i64 fx) ∧ W.cell? ⟨g, off + r * 6 + 2, none⟩ = some (.int .i64 xt) ∧ W.cell? ⟨g, off + r * 6 + 3, none⟩ = some (.slice o3x n3x k3x) ∧ W.cell? ⟨g, off + r * 6 + 4, none⟩ = some (.slice o4x n4x k4x) ∧ W.cell? ⟨g, off + r * 6 + 5, none⟩ = some (.slice o5x n5x k5x)) ∧ W.cell? ⟨g, off + s * 6, none⟩ = some (.string yn) ∧ W.cell? ⟨g, off + s * 6 + 1, none⟩ = some (.int .i64 fy) ∧ W.cell? ⟨g, off + s * 6 + 2, none⟩ = some (.int .i64 yt) ∧ W.cell? ⟨g, off + s * 6 + 3, none⟩ = some (.slice o3y n3y k3y) ∧ W.cell? ⟨g, off + s * 6 + 4, none⟩ = some (.slice o4y n4y k4y) ∧ W.cell? ⟨g, off + s * 6 + 5, none⟩ = some (.slice o5y n5y k5y)) (exact KEEP.out _ (by repeat' (with_reducible first | exact Below.refl _ _ | refine Below.drew ?_ | refine Below.alloc ?_ ?_ _ | refine Below.setCell ?_ ?_ _ | exact Nat.le_refl _ | (simp; done) | (simp; omega)))) (fail)
    all_goals
      go_wp2_with fail
      go_meet
      case rel =>
        refine ⟨_, _, rfl, rfl, ⟨by go_simp, by go_simp⟩, ⟨by go_simp, by go_simp⟩, ?_⟩
        repeat' (with_reducible first | exact Below.refl _ _ | refine Below.drew ?_ | refine Below.alloc ?_ ?_ _ | refine Below.setCell ?_ ?_ _ | exact Nat.le_refl _ | (simp; done) | (simp; omega))
  case rest =>
    obtain ⟨b, c, rfl, rfl, rx, ry, hbc⟩ := hcut
    have HWC : Hid (∀ W, Below wc.heap.size wc W → Below w.heap.size w W) := fun W hW => HW.out _ (hbc.trans (hW.mono hbc.size))
    have h2 := (TA.out.step hbc).cells
    rw [HV.out.1, HV.out.2.1, HV.out.2.2.1, HV.out.2.2.2] at h2
    have z0 := ext_cell h2.1
    have z1 := ext_cell h2.2.1
    have z2 := ext_cell h2.2.2.1
    have z3 := ext_cell h2.2.2.2
    have xf := ext_cell rx.1
    have xp := ext_cell rx.2
    have yf := ext_cell ry.1
    have yp := ext_cell ry.2
    haveI := ext_some wc
    have HB1 : Hid (Below wc.heap.size wc wc.drew) := (Below.refl _ _).drew
    clear KEEP xb0 xb1 xb2 xb3 xb4 xb5 yb0 yb1 yb2 yb3 yb4 yb5 q3 h2 rx ry hbc
    go_wp2_with fail
    refine wp_region_mix_seq (C := fun W => ∃ y : Ext wc, W = y.z) [0, 1, 2, 3, 4, 5, 6, 7, 8, 9, 10, 11, 12, 13, 14, 15, 16, 17, 18, 19, 21, 22, 20, 23, 24, 25, 26] (by kernel_rfl) (by kernel_rfl) (by kernel_rfl) (by kernel_rfl) (by simp only [List.filterMap_cons, List.getElem?_toArray, List.getElem?_cons_zero, List.getElem?_cons_succ, List.filterMap_nil]; rfl) ⟨⟨_, (Below.refl _ _).drew⟩, rfl⟩ ?_
    by_cases hrs : r = s
    · subst hrs
      (repeat (first | (with_reducible refine mix_read (by kernel_rfl) ?_; go_big_quiet_want; go_big_quiet_op; go_big_quiet_on; with_reducible refine wpQuiet_nil ?_) | (with_reducible refine mix_pass (by kernel_rfl) ?_; go_big_quiet_skip; with_reducible refine wpQuiet_nil ?_)))
      with_reducible refine mix_end ?_
      intro _
      go_wp2
      go_ret
      exact ⟨ret_bool (by rw [HCF.out]; simp), HWC.out _ HB1.out⟩
    have hd1 : ((r : Int) == (s : Int)) = false := by simp; omega
    have hd2 : decide ((r : Int) = (s : Int)) = false := decide_eq_false (by omega)
    have HRS : Hid (¬ r = s) := hrs
    by_cases hff : fx = fy
    · have hd3 : (fx == fy) = true := by simp [hff]
      have hd4 : decide (fx = fy) = true := decide_eq_true hff
      have HFF : Hid (fx = fy) := hff
      clear hff hrs
      (repeat (first | (with_reducible refine mix_read (by kernel_rfl) ?_; go_big_quiet_want; go_big_quiet_op; go_big_quiet_on; with_reducible refine wpQuiet_nil ?_) | (with_reducible refine mix_pass (by kernel_rfl) ?_; go_big_quiet_skip; with_reducible refine wpQuiet_nil ?_)))
      with_reducible refine mix_end ?_
      intro _
      go_wp2
      go_ret
      exact ⟨ret_bool (by rw [HCF.out]; simp [HFF.out]), HWC.out _ HB1.out⟩
    have hd3 : (fx == fy) = false := by simp [hff]
    have hd4 : decide (fx = fy) = false := decide_eq_false hff
    have HFF : Hid (¬ fx = fy) := hff
    clear hff hrs
    (repeat (first | (with_reducible refine mix_read (by kernel_rfl) ?_; go_big_quiet_want; go_big_quiet_op; go_big_quiet_on; with_reducible refine wpQuiet_nil ?_) | (with_reducible refine mix_pass (by kernel_rfl) ?_; go_big_quiet_skip; with_reducible refine wpQuiet_nil ?_)))
    with_reducible refine mix_call (by kernel_rfl) (by kernel_rfl) ((SH.out _ (HWC.out _ HB1.out)).mono ?_) (by kernel_rfl)
    rintro e w2 ⟨rfl, hb2⟩
    have HB2 : Hid (Below wc.heap.size wc w2) := HB1.out.trans (hb2.mono HB1.out.size)
    clear hb2
    refine ⟨_, rfl, ⟨⟨_, HB2.out⟩, rfl⟩, ?_⟩
    simp only [Act.put, List.setIfInBounds_toArray, List.set_cons_zero, List.set_cons_succ]
    cases b2
    · (repeat (first | (with_reducible refine mix_read (by kernel_rfl) ?_; go_big_quiet_want; go_big_quiet_op; go_big_quiet_on; with_reducible refine wpQuiet_nil ?_) | (with_reducible refine mix_pass (by kernel_rfl) ?_; go_big_quiet_skip; with_reducible refine wpQuiet_nil ?_)))
      with_reducible refine mix_call (by kernel_rfl) (by kernel_rfl) ((NR.out _ (HWC.out _ HB2.out)).mono ?_) (by kernel_rfl)
      rintro e w3 ⟨u3, rfl, r3, hb3⟩
      have HB3 : Hid (Below wc.heap.size wc w3) := HB2.out.trans (hb3.mono HB2.out.size)
      have HR3 : Hid (rowAt w3 u3 2 nC nx) := r3
      clear hb3 r3
      refine ⟨_, rfl, ⟨⟨_, HB3.out⟩, rfl⟩, ?_⟩
      simp only [Act.put, List.setIfInBounds_toArray, List.set_cons_zero, List.set_cons_succ]
      (repeat (first | (with_reducible refine mix_read (by kernel_rfl) ?_; go_big_quiet_want; go_big_quiet_op; go_big_quiet_on; with_reducible refine wpQuiet_nil ?_) | (with_reducible refine mix_pass (by kernel_rfl) ?_; go_big_quiet_skip; with_reducible refine wpQuiet_nil ?_)))
      with_reducible refine mix_call (by kernel_rfl) (by kernel_rfl) ((NS.out _ (HWC.out _ HB3.out)).mono ?_) (by kernel_rfl)
      rintro e w4 ⟨u4, rfl, r4, hb4⟩
      have HB4 : Hid (Below wc.heap.size wc w4) := HB3.out.trans (hb4.mono HB3.out.size)
      have HR4 : Hid (rowAt w4 u4 2 nC ny) := r4
      have HR3' : Hid (rowAt w4 u3 2 nC nx) := HR3.out.below hb4
      clear hb4 r4
      refine ⟨_, rfl, ⟨⟨_, HB4.out⟩, rfl⟩, ?_⟩
      simp only [Act.put, List.setIfInBounds_toArray, List.set_cons_zero, List.set_cons_succ]
      (repeat (first | (with_reducible refine mix_read (by kernel_rfl) ?_; go_big_quiet_want; go_big_quiet_op; go_big_quiet_on; with_reducible refine wpQuiet_nil ?_) | (with_reducible refine mix_pass (by kernel_rfl) ?_; go_big_quiet_skip; with_reducible refine wpQuiet_nil ?_)))
      with_reducible refine mix_call (by kernel_rfl) (by kernel_rfl) ((PU.out _ _ _ HR3'.out HR4.out).mono ?_) (by kernel_rfl)
      rintro e w5 ⟨rfl, hb5⟩
      have HB5 : Hid (Below wc.heap.size wc w5) := HB4.out.trans (hb5.mono HB4.out.size)
      clear hb5
      refine ⟨_, rfl, ⟨⟨_, HB5.out⟩, rfl⟩, ?_⟩
      simp only [Act.put, List.setIfInBounds_toArray, List.set_cons_zero, List.set_cons_succ]
      (repeat (first | (with_reducible refine mix_read (by kernel_rfl) ?_; go_big_quiet_want; go_big_quiet_op; go_big_quiet_on; with_reducible refine wpQuiet_nil ?_) | (with_reducible refine mix_pass (by kernel_rfl) ?_; go_big_quiet_skip; with_reducible refine wpQuiet_nil ?_)))
      with_reducible refine mix_end ?_
      intro _
      go_wp2
      go_ret
      exact ⟨ret_bool (by rw [HCF.out]; simp [HFF.out, HRS.out]), HWC.out _ HB5.out⟩
    · (repeat (first | (with_reducible refine mix_read (by kernel_rfl) ?_; go_big_quiet_want; go_big_quiet_op; go_big_quiet_on; with_reducible refine wpQuiet_nil ?_) | (with_reducible refine mix_pass (by kernel_rfl) ?_; go_big_quiet_skip; with_reducible refine wpQuiet_nil ?_)))
      with_reducible refine mix_end ?_
      intro _
      go_wp2
      go_ret
      exact ⟨ret_bool (by rw [HCF.out]; simp), HWC.out _ HB2.out⟩
end Go.Proofs.YtceebimgfajbcaaGreatDoor
