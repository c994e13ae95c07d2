/-
  Package table: do two paths share a section? would a point have to lie both ways? by contracts.
-/
import Derived.Test.YtceebimgfajbcaaTbPts
import Derived.Test.YtceebimgfajbcaaLyMix
namespace Go.Proofs.Ytceebimgfajbcaa
open Go.RowKit

def shareB (a b : List Int) : Bool := a.any (inB b)
def needEq (x y : Int × Bool) : Bool := decide (x.1 = y.1 ∧ x.2 = y.2)
def pullB (a b : List (Int × Bool)) : Bool := a.any fun n => b.any fun m => needEq (n.1, !n.2) m

theorem run_eqlNd (n m : Int) (a b : Bool) (W : World) : (binOp .eql 35 (.agg #[.int .i64 n, .bool a]) (.agg #[.int .i64 m, .bool b])).run Try.prog W = .ok (.bool (decide (n = m ∧ a = b))) W := by
  rw [run_eql_struct, run_eqNd]
  rfl

set_option maxRecDepth 1000000 in
set_option maxHeartbeats 2000000 in
theorem indexFuncI_any (v : Value) (l : List Int) (p : Int → Bool) (b : Nat) (w : World) (h : rowAt w v 1 iC l) (hl : l.length ≤ 4294967296)
    (CL : ∀ x W, Below w.heap.size w W → Calls Try.prog 30 #[.int .i64 x, .pointer (some ⟨b, 0, none⟩)] W fun e w' => e = .returned (.bool (p x)) ∧ Below W.heap.size W w') :
    Calls Try.prog 40 #[v, .func (.func 30) #[] #[.pointer (some ⟨b, 0, none⟩)]] w fun e w' => e = .returned (.int .i64 (atF p l 0)) ∧ Below w.heap.size w w' := by
  obtain ⟨oa, cap, rfl, h2⟩ := h
  have H2 : Hid (∀ j y, l[j]? = some y → ∃ g off, oa = some ⟨g, off, none⟩ ∧ ∀ i u, (iC y)[i]? = some u → w.cell? ⟨g, off + j * 1 + i, none⟩ = some u) := h2
  clear h2
  have CLH : Hid (∀ x W, Below w.heap.size w W → Calls Try.prog 30 #[.int .i64 x, .pointer (some ⟨b, 0, none⟩)] W fun e w' => e = .returned (.bool (p x)) ∧ Below W.heap.size W w') := CL
  clear CL
  generalize hA : atF p l 0 = ans at *
  have HI : Hid (atF p l 0 = ans) := hA
  clear hA
  generalize hn : l.length = n at *
  have HN : Hid (l.length = n) := hn
  clear hn
  go_enter Try.func40, Try.ntmps40
  go_wp2
  go_loopg [5, 8] n (fun gk _ i wr => ∃ k : Nat, gk = n - k ∧ i = .int .i64 k ∧ k ≤ n ∧ atF p (l.drop k) k = atF p l 0 ∧ Below w.heap.size w wr)
  case atStart => exact ⟨0, rfl, rfl, by omega, by simp, Below.refl _ _⟩
  case round =>
    obtain ⟨k, rfl, rfl, hk, hc, hbl⟩ := hrel
    have HC : Hid (atF p (l.drop k) k = atF p l 0) := hc
    clear hc
    by_cases hlt : k < n
    · obtain ⟨y, hy⟩ : ∃ y, l[k]? = some y := ⟨l[k]'(by rw [HN.out]; exact hlt), List.getElem?_eq_getElem _⟩
      obtain ⟨g, off, rfl, hcell⟩ := H2.out k y hy
      have hki : (k : Int) < (n : Int) := by omega
      rw [drop_at hy, atF] at HC
      have CY : Hid (∀ W, Below w.heap.size w W → Calls Try.prog 30 #[.int .i64 y, .pointer (some ⟨b, 0, none⟩)] W fun e w' => e = .returned (.bool (p y)) ∧ Below W.heap.size W w') := CLH.out y
      have a0 := hcell 0 _ rfl
      simp only [Nat.mul_one, Nat.add_zero] at a0
      have d0 := (hbl.cell (World.block_lt_of_cell? _ _ a0)).trans a0
      clear hcell hy a0
      generalize hpy : p y = py at *
      clear hpy
      cases py
      · rw [if_neg (by simp)] at HC
        go_wp2_with fail
        refine (CY.out _ hbl).mono ?_
        rintro e w1 ⟨rfl, hb1⟩
        have hb2 := hbl.trans (hb1.mono hbl.size)
        clear hb1
        go_wp2
        go_roundg (n - (k + 1))
        case rel => exact ⟨k + 1, rfl, by go_num, by omega, HC.out, hb2⟩
        case measure => omega
      · rw [if_pos rfl] at HC
        go_wp2_with fail
        refine (CY.out _ hbl).mono ?_
        rintro e w1 ⟨rfl, hb1⟩
        have hb2 := hbl.trans (hb1.mono hbl.size)
        clear hb1
        go_wp2
        go_ret
        exact ⟨by rw [← HI.out, ← HC.out]; rfl, hb2⟩
    · have h1 := HC.out
      rw [List.drop_of_length_le (by rw [HN.out]; omega), atF] at h1
      have H1 : Hid (-1 = atF p l 0) := h1
      clear h1
      go_wp2
      go_ret
      exact ⟨by rw [← HI.out, ← H1.out]; rfl, hbl⟩

theorem containsFuncI_any (v : Value) (l : List Int) (p : Int → Bool) (b : Nat) (w : World) (h : rowAt w v 1 iC l) (hl : l.length ≤ 4294967296)
    (CL : ∀ x W, Below w.heap.size w W → Calls Try.prog 30 #[.int .i64 x, .pointer (some ⟨b, 0, none⟩)] W fun e w' => e = .returned (.bool (p x)) ∧ Below W.heap.size W w') :
    Calls Try.prog 29 #[v, .func (.func 30) #[] #[.pointer (some ⟨b, 0, none⟩)]] w fun e w' => e = .returned (.bool (l.any p)) ∧ Below w.heap.size w w' := by
  have HI : decide (0 ≤ atF p l 0) = l.any p := atF_ge _ _ _
  have C := indexFuncI_any v l p b w h hl CL
  rw [← HI]
  generalize atF p l 0 = n at *
  clear h HI CL
  go_enter Try.func29, Try.ntmps29
  go_wp2_with fail
  refine C.mono ?_
  rintro e w1 ⟨rfl, hb⟩
  go_wp2
  go_ret
  exact ⟨rfl, hb⟩

set_option maxRecDepth 1000000 in
set_option maxHeartbeats 2000000 in
theorem indexFuncN_any (v : Value) (l : List (Int × Bool)) (p : (Int × Bool) → Bool) (b : Nat) (w : World) (h : rowAt w v 2 nC l) (hl : l.length ≤ 4294967296)
    (CL : ∀ x W, Below w.heap.size w W → Calls Try.prog 33 #[.agg #[.int .i64 x.1, .bool x.2], .pointer (some ⟨b, 0, none⟩)] W fun e w' => e = .returned (.bool (p x)) ∧ Below W.heap.size W w') :
    Calls Try.prog 42 #[v, .func (.func 33) #[] #[.pointer (some ⟨b, 0, none⟩)]] w fun e w' => e = .returned (.int .i64 (atF p l 0)) ∧ Below w.heap.size w w' := by
  obtain ⟨oa, cap, rfl, h2⟩ := h
  have H2 : Hid (∀ j y, l[j]? = some y → ∃ g off, oa = some ⟨g, off, none⟩ ∧ ∀ i u, (nC y)[i]? = some u → w.cell? ⟨g, off + j * 2 + i, none⟩ = some u) := h2
  clear h2
  have CLH : Hid (∀ x W, Below w.heap.size w W → Calls Try.prog 33 #[.agg #[.int .i64 x.1, .bool x.2], .pointer (some ⟨b, 0, none⟩)] W fun e w' => e = .returned (.bool (p x)) ∧ Below W.heap.size W w') := CL
  clear CL
  generalize hA : atF p l 0 = ans at *
  have HI : Hid (atF p l 0 = ans) := hA
  clear hA
  generalize hn : l.length = n at *
  have HN : Hid (l.length = n) := hn
  clear hn
  go_enter Try.func42, Try.ntmps42
  go_wp2
  go_loopg [5, 8] n (fun gk _ i wr => ∃ k : Nat, gk = n - k ∧ i = .int .i64 k ∧ k ≤ n ∧ atF p (l.drop k) k = atF p l 0 ∧ Below w.heap.size w wr)
  case atStart => exact ⟨0, rfl, rfl, by omega, by simp, Below.refl _ _⟩
  case round =>
    obtain ⟨k, rfl, rfl, hk, hc, hbl⟩ := hrel
    have HC : Hid (atF p (l.drop k) k = atF p l 0) := hc
    clear hc
    by_cases hlt : k < n
    · obtain ⟨y, hy⟩ : ∃ y, l[k]? = some y := ⟨l[k]'(by rw [HN.out]; exact hlt), List.getElem?_eq_getElem _⟩
      obtain ⟨g, off, rfl, hcell⟩ := H2.out k y hy
      have hki : (k : Int) < (n : Int) := by omega
      rw [drop_at hy, atF] at HC
      have CY : Hid (∀ W, Below w.heap.size w W → Calls Try.prog 33 #[.agg #[.int .i64 y.1, .bool y.2], .pointer (some ⟨b, 0, none⟩)] W fun e w' => e = .returned (.bool (p y)) ∧ Below W.heap.size W w') := CLH.out y
      have a0 := hcell 0 _ rfl
      have a1 := hcell 1 _ rfl
      have d1 := (hbl.cell (World.block_lt_of_cell? _ _ a1)).trans a1
      clear a1
      simp only [Nat.add_zero] at a0
      have d0 := (hbl.cell (World.block_lt_of_cell? _ _ a0)).trans a0
      clear hcell hy a0
      generalize hpy : p y = py at *
      obtain ⟨y1, y2⟩ := y
      simp only at d0 d1 CY
      clear hpy
      cases py
      · rw [if_neg (by simp)] at HC
        go_wp2_with fail
        refine (CY.out _ hbl).mono ?_
        rintro e w1 ⟨rfl, hb1⟩
        have hb2 := hbl.trans (hb1.mono hbl.size)
        clear hb1
        go_wp2
        go_roundg (n - (k + 1))
        case rel => exact ⟨k + 1, rfl, by go_num, by omega, HC.out, hb2⟩
        case measure => omega
      · rw [if_pos rfl] at HC
        go_wp2_with fail
        refine (CY.out _ hbl).mono ?_
        rintro e w1 ⟨rfl, hb1⟩
        have hb2 := hbl.trans (hb1.mono hbl.size)
        clear hb1
        go_wp2
        go_ret
        exact ⟨by rw [← HI.out, ← HC.out]; rfl, hb2⟩
    · have h1 := HC.out
      rw [List.drop_of_length_le (by rw [HN.out]; omega), atF] at h1
      have H1 : Hid (-1 = atF p l 0) := h1
      clear h1
      go_wp2
      go_ret
      exact ⟨by rw [← HI.out, ← H1.out]; rfl, hbl⟩

theorem containsFuncN_any (v : Value) (l : List (Int × Bool)) (p : (Int × Bool) → Bool) (b : Nat) (w : World) (h : rowAt w v 2 nC l) (hl : l.length ≤ 4294967296)
    (CL : ∀ x W, Below w.heap.size w W → Calls Try.prog 33 #[.agg #[.int .i64 x.1, .bool x.2], .pointer (some ⟨b, 0, none⟩)] W fun e w' => e = .returned (.bool (p x)) ∧ Below W.heap.size W w') :
    Calls Try.prog 32 #[v, .func (.func 33) #[] #[.pointer (some ⟨b, 0, none⟩)]] w fun e w' => e = .returned (.bool (l.any p)) ∧ Below w.heap.size w w' := by
  have HI : decide (0 ≤ atF p l 0) = l.any p := atF_ge _ _ _
  have C := indexFuncN_any v l p b w h hl CL
  rw [← HI]
  generalize atF p l 0 = n at *
  clear h HI CL
  go_enter Try.func32, Try.ntmps32
  go_wp2_with fail
  refine C.mono ?_
  rintro e w1 ⟨rfl, hb⟩
  go_wp2
  go_ret
  exact ⟨rfl, hb⟩

theorem share1_any (x : Int) (vb : Value) (l : List Int) (b : Nat) (w : World) (hv : rowAt w vb 1 iC l) (hb : w.cell? ⟨b, 0, none⟩ = some vb) (hl : l.length ≤ 4294967296) :
    Calls Try.prog 30 #[.int .i64 x, .pointer (some ⟨b, 0, none⟩)] w fun e w' => e = .returned (.bool (inB l x)) ∧ Below w.heap.size w w' := by
  have C := containsI_any vb l x w hv hl
  obtain ⟨oa, c, rfl, _⟩ := hv
  generalize inB l x = r at *
  go_enter Try.func30, Try.ntmps30
  go_wp2_with fail
  refine C.mono ?_
  rintro e w1 ⟨rfl, rfl⟩
  go_wp2
  go_ret
  exact ⟨rfl, Below.refl _ _⟩

theorem shareSection_any (va vb : Value) (a b : List Int) (w : World) (ha : rowAt w va 1 iC a) (hb : rowAt w vb 1 iC b) (hla : a.length ≤ 4294967296) (hlb : b.length ≤ 4294967296) :
    Calls Try.prog 20 #[va, vb] w fun e w' => e = .returned (.bool (shareB a b)) ∧ Below w.heap.size w w' := by
  have hal : ∀ o, Below w.heap.size w (w.alloc o) := fun o => (Below.refl _ _).alloc (Nat.le_refl _) _
  have C : Hid (∀ W, Below w.heap.size w W → W.cell? ⟨w.heap.size, 0, none⟩ = some vb → Calls Try.prog 29 #[va, .func (.func 30) #[] #[.pointer (some ⟨w.heap.size, 0, none⟩)]] W fun e w' => e = .returned (.bool (shareB a b)) ∧ Below W.heap.size W w') := fun W hW hc =>
    containsFuncI_any va a (inB b) w.heap.size W (ha.below hW) hla (fun x W' hW' => share1_any x vb b w.heap.size W' ((hb.below hW).below hW') ((hW'.cell (World.block_lt_of_cell? _ _ hc)).trans hc) hlb)
  obtain ⟨ob, cb, rfl, _⟩ := hb
  obtain ⟨oa, ca, rfl, _⟩ := ha
  have hcell : (w.alloc (.cells #[.slice ob b.length cb] 30)).cell? ⟨w.heap.size, 0, none⟩ = some (.slice ob b.length cb) := by simp
  generalize shareB a b = r at *
  go_enter Try.func20, Try.ntmps20
  go_wp2_with fail
  refine (C.out _ (hal _) hcell).mono ?_
  rintro e w1 ⟨rfl, hb1⟩
  have hb2 := (hal (.cells #[.slice ob b.length cb] 30)).trans (hb1.mono (by simp))
  clear hb1
  go_wp2
  go_ret
  exact ⟨rfl, hb2⟩

set_option maxRecDepth 1000000 in
set_option maxHeartbeats 2000000 in
theorem indexN_any (v : Value) (l : List (Int × Bool)) (x : Int × Bool) (w : World) (h : rowAt w v 2 nC l) (hl : l.length ≤ 4294967296) :
    Calls Try.prog 43 #[v, .agg #[.int .i64 x.1, .bool x.2]] w fun e w' => e = .returned (.int .i64 (atF (needEq x) l 0)) ∧ Below w.heap.size w w' := by
  obtain ⟨x1, x2⟩ := x
  obtain ⟨oa, cap, rfl, h2⟩ := h
  have H2 : Hid (∀ j y, l[j]? = some y → ∃ g off, oa = some ⟨g, off, none⟩ ∧ ∀ i u, (nC y)[i]? = some u → w.cell? ⟨g, off + j * 2 + i, none⟩ = some u) := h2
  clear h2
  have hbx : Below w.heap.size w (w.alloc (.cells #[.int .i64 x1, .bool x2] 35)) := (Below.refl _ _).alloc (Nat.le_refl _) _
  have hx0 : (w.alloc (.cells #[.int .i64 x1, .bool x2] 35)).cell? ⟨w.heap.size, 0, none⟩ = some (.int .i64 x1) := by simp
  have hx1 : (w.alloc (.cells #[.int .i64 x1, .bool x2] 35)).cell? ⟨w.heap.size, 1, none⟩ = some (.bool x2) := by simp
  generalize hA : atF (needEq (x1, x2)) l 0 = ans at *
  have HI : Hid (atF (needEq (x1, x2)) l 0 = ans) := hA
  clear hA
  generalize hn : l.length = n at *
  have HN : Hid (l.length = n) := hn
  clear hn
  go_enter Try.func43, Try.ntmps43
  go_wp2
  generalize w.alloc (.cells #[.int .i64 x1, .bool x2] 35) = w1 at *
  go_loopg [5, 8] n (fun gk _ i wr => ∃ k q : Nat, gk = n - k ∧ i = .int .i64 k ∧ k ≤ n ∧ atF (needEq (x1, x2)) (l.drop k) k = atF (needEq (x1, x2)) l 0 ∧ wr = w1.drewN q)
  case atStart => exact ⟨0, 0, rfl, rfl, by omega, by simp, rfl⟩
  case round =>
    obtain ⟨k, q, rfl, rfl, hk, hc, rfl⟩ := hrel
    have HC : Hid (atF (needEq (x1, x2)) (l.drop k) k = atF (needEq (x1, x2)) l 0) := hc
    clear hc
    by_cases hlt : k < n
    · obtain ⟨⟨y1, y2⟩, hy⟩ : ∃ y, l[k]? = some y := ⟨l[k]'(by rw [HN.out]; exact hlt), List.getElem?_eq_getElem _⟩
      obtain ⟨g, off, rfl, hcell⟩ := H2.out k _ hy
      have hki : (k : Int) < (n : Int) := by omega
      rw [drop_at hy, atF] at HC
      have a0 := hcell 0 _ rfl
      have a1 := hcell 1 _ rfl
      rw [Nat.add_zero] at a0
      have d0 := (hbx.cell (World.block_lt_of_cell? _ _ a0)).trans a0
      have d1 := (hbx.cell (World.block_lt_of_cell? _ _ a1)).trans a1
      clear hcell hy a0 a1
      have hEQ : ∀ W : World, (binOp .eql 35 (.agg #[.int .i64 x1, .bool x2]) (.agg #[.int .i64 y1, .bool y2])).run Try.prog W = .ok (.bool (needEq (x1, x2) (y1, y2))) W := fun W => run_eqlNd x1 y1 x2 y2 W
      generalize hpy : needEq (x1, x2) (y1, y2) = py at *
      clear hpy
      have hgd := eqGuardNd
      go_wp2_with fail
      go_quiet (fail)
      cases py
      · rw [if_neg (by simp)] at HC
        go_wp2
        go_roundg (n - (k + 1))
        case rel => exact ⟨k + 1, q + nq, rfl, by go_num, by omega, HC.out, rfl⟩
        case measure => omega
      · rw [if_pos rfl] at HC
        go_wp2
        go_ret
        exact ⟨by rw [← HI.out, ← HC.out]; rfl, _root_.Go.below_drewN (_root_.Go.below_drewN hbx _) _⟩
    · have h1 := HC.out
      rw [List.drop_of_length_le (by rw [HN.out]; omega), atF] at h1
      have H1 : Hid (-1 = atF (needEq (x1, x2)) l 0) := h1
      clear h1
      go_wp2
      go_ret
      exact ⟨by rw [← HI.out, ← H1.out]; rfl, _root_.Go.below_drewN hbx _⟩

theorem containsN_any (v : Value) (l : List (Int × Bool)) (x : Int × Bool) (w : World) (h : rowAt w v 2 nC l) (hl : l.length ≤ 4294967296) :
    Calls Try.prog 34 #[v, .agg #[.int .i64 x.1, .bool x.2]] w fun e w' => e = .returned (.bool (l.any (needEq x))) ∧ Below w.heap.size w w' := by
  have HI : decide (0 ≤ atF (needEq x) l 0) = l.any (needEq x) := atF_ge _ _ _
  have hal : ∀ o, Below w.heap.size w (w.alloc o) := fun o => (Below.refl _ _).alloc (Nat.le_refl _) _
  have C : Hid (∀ W, Below w.heap.size w W → Calls Try.prog 43 #[v, .agg #[.int .i64 x.1, .bool x.2]] W fun e w' => e = .returned (.int .i64 (atF (needEq x) l 0)) ∧ Below W.heap.size W w') := fun W hW => indexN_any v l x W (h.below hW) hl
  rw [← HI]
  generalize atF (needEq x) l 0 = n at *
  obtain ⟨x1, x2⟩ := x
  simp only at C ⊢
  clear HI
  obtain ⟨oa, c, rfl, _⟩ := h
  go_enter Try.func34, Try.ntmps34
  go_wp2_with fail
  refine (C.out _ (hal _)).mono ?_
  rintro e w1 ⟨rfl, hb1⟩
  have hb2 := (hal (.cells #[.int .i64 x1, .bool x2] 35)).trans (hb1.mono (by simp))
  clear hb1
  go_wp2
  go_ret
  exact ⟨rfl, hb2⟩

set_option maxRecDepth 1000000 in
theorem pull1_any (x : Int × Bool) (vb : Value) (l : List (Int × Bool)) (b : Nat) (w : World) (hv : rowAt w vb 2 nC l) (hb : w.cell? ⟨b, 0, none⟩ = some vb) (hl : l.length ≤ 4294967296) :
    Calls Try.prog 33 #[.agg #[.int .i64 x.1, .bool x.2], .pointer (some ⟨b, 0, none⟩)] w fun e w' => e = .returned (.bool (l.any (needEq (x.1, !x.2)))) ∧ Below w.heap.size w w' := by
  have hal : ∀ o, Below w.heap.size w (w.alloc o) := fun o => (Below.refl _ _).alloc (Nat.le_refl _) _
  obtain ⟨x1, x2⟩ := x
  have C : Hid (∀ W, Below w.heap.size w W → Calls Try.prog 34 #[vb, .agg #[.int .i64 x1, .bool (!x2)]] W fun e w' => e = .returned (.bool (l.any (needEq (x1, !x2)))) ∧ Below W.heap.size W w') := fun W hW => containsN_any vb l (x1, !x2) W (hv.below hW) hl
  simp only at C ⊢
  generalize l.any (needEq (x1, !x2)) = r at *
  obtain ⟨oa, c, rfl, _⟩ := hv
  have hblt := World.block_lt_of_cell? _ _ hb
  go_enter Try.func33, Try.ntmps33
  go_wp2_with fail
  refine (C.out _ (hal _)).mono ?_
  rintro e w1 ⟨rfl, hb1⟩
  have hb2 := (hal (.cells #[.int .i64 x1, .bool x2] 35)).trans (hb1.mono (by simp))
  clear hb1
  go_wp2
  go_ret
  exact ⟨rfl, hb2⟩

theorem pullApart_any (va vb : Value) (a b : List (Int × Bool)) (w : World) (ha : rowAt w va 2 nC a) (hb : rowAt w vb 2 nC b) (hla : a.length ≤ 4294967296) (hlb : b.length ≤ 4294967296) :
    Calls Try.prog 21 #[va, vb] w fun e w' => e = .returned (.bool (pullB a b)) ∧ Below w.heap.size w w' := by
  have hal : ∀ o, Below w.heap.size w (w.alloc o) := fun o => (Below.refl _ _).alloc (Nat.le_refl _) _
  have C : Hid (∀ W, Below w.heap.size w W → W.cell? ⟨w.heap.size, 0, none⟩ = some vb → Calls Try.prog 32 #[va, .func (.func 33) #[] #[.pointer (some ⟨w.heap.size, 0, none⟩)]] W fun e w' => e = .returned (.bool (pullB a b)) ∧ Below W.heap.size W w') := fun W hW hc =>
    containsFuncN_any va a (fun x => b.any (needEq (x.1, !x.2))) w.heap.size W (ha.below hW) hla (fun x W' hW' => pull1_any x vb b w.heap.size W' ((hb.below hW).below hW') ((hW'.cell (World.block_lt_of_cell? _ _ hc)).trans hc) hlb)
  obtain ⟨ob, cb, rfl, _⟩ := hb
  obtain ⟨oa, ca, rfl, _⟩ := ha
  have hcell : (w.alloc (.cells #[.slice ob b.length cb] 31)).cell? ⟨w.heap.size, 0, none⟩ = some (.slice ob b.length cb) := by simp
  generalize pullB a b = r at *
  go_enter Try.func21, Try.ntmps21
  go_wp2_with fail
  refine (C.out _ (hal _) hcell).mono ?_
  rintro e w1 ⟨rfl, hb1⟩
  have hb2 := (hal (.cells #[.slice ob b.length cb] 31)).trans (hb1.mono (by simp))
  clear hb1
  go_wp2
  go_ret
  exact ⟨rfl, hb2⟩
end Go.Proofs.Ytceebimgfajbcaa
