/-
  Rows of names and of wants (package plan), each by a contract.
-/
import Derived.Test.YtbifcicipkhohaaDoorPlCut
import Derived.Deep.LoopGhost
namespace Go.Proofs.YtbifcicipkhohaaDoor
open Go.RowKit

theorem rNext_tail (r : Rd) : (rNext r).2.1 = r.1.tail := by
  obtain ⟨ws, f⟩ := r
  cases ws <;> rfl
theorem rName_tail (r : Rd) : (rName r).2.1 = r.1.tail := by
  rw [← rNext_tail, rName]
  cases capB (rNext r).1 <;> rfl
theorem rWant_tail (r : Rd) : (rWant r).2.1 = r.1.tail := by
  rw [← rNext_tail, rWant]

theorem rowF_on {α : Type} {one : Rd → α × Rd} (ht : ∀ r, (one r).2.1 = r.1.tail) (r : Rd) (h : rGoes r = true) :
    rowF one r.1.length r = ((one r).1 :: (rowF one (one r).2.1.length (one r).2).1, (rowF one (one r).2.1.length (one r).2).2) := by
  obtain ⟨ws, f⟩ := r
  cases ws with
  | nil => simp [rGoes] at h
  | cons x ws =>
    have e := ht (x :: ws, f)
    rw [show (x :: ws, f).1.tail = ws from rfl] at e
    rw [show (x :: ws, f).1.length = ws.length + 1 from rfl, rowF, if_pos h, e]
theorem rowF_off {α : Type} {one : Rd → α × Rd} (r : Rd) (h : rGoes r = false) : rowF one r.1.length r = ([], r) := by
  cases hl : r.1.length with
  | zero => rfl
  | succ n => rw [rowF, h]; rfl

theorem owns_lit {w : World} {B g n size : Nat} {e : TypeId} {cur : Array Value} (h : w.heap[g]? = some (.cells cur e (0, 0))) (hB : B ≤ g) (hs : cur.size = n * size) (hn : n ≤ maxLen) :
    w.ownsRow B e size (.slice (some ⟨g, 0, none⟩) n n) n cur.toList :=
  ⟨by simpa using hs, .inr ⟨g, n, cur, rfl, hB, h, Nat.le_refl _, hn, hs, by rw [List.take_of_length_le (by simp [hs])]⟩⟩

theorem infoS : (Tryd.prog.info? 9).map (fun i => (i.zero, i.size, i.bytes)) = some (some (.string ⟨#[]⟩), 1, 16) := by kernel_rfl
theorem infoWt : (Tryd.prog.info? 136).map (fun i => (i.zero, i.size, i.bytes)) = some (some (.agg #[.string ⟨#[]⟩, .bool false]), 2, 24) := by kernel_rfl

def strCells (l : List ByteArray) : List Value := l.map .string
def wtCells (l : List Wt) : List Value := l.flatMap fun x => [.string x.1, .bool x.2]

theorem own_ne {w : World} {base : Nat} {e : TypeId} {size : Nat} {v : Value} {n : Nat} {xs : List Value} {R : Nat} (h : w.ownsRow base e size v n xs) (hR : R < base) : v.ownBlock ≠ some R := fun e => by
  have := (h.lt R e).1
  omega
/-- An append to a row of the call's own leaves the reader. -/
theorem RdIn.app {w w' : World} {R : Nat} {r : Rd} {o : Obj} {base : Nat} {e : TypeId} {size : Nat} {v : Value} {n : Nat} {xs : List Value} (h : RdIn w R r) (ho : w.ownsRow base e size v n xs) (hR : R < base) (hg : (w.alloc o).grownBy w' v.ownBlock) : RdIn w' R r :=
  h.keep fun k hk => (hg.block k (by have := h.lt; simp; omega) (fun e => by have := (ho.lt k e.symm).1; omega)).trans (Below.heap_alloc _ _ _ (by have := h.lt; omega))
theorem grown_app {a w w' : World} {R : Nat} {o : Obj} {base : Nat} {e : TypeId} {size : Nat} {v : Value} {n : Nat} {xs : List Value} (h : a.grownBy w (some R)) (ho : w.ownsRow base e size v n xs) (hb : a.heap.size ≤ base) (hg : (w.alloc o).grownBy w' v.ownBlock) : a.grownBy w' (some R) :=
  (h.andThen (World.grownBy_alloc w o none) (fun j e => by cases e)).andThen hg (fun j e => .inl (by have := (ho.lt j e).1; omega))

theorem strCells_snoc (l : List ByteArray) (x : ByteArray) : strCells (l ++ [x]) = strCells l ++ [.string x] := by simp [strCells]
theorem wtCells_snoc (l : List Wt) (x : Wt) : wtCells (l ++ [x]) = wtCells l ++ [.string x.1, .bool x.2] := by simp [wtCells]
theorem one_str (a : ByteArray) : ∀ u ∈ [Value.string a], u.oneCell' = true := by
  intro u hu
  rw [List.mem_singleton.1 hu]
  rfl
theorem two_wt (a : ByteArray) (b : Bool) : ∀ u ∈ [Value.string a, Value.bool b], u.oneCell' = true := by
  intro u hu
  simp at hu
  rcases hu with rfl | rfl <;> rfl

set_option maxRecDepth 1000000 in
set_option maxHeartbeats 2000000 in
theorem rowS_any (R : Nat) (r : Rd) (w : World) (h : RdIn w R r) :
    Calls Tryd.prog 82 #[.pointer (some ⟨R, 0, none⟩), .func (.func 61) #[.pointer (some ⟨R, 0, none⟩)] #[]] w fun en w' => ∃ v, en = .returned v ∧ w'.ownsRow w.heap.size 9 1 v (rRow rName r).1.length (strCells (rRow rName r).1) ∧ RdIn w' R (rRow rName r).2 ∧ w.grownBy w' (some R) := by
  have hR := h.lt
  have hlen := h.len
  have H : Hid (RdIn w R r) := h
  clear h
  obtain ⟨i0, hi, hz0, hz1, hz2⟩ := info_parts infoS
  have N0 := name_any R r w H.out
  have HT : Hid ((rName r).2.1.length ≤ r.1.length) := by rw [Hid, rName_tail r, List.length_tail]; omega
  have HRR : Hid (rRow rName r = ((rName r).1 :: (rowF rName (rName r).2.1.length (rName r).2).1, (rowF rName (rName r).2.1.length (rName r).2).2)) := rfl
  generalize rRow rName r = full at *
  generalize rName r = q at *
  obtain ⟨x, q⟩ := q
  simp only at *
  have hql : q.1.length ≤ 4294967296 := by have := HT.out; omega
  have HN0 : Hid (Calls Tryd.prog 61 #[.pointer (some ⟨R, 0, none⟩)] w fun en w' => en = .returned (.string x) ∧ RdIn w' R q ∧ w.grownBy w' (some R)) := N0
  clear N0 H HT
  go_enter Tryd.func82, Tryd.ntmps82
  go_wp2_with fail
  refine HN0.out.mono ?_
  rintro e w1 ⟨rfl, h1, h2⟩
  have hw1 := h2.size
  have hown1 : (w1.alloc (.cells #[.string x] 9)).ownsRow w.heap.size 9 1 (.slice (some ⟨w1.heap.size, 0, none⟩) 1 1) 1 (strCells [x]) := owns_lit (blk_new _ _) hw1 rfl (by decide)
  have hrd1 : RdIn (w1.alloc (.cells #[.string x] 9)) R q := h1.below ((Below.refl _ _).alloc (Nat.le_refl _) _)
  have hgr1 : w.grownBy (w1.alloc (.cells #[.string x] 9)) (some R) := grown_below h2 ((Below.refl _ _).alloc (Nat.le_refl _) _)
  have HF1 : Hid ([x] ++ (rowF rName q.1.length q).1 = full.1) := by rw [Hid, HRR.out]; rfl
  have HF2 : Hid ((rowF rName q.1.length q).2 = full.2) := by rw [Hid, HRR.out]
  clear h1 h2 HN0 HRR
  go_wp2
  go_loopg [5] (q.1.length) (fun gg v wr => ∃ (acc : List ByteArray) (q' : Rd), gg = q'.1.length ∧ wr.ownsRow w.heap.size 9 1 v acc.length (strCells acc) ∧ RdIn wr R q' ∧ w.grownBy wr (some R) ∧ acc ++ (rowF rName q'.1.length q').1 = full.1 ∧ (rowF rName q'.1.length q').2 = full.2 ∧ acc.length + q'.1.length ≤ q.1.length + 1)
  case atStart => exact ⟨[x], q, rfl, hown1, hrd1, hgr1, HF1.out, HF2.out, by simp; omega⟩
  case round =>
    obtain ⟨acc, q', rfl, hown, hrd, hgr, hf1, hf2, hal⟩ := hrel
    have HG1 : Hid (acc ++ (rowF rName q'.1.length q').1 = full.1) := hf1
    have HG2 : Hid ((rowF rName q'.1.length q').2 = full.2) := hf2
    have HRD : Hid (RdIn wr R q') := hrd
    clear hf1 hf2 hown1 hrd1 hgr1 HF1 HF2
    have G := fun W => goes_any R q' W
    cases hg : rGoes q'
    · rw [hg] at G
      rw [rowF_off q' hg] at HG1 HG2
      go_wp2_with fail
      refine (G _ hrd).mono ?_
      rintro e w2 ⟨rfl, rfl⟩
      go_wp2
      go_ret
      have e1 := HG1.out
      simp only [List.append_nil] at e1
      exact ⟨_, rfl, by rw [← e1]; exact hown, by rw [← HG2.out]; exact hrd, hgr⟩
    · rw [hg] at G
      rw [rowF_on rName_tail q' hg] at HG1 HG2
      have hql' : 1 ≤ q'.1.length := by
        obtain ⟨ws, f⟩ := q'
        cases ws with
        | nil => simp [rGoes] at hg
        | cons y ws => simp
      have HT2 : Hid ((rName q').2.1.length + 1 = q'.1.length) := by rw [Hid, rName_tail q', List.length_tail]; omega
      have N1 := fun W => name_any R q' W
      generalize rName q' = p at *
      obtain ⟨y, p⟩ := p
      simp only at *
      have HN1 : Hid (∀ W, RdIn W R q' → Calls Tryd.prog 61 #[.pointer (some ⟨R, 0, none⟩)] W fun en w' => en = .returned (.string y) ∧ RdIn w' R p ∧ W.grownBy w' (some R)) := N1
      clear N1
      go_wp2_with fail
      refine (G _ HRD.out).mono ?_
      rintro e w2 ⟨rfl, hw⟩
      obtain rfl := hw
      go_wp2_with fail
      refine (HN1.out _ HRD.out).mono ?_
      rintro e w3 ⟨rfl, h3, h4⟩
      have hown3 := hown.kept h4 (.inr (own_ne hown hR))
      have hgr3 := hgr.trans h4
      have hsz3 := hgr3.size
      clear h4 hown HRD hrd hgr G
      go_wp2_with (at_builtin; refine wpList_append_own _ rfl _ _ 22 rfl w.heap.size 9 i0 (.string ⟨#[]⟩) 1 16 Tryd.underlying22 hi hz0 hz1 hz2 rfl (by decide) _ _ _ rfl (hown3.alloc _) ⟨w3.heap.size, 0, none⟩ 1 1 [.string y] rfl rfl (cell_one_new _ _ _) (one_str _) (by unfold maxLen; omega) (by omega) (by simp; omega) ?_)
      intro v' w4 hown4 hgrow _
      have hrd4 := h3.app hown3 hR hgrow
      have hgr4 := grown_app hgr3 hown3 (Nat.le_refl _) hgrow
      clear hown3 hgrow hgr3 h3
      go_wp2
      go_roundg (p.1.length)
      case rel => exact ⟨acc ++ [y], p, rfl, by rw [List.length_append, strCells_snoc]; exact hown4, hrd4, hgr4, by rw [← HG1.out]; simp, HG2.out, by have := HT2.out; simp; omega⟩
      case measure => have := HT2.out; omega

set_option maxRecDepth 1000000 in
set_option maxHeartbeats 2000000 in
theorem rowW_any (R : Nat) (r : Rd) (w : World) (h : RdIn w R r) :
    Calls Tryd.prog 97 #[.pointer (some ⟨R, 0, none⟩), .func (.func 98) #[.pointer (some ⟨R, 0, none⟩)] #[]] w fun en w' => ∃ v, en = .returned v ∧ w'.ownsRow w.heap.size 136 2 v (rRow rWant r).1.length (wtCells (rRow rWant r).1) ∧ RdIn w' R (rRow rWant r).2 ∧ w.grownBy w' (some R) := by
  have hR := h.lt
  have hlen := h.len
  have H : Hid (RdIn w R r) := h
  clear h
  obtain ⟨i0, hi, hz0, hz1, hz2⟩ := info_parts infoWt
  have N0 := want_any R r w H.out
  have HT : Hid ((rWant r).2.1.length ≤ r.1.length) := by rw [Hid, rWant_tail r, List.length_tail]; omega
  have HRR : Hid (rRow rWant r = ((rWant r).1 :: (rowF rWant (rWant r).2.1.length (rWant r).2).1, (rowF rWant (rWant r).2.1.length (rWant r).2).2)) := rfl
  generalize rRow rWant r = full at *
  generalize rWant r = q at *
  obtain ⟨x, q⟩ := q
  simp only at *
  have hql : q.1.length ≤ 4294967296 := by have := HT.out; omega
  have HN0 : Hid (Calls Tryd.prog 98 #[.pointer (some ⟨R, 0, none⟩)] w fun en w' => en = .returned (.agg #[.string x.1, .bool x.2]) ∧ RdIn w' R q ∧ w.grownBy w' (some R)) := N0
  clear N0 H HT
  go_enter Tryd.func97, Tryd.ntmps97
  go_wp2_with fail
  refine HN0.out.mono ?_
  rintro e w1 ⟨rfl, h1, h2⟩
  have hw1 := h2.size
  have hown1 : (w1.alloc (.cells #[.string x.1, .bool x.2] 136)).ownsRow w.heap.size 136 2 (.slice (some ⟨w1.heap.size, 0, none⟩) 1 1) 1 (wtCells [x]) := owns_lit (blk_new _ _) hw1 rfl (by decide)
  have hrd1 : RdIn (w1.alloc (.cells #[.string x.1, .bool x.2] 136)) R q := h1.below ((Below.refl _ _).alloc (Nat.le_refl _) _)
  have hgr1 : w.grownBy (w1.alloc (.cells #[.string x.1, .bool x.2] 136)) (some R) := grown_below h2 ((Below.refl _ _).alloc (Nat.le_refl _) _)
  have HF1 : Hid ([x] ++ (rowF rWant q.1.length q).1 = full.1) := by rw [Hid, HRR.out]; rfl
  have HF2 : Hid ((rowF rWant q.1.length q).2 = full.2) := by rw [Hid, HRR.out]
  clear h1 h2 HN0 HRR
  go_wp2
  go_loopg [5] (q.1.length) (fun gg v wr => ∃ (acc : List Wt) (q' : Rd), gg = q'.1.length ∧ wr.ownsRow w.heap.size 136 2 v acc.length (wtCells acc) ∧ RdIn wr R q' ∧ w.grownBy wr (some R) ∧ acc ++ (rowF rWant q'.1.length q').1 = full.1 ∧ (rowF rWant q'.1.length q').2 = full.2 ∧ acc.length + q'.1.length ≤ q.1.length + 1)
  case atStart => exact ⟨[x], q, rfl, hown1, hrd1, hgr1, HF1.out, HF2.out, by simp; omega⟩
  case round =>
    obtain ⟨acc, q', rfl, hown, hrd, hgr, hf1, hf2, hal⟩ := hrel
    have HG1 : Hid (acc ++ (rowF rWant q'.1.length q').1 = full.1) := hf1
    have HG2 : Hid ((rowF rWant q'.1.length q').2 = full.2) := hf2
    have HRD : Hid (RdIn wr R q') := hrd
    clear hf1 hf2 hown1 hrd1 hgr1 HF1 HF2
    have G := fun W => goes_any R q' W
    cases hg : rGoes q'
    · rw [hg] at G
      rw [rowF_off q' hg] at HG1 HG2
      go_wp2_with fail
      refine (G _ hrd).mono ?_
      rintro e w2 ⟨rfl, rfl⟩
      go_wp2
      go_ret
      have e1 := HG1.out
      simp only [List.append_nil] at e1
      exact ⟨_, rfl, by rw [← e1]; exact hown, by rw [← HG2.out]; exact hrd, hgr⟩
    · rw [hg] at G
      rw [rowF_on rWant_tail q' hg] at HG1 HG2
      have hql' : 1 ≤ q'.1.length := by
        obtain ⟨ws, f⟩ := q'
        cases ws with
        | nil => simp [rGoes] at hg
        | cons y ws => simp
      have HT2 : Hid ((rWant q').2.1.length + 1 = q'.1.length) := by rw [Hid, rWant_tail q', List.length_tail]; omega
      have N1 := fun W => want_any R q' W
      generalize rWant q' = p at *
      obtain ⟨y, p⟩ := p
      simp only at *
      have HN1 : Hid (∀ W, RdIn W R q' → Calls Tryd.prog 98 #[.pointer (some ⟨R, 0, none⟩)] W fun en w' => en = .returned (.agg #[.string y.1, .bool y.2]) ∧ RdIn w' R p ∧ W.grownBy w' (some R)) := N1
      clear N1
      go_wp2_with fail
      refine (G _ HRD.out).mono ?_
      rintro e w2 ⟨rfl, hw⟩
      obtain rfl := hw
      go_wp2_with fail
      refine (HN1.out _ HRD.out).mono ?_
      rintro e w3 ⟨rfl, h3, h4⟩
      have hown3 := hown.kept h4 (.inr (own_ne hown hR))
      have hgr3 := hgr.trans h4
      have hsz3 := hgr3.size
      clear h4 hown HRD hrd hgr G
      go_wp2_with (at_builtin; refine wpList_append_own _ rfl _ _ 109 rfl w.heap.size 136 i0 (.agg #[.string ⟨#[]⟩, .bool false]) 2 24 Tryd.underlying109 hi hz0 hz1 hz2 rfl (by decide) _ _ _ rfl (hown3.alloc _) ⟨w3.heap.size, 0, none⟩ 1 1 [.string y.1, .bool y.2] rfl rfl (cell_two_new _ _ _ _) (two_wt _ _) (by unfold maxLen; omega) (by omega) (by simp; omega) ?_)
      intro v' w4 hown4 hgrow _
      have hrd4 := h3.app hown3 hR hgrow
      have hgr4 := grown_app hgr3 hown3 (Nat.le_refl _) hgrow
      clear hown3 hgrow hgr3 h3
      go_wp2
      go_roundg (p.1.length)
      case rel => exact ⟨acc ++ [y], p, rfl, by rw [List.length_append, wtCells_snoc]; exact hown4, hrd4, hgr4, by rw [← HG1.out]; simp, HG2.out, by have := HT2.out; simp; omega⟩
      case measure => have := HT2.out; omega

end Go.Proofs.YtbifcicipkhohaaDoor
