/-
  Package flat: Take, by a contract.
-/
import Derived.Test.YtelmjkjbbbgmpaaFlRfTk
import Derived.Test.YtelmjkjbbbgmpaaFlChunk
import Derived.Test.YtelmjkjbbbgmpaaFlRound
namespace Go.Proofs.Ytelmjkjbbbgmpaa
open Go.RowKit Go.Shelf

attribute [local go_sem] Oper.semAt_some

def tkL (a : List Int) {m : Nat} (pre : List (Rd m)) : Option (List Rs) := pre.foldl (fun o x => o.bind fun l => (tkAt a x.1).map fun y => l ++ [y]) (some [])
theorem tkL_snoc (a : List Int) {m : Nat} (pre : List (Rd m)) (x : Rd m) : tkL a (pre ++ [x]) = (tkL a pre).bind fun l => (tkAt a x.1).map fun y => l ++ [y] := by
  rw [tkL, List.foldl_append]
  rfl
theorem tkL_upto (a : List Int) (m : Nat) : ∀ (k : Nat) (h : k ≤ m), tkL a (uptoR m k h) = tkT a k
  | 0, _ => rfl
  | k + 1, h => by rw [uptoR, tkL_snoc, tkL_upto a m k]; rfl
def rowsL (a : List Int) {m : Nat} (pre : List (Rd m)) : List Rs := (tkL a pre).getD []

theorem results_cells2 {fn : Func} {p q : Tmp} {tp tq : TypeId} (h : fn.results = #[.cell p tp, .cell q tq]) (tmps : Array Value) (P : Program) (w : World) :
    (results fn tmps).run P w = ((asAddr (tmps.getD p undef)).run P w).andThen fun a w1 => ((loadVar tp a).run P w1).andThen fun v w2 => ((asAddr (tmps.getD q undef)).run P w2).andThen fun b w3 => ((loadVar tq b).run P w3).andThen fun u w4 => .ok (.tuple #[v, u]) w4 := by
  simp only [results, h]
  simp [Sem.run_bind, Result.andThen]

set_option maxRecDepth 1000000 in
set_option maxHeartbeats 2000000 in
theorem take_odd (oa : Option Addr) (n ca : Nat) (a : List Int) (w : World) (hn : a.length = n) (h4 : n % 4 ≠ 0) :
    Calls Try.prog 9 #[.slice oa n ca] w fun e w' => TkAns w' w.heap.size (takeV a) e ∧ Below w.heap.size w w' := by
  have HT : Hid (takeV a = none) := by
    show takeV a = none
    rw [takeV, if_neg (by rw [hn]; exact h4)]
  have h4i : ((n : Int) % 4 != 0) = true := by rw [bne_iff_ne]; omega
  have HB : Hid (Below w.heap.size w ((w.alloc (.cells #[.slice none 0 0] 22)).alloc (.cells #[.bool false] 4))) := by show Below _ _ _; exact (by repeat' (with_reducible first | exact Below.refl _ _ | refine Below.drew ?_ | refine _root_.Go.below_drewN ?_ _ | refine Below.alloc ?_ ?_ _ | refine Below.setCell ?_ ?_ _ | exact Nat.le_refl _ | (simp; done) | (simp; omega)))
  clear hn h4
  go_enter Try.func9, Try.ntmps9
  go_wp2
  refine ⟨rfl, .tuple #[.slice none 0 0, .bool false], ?_, .inr ⟨HT.out, rfl⟩, HB.out⟩
  have c0 := (blk_old (o' := .cells #[.bool false] 4) (blk_new w (.cells #[.slice none 0 0] 22)))
  have c1 := blk_at1 w (.cells #[.bool false] 4) (.cells #[.slice none 0 0] 22)
  rw [results_cells2 rfl]
  have d0 := cells1 c0
  have d1 := cells1 c1
  go_simp

/-- Worlds in which some cells read so. -/
structure ClsT (l : List (Addr × Value)) where
  z : World
  h : ∀ p ∈ l, z.cell? p.1 = some p.2
theorem app_rs_grow (w : World) (B : Nat) (v u : Value) (q p : List Rs) (h : SRow w B v q) (hB : B ≤ w.heap.size) (hu : rowAt w u 4 rsC p) (hp : 0 < p.length) (h5 : q.length + p.length ≤ 1000000) :
    ∃ v1 w1, (Builtin.append_ #[22, 22] 22 #[v, u]).run Try.prog w = .ok v1 w1 ∧ SRow w1 B v1 (q ++ p) ∧ w.grownBy w1 v.ownBlock := by
  obtain ⟨i0, hii, hz0, hz1, hz2⟩ := info_parts infoRs
  have hu' := hu
  obtain ⟨oa, c, rfl, -⟩ := hu
  cases oa with
  | none =>
    obtain ⟨rfl, -⟩ := row_none hu'
    simp at hp
  | some a =>
    obtain ⟨v1, w1, r1, r2, r3, _, _⟩ := run_append_own_at (P := Try.prog) w B 22 22 62 i0 (.agg #[.int .i64 0, .int .i64 0, .int .i64 0, .bool false]) 4 32 Try.underlying22 hii hz0 hz1 hz2 rfl (by decide) v q.length _ h a p.length c (p.flatMap rsC)
      (flat_lenG (cs := rsC) (size := 4) (fun _ => rfl) p) (row_some (cs := rsC) (size := 4) (fun _ => rfl) (by omega) hu') (cells_rs p) (by unfold maxLen; omega) (by omega) hB
    refine ⟨v1, w1, r1, ?_, r3⟩
    unfold SRow
    rw [List.length_append, List.flatMap_append]
    exact r2
theorem rowsL_some {a : List Int} {m : Nat} {pre : List (Rd m)} {acc : List Rs} (h : tkL a pre = some acc) : rowsL a pre = acc := by rw [rowsL, h]; rfl
theorem tkL_len {a : List Int} {m : Nat} : ∀ (pre : List (Rd m)), (rowsL a pre).length ≤ pre.length := by
  intro pre
  suffices H : ∀ (pre : List (Rd m)) (o : Option (List Rs)) (k : Nat), (o.getD []).length ≤ k → ((pre.foldl (fun o x => o.bind fun l => (tkAt a x.1).map fun y => l ++ [y]) o).getD []).length ≤ k + pre.length by
    have := H pre (some []) 0 (Nat.le_refl _)
    rw [Nat.zero_add] at this
    exact this
  intro pre
  induction pre with
  | nil => intro o k h; exact h
  | cons x pre ih =>
    intro o k h
    rw [List.foldl_cons, List.length_cons, show k + (pre.length + 1) = k + 1 + pre.length by omega]
    refine ih _ _ ?_
    cases o with
    | none => exact Nat.zero_le _
    | some l =>
      show (((tkAt a x.1).map fun y => l ++ [y]).getD []).length ≤ k + 1
      cases tkAt a x.1 with
      | none => exact Nat.zero_le _
      | some y =>
        have : l.length ≤ k := h
        show (l ++ [y]).length ≤ k + 1
        rw [List.length_append]
        show l.length + 1 ≤ k + 1
        omega

set_option maxRecDepth 1000000 in
set_option maxHeartbeats 4000000 in
theorem take_even (oa : Option Addr) (n ca : Nat) (a : List Int) (w : World) (h : rowAt w (.slice oa n ca) 1 iC a) (h5 : n ≤ 1000) (m : Nat) (h4 : n = 4 * m) (b off : Nat) (hcell : ∀ j y, a[j]? = some y → w.cell? ⟨b, off + j, none⟩ = some (.int .i64 y))
    (hseq : ∀ (Bs Bn : Nat) (W : World), Boxed W Bs 23 (.slice oa n ca) → Boxed W Bn 3 (.int .i64 4) →
      SeqStopsK Fence.wide 5 Try.prog 43 #[.pointer (some ⟨Bs, 0, none⟩), .pointer (some ⟨Bn, 0, none⟩)] (fun x : Rd m => #[.slice (some ⟨b, off + 4 * x.1, none⟩) 4 4]) (fun W W' => W'.heap[Bs]? = W.heap[Bs]? ∧ W'.heap[Bn]? = W.heap[Bn]?)
        (fun ys => ys = uptoR m m (Nat.le_refl _)) (fun pre => ∃ k, ∃ h : k ≤ m, pre = uptoR m k h) m W) :
    Calls Try.prog 9 #[.slice oa n ca] w fun e w' => TkAns w' w.heap.size (takeV a) e ∧ Below w.heap.size w w' := by
  have hn := row_len h
  obtain ⟨i0, hii, hz0, hz1, hz2⟩ := info_parts infoRs
  have h4i : ((4 * (m : Int)) % 4 != 0) = false := by simp
  have HA : Hid (rowAt w (.slice oa n ca) 1 iC a ∧ a.length = n) := ⟨h, hn.symm⟩
  obtain ⟨mc, hmc⟩ : ∃ mc, mc = madeCells (Value.agg #[.int .i64 0, .int .i64 0, .int .i64 0, .bool false]).cells (m * 4) := ⟨_, rfl⟩
  have hmk : ∀ W : World, (Instr.makeSlice 22 (.int .i64 0) (.int .i64 (m : Int))).run Try.prog W = .ok (.slice (some ⟨W.heap.size, 0, none⟩) 0 m) (W.alloc (.cells mc 62)) := fun W => by
    have := run_make (P := Try.prog) W 22 62 i0 _ Try.underlying22 hii hz0 .i64 .i64 0 (m : Int) (by omega) (by omega) (by rw [hz2]; omega) (by omega)
    rw [this, hz1, hmc]
    rfl
  have hms : mc.size = m * 4 := by rw [hmc, size_madeCells]
  subst h4
  clear h hn hmc
  refine (callsIn_wide (n := 6)).1 ?_
  refine callsIn_of_wp_marks Try.func9 rfl trivial ?_ rfl
  simp only [Try.ntmps9, List.size_toArray, List.length_cons, List.length_nil, Nat.reduceAdd, Nat.reduceSub, Array.replicate_succ, Array.replicate_zero, List.push_toArray, List.append_toArray, List.nil_append, List.cons_append]
  gi_wp2_with fail
  refine ⟨trivial, (chunk_in 5 _ _ _ _).mono ?_⟩
  rintro e w' ⟨rfl, rfl⟩
  gi_wp2
  have HW0 : Hid (Below w.heap.size w ((((((w.alloc (.cells #[.slice none 0 0] 22)).alloc (.cells #[.bool false] 4)).alloc (.cells mc 62)).alloc (.cells #[.slice (some ⟨w.heap.size + 1 + 1, 0, none⟩) 0 m] 22)).alloc (.cells #[.slice oa (4 * m) ca] 23)).alloc (.cells #[.int .i64 4] 3))) := by show Below _ _ _; exact (by repeat' (with_reducible first | exact Below.refl _ _ | refine Below.drew ?_ | refine _root_.Go.below_drewN ?_ _ | refine Below.alloc ?_ ?_ _ | refine Below.setCell ?_ ?_ _ | exact Nat.le_refl _ | (simp; done) | (simp; omega)))
  generalize hW0 : ((((((w.alloc (.cells #[.slice none 0 0] 22)).alloc (.cells #[.bool false] 4)).alloc (.cells mc 62)).alloc (.cells #[.slice (some ⟨w.heap.size + 1 + 1, 0, none⟩) 0 m] 22)).alloc (.cells #[.slice oa (4 * m) ca] 23)).alloc (.cells #[.int .i64 4] 3)) = W0 at *
  have hsz : W0.heap.size = w.heap.size + 6 := by rw [← hW0]; simp
  have b0 : Boxed W0 w.heap.size 22 (.slice none 0 0) := by rw [← hW0]; exact (((((Boxed.new w _ _).alloc _).alloc _).alloc _).alloc _).alloc _
  have b1 : Boxed W0 (w.heap.size + 1) 4 (.bool false) := by
    rw [← hW0]
    have := Boxed.new (w.alloc (.cells #[.slice none 0 0] 22)) 4 (.bool false)
    rw [World.size_alloc] at this
    exact (((this.alloc _).alloc _).alloc _).alloc _
  have bl : Boxed W0 (w.heap.size + 1 + 1 + 1) 22 (.slice (some ⟨w.heap.size + 1 + 1, 0, none⟩) 0 m) := by
    rw [← hW0]
    have := Boxed.new (((w.alloc (.cells #[.slice none 0 0] 22)).alloc (.cells #[.bool false] 4)).alloc (.cells mc 62)) 22 (.slice (some ⟨w.heap.size + 1 + 1, 0, none⟩) 0 m)
    simp only [World.size_alloc] at this
    exact (this.alloc _).alloc _
  have bs : Boxed W0 (w.heap.size + 1 + 1 + 1 + 1) 23 (.slice oa (4 * m) ca) := by
    rw [← hW0]
    have := Boxed.new ((((w.alloc (.cells #[.slice none 0 0] 22)).alloc (.cells #[.bool false] 4)).alloc (.cells mc 62)).alloc (.cells #[.slice (some ⟨w.heap.size + 1 + 1, 0, none⟩) 0 m] 22)) 23 (.slice oa (4 * m) ca)
    simp only [World.size_alloc] at this
    exact this.alloc _
  have bn : Boxed W0 (w.heap.size + 1 + 1 + 1 + 1 + 1) 3 (.int .i64 4) := by
    rw [← hW0]
    have := Boxed.new (((((w.alloc (.cells #[.slice none 0 0] 22)).alloc (.cells #[.bool false] 4)).alloc (.cells mc 62)).alloc (.cells #[.slice (some ⟨w.heap.size + 1 + 1, 0, none⟩) 0 m] 22)).alloc (.cells #[.slice oa (4 * m) ca] 23)) 3 (.int .i64 4)
    simp only [World.size_alloc] at this
    exact this
  have hr0 : W0.ownsRow w.heap.size 62 4 (.slice (some ⟨w.heap.size + 1 + 1, 0, none⟩) 0 m) 0 [] := by
    refine ⟨rfl, .inr ⟨w.heap.size + 1 + 1, m, mc, rfl, by omega, ?_, Nat.zero_le _, by unfold maxLen; omega, hms, rfl⟩⟩
    rw [← hW0]
    exact blk_old (blk_old (blk_old (blk_at2 _ _ _ _)))
  clear hW0
  refine wpIn_rangeFunc_ownG rfl (by omega) (gf := 43) (lb := #[.pointer (some ⟨w.heap.size + 1 + 1 + 1 + 1, 0, none⟩), .pointer (some ⟨w.heap.size + 1 + 1 + 1 + 1 + 1, 0, none⟩)]) rfl trivial (enters_of Try.func43 (by kernel_rfl) rfl)
    (hseq (w.heap.size + 1 + 1 + 1 + 1) (w.heap.size + 1 + 1 + 1 + 1 + 1) W0 bs bn) (fun h1 h2 => ⟨h2.1.trans h1.1, h2.2.trans h1.2⟩) (fun W l o o' hl hW ho _ => ⟨World.putObj_heap_other (by omega), World.putObj_heap_other (by omega)⟩) (Below.refl _ _) (fun _ => rfl)
    (fun pre W => (∃ v, Boxed W (w.heap.size + 1 + 1 + 1) 22 v ∧ W.ownsRow w.heap.size 62 4 v (rowsL a pre).length ((rowsL a pre).flatMap rsC) ∧ True) ∧ ((Boxed W w.heap.size 22 (.slice none 0 0) ∧ Boxed W (w.heap.size + 1) 4 (.bool false)) ∧ (Boxed W (w.heap.size + 1 + 1 + 1 + 1) 23 (.slice oa (4 * m) ca) ∧ Boxed W (w.heap.size + 1 + 1 + 1 + 1 + 1) 3 (.int .i64 4))) ∧ tkL a pre ≠ none ∧ Below w.heap.size w W)
    (fun c pre W => (c = .ret ∧ tkL a pre = none) ∧ (Boxed W w.heap.size 22 (.slice none 0 0) ∧ Boxed W (w.heap.size + 1) 4 (.bool false)) ∧ Below w.heap.size w W)
    (OwnFrom.and (Own.from (holdsRow_own w.heap.size (w.heap.size + 1 + 1 + 1) _ _ 4 (fun pre => (rowsL a pre).length) (fun pre => (rowsL a pre).flatMap rsC) (fun _ _ => True)) _) (OwnFrom.and (OwnFrom.and (OwnFrom.and (Own.from (boxed_own _ _ fun _ => .slice none 0 0) _) (Own.from (boxed_own _ _ fun _ => .bool false) _)) (OwnFrom.and (Own.from (boxed_own _ _ fun _ => .slice oa (4 * m) ca) _) (Own.from (boxed_own _ _ fun _ => .int .i64 4) _))) (OwnFrom.and (ownFrom_pure _ fun pre => tkL a pre ≠ none) (ownFrom_below (Nat.le_refl _) (by omega)))))
    (fun c => OwnFrom.and (ownFrom_pure _ fun pre => c = .ret ∧ tkL a pre = none) (OwnFrom.and (OwnFrom.and (Own.from (boxed_own _ _ fun _ => .slice none 0 0) _) (Own.from (boxed_own _ _ fun _ => .bool false) _)) (ownFrom_below (Nat.le_refl _) (by omega))))
    ⟨⟨_, bl, hr0, trivial⟩, ⟨⟨b0, b1⟩, bs, bn⟩, (by intro e; cases e), HW0.out⟩
    (fun x => { tmps := #[.slice oa (4 * m) ca, undef, .pointer (some ⟨w.heap.size, 0, none⟩), .pointer (some ⟨w.heap.size + 1, 0, none⟩), .pointer (some ⟨w.heap.size + 1 + 1 + 1, 0, none⟩), .slice (some ⟨b, off + 4 * x.1, none⟩) 4 4, undef, .slice oa (4 * m) ca,
      .int .i64 (4 * (m : Int)), .int .i64 0, .bool false, .slice oa (4 * m) ca, .int .i64 (4 * (m : Int)), .int .i64 (m : Int), .slice (some ⟨w.heap.size + 1 + 1, 0, none⟩) 0 m, .slice oa (4 * m) ca,
      .func (.func 43) #[] #[.pointer (some ⟨w.heap.size + 1 + 1 + 1 + 1, 0, none⟩), .pointer (some ⟨w.heap.size + 1 + 1 + 1 + 1 + 1, 0, none⟩)], .slice (some ⟨b, off + 4 * x.1, none⟩) 4 4,
      undef, undef, undef, undef, undef, undef, undef, undef, undef, undef, undef, undef, undef, undef, undef, undef, undef, undef, undef, undef, undef, undef, undef, undef, undef], defers := [] }) ?assign ?body ?done ?stop
  case assign =>
    intro l x W K hK
    gi_wp2
    exact hK
  case body =>
    rintro l pre x W ⟨⟨v, hv, hrow, -⟩, ⟨⟨b0, b1⟩, bs, bn⟩, hne, hB⟩ hlt
    have hx := x.2
    obtain ⟨acc, hacc⟩ : ∃ acc, tkL a pre = some acc := by
      cases h : tkL a pre with
      | none => exact absurd h hne
      | some acc => exact ⟨acc, rfl⟩
    rw [rowsL_some hacc] at hrow
    have hal : acc.length ≤ 1000 := by
      have := tkL_len (a := a) pre
      rw [rowsL_some hacc] at this
      omega
    obtain ⟨y1, e0⟩ := at_of (l := a) (k := 4 * x.1) (by rw [HA.out.2]; omega)
    obtain ⟨y2, e1⟩ := at_of (l := a) (k := 4 * x.1 + 1) (by rw [HA.out.2]; omega)
    obtain ⟨y3, e2⟩ := at_of (l := a) (k := 4 * x.1 + 2) (by rw [HA.out.2]; omega)
    obtain ⟨y4, e3⟩ := at_of (l := a) (k := 4 * x.1 + 3) (by rw [HA.out.2]; omega)
    have d0 := up_cell hB (hcell _ _ e0)
    have d1 := up_cell hB (hcell _ _ e1)
    have d2 := up_cell hB (hcell _ _ e2)
    have d3 := up_cell hB (hcell _ _ e3)
    have D0 : Hid (∀ W', Below w.heap.size w W' → W'.cell? ⟨b, off + 4 * x.1, none⟩ = some (.int .i64 y1) ∧ W'.cell? ⟨b, off + (4 * x.1) + 1, none⟩ = some (.int .i64 y2) ∧ W'.cell? ⟨b, off + (4 * x.1) + 2, none⟩ = some (.int .i64 y3)) := fun W' hW' =>
      ⟨up_cell hW' (hcell _ _ e0), by have := up_cell hW' (hcell _ _ e1); rwa [← Nat.add_assoc] at this, by have := up_cell hW' (hcell _ _ e2); rwa [← Nat.add_assoc] at this⟩
    rw [← Nat.add_assoc] at d1 d2 d3
    have HE : Hid (a[4 * x.1]? = some y1 ∧ a[4 * x.1 + 1]? = some y2 ∧ a[4 * x.1 + 2]? = some y3 ∧ a[4 * x.1 + 3]? = some y4) := ⟨e0, e1, e2, e3⟩
    have c0 := b0.cell
    have c1 := b1.cell
    have g0 := b0.frozen
    have g1 := b1.frozen
    have HBX : Hid (Boxed W w.heap.size 22 (.slice none 0 0) ∧ Boxed W (w.heap.size + 1) 4 (.bool false) ∧ Boxed W (w.heap.size + 1 + 1 + 1 + 1) 23 (.slice oa (4 * m) ca) ∧ Boxed W (w.heap.size + 1 + 1 + 1 + 1 + 1) 3 (.int .i64 4) ∧ Boxed W (w.heap.size + 1 + 1 + 1) 22 v ∧ Below w.heap.size w W) := ⟨b0, b1, bs, bn, hv, hB⟩
    have HAC : Hid (tkL a pre = some acc) := hacc
    obtain ⟨p, hp⟩ : ∃ p, p = off + 4 * x.1 := ⟨_, rfl⟩
    rw [← hp] at d0 d1 d2 d3 D0 ⊢
    have HS : Hid (tkL a (pre ++ [x]) = (tkAt a x.1).map fun y => acc ++ [y]) := by
      show tkL a (pre ++ [x]) = _
      rw [tkL_snoc, hacc]
      rfl
    clear e0 e1 e2 e3 hacc hne hB bs bn hp
    by_cases hs0 : y4 = 0
    · have hbe : ((y4 : Int) != 0) = false := by simp [hs0]
      have hdec : ((y4 : Int) == 1) = decide (y4 = 1) := by rw [Bool.eq_iff_iff]; simp
      have HK : Hid (tkL a (pre ++ [x]) = some (acc ++ [(y1, y2, y3, decide (y4 = 1))])) := by
        show tkL a (pre ++ [x]) = _
        rw [HS.out, tkAt_some HE.out.1 HE.out.2.1 HE.out.2.2.1 HE.out.2.2.2 (by omega)]
        rfl
      clear hs0
      have hbd : Below W.heap.size W W.drew := (Below.refl _ _).drew
      have hb2 : Below W.heap.size W (W.drew.alloc (.cells #[.int .i64 y1, .int .i64 y2, .int .i64 y3, .bool (decide (y4 = 1))] 62)) := hbd.alloc (Nat.le_refl _) _
      have hbw : Below w.heap.size w (W.drew.alloc (.cells #[.int .i64 y1, .int .i64 y2, .int .i64 y3, .bool (decide (y4 = 1))] 62)) := HBX.out.2.2.2.2.2.trans (hb2.mono HBX.out.2.2.2.2.2.size)
      obtain ⟨v3, w3, r3, i3, gr3⟩ := app_rs_grow _ w.heap.size v (.slice (some ⟨W.drew.heap.size, 0, none⟩) 1 1) acc [(y1, y2, y3, decide (y4 = 1))] (SRow.below hrow hb2) hbw.size
        (row_blk (cs := rsC) (fun _ => rfl) [(y1, y2, y3, decide (y4 = 1))] (blk_new _ _) rfl) (by simp) (by show _ + 1 ≤ _; omega)
      obtain ⟨a1, a2, a3, a4, a5⟩ := Boxed.appended (W := W.drew) (tmp := .cells #[.int .i64 y1, .int .i64 y2, .int .i64 y3, .bool (decide (y4 = 1))] 62) (show Boxed W.drew (w.heap.size + 1 + 1 + 1) 22 v from HBX.out.2.2.2.2.1) (by decide) (show W.drew.ownsRow w.heap.size 62 4 v acc.length (acc.flatMap rsC) from owns_below hrow hbd) HBX.out.2.2.2.2.2.size (by omega) i3 gr3
      have hold : ∀ (B : Nat) (t : TypeId) (u : Value), t ≠ 62 → B ≠ w.heap.size + 1 + 1 + 1 → Boxed W B t u → Boxed (w3.setCell ⟨w.heap.size + 1 + 1 + 1, 0, none⟩ v3) B t u := fun B t u ht hB h =>
        Boxed.other (((show Boxed W.drew B t u from h).alloc _).kept gr3 (h.not_row ht hrow)) hB _
      obtain ⟨gg, gc, ev3⟩ := ownsRow_succ (show w3.ownsRow w.heap.size 62 4 v3 (acc.length + 1) ((acc ++ [(y1, y2, y3, decide (y4 = 1))]).flatMap rsC) by have := i3; unfold SRow at this; rw [List.length_append] at this; exact this)
      have HF : Hid (ownPostG W0.heap.size (fun W W' => W'.heap[w.heap.size + 1 + 1 + 1 + 1]? = W.heap[w.heap.size + 1 + 1 + 1 + 1]? ∧ W'.heap[w.heap.size + 1 + 1 + 1 + 1 + 1]? = W.heap[w.heap.size + 1 + 1 + 1 + 1 + 1]?)
          (fun pre W => (∃ v, Boxed W (w.heap.size + 1 + 1 + 1) 22 v ∧ W.ownsRow w.heap.size 62 4 v (rowsL a pre).length ((rowsL a pre).flatMap rsC) ∧ True) ∧ ((Boxed W w.heap.size 22 (.slice none 0 0) ∧ Boxed W (w.heap.size + 1) 4 (.bool false)) ∧ (Boxed W (w.heap.size + 1 + 1 + 1 + 1) 23 (.slice oa (4 * m) ca) ∧ Boxed W (w.heap.size + 1 + 1 + 1 + 1 + 1) 3 (.int .i64 4))) ∧ tkL a pre ≠ none ∧ Below w.heap.size w W)
          (fun c pre W => (c = .ret ∧ tkL a pre = none) ∧ (Boxed W w.heap.size 22 (.slice none 0 0) ∧ Boxed W (w.heap.size + 1) 4 (.bool false)) ∧ Below w.heap.size w W) (pre ++ [x]) W .normal { tmps := #[], defers := [] } (w3.setCell ⟨w.heap.size + 1 + 1 + 1, 0, none⟩ v3)) := by
        refine ⟨((KeepsOthers.drew W).trans a4).from _, ⟨(hold _ _ _ (by decide) (by omega) HBX.out.2.2.1).trans HBX.out.2.2.1.symm, (hold _ _ _ (by decide) (by omega) HBX.out.2.2.2.1).trans HBX.out.2.2.2.1.symm⟩, ⟨v3, a2, ?_, trivial⟩, ⟨⟨hold _ _ _ (by decide) (by omega) HBX.out.1, hold _ _ _ (by decide) (by omega) HBX.out.2.1⟩, hold _ _ _ (by decide) (by omega) HBX.out.2.2.1, hold _ _ _ (by decide) (by omega) HBX.out.2.2.2.1⟩, (by rw [HK.out]; intro e; cases e), HBX.out.2.2.2.2.2.trans ((hbd.mono HBX.out.2.2.2.2.2.size).trans a5)⟩
        rw [rowsL_some HK.out]
        exact a3
      have hbx := HBX.out.2.2.2.2.1
      have cl := hbx.cell
      subst ev3
      have ca1 := a1.cell
      have fa1 := a1.frozen
      obtain ⟨L, hL⟩ : ∃ L : List (Addr × Value), L = [(⟨b, p, none⟩, .int .i64 y1), (⟨b, p + 1, none⟩, .int .i64 y2), (⟨b, p + 2, none⟩, .int .i64 y3), (⟨w.heap.size + 1 + 1 + 1, 0, none⟩, v)] := ⟨_, rfl⟩
      have MK : Hid (∀ W', Below w.heap.size w W' → W'.cell? ⟨w.heap.size + 1 + 1 + 1, 0, none⟩ = some v → ∃ y : ClsT L, W' = y.z) := fun W' h1 h2 => ⟨⟨W', fun q hq => by
        obtain ⟨z1, z2, z3⟩ := D0.out W' h1
        rw [hL] at hq
        simp only [List.mem_cons, List.not_mem_nil, or_false] at hq
        rcases hq with rfl | rfl | rfl | rfl
        · exact z1
        · exact z2
        · exact z3
        · exact h2⟩, rfl⟩
      have f0 : ∀ y : ClsT L, y.z.cell? ⟨b, p, none⟩ = some (.int .i64 y1) := fun y => y.h (⟨b, p, none⟩, .int .i64 y1) (by rw [hL]; simp)
      have f1 : ∀ y : ClsT L, y.z.cell? ⟨b, p + 1, none⟩ = some (.int .i64 y2) := fun y => y.h (⟨b, p + 1, none⟩, .int .i64 y2) (by rw [hL]; simp)
      have f2 : ∀ y : ClsT L, y.z.cell? ⟨b, p + 2, none⟩ = some (.int .i64 y3) := fun y => y.h (⟨b, p + 2, none⟩, .int .i64 y3) (by rw [hL]; simp)
      have f3 : ∀ y : ClsT L, y.z.cell? ⟨w.heap.size + 1 + 1 + 1, 0, none⟩ = some v := fun y => y.h (⟨w.heap.size + 1 + 1 + 1, 0, none⟩, v) (by rw [hL]; simp)
      have HC0 : Hid (∃ y : ClsT L, W.drew = y.z) := MK.out _ HBX.out.2.2.2.2.2.drew cl
      have HC1 : Hid (∃ y : ClsT L, W.drew.alloc (.cells #[.int .i64 y1, .int .i64 y2, .int .i64 y3, .bool (decide (y4 = 1))] 62) = y.z) := MK.out _ hbw (Boxed.alloc (show Boxed W.drew _ _ _ from hbx) _).cell
      have HC2 : Hid (∃ y : ClsT L, w3 = y.z) := MK.out _ (hbw.grown gr3 hbw.size (fun k e => (World.ownsRow.lt (show W.ownsRow w.heap.size 62 4 v acc.length (acc.flatMap rsC) from hrow) k e).1)) ca1
      haveI : Nonempty (ClsT L) := by obtain ⟨y, _⟩ := HC0.out; exact ⟨y⟩
      clear hbd hb2 hbw i3 gr3 a1 a2 a3 a4 a5 hold hL hbx hrow
      gi_wp2
      refine wpIn_region_last (C := fun W => ∃ y : ClsT L, W = y.z) [0, 1, 2, 3, 4, 5, 6, 7, 8, 9, 10, 11, 12, 13, 14] [15] (by rintro ⟨_, _, h⟩; exact h) (by kernel_rfl) (by kernel_rfl) (by kernel_rfl) (by kernel_rfl) (by kernel_rfl) (by simp only [List.filterMap_cons, List.getElem?_toArray, List.getElem?_cons_zero, List.getElem?_cons_succ, List.filterMap_nil]; rfl) (by simp only [List.filterMap_cons, List.getElem?_toArray, List.getElem?_cons_zero, List.getElem?_cons_succ, List.filterMap_nil]; rfl) HC0.out ?_
      (repeat (first | (with_reducible refine mix_read (by kernel_rfl) ?_; go_big_quiet_want; go_big_quiet_op; go_big_quiet_on; with_reducible refine wpQuiet_nil ?_) | (with_reducible refine mix_pass (by kernel_rfl) ?_; go_big_quiet_skip; with_reducible refine wpQuiet_nil ?_)))
      refine mix_does (v := .slice (some ⟨W.drew.heap.size, 0, none⟩) 1 1) (w' := W.drew.alloc (.cells #[.int .i64 y1, .int .i64 y2, .int .i64 y3, .bool (decide (y4 = 1))] 62)) (by kernel_rfl) (by kernel_rfl) (by kernel_rfl) HC1.out ?_
      simp only [Act.put, List.setIfInBounds_toArray, List.set_cons_zero, List.set_cons_succ]
      refine mix_does (v := .slice (some ⟨gg, 0, none⟩) (acc.length + 1) gc) (w' := w3) (by kernel_rfl) (by kernel_rfl) (append_op _ _ 22 22 rfl v (.slice (some ⟨W.drew.heap.size, 0, none⟩) 1 1) rfl rfl _ r3) HC2.out ?_
      simp only [Act.put, List.setIfInBounds_toArray, List.set_cons_zero, List.set_cons_succ]
      with_reducible refine mix_end ?_
      clear f0 f1 f2 f3 HC0 HC1 HC2
      go_wp2
      exact HF.out
    · by_cases hs1 : y4 = 1
      · have hbe : ((y4 : Int) != 0) = true := by rw [bne_iff_ne]; exact hs0
        have hbf : ((y4 : Int) != 1) = false := by simp [hs1]
        have hdec : ((y4 : Int) == 1) = decide (y4 = 1) := by rw [Bool.eq_iff_iff]; simp
        have HK : Hid (tkL a (pre ++ [x]) = some (acc ++ [(y1, y2, y3, decide (y4 = 1))])) := by
          show tkL a (pre ++ [x]) = _
          rw [HS.out, tkAt_some HE.out.1 HE.out.2.1 HE.out.2.2.1 HE.out.2.2.2 (by omega)]
          rfl
        clear hs0 hs1
        have hbd : Below W.heap.size W W.drew := (Below.refl _ _).drew
        have hb2 : Below W.heap.size W (W.drew.alloc (.cells #[.int .i64 y1, .int .i64 y2, .int .i64 y3, .bool (decide (y4 = 1))] 62)) := hbd.alloc (Nat.le_refl _) _
        have hbw : Below w.heap.size w (W.drew.alloc (.cells #[.int .i64 y1, .int .i64 y2, .int .i64 y3, .bool (decide (y4 = 1))] 62)) := HBX.out.2.2.2.2.2.trans (hb2.mono HBX.out.2.2.2.2.2.size)
        obtain ⟨v3, w3, r3, i3, gr3⟩ := app_rs_grow _ w.heap.size v (.slice (some ⟨W.drew.heap.size, 0, none⟩) 1 1) acc [(y1, y2, y3, decide (y4 = 1))] (SRow.below hrow hb2) hbw.size
          (row_blk (cs := rsC) (fun _ => rfl) [(y1, y2, y3, decide (y4 = 1))] (blk_new _ _) rfl) (by simp) (by show _ + 1 ≤ _; omega)
        obtain ⟨a1, a2, a3, a4, a5⟩ := Boxed.appended (W := W.drew) (tmp := .cells #[.int .i64 y1, .int .i64 y2, .int .i64 y3, .bool (decide (y4 = 1))] 62) (show Boxed W.drew (w.heap.size + 1 + 1 + 1) 22 v from HBX.out.2.2.2.2.1) (by decide) (show W.drew.ownsRow w.heap.size 62 4 v acc.length (acc.flatMap rsC) from owns_below hrow hbd) HBX.out.2.2.2.2.2.size (by omega) i3 gr3
        have hold : ∀ (B : Nat) (t : TypeId) (u : Value), t ≠ 62 → B ≠ w.heap.size + 1 + 1 + 1 → Boxed W B t u → Boxed (w3.setCell ⟨w.heap.size + 1 + 1 + 1, 0, none⟩ v3) B t u := fun B t u ht hB h =>
          Boxed.other (((show Boxed W.drew B t u from h).alloc _).kept gr3 (h.not_row ht hrow)) hB _
        obtain ⟨gg, gc, ev3⟩ := ownsRow_succ (show w3.ownsRow w.heap.size 62 4 v3 (acc.length + 1) ((acc ++ [(y1, y2, y3, decide (y4 = 1))]).flatMap rsC) by have := i3; unfold SRow at this; rw [List.length_append] at this; exact this)
        have HF : Hid (ownPostG W0.heap.size (fun W W' => W'.heap[w.heap.size + 1 + 1 + 1 + 1]? = W.heap[w.heap.size + 1 + 1 + 1 + 1]? ∧ W'.heap[w.heap.size + 1 + 1 + 1 + 1 + 1]? = W.heap[w.heap.size + 1 + 1 + 1 + 1 + 1]?)
            (fun pre W => (∃ v, Boxed W (w.heap.size + 1 + 1 + 1) 22 v ∧ W.ownsRow w.heap.size 62 4 v (rowsL a pre).length ((rowsL a pre).flatMap rsC) ∧ True) ∧ ((Boxed W w.heap.size 22 (.slice none 0 0) ∧ Boxed W (w.heap.size + 1) 4 (.bool false)) ∧ (Boxed W (w.heap.size + 1 + 1 + 1 + 1) 23 (.slice oa (4 * m) ca) ∧ Boxed W (w.heap.size + 1 + 1 + 1 + 1 + 1) 3 (.int .i64 4))) ∧ tkL a pre ≠ none ∧ Below w.heap.size w W)
            (fun c pre W => (c = .ret ∧ tkL a pre = none) ∧ (Boxed W w.heap.size 22 (.slice none 0 0) ∧ Boxed W (w.heap.size + 1) 4 (.bool false)) ∧ Below w.heap.size w W) (pre ++ [x]) W .normal { tmps := #[], defers := [] } (w3.setCell ⟨w.heap.size + 1 + 1 + 1, 0, none⟩ v3)) := by
          refine ⟨((KeepsOthers.drew W).trans a4).from _, ⟨(hold _ _ _ (by decide) (by omega) HBX.out.2.2.1).trans HBX.out.2.2.1.symm, (hold _ _ _ (by decide) (by omega) HBX.out.2.2.2.1).trans HBX.out.2.2.2.1.symm⟩, ⟨v3, a2, ?_, trivial⟩, ⟨⟨hold _ _ _ (by decide) (by omega) HBX.out.1, hold _ _ _ (by decide) (by omega) HBX.out.2.1⟩, hold _ _ _ (by decide) (by omega) HBX.out.2.2.1, hold _ _ _ (by decide) (by omega) HBX.out.2.2.2.1⟩, (by rw [HK.out]; intro e; cases e), HBX.out.2.2.2.2.2.trans ((hbd.mono HBX.out.2.2.2.2.2.size).trans a5)⟩
          rw [rowsL_some HK.out]
          exact a3
        have hbx := HBX.out.2.2.2.2.1
        have cl := hbx.cell
        subst ev3
        have ca1 := a1.cell
        have fa1 := a1.frozen
        obtain ⟨L, hL⟩ : ∃ L : List (Addr × Value), L = [(⟨b, p, none⟩, .int .i64 y1), (⟨b, p + 1, none⟩, .int .i64 y2), (⟨b, p + 2, none⟩, .int .i64 y3), (⟨w.heap.size + 1 + 1 + 1, 0, none⟩, v)] := ⟨_, rfl⟩
        have MK : Hid (∀ W', Below w.heap.size w W' → W'.cell? ⟨w.heap.size + 1 + 1 + 1, 0, none⟩ = some v → ∃ y : ClsT L, W' = y.z) := fun W' h1 h2 => ⟨⟨W', fun q hq => by
          obtain ⟨z1, z2, z3⟩ := D0.out W' h1
          rw [hL] at hq
          simp only [List.mem_cons, List.not_mem_nil, or_false] at hq
          rcases hq with rfl | rfl | rfl | rfl
          · exact z1
          · exact z2
          · exact z3
          · exact h2⟩, rfl⟩
        have f0 : ∀ y : ClsT L, y.z.cell? ⟨b, p, none⟩ = some (.int .i64 y1) := fun y => y.h (⟨b, p, none⟩, .int .i64 y1) (by rw [hL]; simp)
        have f1 : ∀ y : ClsT L, y.z.cell? ⟨b, p + 1, none⟩ = some (.int .i64 y2) := fun y => y.h (⟨b, p + 1, none⟩, .int .i64 y2) (by rw [hL]; simp)
        have f2 : ∀ y : ClsT L, y.z.cell? ⟨b, p + 2, none⟩ = some (.int .i64 y3) := fun y => y.h (⟨b, p + 2, none⟩, .int .i64 y3) (by rw [hL]; simp)
        have f3 : ∀ y : ClsT L, y.z.cell? ⟨w.heap.size + 1 + 1 + 1, 0, none⟩ = some v := fun y => y.h (⟨w.heap.size + 1 + 1 + 1, 0, none⟩, v) (by rw [hL]; simp)
        have HC0 : Hid (∃ y : ClsT L, W.drew = y.z) := MK.out _ HBX.out.2.2.2.2.2.drew cl
        have HC1 : Hid (∃ y : ClsT L, W.drew.alloc (.cells #[.int .i64 y1, .int .i64 y2, .int .i64 y3, .bool (decide (y4 = 1))] 62) = y.z) := MK.out _ hbw (Boxed.alloc (show Boxed W.drew _ _ _ from hbx) _).cell
        have HC2 : Hid (∃ y : ClsT L, w3 = y.z) := MK.out _ (hbw.grown gr3 hbw.size (fun k e => (World.ownsRow.lt (show W.ownsRow w.heap.size 62 4 v acc.length (acc.flatMap rsC) from hrow) k e).1)) ca1
        haveI : Nonempty (ClsT L) := by obtain ⟨y, _⟩ := HC0.out; exact ⟨y⟩
        clear hbd hb2 hbw i3 gr3 a1 a2 a3 a4 a5 hold hL hbx hrow
        gi_wp2
        refine wpIn_region_last (C := fun W => ∃ y : ClsT L, W = y.z) [0, 1, 2, 3, 4, 5, 6, 7, 8, 9, 10, 11, 12, 13, 14] [15] (by rintro ⟨_, _, h⟩; exact h) (by kernel_rfl) (by kernel_rfl) (by kernel_rfl) (by kernel_rfl) (by kernel_rfl) (by simp only [List.filterMap_cons, List.getElem?_toArray, List.getElem?_cons_zero, List.getElem?_cons_succ, List.filterMap_nil]; rfl) (by simp only [List.filterMap_cons, List.getElem?_toArray, List.getElem?_cons_zero, List.getElem?_cons_succ, List.filterMap_nil]; rfl) HC0.out ?_
        (repeat (first | (with_reducible refine mix_read (by kernel_rfl) ?_; go_big_quiet_want; go_big_quiet_op; go_big_quiet_on; with_reducible refine wpQuiet_nil ?_) | (with_reducible refine mix_pass (by kernel_rfl) ?_; go_big_quiet_skip; with_reducible refine wpQuiet_nil ?_)))
        refine mix_does (v := .slice (some ⟨W.drew.heap.size, 0, none⟩) 1 1) (w' := W.drew.alloc (.cells #[.int .i64 y1, .int .i64 y2, .int .i64 y3, .bool (decide (y4 = 1))] 62)) (by kernel_rfl) (by kernel_rfl) (by kernel_rfl) HC1.out ?_
        simp only [Act.put, List.setIfInBounds_toArray, List.set_cons_zero, List.set_cons_succ]
        refine mix_does (v := .slice (some ⟨gg, 0, none⟩) (acc.length + 1) gc) (w' := w3) (by kernel_rfl) (by kernel_rfl) (append_op _ _ 22 22 rfl v (.slice (some ⟨W.drew.heap.size, 0, none⟩) 1 1) rfl rfl _ r3) HC2.out ?_
        simp only [Act.put, List.setIfInBounds_toArray, List.set_cons_zero, List.set_cons_succ]
        with_reducible refine mix_end ?_
        clear f0 f1 f2 f3 HC0 HC1 HC2
        go_wp2
        exact HF.out
      · have hbe : ((y4 : Int) != 0) = true := by rw [bne_iff_ne]; exact hs0
        have hbf : ((y4 : Int) != 1) = true := by rw [bne_iff_ne]; exact hs1
        have HX : Hid (tkL a (pre ++ [x]) = none) := by
          show tkL a (pre ++ [x]) = none
          rw [HS.out, tkAt_none HE.out.2.2.2 (by omega)]
          rfl
        gi_wp2
        exact ⟨((KeepsOthers.setCell _ _ _).trans (KeepsOthers.setCell _ _ _)).from _, ⟨rfl, HX.out⟩, ⟨(HBX.out.1.set _).other (by omega) _, (HBX.out.2.1.other (by omega) _).set _⟩, (HBX.out.2.2.2.2.2.setCell (p := ⟨w.heap.size, 0, none⟩) (Nat.le_refl _) _).setCell (p := ⟨w.heap.size + 1, 0, none⟩) (Nat.le_succ _) _⟩
  case done =>
    rintro D ys W hD rfl ⟨⟨v, hv, hrow, -⟩, ⟨⟨b0, b1⟩, -, -⟩, hne, hB⟩ hK
    rw [tkL_upto] at hne
    obtain ⟨acc, hacc⟩ : ∃ acc, tkT a m = some acc := by
      cases h : tkT a m with
      | none => exact absurd h hne
      | some acc => exact ⟨acc, rfl⟩
    rw [rowsL_some ((tkL_upto a m m (Nat.le_refl _)).trans hacc)] at hrow
    have HT : Hid (takeV a = some acc) := by
      show takeV a = _
      rw [takeV, HA.out.2, if_pos (by omega), Nat.mul_div_cancel_left _ (by omega), hacc]
    obtain ⟨o, c, rfl⟩ := owns_slice hrow
    have cv := hv.cell
    have c0 := b0.cell
    have f0 := b0.frozen
    have c1 := b1.cell
    have f1 := b1.frozen
    have hK2 : ((W.setCell ⟨w.heap.size, 0, none⟩ (.slice o acc.length c)).setCell ⟨w.heap.size + 1, 0, none⟩ (.bool true)).heap[D]? = some (.deferred (some [])) := ((KeepsOthers.setCell _ _ _).trans (KeepsOthers.setCell _ _ _)).same D _ hK rfl
    have e0 : Boxed ((W.setCell ⟨w.heap.size, 0, none⟩ (.slice o acc.length c)).setCell ⟨w.heap.size + 1, 0, none⟩ (.bool true)) w.heap.size 22 (.slice o acc.length c) := (b0.set _).other (by omega) _
    have e1 : Boxed ((W.setCell ⟨w.heap.size, 0, none⟩ (.slice o acc.length c)).setCell ⟨w.heap.size + 1, 0, none⟩ (.bool true)) (w.heap.size + 1) 4 (.bool true) := (b1.other (by omega) _).set _
    have hr1 : (W.setCell ⟨w.heap.size, 0, none⟩ (.slice o acc.length c)).ownsRow w.heap.size 62 4 (.slice o acc.length c) acc.length (acc.flatMap rsC) := hrow.kept (grownBy_setCell' W w.heap.size _) (.inr (b0.not_row (by decide) hrow).symm)
    have b1' : Boxed (W.setCell ⟨w.heap.size, 0, none⟩ (.slice o acc.length c)) (w.heap.size + 1) 4 (.bool false) := b1.other (by omega) _
    have hr2 : ((W.setCell ⟨w.heap.size, 0, none⟩ (.slice o acc.length c)).setCell ⟨w.heap.size + 1, 0, none⟩ (.bool true)).ownsRow w.heap.size 62 4 (.slice o acc.length c) acc.length (acc.flatMap rsC) :=
      hr1.kept (grownBy_setCell' _ (w.heap.size + 1) _) (.inr (b1'.not_row (by decide) hr1).symm)
    have hB2 : Below w.heap.size w ((W.setCell ⟨w.heap.size, 0, none⟩ (.slice o acc.length c)).setCell ⟨w.heap.size + 1, 0, none⟩ (.bool true)) := (hB.setCell (p := ⟨w.heap.size, 0, none⟩) (Nat.le_refl _) _).setCell (p := ⟨w.heap.size + 1, 0, none⟩) (Nat.le_succ _) _
    clear hv hrow
    gi_wp2
    clear cv c0 f0 c1 f1
    generalize ((W.setCell ⟨w.heap.size, 0, none⟩ (.slice o acc.length c)).setCell ⟨w.heap.size + 1, 0, none⟩ (.bool true)) = W2 at *
    refine ⟨by simp, .inl ⟨_, _, rfl, run_takeDeferred hK2, ?_⟩⟩
    have z0 := (e0.kept (grownBy_putObj' W2 D (.deferred none)) (fun e => by cases e; omega)).cell
    have z1 := (e1.kept (grownBy_putObj' W2 D (.deferred none)) (fun e => by cases e; omega)).cell
    refine ⟨.tuple #[.slice o acc.length c, .bool true], ?_, .inl ⟨acc, _, HT.out, rfl, ownsRow_putObj hr2 _ hK2 rfl⟩, hB2.trans (belowK_b (w := w) (Nat.le_refl _) W2 D _ _ (by omega) hK2 rfl rfl)⟩
    rw [results_cells2 rfl]
    go_simp
  case stop =>
    rintro D c pre W hD ⟨k, hkm, rfl⟩ ⟨⟨rfl, hn⟩, ⟨b0, b1⟩, hB⟩ hK
    rw [tkL_upto] at hn
    have HT : Hid (takeV a = none) := by
      show takeV a = _
      rw [takeV, HA.out.2, if_pos (by omega), Nat.mul_div_cancel_left _ (by omega)]
      exact tkT_none hn m hkm
    gi_wp2
    refine ⟨by simp, .inl ⟨_, _, rfl, run_takeDeferred hK, ?_⟩⟩
    have z0 := (b0.kept (grownBy_putObj' W D (.deferred none)) (fun e => by cases e; omega)).cell
    have z1 := (b1.kept (grownBy_putObj' W D (.deferred none)) (fun e => by cases e; omega)).cell
    refine ⟨.tuple #[.slice none 0 0, .bool false], ?_, .inr ⟨HT.out, rfl⟩, hB.trans (belowK_b (w := w) (Nat.le_refl _) W D _ _ (by omega) hK rfl rfl)⟩
    rw [results_cells2 rfl]
    go_simp

/-- Take. -/
theorem take_any (oa : Option Addr) (n ca : Nat) (a : List Int) (w : World) (h : rowAt w (.slice oa n ca) 1 iC a) (hc : n ≤ ca) (h5 : n ≤ 1000) :
    Calls Try.prog 9 #[.slice oa n ca] w fun e w' => TkAns w' w.heap.size (takeV a) e ∧ Below w.heap.size w w' := by
  have hn := row_len h
  by_cases h4 : n % 4 = 0
  · obtain ⟨m, hm⟩ : ∃ m, n = 4 * m := ⟨n / 4, by omega⟩
    by_cases h0 : m = 0
    · subst h0
      subst hm
      exact take_even oa _ ca a w h h5 0 rfl 0 0 (fun j y hj => by
        have := (List.getElem?_eq_some_iff.1 hj).1
        omega) (fun Bs Bn W hBs _ => chunk_stops0 5 Bs Bn oa ca W hBs)
    · obtain ⟨y, hy⟩ := at_of (l := a) (k := 0) (by omega)
      obtain ⟨b, off, rfl, -⟩ := row_int h 0 y hy
      subst hm
      exact take_even _ _ ca a w h h5 m rfl b off (fun j y hj => by
        obtain ⟨b', off', e, hc'⟩ := row_int h j y hj
        injection e with e
        injection e with e1 e2
        subst e1 e2
        exact hc') (fun Bs Bn W hBs hBn => chunk_stops 5 (by omega) Bs Bn b off m ca (by omega) hc W hBs hBn)
  · exact take_odd oa n ca a w hn.symm h4
end Go.Proofs.Ytelmjkjbbbgmpaa
