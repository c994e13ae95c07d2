/-
  The law's needs of two rows that are one; a layout without its last route: plain, and by a contract.
-/
import Derived.Test.YtfgkkhcoidegdaaDoorTbConf
import Derived.Test.YtfgkkhcoidegdaaDoorTbIs
namespace Go.Proofs.YtfgkkhcoidegdaaDoor
open Go.RowKit

theorem rowAt_take {α : Type} {cs : α → List Value} {size : Nat} {w : World} {o : Option Addr} {n c : Nat} {l : List α} (h : rowAt w (.slice o n c) size cs l) (k : Nat) (hk : k ≤ l.length) (c' : Nat) : rowAt w (.slice o k c') size cs (l.take k) := by
  obtain ⟨oa, cap, e, h2⟩ := h
  injection e with e1 e2 e3
  subst e1
  refine ⟨o, c', by rw [List.length_take, Nat.min_eq_left hk], fun j x hj => ?_⟩
  rw [List.getElem?_take] at hj
  split at hj
  · exact h2 j x hj
  · exact absurd hj (by simp)

set_option maxRecDepth 1000000 in
set_option maxHeartbeats 2000000 in
theorem lawNeeds_same (va vb : Value) (l : List (Int × Bool)) (w : World) (h : rowAt w va 2 nC l) (hb : rowAt w vb 2 nC l) (hl : l.length ≤ 4294967296) :
    Calls Tryd.prog 15 #[va, vb] w fun e w' => e = .returned (.bool true) ∧ Below w.heap.size w w' := by
  obtain ⟨oa, ca, rfl, h2⟩ := h
  obtain ⟨ob, cb, rfl, h3⟩ := hb
  have H2 : Hid (∀ j y, l[j]? = some y → ∃ g off, oa = some ⟨g, off, none⟩ ∧ ∀ i u, (nC y)[i]? = some u → w.cell? ⟨g, off + j * 2 + i, none⟩ = some u) := h2
  have H3 : Hid (∀ j y, l[j]? = some y → ∃ g off, ob = some ⟨g, off, none⟩ ∧ ∀ i u, (nC y)[i]? = some u → w.cell? ⟨g, off + j * 2 + i, none⟩ = some u) := h3
  clear h2 h3
  generalize hn : l.length = n at *
  have HN : Hid (l.length = n) := hn
  clear hn
  go_enter Tryd.func15, Tryd.ntmps15
  go_wp2
  go_loopg [5] n (fun gk i wr => ∃ k q : Nat, gk = n - k ∧ i = .int .i64 k ∧ k ≤ n ∧ wr = w.drewN q)
  case atStart => exact ⟨0, 0, rfl, rfl, by omega, rfl⟩
  case round =>
    obtain ⟨k, q, rfl, rfl, hk, rfl⟩ := hrel
    by_cases hlt : k < n
    · obtain ⟨⟨y1, y2⟩, hy⟩ : ∃ y, l[k]? = some y := ⟨l[k]'(by rw [HN.out]; exact hlt), List.getElem?_eq_getElem _⟩
      obtain ⟨g, off, rfl, hcell⟩ := H2.out k _ hy
      obtain ⟨g', off', rfl, hcell'⟩ := H3.out k _ hy
      have hki : (k : Int) < (n : Int) := by omega
      have a0 := hcell 0 _ rfl
      have a1 := hcell 1 _ rfl
      have b0 := hcell' 0 _ rfl
      have b1 := hcell' 1 _ rfl
      rw [Nat.add_zero] at a0 b0
      clear hcell hcell' hy
      have hEQ : ∀ W : World, (binOp .neq 91 (.agg #[.int .i64 y1, .bool y2]) (.agg #[.int .i64 y1, .bool y2])).run Tryd.prog W = .ok (.bool false) W := fun W => by
        rw [run_neqNd]
        simp
      have hgd := eqGuardNd
      go_wp2_with fail
      go_quiet (fail)
      go_wp2
      go_roundg (n - (k + 1))
      case rel => exact ⟨k + 1, q + nq, rfl, by go_num, by omega, rfl⟩
      case measure => omega
    · go_wp2
      go_ret
      exact ⟨rfl, _root_.Go.below_drewN (Below.refl _ _) _⟩

/-- Without its last route. -/
def lessL (l : Lay) (n : Nat) : Lay := ⟨l.sections, l.points, l.signals, l.routes.take n⟩
theorem needsF_less (l : Lay) (n : Nat) (path : List Int) (b : Bool) : ∀ (ns : List (Int × Bool)) (pr : Option Int), needsF (lessL l n) path b pr ns = needsF l path b pr ns
  | [], _ => rfl
  | x :: ns, pr => by
    rw [needsF, needsF, needsF_less l n path b ns]
    rfl
theorem routeB_less (l : Lay) (n : Nat) (r : Rt) : routeB (lessL l n) r = routeB l r := by
  rw [routeB, routeB, restB, restB, needsF_less, needsF_less]
  rfl
theorem namesB_take {l : List ByteArray} (n : Nat) (h : namesB l = true) : namesB (l.take n) = true := by
  have h1 := of_decide_eq_true h
  exact decide_eq_true ⟨h1.1.sublist (List.take_sublist _ _), fun y hy => h1.2 y (List.mem_of_mem_take hy)⟩
theorem isB_less (l : Lay) (n : Nat) (h : isB l = true) : isB (lessL l n) = true := by
  rw [isB_and, Bool.and_eq_true, Bool.and_eq_true, Bool.and_eq_true] at h ⊢
  obtain ⟨h1, h2, h3, h4⟩ := h
  refine ⟨?_, ?_, h3, ?_⟩
  · have := of_decide_eq_true h1
    refine decide_eq_true ⟨this.1, this.2.1, this.2.2.1, this.2.2.2.1, this.2.2.2.2.1, ?_⟩
    have := this.2.2.2.2.2
    simp only [lessL, List.length_take]
    omega
  · rw [namesAll, Bool.and_eq_true, Bool.and_eq_true, Bool.and_eq_true] at h2 ⊢
    refine ⟨h2.1, h2.2.1, h2.2.2.1, ?_⟩
    simp only [lessL, List.map_take]
    exact namesB_take n h2.2.2.2
  · rw [List.all_eq_true] at h4 ⊢
    intro x hx
    rw [routeB_less]
    exact h4 x (List.mem_of_mem_take hx)
theorem lay_less {w : World} {v : Nat → Value} {l : Lay} {rs : List RtV} (h : LayRd w v l rs) (o3 : Option Addr) (n c : Nat) (e3 : v 3 = .slice o3 rs.length c) (hn : n ≤ rs.length) :
    LayRd w (fun i => match i with | 0 => v 0 | 1 => v 1 | 2 => v 2 | _ => .slice o3 n c) (lessL l n) (rs.take n) := by
  have hr := h.r
  rw [e3] at hr
  refine ⟨h.s, h.p, h.g, rowAt_take hr n hn c, ?_, fun x hx => h.x x (List.mem_of_mem_take hx)⟩
  show _ = l.routes.take n
  rw [← h.m, List.map_take]
end Go.Proofs.YtfgkkhcoidegdaaDoor
