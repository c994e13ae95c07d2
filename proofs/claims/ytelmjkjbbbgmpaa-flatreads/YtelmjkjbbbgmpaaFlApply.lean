/-
  Package flat: Apply, by a contract.
-/
import Derived.Test.YtelmjkjbbbgmpaaFlLib
namespace Go.Proofs.Ytelmjkjbbbgmpaa
open Go.RowKit

/-- A row of numbers of the call's own. -/
def IRow (w : World) (B : Nat) (v : Value) (l : List Int) : Prop := w.ownsRow B 3 1 v l.length (l.flatMap iC)
theorem flat_int (l : List Int) : l.flatMap iC = l.map (Value.int .i64) := by
  induction l with
  | nil => rfl
  | cons x l ih => rw [List.flatMap_cons, ih]; rfl
theorem IRow.row {w : World} {B : Nat} {v : Value} {l : List Int} (h : IRow w B v l) : rowAt w v 1 iC l := rowAt_of_owns (fun _ => rfl) h
theorem IRow.below {w w' : World} {B : Nat} {v : Value} {l : List Int} (h : IRow w B v l) (hb : Below w.heap.size w w') : IRow w' B v l := owns_below h hb
theorem IRow.mono {w : World} {B B' : Nat} {v : Value} {l : List Int} (h : IRow w B v l) (hb : B' ≤ B) : IRow w B' v l := owns_mono h hb
theorem IRow.slice {w : World} {B : Nat} {v : Value} {l : List Int} (h : IRow w B v l) (h0 : 0 < l.length) : ∃ g c, v = .slice (some ⟨g, 0, none⟩) l.length c ∧ B ≤ g ∧ g < w.heap.size := by
  rcases h.2 with ⟨_, e⟩ | ⟨g, c, cur, e, hB, hg, _⟩
  · omega
  · exact ⟨g, c, e, hB, (Array.getElem?_eq_some_iff.1 hg).1⟩
theorem IRow.cell {w : World} {B g c n : Nat} {l : List Int} (h : IRow w B (.slice (some ⟨g, 0, none⟩) n c) l) {k : Nat} {x : Int} (hx : l[k]? = some x) : w.cell? ⟨g, k, none⟩ = some (.int .i64 x) := by
  obtain ⟨g', off, e, hc⟩ := row_int (show rowAt w (.slice (some ⟨g, 0, none⟩) n c) 1 iC l from h.row) k x hx
  injection e with e
  injection e with e1 e2
  subst e1 e2
  rw [Nat.zero_add] at hc
  exact hc
theorem IRow.frozen {w : World} {B g c : Nat} {l : List Int} (h : IRow w B (.slice (some ⟨g, 0, none⟩) l.length c) l) (k : Nat) : w.frozen? ⟨g, k, none⟩ = false := World.ownsRow.frozenAt (w := w) (g := g) h k
theorem IRow.store {w : World} {B g c : Nat} {l : List Int} (h : IRow w B (.slice (some ⟨g, 0, none⟩) l.length c) l) (k : Nat) (x : Int) :
    IRow (w.setCell ⟨g, k, none⟩ (.int .i64 x)) B (.slice (some ⟨g, 0, none⟩) l.length c) (l.set k x) := by
  have h1 := (World.ownsRow.stored (w := w) h k (.int .i64 x)).1
  unfold IRow
  rw [List.length_set, flat_int, List.map_set, ← flat_int]
  exact h1
theorem row_ch {w : World} {o : Option Addr} {n c : Nat} {l : List Ch} (h : rowAt w (.slice o n c) 2 chC l) : ∀ j x, l[j]? = some x → ∃ g off, o = some ⟨g, off, none⟩ ∧ w.cell? ⟨g, off + j * 2, none⟩ = some (.int .i64 x.1) ∧ w.cell? ⟨g, off + j * 2 + 1, none⟩ = some (.int .i64 x.2) := fun j x hj => by
  obtain ⟨o', c', e, h2⟩ := h
  injection e with e1 e2 e3
  obtain ⟨g, off, e4, hc⟩ := h2 j x hj
  exact ⟨g, off, e1.trans e4, by simpa using hc 0 _ rfl, hc 1 _ rfl⟩
def ApAns (w : World) (B : Nat) (o : Option (List Int)) (e : Ending) : Prop :=
  (∃ b v, o = some b ∧ e = .returned (.tuple #[v, .bool true]) ∧ IRow w B v b) ∨ (o = none ∧ e = .returned (.tuple #[.slice none 0 0, .bool false]))

set_option maxRecDepth 1000000 in
set_option maxHeartbeats 4000000 in
theorem apply_any (va vl : Value) (a : List Int) (l : List Ch) (w : World) (ha : rowAt w va 1 iC a) (hl : rowAt w vl 2 chC l) (h5 : a.length ≤ 1000) (h6 : l.length ≤ 1000) :
    Calls Try.prog 19 #[va, vl] w fun e w' => ApAns w' w.heap.size (applyV a l) e ∧ Below w.heap.size w w' := by
  have HA : Hid (rowAt w va 1 iC a) := ha
  have HL : Hid (rowAt w vl 2 chC l) := hl
  have hal : Hid (a.length ≤ 1000) := h5
  have hva : ∃ o c, va = .slice o a.length c := ⟨_, _, ha.choose_spec.choose_spec.1⟩
  obtain ⟨oa, ca, rfl⟩ := hva
  obtain ⟨ol, cl, rfl, -⟩ := hl
  obtain ⟨m, hm⟩ : ∃ m, m = l.length := ⟨_, rfl⟩
  obtain ⟨n, hn⟩ : ∃ n, n = a.length := ⟨_, rfl⟩
  have HN : Hid (a.length = n ∧ l.length = m) := ⟨hn.symm, hm.symm⟩
  rw [← hm] at HL h6 ⊢
  rw [← hn] at HA h5 ⊢
  clear ha hm hn
  go_enter Try.func19, Try.ntmps19
  go_wp2_with fail
  refine (cloneI_any _ a _ HA.out (by have := hal.out; omega)).mono ?_
  rintro e w1 ⟨u, rfl, ho, hb⟩
  have H1 : Hid (IRow w1 w.heap.size u a ∧ Below w.heap.size w w1) := ⟨ho, hb⟩
  clear ho hb
  go_wp2
  go_loopg [13] m (fun gk i wr => ∃ k : Nat, ∃ cur, gk = m - k ∧ i = .int .i64 k ∧ k ≤ m ∧ applyV a (l.take k) = some cur ∧ IRow wr w.heap.size u cur ∧ Below w.heap.size w wr)
  case atStart => exact ⟨0, a, rfl, rfl, by omega, rfl, H1.out⟩
  case round =>
    obtain ⟨k, cur, rfl, rfl, hk, h1, h2, h3⟩ := hrel
    have HR : Hid (applyV a (l.take k) = some cur ∧ IRow wr w.heap.size u cur ∧ Below w.heap.size w wr) := ⟨h1, h2, h3⟩
    have hcl : Hid (cur.length = n) := (applyV_len h1).trans HN.out.1
    clear h1 h2 h3
    by_cases hlt : k < m
    · have hki : (k : Int) < (m : Int) := by omega
      obtain ⟨⟨p, y⟩, hx⟩ := at_of (l := l) (k := k) (by rw [HN.out.2]; exact hlt)
      obtain ⟨g, off, rfl, hc0, hc1⟩ := row_ch (HL.out.below HR.out.2.2) k _ hx
      have HX : Hid (l[k]? = some (p, y)) := hx
      clear hx
      have HV : Hid (∃ o c, u = .slice o n c) := by
        obtain ⟨o, c, e⟩ := owns_slice HR.out.2.1
        exact ⟨o, c, by rw [e, hcl.out]⟩
      obtain ⟨ou, cu, rfl⟩ := HV.out
      have HW2 : Hid (Below wr.heap.size wr (wr.alloc (.cells #[.int .i64 p, .int .i64 y] 65))) := by show Below _ _ _; exact (by repeat' (with_reducible first | exact Below.refl _ _ | refine Below.drew ?_ | refine _root_.Go.below_drewN ?_ _ | refine Below.alloc ?_ ?_ _ | refine Below.setCell ?_ ?_ _ | exact Nat.le_refl _ | (simp; done) | (simp; omega)))
      have HB2 : Hid (Below w.heap.size w (wr.alloc (.cells #[.int .i64 p, .int .i64 y] 65))) := HR.out.2.2.trans (HW2.out.mono HR.out.2.2.size)
      by_cases hp0 : p < 0
      · have HE : Hid (applyV a l = none) := applyV_none HR.out.1 HX.out (by unfold applyS; rw [if_neg (by show ¬ (0 ≤ p ∧ _); omega)])
        go_wp2
        go_ret2
        exact ⟨.inr ⟨HE.out, rfl⟩, HB2.out⟩
      · by_cases hpn : (n : Int) ≤ p
        · have HE : Hid (applyV a l = none) := applyV_none HR.out.1 HX.out (by unfold applyS; rw [if_neg (by show ¬ (0 ≤ p ∧ p < (cur.length : Int)); rw [hcl.out]; omega)])
          go_wp2
          go_ret2
          exact ⟨.inr ⟨HE.out, rfl⟩, HB2.out⟩
        · obtain ⟨q, rfl, hq⟩ := nat_of (i := p) (n := n) ⟨by omega, by omega⟩
          have HE : Hid (applyV a (l.take (k + 1)) = some (cur.set q y)) := by
            show applyV a (l.take (k + 1)) = _
            rw [applyV_next HR.out.1 HX.out, applyS, if_pos ⟨by show (0 : Int) ≤ (q : Int); omega, by show (q : Int) < _; rw [hcl.out]; omega⟩]
            rfl
          obtain ⟨gu, cu', hv, hg1, hg2⟩ := HR.out.2.1.slice (by rw [hcl.out]; omega)
          injection hv with e1 e2 e3
          subst e1
          clear e2 e3
          obtain ⟨z, hz⟩ := at_of (l := cur) (k := q) (by rw [hcl.out]; exact hq)
          have HI2 : Hid (IRow (wr.alloc (.cells #[.int .i64 (q : Int), .int .i64 y] 65)) w.heap.size (.slice (some ⟨gu, 0, none⟩) cur.length cu) cur) := by
            show IRow _ _ _ _
            rw [hcl.out]
            exact HR.out.2.1.below HW2.out
          have hcz := HI2.out.cell hz
          have hfz := HI2.out.frozen q
          have HIR : Hid (IRow wr w.heap.size (.slice (some ⟨gu, 0, none⟩) cur.length cu) cur) := by
            show IRow _ _ _ _
            rw [hcl.out]
            exact HR.out.2.1
          have HS : Hid (IRow ((wr.setCell ⟨gu, q, none⟩ (.int .i64 y)).alloc (.cells #[.int .i64 (q : Int), .int .i64 y] 65)) w.heap.size (.slice (some ⟨gu, 0, none⟩) n cu) (cur.set q y)) := by
            have := HIR.out.store q y
            rw [hcl.out] at this
            exact this.below ((Below.refl _ _).alloc (Nat.le_refl _) _)
          have HBS : Hid (Below w.heap.size w ((wr.setCell ⟨gu, q, none⟩ (.int .i64 y)).alloc (.cells #[.int .i64 (q : Int), .int .i64 y] 65))) := by
            have := HR.out.2.2.setCell (p := ⟨gu, q, none⟩) hg1 (.int .i64 y)
            exact this.alloc this.size _
          have hqi : (q : Int) < (n : Int) := by omega
          clear hz
          go_wp2
          go_roundg (m - (k + 1))
          case rel => exact ⟨k + 1, _, rfl, by go_num, by omega, HE.out, HS.out, HBS.out⟩
          case measure => omega
    · have hke : k = m := by omega
      subst hke
      have HE : Hid (applyV a l = some cur) := by
        have := HR.out.1
        rwa [List.take_of_length_le (by rw [HN.out.2]; exact Nat.le_refl _)] at this
      go_wp2
      go_ret2
      exact ⟨.inl ⟨cur, u, HE.out, rfl, HR.out.2.1⟩, HR.out.2.2⟩
end Go.Proofs.Ytelmjkjbbbgmpaa
