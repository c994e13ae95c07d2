/-
  The reference's wants, by a contract.
-/
import Derived.Test.YtgiaicmhnkhbnaaDoorLyPrintP
import Derived.Deep.CutBlock
namespace Go.Proofs.YtgiaicmhnkhbnaaDoor
open Go.RowKit

/-- A need, by its point's name. -/
def wantOf (l : Lay) (n : Int × Bool) : Wt := (nth (l.points.map (·.1)) n.1, n.2)

set_option maxRecDepth 1000000 in
set_option maxHeartbeats 8000000 in
theorem refWants_any (v : Nat → Value) (l : Lay) (rs : List RtV) (u : Value) (ns : List (Int × Bool)) (w : World) (h : LayRd w v l rs) (hu : rowAt w u 2 nC ns) (hn : ns.length ≤ 3000) (hz : ∀ x ∈ l.points, x.1.size < 3000) (_ : l.points.length ≤ 4294967296) (hi : ∀ n ∈ ns, 0 ≤ n.1 ∧ n.1 < l.points.length) :
    Calls Tryd.prog 25 #[.agg #[v 0, v 1, v 2, v 3], u] w fun e w' => e = .returned (.string (wantsT (ns.map (wantOf l)))) ∧ Below w.heap.size w w' := by
  obtain ⟨o0, c0, e0, _⟩ := h.s
  obtain ⟨o1, c1, e1, r1⟩ := h.p
  obtain ⟨o2, c2, e2, _⟩ := h.g
  obtain ⟨o3, c3, e3, _⟩ := h.r
  obtain ⟨ou, cu, rfl, ru⟩ := hu
  have S := BoxAt.start w v
  have HZ : Hid (∀ x ∈ l.points, x.1.size < 3000) := hz
  have HI : Hid (∀ n ∈ ns, 0 ≤ n.1 ∧ n.1 < l.points.length) := hi
  have R1 : Hid (∀ j x, l.points[j]? = some x → ∃ g off, o1 = some ⟨g, off, none⟩ ∧ ∀ i u, (pC x)[i]? = some u → w.cell? ⟨g, off + j * 2 + i, none⟩ = some u) := r1
  have RU : Hid (∀ j x, ns[j]? = some x → ∃ g off, ou = some ⟨g, off, none⟩ ∧ ∀ i u, (nC x)[i]? = some u → w.cell? ⟨g, off + j * 2 + i, none⟩ = some u) := ru
  have HV : Hid (v 0 = .slice o0 l.sections.length c0 ∧ v 1 = .slice o1 l.points.length c1 ∧ v 2 = .slice o2 l.signals.length c2 ∧ v 3 = .slice o3 rs.length c3) := ⟨e0, e1, e2, e3⟩
  rw [e0, e1, e2, e3] at S ⊢
  clear h r1 ru hi e0 e1 e2 e3 hz
  generalize hs1 : l.points.length = n1 at *
  generalize hs0 : l.sections.length = n0 at *
  generalize hs2 : l.signals.length = n2 at *
  generalize hs3 : rs.length = n3 at *
  generalize hsu : ns.length = nu at *
  have HS1 : Hid (l.points.length = n1) := hs1
  have HSU : Hid (ns.length = nu) := hsu
  clear hs0 hs1 hs2 hs3 hsu
  go_enter Tryd.func25, Tryd.ntmps25
  go_wp2
  go_loopg [5, 6] nu (fun gk s i wr => ∃ k : Nat, gk = nu - k ∧ k ≤ nu ∧ i = .int .i64 k ∧ s = .string (wantsT ((ns.take k).map (wantOf l))) ∧ BoxAt w v wr)
  case atStart => exact ⟨0, rfl, by omega, rfl, rfl, S⟩
  case round =>
    clear S
    obtain ⟨k, rfl, hk, rfl, rfl, hbx⟩ := hrel
    have HBX : Hid (BoxAt w v wr) := hbx
    have hcc := hbx.cells
    have hbl := hbx.1
    rw [HV.out.1, HV.out.2.1, HV.out.2.2.1, HV.out.2.2.2] at hcc
    obtain ⟨q0, q1, q2, q3⟩ := hcc
    clear hbx
    by_cases hlt : k < nu
    · obtain ⟨⟨x, rv⟩, hx⟩ : ∃ x, ns[k]? = some x := ⟨ns[k]'(by rw [HSU.out]; exact hlt), List.getElem?_eq_getElem _⟩
      have hin := HI.out _ (List.mem_of_getElem? hx)
      simp only at hin
      obtain ⟨m, rfl⟩ : ∃ m : Nat, x = m := ⟨x.toNat, by omega⟩
      have hm1 : m < n1 := by omega
      obtain ⟨⟨pn, ps⟩, hpm⟩ : ∃ y, l.points[m]? = some y := ⟨l.points[m]'(by rw [HS1.out]; omega), List.getElem?_eq_getElem _⟩
      obtain ⟨g, off, rfl, hcell⟩ := RU.out k _ hx
      obtain ⟨g1, off1, rfl, hc1⟩ := R1.out m _ hpm
      have up : ∀ {p : Addr} {u : Value}, w.cell? p = some u → wr.cell? p = some u := fun h => (hbl.cell (World.block_lt_of_cell? _ _ h)).trans h
      have d0 := up (hcell 0 _ rfl)
      have d1 := up (hcell 1 _ rfl)
      have f0 := up (hc1 0 _ rfl)
      rw [Nat.add_zero] at d0 f0
      have hki : (k : Int) < (nu : Int) := by omega
      have hmi : (m : Int) < (n1 : Int) := by omega
      have GO : Hid (wantsT ((ns.take k).map (wantOf l)) ++ ⟨#[32]⟩ ++ pn ++ (if rv = true then ⟨#[45]⟩ else ⟨#[43]⟩) = wantsT ((ns.take (k + 1)).map (wantOf l))) := by
        show _ = _
        rw [take_snocI hx, List.map_append, wants_snoc, List.map_singleton, wantOf, nth_at (x := pn) (by rw [List.getElem?_map, hpm]; rfl)]
      have hzp := HZ.out _ (List.mem_of_getElem? hpm)
      have hzs : (wantsT ((ns.take k).map (wantOf l))).size ≤ 3002 * k := by
        have := wantsT_size (xs := (ns.take k).map (wantOf l)) fun y hy => by
          obtain ⟨z, _, rfl⟩ := List.mem_map.1 hy
          exact nth_size (fun q hq => by
            obtain ⟨q', h1, rfl⟩ := List.mem_map.1 hq
            exact HZ.out q' h1) _
        rw [List.length_map, List.length_take, HSU.out, Nat.min_eq_left hk] at this
        exact this
      simp only at hzp
      clear hcell hc1 up hx hpm hin
      generalize hss : wantsT ((ns.take k).map (wantOf l)) = ss at *
      clear hss
      cases rv
      · go_wp2_with fail
        go_quiet (fail)
        go_wp2
        go_roundg (nu - (k + 1))
        case rel => exact ⟨k + 1, rfl, by omega, by go_num, by rw [← GO.out]; rfl, HBX.out.step (_root_.Go.below_drewN (Below.refl _ _) _)⟩
        case measure => omega
      · go_wp2_with fail
        go_quiet (fail)
        go_wp2
        go_roundg (nu - (k + 1))
        case rel => exact ⟨k + 1, rfl, by omega, by go_num, by rw [← GO.out]; rfl, HBX.out.step (_root_.Go.below_drewN (Below.refl _ _) _)⟩
        case measure => omega
    · have hki : ¬ (k : Int) < (nu : Int) := by omega
      rw [take_all HSU.out (by omega)]
      go_wp2
      go_ret
      exact ⟨rfl, hbl⟩
end Go.Proofs.YtgiaicmhnkhbnaaDoor
