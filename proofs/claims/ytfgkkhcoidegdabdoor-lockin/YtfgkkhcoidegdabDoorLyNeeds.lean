/-
  The reference's needs: points that rise, each in the path, or not; by a contract.
-/
import Derived.Test.YtfgkkhcoidegdabDoorLySize
import Derived.Test.YtfgkkhcoidegdabDoorLyIn
import Derived.Deep.QuietTactic
namespace Go.Proofs.YtfgkkhcoidegdabDoor
open Go.RowKit

/-- The section of the point at a place. -/
def secAt (l : Lay) (p : Int) : Int := ((l.points[p.toNat]?).map (·.2)).getD 0
def prevB : Option Int → Int → Bool
  | none, _ => true
  | some q, p => decide (q < p)
def needOk (l : Lay) (path : List Int) (b : Bool) (pr : Option Int) (p : Int) : Bool :=
  decide (0 ≤ p ∧ p < l.points.length) && (prevB pr p && (inB path (secAt l p) == b))
def needsF (l : Lay) (path : List Int) (b : Bool) : Option Int → List (Int × Bool) → Bool
  | _, [] => true
  | pr, x :: ns => needOk l path b pr x.1 && needsF l path b (some x.1) ns
def prevOf (ns : List (Int × Bool)) (k : Nat) : Option Int := if k = 0 then none else (ns[k - 1]?).map (·.1)

set_option maxRecDepth 1000000 in
set_option maxHeartbeats 4000000 in
theorem refNeeds_any (v : Nat → Value) (l : Lay) (rs : List RtV) (u p : Value) (ns : List (Int × Bool)) (path : List Int) (b : Bool) (w : World) (h : LayRd w v l rs) (hu : rowAt w u 2 nC ns) (hp : rowAt w p 1 iC path)
    (hn : ns.length ≤ 4294967296) (hq : path.length ≤ 4294967296) (_ : l.points.length ≤ 4294967296) (hi : ∀ x ∈ ns, okI x.1) :
    Calls Tryd.prog 40 #[.agg #[v 0, v 1, v 2, v 3], u, p, .bool b] w fun e w' => e = .returned (.bool (needsF l path b none ns)) ∧ Below w.heap.size w w' := by
  obtain ⟨o0, c0, e0, _⟩ := h.s
  obtain ⟨o1, c1, e1, r1⟩ := h.p
  obtain ⟨o2, c2, e2, _⟩ := h.g
  obtain ⟨o3, c3, e3, _⟩ := h.r
  obtain ⟨ou, cu, rfl, ru⟩ := hu
  obtain ⟨op, cp, rfl, rp⟩ := hp
  have HP : Hid (rowAt w (.slice op path.length cp) 1 iC path) := ⟨op, cp, rfl, rp⟩
  have S := BoxAt.start w v
  have HI : Hid (∀ x ∈ ns, okI x.1) := hi
  have R1 : Hid (∀ j x, l.points[j]? = some x → ∃ g off, o1 = some ⟨g, off, none⟩ ∧ ∀ i u, (pC x)[i]? = some u → w.cell? ⟨g, off + j * 2 + i, none⟩ = some u) := r1
  have RU : Hid (∀ j x, ns[j]? = some x → ∃ g off, ou = some ⟨g, off, none⟩ ∧ ∀ i u, (nC x)[i]? = some u → w.cell? ⟨g, off + j * 2 + i, none⟩ = some u) := ru
  have HV : Hid (v 0 = .slice o0 l.sections.length c0 ∧ v 1 = .slice o1 l.points.length c1 ∧ v 2 = .slice o2 l.signals.length c2 ∧ v 3 = .slice o3 rs.length c3) := ⟨e0, e1, e2, e3⟩
  rw [e0, e1, e2, e3] at S ⊢
  clear h r1 ru rp hi e0 e1 e2 e3
  generalize hs1 : l.points.length = n1 at *
  generalize hs0 : l.sections.length = n0 at *
  generalize hs2 : l.signals.length = n2 at *
  generalize hs3 : rs.length = n3 at *
  generalize hsu : ns.length = nu at *
  generalize hsp : path.length = np at *
  have HS1 : Hid (l.points.length = n1) := hs1
  have HSU : Hid (ns.length = nu) := hsu
  have HSP : Hid (path.length = np) := hsp
  clear hs0 hs1 hs2 hs3 hsu hsp
  go_enter Tryd.func40, Tryd.ntmps40
  go_wp2
  go_loopg [9] nu (fun gk i wr => ∃ k : Nat, gk = nu - k ∧ k ≤ nu ∧ i = .int .i64 k ∧ needsF l path b (prevOf ns k) (ns.drop k) = needsF l path b none ns ∧ BoxAt w v wr)
  case atStart => exact ⟨0, rfl, by omega, rfl, by simp [prevOf], S⟩
  case round =>
    clear S
    obtain ⟨k, rfl, hk, rfl, hc, hbx⟩ := hrel
    have HC : Hid (needsF l path b (prevOf ns k) (ns.drop k) = needsF l path b none ns) := hc
    have HBX : Hid (BoxAt w v wr) := hbx
    have hcc := hbx.cells
    have hbl := hbx.1
    rw [HV.out.1, HV.out.2.1, HV.out.2.2.1, HV.out.2.2.2] at hcc
    obtain ⟨q0, q1, q2, q3⟩ := hcc
    clear hc hbx
    by_cases hlt : k < nu
    · obtain ⟨⟨x, rv⟩, hx⟩ : ∃ x, ns[k]? = some x := ⟨ns[k]'(by rw [HSU.out]; exact hlt), List.getElem?_eq_getElem _⟩
      obtain ⟨g, off, rfl, hcell⟩ := RU.out k _ hx
      have a0 := hcell 0 _ rfl
      rw [Nat.add_zero] at a0
      have a1 := (hbl.cell (World.block_lt_of_cell? _ _ a0)).trans a0
      have hki : (k : Int) < (nu : Int) := by omega
      have hxi := HI.out _ (List.mem_of_getElem? hx)
      simp only [okI] at hxi
      rw [drop_at hx, needsF] at HC
      have HX : Hid (ns[k]? = some (x, rv)) := hx
      clear hcell a0
      have stop : ∀ (hno : needOk l path b (prevOf ns k) x = false), needsF l path b none ns = false := fun hno => by
        have := HC.out
        rw [hno, Bool.false_and] at this
        exact this.symm
      have STOP : Hid (needOk l path b (prevOf ns k) x = false → needsF l path b none ns = false) := stop
      clear stop
      by_cases h0 : x < 0
      · have HF : Hid (needsF l path b none ns = false) := STOP.out (by rw [needOk, decide_eq_false (by omega), Bool.false_and])
        go_wp2
        go_ret
        exact ⟨ret_bool HF.out.symm, hbl⟩
      · by_cases h1 : (n1 : Int) ≤ x
        · have HF : Hid (needsF l path b none ns = false) := STOP.out (by rw [needOk, HS1.out, decide_eq_false (by omega), Bool.false_and])
          go_wp2
          go_ret
          exact ⟨ret_bool HF.out.symm, hbl⟩
        · obtain ⟨m, rfl⟩ : ∃ m : Nat, x = m := ⟨x.toNat, by omega⟩
          have hm1 : m < n1 := by omega
          obtain ⟨⟨pn, ps⟩, hpm⟩ : ∃ y, l.points[m]? = some y := ⟨l.points[m]'(by rw [HS1.out]; omega), List.getElem?_eq_getElem _⟩
          have hsec : secAt l m = ps := by rw [secAt, Int.toNat_natCast, hpm]; rfl
          obtain ⟨g1, off1, rfl, hc1⟩ := R1.out m _ hpm
          have b0 := hc1 1 _ rfl
          have b1 := (hbl.cell (World.block_lt_of_cell? _ _ b0)).trans b0
          have HIN : Hid (∀ W, Below w.heap.size w W → Calls Tryd.prog 30 #[.slice op np cp, .int .i64 ps] W fun e w' => e = .returned (.bool (inB path ps)) ∧ w' = W) := fun W hW => by
            have := in_any _ path ps W (HP.out.below hW) (by rw [HSP.out]; exact hq)
            exact this
          have HRG : Hid (needOk l path b (prevOf ns k) m = (prevB (prevOf ns k) m && (inB path ps == b))) := by
            show _ = _
            rw [needOk, HS1.out, decide_eq_true (by omega), Bool.true_and, hsec]
          clear hc1 b0 hpm hsec
          cases k with
          | zero =>
            have HPR : Hid (prevB (prevOf ns 0) m = true) := rfl
            rw [Nat.zero_mul, Nat.add_zero] at a1
            have IN := HIN.out _ hbl
            cases hin : inB path ps <;> cases b
            · rw [hin] at IN HRG
              have GO : Hid (needsF l path false (prevOf ns (0 + 1)) (ns.drop (0 + 1)) = needsF l path false none ns) := by
                have := HC.out
                rw [HRG.out] at this
                rw [← this, prevOf, if_neg (by omega), Nat.add_sub_cancel, HX.out, HPR.out]
                rfl
              go_wp2_with (go_at_call 30; refine IN.mono ?_; rintro e w1 ⟨rfl, rfl⟩)
              go_roundg (nu - (0 + 1))
              case rel => exact ⟨0 + 1, rfl, by omega, by go_num, GO.out, HBX.out⟩
              case measure => omega
            · rw [hin] at IN HRG
              have HF : Hid (needsF l path true none ns = false) := STOP.out (by rw [HRG.out]; simp)
              go_wp2_with (go_at_call 30; refine IN.mono ?_; rintro e w1 ⟨rfl, rfl⟩)
              go_ret
              exact ⟨ret_bool HF.out.symm, hbl⟩
            · rw [hin] at IN HRG
              have HF : Hid (needsF l path false none ns = false) := STOP.out (by rw [HRG.out]; simp)
              go_wp2_with (go_at_call 30; refine IN.mono ?_; rintro e w1 ⟨rfl, rfl⟩)
              go_ret
              exact ⟨ret_bool HF.out.symm, hbl⟩
            · rw [hin] at IN HRG
              have GO : Hid (needsF l path true (prevOf ns (0 + 1)) (ns.drop (0 + 1)) = needsF l path true none ns) := by
                have := HC.out
                rw [HRG.out] at this
                rw [← this, prevOf, if_neg (by omega), Nat.add_sub_cancel, HX.out, HPR.out]
                rfl
              go_wp2_with (go_at_call 30; refine IN.mono ?_; rintro e w1 ⟨rfl, rfl⟩)
              go_roundg (nu - (0 + 1))
              case rel => exact ⟨0 + 1, rfl, by omega, by go_num, GO.out, HBX.out⟩
              case measure => omega
          | succ k =>
            obtain ⟨⟨q, qb⟩, hqk⟩ : ∃ y, ns[k]? = some y := ⟨ns[k]'(by rw [HSU.out]; omega), List.getElem?_eq_getElem _⟩
            obtain ⟨g', off', hg, hcq⟩ := RU.out k _ hqk
            injection hg with hg
            injection hg with hg ho _
            subst hg ho
            have d0 := hcq 0 _ rfl
            rw [Nat.add_zero] at d0
            have d1 := (hbl.cell (World.block_lt_of_cell? _ _ d0)).trans d0
            have hpv : prevOf ns (k + 1) = some q := by rw [prevOf, if_neg (by omega), Nat.add_sub_cancel, hqk]; rfl
            have hk1 : ((k + 1 : Nat) : Int) - 1 = (k : Int) := by omega
            have hku : k < nu := by omega
            have HQ : Hid (prevOf ns (k + 1) = some q) := hpv
            clear hcq d0 hqk hpv
            by_cases hqm : (m : Int) ≤ q
            · have HF : Hid (needsF l path b none ns = false) := STOP.out (by rw [HRG.out, HQ.out, prevB, decide_eq_false (by omega), Bool.false_and])
              go_wp2
              go_ret
              exact ⟨ret_bool HF.out.symm, hbl⟩
            · have HPR : Hid (prevB (prevOf ns (k + 1)) m = true) := by rw [HQ.out, prevB]; exact decide_eq_true (by omega)
              have IN := HIN.out _ hbl
              cases hin : inB path ps <;> cases b
              · rw [hin] at IN HRG
                have GO : Hid (needsF l path false (prevOf ns (k + 1 + 1)) (ns.drop (k + 1 + 1)) = needsF l path false none ns) := by
                  have := HC.out
                  rw [HRG.out] at this
                  rw [← this, prevOf, if_neg (by omega), Nat.add_sub_cancel, HX.out, HPR.out]
                  rfl
                go_wp2_with (go_at_call 30; refine IN.mono ?_; rintro e w1 ⟨rfl, rfl⟩)
                go_roundg (nu - (k + 1 + 1))
                case rel => exact ⟨k + 1 + 1, rfl, by omega, by go_num, GO.out, HBX.out⟩
                case measure => omega
              · rw [hin] at IN HRG
                have HF : Hid (needsF l path true none ns = false) := STOP.out (by rw [HRG.out]; simp)
                go_wp2_with (go_at_call 30; refine IN.mono ?_; rintro e w1 ⟨rfl, rfl⟩)
                go_ret
                exact ⟨ret_bool HF.out.symm, hbl⟩
              · rw [hin] at IN HRG
                have HF : Hid (needsF l path false none ns = false) := STOP.out (by rw [HRG.out]; simp)
                go_wp2_with (go_at_call 30; refine IN.mono ?_; rintro e w1 ⟨rfl, rfl⟩)
                go_ret
                exact ⟨ret_bool HF.out.symm, hbl⟩
              · rw [hin] at IN HRG
                have GO : Hid (needsF l path true (prevOf ns (k + 1 + 1)) (ns.drop (k + 1 + 1)) = needsF l path true none ns) := by
                  have := HC.out
                  rw [HRG.out] at this
                  rw [← this, prevOf, if_neg (by omega), Nat.add_sub_cancel, HX.out, HPR.out]
                  rfl
                go_wp2_with (go_at_call 30; refine IN.mono ?_; rintro e w1 ⟨rfl, rfl⟩)
                go_roundg (nu - (k + 1 + 1))
                case rel => exact ⟨k + 1 + 1, rfl, by omega, by go_num, GO.out, HBX.out⟩
                case measure => omega
    · have HF : Hid (needsF l path b none ns = true) := by
        have := HC.out
        rw [List.drop_of_length_le (by rw [HSU.out]; omega)] at this
        exact this.symm
      go_wp2
      go_ret
      exact ⟨ret_bool HF.out.symm, hbl⟩
end Go.Proofs.YtfgkkhcoidegdabDoor
