/-
  Package table: a path; needs beside a path; the points in a path: by contracts.
-/
import Derived.Test.YtceebimgfajbcaaTbSized
namespace Go.Proofs.Ytceebimgfajbcaa
open Go.RowKit

set_option maxRecDepth 1000000 in
set_option maxHeartbeats 4000000 in
theorem isPath_any (l : Lay) (v : Value) (pa : List Int) (w : World) (h : rowAt w v 1 iC pa) (hcap : capOk v) (hl : pa.length ≤ 4294967296) :
    Calls Try.prog 25 #[v, .int .i64 (l.sections.length : Nat)] w fun e w' => e = .returned (.bool (decide (1 ≤ pa.length ∧ pa.length ≤ 5) && pathB l pa)) ∧ w' = w := by
  have h' := h
  obtain ⟨oa, cap, rfl, h2⟩ := h
  have hcn := hcap _ _ _ rfl
  have H2 : Hid (∀ j y, pa[j]? = some y → ∃ g off, oa = some ⟨g, off, none⟩ ∧ ∀ i u, (iC y)[i]? = some u → w.cell? ⟨g, off + j * 1 + i, none⟩ = some u) := h2
  have HR : Hid (rowAt w (.slice oa pa.length cap) 1 iC pa) := h'
  clear h2 h' hcap
  generalize hn : pa.length = n at *
  generalize hm : l.sections.length = m at *
  have HN : Hid (pa.length = n) := hn
  have HM : Hid (l.sections.length = m) := hm
  clear hn hm
  have D : Hid (∀ W, Calls Try.prog 12 #[.int .i64 n, .int .i64 1, .int .i64 5] W fun e w' => e = .returned (.bool (decide ((1 : Int) ≤ (n : Int) ∧ (n : Int) ≤ 5))) ∧ w' = W) := fun W => isCount_any n 1 5 W
  by_cases hc : 1 ≤ n ∧ n ≤ 5
  · rw [decide_eq_true (show (1 : Int) ≤ (n : Int) ∧ (n : Int) ≤ 5 by omega)] at D
    rw [decide_eq_true hc, Bool.true_and]
    go_enter Try.func25, Try.ntmps25
    go_wp2_with (go_at_call 12; refine (D.out _).mono ?_; rintro e w1 ⟨rfl, hw1⟩; subst w1)
    clear D
    go_loop [5, 6, 13] (fun _ _ i => ∃ k : Nat, i = .int .i64 k ∧ k ≤ n ∧ ((pa.take k).Nodup ∧ ∀ y ∈ pa.take k, 0 ≤ y ∧ y < l.sections.length)) (fun _ _ i => n - (intOf i).toNat)
    case atStart => exact ⟨0, rfl, by omega, by simp⟩
    case round =>
      obtain ⟨k, rfl, hk, hc⟩ := hrel
      have HC : Hid ((pa.take k).Nodup ∧ ∀ y ∈ pa.take k, 0 ≤ y ∧ y < l.sections.length) := hc
      clear hc
      by_cases hlt : k < n
      · obtain ⟨x, hx⟩ : ∃ x, pa[k]? = some x := ⟨pa[k]'(by rw [HN.out]; exact hlt), List.getElem?_eq_getElem _⟩
        obtain ⟨g, off, rfl, hcell⟩ := H2.out k x hx
        have c0 := hcell 0 _ rfl
        simp only [Nat.mul_one, Nat.add_zero] at c0
        have hki : (k : Int) < (n : Int) := by omega
        have hkc : k ≤ cap := by omega
        have HX : Hid (pa[k]? = some x) := hx
        have C := fun W => isPlace_any x m W
        clear hcell hx
        by_cases hp : 0 ≤ x ∧ x < (m : Int)
        · rw [decide_eq_true hp] at C
          have HP : Hid (0 ≤ x ∧ x < (m : Int)) := hp
          clear hp
          have IN : Hid (Calls Try.prog 31 #[.slice (some ⟨g, off, none⟩) k cap, .int .i64 x] w fun e w' => e = .returned (.bool (inB (pa.take k) x)) ∧ w' = w) :=
            containsI_any _ (pa.take k) x _ (row_take HR.out k (by rw [HN.out]; omega) cap) (by rw [List.length_take]; omega)
          cases hin : inB (pa.take k) x
          · rw [hin] at IN
            have HIN : Hid (inB (pa.take k) x = false) := hin
            clear hin
            go_wp2_with (first | (go_at_call 18; refine (C _).mono ?_; rintro e w' ⟨rfl, rfl⟩) | (go_at_call 31; refine IN.out.mono ?_; rintro e w' ⟨rfl, rfl⟩))
            go_round
            case rel => exact ⟨k + 1, by go_num, by omega, path_more HX.out HC.out (by rw [HM.out]; exact HP.out) HIN.out⟩
            case measure => simp [intOf]; omega
          · rw [hin] at IN
            have HF : Hid (pathB l pa = false) := path_no HX.out (.inr hin)
            clear hin
            go_wp2_with (first | (go_at_call 18; refine (C _).mono ?_; rintro e w' ⟨rfl, rfl⟩) | (go_at_call 31; refine IN.out.mono ?_; rintro e w' ⟨rfl, rfl⟩))
            go_ret
            exact ⟨ret_bool HF.out.symm, rfl⟩
        · rw [decide_eq_false hp] at C
          have HF : Hid (pathB l pa = false) := path_no HX.out (.inl (by rw [HM.out]; exact hp))
          clear hp
          go_wp2_with (go_at_call 18; refine (C _).mono ?_; rintro e w' ⟨rfl, rfl⟩)
          go_ret
          exact ⟨ret_bool HF.out.symm, rfl⟩
      · have HF : Hid (pathB l pa = true) := by
          have := HC.out
          rw [List.take_of_length_le (by rw [HN.out]; omega)] at this
          exact decide_eq_true this
        go_wp2
        go_ret
        exact ⟨ret_bool HF.out.symm, rfl⟩
  · rw [decide_eq_false (show ¬ ((1 : Int) ≤ (n : Int) ∧ (n : Int) ≤ 5) by omega)] at D
    rw [decide_eq_false hc, Bool.false_and]
    go_enter Try.func25, Try.ntmps25
    go_wp2_with (go_at_call 12; refine (D.out _).mono ?_; rintro e w1 ⟨rfl, hw1⟩; subst w1)
    go_ret
    exact ⟨rfl, rfl⟩

theorem beside_no {l : Lay} {path : List Int} {pr : Option Int} {p : Int} (h : p ≤ pr.getD (-1)) : needOk l path false pr p = false := by
  cases pr with
  | none => rw [needOk, decide_eq_false (by simp at h; omega), Bool.false_and]
  | some q => rw [needOk, prevB, decide_eq_false (show ¬ q < p by simp at h; omega), Bool.false_and, Bool.and_false]
theorem beside_prev {pr : Option Int} {p : Int} (h : ¬ p ≤ pr.getD (-1)) : prevB pr p = true := by
  cases pr with
  | none => rfl
  | some q => exact decide_eq_true (by simp at h; omega)

set_option maxRecDepth 1000000 in
set_option maxHeartbeats 4000000 in
theorem isBeside_any (v : Nat → Value) (l : Lay) (rs : List RtV) (u p : Value) (ns : List (Int × Bool)) (path : List Int) (w : World) (h : LayRd w v l rs) (hu : rowAt w u 2 nC ns) (hp : rowAt w p 1 iC path)
    (hn : ns.length ≤ 4294967296) (hq : path.length ≤ 4294967296) (_ : l.points.length ≤ 4294967296) :
    Calls Try.prog 28 #[u, .agg #[v 0, v 1, v 2, v 3], p] w fun e w' => e = .returned (.bool (needsF l path false none ns)) ∧ Below w.heap.size w w' := by
  obtain ⟨o0, c0, e0, _⟩ := h.s
  obtain ⟨o1, c1, e1, r1⟩ := h.p
  obtain ⟨o2, c2, e2, _⟩ := h.g
  obtain ⟨o3, c3, e3, _⟩ := h.r
  obtain ⟨ou, cu, rfl, ru⟩ := hu
  obtain ⟨op, cp, rfl, rp⟩ := hp
  have HP : Hid (rowAt w (.slice op path.length cp) 1 iC path) := ⟨op, cp, rfl, rp⟩
  have S := BoxAt.start w v
  have R1 : Hid (∀ j x, l.points[j]? = some x → ∃ g off, o1 = some ⟨g, off, none⟩ ∧ ∀ i u, (pC x)[i]? = some u → w.cell? ⟨g, off + j * 2 + i, none⟩ = some u) := r1
  have RU : Hid (∀ j x, ns[j]? = some x → ∃ g off, ou = some ⟨g, off, none⟩ ∧ ∀ i u, (nC x)[i]? = some u → w.cell? ⟨g, off + j * 2 + i, none⟩ = some u) := ru
  have HV : Hid (v 0 = .slice o0 l.sections.length c0 ∧ v 1 = .slice o1 l.points.length c1 ∧ v 2 = .slice o2 l.signals.length c2 ∧ v 3 = .slice o3 rs.length c3) := ⟨e0, e1, e2, e3⟩
  rw [e0, e1, e2, e3] at S ⊢
  clear h r1 ru rp e0 e1 e2 e3
  generalize hs1 : l.points.length = n1 at *
  generalize hs0 : l.sections.length = n0 at *
  generalize hs2 : l.signals.length = n2 at *
  generalize hs3 : rs.length = n3 at *
  generalize hsu : ns.length = nu at *
  generalize hsp : path.length = np at *
  have HS1 : Hid (l.points.length = n1) := hs1
  have HSU : Hid (ns.length = nu) := hsu
  have HSP : Hid (path.length = np) := hsp
  clear hs0 hs1 hs2 hs3 hsu hsp
  go_enter Try.func28, Try.ntmps28
  go_wp2
  go_loopg [7, 9, 12] nu (fun gk la a i wr => ∃ (k : Nat) (q : Int), gk = nu - k ∧ k ≤ nu ∧ la = .int .i64 q ∧ i = .int .i64 k ∧ (-1 ≤ q) ∧ q = (prevOf ns k).getD (-1) ∧ needsF l path false (prevOf ns k) (ns.drop k) = needsF l path false none ns ∧ BoxAt w v wr)
  case atStart => exact ⟨0, -1, rfl, by omega, rfl, rfl, by omega, by simp [prevOf], by simp [prevOf], S⟩
  case round =>
    clear S
    obtain ⟨k, q, rfl, hk, rfl, rfl, hq1, hqp, hc, hbx⟩ := hrel
    have HQ : Hid (q = (prevOf ns k).getD (-1)) := hqp
    have HC : Hid (needsF l path false (prevOf ns k) (ns.drop k) = needsF l path false none ns) := hc
    have HBX : Hid (BoxAt w v wr) := hbx
    have hcc := hbx.cells
    have hbl := hbx.1
    have hsz := hbx.lt
    rw [HV.out.1, HV.out.2.1, HV.out.2.2.1, HV.out.2.2.2] at hcc
    obtain ⟨q0, q1, q2, q3⟩ := hcc
    clear hc hbx hqp
    by_cases hlt : k < nu
    · obtain ⟨⟨x, rv⟩, hx⟩ : ∃ x, ns[k]? = some x := ⟨ns[k]'(by rw [HSU.out]; exact hlt), List.getElem?_eq_getElem _⟩
      obtain ⟨g, off, rfl, hcell⟩ := RU.out k _ hx
      have a0 := hcell 0 _ rfl
      have a1 := hcell 1 _ rfl
      rw [Nat.add_zero] at a0
      have d0 := (hbl.cell (World.block_lt_of_cell? _ _ a0)).trans a0
      have d1 := (hbl.cell (World.block_lt_of_cell? _ _ a1)).trans a1
      have hki : (k : Int) < (nu : Int) := by omega
      rw [drop_at hx, needsF] at HC
      have HX : Hid (ns[k]? = some (x, rv)) := hx
      have z1 := fun o => (Below.cell (Below.alloc (Below.refl wr.heap.size wr) (Nat.le_refl _) o) (World.block_lt_of_cell? _ _ q1)).trans q1
      clear hcell a0 a1 hx q0 q2 q3
      have STOP : Hid (needOk l path false (prevOf ns k) x = false → needsF l path false none ns = false) := fun hno => by
        have := HC.out
        rw [hno, Bool.false_and] at this
        exact this.symm
      by_cases h0 : x ≤ q
      · have HF : Hid (needsF l path false none ns = false) := STOP.out (beside_no (by rw [← HQ.out]; exact h0))
        go_wp2
        go_ret
        exact ⟨ret_bool HF.out.symm, (HBX.out.step (by repeat' (with_reducible first | exact Below.refl _ _ | apply Below.setCell | apply Below.alloc | exact Nat.le_refl _))).1⟩
      · by_cases h1 : (n1 : Int) ≤ x
        · have HF : Hid (needsF l path false none ns = false) := STOP.out (by rw [needOk, HS1.out, decide_eq_false (by omega), Bool.false_and])
          go_wp2
          go_ret
          exact ⟨ret_bool HF.out.symm, (HBX.out.step (by repeat' (with_reducible first | exact Below.refl _ _ | apply Below.setCell | apply Below.alloc | exact Nat.le_refl _))).1⟩
        · obtain ⟨m, rfl⟩ : ∃ m : Nat, x = m := ⟨x.toNat, by omega⟩
          have hm1 : m < n1 := by omega
          obtain ⟨⟨pn, ps⟩, hpm⟩ : ∃ y, l.points[m]? = some y := ⟨l.points[m]'(by rw [HS1.out]; omega), List.getElem?_eq_getElem _⟩
          have hsec : secAt l m = ps := by rw [secAt, Int.toNat_natCast, hpm]; rfl
          obtain ⟨g1, off1, rfl, hc1⟩ := R1.out m _ hpm
          have b0 := hc1 1 _ rfl
          have b1 := (hbl.cell (World.block_lt_of_cell? _ _ b0)).trans b0
          have y1 := fun o => (Below.cell (Below.alloc (Below.refl wr.heap.size wr) (Nat.le_refl _) o) (World.block_lt_of_cell? _ _ b1)).trans b1
          have HIN : Hid (∀ W, Below wr.heap.size wr W → Calls Try.prog 31 #[.slice op np cp, .int .i64 ps] W fun e w' => e = .returned (.bool (inB path ps)) ∧ w' = W) := fun W hW => by
            have := containsI_any _ path ps W (HP.out.below (hbl.trans (hW.mono hbl.size))) (by rw [HSP.out]; exact hq)
            exact this
          have HRG : Hid (needOk l path false (prevOf ns k) m = !inB path ps) := by
            show _ = _
            rw [needOk, HS1.out, decide_eq_true (by omega), Bool.true_and, hsec, beside_prev (by rw [← HQ.out]; exact h0), Bool.true_and]
            cases inB path ps <;> rfl
          clear hc1 b0 hpm hsec
          cases hin : inB path ps
          · rw [hin] at HIN HRG
            have GO : Hid (needsF l path false (prevOf ns (k + 1)) (ns.drop (k + 1)) = needsF l path false none ns) := by
              have := HC.out
              rw [HRG.out] at this
              rw [← this, prevOf, if_neg (by omega), Nat.add_sub_cancel, HX.out]
              rfl
            have GP : Hid ((m : Int) = (prevOf ns (k + 1)).getD (-1)) := by
              show _ = _
              rw [prevOf, if_neg (by omega), Nat.add_sub_cancel, HX.out]
              rfl
            clear HC STOP HQ hin HRG
            go_wp2_with (go_at_call 31; refine (HIN.out _ (by repeat' (with_reducible first | exact Below.refl _ _ | apply Below.setCell | apply Below.alloc | exact Nat.le_refl _))).mono ?_; rintro e w1 ⟨rfl, rfl⟩)
            go_roundg (nu - (k + 1))
            case rel => exact ⟨k + 1, m, rfl, by omega, rfl, by go_num, by omega, GP.out, GO.out, HBX.out.step (by repeat' (with_reducible first | exact Below.refl _ _ | apply Below.setCell | apply Below.alloc | exact Nat.le_refl _))⟩
            case measure => omega
          · rw [hin] at HIN HRG
            have HF : Hid (needsF l path false none ns = false) := STOP.out HRG.out
            clear HC STOP HQ hin HRG
            go_wp2_with (go_at_call 31; refine (HIN.out _ (by repeat' (with_reducible first | exact Below.refl _ _ | apply Below.setCell | apply Below.alloc | exact Nat.le_refl _))).mono ?_; rintro e w1 ⟨rfl, rfl⟩)
            go_ret
            exact ⟨ret_bool HF.out.symm, (HBX.out.step (by repeat' (with_reducible first | exact Below.refl _ _ | apply Below.setCell | apply Below.alloc | exact Nat.le_refl _))).1⟩
    · have HF : Hid (needsF l path false none ns = true) := by
        have := HC.out
        rw [List.drop_of_length_le (by rw [HSU.out]; omega)] at this
        exact this.symm
      go_wp2
      go_ret
      exact ⟨ret_bool HF.out.symm, hbl⟩
end Go.Proofs.Ytceebimgfajbcaa
