/-
  Texts of this proof, joined: TbPath, TbEq, TbNames, TbNamed, TbNamed2, TbWay.
-/
import Derived.Test.YtceebimgfajbcaaGreatDoorJoin4
import Derived.Test.YtceebimgfajbcaaGreatDoorJoin1
import Derived.Test.YtceebimgfajbcaaGreatDoorJoin3
import Derived.Deep.OwnRows
import Derived.Test.YtceebimgfajbcaaGreatDoorJoin2
namespace Go.Proofs.YtceebimgfajbcaaGreatDoor
open Go.RowKit

set_option maxRecDepth 1000000 in
set_option maxHeartbeats 4000000 in
theorem isPath_any (l : Lay) (v : Value) (pa : List Int) (w : World) (h : rowAt w v 1 iC pa) (hcap : capOk v) (hl : pa.length ≤ 4294967296) :
    Calls Tryz.prog 93 #[v, .int .i64 (l.sections.length : Nat)] w fun e w' => e = .returned (.bool (decide (1 ≤ pa.length ∧ pa.length ≤ 5) && pathB l pa)) ∧ w' = w := by
  have h' := h
  obtain ⟨oa, cap, rfl, h2⟩ := h
  have hcn := hcap _ _ _ rfl
  have H2 : Hid (∀ j y, pa[j]? = some y → ∃ g off, oa = some ⟨g, off, none⟩ ∧ ∀ i u, (iC y)[i]? = some u → w.cell? ⟨g, off + j * 1 + i, none⟩ = some u) := h2
  have HR : Hid (rowAt w (.slice oa pa.length cap) 1 iC pa) := h'
  clear h2 h' hcap
  generalize hn : pa.length = n at *
  generalize hm : l.sections.length = m at *
  have HN : Hid (pa.length = n) := hn
  have HM : Hid (l.sections.length = m) := hm
  clear hn hm
  have D : Hid (∀ W, Calls Tryz.prog 72 #[.int .i64 n, .int .i64 1, .int .i64 5] W fun e w' => e = .returned (.bool (decide ((1 : Int) ≤ (n : Int) ∧ (n : Int) ≤ 5))) ∧ w' = W) := fun W => isCount_any n 1 5 W
  by_cases hc : 1 ≤ n ∧ n ≤ 5
  · rw [decide_eq_true (show (1 : Int) ≤ (n : Int) ∧ (n : Int) ≤ 5 by omega)] at D
    rw [decide_eq_true hc, Bool.true_and]
    go_enter Tryz.func93, Tryz.ntmps93
    go_wp2_with (go_at_call 72; refine (D.out _).mono ?_; rintro e w1 ⟨rfl, hw1⟩; subst w1)
    clear D
    go_loop [5, 6, 13] (fun _ _ i => ∃ k : Nat, i = .int .i64 k ∧ k ≤ n ∧ ((pa.take k).Nodup ∧ ∀ y ∈ pa.take k, 0 ≤ y ∧ y < l.sections.length)) (fun _ _ i => n - (intOf i).toNat)
    case atStart => exact ⟨0, rfl, by omega, by simp⟩
    case round =>
      obtain ⟨k, rfl, hk, hc⟩ := hrel
      have HC : Hid ((pa.take k).Nodup ∧ ∀ y ∈ pa.take k, 0 ≤ y ∧ y < l.sections.length) := hc
      clear hc
      by_cases hlt : k < n
      · obtain ⟨x, hx⟩ : ∃ x, pa[k]? = some x := ⟨pa[k]'(by rw [HN.out]; exact hlt), List.getElem?_eq_getElem _⟩
        obtain ⟨g, off, rfl, hcell⟩ := H2.out k x hx
        have c0 := hcell 0 _ rfl
        simp only [Nat.mul_one, Nat.add_zero] at c0
        have hki : (k : Int) < (n : Int) := by omega
        have hkc : k ≤ cap := by omega
        have HX : Hid (pa[k]? = some x) := hx
        have C := fun W => isPlace_any x m W
        clear hcell hx
        by_cases hp : 0 ≤ x ∧ x < (m : Int)
        · rw [decide_eq_true hp] at C
          have HP : Hid (0 ≤ x ∧ x < (m : Int)) := hp
          clear hp
          have IN : Hid (Calls Tryz.prog 69 #[.slice (some ⟨g, off, none⟩) k cap, .int .i64 x] w fun e w' => e = .returned (.bool (inB (pa.take k) x)) ∧ w' = w) :=
            containsI_any _ (pa.take k) x _ (row_take HR.out k (by rw [HN.out]; omega) cap) (by rw [List.length_take]; omega)
          cases hin : inB (pa.take k) x
          · rw [hin] at IN
            have HIN : Hid (inB (pa.take k) x = false) := hin
            clear hin
            go_wp2_with (first | (go_at_call 78; refine (C _).mono ?_; rintro e w' ⟨rfl, rfl⟩) | (go_at_call 69; refine IN.out.mono ?_; rintro e w' ⟨rfl, rfl⟩))
            go_round
            case rel => exact ⟨k + 1, by go_num, by omega, path_more HX.out HC.out (by rw [HM.out]; exact HP.out) HIN.out⟩
            case measure => simp [intOf]; omega
          · rw [hin] at IN
            have HF : Hid (pathB l pa = false) := path_no HX.out (.inr hin)
            clear hin
            go_wp2_with (first | (go_at_call 78; refine (C _).mono ?_; rintro e w' ⟨rfl, rfl⟩) | (go_at_call 69; refine IN.out.mono ?_; rintro e w' ⟨rfl, rfl⟩))
            go_ret
            exact ⟨ret_bool HF.out.symm, rfl⟩
        · rw [decide_eq_false hp] at C
          have HF : Hid (pathB l pa = false) := path_no HX.out (.inl (by rw [HM.out]; exact hp))
          clear hp
          go_wp2_with (go_at_call 78; refine (C _).mono ?_; rintro e w' ⟨rfl, rfl⟩)
          go_ret
          exact ⟨ret_bool HF.out.symm, rfl⟩
      · have HF : Hid (pathB l pa = true) := by
          have := HC.out
          rw [List.take_of_length_le (by rw [HN.out]; omega)] at this
          exact decide_eq_true this
        go_wp2
        go_ret
        exact ⟨ret_bool HF.out.symm, rfl⟩
  · rw [decide_eq_false (show ¬ ((1 : Int) ≤ (n : Int) ∧ (n : Int) ≤ 5) by omega)] at D
    rw [decide_eq_false hc, Bool.false_and]
    go_enter Tryz.func93, Tryz.ntmps93
    go_wp2_with (go_at_call 72; refine (D.out _).mono ?_; rintro e w1 ⟨rfl, hw1⟩; subst w1)
    go_ret
    exact ⟨rfl, rfl⟩

theorem beside_no {l : Lay} {path : List Int} {pr : Option Int} {p : Int} (h : p ≤ pr.getD (-1)) : needOk l path false pr p = false := by
  cases pr with
  | none => rw [needOk, decide_eq_false (by simp at h; omega), Bool.false_and]
  | some q => rw [needOk, prevB, decide_eq_false (show ¬ q < p by simp at h; omega), Bool.false_and, Bool.and_false]
theorem beside_prev {pr : Option Int} {p : Int} (h : ¬ p ≤ pr.getD (-1)) : prevB pr p = true := by
  cases pr with
  | none => rfl
  | some q => exact decide_eq_true (by simp at h; omega)

set_option maxRecDepth 1000000 in
set_option maxHeartbeats 4000000 in
theorem isBeside_any (v : Nat → Value) (l : Lay) (rs : List RtV) (u p : Value) (ns : List (Int × Bool)) (path : List Int) (w : World) (h : LayRd w v l rs) (hu : rowAt w u 2 nC ns) (hp : rowAt w p 1 iC path)
    (hn : ns.length ≤ 4294967296) (hq : path.length ≤ 4294967296) (_ : l.points.length ≤ 4294967296) :
    Calls Tryz.prog 96 #[u, .agg #[v 0, v 1, v 2, v 3], p] w fun e w' => e = .returned (.bool (needsF l path false none ns)) ∧ Below w.heap.size w w' := by
  obtain ⟨o0, c0, e0, _⟩ := h.s
  obtain ⟨o1, c1, e1, r1⟩ := h.p
  obtain ⟨o2, c2, e2, _⟩ := h.g
  obtain ⟨o3, c3, e3, _⟩ := h.r
  obtain ⟨ou, cu, rfl, ru⟩ := hu
  obtain ⟨op, cp, rfl, rp⟩ := hp
  have HP : Hid (rowAt w (.slice op path.length cp) 1 iC path) := ⟨op, cp, rfl, rp⟩
  have S := BoxAt.start w v
  have R1 : Hid (∀ j x, l.points[j]? = some x → ∃ g off, o1 = some ⟨g, off, none⟩ ∧ ∀ i u, (pC x)[i]? = some u → w.cell? ⟨g, off + j * 2 + i, none⟩ = some u) := r1
  have RU : Hid (∀ j x, ns[j]? = some x → ∃ g off, ou = some ⟨g, off, none⟩ ∧ ∀ i u, (nC x)[i]? = some u → w.cell? ⟨g, off + j * 2 + i, none⟩ = some u) := ru
  have HV : Hid (v 0 = .slice o0 l.sections.length c0 ∧ v 1 = .slice o1 l.points.length c1 ∧ v 2 = .slice o2 l.signals.length c2 ∧ v 3 = .slice o3 rs.length c3) := ⟨e0, e1, e2, e3⟩
  rw [e0, e1, e2, e3] at S ⊢
  clear h r1 ru rp e0 e1 e2 e3
  generalize hs1 : l.points.length = n1 at *
  generalize hs0 : l.sections.length = n0 at *
  generalize hs2 : l.signals.length = n2 at *
  generalize hs3 : rs.length = n3 at *
  generalize hsu : ns.length = nu at *
  generalize hsp : path.length = np at *
  have HS1 : Hid (l.points.length = n1) := hs1
  have HSU : Hid (ns.length = nu) := hsu
  have HSP : Hid (path.length = np) := hsp
  clear hs0 hs1 hs2 hs3 hsu hsp
  go_enter Tryz.func96, Tryz.ntmps96
  go_wp2
  go_loopg [7, 9, 12] nu (fun gk la a i wr => ∃ (k : Nat) (q : Int), gk = nu - k ∧ k ≤ nu ∧ la = .int .i64 q ∧ i = .int .i64 k ∧ (-1 ≤ q) ∧ q = (prevOf ns k).getD (-1) ∧ needsF l path false (prevOf ns k) (ns.drop k) = needsF l path false none ns ∧ BoxAt w v wr)
  case atStart => exact ⟨0, -1, rfl, by omega, rfl, rfl, by omega, by simp [prevOf], by simp [prevOf], S⟩
  case round =>
    clear S
    obtain ⟨k, q, rfl, hk, rfl, rfl, hq1, hqp, hc, hbx⟩ := hrel
    have HQ : Hid (q = (prevOf ns k).getD (-1)) := hqp
    have HC : Hid (needsF l path false (prevOf ns k) (ns.drop k) = needsF l path false none ns) := hc
    have HBX : Hid (BoxAt w v wr) := hbx
    have hcc := hbx.cells
    have hbl := hbx.1
    have hsz := hbx.lt
    rw [HV.out.1, HV.out.2.1, HV.out.2.2.1, HV.out.2.2.2] at hcc
    obtain ⟨q0, q1, q2, q3⟩ := hcc
    clear hc hbx hqp
    by_cases hlt : k < nu
    · obtain ⟨⟨x, rv⟩, hx⟩ : ∃ x, ns[k]? = some x := ⟨ns[k]'(by rw [HSU.out]; exact hlt), List.getElem?_eq_getElem _⟩
      obtain ⟨g, off, rfl, hcell⟩ := RU.out k _ hx
      have a0 := hcell 0 _ rfl
      have a1 := hcell 1 _ rfl
      rw [Nat.add_zero] at a0
      have d0 := (hbl.cell (World.block_lt_of_cell? _ _ a0)).trans a0
      have d1 := (hbl.cell (World.block_lt_of_cell? _ _ a1)).trans a1
      have hki : (k : Int) < (nu : Int) := by omega
      rw [drop_at hx, needsF] at HC
      have HX : Hid (ns[k]? = some (x, rv)) := hx
      have z1 := fun o => (Below.cell (Below.alloc (Below.refl wr.heap.size wr) (Nat.le_refl _) o) (World.block_lt_of_cell? _ _ q1)).trans q1
      clear hcell a0 a1 hx q0 q2 q3
      have STOP : Hid (needOk l path false (prevOf ns k) x = false → needsF l path false none ns = false) := fun hno => by
        have := HC.out
        rw [hno, Bool.false_and] at this
        exact this.symm
      by_cases h0 : x ≤ q
      · have HF : Hid (needsF l path false none ns = false) := STOP.out (beside_no (by rw [← HQ.out]; exact h0))
        go_wp2
        go_ret
        exact ⟨ret_bool HF.out.symm, (HBX.out.step (by repeat' (with_reducible first | exact Below.refl _ _ | apply Below.setCell | apply Below.alloc | exact Nat.le_refl _))).1⟩
      · by_cases h1 : (n1 : Int) ≤ x
        · have HF : Hid (needsF l path false none ns = false) := STOP.out (by rw [needOk, HS1.out, decide_eq_false (by omega), Bool.false_and])
          go_wp2
          go_ret
          exact ⟨ret_bool HF.out.symm, (HBX.out.step (by repeat' (with_reducible first | exact Below.refl _ _ | apply Below.setCell | apply Below.alloc | exact Nat.le_refl _))).1⟩
        · obtain ⟨m, rfl⟩ : ∃ m : Nat, x = m := ⟨x.toNat, by omega⟩
          have hm1 : m < n1 := by omega
          obtain ⟨⟨pn, ps⟩, hpm⟩ : ∃ y, l.points[m]? = some y := ⟨l.points[m]'(by rw [HS1.out]; omega), List.getElem?_eq_getElem _⟩
          have hsec : secAt l m = ps := by rw [secAt, Int.toNat_natCast, hpm]; rfl
          obtain ⟨g1, off1, rfl, hc1⟩ := R1.out m _ hpm
          have b0 := hc1 1 _ rfl
          have b1 := (hbl.cell (World.block_lt_of_cell? _ _ b0)).trans b0
          have y1 := fun o => (Below.cell (Below.alloc (Below.refl wr.heap.size wr) (Nat.le_refl _) o) (World.block_lt_of_cell? _ _ b1)).trans b1
          have HIN : Hid (∀ W, Below wr.heap.size wr W → Calls Tryz.prog 69 #[.slice op np cp, .int .i64 ps] W fun e w' => e = .returned (.bool (inB path ps)) ∧ w' = W) := fun W hW => by
            have := containsI_any _ path ps W (HP.out.below (hbl.trans (hW.mono hbl.size))) (by rw [HSP.out]; exact hq)
            exact this
          have HRG : Hid (needOk l path false (prevOf ns k) m = !inB path ps) := by
            show _ = _
            rw [needOk, HS1.out, decide_eq_true (by omega), Bool.true_and, hsec, beside_prev (by rw [← HQ.out]; exact h0), Bool.true_and]
            cases inB path ps <;> rfl
          clear hc1 b0 hpm hsec
          cases hin : inB path ps
          · rw [hin] at HIN HRG
            have GO : Hid (needsF l path false (prevOf ns (k + 1)) (ns.drop (k + 1)) = needsF l path false none ns) := by
              have := HC.out
              rw [HRG.out] at this
              rw [← this, prevOf, if_neg (by omega), Nat.add_sub_cancel, HX.out]
              rfl
            have GP : Hid ((m : Int) = (prevOf ns (k + 1)).getD (-1)) := by
              show _ = _
              rw [prevOf, if_neg (by omega), Nat.add_sub_cancel, HX.out]
              rfl
            clear HC STOP HQ hin HRG
            go_wp2_with (go_at_call 69; refine (HIN.out _ (by repeat' (with_reducible first | exact Below.refl _ _ | apply Below.setCell | apply Below.alloc | exact Nat.le_refl _))).mono ?_; rintro e w1 ⟨rfl, rfl⟩)
            go_roundg (nu - (k + 1))
            case rel => exact ⟨k + 1, m, rfl, by omega, rfl, by go_num, by omega, GP.out, GO.out, HBX.out.step (by repeat' (with_reducible first | exact Below.refl _ _ | apply Below.setCell | apply Below.alloc | exact Nat.le_refl _))⟩
            case measure => omega
          · rw [hin] at HIN HRG
            have HF : Hid (needsF l path false none ns = false) := STOP.out HRG.out
            clear HC STOP HQ hin HRG
            go_wp2_with (go_at_call 69; refine (HIN.out _ (by repeat' (with_reducible first | exact Below.refl _ _ | apply Below.setCell | apply Below.alloc | exact Nat.le_refl _))).mono ?_; rintro e w1 ⟨rfl, rfl⟩)
            go_ret
            exact ⟨ret_bool HF.out.symm, (HBX.out.step (by repeat' (with_reducible first | exact Below.refl _ _ | apply Below.setCell | apply Below.alloc | exact Nat.le_refl _))).1⟩
    · have HF : Hid (needsF l path false none ns = true) := by
        have := HC.out
        rw [List.drop_of_length_le (by rw [HSU.out]; omega)] at this
        exact this.symm
      go_wp2
      go_ret
      exact ⟨ret_bool HF.out.symm, hbl⟩
end Go.Proofs.YtceebimgfajbcaaGreatDoor

namespace Go.Proofs.YtceebimgfajbcaaGreatDoor
open Go.RowKit

theorem hasAll1_any (a b : Int) (c : Bool) (w : World) :
    Calls Tryz.prog 107 #[.agg #[.int .i64 a, .bool c], .int .i64 b] w fun e w' => e = .returned (.bool (decide (a = b))) ∧ Below w.heap.size w w' := by
  go_enter Tryz.func107, Tryz.ntmps107
  go_wp2
  go_ret
  exact ⟨ret_bool (by rw [Bool.eq_iff_iff]; simp), by repeat' (with_reducible first | exact Below.refl _ _ | apply Below.setCell | apply Below.alloc | exact Nat.le_refl _)⟩

theorem eqF_step {ns : List (Int × Bool)} {ps : List Int} {k : Nat} {x : Int × Bool} {y : Int} (hx : ns[k]? = some x) (hy : ps[k]? = some y) (h : (ns.take k).map (·.1) = ps.take k) (he : x.1 = y) : (ns.take (k + 1)).map (·.1) = ps.take (k + 1) := by
  obtain ⟨h1, rfl⟩ := List.getElem?_eq_some_iff.1 hx
  obtain ⟨h2, rfl⟩ := List.getElem?_eq_some_iff.1 hy
  rw [List.take_succ_eq_append_getElem h1, List.take_succ_eq_append_getElem h2, List.map_append, h, ← he]
  rfl
theorem eqF_no {ns : List (Int × Bool)} {ps : List Int} {k : Nat} {x : Int × Bool} {y : Int} (hx : ns[k]? = some x) (hy : ps[k]? = some y) (he : ¬ x.1 = y) : eqF ns ps = false := by
  refine decide_eq_false fun h => he ?_
  rw [← h, List.getElem?_map, hx] at hy
  simpa using hy

set_option maxRecDepth 1000000 in
set_option maxHeartbeats 4000000 in
theorem equalFunc_any (v u : Value) (ns : List (Int × Bool)) (ps : List Int) (w : World) (h : rowAt w v 2 nC ns) (hu : rowAt w u 1 iC ps) (hn : ns.length ≤ 4294967296) :
    Calls Tryz.prog 106 #[v, u, .func (.func 107) #[] #[]] w fun e w' => e = .returned (.bool (eqF ns ps)) ∧ Below w.heap.size w w' := by
  obtain ⟨oa, cap, rfl, h2⟩ := h
  obtain ⟨ob, cbp, rfl, h3⟩ := hu
  have H2 : Hid (∀ j y, ns[j]? = some y → ∃ g off, oa = some ⟨g, off, none⟩ ∧ ∀ i u, (nC y)[i]? = some u → w.cell? ⟨g, off + j * 2 + i, none⟩ = some u) := h2
  have H3 : Hid (∀ j y, ps[j]? = some y → ∃ g off, ob = some ⟨g, off, none⟩ ∧ ∀ i u, (iC y)[i]? = some u → w.cell? ⟨g, off + j * 1 + i, none⟩ = some u) := h3
  clear h2 h3
  by_cases hlen : ns.length = ps.length
  · rw [← hlen]
    have HL : Hid (ns.length = ps.length) := hlen
    clear hlen
    generalize hsn : ns.length = n at *
    have HN : Hid (ns.length = n) := hsn
    clear hsn
    go_enter Tryz.func106, Tryz.ntmps106
    go_wp2
    go_loopg [7, 8, 9, 17] n (fun gk a b c i wr => ∃ k : Nat, gk = n - k ∧ k ≤ n ∧ i = .int .i64 k ∧ (ns.take k).map (·.1) = ps.take k ∧ Below w.heap.size w wr)
    case atStart => exact ⟨0, rfl, by omega, rfl, by simp, Below.refl _ _⟩
    case round =>
      obtain ⟨k, rfl, hk, rfl, hc, hbl⟩ := hrel
      have HC : Hid ((ns.take k).map (·.1) = ps.take k) := hc
      have hsz := hbl.size
      clear hc
      by_cases hlt : k < n
      · have hki : (k : Int) < (n : Int) := by omega
        obtain ⟨⟨x, rv⟩, hx⟩ : ∃ x, ns[k]? = some x := ⟨ns[k]'(by rw [HN.out]; exact hlt), List.getElem?_eq_getElem _⟩
        obtain ⟨y, hy⟩ : ∃ y, ps[k]? = some y := ⟨ps[k]'(by rw [← HL.out]; exact hlt), List.getElem?_eq_getElem _⟩
        obtain ⟨g, off, rfl, hcell⟩ := H2.out k _ hx
        obtain ⟨g1, off1, rfl, hcell1⟩ := H3.out k _ hy
        have a0 := hcell 0 _ rfl
        have a1 := hcell 1 _ rfl
        have b0 := hcell1 0 _ rfl
        rw [Nat.add_zero] at a0
        simp only [Nat.mul_one, Nat.add_zero] at b0
        have d0 := (hbl.cell (World.block_lt_of_cell? _ _ a0)).trans a0
        have d1 := (hbl.cell (World.block_lt_of_cell? _ _ a1)).trans a1
        have d2 := (hbl.cell (World.block_lt_of_cell? _ _ b0)).trans b0
        have z2 := fun o => (Below.cell (Below.alloc (Below.refl wr.heap.size wr) (Nat.le_refl _) o) (World.block_lt_of_cell? _ _ d2)).trans d2
        have HX : Hid (ns[k]? = some (x, rv)) := hx
        have HY : Hid (ps[k]? = some y) := hy
        clear hcell hcell1 hx hy a0 a1 b0
        have CL : Hid (∀ W, Calls Tryz.prog 107 #[.agg #[.int .i64 x, .bool rv], .int .i64 y] W fun e w' => e = .returned (.bool (decide (x = y))) ∧ Below W.heap.size W w') := fun W => hasAll1_any x y rv W
        by_cases he : x = y
        · rw [decide_eq_true he] at CL
          have HE : Hid (x = y) := he
          clear he
          go_wp2_with fail
          refine (CL.out _).mono ?_
          rintro e w1 ⟨rfl, hb1⟩
          have hb0 : Below wr.heap.size wr w1 := Below.trans (by repeat' (with_reducible first | exact Below.refl _ _ | apply Below.setCell | apply Below.alloc | exact Nat.le_refl _)) (hb1.mono (by simp))
          have hb2 := hbl.trans (hb0.mono hbl.size)
          clear hb1 hb0
          go_wp2
          go_roundg (n - (k + 1))
          case rel => exact ⟨k + 1, rfl, by omega, by go_num, eqF_step HX.out HY.out HC.out HE.out, hb2⟩
          case measure => omega
        · rw [decide_eq_false he] at CL
          have HF : Hid (eqF ns ps = false) := eqF_no HX.out HY.out he
          clear he
          go_wp2_with fail
          refine (CL.out _).mono ?_
          rintro e w1 ⟨rfl, hb1⟩
          have hb0 : Below wr.heap.size wr w1 := Below.trans (by repeat' (with_reducible first | exact Below.refl _ _ | apply Below.setCell | apply Below.alloc | exact Nat.le_refl _)) (hb1.mono (by simp))
          have hb2 := hbl.trans (hb0.mono hbl.size)
          clear hb1 hb0
          go_wp2
          go_ret
          exact ⟨ret_bool HF.out.symm, hb2⟩
      · have HF : Hid (eqF ns ps = true) := by
          have := HC.out
          rw [List.take_of_length_le (by rw [HN.out]; omega), List.take_of_length_le (by rw [← HL.out]; omega)] at this
          exact decide_eq_true this
        go_wp2
        go_ret
        exact ⟨ret_bool HF.out.symm, hbl⟩
  · have HF : Hid (eqF ns ps = false) := decide_eq_false fun h => hlen (by rw [← h, List.length_map])
    have hne : ¬ ((ns.length : Int) = (ps.length : Int)) := by omega
    generalize ns.length = n at *
    generalize ps.length = m at *
    clear hlen
    go_enter Tryz.func106, Tryz.ntmps106
    go_wp2
    go_ret
    exact ⟨ret_bool HF.out.symm, Below.refl _ _⟩

theorem hasAll_any (v u : Value) (ns : List (Int × Bool)) (ps : List Int) (w : World) (h : rowAt w v 2 nC ns) (hu : rowAt w u 1 iC ps) (hn : ns.length ≤ 4294967296) :
    Calls Tryz.prog 94 #[v, u] w fun e w' => e = .returned (.bool (eqF ns ps)) ∧ Below w.heap.size w w' := by
  have C := equalFunc_any v u ns ps w h hu hn
  generalize eqF ns ps = b at *
  clear h hu
  go_enter Tryz.func94, Tryz.ntmps94
  go_wp2_with fail
  refine C.mono ?_
  rintro e w1 ⟨rfl, hb⟩
  go_wp2
  go_ret
  exact ⟨rfl, hb⟩
end Go.Proofs.YtceebimgfajbcaaGreatDoor

namespace Go.Proofs.YtceebimgfajbcaaGreatDoor
open Go.RowKit

def memB (l : List ByteArray) (x : ByteArray) : Bool := l.any fun y => decide (x = y)
theorem memB_iff (l : List ByteArray) (x : ByteArray) : memB l x = true ↔ x ∈ l := by
  rw [memB, List.any_eq_true]
  constructor
  · rintro ⟨y, hy, e⟩
    rw [of_decide_eq_true e]
    exact hy
  · intro h
    exact ⟨x, h, decide_eq_true rfl⟩
theorem idxF_any (x : ByteArray) : ∀ (l : List ByteArray) (k : Nat), decide (idxF x l k ≠ -1) = memB l x
  | [], _ => by simp [idxF, memB]
  | y :: l, k => by
    rw [idxF, memB, List.any_cons]
    by_cases h : x = y
    · rw [if_pos h, decide_eq_true h, Bool.true_or]
      exact decide_eq_true (by omega)
    · rw [if_neg h, decide_eq_false h, Bool.false_or, idxF_any x l (k + 1), memB]
theorem rowS_take {w : World} {o : Option Addr} {n c : Nat} {l : List ByteArray} (h : rowAt w (.slice o n c) 1 sC l) (k : Nat) (hk : k ≤ l.length) (c' : Nat) : rowAt w (.slice o k c') 1 sC (l.take k) := by
  obtain ⟨oa, cap, e, h2⟩ := h
  injection e with e1 e2 e3
  subst e1
  refine ⟨o, c', by rw [List.length_take, Nat.min_eq_left hk], fun j x hj => ?_⟩
  rw [List.getElem?_take] at hj
  split at hj
  · exact h2 j x hj
  · exact absurd hj (by simp)

set_option maxRecDepth 1000000 in
set_option maxHeartbeats 4000000 in
theorem areNames_any (v : Value) (l : List ByteArray) (w : World) (h : rowAt w v 1 sC l) (hcap : capOk v) (hl : l.length ≤ 4294967296) :
    Calls Tryz.prog 73 #[v] w fun e w' => e = .returned (.bool (namesB l)) ∧ Below w.heap.size w w' := by
  have h' := h
  obtain ⟨oa, cap, rfl, h2⟩ := h
  have hcn := hcap _ _ _ rfl
  have H2 : Hid (∀ j y, l[j]? = some y → ∃ g off, oa = some ⟨g, off, none⟩ ∧ ∀ i u, (sC y)[i]? = some u → w.cell? ⟨g, off + j * 1 + i, none⟩ = some u) := h2
  have HR : Hid (rowAt w (.slice oa l.length cap) 1 sC l) := h'
  clear h2 h' hcap
  generalize hn : l.length = n at *
  have HN : Hid (l.length = n) := hn
  clear hn
  go_enter Tryz.func73, Tryz.ntmps73
  go_wp2
  go_loopg [3, 4, 7] n (fun gk a b i wr => ∃ k : Nat, gk = n - k ∧ k ≤ n ∧ i = .int .i64 k ∧ ((l.take k).Nodup ∧ ∀ y ∈ l.take k, capB y = true) ∧ Below w.heap.size w wr)
  case atStart => exact ⟨0, rfl, by omega, rfl, by simp, Below.refl _ _⟩
  case round =>
    obtain ⟨k, rfl, hk, rfl, hc, o1⟩ := hrel
    have HC : Hid ((l.take k).Nodup ∧ ∀ y ∈ l.take k, capB y = true) := hc
    clear hc
    by_cases hlt : k < n
    · obtain ⟨y, hy⟩ : ∃ y, l[k]? = some y := ⟨l[k]'(by rw [HN.out]; exact hlt), List.getElem?_eq_getElem _⟩
      obtain ⟨g, off, rfl, hcell⟩ := H2.out k y hy
      have c0 := hcell 0 _ rfl
      simp only [Nat.mul_one, Nat.add_zero] at c0
      have c1 := (o1.cell (World.block_lt_of_cell? _ _ c0)).trans c0
      have hki : (k : Int) < (n : Int) := by omega
      have hkc : k ≤ cap := by omega
      have N := mayName_any y wr
      have HY : Hid (l[k]? = some y) := hy
      clear hcell c0 hy
      cases hcap : capB y
      · rw [hcap] at N
        have HF : Hid (namesB l = false) := by
          refine decide_eq_false fun hh => ?_
          have := hh.2 y (List.mem_of_getElem? HY.out)
          rw [hcap] at this
          exact absurd this (by simp)
        go_wp2_with (go_at_call 91; refine N.mono ?_; rintro e w1 ⟨rfl, hb1⟩)
        go_ret
        exact ⟨ret_bool HF.out.symm, o1.trans (hb1.mono o1.size)⟩
      · rw [hcap] at N
        have HCP : Hid (capB y = true) := hcap
        clear hcap
        have C : Hid (∀ W, Below wr.heap.size wr W → Calls Tryz.prog 92 #[.slice (some ⟨g, off, none⟩) k cap, .string y] W fun e w' => e = .returned (.bool (memB (l.take k) y)) ∧ w' = W) := fun W hW => by
          have := contains_any (.slice (some ⟨g, off, none⟩) k cap) (l.take k) y W (rowS_take (HR.out.below (o1.trans (hW.mono o1.size))) k (by rw [HN.out]; omega) cap) (by rw [List.length_take]; omega)
          rw [show decide (idx (l.take k) y ≠ -1) = memB (l.take k) y from idxF_any y (l.take k) 0] at this
          exact this
        by_cases hin : y ∈ l.take k
        · have HF : Hid (namesB l = false) := by
            refine decide_eq_false fun hh => ?_
            obtain ⟨j, hj⟩ := List.getElem?_of_mem hin
            rw [List.getElem?_take] at hj
            split at hj
            · exact not_nodup hj HY.out (by assumption) hh.1
            · exact absurd hj (by simp)
          rw [(memB_iff _ _).2 hin] at C
          clear hin
          go_wp2_with (first | (go_at_call 91; refine N.mono ?_; rintro e w1 ⟨rfl, hb1⟩) | (go_at_call 92; refine (C.out _ hb1).mono ?_; rintro e w2 ⟨rfl, rfl⟩))
          go_ret
          exact ⟨ret_bool HF.out.symm, o1.trans (hb1.mono o1.size)⟩
        · rw [show memB (l.take k) y = false from by cases hh : memB (l.take k) y; rfl; exact absurd ((memB_iff _ _).1 hh) hin] at C
          have HIN : Hid (¬ y ∈ l.take k) := hin
          clear hin
          go_wp2_with (first | (go_at_call 91; refine N.mono ?_; rintro e w1 ⟨rfl, hb1⟩) | (go_at_call 92; refine (C.out _ hb1).mono ?_; rintro e w2 ⟨rfl, rfl⟩))
          have o2 := o1.trans (hb1.mono o1.size)
          go_roundg (n - (k + 1))
          case rel => exact ⟨k + 1, rfl, by omega, by go_num, names_more HY.out HC.out HCP.out HIN.out, o2⟩
          case measure => omega
    · have HF : Hid (namesB l = true) := by
        have := HC.out
        rw [List.take_of_length_le (by rw [HN.out]; omega)] at this
        exact decide_eq_true this
      go_wp2
      go_ret
      exact ⟨ret_bool HF.out.symm, o1⟩
end Go.Proofs.YtceebimgfajbcaaGreatDoor

namespace Go.Proofs.YtceebimgfajbcaaGreatDoor
open Go.RowKit

theorem named1_any (a b : Value) (s : ByteArray) (w : World) (ha : a = .string s) :
    Calls Tryz.prog 75 #[.agg #[a, b]] w fun e w' => e = .returned (.string s) ∧ Below w.heap.size w w' := by
  subst ha
  go_enter Tryz.func75, Tryz.ntmps75
  go_wp2
  go_ret
  exact ⟨rfl, by repeat' (with_reducible first | exact Below.refl _ _ | apply Below.setCell | apply Below.alloc | exact Nat.le_refl _)⟩

theorem named2_any (a b c d e f : Value) (s : ByteArray) (w : World) (ha : a = .string s) :
    Calls Tryz.prog 77 #[.agg #[a, b, c, d, e, f]] w fun e w' => e = .returned (.string s) ∧ Below w.heap.size w w' := by
  subst ha
  go_enter Tryz.func77, Tryz.ntmps77
  go_wp2
  go_ret
  exact ⟨rfl, by repeat' (with_reducible first | exact Below.refl _ _ | apply Below.setCell | apply Below.alloc | exact Nat.le_refl _)⟩
/-- The names so far. -/
def nmAt (ns : List ByteArray) (k j : Nat) : ByteArray := if j < k then (ns[j]?).getD ⟨#[]⟩ else ⟨#[]⟩
theorem nmAt_next {ns : List ByteArray} {k : Nat} {x : ByteArray} (h : ns[k]? = some x) (j : Nat) : (if j = k then Value.string x else .string (nmAt ns k j)) = .string (nmAt ns (k + 1) j) := by
  by_cases hj : j = k
  · subst hj
    rw [if_pos rfl, nmAt, if_pos (by omega), h]
    rfl
  · rw [if_neg hj, nmAt, nmAt]
    by_cases hlt : j < k
    · rw [if_pos hlt, if_pos (by omega)]
    · rw [if_neg hlt, if_neg (by omega)]
theorem row_of_is {w : World} {b n : Nat} {ns : List ByteArray} (h : w.rowIs b 9 n (fun j => .string (nmAt ns n j))) (hn : ns.length = n) : rowAt w (.slice (some ⟨b, 0, none⟩) n n) 1 sC ns := by
  refine ⟨some ⟨b, 0, none⟩, n, by rw [hn], fun j x hj => ⟨b, 0, rfl, fun i u hu => ?_⟩⟩
  have hjn : j < n := by rw [← hn]; exact (List.getElem?_eq_some_iff.1 hj).1
  have := h.cell hjn
  match i, hu with
  | 0, hu =>
    rw [show sC x = [.string x] from rfl] at hu
    simp at hu
    subst hu
    rw [show 0 + j * 1 + 0 = j by omega, this, nmAt, if_pos hjn, hj]
    rfl
  | i + 1, hu => simp [sC] at hu

set_option maxRecDepth 1000000 in
set_option maxHeartbeats 4000000 in
theorem namesOfP_any (v : Value) (l : List (ByteArray × Int)) (w : World) (h : rowAt w v 2 pC l) (hl : l.length ≤ 4294967296) :
    Calls Tryz.prog 74 #[v, .func (.func 75) #[] #[]] w fun e w' => ∃ u, e = .returned u ∧ rowAt w' u 1 sC (l.map (·.1)) ∧ capOk u ∧ Below w.heap.size w w' := by
  obtain ⟨oa, cap, rfl, h2⟩ := h
  have H2 : Hid (∀ j y, l[j]? = some y → ∃ g off, oa = some ⟨g, off, none⟩ ∧ ∀ i u, (pC y)[i]? = some u → w.cell? ⟨g, off + j * 2 + i, none⟩ = some u) := h2
  clear h2
  generalize hn : l.length = n at *
  have HN : Hid (l.length = n) := hn
  clear hn
  have hmk := run_make_row' (P := Tryz.prog) 22 9 (.string ⟨#[]⟩) 16 Tryz.underlying22 infoS rfl .i64 .i64 n (by omega) (by omega)
  go_enter Tryz.func74, Tryz.ntmps74
  go_wp2
  clear hmk
  go_loopg [6, 7, 13] n (fun gk a b i wr => ∃ k : Nat, gk = n - k ∧ k ≤ n ∧ i = .int .i64 k ∧ wr.rowIs w.heap.size 9 n (fun j => .string (nmAt (l.map (·.1)) k j)) ∧ Below w.heap.size w wr)
  case atStart => exact ⟨0, rfl, by omega, rfl, (World.rowIs_made w (.string ⟨#[]⟩) n 9).congr (fun i _ => by rw [nmAt, if_neg (by omega)]), (Below.refl _ _).alloc (Nat.le_refl _) _⟩
  case round =>
    obtain ⟨k, rfl, hk, rfl, hrow, hbl⟩ := hrel
    have HROW : Hid (wr.rowIs w.heap.size 9 n (fun j => .string (nmAt (l.map (·.1)) k j))) := hrow
    have hsz := hrow.lt
    clear hrow
    by_cases hlt : k < n
    · have hki : (k : Int) < (n : Int) := by omega
      obtain ⟨⟨nm, sc⟩, hx⟩ : ∃ x, l[k]? = some x := ⟨l[k]'(by rw [HN.out]; exact hlt), List.getElem?_eq_getElem _⟩
      obtain ⟨g, off, rfl, hcell⟩ := H2.out k _ hx
      have a0 := hcell 0 _ rfl
      have a1 := hcell 1 _ rfl
      rw [Nat.add_zero] at a0
      have d0 := (hbl.cell (World.block_lt_of_cell? _ _ a0)).trans a0
      have d1 := (hbl.cell (World.block_lt_of_cell? _ _ a1)).trans a1
      have HX : Hid ((l.map (·.1))[k]? = some nm) := by show _ = _; rw [List.getElem?_map, hx]; rfl
      have CL : Hid (∀ W, Calls Tryz.prog 75 #[.agg #[.string nm, .int .i64 sc]] W fun e w' => e = .returned (.string nm) ∧ Below W.heap.size W w') := fun W => named1_any _ _ nm W rfl
      clear a0 a1
      clear hcell hx
      go_wp2_with fail
      refine (CL.out _).mono ?_
      rintro e w1 ⟨rfl, hb1⟩
      have hb0 : Below wr.heap.size wr w1 := Below.trans (by repeat' (with_reducible first | exact Below.refl _ _ | apply Below.setCell | apply Below.alloc | exact Nat.le_refl _)) (hb1.mono (by simp))
      have hrow1 : w1.rowIs w.heap.size 9 n (fun j => .string (nmAt (l.map (·.1)) k j)) := HROW.out.of_block (hb0.block _ hsz)
      have HR1 : Hid (w1.rowIs w.heap.size 9 n (fun j => .string (nmAt (l.map (·.1)) k j))) := hrow1
      have r0 := hrow1.cell hlt
      have r1 := hrow1.frozen k
      have hb2 := hbl.trans (hb0.mono hbl.size)
      clear hb1 hb0 hrow1
      go_wp2
      go_roundg (n - (k + 1))
      case rel => exact ⟨k + 1, rfl, by omega, by go_num, (HR1.out.set k (.string nm)).congr (fun j _ => nmAt_next (HX.out) j), hb2.setCell (Nat.le_refl _) _⟩
      case measure => omega
    · have HE : Hid (rowAt wr (.slice (some ⟨w.heap.size, 0, none⟩) n n) 1 sC (l.map (·.1))) := by
        have hkn : k = n := by omega
        have := HROW.out
        rw [hkn] at this
        exact row_of_is this (by rw [List.length_map, HN.out])
      go_wp2
      go_ret
      exact ⟨_, rfl, HE.out, fun _ _ _ e => by injection e with e1 e2 e3; omega, hbl⟩

set_option maxRecDepth 1000000 in
set_option maxHeartbeats 4000000 in
theorem namesOfR_any (v : Value) (l : List RtV) (w : World) (h : rowAt w v 6 rC l) (hx : ∀ x ∈ l, RtAt w x) (hl : l.length ≤ 4294967296) :
    Calls Tryz.prog 76 #[v, .func (.func 77) #[] #[]] w fun e w' => ∃ u, e = .returned u ∧ rowAt w' u 1 sC (l.map (·.1.name)) ∧ capOk u ∧ Below w.heap.size w w' := by
  obtain ⟨oa, cap, rfl, h2⟩ := h
  have H2 : Hid (∀ j y, l[j]? = some y → ∃ g off, oa = some ⟨g, off, none⟩ ∧ ∀ i u, (rC y)[i]? = some u → w.cell? ⟨g, off + j * 6 + i, none⟩ = some u) := h2
  have HA : Hid (∀ x ∈ l, RtAt w x) := hx
  clear hx
  clear h2
  generalize hn : l.length = n at *
  have HN : Hid (l.length = n) := hn
  clear hn
  have hmk := run_make_row' (P := Tryz.prog) 22 9 (.string ⟨#[]⟩) 16 Tryz.underlying22 infoS rfl .i64 .i64 n (by omega) (by omega)
  go_enter Tryz.func76, Tryz.ntmps76
  go_wp2
  clear hmk
  go_loopg [6, 7, 13] n (fun gk a b i wr => ∃ k : Nat, gk = n - k ∧ k ≤ n ∧ i = .int .i64 k ∧ wr.rowIs w.heap.size 9 n (fun j => .string (nmAt (l.map (·.1.name)) k j)) ∧ Below w.heap.size w wr)
  case atStart => exact ⟨0, rfl, by omega, rfl, (World.rowIs_made w (.string ⟨#[]⟩) n 9).congr (fun i _ => by rw [nmAt, if_neg (by omega)]), (Below.refl _ _).alloc (Nat.le_refl _) _⟩
  case round =>
    obtain ⟨k, rfl, hk, rfl, hrow, hbl⟩ := hrel
    have HROW : Hid (wr.rowIs w.heap.size 9 n (fun j => .string (nmAt (l.map (·.1.name)) k j))) := hrow
    have hsz := hrow.lt
    clear hrow
    by_cases hlt : k < n
    · have hki : (k : Int) < (n : Int) := by omega
      obtain ⟨⟨⟨nm, fr, tt, pa, po, fl⟩, v3, v4, v5⟩, hx⟩ : ∃ x, l[k]? = some x := ⟨l[k]'(by rw [HN.out]; exact hlt), List.getElem?_eq_getElem _⟩
      obtain ⟨⟨p3, k3, f3, _⟩, ⟨p4, k4, f4, _⟩, ⟨p5, k5, f5, _⟩⟩ := HA.out _ (List.mem_of_getElem? hx)
      simp only at f3 f4 f5
      subst f3 f4 f5
      generalize pa.length = n3 at *
      generalize po.length = n4 at *
      generalize fl.length = n5 at *
      obtain ⟨g, off, rfl, hcell⟩ := H2.out k _ hx
      have up : ∀ {p : Addr} {u : Value}, w.cell? p = some u → wr.cell? p = some u := fun h => (hbl.cell (World.block_lt_of_cell? _ _ h)).trans h
      have d0 := up (hcell 0 _ rfl)
      have d1 := up (hcell 1 _ rfl)
      have d2 := up (hcell 2 _ rfl)
      have d3 := up (hcell 3 _ rfl)
      have d4 := up (hcell 4 _ rfl)
      have d5 := up (hcell 5 _ rfl)
      rw [Nat.add_zero] at d0
      clear up
      have HX : Hid ((l.map (·.1.name))[k]? = some nm) := by show _ = _; rw [List.getElem?_map, hx]; rfl
      have CL : Hid (∀ W, Calls Tryz.prog 77 #[.agg #[.string nm, .int .i64 fr, .int .i64 tt, .slice p3 n3 k3, .slice p4 n4 k4, .slice p5 n5 k5]] W fun e w' => e = .returned (.string nm) ∧ Below W.heap.size W w') := fun W => named2_any _ _ _ _ _ _ nm W rfl
      clear hcell hx
      go_wp2_with fail
      refine (CL.out _).mono ?_
      rintro e w1 ⟨rfl, hb1⟩
      have hb0 : Below wr.heap.size wr w1 := Below.trans (by repeat' (with_reducible first | exact Below.refl _ _ | apply Below.setCell | apply Below.alloc | exact Nat.le_refl _)) (hb1.mono (by simp))
      have hrow1 : w1.rowIs w.heap.size 9 n (fun j => .string (nmAt (l.map (·.1.name)) k j)) := HROW.out.of_block (hb0.block _ hsz)
      have HR1 : Hid (w1.rowIs w.heap.size 9 n (fun j => .string (nmAt (l.map (·.1.name)) k j))) := hrow1
      have r0 := hrow1.cell hlt
      have r1 := hrow1.frozen k
      have hb2 := hbl.trans (hb0.mono hbl.size)
      clear hb1 hb0 hrow1
      go_wp2
      go_roundg (n - (k + 1))
      case rel => exact ⟨k + 1, rfl, by omega, by go_num, (HR1.out.set k (.string nm)).congr (fun j _ => nmAt_next (HX.out) j), hb2.setCell (Nat.le_refl _) _⟩
      case measure => omega
    · have HE : Hid (rowAt wr (.slice (some ⟨w.heap.size, 0, none⟩) n n) 1 sC (l.map (·.1.name))) := by
        have hkn : k = n := by omega
        have := HROW.out
        rw [hkn] at this
        exact row_of_is this (by rw [List.length_map, HN.out])
      go_wp2
      go_ret
      exact ⟨_, rfl, HE.out, fun _ _ _ e => by injection e with e1 e2 e3; omega, hbl⟩
end Go.Proofs.YtceebimgfajbcaaGreatDoor

namespace Go.Proofs.YtceebimgfajbcaaGreatDoor
open Go.RowKit

set_option maxRecDepth 1000000 in
set_option maxHeartbeats 4000000 in
theorem isNamed_any (v : Nat → Value) (l : Lay) (rs : List RtV) (w : World) (h : LayRd w v l rs) (hc0 : capOk (v 0)) (hc2 : capOk (v 2)) (hm : l.sections.length ≤ 4294967296 ∧ l.points.length ≤ 4294967296 ∧ l.signals.length ≤ 4294967296 ∧ l.routes.length ≤ 4294967296) :
    Calls Tryz.prog 52 #[.agg #[v 0, v 1, v 2, v 3]] w fun e w' => e = .returned (.bool (namesAll l)) ∧ Below w.heap.size w w' := by
  have hlr : rs.length = l.routes.length := by rw [← h.m, List.length_map]
  have hmr : rs.map (·.1.name) = l.routes.map (·.name) := by rw [← h.m, List.map_map]; rfl
  have N0 : Hid (∀ W, Below w.heap.size w W → Calls Tryz.prog 73 #[v 0] W fun e w' => e = .returned (.bool (namesB l.sections)) ∧ Below W.heap.size W w') := fun W hW => areNames_any _ _ W (h.s.below hW) hc0 hm.1
  have N2 : Hid (∀ W, Below w.heap.size w W → Calls Tryz.prog 73 #[v 2] W fun e w' => e = .returned (.bool (namesB l.signals)) ∧ Below W.heap.size W w') := fun W hW => areNames_any _ _ W (h.g.below hW) hc2 hm.2.2.1
  have NP : Hid (∀ W, Below w.heap.size w W → Calls Tryz.prog 74 #[v 1, .func (.func 75) #[] #[]] W fun e w' => ∃ u, e = .returned u ∧ rowAt w' u 1 sC (l.points.map (·.1)) ∧ capOk u ∧ Below W.heap.size W w') := fun W hW => namesOfP_any _ _ W (h.p.below hW) hm.2.1
  have NR : Hid (∀ W, Below w.heap.size w W → Calls Tryz.prog 76 #[v 3, .func (.func 77) #[] #[]] W fun e w' => ∃ u, e = .returned u ∧ rowAt w' u 1 sC (l.routes.map (·.name)) ∧ capOk u ∧ Below W.heap.size W w') := fun W hW => by
    have := namesOfR_any _ _ W (h.r.below hW) (fun x hx => (h.x x hx).below hW) (by rw [hlr]; exact hm.2.2.2)
    rw [hmr] at this
    exact this
  have AP : Hid (∀ u W, rowAt W u 1 sC (l.points.map (·.1)) → capOk u → Calls Tryz.prog 73 #[u] W fun e w' => e = .returned (.bool (namesB (l.points.map (·.1)))) ∧ Below W.heap.size W w') := fun u W hr hc => areNames_any _ _ W hr hc (by rw [List.length_map]; exact hm.2.1)
  have AR : Hid (∀ u W, rowAt W u 1 sC (l.routes.map (·.name)) → capOk u → Calls Tryz.prog 73 #[u] W fun e w' => e = .returned (.bool (namesB (l.routes.map (·.name)))) ∧ Below W.heap.size W w') := fun u W hr hc => areNames_any _ _ W hr hc (by rw [List.length_map]; exact hm.2.2.2)
  obtain ⟨o0, c0, e0, _⟩ := h.s
  obtain ⟨o1, c1, e1, _⟩ := h.p
  obtain ⟨o2, c2, e2, _⟩ := h.g
  obtain ⟨o3, c3, e3, _⟩ := h.r
  have S := BoxAt.start w v
  have hcc := S.cells
  have HV : Hid (v 0 = .slice o0 l.sections.length c0 ∧ v 1 = .slice o1 l.points.length c1 ∧ v 2 = .slice o2 l.signals.length c2 ∧ v 3 = .slice o3 rs.length c3) := ⟨e0, e1, e2, e3⟩
  rw [e0, e1, e2, e3] at S hcc ⊢
  rw [e0] at N0
  rw [e2] at N2
  rw [e1] at NP
  rw [e3] at NR
  clear h hc0 hc2 hm e0 e1 e2 e3 hlr hmr
  have HNA : Hid (namesAll l = (namesB l.sections && (namesB l.signals && (namesB (l.points.map (·.1)) && namesB (l.routes.map (·.name)))))) := rfl
  generalize namesAll l = NA at *
  generalize namesB l.sections = b0 at *
  generalize namesB l.signals = b1 at *
  generalize hpn : l.points.map (·.1) = pns at *
  generalize hrn : l.routes.map (·.name) = rns at *
  generalize namesB pns = b2 at *
  generalize namesB rns = b3 at *
  clear hpn hrn
  generalize l.sections.length = n0 at *
  generalize l.points.length = n1 at *
  generalize l.signals.length = n2 at *
  generalize rs.length = n3 at *
  obtain ⟨q0, q1, q2, q3⟩ := hcc
  have SB : Hid (BoxAt w v (w.alloc (.cells #[.slice o0 n0 c0, .slice o1 n1 c1, .slice o2 n2 c2, .slice o3 n3 c3] 26))) := S
  clear S
  go_enter Tryz.func52, Tryz.ntmps52
  go_wp2_with fail
  refine (N0.out _ SB.out.1).mono ?_
  rintro e y0 ⟨rfl, k0⟩
  have B0 : Hid (BoxAt w v y0) := SB.out.step k0
  clear SB k0 q0 q1 q2 q3 N0
  cases b0
  · go_wp2
    go_ret
    exact ⟨ret_bool (by rw [HNA.out]; rfl), B0.out.1⟩
  have hcc := B0.out.cells
  rw [HV.out.1, HV.out.2.1, HV.out.2.2.1, HV.out.2.2.2] at hcc
  obtain ⟨q0, q1, q2, q3⟩ := hcc
  go_wp2_with fail
  refine (N2.out _ B0.out.1).mono ?_
  rintro e y1 ⟨rfl, k1⟩
  have B1 : Hid (BoxAt w v y1) := B0.out.step k1
  clear B0 k1 q0 q1 q2 q3 N2
  cases b1
  · go_wp2
    go_ret
    exact ⟨ret_bool (by rw [HNA.out]; rfl), B1.out.1⟩
  have hcc := B1.out.cells
  rw [HV.out.1, HV.out.2.1, HV.out.2.2.1, HV.out.2.2.2] at hcc
  obtain ⟨q0, q1, q2, q3⟩ := hcc
  go_wp2_with fail
  refine (NP.out _ B1.out.1).mono ?_
  rintro e y2 ⟨u2, rfl, r2, k2c, k2⟩
  go_wp2_with fail
  refine (AP.out _ _ r2 k2c).mono ?_
  rintro e y3 ⟨rfl, k3⟩
  have B3 : Hid (BoxAt w v y3) := (B1.out.step k2).step k3
  clear B1 k2 k3 q0 q1 q2 q3 NP AP r2 k2c
  cases b2
  · go_wp2
    go_ret
    exact ⟨ret_bool (by rw [HNA.out]; rfl), B3.out.1⟩
  have hcc := B3.out.cells
  rw [HV.out.1, HV.out.2.1, HV.out.2.2.1, HV.out.2.2.2] at hcc
  obtain ⟨q0, q1, q2, q3⟩ := hcc
  go_wp2_with fail
  refine (NR.out _ B3.out.1).mono ?_
  rintro e y4 ⟨u4, rfl, r4, k4c, k4⟩
  go_wp2_with fail
  refine (AR.out _ _ r4 k4c).mono ?_
  rintro e y5 ⟨rfl, k5⟩
  have B5 : Hid (BoxAt w v y5) := (B3.out.step k4).step k5
  clear B3 k4 k5 q0 q1 q2 q3 NR AR r4 k4c
  go_wp2
  go_ret
  exact ⟨ret_bool (by rw [HNA.out]; cases b3 <;> rfl), B5.out.1⟩
end Go.Proofs.YtceebimgfajbcaaGreatDoor

namespace Go.Proofs.YtceebimgfajbcaaGreatDoor
open Go.RowKit

theorem routeB_parts (l : Lay) (r : Rt) : routeB l r = (decide ((0 : Int) ≤ r.frm ∧ r.frm < (l.signals.length : Nat)) && (decide ((0 : Int) ≤ r.to ∧ r.to < (l.signals.length : Nat)) && (decide (r.frm ≠ r.to) && ((decide (1 ≤ r.path.length ∧ r.path.length ≤ 5) && pathB l r.path) && (eqF r.points (ptsF r.path l.points 0) && needsF l r.path false none r.flank))))) := by
  rw [routeB, headB, restB, eqF_rest]
  generalize pathB l r.path = a
  generalize needsF l r.path false none r.flank = b
  generalize decide (r.points.length = countIn r.path l.points) = c
  generalize needsF l r.path true none r.points = d
  rw [Bool.eq_iff_iff]
  simp only [Bool.and_eq_true, decide_eq_true_eq]
  constructor
  · rintro ⟨⟨h1, h2, h3, h4⟩, h5, h6, h7, h8⟩
    exact ⟨h1, h2, h3, ⟨h4, h5⟩, ⟨h6, h7⟩, h8⟩
  · rintro ⟨h1, h2, h3, ⟨h4, h5⟩, ⟨h6, h7⟩, h8⟩
    exact ⟨⟨h1, h2, h3, h4⟩, h5, h6, h7, h8⟩

set_option maxRecDepth 1000000 in
set_option maxHeartbeats 16000000 in
theorem isWay_any (v : Nat → Value) (l : Lay) (rs : List RtV) (r : RtV) (w : World) (h : LayRd w v l rs) (hr : RtAt w r) (hcap : capOk r.2.1) (hm : l.points.length ≤ 4294967296 ∧ r.1.path.length ≤ 4294967296 ∧ r.1.points.length ≤ 4294967296 ∧ r.1.flank.length ≤ 4294967296) :
    Calls Tryz.prog 79 #[.agg #[v 0, v 1, v 2, v 3], .agg #[.string r.1.name, .int .i64 r.1.frm, .int .i64 r.1.to, r.2.1, r.2.2.1, r.2.2.2]] w fun e w' => e = .returned (.bool (routeB l r.1)) ∧ Below w.heap.size w w' := by
  obtain ⟨⟨nm, fr, tt, pa, po, fl⟩, v3, v4, v5⟩ := r
  simp only at *
  obtain ⟨hr3, hr4, hr5⟩ := hr
  simp only at hr3 hr4 hr5
  have HB := routeB_parts l ⟨nm, fr, tt, pa, po, fl⟩
  simp only at HB
  have P0 : Hid (∀ W, Calls Tryz.prog 78 #[.int .i64 fr, .int .i64 (l.signals.length : Nat)] W fun e w' => e = .returned (.bool (decide ((0 : Int) ≤ fr ∧ fr < (l.signals.length : Nat)))) ∧ w' = W) := fun W => isPlace_any _ _ W
  have P1 : Hid (∀ W, Calls Tryz.prog 78 #[.int .i64 tt, .int .i64 (l.signals.length : Nat)] W fun e w' => e = .returned (.bool (decide ((0 : Int) ≤ tt ∧ tt < (l.signals.length : Nat)))) ∧ w' = W) := fun W => isPlace_any _ _ W
  have PA : Hid (∀ W, Below w.heap.size w W → Calls Tryz.prog 93 #[v3, .int .i64 (l.sections.length : Nat)] W fun e w' => e = .returned (.bool (decide (1 ≤ pa.length ∧ pa.length ≤ 5) && pathB l pa)) ∧ w' = W) := fun W hW => isPath_any l v3 pa W (hr3.below hW) hcap hm.2.1
  have PT : Hid (∀ W, Below w.heap.size w W → Calls Tryz.prog 95 #[.agg #[v 0, v 1, v 2, v 3], v3] W fun e w' => ∃ u, e = .returned u ∧ rowAt w' u 1 iC (ptsF pa l.points 0) ∧ Below W.heap.size W w') := fun W hW => pointsIn_any v l rs v3 pa W (h.below hW) (hr3.below hW) hm.2.1 hm.1
  have HA : Hid (∀ u W, Below w.heap.size w W → rowAt W u 1 iC (ptsF pa l.points 0) → Calls Tryz.prog 94 #[v4, u] W fun e w' => e = .returned (.bool (eqF po (ptsF pa l.points 0))) ∧ Below W.heap.size W w') := fun u W hW hu => hasAll_any v4 u po _ W (hr4.below hW) hu hm.2.2.1
  have BE : Hid (∀ W, Below w.heap.size w W → Calls Tryz.prog 96 #[v5, .agg #[v 0, v 1, v 2, v 3], v3] W fun e w' => e = .returned (.bool (needsF l pa false none fl)) ∧ Below W.heap.size W w') := fun W hW => isBeside_any v l rs v5 v3 fl pa W (h.below hW) (hr5.below hW) (hr3.below hW) hm.2.2.2 hm.2.1 hm.1
  obtain ⟨o0, c0, e0, _⟩ := h.s
  obtain ⟨o1, c1, e1, _⟩ := h.p
  obtain ⟨o2, c2, e2, _⟩ := h.g
  obtain ⟨o3, c3, e3, _⟩ := h.r
  obtain ⟨p3, k3, f3, _⟩ := hr3
  obtain ⟨p4, k4, f4, _⟩ := hr4
  obtain ⟨p5, k5, f5, _⟩ := hr5
  have S := TwoAt.start w v #[.string nm, .int .i64 fr, .int .i64 tt, v3, v4, v5]
  have hsz1 : ((w.alloc (.cells #[v 0, v 1, v 2, v 3] 26)).alloc (.cells #[.string nm, .int .i64 fr, .int .i64 tt, v3, v4, v5] 66)).heap.size = w.heap.size + 2 := by simp
  have HV : Hid (v 0 = .slice o0 l.sections.length c0 ∧ v 1 = .slice o1 l.points.length c1 ∧ v 2 = .slice o2 l.signals.length c2 ∧ v 3 = .slice o3 rs.length c3) := ⟨e0, e1, e2, e3⟩
  rw [e0, e1, e2, e3, f3, f4, f5] at S hsz1 ⊢
  rw [f3] at PA
  rw [e0, e1, e2, e3, f3] at PT
  rw [f4] at HA
  rw [e0, e1, e2, e3, f3, f5] at BE
  clear h hcap hm e0 e1 e2 e3 f3 f4 f5
  generalize routeB l ⟨nm, fr, tt, pa, po, fl⟩ = B at *
  generalize hpts : ptsF pa l.points 0 = pts at *
  generalize (decide (1 ≤ pa.length ∧ pa.length ≤ 5) && pathB l pa) = b3 at *
  generalize eqF po pts = b4 at *
  generalize needsF l pa false none fl = b5 at *
  generalize l.sections.length = n0 at *
  generalize l.points.length = n1 at *
  generalize l.signals.length = n2 at *
  generalize rs.length = n3 at *
  generalize pa.length = np at *
  generalize po.length = nq at *
  generalize fl.length = nf at *
  generalize decide ((0 : Int) ≤ fr ∧ fr < (n2 : Nat)) = b0 at *
  generalize decide ((0 : Int) ≤ tt ∧ tt < (n2 : Nat)) = b1 at *
  have HBB : Hid (B = (b0 && (b1 && (decide (fr ≠ tt) && (b3 && (b4 && b5)))))) := HB
  clear HB hpts
  have TA : Hid (TwoAt w v #[.string nm, .int .i64 fr, .int .i64 tt, .slice p3 np k3, .slice p4 nq k4, .slice p5 nf k5] ((w.alloc (.cells #[.slice o0 n0 c0, .slice o1 n1 c1, .slice o2 n2 c2, .slice o3 n3 c3] 26)).alloc (.cells #[.string nm, .int .i64 fr, .int .i64 tt, .slice p3 np k3, .slice p4 nq k4, .slice p5 nf k5] 66))) := S
  clear S hsz1
  go_enter Tryz.func79, Tryz.ntmps79
  go_wp2_with fail
  generalize (w.alloc (.cells #[.slice o0 n0 c0, .slice o1 n1 c1, .slice o2 n2 c2, .slice o3 n3 c3] 26)).alloc (.cells #[.string nm, .int .i64 fr, .int .i64 tt, .slice p3 np k3, .slice p4 nq k4, .slice p5 nf k5] 66) = w1 at *
  have h2 := TA.out.1.cells
  rw [HV.out.1, HV.out.2.1, HV.out.2.2.1, HV.out.2.2.2] at h2
  have h3 := TA.out.six
  have x0 := ext_cell h2.1
  have x1 := ext_cell h2.2.1
  have x2 := ext_cell h2.2.2.1
  have x3 := ext_cell h2.2.2.2
  have y1 := ext_cell h3.2.1
  have y2 := ext_cell h3.2.2.1
  have y3 := ext_cell h3.2.2.2.1
  have y4 := ext_cell h3.2.2.2.2.1
  have y5 := ext_cell h3.2.2.2.2.2
  haveI := ext_some w1
  have HW : Hid (∀ W, Below w1.heap.size w1 W → Below w.heap.size w W) := fun W hW => TA.out.1.1.trans (hW.mono TA.out.1.1.size)
  have HB1 : Hid (Below w1.heap.size w1 w1.drew) := (Below.refl _ _).drew
  clear h2 h3
  refine wp_region_mix_lex (C := fun W => ∃ y : Ext w1, W = y.z) (by kernel_rfl) (by kernel_rfl) (by kernel_rfl) (by kernel_rfl) ⟨⟨_, (Below.refl _ _).drew⟩, rfl⟩ ?_
  (repeat (first
    | (with_reducible refine mix_read (by kernel_rfl) ?_; go_big_quiet_want; go_big_quiet_op; go_big_quiet_on; with_reducible refine wpQuiet_nil ?_)
    | (with_reducible refine mix_pass (by kernel_rfl) ?_; go_big_quiet_skip; with_reducible refine wpQuiet_nil ?_)))
  with_reducible refine mix_call (by kernel_rfl) (by kernel_rfl) ((P0.out _).mono ?_) (by kernel_rfl)
  rintro e w' ⟨rfl, rfl⟩
  refine ⟨_, rfl, ⟨⟨_, HB1.out⟩, rfl⟩, ?_⟩
  simp only [Act.put, List.setIfInBounds_toArray, List.set_cons_zero, List.set_cons_succ]
  cases b0
  · (repeat (first
    | (with_reducible refine mix_read (by kernel_rfl) ?_; go_big_quiet_want; go_big_quiet_op; go_big_quiet_on; with_reducible refine wpQuiet_nil ?_)
    | (with_reducible refine mix_pass (by kernel_rfl) ?_; go_big_quiet_skip; with_reducible refine wpQuiet_nil ?_)))
    with_reducible refine mix_end ?_
    intro _
    go_wp2
    go_ret
    exact ⟨ret_bool (by rw [HBB.out]; rfl), HW.out _ HB1.out⟩
  (repeat (first
    | (with_reducible refine mix_read (by kernel_rfl) ?_; go_big_quiet_want; go_big_quiet_op; go_big_quiet_on; with_reducible refine wpQuiet_nil ?_)
    | (with_reducible refine mix_pass (by kernel_rfl) ?_; go_big_quiet_skip; with_reducible refine wpQuiet_nil ?_)))
  with_reducible refine mix_call (by kernel_rfl) (by kernel_rfl) ((P1.out _).mono ?_) (by kernel_rfl)
  rintro e w' ⟨rfl, rfl⟩
  refine ⟨_, rfl, ⟨⟨_, HB1.out⟩, rfl⟩, ?_⟩
  simp only [Act.put, List.setIfInBounds_toArray, List.set_cons_zero, List.set_cons_succ]
  cases b1
  · (repeat (first
    | (with_reducible refine mix_read (by kernel_rfl) ?_; go_big_quiet_want; go_big_quiet_op; go_big_quiet_on; with_reducible refine wpQuiet_nil ?_)
    | (with_reducible refine mix_pass (by kernel_rfl) ?_; go_big_quiet_skip; with_reducible refine wpQuiet_nil ?_)))
    with_reducible refine mix_end ?_
    intro _
    go_wp2
    go_ret
    exact ⟨ret_bool (by rw [HBB.out]; rfl), HW.out _ HB1.out⟩
  by_cases hft : fr = tt
  · have hdd : (fr == tt) = true := by simp [hft]
    have hd2 : (fr != tt) = false := by simp [hft]
    have hd3 : decide (fr = tt) = true := decide_eq_true hft
    have HFT : Hid (fr = tt) := hft
    clear hft
    (repeat (first
    | (with_reducible refine mix_read (by kernel_rfl) ?_; go_big_quiet_want; go_big_quiet_op; go_big_quiet_on; with_reducible refine wpQuiet_nil ?_)
    | (with_reducible refine mix_pass (by kernel_rfl) ?_; go_big_quiet_skip; with_reducible refine wpQuiet_nil ?_)))
    with_reducible refine mix_end ?_
    intro _
    go_wp2
    go_ret
    exact ⟨ret_bool (by rw [HBB.out]; simp [HFT.out]), HW.out _ HB1.out⟩
  have hdd : (fr == tt) = false := by simp [hft]
  have hd2 : (fr != tt) = true := by simp [hft]
  have hd3 : decide (fr = tt) = false := decide_eq_false hft
  have HFT : Hid (¬ fr = tt) := hft
  clear hft
  (repeat (first
    | (with_reducible refine mix_read (by kernel_rfl) ?_; go_big_quiet_want; go_big_quiet_op; go_big_quiet_on; with_reducible refine wpQuiet_nil ?_)
    | (with_reducible refine mix_pass (by kernel_rfl) ?_; go_big_quiet_skip; with_reducible refine wpQuiet_nil ?_)))
  with_reducible refine mix_call (by kernel_rfl) (by kernel_rfl) ((PA.out _ (HW.out _ HB1.out)).mono ?_) (by kernel_rfl)
  rintro e w' ⟨rfl, rfl⟩
  refine ⟨_, rfl, ⟨⟨_, HB1.out⟩, rfl⟩, ?_⟩
  simp only [Act.put, List.setIfInBounds_toArray, List.set_cons_zero, List.set_cons_succ]
  cases b3
  · (repeat (first
    | (with_reducible refine mix_read (by kernel_rfl) ?_; go_big_quiet_want; go_big_quiet_op; go_big_quiet_on; with_reducible refine wpQuiet_nil ?_)
    | (with_reducible refine mix_pass (by kernel_rfl) ?_; go_big_quiet_skip; with_reducible refine wpQuiet_nil ?_)))
    with_reducible refine mix_end ?_
    intro _
    go_wp2
    go_ret
    exact ⟨ret_bool (by rw [HBB.out]; simp), HW.out _ HB1.out⟩
  (repeat (first
    | (with_reducible refine mix_read (by kernel_rfl) ?_; go_big_quiet_want; go_big_quiet_op; go_big_quiet_on; with_reducible refine wpQuiet_nil ?_)
    | (with_reducible refine mix_pass (by kernel_rfl) ?_; go_big_quiet_skip; with_reducible refine wpQuiet_nil ?_)))
  with_reducible refine mix_call (by kernel_rfl) (by kernel_rfl) ((PT.out _ (HW.out _ HB1.out)).mono ?_) (by kernel_rfl)
  rintro e w2 ⟨u2, rfl, r2, hb2⟩
  have HB2 : Hid (Below w1.heap.size w1 w2) := HB1.out.trans (hb2.mono HB1.out.size)
  have HR2 : Hid (rowAt w2 u2 1 iC pts) := r2
  clear hb2 r2
  refine ⟨_, rfl, ⟨⟨_, HB2.out⟩, rfl⟩, ?_⟩
  simp only [Act.put, List.setIfInBounds_toArray, List.set_cons_zero, List.set_cons_succ]
  with_reducible refine mix_call (by kernel_rfl) (by kernel_rfl) ((HA.out _ _ (HW.out _ HB2.out) HR2.out).mono ?_) (by kernel_rfl)
  rintro e w3 ⟨rfl, hb3⟩
  have HB3 : Hid (Below w1.heap.size w1 w3) := HB2.out.trans (hb3.mono HB2.out.size)
  clear hb3
  refine ⟨_, rfl, ⟨⟨_, HB3.out⟩, rfl⟩, ?_⟩
  simp only [Act.put, List.setIfInBounds_toArray, List.set_cons_zero, List.set_cons_succ]
  cases b4
  · (repeat (first
    | (with_reducible refine mix_read (by kernel_rfl) ?_; go_big_quiet_want; go_big_quiet_op; go_big_quiet_on; with_reducible refine wpQuiet_nil ?_)
    | (with_reducible refine mix_pass (by kernel_rfl) ?_; go_big_quiet_skip; with_reducible refine wpQuiet_nil ?_)))
    with_reducible refine mix_end ?_
    intro _
    go_wp2
    go_ret
    exact ⟨ret_bool (by rw [HBB.out]; simp), HW.out _ HB3.out⟩
  (repeat (first
    | (with_reducible refine mix_read (by kernel_rfl) ?_; go_big_quiet_want; go_big_quiet_op; go_big_quiet_on; with_reducible refine wpQuiet_nil ?_)
    | (with_reducible refine mix_pass (by kernel_rfl) ?_; go_big_quiet_skip; with_reducible refine wpQuiet_nil ?_)))
  with_reducible refine mix_call (by kernel_rfl) (by kernel_rfl) ((BE.out _ (HW.out _ HB3.out)).mono ?_) (by kernel_rfl)
  rintro e w4 ⟨rfl, hb4⟩
  have HB4 : Hid (Below w1.heap.size w1 w4) := HB3.out.trans (hb4.mono HB3.out.size)
  clear hb4
  refine ⟨_, rfl, ⟨⟨_, HB4.out⟩, rfl⟩, ?_⟩
  simp only [Act.put, List.setIfInBounds_toArray, List.set_cons_zero, List.set_cons_succ]
  (repeat (first
    | (with_reducible refine mix_read (by kernel_rfl) ?_; go_big_quiet_want; go_big_quiet_op; go_big_quiet_on; with_reducible refine wpQuiet_nil ?_)
    | (with_reducible refine mix_pass (by kernel_rfl) ?_; go_big_quiet_skip; with_reducible refine wpQuiet_nil ?_)))
  with_reducible refine mix_end ?_
  intro _
  go_wp2
  go_ret
  exact ⟨ret_bool (by rw [HBB.out]; simp [HFT.out]), HW.out _ HB4.out⟩
end Go.Proofs.YtceebimgfajbcaaGreatDoor
