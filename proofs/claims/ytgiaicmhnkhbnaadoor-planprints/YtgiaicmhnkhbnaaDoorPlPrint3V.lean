/-
  plan.Print of a layout that may be, by a contract: one line more; the lines' text.
-/
import Derived.Test.YtgiaicmhnkhbnaaDoorPlPrint2
import Derived.Test.YtgiaicmhnkhbnaaDoorPlRouteWV
import Derived.Test.YtgiaicmhnkhbnaaDoorLyPrintV
import Derived.Test.YtgiaicmhnkhbnaaDoorLyHeadsP
import Derived.Deep.RegionHeld
namespace Go.Proofs.YtgiaicmhnkhbnaaDoor
open Go.RowKit

theorem join_line : ∀ (ws : List ByteArray), Lib.join (ws.map (·.data.toList)) [32] = lineB [32] [] ws
  | [] => rfl
  | x :: ys => by
    rw [List.map_cons, Lib.join_cons, lineB, behind, List.append_nil, Lib.joinTail, List.map_map, List.flatMap_map, List.flatMap_def]
    rfl
theorem lineT_is (ws : List ByteArray) : lineT ws = lineB [32] [] ws ++ [10] := by rw [lineT, join_line]

/-- One line more. -/
theorem PrAt.words {w0 : World} {v : Nat → Value} {d : List (List ByteArray)} {w : World} (h : PrAt w0 v (textB [32] [] [] [] d) w) (bk c : Nat) (xs : List ByteArray) (hcells : ∀ (j : Nat) x, xs[j]? = some x → w.cell? ⟨bk, 0 + j, none⟩ = some (.string x)) (hbk : bk < w.heap.size) (hN : xs.length ≤ 140737488355328) (hcap : xs.length ≤ c) (hlen : (textB [32] [] [] [] d).length + (lineB [32] [] xs).length + 9 ≤ 140737488355328) :
    Calls Tryd.prog 21 #[.pointer (some ⟨w0.heap.size + 1, 0, none⟩), .slice (some ⟨bk, 0, none⟩) xs.length c] w fun e w' => e = .returned (.tuple #[]) ∧ PrAt w0 v (textB [32] [] [] [] (d ++ [xs])) w' ∧ Lib.OthersKept 5 (some (w0.heap.size + 1)) w w' := by
  obtain ⟨h1, h2, h3, h4⟩ := h
  refine (printLine_any w0.heap.size (w0.heap.size + 1) (textB [32] [] [] [] d) bk c xs w h1 hcells hbk hN hcap (by rw [lineT_is, List.length_append]; simp; omega) (by omega)).mono ?_
  rintro e w' ⟨rfl, k1, k2, k3⟩
  have hs2 := k2.size
  rw [lineT_is, ← List.append_assoc, ← text_snoc] at k1
  refine ⟨rfl, ⟨k1, h2.trans k2, k3 _ _ h3 (by simp) ?_, by omega⟩, k3⟩
  intro c fz hc
  injection hc with _ e2
  exact absurd e2 (by decide)
theorem PrAt.below {w0 : World} {v : Nat → Value} {T : List UInt8} {w w' : World} (h : PrAt w0 v T w) (hb : Below w.heap.size w w') : PrAt w0 v T w' := by
  obtain ⟨h1, h2, h3, h4⟩ := h
  exact ⟨built_below h1 hb, h2.trans (hb.mono (by omega)), (hb.block _ (by omega)).trans h3, by have := hb.size; omega⟩
theorem four_new (w : World) (a b c d : ByteArray) (t : TypeId) : ∀ (j : Nat) x, [a, b, c, d][j]? = some x → (w.alloc (.cells #[.string a, .string b, .string c, .string d] t)).cell? ⟨w.heap.size, 0 + j, none⟩ = some (.string x) := by
  intro j x hj
  match j, hj with
  | 0, hj => simp at hj; subst hj; simp
  | 1, hj => simp at hj; subst hj; simp
  | 2, hj => simp at hj; subst hj; simp
  | 3, hj => simp at hj; subst hj; simp
  | j + 4, hj => simp at hj
theorem behind_len : ∀ (ys : List ByteArray), (∀ y ∈ ys, y.size < 3010) → (behind [32] [] (ys.map bytesOf)).length ≤ 3011 * ys.length
  | [], _ => by simp [behind]
  | y :: ys, h => by
    have ih := behind_len ys fun z hz => h z (by simp [hz])
    have h1 := h y (by simp)
    rw [Lib.size_eq] at h1
    simp only [behind, List.map_cons, List.flatMap_cons, List.append_nil, List.length_append, List.length_cons, List.length_nil, bytesOf] at ih ⊢
    omega
theorem line_len (ws : List ByteArray) (h : ∀ y ∈ ws, y.size < 3010) : (lineB [32] [] ws).length ≤ 3011 * ws.length := by
  cases ws with
  | nil => simp [lineB]
  | cons x ys =>
    have h1 := h x (by simp)
    have h2 := behind_len ys fun z hz => h z (by simp [hz])
    rw [Lib.size_eq] at h1
    rw [lineB, List.length_append, List.length_cons]
    have : (bytesOf x).length = x.data.toList.length := rfl
    omega
set_option maxRecDepth 1000000 in
set_option maxHeartbeats 32000000 in
theorem planPrint_any (v : Nat → Value) (l : Lay) (rs : List RtV) (w : World) (h : LayRd w v l rs) (hL : IsP l) (hs : LaySmall l) :
    Calls Tryd.prog 8 #[.agg #[v 0, v 1, v 2, v 3]] w fun e w' => e = .returned (.string (printT l)) ∧ (printT l).size ≤ 100000000000 ∧ Below w.heap.size w w' := by
  have HLR : Hid (LayRd w v l rs) := h
  have HL : Hid (IsP l) := hL
  have HM : Hid (rs.map (·.1) = l.routes) := h.m
  have HSM : Hid (LaySmall l) := hs
  have hlr : l.routes.length = rs.length := by rw [← h.m, List.length_map]
  obtain ⟨o0, c0, e0, r0⟩ := h.s
  obtain ⟨o1, c1, e1, r1⟩ := h.p
  obtain ⟨o2, c2, e2, r2⟩ := h.g
  obtain ⟨o3, c3, e3, r3⟩ := h.r
  have R0 : Hid (∀ j x, l.sections[j]? = some x → ∃ g off, o0 = some ⟨g, off, none⟩ ∧ ∀ i u, (sC x)[i]? = some u → w.cell? ⟨g, off + j * 1 + i, none⟩ = some u) := r0
  have R1 : Hid (∀ j x, l.points[j]? = some x → ∃ g off, o1 = some ⟨g, off, none⟩ ∧ ∀ i u, (pC x)[i]? = some u → w.cell? ⟨g, off + j * 2 + i, none⟩ = some u) := r1
  have R2 : Hid (∀ j x, l.signals[j]? = some x → ∃ g off, o2 = some ⟨g, off, none⟩ ∧ ∀ i u, (sC x)[i]? = some u → w.cell? ⟨g, off + j * 1 + i, none⟩ = some u) := r2
  have R3 : Hid (∀ j x, rs[j]? = some x → ∃ g off, o3 = some ⟨g, off, none⟩ ∧ ∀ i u, (rC x)[i]? = some u → w.cell? ⟨g, off + j * 6 + i, none⟩ = some u) := r3
  have NS : Hid (∀ W i, (0 ≤ i ∧ i < (l.sections.length : Int)) → Below w.heap.size w W → Calls Tryd.prog 22 #[v 0, .int .i64 i] W fun e w' => e = .returned (.string (nth l.sections i)) ∧ w' = W) := fun W i hi hW => by
    have hb := hL.s.1
    have := nameAt_any _ l.sections i W (h.s.below hW) (by omega)
    rw [nameAt_nth hi] at this
    exact this
  have b0 := hL.s.1
  have b1 := hL.p.1
  have b2 := hL.g.1
  have b3 := hL.r.1
  rw [hlr] at b3
  have S : PrAt w v [] ((w.alloc (.cells #[v 0, v 1, v 2, v 3] 26)).alloc (.cells #[.pointer none, .slice none 0 0] 50)) := by
    have hs : (w.alloc (.cells #[v 0, v 1, v 2, v 3] 26)).heap.size = w.heap.size + 1 := by simp
    have hb1 : Below w.heap.size w (w.alloc (.cells #[v 0, v 1, v 2, v 3] 26)) := (Below.refl _ _).alloc (Nat.le_refl _) _
    have k1 : (w.alloc (.cells #[v 0, v 1, v 2, v 3] 26)).heap[w.heap.size]? = some (.cells #[v 0, v 1, v 2, v 3] 26 (0, 0)) := blk_new _ _
    generalize w.alloc (.cells #[v 0, v 1, v 2, v 3] 26) = w1 at *
    have hb2 : Below w1.heap.size w1 (w1.alloc (.cells #[.pointer none, .slice none 0 0] 50)) := (Below.refl _ _).alloc (Nat.le_refl _) _
    have k2 : (w1.alloc (.cells #[.pointer none, .slice none 0 0] 50)).heap[w1.heap.size]? = some (.cells #[.pointer none, .slice none 0 0] 50 (0, 0)) := blk_new _ _
    have hs2 : (w1.alloc (.cells #[.pointer none, .slice none 0 0] 50)).heap.size = w1.heap.size + 1 := by simp
    rw [hs] at k2
    exact ⟨.inl ⟨by omega, .slice none 0 0, k2, World.ownsRowF_of (World.ownsRow_nil _ _ _ _), by simp [Value.ownBlock]⟩, hb1.trans (hb2.mono (by omega)), (hb2.block _ (by omega)).trans k1, by omega⟩
  have HLEN : Hid (l.routes.length = rs.length) := hlr
  have HV : Hid (v 0 = .slice o0 l.sections.length c0 ∧ v 1 = .slice o1 l.points.length c1 ∧ v 2 = .slice o2 l.signals.length c2 ∧ v 3 = .slice o3 rs.length c3) := ⟨e0, e1, e2, e3⟩
  rw [e0] at NS
  rw [e0, e1, e2, e3] at S ⊢
  clear h r0 r1 r2 r3 e0 e1 e2 e3 hL hs hlr
  generalize hs0 : l.sections.length = n0 at *
  generalize hs1 : l.points.length = n1 at *
  generalize hs2 : l.signals.length = n2 at *
  generalize hs3 : rs.length = n3 at *
  have HS0 : Hid (l.sections.length = n0) := hs0
  have HS1 : Hid (l.points.length = n1) := hs1
  have HS2 : Hid (l.signals.length = n2) := hs2
  have HS3 : Hid (rs.length = n3) := hs3
  clear hs0 hs1 hs2 hs3
  go_enter Tryd.func8, Tryd.ntmps8
  go_wp2
  go_loopg [15] n0 (fun gk i wr => ∃ k : Nat, gk = n0 - k ∧ k ≤ n0 ∧ i = .int .i64 k ∧ (textB [32] [] [] [] (wordsS (l.sections.take k))).length ≤ 3100 * k ∧ PrAt w v (textB [32] [] [] [] (wordsS (l.sections.take k))) wr)
  case atStart => exact ⟨0, rfl, by omega, rfl, by simp [textB, wordsS], by simpa [textB, wordsS] using S⟩
  case round =>
    obtain ⟨k, rfl, hk, rfl, hz, hP⟩ := hrel
    have HP : Hid (PrAt w v (textB [32] [] [] [] (wordsS (l.sections.take k))) wr) := hP
    have hcc := hP.cells
    have hbl := hP.2.1
    have hsz2 := hP.2.2.2
    rw [HV.out.1, HV.out.2.1, HV.out.2.2.1, HV.out.2.2.2] at hcc
    obtain ⟨q0, q1, q2, q3⟩ := hcc
    clear hP
    have up : ∀ {p : Addr} {u : Value}, w.cell? p = some u → wr.cell? p = some u := fun h => (hbl.cell (World.block_lt_of_cell? _ _ h)).trans h
    by_cases hlt : k < n0
    · have hki : (k : Int) < (n0 : Int) := by omega
      obtain ⟨x, hx⟩ : ∃ x, l.sections[k]? = some x := ⟨l.sections[k]'(by rw [HS0.out]; exact hlt), List.getElem?_eq_getElem _⟩
      have hxz := HSM.out.s.2 x (List.mem_of_getElem? hx)
      obtain ⟨g, off, rfl, hcell⟩ := R0.out k _ hx
      have d0 := up (hcell 0 _ rfl)
      rw [show off + k * 1 + 0 = off + k by omega] at d0
      have hln : (lineB [32] [] [kSection, x]).length ≤ 3099 := by
        have hx2 : x.data.size < 3000 := hxz
        have hx3 : x.data.toList.length < 3000 := by rw [← Lib.size_eq]; exact hxz
        simp [lineB, behind, bytesOf, kSection]
        omega
      have HDD : Hid (wordsS (l.sections.take (k + 1)) = (wordsS (l.sections.take k)) ++ [[kSection, x]]) := by
        show _ = _
        rw [wordsS_more hx]
      have hal : Below wr.heap.size wr (wr.alloc (.cells #[.string ⟨#[115, 101, 99, 116, 105, 111, 110]⟩, .string x] 9)) := (Below.refl _ _).alloc (Nat.le_refl _) _
      have PL := (HP.out.below hal).words wr.heap.size 2 [kSection, x] (two_new wr _ _ _) (by simp) (by simp) (by simp) (by omega)
      have GOZ : Hid ((textB [32] [] [] [] (wordsS (l.sections.take (k + 1)))).length ≤ 3100 * (k + 1)) := by
        show _ ≤ _
        rw [HDD.out, text_snoc, List.length_append, List.length_append]
        simp only [List.length_cons, List.length_nil]
        omega
      clear hcell up hx hal
      go_wp2_with fail
      refine PL.mono ?_
      rintro e w1 ⟨rfl, h1, _⟩
      have H1 : Hid (PrAt w v (textB [32] [] [] [] (wordsS (l.sections.take (k + 1)))) w1) := by rw [HDD.out]; exact h1
      clear h1 PL q0 q1 q2 q3 d0
      go_wp2
      go_roundg (n0 - (k + 1))
      case rel => exact ⟨k + 1, rfl, by omega, by go_num, GOZ.out, H1.out⟩
      case measure => omega
    · have hki : ¬ (k : Int) < (n0 : Int) := by omega
      have hz' : (textB [32] [] [] [] (wordsS (l.sections.take k))).length ≤ 3100 * 3000 := by omega
      rw [take_all HS0.out (by omega)] at hz' HP
      clear hz up hlt
      go_wp2_with fail
      clear q0 q1 q2 q3 hki hbl hsz2
      go_loopg [26] n2 (fun gk i wr => ∃ k : Nat, gk = n2 - k ∧ k ≤ n2 ∧ i = .int .i64 k ∧ (textB [32] [] [] [] (wordsS l.sections ++ wordsG (l.signals.take k))).length ≤ 9300000 + 3100 * k ∧ PrAt w v (textB [32] [] [] [] (wordsS l.sections ++ wordsG (l.signals.take k))) wr)
      case atStart => exact ⟨0, rfl, by omega, rfl, by simp only [List.take_zero, wordsG, List.map_nil, List.append_nil]; omega, by simpa [wordsG] using HP.out⟩
      case round =>
        obtain ⟨k, rfl, hk, rfl, hz, hP⟩ := hrel
        have HP : Hid (PrAt w v (textB [32] [] [] [] (wordsS l.sections ++ wordsG (l.signals.take k))) wr) := hP
        have hcc := hP.cells
        have hbl := hP.2.1
        have hsz2 := hP.2.2.2
        rw [HV.out.1, HV.out.2.1, HV.out.2.2.1, HV.out.2.2.2] at hcc
        obtain ⟨q0, q1, q2, q3⟩ := hcc
        clear hP
        have up : ∀ {p : Addr} {u : Value}, w.cell? p = some u → wr.cell? p = some u := fun h => (hbl.cell (World.block_lt_of_cell? _ _ h)).trans h
        by_cases hlt : k < n2
        · have hki : (k : Int) < (n2 : Int) := by omega
          obtain ⟨x, hx⟩ : ∃ x, l.signals[k]? = some x := ⟨l.signals[k]'(by rw [HS2.out]; exact hlt), List.getElem?_eq_getElem _⟩
          have hxz := HSM.out.g.2 x (List.mem_of_getElem? hx)
          obtain ⟨g, off, rfl, hcell⟩ := R2.out k _ hx
          have d0 := up (hcell 0 _ rfl)
          rw [show off + k * 1 + 0 = off + k by omega] at d0
          have hln : (lineB [32] [] [kSignal, x]).length ≤ 3099 := by
            have hx2 : x.data.size < 3000 := hxz
            have hx3 : x.data.toList.length < 3000 := by rw [← Lib.size_eq]; exact hxz
            simp [lineB, behind, bytesOf, kSignal]
            omega
          have HDD : Hid (wordsS l.sections ++ wordsG (l.signals.take (k + 1)) = (wordsS l.sections ++ wordsG (l.signals.take k)) ++ [[kSignal, x]]) := by
            show _ = _
            rw [wordsG_more hx, List.append_assoc]
          have hal : Below wr.heap.size wr (wr.alloc (.cells #[.string ⟨#[115, 105, 103, 110, 97, 108]⟩, .string x] 9)) := (Below.refl _ _).alloc (Nat.le_refl _) _
          have PL := (HP.out.below hal).words wr.heap.size 2 [kSignal, x] (two_new wr _ _ _) (by simp) (by simp) (by simp) (by omega)
          have GOZ : Hid ((textB [32] [] [] [] (wordsS l.sections ++ wordsG (l.signals.take (k + 1)))).length ≤ 9300000 + 3100 * (k + 1)) := by
            show _ ≤ _
            rw [HDD.out, text_snoc, List.length_append, List.length_append]
            simp only [List.length_cons, List.length_nil]
            omega
          clear hcell up hx hal
          go_wp2_with fail
          refine PL.mono ?_
          rintro e w1 ⟨rfl, h1, _⟩
          have H1 : Hid (PrAt w v (textB [32] [] [] [] (wordsS l.sections ++ wordsG (l.signals.take (k + 1)))) w1) := by rw [HDD.out]; exact h1
          clear h1 PL q0 q1 q2 q3 d0
          go_wp2
          go_roundg (n2 - (k + 1))
          case rel => exact ⟨k + 1, rfl, by omega, by go_num, GOZ.out, H1.out⟩
          case measure => omega
        · have hki : ¬ (k : Int) < (n2 : Int) := by omega
          have hz' : (textB [32] [] [] [] (wordsS l.sections ++ wordsG (l.signals.take k))).length ≤ 9300000 + 3100 * 3000 := by omega
          rw [take_all HS2.out (by omega)] at hz' HP
          clear hz up hlt
          go_wp2_with fail
          clear q0 q1 q2 q3 hki hbl hsz2
          go_loopg [37] n1 (fun gk i wr => ∃ k : Nat, gk = n1 - k ∧ k ≤ n1 ∧ i = .int .i64 k ∧ (textB [32] [] [] [] (wordsS l.sections ++ (wordsG l.signals ++ wordsP l (l.points.take k)))).length ≤ 18600000 + 6100 * k ∧ PrAt w v (textB [32] [] [] [] (wordsS l.sections ++ (wordsG l.signals ++ wordsP l (l.points.take k)))) wr)
          case atStart => exact ⟨0, rfl, by omega, rfl, by simp only [List.take_zero, wordsP, List.map_nil, List.append_nil]; omega, by simpa [wordsP] using HP.out⟩
          case round =>
            obtain ⟨k, rfl, hk, rfl, hz, hP⟩ := hrel
            have HP : Hid (PrAt w v (textB [32] [] [] [] (wordsS l.sections ++ (wordsG l.signals ++ wordsP l (l.points.take k)))) wr) := hP
            have hcc := hP.cells
            have hbl := hP.2.1
            have hsz2 := hP.2.2.2
            rw [HV.out.1, HV.out.2.1, HV.out.2.2.1, HV.out.2.2.2] at hcc
            obtain ⟨q0, q1, q2, q3⟩ := hcc
            clear hP
            have up : ∀ {p : Addr} {u : Value}, w.cell? p = some u → wr.cell? p = some u := fun h => (hbl.cell (World.block_lt_of_cell? _ _ h)).trans h
            by_cases hlt : k < n1
            · have hki : (k : Int) < (n1 : Int) := by omega
              obtain ⟨⟨pn, ps⟩, hx⟩ : ∃ x, l.points[k]? = some x := ⟨l.points[k]'(by rw [HS1.out]; exact hlt), List.getElem?_eq_getElem _⟩
              have hxz := HSM.out.p.2 _ (List.mem_of_getElem? hx)
              have hin := (HL.out.p.2.2 _ (List.mem_of_getElem? hx)).2
              rw [HS0.out] at hin
              simp only at hxz hin
              have hyz := nth_size HSM.out.s.2 ps
              have NN := fun W hW => NS.out W ps hin hW
              have HDD : Hid (wordsS l.sections ++ (wordsG l.signals ++ wordsP l (l.points.take (k + 1))) = (wordsS l.sections ++ (wordsG l.signals ++ wordsP l (l.points.take k))) ++ [[kPoint, pn, kIn, nth l.sections ps]]) := by
                show _ = _
                rw [wordsP_more hx, List.append_assoc, List.append_assoc]
              obtain ⟨g, off, rfl, hcell⟩ := R1.out k _ hx
              have d0 := up (hcell 0 _ rfl)
              have d1 := up (hcell 1 _ rfl)
              rw [Nat.add_zero] at d0
              generalize nth l.sections ps = y at *
              have NN : Hid (∀ W, Below w.heap.size w W → Calls Tryd.prog 22 #[.slice o0 n0 c0, .int .i64 ps] W fun e w' => e = .returned (.string y) ∧ w' = W) := NN
              have hln : (lineB [32] [] [kPoint, pn, kIn, y]).length ≤ 6099 := by
                have hx2 : pn.data.size < 3000 := hxz
                have hx3 : pn.data.toList.length < 3000 := by rw [← Lib.size_eq]; exact hxz
                have hy2 : y.data.size < 3000 := hyz
                have hy3 : y.data.toList.length < 3000 := by rw [← Lib.size_eq]; exact hyz
                simp [lineB, behind, bytesOf, kPoint, kIn]
                omega
              have GOZ : Hid ((textB [32] [] [] [] (wordsS l.sections ++ (wordsG l.signals ++ wordsP l (l.points.take (k + 1))))).length ≤ 18600000 + 6100 * (k + 1)) := by
                show _ ≤ _
                rw [HDD.out, text_snoc, List.length_append, List.length_append]
                simp only [List.length_cons, List.length_nil]
                omega
              go_wp2_with fail
              have hal : Below wr.heap.size wr (wr.alloc (.cells #[.string pn, .int .i64 ps] 33)) := (Below.refl _ _).alloc (Nat.le_refl _) _
              have kb : (wr.alloc (.cells #[.string pn, .int .i64 ps] 33)).heap[wr.heap.size]? = some (.cells #[.string pn, .int .i64 ps] 33 (0, 0)) := blk_new _ _
              have hszA : wr.heap.size < (wr.alloc (.cells #[.string pn, .int .i64 ps] 33)).heap.size := by simp
              generalize wr.alloc (.cells #[.string pn, .int .i64 ps] 33) = wA at *
              have KB : Hid (wA.heap[wr.heap.size]? = some (.cells #[.string pn, .int .i64 ps] 33 (0, 0))) := kb
              have HPA : Hid (PrAt w v (textB [32] [] [] [] (wordsS l.sections ++ (wordsG l.signals ++ wordsP l (l.points.take k)))) wA) := HP.out.below hal
              have PTC : Hid (∀ W : World, W.heap[wr.heap.size]? = some (.cells #[.string pn, .int .i64 ps] 33 (0, 0)) → W.cell? ⟨wr.heap.size, 0, none⟩ = some (.string pn) ∧ W.cell? ⟨wr.heap.size, 1, none⟩ = some (.int .i64 ps)) := fun W hh => by constructor <;> simp [World.cell?, hh]
              have KEEP : Hid (∀ W : World, Below wA.heap.size wA W → W.cell? ⟨w.heap.size, 0, none⟩ = some (.slice o0 n0 c0) ∧ W.cell? ⟨wr.heap.size, 0, none⟩ = some (.string pn) ∧ W.cell? ⟨wr.heap.size, 1, none⟩ = some (.int .i64 ps)) := fun W hW => by
                have hc := (HPA.out.below hW).cells
                rw [HV.out.1] at hc
                exact ⟨hc.1, PTC.out W ((hW.block _ hszA).trans KB.out)⟩
              have PLN : Hid (∀ W, Below wA.heap.size wA W → Calls Tryd.prog 21 #[.pointer (some ⟨w.heap.size + 1, 0, none⟩), .slice (some ⟨W.heap.size, 0, none⟩) 4 4] (W.alloc (.cells #[.string ⟨#[112, 111, 105, 110, 116]⟩, .string pn, .string ⟨#[105, 110]⟩, .string y] 9)) fun e w' => e = .returned (.tuple #[]) ∧ PrAt w v (textB [32] [] [] [] (wordsS l.sections ++ (wordsG l.signals ++ wordsP l (l.points.take (k + 1))))) w' ∧ (w'.cell? ⟨w.heap.size, 0, none⟩ = some (.slice o0 n0 c0) ∧ w'.cell? ⟨wr.heap.size, 0, none⟩ = some (.string pn) ∧ w'.cell? ⟨wr.heap.size, 1, none⟩ = some (.int .i64 ps))) := fun W hW => by
                have h1 : Below wA.heap.size wA (W.alloc (.cells #[.string ⟨#[112, 111, 105, 110, 116]⟩, .string pn, .string ⟨#[105, 110]⟩, .string y] 9)) := hW.alloc hW.size _
                refine ((HPA.out.below h1).words W.heap.size 4 [kPoint, pn, kIn, y] (four_new W _ _ _ _ _) (by simp) (by simp) (by simp) (by omega)).mono ?_
                rintro e w' ⟨rfl, h2, h3⟩
                rw [← HDD.out] at h2
                have hc := h2.cells
                rw [HV.out.1] at hc
                refine ⟨rfl, h2, hc.1, PTC.out w' (h3 _ _ ((h1.block _ hszA).trans KB.out) (fun e => by have := Option.some.inj e; omega) ?_)⟩
                intro c fz hc'
                injection hc' with _ e2
                exact absurd e2 (by decide)
              have HBA : Hid (Below w.heap.size w wA) := HPA.out.2.1
              clear hcell up hx kb hal d0 d1 KB PTC hszA q0 q1 q2 q3 hbl
              go_region_held (fun W => W.cell? ⟨w.heap.size, 0, none⟩ = some (.slice o0 n0 c0) ∧ W.cell? ⟨wr.heap.size, 0, none⟩ = some (.string pn) ∧ W.cell? ⟨wr.heap.size, 1, none⟩ = some (.int .i64 ps)) (first | exact HK5.out | exact KEEP.out _ (by repeat' (with_reducible first | exact Below.refl _ _ | refine Below.drew ?_ | refine Below.alloc ?_ ?_ _ | exact Nat.le_refl _ | (simp; done) | (simp; omega)))) (first
                | (go_at_call 22; refine (NN.out _ (HBA.out.trans (Below.mono (B := wA.heap.size) (by repeat' (with_reducible first | exact Below.refl _ _ | refine Below.drew ?_ | refine Below.alloc ?_ ?_ _ | exact Nat.le_refl _ | (simp; done) | (simp; omega))) HBA.out.size))).mono ?_; rintro e wx ⟨rfl, rfl⟩)
                | (go_at_call 21; refine (PLN.out wA.drew (by repeat' (with_reducible first | exact Below.refl _ _ | refine Below.drew ?_ | refine Below.alloc ?_ ?_ _ | exact Nat.le_refl _ | (simp; done) | (simp; omega)))).mono ?_; rintro e w5 ⟨rfl, h5, hk5⟩; have H5 : Hid (PrAt w v (textB [32] [] [] [] (wordsS l.sections ++ (wordsG l.signals ++ wordsP l (l.points.take (k + 1))))) w5) := h5; have HK5 : Hid (w5.cell? ⟨w.heap.size, 0, none⟩ = some (.slice o0 n0 c0) ∧ w5.cell? ⟨wr.heap.size, 0, none⟩ = some (.string pn) ∧ w5.cell? ⟨wr.heap.size, 1, none⟩ = some (.int .i64 ps)) := hk5; clear h5 hk5))
              go_wp2
              go_roundg (n1 - (k + 1))
              case rel => exact ⟨k + 1, rfl, by omega, by go_num, GOZ.out, H5.out⟩
              case measure => omega
            · have hki : ¬ (k : Int) < (n1 : Int) := by omega
              have hz' : (textB [32] [] [] [] (wordsS l.sections ++ (wordsG l.signals ++ wordsP l (l.points.take k)))).length ≤ 18600000 + 6100 * 3000 := by omega
              rw [take_all HS1.out (by omega)] at hz' HP
              clear hz up hlt
              go_wp2_with fail
              clear q0 q1 q2 q3 hki hbl hsz2
              go_loopg [54] n3 (fun gk i wr => ∃ k : Nat, gk = n3 - k ∧ k ≤ n3 ∧ i = .int .i64 k ∧ (textB [32] [] [] [] (wordsS l.sections ++ (wordsG l.signals ++ (wordsP l l.points ++ wordsR l ((rs.take k).map (·.1)))))).length ≤ 36900000 + 30000000 * k ∧ PrAt w v (textB [32] [] [] [] (wordsS l.sections ++ (wordsG l.signals ++ (wordsP l l.points ++ wordsR l ((rs.take k).map (·.1)))))) wr)
              case atStart => exact ⟨0, rfl, by omega, rfl, by simp only [List.take_zero, List.map_nil, wordsR, List.append_nil]; omega, by simpa [wordsR] using HP.out⟩
              case round =>
                obtain ⟨k, rfl, hk, rfl, hz, hP⟩ := hrel
                have HP : Hid (PrAt w v (textB [32] [] [] [] (wordsS l.sections ++ (wordsG l.signals ++ (wordsP l l.points ++ wordsR l ((rs.take k).map (·.1)))))) wr) := hP
                have hcc := hP.cells
                have hbl := hP.2.1
                have hsz2 := hP.2.2.2
                rw [HV.out.1, HV.out.2.1, HV.out.2.2.1, HV.out.2.2.2] at hcc
                obtain ⟨q0, q1, q2, q3⟩ := hcc
                clear hP
                have up : ∀ {p : Addr} {u : Value}, w.cell? p = some u → wr.cell? p = some u := fun h => (hbl.cell (World.block_lt_of_cell? _ _ h)).trans h
                by_cases hlt : k < n3
                · have hki : (k : Int) < (n3 : Int) := by omega
                  obtain ⟨x, hx⟩ : ∃ x, rs[k]? = some x := ⟨rs[k]'(by rw [HS3.out]; exact hlt), List.getElem?_eq_getElem _⟩
                  have hmem : x.1 ∈ l.routes := by rw [← HM.out]; exact List.mem_map.2 ⟨x, List.mem_of_getElem? hx, rfl⟩
                  have hok := (HL.out.r.2.2 _ hmem).2
                  have hnz := (HSM.out.r.2 _ hmem).1
                  have HDD : Hid (wordsS l.sections ++ (wordsG l.signals ++ (wordsP l l.points ++ wordsR l ((rs.take (k + 1)).map (·.1)))) = (wordsS l.sections ++ (wordsG l.signals ++ (wordsP l l.points ++ wordsR l ((rs.take k).map (·.1))))) ++ [kRoute :: routeWords (rlOf l x.1)]) := by
                    show _ = _
                    rw [wordsR_more hx]
                    simp only [List.append_assoc]
                  have hwl : (kRoute :: routeWords (rlOf l x.1)).length ≤ 9010 := by
                    have h1 := hok.path.2.1
                    have h2 := hok.points.1
                    have h3 := hok.flank.1
                    have wl : ∀ (t : ByteArray) (xs : List Wt), (wantRow t xs).length ≤ xs.length + 1 := fun t xs => by cases xs <;> simp [wantRow]
                    have w1 := wl kSet (rlOf l x.1).set
                    have w2 := wl kFlank (rlOf l x.1).flank
                    simp only [routeWords, List.length_cons, List.length_append, rlOf, List.length_map, List.length_nil] at w1 w2 ⊢
                    omega
                  have hws : ∀ y ∈ kRoute :: routeWords (rlOf l x.1), y.size < 3010 := by
                    have hpz : ∀ i, (nth (l.points.map (·.1)) i).size < 3000 := fun i => nth_size (fun q hq => by
                      obtain ⟨q', h1, rfl⟩ := List.mem_map.1 hq
                      exact HSM.out.p.2 q' h1) _
                    have wz : ∀ (t : ByteArray), t.size < 3010 → ∀ (xs : List (Int × Bool)), ∀ y ∈ wantRow t (xs.map fun n => (nth (l.points.map (·.1)) n.1, n.2)), y.size < 3010 := fun t ht xs y hy => by
                      cases xs with
                      | nil => simp [wantRow] at hy
                      | cons z zs =>
                        rw [List.map_cons, wantRow, List.mem_cons] at hy
                        rcases hy with rfl | hy
                        · exact ht
                        · obtain ⟨q, hq, rfl⟩ := List.mem_map.1 hy
                          have hq1 : q.1.size < 3000 := by
                            rw [← List.map_cons (f := fun n : Int × Bool => (nth (l.points.map (·.1)) n.1, n.2))] at hq
                            obtain ⟨q', _, rfl⟩ := List.mem_map.1 hq
                            exact hpz _
                          have := wantW_len q
                          rw [Lib.size_eq]
                          have e2 : (wantW q).data.toList.length = (bytesOf (wantW q)).length := rfl
                          omega
                    intro y hy
                    rw [List.mem_cons, routeWords, List.mem_append, List.mem_append, List.mem_append] at hy
                    rcases hy with rfl | hy | hy | hy | hy
                    · decide
                    · have s1 := nth_size HSM.out.g.2 x.1.frm
                      have s2 := nth_size HSM.out.g.2 x.1.to
                      simp only [rlOf, List.mem_cons, List.not_mem_nil, or_false] at hy
                      rcases hy with rfl | rfl | rfl | rfl | rfl | rfl
                      · omega
                      · decide
                      · omega
                      · decide
                      · omega
                      · decide
                    · obtain ⟨i, _, rfl⟩ := List.mem_map.1 hy
                      have := nth_size HSM.out.s.2 i
                      omega
                    · exact wz kSet (by decide) _ _ hy
                    · exact wz kFlank (by decide) _ _ hy
                  have hln := line_len _ hws
                  have RX := HLR.out.x x (List.mem_of_getElem? hx)
                  obtain ⟨g, off, rfl, hcell⟩ := R3.out k _ hx
                  obtain ⟨p3, k3, f3, _⟩ := RX.path
                  obtain ⟨p4, k4, f4, _⟩ := RX.points
                  obtain ⟨p5, k5, f5, _⟩ := RX.flank
                  have RW : Hid (∀ W, Below w.heap.size w W → Calls Tryd.prog 23 #[.agg #[.slice o0 n0 c0, .slice o1 n1 c1, .slice o2 n2 c2, .slice (some ⟨g, off, none⟩) n3 c3], .agg #[.string x.1.name, .int .i64 x.1.frm, .int .i64 x.1.to, x.2.1, x.2.2.1, x.2.2.2]] W fun e w' => ∃ a, e = .returned a ∧ w'.ownsRow (W.heap.size + 2) 9 1 a (kRoute :: routeWords (rlOf l x.1)).length ((kRoute :: routeWords (rlOf l x.1)).map Value.string) ∧ Below W.heap.size W w') := fun W hW => by
                    have := routeWords_any v l rs x W (HLR.out.below hW) (RX.below hW) hok HSM.out
                    rw [HV.out.1, HV.out.2.1, HV.out.2.2.1, HV.out.2.2.2] at this
                    exact this
                  have d0 := up (hcell 0 _ rfl)
                  have d1 := up (hcell 1 _ rfl)
                  have d2 := up (hcell 2 _ rfl)
                  have d3 := up (hcell 3 _ rfl)
                  have d4 := up (hcell 4 _ rfl)
                  have d5 := up (hcell 5 _ rfl)
                  rw [Nat.add_zero] at d0
                  rw [f3] at d3 RW
                  rw [f4] at d4 RW
                  rw [f5] at d5 RW
                  generalize hWS : kRoute :: routeWords (rlOf l x.1) = ws at *
                  have hw0 : 0 < ws.length := by rw [← hWS]; simp
                  have GOZ : Hid ((textB [32] [] [] [] (wordsS l.sections ++ (wordsG l.signals ++ (wordsP l l.points ++ wordsR l ((rs.take (k + 1)).map (·.1)))))).length ≤ 36900000 + 30000000 * (k + 1)) := by
                    show _ ≤ _
                    rw [HDD.out, text_snoc, List.length_append, List.length_append]
                    simp only [List.length_cons, List.length_nil]
                    omega
                  generalize x.1.name = xn at *
                  generalize x.1.frm = xf at *
                  generalize x.1.to = xt at *
                  generalize x.1.path.length = xp at *
                  generalize x.1.points.length = xq at *
                  generalize x.1.flank.length = xr at *
                  clear hcell up hx hmem hok hws f3 f4 f5 hWS
                  have hal : Below wr.heap.size wr (wr.alloc (.cells #[.string xn, .int .i64 xf, .int .i64 xt, .slice p3 xp k3, .slice p4 xq k4, .slice p5 xr k5] 37)) := (Below.refl _ _).alloc (Nat.le_refl _) _
                  have q0' := (hal.cell (World.block_lt_of_cell? _ _ q0)).trans q0
                  have q1' := (hal.cell (World.block_lt_of_cell? _ _ q1)).trans q1
                  have q2' := (hal.cell (World.block_lt_of_cell? _ _ q2)).trans q2
                  have q3' := (hal.cell (World.block_lt_of_cell? _ _ q3)).trans q3
                  have HPA : Hid (PrAt w v (textB [32] [] [] [] (wordsS l.sections ++ (wordsG l.signals ++ (wordsP l l.points ++ wordsR l ((rs.take k).map (·.1)))))) (wr.alloc (.cells #[.string xn, .int .i64 xf, .int .i64 xt, .slice p3 xp k3, .slice p4 xq k4, .slice p5 xr k5] 37))) := HP.out.below hal
                  have CR := RW.out _ HPA.out.2.1
                  go_wp2_with fail
                  refine CR.mono ?_
                  rintro e w5 ⟨a5, rfl, hown5, hb5⟩
                  obtain ⟨g5, c5, rfl, hc5⟩ := own_slice1 hown5 hw0
                  have hce : ∀ (j : Nat) y, ws[j]? = some y → w5.cell? ⟨g5, 0 + j, none⟩ = some (.string y) := fun j y hj => by
                    have := hown5.cells (g := g5) rfl j (.string y) (by rw [List.getElem?_map, hj]; rfl)
                    rw [show (⟨g5, 0, none⟩ : Addr).add j = ⟨g5, 0 + j, none⟩ by unfold Addr.add; split <;> simp_all] at this
                    exact this
                  have hg5 := (hown5.lt g5 rfl).2
                  have PL := (HPA.out.below hb5).words g5 c5 ws hce hg5 (by omega) hc5 (by omega)
                  clear hce hown5 hb5 q0 q1 q2 q3 d0 d1 d2 d3 d4 d5 q0' q1' q2' q3' hal CR RW
                  go_wp2_with fail
                  refine PL.mono ?_
                  rintro e w6 ⟨rfl, h6, _⟩
                  have H6 : Hid (PrAt w v (textB [32] [] [] [] (wordsS l.sections ++ (wordsG l.signals ++ (wordsP l l.points ++ wordsR l ((rs.take (k + 1)).map (·.1)))))) w6) := by rw [HDD.out]; exact h6
                  clear h6 PL
                  go_wp2
                  go_roundg (n3 - (k + 1))
                  case rel => exact ⟨k + 1, rfl, by omega, by go_num, GOZ.out, H6.out⟩
                  case measure => omega
                · have hki : ¬ (k : Int) < (n3 : Int) := by omega
                  have hzl : (textB [32] [] [] [] (wordsS l.sections ++ (wordsG l.signals ++ (wordsP l l.points ++ wordsR l ((rs.take k).map (·.1)))))).length ≤ 100000000000 := by omega
                  rw [take_all HS3.out (by omega), HM.out] at HP hzl
                  have PS := Tryd.Builder_String_any_k w.heap.size (w.heap.size + 1) _ _ HP.out.1 (by omega)
                  have HPT : Hid ((⟨(textB [32] [] [] [] (lineWords l)).toArray⟩ : ByteArray) = printT l) := by
                    show _ = _
                    rw [printT, cur_text]
                    rfl
                  have HZ : Hid ((printT l).size ≤ 100000000000) := by
                    show _ ≤ _
                    rw [← HPT.out, Lib.size_eq]
                    exact hzl
                  clear hzl hz
                  go_wp2_with fail
                  refine PS.mono ?_
                  rintro e w1 ⟨rfl, _, hb, _⟩
                  have hbf := hbl.trans hb
                  clear hb PS q0 q1 q2 q3
                  go_wp2
                  go_ret
                  exact ⟨by rw [← HPT.out]; rfl, HZ.out, hbf⟩
end Go.Proofs.YtgiaicmhnkhbnaaDoor
