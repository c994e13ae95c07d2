/-
  The reference's Read: by a contract.
-/
import Derived.Test.YtelmjkjbbbgmpaaFlRead
namespace Go.Proofs.Ytelmjkjbbbgmpaa
open Go.RowKit

theorem its_at (l : List It) (j : Nat) (k : Int) : thAt (l.map It.th) (j : Int) k = (l[j]?).bind fun x => if x.th.k = k then some x.th else none := by
  unfold thAt
  rw [if_neg (by omega), Int.toNat_natCast, List.getElem?_map]
  cases l[j]? <;> rfl
theorem its_num {l : List It} {j : Nat} {n : Int} (h : l[j]? = some (.inl n)) : thAt (l.map It.th) (j : Int) 1 = some ⟨1, n, ⟨#[]⟩, false⟩ := by rw [its_at, h]; rfl
theorem its_no {l : List It} {j : Nat} (h : ∀ n, l[j]? ≠ some (.inl n)) : thAt (l.map It.th) (j : Int) 1 = none := by
  rw [its_at]
  cases hx : l[j]? with
  | none => rfl
  | some x =>
    rcases x with n | s | b
    · exact absurd hx (h n)
    · rfl
    · rfl
theorem its_text {l : List It} {s : ByteArray} {b : Bool} (h : textOf (itAt l 0) = (s, b)) : thAt (l.map It.th) 0 2 = if b = true then some ⟨2, 0, s, false⟩ else none := by
  have h0 : thAt (l.map It.th) 0 2 = (l[0]?).bind fun x => if x.th.k = 2 then some x.th else none := its_at l 0 2
  rw [h0]
  rw [show itAt l 0 = l[0]? from itAt_nat l 0] at h
  cases hx : l[0]? with
  | none => rw [hx] at h; injection h with h1 h2; subst h2; rfl
  | some x =>
    rw [hx] at h
    rcases x with n | s' | b'
    · injection h with h1 h2; subst h2; rfl
    · injection h with h1 h2; subst h1 h2; rfl
    · injection h with h1 h2; subst h2; rfl
theorem read_short {l : List It} (h : l.length < 4) : readV l = none := by
  unfold readV
  cases hn : numV l with
  | none => rfl
  | some n =>
    have : n.length ≤ 2 := by
      unfold numV at hn
      split at hn
      · rw [nuT_len hn]; omega
      · cases hn
    show readN n = none
    rw [readN, if_pos (by omega)]

set_option maxRecDepth 1000000 in
set_option maxHeartbeats 4000000 in
theorem rfRead_any (p : Value) (l : List It) (w : World) (h : ReadsT w p (l.map It.th)) :
    Calls Try.prog 30 #[p] w fun e w' => RdAns w' w.heap.size (readV l) e ∧ Below w.heap.size w w' := by
  have HR : Hid (ReadsT w p (l.map It.th)) := h
  obtain ⟨c, oa, cap, rfl, hc, -, hl, -⟩ := h
  rw [List.length_map] at hc hl
  have HC : Hid (∀ W, Below w.heap.size w W → W.cell? ⟨c, 0, none⟩ = some (.slice oa l.length cap)) := fun W hW => up_cell hW hc
  have T := at_any _ _ 0 2 w HR.out
  obtain ⟨s, b, hsb⟩ : ∃ s b, textOf (itAt l 0) = (s, b) := ⟨_, _, rfl⟩
  rw [its_text hsb] at T
  have HH : Hid (headB l = decide ((s, b) = (stateS, true))) := by show headB l = _; rw [headB, hsb]
  clear hc hsb
  cases b
  · have HX : Hid (readV l = none) := by
      show readV l = none
      rw [readV, numV, if_neg (by rw [HH.out]; simp)]
      rfl
    rw [if_neg (by decide)] at T
    simp only [thOr, Th.val, Th.zero, Option.isSome_none] at T
    go_enter Try.func30, Try.ntmps30
    go_wp2_with fail
    refine T.mono ?_
    rintro e w1 ⟨rfl, hb1⟩
    have H1 : Hid (Below w.heap.size w (w1.alloc (.cells #[.int .i64 0, .int .i64 0, .string ⟨#[]⟩, .bool false] 53))) := hb1.alloc hb1.size _
    clear T hb1
    go_wp2
    refine bodyPost_ret (v := .tuple #[.int .i64 0, .int .i64 0, .slice none 0 0, .bool false]) (by simp [results, Try.results30, go_sem]) rfl ?_
    exact ⟨.inr ⟨HX.out, rfl⟩, H1.out⟩
  · rw [if_pos rfl] at T
    simp only [thOr, Th.val, Option.isSome_some] at T
    by_cases hs : s = stateS
    · have hh : headB l = true := by rw [HH.out, hs]; exact decide_eq_true rfl
      have HV : Hid (readV l = (nuT l (l.length - 1)).bind readN) := by show readV l = _; rw [readV, numV, if_pos hh]
      have hne : (s.toList == [115, 116, 97, 116, 101]) = true := by rw [state_eq]; exact decide_eq_true hs
      clear hs hh
      by_cases h4 : l.length < 4
      · have HX : Hid (readV l = none) := read_short h4
        have h4i : (l.length : Int) < 4 := by omega
        generalize l.length = m at *
        go_enter Try.func30, Try.ntmps30
        go_wp2_with fail
        refine T.mono ?_
        rintro e w1 ⟨rfl, hb1⟩
        have H1 : Hid (Below w.heap.size w (w1.alloc (.cells #[.int .i64 2, .int .i64 0, .string s, .bool false] 53))) := hb1.alloc hb1.size _
        have cc := HC.out _ H1.out
        have cc1 := HC.out _ hb1
        clear T hb1
        go_wp2
        refine bodyPost_ret (v := .tuple #[.int .i64 0, .int .i64 0, .slice none 0 0, .bool false]) (by simp [results, Try.results30, go_sem]) rfl ?_
        exact ⟨.inr ⟨HX.out, rfl⟩, H1.out⟩
      · obtain ⟨m, hm⟩ : ∃ m, l.length = m + 1 := ⟨l.length - 1, by omega⟩
        have HM : Hid (l.length = m + 1) := hm
        rw [hm, Nat.add_sub_cancel] at HV
        rw [hm] at HC hl h4
        have h4i : ¬ (m : Int) + 1 < 4 := by omega
        clear hm
        go_enter Try.func30, Try.ntmps30
        go_wp2_with fail
        refine T.mono ?_
        rintro e w1 ⟨rfl, hb1⟩
        have H1 : Hid (Below w.heap.size w (w1.alloc (.cells #[.int .i64 2, .int .i64 0, .string s, .bool false] 53))) := hb1.alloc hb1.size _
        have cc := HC.out _ H1.out
        have cc1 := HC.out _ hb1
        clear T hb1
        go_wp2
        go_loopg [8, 9] m (fun gk v i wr => ∃ k j : Nat, ∃ acc, gk = m - k ∧ i = .int .i64 (j : Int) ∧ j = k + 1 ∧ k ≤ m ∧ nuT l k = some acc ∧ IRow wr w.heap.size v acc ∧ Below w.heap.size w wr)
        case atStart => exact ⟨0, 1, [], rfl, rfl, rfl, by omega, rfl, World.ownsRow_nil _ _ _ _, H1.out⟩
        case round =>
          obtain ⟨k, j, acc, rfl, rfl, hj, hk, k1, k2, k3⟩ := hrel
          have HJ : Hid (j = k + 1) := hj
          have HK : Hid (nuT l k = some acc ∧ IRow wr w.heap.size u8 acc ∧ Below w.heap.size w wr) := ⟨k1, k2, k3⟩
          have HAL : Hid (acc.length = k) := nuT_len k1
          clear k1 k2 k3 cc cc1
          have cw := HC.out wr HK.out.2.2
          have I := at_any _ _ (j : Int) 1 wr (HR.out.below HK.out.2.2)
          by_cases hlt : k < m
          · have hji : (j : Int) < (m : Int) + 1 := by omega
            by_cases hx : ∃ n, l[j]? = some (.inl n)
            · obtain ⟨n, hx⟩ := hx
              have HX : Hid (nuT l (k + 1) = some (acc ++ [n])) := nuT_next HK.out.1 (by rw [← hj]; exact hx)
              rw [its_num hx] at I
              simp only [thOr, Th.val, Option.isSome_some] at I
              clear hx hj
              go_wp2_with fail
              refine I.mono ?_
              rintro e w2 ⟨rfl, hb2⟩
              have hbx : Below wr.heap.size wr ((w2.alloc (.cells #[.int .i64 1, .int .i64 n, .string ⟨#[]⟩, .bool false] 53)).alloc (.cells #[.int .i64 n] 3)) := (hb2.alloc hb2.size _).alloc (by have := hb2.size; simp; omega) _
              have hbw := HK.out.2.2.trans (hbx.mono HK.out.2.2.size)
              obtain ⟨v3, w3, r3, i3, b3⟩ := app_int _ w.heap.size u8 (.slice (some ⟨w2.heap.size + 1, 0, none⟩) 1 1) acc [n] (HK.out.2.1.below hbx) hbw.size
                (row_blk (cs := iC) (fun _ => rfl) [n] (blk_at1 _ _ _) rfl) (by rw [HAL.out]; show k + 1 ≤ _; omega)
              have H3 : Hid (IRow w3 w.heap.size v3 (acc ++ [n]) ∧ Below w.heap.size w w3) := ⟨i3, hbw.trans b3⟩
              clear hbx hbw i3 b3 hb2 I
              go_wp2_with (at_builtin; refine wpList_app_run rfl _ _ 23 rfl _ _ rfl rfl v3 w3 r3 ?_)
              go_roundg (m - (k + 1))
              case rel => exact ⟨k + 1, j + 1, _, rfl, by go_num, by have := HJ.out; omega, by omega, HX.out, H3.out⟩
              case measure => omega
            · have HX : Hid (readV l = none) := by
                show readV l = none
                rw [HV.out, nuT_stop (k := k) (fun n hn => hx ⟨n, by rw [hj]; exact hn⟩) m hlt]
                rfl
              rw [its_no fun n hn => hx ⟨n, hn⟩] at I
              simp only [thOr, Th.val, Th.zero, Option.isSome_none] at I
              clear hx hj
              go_wp2_with fail
              refine I.mono ?_
              rintro e w2 ⟨rfl, hb2⟩
              have H2 : Hid (Below w.heap.size w (w2.alloc (.cells #[.int .i64 0, .int .i64 0, .string ⟨#[]⟩, .bool false] 53))) := by
                have h := HK.out.2.2.trans (hb2.mono HK.out.2.2.size)
                exact h.alloc h.size _
              clear I hb2
              go_wp2
              refine bodyPost_ret (v := .tuple #[.int .i64 0, .int .i64 0, .slice none 0 0, .bool false]) (by simp [results, Try.results30, go_sem]) rfl ?_
              exact ⟨.inr ⟨HX.out, rfl⟩, H2.out⟩
          · have hke : k = m := by omega
            have hji : ¬ (j : Int) < (m : Int) + 1 := by omega
            subst hke
            clear hj I
            rw [HK.out.1] at HV
            have HX : Hid (readV l = readN acc) := HV.out
            have ha3 : ¬ acc.length < 3 := by rw [HAL.out]; omega
            obtain ⟨g, cg, rfl, hgc, hg1, hg2⟩ := irow_room HK.out.2.1 (by omega)
            have HY : Hid (readV l = (takeV (acc.drop 3)).bind fun r => if acc.getD 2 0 = (r.length : Int) then some (acc.getD 0 0, acc.getD 1 0, r) else none) := by
              show readV l = _
              rw [HX.out, readN, if_neg ha3]
            obtain ⟨q, hq⟩ : ∃ q, acc.length = q + 3 := ⟨acc.length - 3, by omega⟩
            obtain ⟨x0, e0⟩ := at_of (l := acc) (k := 0) (by omega)
            obtain ⟨x1, e1⟩ := at_of (l := acc) (k := 1) (by omega)
            obtain ⟨x2, e2⟩ := at_of (l := acc) (k := 2) (by omega)
            rw [getD_at e0, getD_at e1, getD_at e2] at HY
            obtain ⟨d, hd⟩ : ∃ d, cg = d + 3 := ⟨cg - 3, by omega⟩
            subst hd
            rw [hq] at HK ⊢
            have H5 : Hid (IRow wr w.heap.size (.slice (some ⟨g, 0, none⟩) (q + 3) (d + 3)) acc ∧ Below w.heap.size w wr) := HK.out.2
            obtain ⟨so, hsl, hsr⟩ := slice_3 g q d (by omega)
            have T := rfTake_any (.slice so q d) (acc.drop 3) wr (hsr _ _ H5.out.1.row) (by have := HAL.out; rw [List.length_drop]; omega)
            have HCC : Hid (∀ W, Below wr.heap.size wr W → W.cell? ⟨g, 0, none⟩ = some (.int .i64 x0) ∧ W.cell? ⟨g, 1, none⟩ = some (.int .i64 x1) ∧ W.cell? ⟨g, 2, none⟩ = some (.int .i64 x2)) := fun W hW =>
              ⟨up_cell hW (H5.out.1.cell e0), up_cell hW (H5.out.1.cell e1), up_cell hW (H5.out.1.cell e2)⟩
            clear hsr e0 e1 e2 hq hgc HK ha3 HX HV
            go_wp2_with fail
            refine T.mono ?_
            rintro e w2 ⟨he, hb2⟩
            obtain ⟨c0, c1, c2⟩ := HCC.out w2 hb2
            rcases he with ⟨r, v, hd, rfl, hi⟩ | ⟨hd, rfl⟩
            · rw [hd] at HY
              have H2 : Hid (SRow w2 w.heap.size v r ∧ Below w.heap.size w w2) := ⟨owns_mono hi H5.out.2.size, H5.out.2.trans (hb2.mono H5.out.2.size)⟩
              obtain ⟨ov2, cv, rfl⟩ := owns_slice hi
              clear T hsl hi hb2 hd
              by_cases hx2 : x2 = (r.length : Int)
              · have HZ : Hid (readV l = some (x0, x1, r)) := by
                  show readV l = _
                  rw [HY.out]
                  show (if x2 = (r.length : Int) then some (x0, x1, r) else none) = _
                  rw [if_pos hx2]
                have hne2 : ((r.length : Int) != x2) = false := by simp [hx2]
                clear hx2
                generalize r.length = rn at *
                go_wp2_with fail
                go_quiet (fail)
                go_wp2
                refine bodyPost_ret (v := .tuple #[.int .i64 x0, .int .i64 x1, .slice ov2 rn cv, .bool true]) (by simp [results, Try.results30, go_sem]) rfl ?_
                exact ⟨.inl ⟨x0, x1, r, _, HZ.out, rfl, H2.out.1.below (_root_.Go.below_drewN (Below.refl _ w2) nq)⟩, H2.out.2.trans ((_root_.Go.below_drewN (Below.refl _ w2) nq).mono H2.out.2.size)⟩
              · have HZ : Hid (readV l = none) := by
                  show readV l = _
                  rw [HY.out]
                  show (if x2 = (r.length : Int) then some (x0, x1, r) else none) = _
                  rw [if_neg hx2]
                have hne2 : ((r.length : Int) != x2) = true := by rw [bne_iff_ne]; exact fun e => hx2 e.symm
                clear hx2
                generalize r.length = rn at *
                go_wp2
                refine bodyPost_ret (v := .tuple #[.int .i64 0, .int .i64 0, .slice none 0 0, .bool false]) (by simp [results, Try.results30, go_sem]) rfl ?_
                exact ⟨.inr ⟨HZ.out, rfl⟩, H2.out.2⟩
            · rw [hd] at HY
              have H2 : Hid (Below w.heap.size w w2) := H5.out.2.trans (hb2.mono H5.out.2.size)
              have HZ : Hid (readV l = none) := HY.out
              clear T hsl hb2 hd
              go_wp2
              refine bodyPost_ret (v := .tuple #[.int .i64 0, .int .i64 0, .slice none 0 0, .bool false]) (by simp [results, Try.results30, go_sem]) rfl ?_
              exact ⟨.inr ⟨HZ.out, rfl⟩, H2.out⟩
    · have HX : Hid (readV l = none) := by
        show readV l = none
        rw [readV, numV, if_neg (by rw [HH.out]; simp [hs])]
        rfl
      have hne : (s.toList == [115, 116, 97, 116, 101]) = false := by rw [state_eq]; exact decide_eq_false hs
      clear hs
      go_enter Try.func30, Try.ntmps30
      go_wp2_with fail
      refine T.mono ?_
      rintro e w1 ⟨rfl, hb1⟩
      have H1 : Hid (Below w.heap.size w (w1.alloc (.cells #[.int .i64 2, .int .i64 0, .string s, .bool false] 53))) := hb1.alloc hb1.size _
      clear T hb1
      go_wp2
      refine bodyPost_ret (v := .tuple #[.int .i64 0, .int .i64 0, .slice none 0 0, .bool false]) (by simp [results, Try.results30, go_sem]) rfl ?_
      exact ⟨.inr ⟨HX.out, rfl⟩, H1.out⟩
end Go.Proofs.Ytelmjkjbbbgmpaa
