/-
  addLine (package plan), by a contract; byPlaces' contract is a premise.
-/
import Derived.Test.YtgiaicmhnkhbnaaDoorPlAddR
namespace Go.Proofs.YtgiaicmhnkhbnaaDoor
open Go.RowKit

def wordC (x : ByteArray × Nat) : List Value := [.string x.1, .int .i64 x.2]
theorem RdIn.new {w : World} {B : Nat} {v : Value} {ws : List (ByteArray × Nat)} (h : w.ownsRow B 102 2 v ws.length (wordCells ws)) (hl : ws.length ≤ 4294967296) :
    RdIn (w.alloc (.cells #[v, .int .i64 0] 88)) w.heap.size (ws.map (·.1), 0) := by
  have hr : rowAt w v 2 wordC ws := rowAt_of_owns (fun _ => rfl) h
  have hb : Below w.heap.size w (w.alloc (.cells #[v, .int .i64 0] 88)) := (Below.refl _ _).alloc (Nat.le_refl _) _
  obtain ⟨oa, cap, rfl, h2⟩ := hr
  have hcap : ws.length ≤ cap := by
    rcases h.2 with ⟨e, h0⟩ | ⟨g, c, cur, e, _, _, hc, _⟩
    · omega
    · simp at e
      omega
  refine ⟨oa, cap, ?_, by simpa using hcap, by simpa using hl, fun j x hj => ?_⟩
  · rw [List.length_map]
    exact blk_new _ _
  · rw [List.getElem?_map] at hj
    obtain ⟨y, hy, rfl⟩ := Option.map_eq_some_iff.1 hj
    obtain ⟨g, off, e, hc⟩ := h2 j y hy
    have c0 := hc 0 _ rfl
    have hlt := World.block_lt_of_cell? w _ c0
    exact ⟨g, off, e, hlt, (hb.cell (p := ⟨g, off + j * 2 + 0, none⟩) hlt).trans c0⟩

theorem noRemark_size (s : ByteArray) : (noRemark s).size ≤ s.size := by
  rw [noRemark]
  split
  · simp
    omega
  · exact Nat.le_refl _
theorem wordsL_len (s : ByteArray) : (wordsL s).length ≤ s.size := by
  have h1 := splitF_length s (runesAt s 0) 0 0 false 0 0
  have h2 := runesAt_le s 0
  rw [wordsL]
  have h3 : (if false = true then 1 else 0) = 0 := rfl
  rw [h3] at h1
  omega

theorem L4.layS {w : World} {B L : Nat} {v' : Nat → Value} {l : Lay} {rs : List RtV} {ns : List ByteArray} (h : L4 w B L v' (upd (nOf l) 0 ns.length) (upd (csOf l rs) 0 (ns.flatMap sC)) (fun W => ∀ x ∈ rs, RtAt W x)) (hm : rs.map (·.1) = l.routes) (ok : LayOk l) (hn : ns.length ≤ 10) : LayIn w B L { l with sections := ns } :=
  ⟨⟨hn, ok.p, ok.g, ok.r⟩, v', rs, hm, h.congr (lt_four rfl rfl rfl rfl) (lt_four rfl rfl rfl rfl)⟩
theorem L4.layG {w : World} {B L : Nat} {v' : Nat → Value} {l : Lay} {rs : List RtV} {ns : List ByteArray} (h : L4 w B L v' (upd (nOf l) 2 ns.length) (upd (csOf l rs) 2 (ns.flatMap sC)) (fun W => ∀ x ∈ rs, RtAt W x)) (hm : rs.map (·.1) = l.routes) (ok : LayOk l) (hn : ns.length ≤ 6) : LayIn w B L { l with signals := ns } :=
  ⟨⟨ok.s, ok.p, hn, ok.r⟩, v', rs, hm, h.congr (lt_four rfl rfl rfl rfl) (lt_four rfl rfl rfl rfl)⟩
theorem addNameP_len (l : List ByteArray) (most : Nat) (r : Rd) (h : l.length ≤ most) : (addNameP l most r).2.length ≤ most := by
  rw [addNameP]
  split
  · exact h
  · split
    · exact h
    · split
      · exact h
      · simp
        omega

set_option maxRecDepth 1000000 in
set_option maxHeartbeats 4000000 in
theorem addLine_any (hby : BySaid) {B L : Nat} (l : Lay) (line : ByteArray) (w : World) (h : LayIn w B L l) (hs : line.size ≤ 4294967295) :
    Calls Tryd.prog 35 #[.pointer (some ⟨L, 0, none⟩), .string line] w fun e w' => e = .returned (.int .i64 (addLineP l line).1) ∧
      ((addLineP l line).1 = 0 → LayIn w' B L (addLineP l line).2) ∧ Below B w w' := by
  have HBY : Hid BySaid := hby
  have HLI : Hid (LayIn w B L l) := h
  have hB : B ≤ w.heap.size := by have := h.lt; omega
  clear h hby
  have N1 := fun W => noRemark_any line W (by unfold maxLen; omega)
  have hns := noRemark_size line
  have HU : Hid (addLineP l line = if wrongO (noRemark line).data.toList = none then addWords l ((wordsL (noRemark line)).map (·.1)) else (2, l)) := rfl
  generalize addLineP l line = ans at *
  generalize noRemark line = s at *
  have D1 : Hid (∀ W, Calls Tryd.prog 44 #[.string line] W fun e w' => e = .returned (.string s) ∧ Below W.heap.size W w') := N1
  clear N1
  have hwl := wordsL_len s
  cases hw : wrongO s.data.toList with
  | some n =>
    have HW : Hid (wrongO s.data.toList = some n) := hw
    rw [hw, if_neg (by simp)] at HU
    clear hw
    have hn0 : (0 : Int) ≤ (n : Int) := by omega
    go_enter Tryd.func35, Tryd.ntmps35
    go_wp2_with fail
    refine (D1.out _).mono ?_
    rintro e w1 ⟨rfl, hb1⟩
    go_wp2_with fail
    refine (words_bad s _ (by omega) n HW.out).mono ?_
    rintro e w2 ⟨rfl, hb2⟩
    go_wp2
    go_ret
    exact ⟨by rw [HU.out]; rfl, fun e => by rw [HU.out] at e; simp at e, (stepB hb1 hb2).mono hB⟩
  | none =>
    have HW : Hid (wrongO s.data.toList = none) := hw
    rw [hw, if_pos rfl] at HU
    clear hw
    go_enter Tryd.func35, Tryd.ntmps35
    go_wp2_with fail
    refine (D1.out _).mono ?_
    rintro e w1 ⟨rfl, hb1⟩
    go_wp2_with fail
    refine (words_ok s _ (by omega) HW.out).mono ?_
    rintro e w2 ⟨v, rfl, hown, hb2⟩
    have HB2 : Hid (Below w.heap.size w w2) := stepB hb1 hb2
    have HL2 : Hid (LayIn w2 B L l) := HLI.out.below HB2.out
    have HRN : Hid (RdIn (w2.alloc (.cells #[v, .int .i64 0] 88)) w2.heap.size ((wordsL s).map (·.1), 0)) := RdIn.new hown (by omega)
    obtain ⟨oa, cap, rfl⟩ := own_slice hown
    have HLW : Hid (((wordsL s).map (·.1)).length = (wordsL s).length) := List.length_map _
    clear hown hb1 hb2 D1 HLI
    generalize hwsl : (wordsL s).length = nw at *
    generalize (wordsL s).map (·.1) = ws at *
    clear hwsl
    cases ws with
    | nil =>
      have h0 : nw = 0 := HLW.out.symm
      subst h0
      go_wp2
      go_ret
      exact ⟨by rw [HU.out]; rfl, fun _ => by rw [HU.out]; exact HL2.out, HB2.out.mono hB⟩
    | cons x ws =>
      have hnw : nw = ws.length + 1 := HLW.out.symm
      have hwn : ((nw : Int) == 0) = false := by simp; omega
      have hlen : ws.length ≤ 4294967295 := by omega
      have D2 : Hid (Calls Tryd.prog 45 #[.pointer (some ⟨w2.heap.size, 0, none⟩)] (w2.alloc (.cells #[.slice oa nw cap, .int .i64 0] 88)) fun en w' => en = .returned (.string x) ∧ RdIn w' w2.heap.size (ws, 0) ∧ (w2.alloc (.cells #[.slice oa nw cap, .int .i64 0] 88)).grownBy w' (some w2.heap.size)) := next_any _ _ _ HRN.out
      have hb3 : Below w2.heap.size w2 (w2.alloc (.cells #[.slice oa nw cap, .int .i64 0] 88)) := (Below.refl _ _).alloc (Nat.le_refl _) _
      have HB3 : Hid (Below w2.heap.size w2 (w2.alloc (.cells #[.slice oa nw cap, .int .i64 0] 88))) := hb3
      have HUX : Hid (addWords l (x :: ws) = if x = kSection then ((addNameP l.sections 10 (ws, 0)).1, { l with sections := (addNameP l.sections 10 (ws, 0)).2 })
        else if x = kSignal then ((addNameP l.signals 6 (ws, 0)).1, { l with signals := (addNameP l.signals 6 (ws, 0)).2 })
        else if x = kPoint then addPointP l (ws, 0)
        else if x = kRoute then addRouteP l (ws, 0)
        else (2, l)) := rfl
      rw [HUX.out] at HU
      clear HUX HLW hnw HRN hb3
      go_wp2_with fail
      refine D2.out.mono ?_
      rintro e w3 ⟨rfl, hr3, hg3⟩
      have HB4 : Hid (Below w2.heap.size w2 w3) := HB3.out.grown hg3 HB3.out.size (fun k e => by cases e; exact Nat.le_refl _)
      have HR3 : Hid (RdIn w3 w2.heap.size (ws, 0)) := hr3
      clear hr3 hg3 D2 HB3
      by_cases x1 : x.toList = [115, 101, 99, 116, 105, 111, 110]
      · rw [if_pos (show x = kSection from (lit_iff _ _).1 x1)] at HU
        obtain ⟨ok, vv, rs, hm, h4⟩ := HL2.out
        have hok := ok.s
        have D3 := addName_any w2.heap.size 0 10 (ws, 0) l.sections w2 w3 h4 (.inl rfl) rfl rfl HB4.out (Nat.le_refl _) HR3.out hok
        have HLE := addNameP_len l.sections 10 (ws, 0) hok
        clear h4 ok
        have HM : Hid (rs.map (·.1) = l.routes) := hm
        clear hm
        go_wp2_with fail
        refine D3.mono ?_
        rintro e w4 ⟨rfl, hl4, hb4⟩
        have HB5 : Hid (Below B w2 w4) := hb4
        have HL4 : Hid (LayIn w4 B L l → True) := fun _ => trivial
        clear hb4 HL4
        go_wp2
        go_ret
        refine ⟨by rw [HU.out]; rfl, fun e => ?_, (HB2.out.mono hB).trans HB5.out⟩
        rw [HU.out] at e ⊢
        obtain ⟨v', q⟩ := hl4 e
        exact q.layS HM.out HL2.out.1 HLE
      · rw [if_neg (show ¬ x = kSection from fun e => x1 ((lit_iff _ _).2 e))] at HU
        by_cases x2 : x.toList = [115, 105, 103, 110, 97, 108]
        · rw [if_pos (show x = kSignal from (lit_iff _ _).1 x2)] at HU
          obtain ⟨ok, vv, rs, hm, h4⟩ := HL2.out
          have hok := ok.g
          have D3 := addName_any w2.heap.size 2 6 (ws, 0) l.signals w2 w3 h4 (.inr rfl) rfl rfl HB4.out (Nat.le_refl _) HR3.out (by omega)
          have HLE := addNameP_len l.signals 6 (ws, 0) hok
          clear h4 ok
          have HM : Hid (rs.map (·.1) = l.routes) := hm
          clear hm
          go_wp2_with fail
          refine D3.mono ?_
          rintro e w4 ⟨rfl, hl4, hb4⟩
          have HB5 : Hid (Below B w2 w4) := hb4
          clear hb4
          go_wp2
          go_ret
          refine ⟨by rw [HU.out]; rfl, fun e => ?_, (HB2.out.mono hB).trans HB5.out⟩
          rw [HU.out] at e ⊢
          obtain ⟨v', q⟩ := hl4 e
          exact q.layG HM.out HL2.out.1 HLE
        · rw [if_neg (show ¬ x = kSignal from fun e => x2 ((lit_iff _ _).2 e))] at HU
          by_cases x3 : x.toList = [112, 111, 105, 110, 116]
          · rw [if_pos (show x = kPoint from (lit_iff _ _).1 x3)] at HU
            go_wp2_with fail
            refine (addPoint_any w2.heap.size (ws, 0) l w2 w3 HL2.out HB4.out (Nat.le_refl _) HR3.out).mono ?_
            rintro e w4 ⟨rfl, hl4, hb4⟩
            go_wp2
            go_ret
            exact ⟨by rw [HU.out]; rfl, fun e => by rw [HU.out] at e ⊢; exact hl4 e, (HB2.out.mono hB).trans hb4⟩
          · rw [if_neg (show ¬ x = kPoint from fun e => x3 ((lit_iff _ _).2 e))] at HU
            by_cases x4 : x.toList = [114, 111, 117, 116, 101]
            · rw [if_pos (show x = kRoute from (lit_iff _ _).1 x4)] at HU
              go_wp2_with fail
              refine (addRoute_any HBY.out w2.heap.size (ws, 0) l w2 w3 HL2.out HB4.out (Nat.le_refl _) HR3.out hlen).mono ?_
              rintro e w4 ⟨rfl, hl4, hb4⟩
              go_wp2
              go_ret
              exact ⟨by rw [HU.out]; rfl, fun e => by rw [HU.out] at e ⊢; exact hl4 e, (HB2.out.mono hB).trans hb4⟩
            · rw [if_neg (show ¬ x = kRoute from fun e => x4 ((lit_iff _ _).2 e))] at HU
              have z1 : (x.toList == [115, 101, 99, 116, 105, 111, 110]) = false := by simpa using x1
              have z2 : (x.toList == [115, 105, 103, 110, 97, 108]) = false := by simpa using x2
              have z3 : (x.toList == [112, 111, 105, 110, 116]) = false := by simpa using x3
              have z4 : (x.toList == [114, 111, 117, 116, 101]) = false := by simpa using x4
              clear x1 x2 x3 x4
              go_wp2
              go_ret
              exact ⟨by rw [HU.out]; rfl, fun e => by rw [HU.out] at e; simp at e, (stepB HB2.out HB4.out).mono hB⟩

end Go.Proofs.YtgiaicmhnkhbnaaDoor
