/-
  Of any row of acts: RelayPlays returns true. No condition.
-/
import Derived.Test.YtmnhlnhocnchpaaRows
import Derived.Test.YtmnhlnhocnchpaaRlKnown
import Derived.Test.YtmnhlnhocnchpaaRlArgs
import Derived.Test.YtmnhlnhocnchpaaRlRef
import Derived.Test.YtmnhlnhocnchpaaLyMix
import Derived.Test.YtmnhlnhocnchpaaFlExt
import Derived.ShutString
namespace Go.Proofs.Ytmnhlnhocnchpaa.relayPlays
open Go.ChangeShapes Go.WideShapes Go.ChangeAt Go.RowKit

/-- The program's relay and the reference's stand alike, apart from one another. -/
structure Two (w W : World) (b xb : Nat) (s : Rl) (n : Int) : Prop where
  l : RlL w W b s n
  r : RfAt W xb s
  ge : w.heap.size ≤ xb
  ne : xb ≠ b
theorem Two.below {w W W' : World} {b xb : Nat} {s : Rl} {n : Int} (h : Two w W b xb s n) (hb : Below W.heap.size W W') : Two w W' b xb s n := ⟨h.l.below hb, blk_below hb h.r, h.ge, h.ne⟩
/-- Behind the program's call, ahead of the reference's. -/
structure Mid (w W : World) (b xb : Nat) (s s' : Rl) (n n' : Int) : Prop where
  l : RlL w W b s' n'
  r : RfAt W xb s
  ok : RlOk s n
  ge : w.heap.size ≤ xb
  ne : xb ≠ b
theorem Two.mid {w W W' : World} {b xb : Nat} {s s' : Rl} {n n' : Int} (h : Two w W b xb s n) (hl : RlL w W' b s' n') (hc : Chg (is_ b) W W') : Mid w W' b xb s s' n n' := ⟨hl, hc.blk h.r h.ne, h.l.at_.ok, h.ge, h.ne⟩
theorem Mid.two {w W W' : World} {b xb : Nat} {s s' : Rl} {n n' : Int} (h : Mid w W b xb s s' n n') (hr : RfAt W' xb s') (hc : Chg (is_ xb) W W') : Two w W' b xb s' n' :=
  ⟨⟨h.l.at_.chg hc (fun e => h.ne e.symm), h.l.ge, h.l.bl.trans (hc.below (fun k hk => by have := h.ge; rw [hk]; exact this) h.l.bl.size)⟩, hr, h.ge, h.ne⟩
/-- The worlds above one, where a block holds this. -/
structure ExB (w : World) (b : Nat) (o : Obj) where
  z : World
  h : Below w.heap.size w z
  hb : z.heap[b]? = some o
theorem cells3b {W : World} {b : Nat} {a0 a1 a2 : Value} {t : TypeId} (h : W.heap[b]? = some (.cells #[a0, a1, a2] t (0, 0))) : W.cell? ⟨b, 0, none⟩ = some a0 ∧ W.cell? ⟨b, 1, none⟩ = some a1 ∧ W.cell? ⟨b, 2, none⟩ = some a2 := by
  refine ⟨?_, ?_, ?_⟩ <;> simp [World.cell?, h]

set_option maxRecDepth 1000000 in
set_option maxHeartbeats 8000000 in
theorem walk (w : World) (oa : Option Addr) (n ca : Nat) (a : List Ac) (ea : a.length = n) (_ : OkSl oa n ca) (sa : rowAt w (.slice oa n ca) 3 acC a ∧ ∀ y ∈ a, wfI y.1 ∧ wfI y.2.1 ∧ wfI y.2.2) :
    Calls Try.prog 3 #[.slice oa n ca] w fun e w' => e = .returned (.bool true) ∧ Below w.heap.size w w' := by
  have HA : Hid (rowAt w (.slice oa n ca) 3 acC a ∧ a.length = n ∧ ∀ y ∈ a, wfI y.1 ∧ wfI y.2.1 ∧ wfI y.2.2) := ⟨sa.1, ea, sa.2⟩
  clear sa ea
  by_cases h2 : 10000 < n
  · have h2i : (10000 : Int) < (n : Int) := by omega
    go_enter Try.func3, Try.ntmps3
    go_wp2
    go_ret
    exact ⟨rfl, Below.refl _ _⟩
  have h2i : ¬ (10000 : Int) < (n : Int) := by omega
  go_enter Try.func3, Try.ntmps3
  go_wp2_with fail
  refine (new_l w _ (Below.refl _ _)).mono ?_
  rintro e w1 ⟨b, rfl, h, -, -⟩
  have H1 : Hid (RlL w w1 b newR 0) := h
  clear h
  have N := rfNew_any w1
  have hbl : b < w1.heap.size := by obtain ⟨_, _, _, h, _⟩ := H1.out.at_.ex; exact (Array.getElem?_eq_some_iff.1 h).1
  go_wp2_with fail
  refine N.mono ?_
  rintro e w2 ⟨rfl, h1, h2⟩
  have H2 : Hid (Two w w2 b w1.heap.size newR 0) := ⟨H1.out.below h2, h1, H1.out.bl.size, by omega⟩
  clear N h1 h2 hbl H1
  generalize w1.heap.size = xb at *
  go_wp2
  go_loopg [5, 6] n (fun gk tn i wr => ∃ (k : Nat) (nv : Int) (s : Rl) (c : Int), gk = n - k ∧ tn = .int .i64 nv ∧ i = .int .i64 k ∧ k ≤ n ∧ k ≤ 80 ∧ (-1000 * (k : Int) ≤ nv ∧ nv ≤ 1000 * (k : Int)) ∧ c ≤ k ∧ Two w wr b xb s c)
  case atStart => exact ⟨0, 0, newR, 0, rfl, rfl, rfl, by omega, by omega, by omega, by omega, H2.out⟩
  case round =>
    obtain ⟨k, nv, s, c, rfl, rfl, rfl, hk, hk80, ⟨hnv0, hnv1⟩, hc, hs⟩ := hrel
    have HC : Hid (c ≤ (k : Int)) := hc
    have H10 : Hid (Two w wr b xb s c) := hs
    clear hs hc H2
    by_cases hlt : k < n
    · have hki : (k : Int) < (n : Int) := by omega
      by_cases hlt80 : k < 80
      · have hk8 : (k : Int) < 80 := by omega
        obtain ⟨⟨x0, x1, x2⟩, hx⟩ : ∃ x, a[k]? = some x := at_of (by rw [HA.out.2.1]; exact hlt)
        obtain ⟨g, off, rfl, a0, a1, a2⟩ := row_act (HA.out.1.below H10.out.l.bl) k _ hx
        dsimp only at a0 a1 a2
        clear hx
        have HBA : Hid (Below wr.heap.size wr (wr.alloc (.cells #[.int .i64 x0, .int .i64 x1, .int .i64 x2] 28))) := (Below.refl _ _).alloc (Nat.le_refl _) _
        have HBX : Hid ((wr.alloc (.cells #[.int .i64 x0, .int .i64 x1, .int .i64 x2] 28)).heap[wr.heap.size]? = some (.cells #[.int .i64 x0, .int .i64 x1, .int .i64 x2] 28 (0, 0))) := blk_new _ _
        have HS : Hid (wr.heap.size ≠ b ∧ wr.heap.size ≠ xb) := by
          show _ ∧ _
          obtain ⟨_, _, _, h, _⟩ := H10.out.l.at_.ex
          have h3 := (Array.getElem?_eq_some_iff.1 h).1
          have h4 := (Array.getElem?_eq_some_iff.1 H10.out.r).1
          omega
        have H11 : Hid (Two w (wr.alloc (.cells #[.int .i64 x0, .int .i64 x1, .int .i64 x2] 28)) b xb s c) := H10.out.below HBA.out
        clear H10 HBA
        by_cases hx0 : x0 = 1
        · subst hx0
          by_cases hx2 : x2 < -10
          · go_wp2
            go_ret
            exact ⟨rfl, H11.out.l.bl⟩
          by_cases hx3 : 1000 < x2
          · go_wp2
            go_ret
            exact ⟨rfl, H11.out.l.bl⟩
          go_wp2_with fail
          clear a0 a1 a2
          generalize wr.alloc (.cells #[.int .i64 1, .int .i64 x1, .int .i64 x2] 28) = wb at *
          have D := begin_l w wb b _ _ (nv + x2) H11.out.l _ rfl
          refine D.mono ?_
          rintro e w12 ⟨rfl, hl, hc⟩
          have H12 := (show Hid _ from H11.out.mid hl hc)
          clear D hl hc HBX HS H11
          have E := rfBegin_any w12 xb s c (nv + x2) H12.out.r H12.out.ok
          go_wp2_with fail
          refine E.mono ?_
          rintro e w21 ⟨rfl, hr, hc⟩
          have H21 := (show Hid _ from H12.out.two hr hc)
          clear E hr hc H12
          generalize beginR s (nv + x2) = s' at *
          have C := fun j => con_l (H21.out.l.below (below_drewN (Below.refl _ _) j)) s'.con rfl
          have O := fun j => own_l (H21.out.l.below (below_drewN (Below.refl _ _) j)) s'.own rfl
          have E := fun j => epoch_l (H21.out.l.below (below_drewN (Below.refl _ _) j)) s'.epoch rfl
          obtain ⟨-, z1, z2, z3, -, -, -⟩ := RfRaw.cells H21.out.r
          generalize s'.own = o at C O E z1 z2 z3
          generalize s'.con = cn at C O E z1 z2 z3
          generalize s'.epoch = ep at C O E z1 z2 z3
          have hq1 : (o != o) = false := by simp
          have hq2 : (cn != cn) = false := by simp
          have hq3 : (ep != ep) = false := by simp
          go_wp2_with fail
          go_quiet (first | (go_at_call 18; refine Calls.quiet_of_same (C _)) | (go_at_call 17; refine Calls.quiet_of_same (O _)) | (go_at_call 19; refine Calls.quiet_of_same (E _)))
          clear C O E
          go_wp2
          go_roundg (n - (k + 1))
          case rel => exact ⟨k + 1, nv + x2, _, _, rfl, by go_num, by go_num, by omega, by omega, by omega, by have := HC.out; omega, H21.out.below (below_drewN (Below.refl _ _) _)⟩
          case measure => omega
        have hx0q : (x0 == 1) = false := by simp [hx0]
        by_cases hx1 : x0 = 2
        · subst hx1
          go_wp2_with fail
          clear a0 a1 a2
          generalize wr.alloc (.cells #[.int .i64 2, .int .i64 x1, .int .i64 x2] 28) = wb at *
          generalize wr.heap.size = bx at *
          obtain ⟨p1, p2, p3, hpp⟩ : ∃ p1 p2 p3, askA s x1 x2 = (p1, p2, p3) := ⟨_, _, _, rfl⟩
          have HPP : Hid (askA s x1 x2 = (p1, p2, p3)) := hpp
          have D := ask_l w wb b _ _ x1 x2 H11.out.l (by have := HC.out; omega) p1 p2 p3 _ ⟨hpp, rfl⟩
          clear hpp
          refine D.mono ?_
          rintro e w12 ⟨rfl, hl, hc⟩
          have H12 := (show Hid _ from H11.out.mid hl hc)
          obtain ⟨d0, d1, d2⟩ := cells3b (hc.blk HBX.out (fun e => HS.out.1 e))
          clear D hl hc HBX HS H11
          have E := rfAsk_any w12 xb s c x1 x2 H12.out.r H12.out.ok (by have := HC.out; omega)
          rw [HPP.out] at E
          go_wp2_with fail
          clear d0 d1 d2
          refine E.mono ?_
          rintro e w21 ⟨rfl, hr, hc⟩
          have H21 := (show Hid _ from H12.out.two hr hc)
          clear E hr hc H12
          generalize askR s x1 x2 = s' at *
          clear HPP
          have hp1 : (p1 != p1) = false := by simp
          have hp2 : (p2 != p2) = false := by simp
          have hp3 : (p3 != p3) = false := by simp
          have C := fun j => con_l (H21.out.l.below (below_drewN (Below.refl _ _) j)) s'.con rfl
          have O := fun j => own_l (H21.out.l.below (below_drewN (Below.refl _ _) j)) s'.own rfl
          have E := fun j => epoch_l (H21.out.l.below (below_drewN (Below.refl _ _) j)) s'.epoch rfl
          obtain ⟨-, z1, z2, z3, -, -, -⟩ := RfRaw.cells H21.out.r
          generalize s'.own = o at C O E z1 z2 z3
          generalize s'.con = cn at C O E z1 z2 z3
          generalize s'.epoch = ep at C O E z1 z2 z3
          have hq1 : (o != o) = false := by simp
          have hq2 : (cn != cn) = false := by simp
          have hq3 : (ep != ep) = false := by simp
          go_wp2_with fail
          go_quiet (first | (go_at_call 18; refine Calls.quiet_of_same (C _)) | (go_at_call 17; refine Calls.quiet_of_same (O _)) | (go_at_call 19; refine Calls.quiet_of_same (E _)))
          clear C O E
          go_wp2
          go_roundg (n - (k + 1))
          case rel => exact ⟨k + 1, nv, _, _, rfl, by go_num, by go_num, by omega, by omega, by omega, by have := HC.out; omega, H21.out.below (below_drewN (Below.refl _ _) _)⟩
          case measure => omega
        have hx1q : (x0 == 2) = false := by simp [hx1]
        go_wp2_with fail
        clear a0 a1 a2
        have HBL : Hid (Below w.heap.size w (wr.alloc (.cells #[.int .i64 x0, .int .i64 x1, .int .i64 x2] 28))) := H11.out.l.bl
        generalize wr.alloc (.cells #[.int .i64 x0, .int .i64 x1, .int .i64 x2] 28) = wb at *
        generalize wr.heap.size = bx at *
        have y1 : ∀ y : ExB w bx (.cells #[.int .i64 x0, .int .i64 x1, .int .i64 x2] 28 (0, 0)), y.z.cell? ⟨bx, 1, none⟩ = some (.int .i64 x1) := fun y => (cells3b y.hb).2.1
        haveI : Nonempty (ExB w bx (.cells #[.int .i64 x0, .int .i64 x1, .int .i64 x2] 28 (0, 0))) := ⟨⟨wb, HBL.out, HBX.out⟩⟩
        have HDRW : Hid (Below wb.heap.size wb wb.drew) := (Below.refl _ _).drew
        have HXD := (show Hid _ from blk_below HDRW.out HBX.out)
        have H11D := (show Hid _ from H11.out.below HDRW.out)
        refine wp_region_mix_seq (C := fun W => ∃ y : ExB w bx (.cells #[.int .i64 x0, .int .i64 x1, .int .i64 x2] 28 (0, 0)), W = y.z) [0, 1, 2, 4, 5, 6, 3, 7, 8] (by kernel_rfl) (by kernel_rfl) (by kernel_rfl) (by kernel_rfl) (by simp only [List.filterMap_cons, List.getElem?_toArray, List.getElem?_cons_zero, List.getElem?_cons_succ, List.filterMap_nil]; rfl) ⟨⟨_, H11D.out.l.bl, HXD.out⟩, rfl⟩ ?_
        generalize wb.drew = wd at *
        clear HDRW HBX H11 HBL
        (repeat (first | (with_reducible refine mix_read (by kernel_rfl) ?_; go_big_quiet_want; go_big_quiet_op; go_big_quiet_on; with_reducible refine wpQuiet_nil ?_) | (with_reducible refine mix_pass (by kernel_rfl) ?_; go_big_quiet_skip; with_reducible refine wpQuiet_nil ?_)))
        with_reducible refine mix_call (by kernel_rfl) (by kernel_rfl) ((yield_l w wd b _ _ x1 H11D.out.l _ _ ⟨rfl, rfl⟩).mono ?_) (by kernel_rfl)
        rintro e w12 ⟨rfl, hl, hc⟩
        have H12 := (show Hid _ from H11D.out.mid hl hc)
        have HX12 := (show Hid _ from hc.blk HXD.out (fun e => HS.out.1 e))
        clear hl hc HXD H11D
        refine ⟨_, rfl, ⟨⟨_, H12.out.l.bl, HX12.out⟩, rfl⟩, ?_⟩
        simp only [Act.put, List.setIfInBounds_toArray, List.set_cons_zero, List.set_cons_succ]
        (repeat (first | (with_reducible refine mix_read (by kernel_rfl) ?_; go_big_quiet_want; go_big_quiet_op; go_big_quiet_on; with_reducible refine wpQuiet_nil ?_) | (with_reducible refine mix_pass (by kernel_rfl) ?_; go_big_quiet_skip; with_reducible refine wpQuiet_nil ?_)))
        with_reducible refine mix_call (by kernel_rfl) (by kernel_rfl) ((rfYield_any w12 xb s c x1 H12.out.r H12.out.ok).mono ?_) (by kernel_rfl)
        rintro e w21 ⟨rfl, hr, hc⟩
        have H21 := (show Hid _ from H12.out.two hr hc)
        have HX21 := (show Hid _ from hc.blk HX12.out (fun e => HS.out.2 e))
        clear hr hc HX12 H12
        refine ⟨_, rfl, ⟨⟨_, H21.out.l.bl, HX21.out⟩, rfl⟩, ?_⟩
        simp only [Act.put, List.setIfInBounds_toArray, List.set_cons_zero, List.set_cons_succ]
        generalize yieldA s x1 = p1 at *
        have hp1 : (p1 != p1) = false := by simp
        (repeat (first | (with_reducible refine mix_read (by kernel_rfl) ?_; go_big_quiet_want; go_big_quiet_op; go_big_quiet_on; with_reducible refine wpQuiet_nil ?_) | (with_reducible refine mix_pass (by kernel_rfl) ?_; go_big_quiet_skip; with_reducible refine wpQuiet_nil ?_)))
        with_reducible refine mix_end ?_
        intro _
        clear y1 HX21 HS
        generalize yieldR s x1 = s' at *
        have C := fun j => con_l (H21.out.l.below (below_drewN (Below.refl _ _) j)) s'.con rfl
        have O := fun j => own_l (H21.out.l.below (below_drewN (Below.refl _ _) j)) s'.own rfl
        have E := fun j => epoch_l (H21.out.l.below (below_drewN (Below.refl _ _) j)) s'.epoch rfl
        obtain ⟨-, z1, z2, z3, -, -, -⟩ := RfRaw.cells H21.out.r
        generalize s'.own = o at C O E z1 z2 z3
        generalize s'.con = cn at C O E z1 z2 z3
        generalize s'.epoch = ep at C O E z1 z2 z3
        have hq1 : (o != o) = false := by simp
        have hq2 : (cn != cn) = false := by simp
        have hq3 : (ep != ep) = false := by simp
        go_wp2_with fail
        go_quiet (first | (go_at_call 18; refine Calls.quiet_of_same (C _)) | (go_at_call 17; refine Calls.quiet_of_same (O _)) | (go_at_call 19; refine Calls.quiet_of_same (E _)))
        clear C O E
        go_wp2
        go_roundg (n - (k + 1))
        case rel => exact ⟨k + 1, nv, _, _, rfl, by go_num, by go_num, by omega, by omega, by omega, by have := HC.out; omega, H21.out.below (below_drewN (Below.refl _ _) _)⟩
        case measure => omega
      · have hk8 : ¬ (k : Int) < 80 := by omega
        have H11 : Hid (RlL w wr b s c) := H10.out.l
        have HB : Hid (Below w.heap.size w wr) := H11.out.bl
        clear H11
        go_wp2_with fail
        refine (known_any _).mono ?_
        rintro e wk ⟨rfl, hb⟩
        have HBK : Hid (Below w.heap.size w wk) := HB.out.trans (hb.mono HB.out.size)
        clear hb HB
        go_wp2
        go_ret
        exact ⟨rfl, HBK.out⟩
    · have hki : ¬ (k : Int) < (n : Int) := by omega
      have H11 : Hid (RlL w wr b s c) := H10.out.l
      have HB : Hid (Below w.heap.size w wr) := H11.out.bl
      clear H11
      go_wp2_with fail
      refine (known_any _).mono ?_
      rintro e wk ⟨rfl, hb⟩
      have HBK : Hid (Below w.heap.size w wk) := HB.out.trans (hb.mono HB.out.size)
      clear hb HB
      go_wp2
      go_ret
      exact ⟨rfl, HBK.out⟩

theorem own : ownKnob Try.prog.godebug = none := by kernel_rfl

set_option maxRecDepth 100000 in
theorem lifted (os : Os) (started : os.Started) (H : Type) (enc : TypeId × Value → H) :
    ReturnsInHanded {} Try.checked os 3 .any (Rows.relayPlaysSpec.pre6 enc Try.prog Try.f3 Rows.relayPlaysRow.domain false) (Rows.relayPlaysSpec.post enc Try.prog Try.f3 false true false false) := by
  refine returnsInHanded_of_change (C := Try.checked) own started (by kernel_rfl) Try.func3
    (ChangeSpec.witness6 (enc := enc) (C := Try.checked) false ⟨#[], #[.slice none 0 0], []⟩ 8 (by kernel_rfl) (by kernel_rfl) (by kernel_rfl) (by kernel_rfl)) ?_
  intro W base args ds gs before hval0 hW _ _
  have hval : ∀ (j : Nat) t v, Try.f3.params[j]? = some t → args[j]? = some v → Value.okWide Try.prog W .any base t v := hval0
  have hW' := hW
  obtain ⟨p, q, hA0, hV, rfl, _, _⟩ := hW
  have hA : DataW.TrodAll enc Try.prog W 0 (fun _ => true) true Try.f3.params.toList args.toList ds p := hA0
  rw [Try.params3] at hA hval
  obtain ⟨v0, vs0, d0, ds0, p0, q0, hargs, rfl, rfl, h0, r0⟩ := trodAll_cons hA
  obtain ⟨rfl, rfl, rfl⟩ := trodAll_nil r0
  obtain rfl : args = #[v0] := by cases args; simp_all
  obtain ⟨rfl, rfl⟩ := trodVars_none hV
  obtain ⟨a0, len0, cap0, rfl⟩ := okWide_slice Try.underlying22 (hval 0 22 v0 rfl rfl)
  have k0 := h0
  have lt0 : ∀ x ∈ p0, x.block < W.heap.size := by obtain ⟨m, hm⟩ := k0; exact DataW.trod_lt m _ _ _ hm
  obtain ⟨z0, e0, m0, s0⟩ : ∃ l : List Ac, l.length = len0 ∧ OkSl a0 len0 cap0 ∧ (rowAt W (.slice a0 len0 cap0) 3 acC l ∧ ∀ y ∈ l, wfI y.1 ∧ wfI y.2.1 ∧ wfI y.2.2) := by
    obtain ⟨fuel, hf⟩ := h0
    exact open_actr hf
  clear hA0 hval0
  refine (walk W a0 len0 cap0 z0 e0 m0 s0 ).mono fun e W' ⟨he, bel⟩ => ?_
  subst he
  exact ⟨_, rfl, _, _, _, [], _, [], hW', trodAll_mk1 (shut_bool Try.underlying4 _), (trodAll_cons_mk (Below.trod flaidOut (by kernel_rfl) (of_decide_eq_true (by kernel_rfl)) k0 bel lt0) trodAll_mk0), rfl, bel.frame _, fun h => by cases h⟩

theorem over : Rows.relayPlaysRow.holds Try.pinned (OpenSpec.ofChange Rows.relayPlaysSpec) :=
  OpenClaim.holds_of_wide 3 Try.f3 rfl rfl rfl rfl rfl rfl rfl ⟨rfl, rfl, rfl, rfl, rfl⟩ rfl rfl rfl rfl rfl (by kernel_rfl) Try.func3 (by kernel_rfl)
    (of_decide_eq_true (by kernel_rfl)) (by unfold Func.isWrapper; first | (rw [if_pos (by decide +kernel)]; kernel_rfl) | (rw [if_neg (by decide +kernel)]; exact ⟨rfl, rfl⟩))
    (fun os started H enc _ => lifted os started H enc)

end Go.Proofs.Ytmnhlnhocnchpaa.relayPlays
namespace Go.Proofs.Ytmnhlnhocnchpaa
theorem relayPlays_holds : Rows.RelayPlaysSaid := relayPlays.over
#print axioms relayPlays_holds
end Go.Proofs.Ytmnhlnhocnchpaa
