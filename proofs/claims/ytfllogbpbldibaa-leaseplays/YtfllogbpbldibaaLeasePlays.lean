/-
  Of any row of acts and any row of numbers: LeasePlays returns true. No condition.
-/
import Derived.Test.YtfllogbpbldibaaRows
import Derived.Test.YtfllogbpbldibaaLsAt
import Derived.Test.YtfllogbpbldibaaLsArgs
import Derived.Test.YtfllogbpbldibaaLsRef
import Derived.Test.YtfllogbpbldibaaLyMix
import Derived.Test.YtfllogbpbldibaaFlExt
import Derived.ShutString
namespace Go.Proofs.Ytfllogbpbldibaa.leasePlays
open Go.ChangeShapes Go.WideShapes Go.ChangeAt Go.RowKit

/-- The program's lease and the reference's stand alike, apart from one another. -/
structure Two (w W : World) (b xb : Nat) (s : Le) : Prop where
  l : LsL w W b s
  r : RxAt W xb s
  ge : w.heap.size ≤ xb
  ne : xb ≠ b
theorem Two.below {w W W' : World} {b xb : Nat} {s : Le} (h : Two w W b xb s) (hb : Below W.heap.size W W') : Two w W' b xb s := ⟨h.l.below hb, h.r.below hb, h.ge, h.ne⟩
/-- Behind the program's call, ahead of the reference's. -/
structure Mid (w W : World) (b xb : Nat) (s s' : Le) : Prop where
  l : LsL w W b s'
  r : RxAt W xb s
  ge : w.heap.size ≤ xb
  ne : xb ≠ b
theorem Two.mid {w W W' : World} {b xb : Nat} {s s' : Le} (h : Two w W b xb s) (hl : LsL w W' b s') (hc : Chg (is_ b) W W') : Mid w W' b xb s s' := ⟨hl, hc.blk h.r h.ne, h.ge, h.ne⟩
theorem Mid.below {w W W' : World} {b xb : Nat} {s s' : Le} (h : Mid w W b xb s s') (hb : Below W.heap.size W W') : Mid w W' b xb s s' := ⟨h.l.below hb, h.r.below hb, h.ge, h.ne⟩
theorem Mid.two {w W W' : World} {b xb : Nat} {s s' : Le} (h : Mid w W b xb s s') (hr : RxAt W' xb s') (hc : Chg (is_ xb) W W') : Two w W' b xb s' :=
  ⟨⟨hc.blk h.l.at_ (fun e => h.ne e.symm), h.l.ge, h.l.bl.trans (hc.below (fun k hk => by have := h.ge; rw [hk]; exact this) h.l.bl.size)⟩, hr, h.ge, h.ne⟩
theorem act_at {w : World} {g off n c : Nat} {l : List Ac} (h : rowAt w (.slice (some ⟨g, off, none⟩) n c) 3 acC l) (j : Nat) (x : Ac) (hj : l[j]? = some x) : w.cell? ⟨g, off + j * 3, none⟩ = some (.int .i64 x.1) ∧ w.cell? ⟨g, off + j * 3 + 1, none⟩ = some (.int .i64 x.2.1) ∧ w.cell? ⟨g, off + j * 3 + 2, none⟩ = some (.int .i64 x.2.2) := by
  obtain ⟨g', off', e, h2⟩ := row_act h j x hj
  injection e with e
  injection e with e1 e2
  subst e1 e2
  exact h2

set_option maxRecDepth 1000000 in
set_option maxHeartbeats 8000000 in
theorem walk (w : World) (oa : Option Addr) (n ca : Nat) (a : List Ac) (ea : a.length = n) (_ : OkSl oa n ca) (sa : rowAt w (.slice oa n ca) 3 acC a ∧ ∀ y ∈ a, wfI y.1 ∧ wfI y.2.1 ∧ wfI y.2.2)
    (ob : Option Addr) (n2 cb : Nat) (a2' : List Int) (eb : a2'.length = n2) (_ : OkSl ob n2 cb) (sb : rowAt w (.slice ob n2 cb) 1 iC a2' ∧ ∀ y ∈ a2', wfI y) :
    Calls Try.prog 3 #[.slice oa n ca, .slice ob n2 cb] w fun e w' => e = .returned (.bool true) ∧ Below w.heap.size w w' := by
  have HA : Hid (rowAt w (.slice oa n ca) 3 acC a ∧ a.length = n) := ⟨sa.1, ea⟩
  have HT : Hid (rowAt w (.slice ob n2 cb) 1 iC a2' ∧ a2'.length = n2) := ⟨sb.1, eb⟩
  clear sa ea sb eb
  by_cases h1 : 60 < (n : Int)
  · go_enter Try.func3, Try.ntmps3
    go_wp2
    go_ret
    exact ⟨rfl, Below.refl _ _⟩
  by_cases h2 : 60 < (n2 : Int)
  · go_enter Try.func3, Try.ntmps3
    go_wp2
    go_ret
    exact ⟨rfl, Below.refl _ _⟩
  go_enter Try.func3, Try.ntmps3
  go_wp2_with fail
  refine (new_l w _ (Below.refl _ _)).mono ?_
  rintro e w1 ⟨b, rfl, h, -, -⟩
  have H1 : Hid (LsL w w1 b newX) := h
  clear h
  have hbl : b < w1.heap.size := (Array.getElem?_eq_some_iff.1 H1.out.at_).1
  have H2 : Hid (Two w (w1.alloc (.cells #[.int .i64 0, .int .i64 0, .bool false] 28)) b w1.heap.size newX) := ⟨H1.out.below ((Below.refl _ _).alloc (Nat.le_refl _) _), blk_new _ _, H1.out.bl.size, by omega⟩
  clear hbl H1
  go_wp2
  generalize w1.alloc (.cells #[.int .i64 0, .int .i64 0, .bool false] 28) = w2 at *
  generalize w1.heap.size = xb at *
  go_loopg [7] n (fun gk i wr => ∃ (k : Nat) (s : Le), gk = n - k ∧ i = .int .i64 k ∧ k ≤ n ∧ Two w wr b xb s)
  case atStart => exact ⟨0, newX, rfl, rfl, by omega, H2.out⟩
  case round =>
    obtain ⟨k, s, rfl, rfl, hk, hs⟩ := hrel
    have H10 : Hid (Two w wr b xb s) := hs
    clear hs H2
    by_cases hlt : k < n
    · have hki : (k : Int) < (n : Int) := by omega
      obtain ⟨⟨x0, x1, x2⟩, hx⟩ : ∃ x, a[k]? = some x := at_of (by rw [HA.out.2]; exact hlt)
      have HX : Hid (a[k]? = some (x0, x1, x2)) := hx
      obtain ⟨g, off, rfl, b0, b1, b2⟩ := row_act HA.out.1 k _ hx
      obtain ⟨a0, a1, a2⟩ := act_at (HA.out.1.below H10.out.l.bl) k _ hx
      dsimp only at a0 a1 a2 b0 b1 b2
      clear hx
      by_cases hx2 : x2 < 0
      · go_wp2
        go_ret
        exact ⟨rfl, H10.out.l.bl⟩
      by_cases hx3 : 1099511627776 < x2
      · go_wp2
        go_ret
        exact ⟨rfl, H10.out.l.bl⟩
      by_cases hx0 : x0 = 1
      · subst hx0
        have HD : Hid (∀ W, Below wr.heap.size wr W → Calls Try.prog 9 #[.pointer (some ⟨b, 0, none⟩), .int .i64 x1, .int .i64 x2] W fun e w' => e = .returned (.tuple #[]) ∧ LsL w w' b (grantX x1 x2) ∧ Chg (is_ b) W w') := fun W hb => grant_l w W b _ x1 x2 (H10.out.l.below hb) (by omega)
        have HR : Hid (0 ≤ x2 ∧ x2 ≤ 1099511627776) := ⟨by omega, by omega⟩
        go_wp2_with fail
        clear a0 a1 a2 b0
        have y1 := ext_cell b1
        have y2 := ext_cell b2
        haveI := ext_some w
        clear b1 b2
        refine wp_region_mix_seq (C := fun W => ∃ y : Ext w, W = y.z) [0, 1, 2, 3, 4, 5, 6, 7, 8, 9, 10, 11] (by kernel_rfl) (by kernel_rfl) (by kernel_rfl) (by kernel_rfl) (by simp only [List.filterMap_cons, List.getElem?_toArray, List.getElem?_cons_zero, List.getElem?_cons_succ, List.filterMap_nil]; rfl) ⟨⟨_, H10.out.l.bl.drew⟩, rfl⟩ ?_
        (repeat (first | (with_reducible refine mix_read (by kernel_rfl) ?_; go_big_quiet_want; go_big_quiet_op; go_big_quiet_on; with_reducible refine wpQuiet_nil ?_) | (with_reducible refine mix_pass (by kernel_rfl) ?_; go_big_quiet_skip; with_reducible refine wpQuiet_nil ?_)))
        with_reducible refine mix_call (by kernel_rfl) (by kernel_rfl) ((HD.out _ ((Below.refl _ _).drew)).mono ?_) (by kernel_rfl)
        rintro e w20 ⟨rfl, hl, hc⟩
        have H20 := (show Hid _ from (H10.out.below (Below.refl _ _).drew).mid hl hc)
        clear hl hc H10 HD
        refine ⟨_, rfl, ⟨⟨_, H20.out.l.bl⟩, rfl⟩, ?_⟩
        simp only [Act.put, List.setIfInBounds_toArray, List.set_cons_zero, List.set_cons_succ]
        with_reducible refine mix_end ?_
        intro _
        go_wp2_with fail
        refine wp_region_mix_seq (C := fun W => ∃ y : Ext w, W = y.z) [0, 1, 2, 3, 4, 5, 6, 7, 8, 9, 10, 11] (by kernel_rfl) (by kernel_rfl) (by kernel_rfl) (by kernel_rfl) (by simp only [List.filterMap_cons, List.getElem?_toArray, List.getElem?_cons_zero, List.getElem?_cons_succ, List.filterMap_nil]; rfl) ⟨⟨_, H20.out.l.bl.drew⟩, rfl⟩ ?_
        (repeat (first | (with_reducible refine mix_read (by kernel_rfl) ?_; go_big_quiet_want; go_big_quiet_op; go_big_quiet_on; with_reducible refine wpQuiet_nil ?_) | (with_reducible refine mix_pass (by kernel_rfl) ?_; go_big_quiet_skip; with_reducible refine wpQuiet_nil ?_)))
        with_reducible refine mix_call (by kernel_rfl) (by kernel_rfl) ((rxGrant_any _ xb s x1 x2 ((H20.out.below (Below.refl _ _).drew).r) HR.out).mono ?_) (by kernel_rfl)
        rintro e w21 ⟨rfl, hr, hc⟩
        have H21 := (show Hid _ from (H20.out.below (Below.refl _ _).drew).two hr hc)
        clear hr hc H20
        refine ⟨_, rfl, ⟨⟨_, H21.out.l.bl⟩, rfl⟩, ?_⟩
        simp only [Act.put, List.setIfInBounds_toArray, List.set_cons_zero, List.set_cons_succ]
        with_reducible refine mix_end ?_
        intro _
        clear y1 y2
        generalize grantX x1 x2 = s' at *
        have C := fun j t => live_l (H21.out.l.below (below_drewN (Below.refl _ _) j)) t _ rfl
        have D := fun j t => rxLive_any _ xb s' t (H21.out.r.below (below_drewN (Below.refl _ _) j))
        have E := fun j => epoch_l (H21.out.l.below (below_drewN (Below.refl _ _) j)) s'.epoch rfl
        have z0 := (RxRaw.cells H21.out.r).1
        have hq1 : (s'.epoch != s'.epoch) = false := by simp
        have hq2 : (liveX s' x2 != liveX s' x2) = false := by simp
        obtain ⟨-, -, a2⟩ := act_at (HA.out.1.below H21.out.l.bl) k _ HX.out
        dsimp only at a2
        generalize s'.epoch = ep at E z0 hq1
        go_wp2_with fail
        go_quiet (first | (go_at_call 13; refine Calls.quiet_of_same (E _)) | (go_at_call 14; refine Calls.quiet_of_same (C _ _)) | (go_at_call 15; refine Calls.quiet_of_same (D _ _)))
        have H22 : Hid (∀ j, Two w (w21.drewN j) b xb s') := fun j => H21.out.below (below_drewN (Below.refl _ _) j)
        clear C D E z0 hq1 hq2 a2 H21
        go_wp2
        go_loopg [8] n2 (fun gk i wr => ∃ (k2 : Nat), gk = n2 - k2 ∧ i = .int .i64 k2 ∧ k2 ≤ n2 ∧ Two w wr b xb s')
        case atStart => exact ⟨0, rfl, rfl, by omega, H22.out _⟩
        case round =>
          obtain ⟨k2, rfl, rfl, hk2, hs⟩ := hrel
          have H30 : Hid (Two w wr b xb s') := hs
          clear hs H22
          by_cases hlt2 : k2 < n2
          · have hki2 : (k2 : Int) < (n2 : Int) := by omega
            obtain ⟨t, ht⟩ : ∃ t, a2'[k2]? = some t := at_of (by rw [HT.out.2]; exact hlt2)
            obtain ⟨g2, off2, rfl, c0⟩ := row_int (HT.out.1.below H30.out.l.bl) k2 t ht
            clear ht
            have C := fun j => live_l (H30.out.l.below (below_drewN (Below.refl _ _) j)) t _ rfl
            have D := fun j => rxLive_any _ xb s' t (H30.out.r.below (below_drewN (Below.refl _ _) j))
            have hq : (liveX s' t != liveX s' t) = false := by simp
            go_wp2_with fail
            go_quiet (first | (go_at_call 14; refine Calls.quiet_of_same (C _)) | (go_at_call 15; refine Calls.quiet_of_same (D _)))
            clear C D c0
            go_wp2
            go_roundg (n2 - (k2 + 1))
            case rel => exact ⟨k2 + 1, rfl, by go_num, by omega, H30.out.below (below_drewN (Below.refl _ _) _)⟩
            case measure => omega
          · have hki2 : ¬ (k2 : Int) < (n2 : Int) := by omega
            go_wp2
            go_roundg (n - (k + 1))
            case rel => exact ⟨k + 1, s', rfl, by go_num, by omega, H30.out⟩
            case measure => omega
      have hx0q : (x0 == 1) = false := by simp [hx0]
      have Dl := drop_l w wr b _ H10.out.l
      go_wp2_with fail
      clear a0 a1 a2 b0 b1 b2
      refine Dl.mono ?_
      rintro e w20 ⟨rfl, hl, hc⟩
      have H20 := (show Hid _ from H10.out.mid hl hc)
      clear hl hc Dl H10
      have E := rxDrop_any w20 xb s H20.out.r
      go_wp2_with fail
      refine E.mono ?_
      rintro e w21 ⟨rfl, hr, hc⟩
      have H21 := (show Hid _ from H20.out.two hr hc)
      clear E hr hc H20
      generalize dropX s = s' at *
      have C := fun j t => live_l (H21.out.l.below (below_drewN (Below.refl _ _) j)) t _ rfl
      have D := fun j t => rxLive_any _ xb s' t (H21.out.r.below (below_drewN (Below.refl _ _) j))
      have E := fun j => epoch_l (H21.out.l.below (below_drewN (Below.refl _ _) j)) s'.epoch rfl
      have z0 := (RxRaw.cells H21.out.r).1
      have hq1 : (s'.epoch != s'.epoch) = false := by simp
      have hq2 : (liveX s' x2 != liveX s' x2) = false := by simp
      obtain ⟨-, -, a2⟩ := act_at (HA.out.1.below H21.out.l.bl) k _ HX.out
      dsimp only at a2
      generalize s'.epoch = ep at E z0 hq1
      go_wp2_with fail
      go_quiet (first | (go_at_call 13; refine Calls.quiet_of_same (E _)) | (go_at_call 14; refine Calls.quiet_of_same (C _ _)) | (go_at_call 15; refine Calls.quiet_of_same (D _ _)))
      have H22 : Hid (∀ j, Two w (w21.drewN j) b xb s') := fun j => H21.out.below (below_drewN (Below.refl _ _) j)
      clear C D E z0 hq1 hq2 a2 H21
      go_wp2
      go_loopg [8] n2 (fun gk i wr => ∃ (k2 : Nat), gk = n2 - k2 ∧ i = .int .i64 k2 ∧ k2 ≤ n2 ∧ Two w wr b xb s')
      case atStart => exact ⟨0, rfl, rfl, by omega, H22.out _⟩
      case round =>
        obtain ⟨k2, rfl, rfl, hk2, hs⟩ := hrel
        have H30 : Hid (Two w wr b xb s') := hs
        clear hs H22
        by_cases hlt2 : k2 < n2
        · have hki2 : (k2 : Int) < (n2 : Int) := by omega
          obtain ⟨t, ht⟩ : ∃ t, a2'[k2]? = some t := at_of (by rw [HT.out.2]; exact hlt2)
          obtain ⟨g2, off2, rfl, c0⟩ := row_int (HT.out.1.below H30.out.l.bl) k2 t ht
          clear ht
          have C := fun j => live_l (H30.out.l.below (below_drewN (Below.refl _ _) j)) t _ rfl
          have D := fun j => rxLive_any _ xb s' t (H30.out.r.below (below_drewN (Below.refl _ _) j))
          have hq : (liveX s' t != liveX s' t) = false := by simp
          go_wp2_with fail
          go_quiet (first | (go_at_call 14; refine Calls.quiet_of_same (C _)) | (go_at_call 15; refine Calls.quiet_of_same (D _)))
          clear C D c0
          go_wp2
          go_roundg (n2 - (k2 + 1))
          case rel => exact ⟨k2 + 1, rfl, by go_num, by omega, H30.out.below (below_drewN (Below.refl _ _) _)⟩
          case measure => omega
        · have hki2 : ¬ (k2 : Int) < (n2 : Int) := by omega
          go_wp2
          go_roundg (n - (k + 1))
          case rel => exact ⟨k + 1, s', rfl, by go_num, by omega, H30.out⟩
          case measure => omega
    · have hki : ¬ (k : Int) < (n : Int) := by omega
      have H11 : Hid (LsL w wr b s) := H10.out.l
      have HB : Hid (Below w.heap.size w wr) := H11.out.bl
      clear H11
      go_wp2_with fail
      refine (known_any _).mono ?_
      rintro e wk ⟨rfl, hb⟩
      have HBK : Hid (Below w.heap.size w wk) := HB.out.trans (hb.mono HB.out.size)
      clear hb HB
      go_wp2
      go_ret
      exact ⟨rfl, HBK.out⟩

theorem own : ownKnob Try.prog.godebug = none := by kernel_rfl

set_option maxRecDepth 100000 in
theorem lifted (os : Os) (started : os.Started) (H : Type) (enc : TypeId × Value → H) :
    ReturnsInHanded {} Try.checked os 3 .any (Rows.leasePlaysSpec.pre6 enc Try.prog Try.f3 Rows.leasePlaysRow.domain false) (Rows.leasePlaysSpec.post enc Try.prog Try.f3 false true false false) := by
  refine returnsInHanded_of_change (C := Try.checked) own started (by kernel_rfl) Try.func3
    (ChangeSpec.witness6 (enc := enc) (C := Try.checked) false ⟨#[], #[.slice none 0 0, .slice none 0 0], []⟩ 8 (by kernel_rfl) (by kernel_rfl) (by kernel_rfl) (by kernel_rfl)) ?_
  intro W base args ds gs before hval0 hW _ _
  have hval : ∀ (j : Nat) t v, Try.f3.params[j]? = some t → args[j]? = some v → Value.okWide Try.prog W .any base t v := hval0
  have hW' := hW
  obtain ⟨p, q, hA0, hV, rfl, _, _⟩ := hW
  have hA : DataW.TrodAll enc Try.prog W 0 (fun _ => true) true Try.f3.params.toList args.toList ds p := hA0
  rw [Try.params3] at hA hval
  obtain ⟨v0, vs0, d0, ds0, p0, q0, hargs, rfl, rfl, h0, r0⟩ := trodAll_cons hA
  obtain ⟨v1, vs1, d1, ds1, p1, q1, rfl, rfl, rfl, h1, r1⟩ := trodAll_cons r0
  obtain ⟨rfl, rfl, rfl⟩ := trodAll_nil r1
  obtain rfl : args = #[v0, v1] := by cases args; simp_all
  obtain ⟨rfl, rfl⟩ := trodVars_none hV
  obtain ⟨a0, len0, cap0, rfl⟩ := okWide_slice Try.underlying22 (hval 0 22 v0 rfl rfl)
  have k0 := h0
  have lt0 : ∀ x ∈ p0, x.block < W.heap.size := by obtain ⟨m, hm⟩ := k0; exact DataW.trod_lt m _ _ _ hm
  obtain ⟨z0, e0, m0, s0⟩ : ∃ l : List Ac, l.length = len0 ∧ OkSl a0 len0 cap0 ∧ (rowAt W (.slice a0 len0 cap0) 3 acC l ∧ ∀ y ∈ l, wfI y.1 ∧ wfI y.2.1 ∧ wfI y.2.2) := by
    obtain ⟨fuel, hf⟩ := h0
    exact open_actr hf
  obtain ⟨a1, len1, cap1, rfl⟩ := okWide_slice Try.underlying23 (hval 1 23 v1 rfl rfl)
  have k1 := h1
  have lt1 : ∀ x ∈ p1, x.block < W.heap.size := by obtain ⟨m, hm⟩ := k1; exact DataW.trod_lt m _ _ _ hm
  obtain ⟨z1, e1, m1, s1⟩ : ∃ l : List Int, l.length = len1 ∧ OkSl a1 len1 cap1 ∧ (rowAt W (.slice a1 len1 cap1) 1 iC l ∧ ∀ y ∈ l, wfI y) := by
    obtain ⟨fuel, hf⟩ := h1
    exact open_intr hf
  clear hA0 hval0
  refine (walk W a0 len0 cap0 z0 e0 m0 s0 a1 len1 cap1 z1 e1 m1 s1 ).mono fun e W' ⟨he, bel⟩ => ?_
  subst he
  exact ⟨_, rfl, _, _, _, [], _, [], hW', trodAll_mk1 (shut_bool Try.underlying4 _), (trodAll_cons_mk (Below.trod flaidOut (by kernel_rfl) (of_decide_eq_true (by kernel_rfl)) k0 bel lt0) (trodAll_cons_mk (Below.trod flaidOut (by kernel_rfl) (of_decide_eq_true (by kernel_rfl)) k1 bel lt1) trodAll_mk0)), rfl, bel.frame _, fun h => by cases h⟩

theorem over : Rows.leasePlaysRow.holds Try.pinned (OpenSpec.ofChange Rows.leasePlaysSpec) :=
  OpenClaim.holds_of_wide 3 Try.f3 rfl rfl rfl rfl rfl rfl rfl ⟨rfl, rfl, rfl, rfl, rfl⟩ rfl rfl rfl rfl rfl (by kernel_rfl) Try.func3 (by kernel_rfl)
    (of_decide_eq_true (by kernel_rfl)) (by unfold Func.isWrapper; first | (rw [if_pos (by decide +kernel)]; kernel_rfl) | (rw [if_neg (by decide +kernel)]; exact ⟨rfl, rfl⟩))
    (fun os started H enc _ => lifted os started H enc)

end Go.Proofs.Ytfllogbpbldibaa.leasePlays
namespace Go.Proofs.Ytfllogbpbldibaa
theorem leasePlays_holds : Rows.LeasePlaysSaid := leasePlays.over
#print axioms leasePlays_holds
end Go.Proofs.Ytfllogbpbldibaa
