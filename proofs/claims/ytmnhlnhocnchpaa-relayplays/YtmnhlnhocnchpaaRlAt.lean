/-
  A relay of the call's own: its eight cells; each function by a contract.
-/
import Derived.Test.YtmnhlnhocnchpaaRlP
namespace Go.Proofs.Ytmnhlnhocnchpaa
open Go.RowKit

/-- The eight cells of a relay. -/
def Raw (W : World) (b : Nat) (now : Int) (od : Bool) (ow : Int) (cn : Bool) (asked free ep last : Int) : Prop :=
  W.heap[b]? = some (.cells #[.int .i64 now, .bool od, .int .i64 ow, .bool cn, .int .i64 asked, .int .i64 free, .int .i64 ep, .int .i64 last] 46 (0, 0))
theorem Raw.cells {W : World} {b : Nat} {now : Int} {od : Bool} {ow : Int} {cn : Bool} {asked free ep last : Int} (h : Raw W b now od ow cn asked free ep last) :
    W.cell? ⟨b, 0, none⟩ = some (.int .i64 now) ∧ W.cell? ⟨b, 1, none⟩ = some (.bool od) ∧ W.cell? ⟨b, 2, none⟩ = some (.int .i64 ow) ∧ W.cell? ⟨b, 3, none⟩ = some (.bool cn) ∧ W.cell? ⟨b, 4, none⟩ = some (.int .i64 asked) ∧ W.cell? ⟨b, 5, none⟩ = some (.int .i64 free) ∧ W.cell? ⟨b, 6, none⟩ = some (.int .i64 ep) ∧ W.cell? ⟨b, 7, none⟩ = some (.int .i64 last) := by
  unfold Raw at h
  refine ⟨?_, ?_, ?_, ?_, ?_, ?_, ?_, ?_⟩ <;> simp [World.cell?, h]
theorem Raw.froz {W : World} {b : Nat} {now : Int} {od : Bool} {ow : Int} {cn : Bool} {asked free ep last : Int} (h : Raw W b now od ow cn asked free ep last) (i : Nat) : W.frozen? ⟨b, i, none⟩ = false := froz2 h i
theorem Raw.p0 {W : World} {b : Nat} {now : Int} {od : Bool} {ow : Int} {cn : Bool} {asked free ep last : Int} (h : Raw W b now od ow cn asked free ep last) (x : Int) : Raw (W.setCell ⟨b, 0, none⟩ (.int .i64 x)) b x od ow cn asked free ep last := by
  have := heap_put (i := 0) h (.int .i64 x); simpa [Raw] using this
theorem Raw.p1 {W : World} {b : Nat} {now : Int} {od : Bool} {ow : Int} {cn : Bool} {asked free ep last : Int} (h : Raw W b now od ow cn asked free ep last) (x : Bool) : Raw (W.setCell ⟨b, 1, none⟩ (.bool x)) b now x ow cn asked free ep last := by
  have := heap_put (i := 1) h (.bool x); simpa [Raw] using this
theorem Raw.p2 {W : World} {b : Nat} {now : Int} {od : Bool} {ow : Int} {cn : Bool} {asked free ep last : Int} (h : Raw W b now od ow cn asked free ep last) (x : Int) : Raw (W.setCell ⟨b, 2, none⟩ (.int .i64 x)) b now od x cn asked free ep last := by
  have := heap_put (i := 2) h (.int .i64 x); simpa [Raw] using this
theorem Raw.p3 {W : World} {b : Nat} {now : Int} {od : Bool} {ow : Int} {cn : Bool} {asked free ep last : Int} (h : Raw W b now od ow cn asked free ep last) (x : Bool) : Raw (W.setCell ⟨b, 3, none⟩ (.bool x)) b now od ow x asked free ep last := by
  have := heap_put (i := 3) h (.bool x); simpa [Raw] using this
theorem Raw.p4 {W : World} {b : Nat} {now : Int} {od : Bool} {ow : Int} {cn : Bool} {asked free ep last : Int} (h : Raw W b now od ow cn asked free ep last) (x : Int) : Raw (W.setCell ⟨b, 4, none⟩ (.int .i64 x)) b now od ow cn x free ep last := by
  have := heap_put (i := 4) h (.int .i64 x); simpa [Raw] using this
theorem Raw.p5 {W : World} {b : Nat} {now : Int} {od : Bool} {ow : Int} {cn : Bool} {asked free ep last : Int} (h : Raw W b now od ow cn asked free ep last) (x : Int) : Raw (W.setCell ⟨b, 5, none⟩ (.int .i64 x)) b now od ow cn asked x ep last := by
  have := heap_put (i := 5) h (.int .i64 x); simpa [Raw] using this
theorem Raw.p6 {W : World} {b : Nat} {now : Int} {od : Bool} {ow : Int} {cn : Bool} {asked free ep last : Int} (h : Raw W b now od ow cn asked free ep last) (x : Int) : Raw (W.setCell ⟨b, 6, none⟩ (.int .i64 x)) b now od ow cn asked free x last := by
  have := heap_put (i := 6) h (.int .i64 x); simpa [Raw] using this
theorem Raw.p7 {W : World} {b : Nat} {now : Int} {od : Bool} {ow : Int} {cn : Bool} {asked free ep last : Int} (h : Raw W b now od ow cn asked free ep last) (x : Int) : Raw (W.setCell ⟨b, 7, none⟩ (.int .i64 x)) b now od ow cn asked free ep x := by
  have := heap_put (i := 7) h (.int .i64 x); simpa [Raw] using this
def is_ (b : Nat) (k : Nat) : Prop := k = b
theorem Chg.put {W W' : World} {b : Nat} (h : Chg (is_ b) W W') (i : Nat) (u : Value) : Chg (is_ b) W (W'.setCell ⟨b, i, none⟩ u) := by
  refine h.trans ⟨rfl, rfl, rfl, by simp [World.setCell], fun k hk hn => ?_⟩
  have hne : b ≠ k := fun e => hn e.symm
  simp [World.setCell, Array.getElem?_modify, hne]

/-- The relay at that block stands as the pure one. -/
structure RlAt (W : World) (b : Nat) (s : Rl) (n : Int) : Prop where
  ex : ∃ od ow cn, Raw W b s.now od ow cn s.asked s.free s.epoch s.last ∧ s.own = (if od then ow else -1) ∧ s.con = (if cn then ow else -1) ∧ (od = false → cn = false) ∧ (0 ≤ ow ∧ ow ≤ 1)
  ok : RlOk s n
theorem RlAt.below {W W' : World} {b : Nat} {s : Rl} {n : Int} (h : RlAt W b s n) (hb : Below W.heap.size W W') : RlAt W' b s n := by
  obtain ⟨od, ow, cn, h1, h2⟩ := h.ex
  exact ⟨⟨od, ow, cn, blk_below hb h1, h2⟩, h.ok⟩
theorem RlAt.chg {S : Nat → Prop} {W W' : World} {b : Nat} {s : Rl} {n : Int} (h : RlAt W b s n) (hb : Chg S W W') (hS : ¬ S b) : RlAt W' b s n := by
  obtain ⟨od, ow, cn, h1, h2⟩ := h.ex
  exact ⟨⟨od, ow, cn, hb.blk h1 hS, h2⟩, h.ok⟩

theorem infoRl : (Try.prog.info? 46).map (fun i => (i.zero, i.size, i.bytes)) = some (some (.agg #[.int .i64 0, .bool false, .int .i64 0, .bool false, .int .i64 0, .int .i64 0, .int .i64 0, .int .i64 0]), 8, 64) := by kernel_rfl

set_option maxRecDepth 1000000 in
set_option maxHeartbeats 4000000 in
theorem rlNew_any (W : World) : Calls Try.prog 9 #[] W fun e w' => e = .returned (.pointer (some ⟨W.heap.size, 0, none⟩)) ∧ Raw w' W.heap.size 0 false 0 false 0 0 0 0 ∧ Below W.heap.size W w' := by
  go_enter Try.func9, Try.ntmps9
  go_wp2
  go_ret
  exact ⟨rfl, blk_new _ _, (Below.refl _ _).alloc (Nat.le_refl _) _⟩

set_option maxHeartbeats 400000 in
theorem isUnit_any (r : Int) (w : World) : Calls Try.prog 23 #[.int .i64 r] w fun e w' => e = .returned (.bool (decide (r = 0 ∨ r = 1))) ∧ w' = w := by
  go_enter Try.func23, Try.ntmps23
  go_wp2
  all_goals go_ret
  all_goals (refine ⟨fret_bool ?_, rfl⟩)
  all_goals ((try simp only [beq_iff_eq, beq_eq_false_iff_ne] at *); rw [Bool.eq_iff_iff]; simp; try omega)

set_option maxRecDepth 1000000 in
set_option maxHeartbeats 4000000 in
theorem letGo_any (W : World) (b : Nat) (now : Int) (od : Bool) (ow : Int) (cn : Bool) (asked free ep last : Int) (h : Raw W b now od ow cn asked free ep last) (h0 : 0 ≤ now ∧ now ≤ 1099511627776) :
    Calls Try.prog 21 #[.pointer (some ⟨b, 0, none⟩)] W fun e w' => e = .returned (.tuple #[]) ∧ Raw w' b now false ow false asked (now + 2) ep last ∧ Chg (is_ b) W w' := by
  have HP : Hid (Raw (((W.setCell ⟨b, 1, none⟩ (.bool false)).setCell ⟨b, 3, none⟩ (.bool false)).setCell ⟨b, 5, none⟩ (.int .i64 (now + 2))) b now false ow false asked (now + 2) ep last ∧ Chg (is_ b) W (((W.setCell ⟨b, 1, none⟩ (.bool false)).setCell ⟨b, 3, none⟩ (.bool false)).setCell ⟨b, 5, none⟩ (.int .i64 (now + 2)))) := ⟨((h.p1 false).p3 false).p5 (now + 2), (((Chg.refl _ _).put _ _).put _ _).put _ _⟩
  obtain ⟨c0, c1, c2, c3, c4, c5, c6, c7⟩ := h.cells
  have f1 := h.froz 1
  have f3 := h.froz 3
  have f5 := h.froz 5
  obtain ⟨h1, h2⟩ := h0
  clear h
  go_enter Try.func21, Try.ntmps21
  go_wp2
  go_end0
  exact ⟨rfl, HP.out⟩
set_option maxRecDepth 1000000 in
set_option maxHeartbeats 4000000 in
theorem isOf_any (W : World) (b : Nat) (now : Int) (od : Bool) (ow : Int) (cn : Bool) (asked free ep last : Int) (u : Int) (h : Raw W b now od ow cn asked free ep last) :
    Calls Try.prog 24 #[.pointer (some ⟨b, 0, none⟩), .int .i64 u] W fun e w' => e = .returned (.bool (od && decide (ow = u))) ∧ w' = W := by
  obtain ⟨c0, c1, c2, c3, c4, c5, c6, c7⟩ := h.cells
  clear h
  cases od
  all_goals
    go_enter Try.func24, Try.ntmps24
    go_wp2
    go_ret
    refine ⟨fret_bool ?_, rfl⟩
    first | rfl | (rw [Bool.eq_iff_iff]; simp)

set_option maxRecDepth 1000000 in
set_option maxHeartbeats 4000000 in
theorem isFree_any (W : World) (b : Nat) (now : Int) (od : Bool) (ow : Int) (cn : Bool) (asked free ep last : Int) (h : Raw W b now od ow cn asked free ep last) :
    Calls Try.prog 26 #[.pointer (some ⟨b, 0, none⟩)] W fun e w' => e = .returned (.bool (!od && decide (free ≤ now))) ∧ Below W.heap.size W w' := by
  obtain ⟨c0, c1, c2, c3, c4, c5, c6, c7⟩ := h.cells
  clear h
  cases od
  all_goals
    go_enter Try.func26, Try.ntmps26
    go_wp2_with fail
    go_quiet (fail)
    go_wp2
    go_ret
    refine ⟨fret_bool ?_, ?_⟩
    · first | rfl | (rw [Bool.eq_iff_iff]; simp)
    · exact below_drewN (Below.refl _ _) _

set_option maxRecDepth 1000000 in
set_option maxHeartbeats 4000000 in
theorem renew_any (W : World) (b : Nat) (now : Int) (od : Bool) (ow : Int) (cn : Bool) (asked free ep last : Int) (count : Int) (h : Raw W b now od ow cn asked free ep last) :
    Calls Try.prog 25 #[.pointer (some ⟨b, 0, none⟩), .int .i64 count] W fun e w' => e = .returned (.int .i64 last) ∧ Raw w' b now od ow true now free ep count ∧ Chg (is_ b) W w' := by
  have HP : Hid (Raw (((W.setCell ⟨b, 3, none⟩ (.bool true)).setCell ⟨b, 4, none⟩ (.int .i64 now)).setCell ⟨b, 7, none⟩ (.int .i64 count)) b now od ow true now free ep count ∧ Chg (is_ b) W (((W.setCell ⟨b, 3, none⟩ (.bool true)).setCell ⟨b, 4, none⟩ (.int .i64 now)).setCell ⟨b, 7, none⟩ (.int .i64 count))) := ⟨((h.p3 true).p4 now).p7 count, (((Chg.refl _ _).put _ _).put _ _).put _ _⟩
  obtain ⟨c0, c1, c2, c3, c4, c5, c6, c7⟩ := h.cells
  have f3 := h.froz 3
  have f4 := h.froz 4
  have f7 := h.froz 7
  clear h
  go_enter Try.func25, Try.ntmps25
  go_wp2
  go_ret
  exact ⟨rfl, HP.out⟩

set_option maxRecDepth 1000000 in
set_option maxHeartbeats 4000000 in
theorem give_any (W : World) (b : Nat) (now : Int) (od : Bool) (ow : Int) (cn : Bool) (asked free ep last : Int) (u : Int) (h : Raw W b now od ow cn asked free ep last) (h0 : 0 ≤ ep ∧ ep ≤ 1000000) :
    Calls Try.prog 27 #[.pointer (some ⟨b, 0, none⟩), .int .i64 u] W fun e w' => e = .returned (.int .i64 last) ∧ Raw w' b now true u cn now free (ep + 1) last ∧ Chg (is_ b) W w' := by
  have HP : Hid (Raw ((((W.setCell ⟨b, 1, none⟩ (.bool true)).setCell ⟨b, 2, none⟩ (.int .i64 u)).setCell ⟨b, 4, none⟩ (.int .i64 now)).setCell ⟨b, 6, none⟩ (.int .i64 (ep + 1))) b now true u cn now free (ep + 1) last ∧ Chg (is_ b) W ((((W.setCell ⟨b, 1, none⟩ (.bool true)).setCell ⟨b, 2, none⟩ (.int .i64 u)).setCell ⟨b, 4, none⟩ (.int .i64 now)).setCell ⟨b, 6, none⟩ (.int .i64 (ep + 1)))) := ⟨(((h.p1 true).p2 u).p4 now).p6 (ep + 1), ((((Chg.refl _ _).put _ _).put _ _).put _ _).put _ _⟩
  obtain ⟨c0, c1, c2, c3, c4, c5, c6, c7⟩ := h.cells
  have f1 := h.froz 1
  have f2 := h.froz 2
  have f4 := h.froz 4
  have f6 := h.froz 6
  obtain ⟨h1, h2⟩ := h0
  clear h
  go_enter Try.func27, Try.ntmps27
  go_wp2
  go_ret
  exact ⟨rfl, HP.out⟩

set_option maxRecDepth 1000000 in
set_option maxHeartbeats 8000000 in
theorem rlBegin_any (W : World) (b : Nat) (s : Rl) (n now : Int) (h : RlAt W b s n) :
    Calls Try.prog 11 #[.pointer (some ⟨b, 0, none⟩), .int .i64 now] W fun e w' => e = .returned (.tuple #[]) ∧ RlAt w' b (beginR s now) n ∧ Chg (is_ b) W w' := by
  have hok := beginR_ok h.ok now
  have HOK : Hid (RlOk (beginR s now) n ∧ RlOk s n) := ⟨hok, h.ok⟩
  obtain ⟨od, ow, cn, h1, h2, h3, h4, h5⟩ := h.ex
  have HX : Hid (RlAt W b s n) := h
  have HR : Hid (Raw W b s.now od ow cn s.asked s.free s.epoch s.last) := h1
  have ⟨hnow1, hnow2⟩ := h.ok.now
  have ⟨hask1, hask2⟩ := h.ok.asked
  clear hok h
  by_cases g1 : now ≤ s.now
  · rw [begin_old (.inl g1)]
    obtain ⟨c0, c1, c2, c3, c4, c5, c6, c7⟩ := h1.cells
    clear h1 h2 h3 h4 h5 HOK
    generalize s.now = snow at *
    go_enter Try.func11, Try.ntmps11
    go_wp2
    refine bodyPost_ret (results_none rfl _ _ _) rfl ?_
    exact ⟨rfl, HX.out, Chg.refl _ _⟩
  by_cases g2 : 1099511627776 < now
  · rw [begin_old (.inr g2)]
    obtain ⟨c0, c1, c2, c3, c4, c5, c6, c7⟩ := h1.cells
    clear h1 h2 h3 h4 h5 HOK
    generalize s.now = snow at *
    go_enter Try.func11, Try.ntmps11
    go_wp2
    refine bodyPost_ret (results_none rfl _ _ _) rfl ?_
    exact ⟨rfl, HX.out, Chg.refl _ _⟩
  have HP : Hid (Raw ((W.setCell ⟨b, 0, none⟩ (.int .i64 now)).setCell ⟨b, 3, none⟩ (.bool false)) b now od ow false s.asked s.free s.epoch s.last ∧ Chg (is_ b) W ((W.setCell ⟨b, 0, none⟩ (.int .i64 now)).setCell ⟨b, 3, none⟩ (.bool false))) := ⟨(h1.p0 now).p3 false, ((Chg.refl _ _).put _ _).put _ _⟩
  obtain ⟨c0, c1, c2, c3, c4, c5, c6, c7⟩ := h1.cells
  have f0 := h1.froz 0
  have f3 := h1.froz 3
  cases od
  · have hs : beginR s now = ⟨now, -1, -1, s.epoch, s.last, s.asked, s.free⟩ := by
      rw [begin_keeps (by omega) (by omega) (.inl (by rw [h2]; simp)), h2]
      rfl
    rw [hs] at HOK ⊢
    clear h1 h2 h3 h4 hs HX HR
    obtain ⟨snow, sown, scon, sep, slast, sask, sfree⟩ := s
    dsimp only at *
    go_enter Try.func11, Try.ntmps11
    go_wp2
    go_end0
    exact ⟨rfl, ⟨⟨_, _, _, HP.out.1, rfl, rfl, fun _ => rfl, h5⟩, HOK.out.1⟩, HP.out.2⟩
  · have ho : s.own = ow := by rw [h2]; rfl
    by_cases g3 : 8 ≤ now - s.asked
    · have hs : beginR s now = ⟨now, -1, -1, s.epoch, s.last, s.asked, now + 2⟩ := begin_lets (by omega) (by omega) (by omega) g3
      rw [hs] at HOK ⊢
      have L := letGo_any _ b now true ow false s.asked s.free s.epoch s.last HP.out.1 ⟨by omega, by omega⟩
      clear h1 h2 h3 h4 hs HX HR ho
      obtain ⟨snow, sown, scon, sep, slast, sask, sfree⟩ := s
      dsimp only at *
      go_enter Try.func11, Try.ntmps11
      go_wp2_with fail
      refine L.mono ?_
      rintro e w1 ⟨rfl, l1, l2⟩
      have HL : Hid (Raw w1 b now false ow false sask (now + 2) sep slast ∧ Chg (is_ b) W w1) := ⟨l1, HP.out.2.trans l2⟩
      clear L l1 l2
      go_wp2
      go_end0
      exact ⟨rfl, ⟨⟨_, _, _, HL.out.1, rfl, rfl, fun _ => rfl, h5⟩, HOK.out.1⟩, HL.out.2⟩
    · have hs : beginR s now = ⟨now, s.own, -1, s.epoch, s.last, s.asked, s.free⟩ := begin_keeps (by omega) (by omega) (.inr (by omega))
      rw [hs] at HOK ⊢
      clear h1 h3 h4 hs HX HR
      obtain ⟨snow, sown, scon, sep, slast, sask, sfree⟩ := s
      dsimp only at *
      go_enter Try.func11, Try.ntmps11
      go_wp2
      go_end0
      obtain rfl : sown = ow := by simpa using h2
      exact ⟨rfl, ⟨⟨_, _, _, HP.out.1, rfl, rfl, fun h => by (cases h), h5⟩, HOK.out.1⟩, HP.out.2⟩

set_option maxRecDepth 1000000 in
set_option maxHeartbeats 8000000 in
theorem rlAsk_any (W : World) (b : Nat) (s : Rl) (n unit count : Int) (h : RlAt W b s n) (hn : n ≤ 100000) :
    Calls Try.prog 13 #[.pointer (some ⟨b, 0, none⟩), .int .i64 unit, .int .i64 count] W fun e w' => e = .returned (.tuple #[.int .i64 (askA s unit count).1, .int .i64 (askA s unit count).2.1, .int .i64 (askA s unit count).2.2]) ∧ RlAt w' b (askR s unit count) (n + 1) ∧ Chg (is_ b) W w' := by
  have hok := askR_ok h.ok unit count
  have HOK : Hid (RlOk (askR s unit count) (n + 1)) := hok
  have HX : Hid (RlAt W b s (n + 1)) := ⟨h.ex, h.ok.mono (by omega)⟩
  have HU := isUnit_any unit
  obtain ⟨od, ow, cn, h1, h2, h3, h4, h5⟩ := h.ex
  have ⟨hep1, hep2⟩ := h.ok.epoch
  clear hok h
  by_cases g1 : unit = 0 ∨ unit = 1
  · rw [show decide (unit = 0 ∨ unit = 1) = true from decide_eq_true g1] at HU
    by_cases g2 : count < 0
    · have hs := ask_arg (s := s) (unit := unit) (count := count) (by omega)
      rw [hs.2] at HOK ⊢
      rw [hs.1]
      clear h1 h2 h3 h4 hs
      go_enter Try.func13, Try.ntmps13
      go_wp2_with fail
      refine (HU _).mono ?_
      rintro e w9 ⟨rfl, hw⟩
      rw [hw]
      clear hw w9
      go_wp2
      go_ret3
      exact ⟨rfl, HX.out, Chg.refl _ _⟩
    by_cases g3 : s.own = unit
    · have hs := ask_own (s := s) (unit := unit) (count := count) (by omega) (by omega) g3
      rw [hs.2] at HOK ⊢
      rw [hs.1]
      have hod : od = true := by
        cases od
        · have : s.own = -1 := h2
          omega
        · rfl
      subst hod
      have how : ow = unit := by rw [← g3, h2]; rfl
      subst how
      have O := isOf_any W b s.now true ow cn s.asked s.free s.epoch s.last ow h1
      rw [show (true && decide (ow = ow)) = true by simp] at O
      have R := renew_any W b s.now true ow cn s.asked s.free s.epoch s.last count h1
      clear h1 h2 h3 hs h4 HX
      obtain ⟨snow, sown, scon, sep, slast, sask, sfree⟩ := s
      dsimp only at *
      subst g3
      go_enter Try.func13, Try.ntmps13
      go_wp2_with fail
      refine (HU _).mono ?_
      rintro e w9 ⟨rfl, hw⟩
      rw [hw]
      clear hw w9
      go_wp2_with fail
      refine O.mono ?_
      rintro e w9 ⟨rfl, hw⟩
      rw [hw]
      clear hw w9
      go_wp2_with fail
      refine R.mono ?_
      rintro e w1 ⟨rfl, l1, l2⟩
      have HL := (show Hid _ from And.intro l1 l2)
      obtain ⟨c0, c1, c2, c3, c4, c5, c6, c7⟩ := l1.cells
      clear R O HU l1 l2
      go_wp2
      go_ret3
      exact ⟨rfl, ⟨⟨_, _, _, HL.out.1, rfl, rfl, fun h => by (cases h), h5⟩, HOK.out⟩, HL.out.2⟩
    have O := isOf_any W b s.now od ow cn s.asked s.free s.epoch s.last unit h1
    have hod : (od && decide (ow = unit)) = false := by
      cases od
      · rfl
      · have : s.own = ow := h2
        simp
        omega
    rw [hod] at O
    have F := isFree_any W b s.now od ow cn s.asked s.free s.epoch s.last h1
    by_cases g4 : s.own < 0 ∧ s.free ≤ s.now
    · have hs := ask_free (s := s) (unit := unit) (count := count) (by omega) (by omega) g4.1 g4.2
      rw [hs.2] at HOK ⊢
      rw [hs.1]
      have hof : od = false := by
        cases od
        · rfl
        · have : s.own = ow := h2
          omega
      subst hof
      have hcn := h4 rfl
      subst hcn
      rw [show (!false && decide (s.free ≤ s.now)) = true by simp [g4.2]] at F
      have G := fun w' (hb : Below W.heap.size W w') => give_any w' b s.now false ow false s.asked s.free s.epoch s.last unit (blk_below hb h1) ⟨hep1, by omega⟩
      clear h1 hs h4 HX hod
      obtain ⟨snow, sown, scon, sep, slast, sask, sfree⟩ := s
      dsimp only at *
      have hu : 0 ≤ unit ∧ unit ≤ 1 := by omega
      go_enter Try.func13, Try.ntmps13
      go_wp2_with fail
      refine (HU _).mono ?_
      rintro e w9 ⟨rfl, hw⟩
      rw [hw]
      clear hw w9
      go_wp2_with fail
      refine O.mono ?_
      rintro e w9 ⟨rfl, hw⟩
      rw [hw]
      clear hw w9
      go_wp2_with fail
      refine F.mono ?_
      rintro e w1 ⟨rfl, hb⟩
      have G1 := G w1 hb
      have HB : Hid (Below W.heap.size W w1) := hb
      clear F O HU G hb
      go_wp2_with fail
      refine G1.mono ?_
      rintro e w2 ⟨rfl, l1, l2⟩
      have HL := (show Hid _ from And.intro l1 ((Chg.of_below HB.out).trans l2))
      obtain ⟨c0, c1, c2, c3, c4, c5, c6, c7⟩ := l1.cells
      clear G1 l1 l2
      go_wp2
      go_ret3
      exact ⟨rfl, ⟨⟨_, _, _, HL.out.1, rfl, h3, fun h => by (cases h), hu⟩, HOK.out⟩, HL.out.2⟩
    · have hs := ask_busy (s := s) (unit := unit) (count := count) (by omega) (by omega) g3 (by omega)
      rw [hs.2] at HOK ⊢
      rw [hs.1]
      have hof : (!od && decide (s.free ≤ s.now)) = false := by
        cases od
        · have : s.own = -1 := h2
          simp
          omega
        · rfl
      rw [hof] at F
      clear h1 h2 h3 h4 hs hof hod
      go_enter Try.func13, Try.ntmps13
      go_wp2_with fail
      refine (HU _).mono ?_
      rintro e w9 ⟨rfl, hw⟩
      rw [hw]
      clear hw w9
      go_wp2_with fail
      refine O.mono ?_
      rintro e w9 ⟨rfl, hw⟩
      rw [hw]
      clear hw w9
      go_wp2_with fail
      refine F.mono ?_
      rintro e w1 ⟨rfl, hb⟩
      have HB : Hid (Below W.heap.size W w1) := hb
      clear F O HU hb
      go_wp2
      go_ret3
      exact ⟨rfl, HX.out.below HB.out, Chg.of_below HB.out⟩
  · rw [show decide (unit = 0 ∨ unit = 1) = false from decide_eq_false g1] at HU
    have hs := ask_arg (s := s) (unit := unit) (count := count) (by omega)
    rw [hs.2] at HOK ⊢
    rw [hs.1]
    clear h1 h2 h3 h4 hs
    go_enter Try.func13, Try.ntmps13
    go_wp2_with fail
    refine (HU _).mono ?_
    rintro e w9 ⟨rfl, hw⟩
    rw [hw]
    clear hw w9
    go_wp2
    go_ret3
    exact ⟨rfl, HX.out, Chg.refl _ _⟩

set_option maxRecDepth 1000000 in
set_option maxHeartbeats 8000000 in
theorem rlYield_any (W : World) (b : Nat) (s : Rl) (n unit : Int) (h : RlAt W b s n) :
    Calls Try.prog 15 #[.pointer (some ⟨b, 0, none⟩), .int .i64 unit] W fun e w' => e = .returned (.int .i64 (yieldA s unit)) ∧ RlAt w' b (yieldR s unit) n ∧ Chg (is_ b) W w' := by
  have hok := yieldR_ok h.ok unit
  have HOK : Hid (RlOk (yieldR s unit) n) := hok
  have HX : Hid (RlAt W b s n) := h
  obtain ⟨od, ow, cn, h1, h2, h3, h4, h5⟩ := h.ex
  have ⟨hnow1, hnow2⟩ := h.ok.now
  have O := isOf_any W b s.now od ow cn s.asked s.free s.epoch s.last unit h1
  clear hok h
  by_cases g : unit < 0 ∨ s.own ≠ unit
  · have hs := yield_no (s := s) (unit := unit) g
    rw [hs.2, hs.1]
    have hod : (od && decide (ow = unit)) = false := by
      cases od
      · rfl
      · have : s.own = ow := h2
        simp
        omega
    rw [hod] at O
    clear h1 h2 h3 h4 hs hod
    go_enter Try.func15, Try.ntmps15
    go_wp2_with fail
    refine O.mono ?_
    rintro e w9 ⟨rfl, hw⟩
    rw [hw]
    clear hw w9
    go_wp2
    go_ret
    exact ⟨rfl, HX.out, Chg.refl _ _⟩
  · have hs := yield_own (s := s) (unit := unit) (by omega) (by omega)
    rw [hs.2] at HOK ⊢
    rw [hs.1]
    have hod : od = true := by
      cases od
      · have : s.own = -1 := h2
        omega
      · rfl
    subst hod
    have how : ow = unit := by have : s.own = ow := h2; omega
    subst how
    rw [show (true && decide (ow = ow)) = true by simp] at O
    have L := letGo_any W b s.now true ow cn s.asked s.free s.epoch s.last h1 ⟨hnow1, hnow2⟩
    clear h1 h3 hs h4 HX
    go_enter Try.func15, Try.ntmps15
    go_wp2_with fail
    refine O.mono ?_
    rintro e w9 ⟨rfl, hw⟩
    rw [hw]
    clear hw w9
    go_wp2_with fail
    refine L.mono ?_
    rintro e w1 ⟨rfl, l1, l2⟩
    have HL := (show Hid _ from And.intro l1 l2)
    clear L O l1 l2
    go_wp2
    go_ret
    exact ⟨rfl, ⟨⟨_, _, _, HL.out.1, rfl, rfl, fun _ => rfl, h5⟩, HOK.out⟩, HL.out.2⟩

set_option maxRecDepth 1000000 in
set_option maxHeartbeats 4000000 in
theorem rlCon_any (W : World) (b : Nat) (s : Rl) (n : Int) (h : RlAt W b s n) :
    Calls Try.prog 18 #[.pointer (some ⟨b, 0, none⟩)] W fun e w' => e = .returned (.int .i64 s.con) ∧ w' = W := by
  obtain ⟨od, ow, cn, h1, h2, h3, h4, h5⟩ := h.ex
  obtain ⟨c0, c1, c2, c3, c4, c5, c6, c7⟩ := h1.cells
  rw [h3]
  clear h h1 h2 h3 h4
  cases cn
  all_goals
    go_enter Try.func18, Try.ntmps18
    go_wp2
    go_ret
    exact ⟨rfl, rfl⟩

set_option maxRecDepth 1000000 in
set_option maxHeartbeats 4000000 in
theorem rlOwn_any (W : World) (b : Nat) (s : Rl) (n : Int) (h : RlAt W b s n) :
    Calls Try.prog 17 #[.pointer (some ⟨b, 0, none⟩)] W fun e w' => e = .returned (.int .i64 s.own) ∧ w' = W := by
  obtain ⟨od, ow, cn, h1, h2, h3, h4, h5⟩ := h.ex
  obtain ⟨c0, c1, c2, c3, c4, c5, c6, c7⟩ := h1.cells
  rw [h2]
  clear h h1 h2 h3 h4
  cases od
  all_goals
    go_enter Try.func17, Try.ntmps17
    go_wp2
    go_ret
    exact ⟨rfl, rfl⟩

set_option maxRecDepth 1000000 in
set_option maxHeartbeats 4000000 in
theorem rlEpoch_any (W : World) (b : Nat) (s : Rl) (n : Int) (h : RlAt W b s n) :
    Calls Try.prog 19 #[.pointer (some ⟨b, 0, none⟩)] W fun e w' => e = .returned (.int .i64 s.epoch) ∧ w' = W := by
  obtain ⟨od, ow, cn, h1, h2, h3, h4, h5⟩ := h.ex
  obtain ⟨c0, c1, c2, c3, c4, c5, c6, c7⟩ := h1.cells
  clear h h1 h2 h3 h4
  generalize s.epoch = x at *
  go_enter Try.func19, Try.ntmps19
  go_wp2
  go_ret
  exact ⟨rfl, rfl⟩
end Go.Proofs.Ytmnhlnhocnchpaa
