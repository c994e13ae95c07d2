/-
  The reference's relay: seven numbers; each function by a contract over the same pure relay.
-/
import Derived.Test.YtmnhlnhocnchpaaRlAt
namespace Go.Proofs.Ytmnhlnhocnchpaa
open Go.RowKit

/-- The reference's relay at that block. -/
def RfRaw (W : World) (b : Nat) (now own con ep last asked free : Int) : Prop :=
  W.heap[b]? = some (.cells #[.int .i64 now, .int .i64 own, .int .i64 con, .int .i64 ep, .int .i64 last, .int .i64 asked, .int .i64 free] 39 (0, 0))
def RfAt (W : World) (b : Nat) (s : Rl) : Prop := RfRaw W b s.now s.own s.con s.epoch s.last s.asked s.free
theorem RfRaw.cells {W : World} {b : Nat} {now own con ep last asked free : Int} (h : RfRaw W b now own con ep last asked free) :
    W.cell? ⟨b, 0, none⟩ = some (.int .i64 now) ∧ W.cell? ⟨b, 1, none⟩ = some (.int .i64 own) ∧ W.cell? ⟨b, 2, none⟩ = some (.int .i64 con) ∧ W.cell? ⟨b, 3, none⟩ = some (.int .i64 ep) ∧ W.cell? ⟨b, 4, none⟩ = some (.int .i64 last) ∧ W.cell? ⟨b, 5, none⟩ = some (.int .i64 asked) ∧ W.cell? ⟨b, 6, none⟩ = some (.int .i64 free) := by
  unfold RfRaw at h
  refine ⟨?_, ?_, ?_, ?_, ?_, ?_, ?_⟩ <;> simp [World.cell?, h]
theorem RfRaw.froz {W : World} {b : Nat} {now own con ep last asked free : Int} (h : RfRaw W b now own con ep last asked free) (i : Nat) : W.frozen? ⟨b, i, none⟩ = false := froz2 h i
theorem RfRaw.p0 {W : World} {b : Nat} {now own con ep last asked free : Int} (h : RfRaw W b now own con ep last asked free) (x : Int) : RfRaw (W.setCell ⟨b, 0, none⟩ (.int .i64 x)) b x own con ep last asked free := by
  have := heap_put (i := 0) h (.int .i64 x); simpa [RfRaw] using this
theorem RfRaw.p1 {W : World} {b : Nat} {now own con ep last asked free : Int} (h : RfRaw W b now own con ep last asked free) (x : Int) : RfRaw (W.setCell ⟨b, 1, none⟩ (.int .i64 x)) b now x con ep last asked free := by
  have := heap_put (i := 1) h (.int .i64 x); simpa [RfRaw] using this
theorem RfRaw.p2 {W : World} {b : Nat} {now own con ep last asked free : Int} (h : RfRaw W b now own con ep last asked free) (x : Int) : RfRaw (W.setCell ⟨b, 2, none⟩ (.int .i64 x)) b now own x ep last asked free := by
  have := heap_put (i := 2) h (.int .i64 x); simpa [RfRaw] using this
theorem RfRaw.p3 {W : World} {b : Nat} {now own con ep last asked free : Int} (h : RfRaw W b now own con ep last asked free) (x : Int) : RfRaw (W.setCell ⟨b, 3, none⟩ (.int .i64 x)) b now own con x last asked free := by
  have := heap_put (i := 3) h (.int .i64 x); simpa [RfRaw] using this
theorem RfRaw.p4 {W : World} {b : Nat} {now own con ep last asked free : Int} (h : RfRaw W b now own con ep last asked free) (x : Int) : RfRaw (W.setCell ⟨b, 4, none⟩ (.int .i64 x)) b now own con ep x asked free := by
  have := heap_put (i := 4) h (.int .i64 x); simpa [RfRaw] using this
theorem RfRaw.p5 {W : World} {b : Nat} {now own con ep last asked free : Int} (h : RfRaw W b now own con ep last asked free) (x : Int) : RfRaw (W.setCell ⟨b, 5, none⟩ (.int .i64 x)) b now own con ep last x free := by
  have := heap_put (i := 5) h (.int .i64 x); simpa [RfRaw] using this
theorem RfRaw.p6 {W : World} {b : Nat} {now own con ep last asked free : Int} (h : RfRaw W b now own con ep last asked free) (x : Int) : RfRaw (W.setCell ⟨b, 6, none⟩ (.int .i64 x)) b now own con ep last asked x := by
  have := heap_put (i := 6) h (.int .i64 x); simpa [RfRaw] using this

set_option maxRecDepth 1000000 in
set_option maxHeartbeats 4000000 in
theorem rfNew_any (W : World) : Calls Try.prog 10 #[] W fun e w' => e = .returned (.pointer (some ⟨W.heap.size, 0, none⟩)) ∧ RfAt w' W.heap.size newR ∧ Below W.heap.size W w' := by
  go_enter Try.func10, Try.ntmps10
  go_wp2
  go_ret
  exact ⟨rfl, blk_new _ _, (Below.refl _ _).alloc (Nat.le_refl _) _⟩

set_option maxRecDepth 1000000 in
set_option maxHeartbeats 4000000 in
theorem rfLetGo_any (W : World) (b : Nat) (now own con ep last asked free : Int) (h : RfRaw W b now own con ep last asked free) (h0 : 0 ≤ now ∧ now ≤ 1099511627776) :
    Calls Try.prog 22 #[.pointer (some ⟨b, 0, none⟩)] W fun e w' => e = .returned (.tuple #[]) ∧ RfRaw w' b now (-1) con ep last asked (now + 2) ∧ Chg (is_ b) W w' := by
  have HP : Hid (RfRaw ((W.setCell ⟨b, 1, none⟩ (.int .i64 (-1))).setCell ⟨b, 6, none⟩ (.int .i64 (now + 2))) b now (-1) con ep last asked (now + 2) ∧ Chg (is_ b) W ((W.setCell ⟨b, 1, none⟩ (.int .i64 (-1))).setCell ⟨b, 6, none⟩ (.int .i64 (now + 2)))) := ⟨(h.p1 (-1)).p6 (now + 2), ((Chg.refl _ _).put _ _).put _ _⟩
  obtain ⟨c0, c1, c2, c3, c4, c5, c6⟩ := h.cells
  have f1 := h.froz 1
  have f6 := h.froz 6
  obtain ⟨h1, h2⟩ := h0
  clear h
  go_enter Try.func22, Try.ntmps22
  go_wp2
  go_end0
  exact ⟨rfl, HP.out⟩

set_option maxRecDepth 1000000 in
set_option maxHeartbeats 8000000 in
theorem rfBegin_any (W : World) (b : Nat) (s : Rl) (n now : Int) (h : RfAt W b s) (hok : RlOk s n) :
    Calls Try.prog 12 #[.pointer (some ⟨b, 0, none⟩), .int .i64 now] W fun e w' => e = .returned (.tuple #[]) ∧ RfAt w' b (beginR s now) ∧ Chg (is_ b) W w' := by
  have HX : Hid (RfAt W b s) := h
  have ⟨hnow1, hnow2⟩ := hok.now
  have ⟨hask1, hask2⟩ := hok.asked
  have ⟨hown1, hown2⟩ := hok.own
  obtain ⟨snow, sown, scon, sep, slast, sask, sfree⟩ := s
  have h1 : RfRaw W b snow sown scon sep slast sask sfree := h
  dsimp only at hnow1 hnow2 hask1 hask2 hown1 hown2
  clear hok h
  obtain ⟨c0, c1, c2, c3, c4, c5, c6⟩ := h1.cells
  by_cases g1 : now ≤ snow
  · rw [begin_old (.inl g1)]
    clear h1
    go_enter Try.func12, Try.ntmps12
    go_wp2
    refine bodyPost_ret (results_none rfl _ _ _) rfl ?_
    exact ⟨rfl, HX.out, Chg.refl _ _⟩
  by_cases g2 : 1099511627776 < now
  · rw [begin_old (.inr g2)]
    clear h1
    go_enter Try.func12, Try.ntmps12
    go_wp2
    refine bodyPost_ret (results_none rfl _ _ _) rfl ?_
    exact ⟨rfl, HX.out, Chg.refl _ _⟩
  have HP : Hid (RfRaw ((W.setCell ⟨b, 0, none⟩ (.int .i64 now)).setCell ⟨b, 2, none⟩ (.int .i64 (-1))) b now sown (-1) sep slast sask sfree ∧ Chg (is_ b) W ((W.setCell ⟨b, 0, none⟩ (.int .i64 now)).setCell ⟨b, 2, none⟩ (.int .i64 (-1)))) := ⟨(h1.p0 now).p2 (-1), ((Chg.refl _ _).put _ _).put _ _⟩
  have f0 := h1.froz 0
  have f2 := h1.froz 2
  clear h1
  by_cases g3 : 0 ≤ sown
  · by_cases g4 : 8 ≤ now - sask
    · rw [begin_lets (s := ⟨snow, sown, scon, sep, slast, sask, sfree⟩) (by show snow < now; omega) (by omega) g3 g4]
      have L := rfLetGo_any _ b now sown (-1) sep slast sask sfree HP.out.1 ⟨by omega, by omega⟩
      go_enter Try.func12, Try.ntmps12
      go_wp2_with fail
      refine L.mono ?_
      rintro e w1 ⟨rfl, l1, l2⟩
      have HL : Hid (RfRaw w1 b now (-1) (-1) sep slast sask (now + 2) ∧ Chg (is_ b) W w1) := ⟨l1, HP.out.2.trans l2⟩
      clear L l1 l2
      go_wp2
      go_end0
      exact ⟨rfl, HL.out⟩
    · rw [begin_keeps (s := ⟨snow, sown, scon, sep, slast, sask, sfree⟩) (by show snow < now; omega) (by omega) (.inr (by show now - sask < 8; omega))]
      go_enter Try.func12, Try.ntmps12
      go_wp2
      go_end0
      exact ⟨rfl, HP.out⟩
  · rw [begin_keeps (s := ⟨snow, sown, scon, sep, slast, sask, sfree⟩) (by show snow < now; omega) (by omega) (.inl (by show sown < 0; omega))]
    go_enter Try.func12, Try.ntmps12
    go_wp2
    go_end0
    exact ⟨rfl, HP.out⟩

set_option maxRecDepth 1000000 in
set_option maxHeartbeats 8000000 in
theorem rfAsk_any (W : World) (b : Nat) (s : Rl) (n unit count : Int) (h : RfAt W b s) (hok : RlOk s n) (hn : n ≤ 100000) :
    Calls Try.prog 14 #[.pointer (some ⟨b, 0, none⟩), .int .i64 unit, .int .i64 count] W fun e w' => e = .returned (.tuple #[.int .i64 (askA s unit count).1, .int .i64 (askA s unit count).2.1, .int .i64 (askA s unit count).2.2]) ∧ RfAt w' b (askR s unit count) ∧ Chg (is_ b) W w' := by
  have HX : Hid (RfAt W b s) := h
  have ⟨hep1, hep2⟩ := hok.epoch
  have ⟨hown1, hown2⟩ := hok.own
  obtain ⟨snow, sown, scon, sep, slast, sask, sfree⟩ := s
  have h1 : RfRaw W b snow sown scon sep slast sask sfree := h
  dsimp only at hep1 hep2 hown1 hown2
  clear hok h
  obtain ⟨c0, c1, c2, c3, c4, c5, c6⟩ := h1.cells
  by_cases g1 : unit < 0
  · have hs := ask_arg (s := ⟨snow, sown, scon, sep, slast, sask, sfree⟩) (unit := unit) (count := count) (.inl g1)
    rw [hs.1, hs.2]
    clear h1 hs
    go_enter Try.func14, Try.ntmps14
    go_wp2
    go_ret3
    exact ⟨rfl, HX.out, Chg.refl _ _⟩
  by_cases g2 : 1 < unit
  · have hs := ask_arg (s := ⟨snow, sown, scon, sep, slast, sask, sfree⟩) (unit := unit) (count := count) (.inr (.inl g2))
    rw [hs.1, hs.2]
    clear h1 hs
    go_enter Try.func14, Try.ntmps14
    go_wp2
    go_ret3
    exact ⟨rfl, HX.out, Chg.refl _ _⟩
  by_cases g3 : count < 0
  · have hs := ask_arg (s := ⟨snow, sown, scon, sep, slast, sask, sfree⟩) (unit := unit) (count := count) (.inr (.inr g3))
    rw [hs.1, hs.2]
    clear h1 hs
    go_enter Try.func14, Try.ntmps14
    go_wp2
    go_ret3
    exact ⟨rfl, HX.out, Chg.refl _ _⟩
  by_cases g4 : sown = unit
  · have hs := ask_own (s := ⟨snow, sown, scon, sep, slast, sask, sfree⟩) (unit := unit) (count := count) ⟨by omega, by omega⟩ (by omega) g4
    rw [hs.1, hs.2]
    have HP : Hid (RfRaw (((W.setCell ⟨b, 2, none⟩ (.int .i64 unit)).setCell ⟨b, 5, none⟩ (.int .i64 snow)).setCell ⟨b, 4, none⟩ (.int .i64 count)) b snow sown unit sep count snow sfree ∧ Chg (is_ b) W (((W.setCell ⟨b, 2, none⟩ (.int .i64 unit)).setCell ⟨b, 5, none⟩ (.int .i64 snow)).setCell ⟨b, 4, none⟩ (.int .i64 count))) := ⟨((h1.p2 unit).p5 snow).p4 count, (((Chg.refl _ _).put _ _).put _ _).put _ _⟩
    have f2 := h1.froz 2
    have f5 := h1.froz 5
    have f4 := h1.froz 4
    have hq : (sown == unit) = true := by simp [g4]
    clear h1 hs
    subst g4
    go_enter Try.func14, Try.ntmps14
    go_wp2
    go_ret3
    exact ⟨rfl, HP.out⟩
  have hq : (sown == unit) = false := by simp [g4]
  by_cases g5 : sown < 0
  · by_cases g6 : sfree ≤ snow
    · have hs := ask_free (s := ⟨snow, sown, scon, sep, slast, sask, sfree⟩) (unit := unit) (count := count) ⟨by omega, by omega⟩ (by omega) g5 g6
      rw [hs.1, hs.2]
      have HQ : Hid (∀ j, RfRaw ((((W.drewN j).setCell ⟨b, 1, none⟩ (.int .i64 unit)).setCell ⟨b, 5, none⟩ (.int .i64 snow)).setCell ⟨b, 3, none⟩ (.int .i64 (sep + 1))) b snow unit scon (sep + 1) slast snow sfree ∧ Chg (is_ b) W ((((W.drewN j).setCell ⟨b, 1, none⟩ (.int .i64 unit)).setCell ⟨b, 5, none⟩ (.int .i64 snow)).setCell ⟨b, 3, none⟩ (.int .i64 (sep + 1)))) := fun j => by
        have hd : RfRaw (W.drewN j) b snow sown scon sep slast sask sfree := blk_below (below_drewN (Below.refl _ _) j) h1
        exact ⟨((hd.p1 unit).p5 snow).p3 (sep + 1), (((Chg.of_below (below_drewN (Below.refl _ _) j)).put _ _).put _ _).put _ _⟩
      have f1 := h1.froz 1
      have f5 := h1.froz 5
      have f3 := h1.froz 3
      clear h1 hs
      go_enter Try.func14, Try.ntmps14
      go_wp2_with fail
      go_quiet (fail)
      go_wp2
      go_ret3
      exact ⟨rfl, HQ.out _⟩
    · have hs := ask_busy (s := ⟨snow, sown, scon, sep, slast, sask, sfree⟩) (unit := unit) (count := count) ⟨by omega, by omega⟩ (by omega) g4 (.inr (by show snow < sfree; omega))
      rw [hs.1, hs.2]
      clear h1 hs
      go_enter Try.func14, Try.ntmps14
      go_wp2_with fail
      go_quiet (fail)
      go_wp2
      go_ret3
      exact ⟨rfl, blk_below (below_drewN (Below.refl _ _) _) HX.out, Chg.of_below (below_drewN (Below.refl _ _) _)⟩
  · have hs := ask_busy (s := ⟨snow, sown, scon, sep, slast, sask, sfree⟩) (unit := unit) (count := count) ⟨by omega, by omega⟩ (by omega) g4 (.inl (by show 0 ≤ sown; omega))
    rw [hs.1, hs.2]
    have hd5 : decide (sown < 0) = false := decide_eq_false g5
    clear h1 hs
    go_enter Try.func14, Try.ntmps14
    go_wp2_with fail
    go_quiet (fail)
    go_wp2
    go_ret3
    exact ⟨rfl, blk_below (below_drewN (Below.refl _ _) _) HX.out, Chg.of_below (below_drewN (Below.refl _ _) _)⟩

set_option maxRecDepth 1000000 in
set_option maxHeartbeats 8000000 in
theorem rfYield_any (W : World) (b : Nat) (s : Rl) (n unit : Int) (h : RfAt W b s) (hok : RlOk s n) :
    Calls Try.prog 16 #[.pointer (some ⟨b, 0, none⟩), .int .i64 unit] W fun e w' => e = .returned (.int .i64 (yieldA s unit)) ∧ RfAt w' b (yieldR s unit) ∧ Chg (is_ b) W w' := by
  have HX : Hid (RfAt W b s) := h
  have ⟨hnow1, hnow2⟩ := hok.now
  obtain ⟨snow, sown, scon, sep, slast, sask, sfree⟩ := s
  have h1 : RfRaw W b snow sown scon sep slast sask sfree := h
  dsimp only at hnow1 hnow2
  clear hok h
  obtain ⟨c0, c1, c2, c3, c4, c5, c6⟩ := h1.cells
  by_cases g1 : unit < 0
  · have hs := yield_no (s := ⟨snow, sown, scon, sep, slast, sask, sfree⟩) (unit := unit) (.inl g1)
    rw [hs.1, hs.2]
    clear h1 hs
    go_enter Try.func16, Try.ntmps16
    go_wp2
    go_ret
    exact ⟨rfl, HX.out, Chg.refl _ _⟩
  by_cases g2 : sown = unit
  · have hs := yield_own (s := ⟨snow, sown, scon, sep, slast, sask, sfree⟩) (unit := unit) (by omega) g2
    rw [hs.1, hs.2]
    have L := rfLetGo_any W b snow sown scon sep slast sask sfree h1 ⟨hnow1, hnow2⟩
    clear h1 hs
    subst g2
    go_enter Try.func16, Try.ntmps16
    go_wp2_with fail
    refine L.mono ?_
    rintro e w1 ⟨rfl, l1, l2⟩
    have HL : Hid (RfRaw (w1.setCell ⟨b, 2, none⟩ (.int .i64 (-1))) b snow (-1) (-1) sep slast sask (snow + 2) ∧ Chg (is_ b) W (w1.setCell ⟨b, 2, none⟩ (.int .i64 (-1)))) := ⟨l1.p2 (-1), l2.put _ _⟩
    clear c0 c1 c2 c3 c4 c5 c6
    obtain ⟨c0, c1, c2, c3, c4, c5, c6⟩ := l1.cells
    have f2 := l1.froz 2
    clear L l1 l2
    go_wp2
    go_ret
    exact ⟨rfl, HL.out⟩
  · have hs := yield_no (s := ⟨snow, sown, scon, sep, slast, sask, sfree⟩) (unit := unit) (.inr g2)
    rw [hs.1, hs.2]
    have hq : (sown == unit) = false := by simp [g2]
    clear h1 hs
    go_enter Try.func16, Try.ntmps16
    go_wp2
    go_ret
    exact ⟨rfl, HX.out, Chg.refl _ _⟩
end Go.Proofs.Ytmnhlnhocnchpaa
