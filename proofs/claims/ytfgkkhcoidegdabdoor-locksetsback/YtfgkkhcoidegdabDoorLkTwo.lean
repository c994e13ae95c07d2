/-
  Two locks over one layout: what is done to the one leaves the other as it is.
-/
import Derived.Test.YtfgkkhcoidegdabDoorLkApartP
import Derived.Test.YtfgkkhcoidegdabDoorLkInOut
namespace Go.Proofs.YtfgkkhcoidegdabDoor
open Go.RowKit

structure Two (w0 w1 W : World) (l : Lay) (rs : List RtV) (ka kb : Nat) (ss tt : List St) : Prop where
  a : ∃ u ws, LkAt W w0.heap.size ka u l.sections.length l.signals.length (l.points.map (·.2)) ws ss ∧ ws.map (·.1) = waysG rs rs 0 ∧ ∀ k, lkFoot ka (u 2) ss k → k < w1.heap.size
  b : ∃ u ws, LkAt W w1.heap.size kb u l.sections.length l.signals.length (l.points.map (·.2)) ws tt ∧ ws.map (·.1) = waysG rs rs 0
  oa : LkOk l.sections.length l.signals.length (l.points.map (·.2)) (waysG rs rs 0) ss
  ob : LkOk l.sections.length l.signals.length (l.points.map (·.2)) (waysG rs rs 0) tt
  bl : Below w0.heap.size w0 W
  sz : w0.heap.size ≤ w1.heap.size ∧ w1.heap.size ≤ W.heap.size

variable {w0 w1 W W' : World} {l : Lay} {rs : List RtV} {ka kb : Nat} {ss tt : List St}
/-- The second lock made behind the first. -/
theorem Two.of (h1 : LkG w0 w1 l rs ka ss) (h2 : LkG w1 W l rs kb tt) (hb : Below w1.heap.size w1 W) : Two w0 w1 W l rs ka kb ss tt := by
  obtain ⟨u, ws, g1, g2⟩ := h1.ex
  obtain ⟨u', ws', g3, g4⟩ := h2.ex
  exact ⟨⟨u, ws, g1.below hb, g2, fun k hk => (g1.foot hk).2.1⟩, ⟨u', ws', g3, g4⟩, h1.ok, h2.ok, h1.bl.trans (hb.mono h1.bl.size), ⟨h1.bl.size, hb.size⟩⟩
theorem Two.step (h : Two w0 w1 W l rs ka kb ss tt) (hb : Below W.heap.size W W') : Two w0 w1 W' l rs ka kb ss tt := by
  obtain ⟨u, ws, g1, g2, g3⟩ := h.a
  obtain ⟨u', ws', g4, g5⟩ := h.b
  exact ⟨⟨u, ws, g1.below hb, g2, g3⟩, ⟨u', ws', g4.below hb, g5⟩, h.oa, h.ob, h.bl.trans (hb.mono h.bl.size), ⟨h.sz.1, Nat.le_trans h.sz.2 hb.size⟩⟩
theorem Two.turnA (h : Two w0 w1 W l rs ka kb ss tt) {u : Nat → Value} {ws : List WyV} {ss' : List St} (g1 : LkAt W w0.heap.size ka u l.sections.length l.signals.length (l.points.map (·.2)) ws ss) (g2 : ws.map (·.1) = waysG rs rs 0) (g3 : ∀ k, lkFoot ka (u 2) ss k → k < w1.heap.size)
    (h4 : LkAt W' w0.heap.size ka u l.sections.length l.signals.length (l.points.map (·.2)) ws ss') (h5 : Chg (lkFoot ka (u 2) ss) W W') (hok : LkOk l.sections.length l.signals.length (l.points.map (·.2)) (waysG rs rs 0) ss') : Two w0 w1 W' l rs ka kb ss' tt := by
  obtain ⟨u', ws', g4, g5⟩ := h.b
  refine ⟨⟨u, ws, h4, g2, fun k hk => g3 k (lkFoot_mono (hok.len.trans h.oa.len.symm) hk)⟩, ⟨u', ws', g4.keep h5.size fun k hk hor => h5.block k hk fun hf => ?_, g5⟩, hok, h.ob, h.bl.trans (h5.below (fun k hk => (g1.foot hk).1) h.bl.size), ⟨h.sz.1, Nat.le_trans h.sz.2 h5.size⟩⟩
  rcases hor with ho | ho
  · have := (g4.foot ho).1
    have := g3 k hf
    omega
  · exact (g1.foot hf).2.2 ho
theorem Two.turnB (h : Two w0 w1 W l rs ka kb ss tt) {S : Nat → Prop} {u u2 : Nat → Value} {ws : List WyV} {tt' : List St} (g1 : LkAt W w1.heap.size kb u l.sections.length l.signals.length (l.points.map (·.2)) ws tt) (g2 : ws.map (·.1) = waysG rs rs 0)
    (h4 : LkAt W' w1.heap.size kb u2 l.sections.length l.signals.length (l.points.map (·.2)) ws tt') (h5 : Chg S W W') (hS : ∀ k, S k → lkFoot kb (u 2) tt k) (hok : LkOk l.sections.length l.signals.length (l.points.map (·.2)) (waysG rs rs 0) tt') : Two w0 w1 W' l rs ka kb ss tt' := by
  obtain ⟨u', ws', g4, g5, g6⟩ := h.a
  refine ⟨⟨u', ws', g4.keep h5.size fun k hk hor => h5.block k hk fun hf => ?_, g5, g6⟩, ⟨u2, ws, h4, g2⟩, h.oa, hok, h.bl.trans (h5.below (fun k hk => Nat.le_trans h.sz.1 (g1.foot (hS k hk)).1) h.bl.size), ⟨h.sz.1, Nat.le_trans h.sz.2 h5.size⟩⟩
  rcases hor with ho | ho
  · have := (g1.foot (hS k hf)).1
    have := g6 k ho
    omega
  · exact (g1.foot (hS k hf)).2.2 ho
section
variable (v : Nat → Value) (occ : List Bool) (lies : List Int) (kind r : Int)
theorem cmd_a (h : Two w0 w1 W l rs ka kb ss tt) (hin : InRd w0 v occ lies) (hl : lies.length ≤ 4294967296) :
    Calls Tryd.prog 9 #[.pointer (some ⟨ka, 0, none⟩), .agg #[v 0, v 1], .agg #[.int .i64 kind, .int .i64 r]] W fun e w' => e = .returned (.int .i64 (cmdG l rs ss occ lies kind r).1) ∧ Two w0 w1 w' l rs ka kb (cmdG l rs ss occ lies kind r).2 tt ∧ TC W w' := by
  obtain ⟨u, ws, g1, g2, g3⟩ := h.a
  refine (command_any w0.heap.size ka u _ _ _ ws ss v occ lies kind r W g1 (by rw [g2]; exact h.oa) (hin.below h.bl) hl).mono ?_
  rintro e w' ⟨rfl, h4, h5⟩
  rw [g2] at h4 ⊢
  exact ⟨rfl, h.turnA g1 g2 g3 h4 h5 (h.oa.cmd occ lies kind r), h5.mono fun k _ hk => foot_ty g1 hk⟩
theorem cmd_b (h : Two w0 w1 W l rs ka kb ss tt) (hin : InRd w0 v occ lies) (hl : lies.length ≤ 4294967296) :
    Calls Tryd.prog 9 #[.pointer (some ⟨kb, 0, none⟩), .agg #[v 0, v 1], .agg #[.int .i64 kind, .int .i64 r]] W fun e w' => e = .returned (.int .i64 (cmdG l rs tt occ lies kind r).1) ∧ Two w0 w1 w' l rs ka kb ss (cmdG l rs tt occ lies kind r).2 ∧ TC W w' := by
  obtain ⟨u, ws, g1, g2⟩ := h.b
  refine (command_any w1.heap.size kb u _ _ _ ws tt v occ lies kind r W g1 (by rw [g2]; exact h.ob) (hin.below h.bl) hl).mono ?_
  rintro e w' ⟨rfl, h4, h5⟩
  rw [g2] at h4 ⊢
  exact ⟨rfl, h.turnB g1 g2 h4 h5 (fun _ hk => hk) (h.ob.cmd occ lies kind r), h5.mono fun k _ hk => foot_ty g1 hk⟩
theorem cyc_a (h : Two w0 w1 W l rs ka kb ss tt) (hin : InRd w0 v occ lies) (hl : lies.length ≤ 4294967296) :
    Calls Tryd.prog 13 #[.pointer (some ⟨ka, 0, none⟩), .agg #[v 0, v 1]] W fun e w' => ∃ b1 b2, e = .returned (outV b1 b2 l.points.length l.signals.length) ∧ OutAt w' W.heap.size b1 b2 (cycG l rs ss occ lies).2.1 (cycG l rs ss occ lies).2.2 ∧ Two w0 w1 w' l rs ka kb (cycG l rs ss occ lies).1 tt ∧ TC W w' := by
  obtain ⟨u, ws, g1, g2, g3⟩ := h.a
  refine (cycle_any w0.heap.size ka u _ _ _ ws ss v occ lies W g1 (by rw [g2]; exact h.oa) (fun W' hW => hin.below (h.bl.trans (hW.below (fun k hk => (g1.foot hk).1) h.bl.size))) hl).mono ?_
  rintro e w' ⟨b1, b2, rfl, ho, h4, h5⟩
  rw [g2] at h4 ho
  exact ⟨b1, b2, by rw [List.length_map], ho, h.turnA g1 g2 g3 h4 h5 (h.oa.cyc occ lies), h5.mono fun k _ hk => foot_ty g1 hk⟩
theorem cyc_b (h : Two w0 w1 W l rs ka kb ss tt) (hin : InRd w0 v occ lies) (hl : lies.length ≤ 4294967296) :
    Calls Tryd.prog 13 #[.pointer (some ⟨kb, 0, none⟩), .agg #[v 0, v 1]] W fun e w' => ∃ b1 b2, e = .returned (outV b1 b2 l.points.length l.signals.length) ∧ OutAt w' W.heap.size b1 b2 (cycG l rs tt occ lies).2.1 (cycG l rs tt occ lies).2.2 ∧ Two w0 w1 w' l rs ka kb ss (cycG l rs tt occ lies).1 ∧ TC W w' := by
  obtain ⟨u, ws, g1, g2⟩ := h.b
  refine (cycle_any w1.heap.size kb u _ _ _ ws tt v occ lies W g1 (by rw [g2]; exact h.ob) (fun W' hW => hin.below (h.bl.trans (hW.below (fun k hk => Nat.le_trans h.sz.1 (g1.foot hk).1) h.bl.size))) hl).mono ?_
  rintro e w' ⟨b1, b2, rfl, ho, h4, h5⟩
  rw [g2] at h4 ho
  exact ⟨b1, b2, by rw [List.length_map], ho, h.turnB g1 g2 h4 h5 (fun _ hk => hk) (h.ob.cyc occ lies), h5.mono fun k _ hk => foot_ty g1 hk⟩
end
theorem routes_a (h : Two w0 w1 W l rs ka kb ss tt) :
    Calls Tryd.prog 15 #[.pointer (some ⟨ka, 0, none⟩)] W fun e w' => ∃ v, e = .returned v ∧ rowAt w' v 4 stC ss ∧ Below W.heap.size W w' := by
  obtain ⟨u, ws, g1, g2, g3⟩ := h.a
  refine (routes_any ka u _ _ _ ws ss W g1.rd (by have := h.oa.len; have := h.oa.few.2.2.2; omega)).mono ?_
  rintro e w' ⟨v, rfl, ho, hb⟩
  exact ⟨v, rfl, rowAt_of_owns (cs := stC) (fun _ => rfl) ho, hb⟩
theorem routes_b (h : Two w0 w1 W l rs ka kb ss tt) :
    Calls Tryd.prog 15 #[.pointer (some ⟨kb, 0, none⟩)] W fun e w' => ∃ v, e = .returned v ∧ rowAt w' v 4 stC tt ∧ Below W.heap.size W w' := by
  obtain ⟨u, ws, g1, g2⟩ := h.b
  refine (routes_any kb u _ _ _ ws tt W g1.rd (by have := h.ob.len; have := h.ob.few.2.2.2; omega)).mono ?_
  rintro e w' ⟨v, rfl, ho, hb⟩
  exact ⟨v, rfl, rowAt_of_owns (cs := stC) (fun _ => rfl) ho, hb⟩
/-- The second lock set to how the first one's routes stand. -/
theorem set_b (v : Value) (h : Two w0 w1 W l rs ka kb ss tt) (hv : rowAt W v 4 stC ss) (hap : ApartS (waysG rs rs 0) ss) :
    Calls Tryd.prog 14 #[.pointer (some ⟨kb, 0, none⟩), v] W fun e w' => e = .returned (.bool true) ∧ Two w0 w1 w' l rs ka kb ss ss := by
  obtain ⟨u, ws, g1, g2⟩ := h.b
  have hlen : ws.length = (waysG rs rs 0).length := by rw [← g2, List.length_map]
  have hf := h.ob.few.2.2.2
  have mem : ∀ x ∈ ws, x.1 ∈ waysG rs rs 0 := fun x hx => by rw [← g2]; exact List.mem_map.2 ⟨x, hx, rfl⟩
  refine (set_yes w1.heap.size kb u _ _ _ ws tt ss v W g1 h.sz.2 hv (fun x hx f hf => by rw [hlen]; exact h.ob.foes x.1 (mem x hx) f hf) ⟨by omega, by have := h.oa.len; omega, fun x hx => ⟨(h.ob.ways x.1 (mem x hx)).few.1, (h.ob.ways x.1 (mem x hx)).few.2.2⟩⟩ (by rw [g2]; exact stand_of h.oa hap)).mono ?_
  rintro e w' ⟨u2, rfl, h4, h5, -⟩
  exact ⟨rfl, h.turnB g1 g2 h4 h5 (fun k hk => .inl hk) h.oa⟩
end Go.Proofs.YtfgkkhcoidegdabDoor
