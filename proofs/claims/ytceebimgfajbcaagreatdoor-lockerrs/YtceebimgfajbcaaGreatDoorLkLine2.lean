/-
  A lock of the law's layout: New, Command, Cycle, Holder, Routes by contracts that carry all that a law needs.
-/
import Derived.Test.YtceebimgfajbcaaGreatDoorLkLine
namespace Go.Proofs.YtceebimgfajbcaaGreatDoor
open Go.RowKit

def lockT (W : World) (k : Nat) : Prop := ∃ c t z, W.heap[k]? = some (.cells c t z) ∧ (t = 72 ∨ t = 80)
/-- Of what was there only locks have turned. -/
def TC (W W' : World) : Prop := Chg (lockT W) W W'
theorem TC.refl (W : World) : TC W W := Chg.refl _ _
theorem TC.of_below {W W' : World} (h : Below W.heap.size W W') : TC W W' := Chg.of_below h
theorem TC.not {W W' : World} (h : TC W W') {k : Nat} (hk : k < W.heap.size) (hn : ¬ lockT W k) : ¬ lockT W' k := by
  rintro ⟨c, t, z, hb, ht⟩
  rw [h.block k hk hn] at hb
  exact hn ⟨c, t, z, hb, ht⟩
theorem TC.trans {W W' W'' : World} (h : TC W W') (k : TC W' W'') : TC W W'' :=
  ⟨k.os.trans h.os, k.tape.trans h.tape, k.output.trans h.output, Nat.le_trans h.size k.size, fun i hi hn => (k.block i (Nat.lt_of_lt_of_le hi h.size) (h.not hi hn)).trans (h.block i hi hn)⟩
theorem TC.blk {W W' : World} (h : TC W W') {b : Nat} {c : Array Value} {t : TypeId} {z : Nat × Nat} (hb : W.heap[b]? = some (.cells c t z)) (ht : t ≠ 72 ∧ t ≠ 80) : W'.heap[b]? = some (.cells c t z) := by
  refine (h.block b (Array.getElem?_eq_some_iff.1 hb).1 ?_).trans hb
  rintro ⟨c', t', z', hb', ht'⟩
  rw [hb] at hb'
  injection hb' with hb'
  injection hb' with h1 h2 h3
  subst h2
  rcases ht' with h | h
  · exact ht.1 h
  · exact ht.2 h
theorem TC.owns {W W' : World} (h : TC W W') {base size n : Nat} {e : TypeId} {v : Value} {xs : List Value} (ho : W.ownsRow base e size v n xs) (he : e ≠ 72 ∧ e ≠ 80) : W'.ownsRow base e size v n xs := by
  refine ⟨ho.1, ?_⟩
  rcases ho.2 with h2 | ⟨g, cap, cur, rfl, b, hg, r⟩
  · exact .inl h2
  · exact .inr ⟨g, cap, cur, rfl, b, h.blk hg he, r⟩
/-- What the field tells, where no lock ever writes. -/
def InNew (W : World) (v : Nat → Value) (occ : List Bool) (lies : List Int) : Prop := ∀ W', TC W W' → InRd W' v occ lies
theorem InNew.step {W W' : World} {v : Nat → Value} {occ : List Bool} {lies : List Int} (h : InNew W v occ lies) (hc : TC W W') : InNew W' v occ lies := fun _ hW => h _ (hc.trans hW)
theorem OutAt.tc {W W' : World} {B b1 b2 : Nat} {dr : List Int} {pr : List Bool} (h : OutAt W B b1 b2 dr pr) (hc : TC W W') : OutAt W' B b1 b2 dr pr := ⟨hc.blk h.h1 (by decide), hc.blk h.h2 (by decide), h.base, h.ne⟩

structure LkL (w0 W : World) (kb : Nat) (ss : List St) : Prop where
  ex : ∃ u ws, LkAt W w0.heap.size kb u 3 3 [1] ws ss ∧ ws.map (·.1) = lineW
  ok : okS ss
  bl : Below w0.heap.size w0 W
theorem LkL.step {w0 W W' : World} {kb : Nat} {ss : List St} (h : LkL w0 W kb ss) (hb : Below W.heap.size W W') : LkL w0 W' kb ss := by
  obtain ⟨u, ws, h1, h2⟩ := h.ex
  exact ⟨⟨u, ws, h1.below hb, h2⟩, h.ok, h.bl.trans (hb.mono h.bl.size)⟩
theorem foot_ty {W : World} {B kb : Nat} {u : Nat → Value} {ns ng : Nat} {pts : List Int} {ws : List WyV} {ss : List St} (h : LkAt W B kb u ns ng pts ws ss) {k : Nat} (hk : lkFoot kb (u 2) ss k) : lockT W k := by
  rcases hk with rfl | ⟨hne, hk⟩
  · exact ⟨_, _, _, h.blk, .inl rfl⟩
  · rcases h.st with ho | ⟨h0, _⟩
    · rcases ho.2 with ⟨e, hn⟩ | ⟨g, cap, cur, e, _, hg, _⟩
      · rw [e] at hk; cases hk
      · rw [e] at hk
        have := Option.some.inj hk
        simp only at this
        subst this
        exact ⟨_, _, _, hg, .inr rfl⟩
    · exact absurd h0 hne
theorem LkAt.lower {W : World} {B B' kb : Nat} {u : Nat → Value} {ns ng : Nat} {pts : List Int} {ws : List WyV} {ss : List St} (h : LkAt W B kb u ns ng pts ws ss) (hB : B' ≤ B) : LkAt W B' kb u ns ng pts ws ss :=
  ⟨h.blk, Nat.le_trans hB h.base, h.st.imp (fun ho => owns_mono ho hB) id, h.inn⟩

theorem new_l (w0 W : World) (v : Nat → Value) (a b c d e' f : Value) (h : LayRd W v lineLay [(rt0, a, b, c), (rt1, d, e', f)]) (hf : Few lineLay [(rt0, a, b, c), (rt1, d, e', f)] v) (hb : Below w0.heap.size w0 W) :
    Calls Tryz.prog 8 #[.agg #[v 0, v 1, v 2, v 3]] W fun e w' => ∃ kb, e = .returned (.tuple #[.pointer (some ⟨kb, 0, none⟩), .int .i64 0]) ∧ LkL w0 w' kb [idleS, idleS] ∧ Below W.heap.size W w' := by
  refine (new_any v lineLay _ W h hf.mid (by decide +kernel) ⟨by simp, by simp [lineLay]⟩ fun y hy => ?_).mono ?_
  · have := hf.x y hy
    omega
  · rintro e w' ⟨kb, u, ws, rfl, h1, h2, h3⟩
    exact ⟨kb, rfl, ⟨⟨u, ws, h1.lower hb.size, by rw [h2]; kernel_rfl⟩, ⟨_, _, rfl, by decide, by decide⟩, hb.trans (h3.mono hb.size)⟩, h3⟩

def cmdL (ss : List St) (occ : List Bool) (lies : List Int) (kind r : Int) : Int × List St := cmdF 3 [1] lineW ss occ lies kind r
def cycL (ss : List St) (occ : List Bool) (lies : List Int) : List St × (List Int × List Bool) := cycF 3 3 [1] lineW ss occ lies
theorem cmd_l (w0 W : World) (kb : Nat) (ss : List St) (v : Nat → Value) (occ : List Bool) (lies : List Int) (kind r : Int) (h : LkL w0 W kb ss) (hin : InNew W v occ lies) (hl : lies.length ≤ 100) (a : Int) (ss' : List St) (hc : cmdL ss occ lies kind r = (a, ss')) (hs : okS ss') :
    Calls Tryz.prog 9 #[.pointer (some ⟨kb, 0, none⟩), .agg #[v 0, v 1], .agg #[.int .i64 kind, .int .i64 r]] W fun e w' => e = .returned (.int .i64 a) ∧ LkL w0 w' kb ss' ∧ TC W w' := by
  obtain ⟨u, ws, h1, h2⟩ := h.ex
  refine (command_any w0.heap.size kb u 3 3 [1] ws ss v occ lies kind r W h1 (by rw [h2]; exact okL h.ok) (hin W (TC.refl _)) (by omega)).mono ?_
  rintro e w' ⟨rfl, h3, h4⟩
  rw [h2] at h3 ⊢
  rw [show cmdF 3 [1] lineW ss occ lies kind r = (a, ss') from hc] at h3 ⊢
  exact ⟨rfl, ⟨⟨u, ws, h3, h2⟩, hs, h.bl.trans (h4.below (fun k hk => (h1.foot hk).1) h.bl.size)⟩, h4.mono fun k _ hk => foot_ty h1 hk⟩
theorem cyc_l (w0 W : World) (kb : Nat) (ss : List St) (v : Nat → Value) (occ : List Bool) (lies : List Int) (h : LkL w0 W kb ss) (hin : InNew W v occ lies) (hl : lies.length ≤ 100) (ss' : List St) (dr : List Int) (pr : List Bool) (hc : cycL ss occ lies = (ss', (dr, pr))) (hs : okS ss') :
    Calls Tryz.prog 10 #[.pointer (some ⟨kb, 0, none⟩), .agg #[v 0, v 1]] W fun e w' => ∃ b1 b2, e = .returned (.agg #[.slice (some ⟨b1, 0, none⟩) 1 1, .slice (some ⟨b2, 0, none⟩) 3 3]) ∧ OutAt w' W.heap.size b1 b2 dr pr ∧ LkL w0 w' kb ss' ∧ TC W w' := by
  obtain ⟨u, ws, h1, h2⟩ := h.ex
  refine (cycle_any w0.heap.size kb u 3 3 [1] ws ss v occ lies W h1 (by rw [h2]; exact okL h.ok) (fun W' hW => hin W' (hW.mono fun k _ hk => foot_ty h1 hk)) (by omega)).mono ?_
  rintro e w' ⟨b1, b2, rfl, ho, h3, h4⟩
  rw [h2] at h3 ho
  rw [show cycF 3 3 [1] lineW ss occ lies = (ss', (dr, pr)) from hc] at h3 ho
  exact ⟨b1, b2, rfl, ho, ⟨⟨u, ws, h3, h2⟩, hs, h.bl.trans (h4.below (fun k hk => (h1.foot hk).1) h.bl.size)⟩, h4.mono fun k _ hk => foot_ty h1 hk⟩
theorem hold_l (w0 W : World) (kb : Nat) (ss : List St) (sec : Int) (h : LkL w0 W kb ss) (a : Int) (hc : holderF lineW ss sec = a) :
    Calls Tryz.prog 40 #[.pointer (some ⟨kb, 0, none⟩), .int .i64 sec] W fun e w' => e = .returned (.int .i64 a) ∧ Below W.heap.size W w' := by
  obtain ⟨u, ws, h1, h2⟩ := h.ex
  have := holder_any kb u 3 3 [1] ws ss sec W h1.rd (by rw [h2]; exact okL h.ok)
  rw [h2, hc] at this
  exact this
theorem routes_l (w0 W : World) (kb : Nat) (ss : List St) (h : LkL w0 W kb ss) :
    Calls Tryz.prog 11 #[.pointer (some ⟨kb, 0, none⟩)] W fun e w' => ∃ g c, e = .returned (.slice (some ⟨g, 0, none⟩) 2 c) ∧ rowAt w' (.slice (some ⟨g, 0, none⟩) 2 c) 4 stC ss ∧ Below W.heap.size W w' := by
  obtain ⟨u, ws, h1, h2⟩ := h.ex
  have hl : ss.length = 2 := by obtain ⟨s0, s1, rfl, _⟩ := h.ok; rfl
  refine (routes_any kb u 3 3 [1] ws ss W h1.rd (by omega)).mono ?_
  rintro e w' ⟨v, rfl, ho, hb⟩
  have hr := rowAt_of_owns (cs := stC) (fun _ => rfl) ho
  rcases ho.2 with ⟨_, h0⟩ | ⟨g, cap, cur, rfl, _⟩
  · omega
  · rw [hl] at hr ⊢
    exact ⟨g, cap, rfl, hr, hb⟩
end Go.Proofs.YtceebimgfajbcaaGreatDoor
