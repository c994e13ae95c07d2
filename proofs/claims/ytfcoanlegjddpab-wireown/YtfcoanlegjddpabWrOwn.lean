/-
  Rows of bytes of the call's own: as slices that may be unpacked; a copy of bytes of the arguments.
-/
import Derived.Test.YtfcoanlegjddpabWrLaw
import Derived.Test.YtfcoanlegjddpabSmOpenB
import Derived.Laws.OwnMore
namespace Go.Proofs.Ytfcoanlegjddpab
open Go.RowKit

theorem BRow.slice {w : World} {B : Nat} {v : Value} {p : List (BitVec 8)} (h : BRow w B v p) : ∃ o c, v = .slice o p.length c ∧ hasBytes w o p ∧ p.length ≤ c ∧ (∀ g, o = some g → g.block < w.heap.size) := by
  obtain ⟨o, c, e, hb⟩ := h.bytes
  refine ⟨o, c, e, hb, ?_⟩
  rcases h.2 with ⟨e', h0⟩ | ⟨g, cap, cur, e', _, hg, hnc, _⟩
  · rw [e] at e'
    injection e' with e1 e2 e3
    exact ⟨by omega, fun g hg => by rw [e1] at hg; cases hg⟩
  · rw [e] at e'
    injection e' with e1 e2 e3
    refine ⟨by omega, fun a ha => ?_⟩
    rw [e1] at ha
    injection ha with ha
    subst ha
    exact (Array.getElem?_eq_some_iff.1 hg).1
theorem small_unp {p : List (BitVec 8)} {l : List It} (h : unpackR p = some l) : SmallL l ∧ l.length ≤ 100 := by
  obtain ⟨_, _, h3, h4⟩ := unpack_read p l h
  refine ⟨small_of fun x hx => ?_, h3⟩
  have := (h4 x hx).2
  rcases x with n | s | b
  · show (0 : Nat) ≤ _; omega
  · show s.size ≤ _
    have : s.size ≤ 200 := by simpa [longT] using this
    omega
  · show (0 : Nat) ≤ _; omega
theorem empty_row (w : World) : BRow (w.alloc (.cells #[] 5)) w.heap.size (.slice (some ⟨w.heap.size, 0, none⟩) 0 0) [] :=
  ⟨rfl, .inr ⟨w.heap.size, 0, #[], rfl, Nat.le_refl _, sblk_new _ _, Nat.le_refl _, Nat.zero_le _, rfl, rfl⟩⟩
/-- Bytes appended to a row of the call's own, whatever they are. -/
theorem append_any (w : World) (B : Nat) (v : Value) (q : List (BitVec 8)) (oa : Option Addr) (len cap : Nat) (p : List (BitVec 8)) (h : BRow w B v q) (hB : B ≤ w.heap.size) (hp : hasBytesN w oa cap p) (hl : p.length = len) (h5 : q.length + len ≤ 1000000) :
    ∃ v1 w1, (Builtin.append_ #[22, 22] 22 #[v, .slice oa len cap]).run Try.prog w = .ok v1 w1 ∧ BRow w1 B v1 (q ++ p) ∧ Below B w w1 := by
  obtain ⟨i0, hi, hz0, hz1, hz2⟩ := sinfo_parts infoB
  cases oa with
  | none =>
    have h0 : p = [] := by
      rcases p with _ | ⟨x, p⟩
      · rfl
      · obtain ⟨b, off, e, _⟩ := hp.1 0 x rfl
        cases e
    subst h0
    obtain rfl : len = 0 := hl.symm
    obtain rfl := hp.2.2 rfl
    exact ⟨v, w, run_append_owned_none (P := Try.prog) (w := w) B 22 22 5 i0 1 Try.underlying22 hi v q.length _ h, by rw [List.append_nil]; exact h, Below.refl _ _⟩
  | some ad =>
    have hn : ∀ j u, (p.map u8C)[j]? = some u → w.cell? (ad.add j) = some u := fun j u hj => by
      rw [List.getElem?_map, Option.map_eq_some_iff] at hj
      obtain ⟨x, hx, rfl⟩ := hj
      obtain ⟨b, off, e, hc⟩ := hp.1 j x hx
      injection e with e
      subst e
      rw [waddr_at]
      exact hc
    obtain ⟨v1, w1, r1, r2, r3, _, _⟩ := run_append_own_at (P := Try.prog) w B 22 22 5 i0 (.int .u8 0) 1 1 Try.underlying22 hi hz0 hz1 hz2 rfl (by decide) v q.length _ h ad len cap (p.map u8C) (by rw [List.length_map, hl, Nat.mul_one]) hn (one_u8 p) (by unfold maxLen; omega) (by omega) hB
    obtain ⟨h1, h2⟩ := brow_append (news := p) h hB (by rw [hl]) r2 r3
    exact ⟨v1, w1, r1, h1, h2⟩
theorem wpList_append_run {P : Program} {w : World} {ops : Array Oper} {rest : List Oper} {o : Oper} {a : Act} {Q : Exit → Act → World → Prop} (hgd : o.guard = none) (s x : Operand) (t : TypeId)
    (ho : o.op = .call { callee := .builtin .append, args := #[s, x], argTypes := #[t, t] }) (vs vx : Value) (hs : a.eval s = vs) (hx : a.eval x = vx) (v' : Value) (w' : World)
    (hr : (Builtin.append_ #[t, t] o.type #[vs, vx]).run P w = .ok v' w') (h : wpList P ops Q rest (a.put o.dst v') w') : wpList P ops Q (o :: rest) a w := by
  refine wpList_plain hgd fun K hK => ?_
  unfold Oper.wp execOp
  simp only [ho, resolve, invoke, builtin, Sem.run_bind, Sem.run_pure, Result.andThen_ok, List.map_toArray, List.map_cons, List.map_nil, hs, hx, hr]
  exact hK _ _ h
theorem copy_any (w : World) (oa : Option Addr) (len cap : Nat) (p : List (BitVec 8)) (hp : hasBytesN w oa cap p) (hl : p.length = len) (h5 : len ≤ 1000000) :
    ∃ v1 w1, (Builtin.append_ #[22, 22] 22 #[.slice (some ⟨w.heap.size, 0, none⟩) 0 0, .slice oa len cap]).run Try.prog (w.alloc (.cells #[] 5)) = .ok v1 w1 ∧ BRow w1 w.heap.size v1 p ∧ Below w.heap.size w w1 := by
  have hb : Below w.heap.size w (w.alloc (.cells #[] 5)) := (Below.refl _ _).alloc (Nat.le_refl _) _
  obtain ⟨v1, w1, h1, h2, h3⟩ := append_any (w.alloc (.cells #[] 5)) w.heap.size _ [] oa len cap p (empty_row w) hb.size ⟨hp.1.below hb, hp.2⟩ hl (by simpa using h5)
  exact ⟨v1, w1, h1, h2, hb.trans h3⟩
theorem BRow.hasN {w : World} {B : Nat} {v : Value} {p : List (BitVec 8)} (h : BRow w B v p) : ∃ o c, v = .slice o p.length c ∧ hasBytesN w o c p ∧ (∀ g, o = some g → g.block < w.heap.size) := by
  obtain ⟨o, c, e, hb, hc, ho⟩ := h.slice
  refine ⟨o, c, e, ⟨hb, hc, fun e0 => ?_⟩, ho⟩
  rcases h.2 with ⟨e', h0⟩ | ⟨g, cap, cur, e', _, hg, hnc, _⟩
  · rw [e] at e'
    injection e' with e1 e2 e3
  · rw [e] at e'
    injection e' with e1 e2 e3
    rw [e1] at e0
    cases e0
theorem hasBytesN.below {w w' : World} {o : Option Addr} {c : Nat} {p : List (BitVec 8)} (h : hasBytesN w o c p) (hb : Below w.heap.size w w') : hasBytesN w' o c p := ⟨h.1.below hb, h.2⟩
end Go.Proofs.Ytfcoanlegjddpab
