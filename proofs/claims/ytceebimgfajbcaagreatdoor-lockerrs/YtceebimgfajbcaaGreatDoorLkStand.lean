/-
  Package lock: may all routes stand so (mayStand), and Set, by contracts.
-/
import Derived.Test.YtceebimgfajbcaaGreatDoorLkMayBe
import Derived.Test.YtceebimgfajbcaaGreatDoorLkRoutes
namespace Go.Proofs.YtceebimgfajbcaaGreatDoor
open Go.RowKit

def standOne (l : List St) (x : Wy) (s : St) : Bool := mayBeF s x.path.length && (decide (s.1 = 0) || !busyB l x.foes)
/-- May all routes stand so at one time? -/
def standF (ws : List Wy) (l : List St) : Bool := decide (l.length = ws.length) && (ws.zip l).all fun q => standOne l q.1 q.2
theorem stand_no {ws : List Wy} {l : List St} {k : Nat} {x : Wy} {s : St} (hx : ws[k]? = some x) (hs : l[k]? = some s) (h : standOne l x s = false) : standF ws l = false := by
  rw [standF, Bool.and_eq_false_iff]
  refine .inr (List.all_eq_false.2 ⟨(x, s), List.mem_of_getElem? (zip_at hx hs), by simpa using h⟩)
theorem stand_yes {ws : List Wy} {l : List St} (hl : l.length = ws.length) (h : ∀ (k : Nat) (x : Wy) (s : St), ws[k]? = some x → l[k]? = some s → standOne l x s = true) : standF ws l = true := by
  rw [standF, Bool.and_eq_true]
  refine ⟨decide_eq_true hl, List.all_eq_true.2 fun q hq => ?_⟩
  obtain ⟨k, hk⟩ := List.getElem?_of_mem hq
  rw [List.getElem?_zip_eq_some] at hk
  exact h k q.1 q.2 hk.1 hk.2

/-- All states stored anew: the row that the call itself made. -/
theorem set_states {W : World} {B kb : Nat} {u : Nat → Value} {ns ng : Nat} {pts : List Int} {ws : List WyV} {ss l : List St} {v : Value} (h : LkAt W B kb u ns ng pts ws ss) (ho : W.ownsRow B 80 4 v l.length (l.flatMap stC)) :
    (∃ u', LkAt (W.setCell ⟨kb, 4, none⟩ v) B kb u' ns ng pts ws l ∧ u' 2 = v) ∧ Chg (fun k => k = kb) W (W.setCell ⟨kb, 4, none⟩ v) ∧ True := by
  have hc : Chg (fun k => k = kb) W (W.setCell ⟨kb, 4, none⟩ v) := ⟨rfl, rfl, rfl, by simp, fun k _ hk => Below.heap_setCell W ⟨kb, 4, none⟩ v k hk⟩
  have hne : ∀ k, v.ownBlock = some k → k ≠ kb := owns_ne ho h.blk (by decide)
  refine ⟨⟨fun | 0 => u 0 | 1 => u 1 | _ => v, ⟨?_, h.base, .inl ?_, fun W' hW => ?_⟩, rfl⟩, hc, trivial⟩
  · rw [heap_put h.blk v]
    rfl
  · exact owns_keep ho fun k e => hc.block k (ho.lt k e).2 (hne k e)
  · refine h.inn W' fun k hk hcl => ?_
    have hkb : k ≠ kb := fun e => (h.foot (.inl e)).2.2 hcl
    have e1 := hc.block k hk hkb
    obtain ⟨c, t, z, hb, ht⟩ := hcl
    exact (hW k (Nat.lt_of_lt_of_le hk hc.size) ⟨c, t, z, e1.trans hb, ht⟩).trans e1

/-- All ways may stand anew. -/
theorem stand_sts {ws : List Wy} {l : List St} (h : standF ws l = true) : l.length = ws.length ∧ ∀ (k : Nat) (x : Wy) (s : St), ws[k]? = some x → l[k]? = some s → mayBeF s x.path.length = true := by
  rw [standF, Bool.and_eq_true] at h
  refine ⟨of_decide_eq_true h.1, fun k x s hx hs => ?_⟩
  have := List.all_eq_true.1 h.2 (x, s) (List.mem_of_getElem? (zip_at hx hs))
  rw [standOne, Bool.and_eq_true] at this
  exact this.1

theorem LkAt.store {W : World} {B kb : Nat} {u : Nat → Value} {ns ng : Nat} {pts : List Int} {ws : List WyV} {ss : List St} (h : LkAt W B kb u ns ng pts ws ss) {a : Addr} (ha : ¬ lkFoot kb (u 2) ss a.block ∧ ¬ isClean W a.block) (v : Value) : LkAt (W.setCell a v) B kb u ns ng pts ws ss :=
  h.keep (by simp) fun k _ hk => Below.heap_setCell W a v k fun e => by
    subst e
    exact hk.elim ha.1 ha.2
theorem not_clean {W : World} {k : Nat} {c : Array Value} {t : TypeId} {z : Nat × Nat} (hb : W.heap[k]? = some (.cells c t z)) (ht : t ≠ 3 ∧ t ≠ 96 ∧ t ≠ 74) : ¬ isClean W k := by
  rintro ⟨c', t', z', hb', h⟩
  rw [hb] at hb'
  injection hb' with hb'
  injection hb' with h1 h2 h3
  subst h2
  rcases h with h | h | h
  · exact ht.1 h
  · exact ht.2.1 h
  · exact ht.2.2 h
end Go.Proofs.YtceebimgfajbcaaGreatDoor
