/-
  Of all routes that are not idle none excludes another: that stays so, whatever is done (plain).
-/
import Derived.Test.YtceebimgfajbcaaGreatDoorLkLay
import Derived.Test.YtceebimgfajbcaaGreatDoorConfSym
namespace Go.Proofs.YtceebimgfajbcaaGreatDoor
open Go.RowKit

/-- Whom a route excludes excludes it; none excludes itself. -/
structure FoeOk (ws : List Wy) : Prop where
  sym : ∀ (i j : Nat) (x y : Wy), ws[i]? = some x → ws[j]? = some y → (j : Int) ∈ x.foes → (i : Int) ∈ y.foes
  irr : ∀ (i : Nat) (x : Wy), ws[i]? = some x → (i : Int) ∉ x.foes
  pos : ∀ x ∈ ws, ∀ f ∈ x.foes, 0 ≤ f ∧ f < (ws.length : Nat)
theorem foeOk_ways (rs : List RtV) : FoeOk (waysG rs rs 0) := by
  have get : ∀ {i : Nat} {x : Wy}, (waysG rs rs 0)[i]? = some x → ∃ r, rs[i]? = some r ∧ x = wayF rs (0 + i) r.1 := fun {i x} h => by
    have hlt : i < rs.length := by rw [← waysG_map rs rs 0]; exact (List.getElem?_eq_some_iff.1 h).1
    obtain ⟨r, hr⟩ := at_of hlt
    rw [ways_at rs rs 0 i r hr] at h
    exact ⟨r, hr, (Option.some.inj h).symm⟩
  refine ⟨fun i j x y hx hy hf => ?_, fun i x hx hf => ?_, fun w hw f hf => ?_⟩
  · obtain ⟨a, ha, rfl⟩ := get hx
    obtain ⟨b, hb, rfl⟩ := get hy
    obtain ⟨q, z, hz, e, hc⟩ := (foes_mem _ _ _ _ _).1 hf
    obtain rfl : q = j := by omega
    obtain rfl : b = z := Option.some.inj (hb.symm.trans hz)
    refine (foes_mem _ _ _ _ _).2 ⟨i, a, ha, by omega, ?_⟩
    rw [Bool.and_eq_true] at hc ⊢
    refine ⟨decide_eq_true fun e => of_decide_eq_true hc.1 e.symm, ?_⟩
    rw [conf_symm]
    exact hc.2
  · obtain ⟨a, ha, rfl⟩ := get hx
    obtain ⟨q, z, hz, e, hc⟩ := (foes_mem _ _ _ _ _).1 hf
    rw [Bool.and_eq_true] at hc
    have := of_decide_eq_true hc.1
    omega
  · obtain ⟨j, x, hx, rfl⟩ := ways_mem hw
    obtain ⟨i, y, hy, rfl, _⟩ := (foes_mem _ _ _ _ _).1 hf
    have := (List.getElem?_eq_some_iff.1 hy).1
    rw [waysG_map]
    omega
def ApartS (ws : List Wy) (ss : List St) : Prop := ∀ (k : Nat) (x : Wy) (s : St), ws[k]? = some x → ss[k]? = some s → s.1 = 0 ∨ busyB ss x.foes = false
theorem busy_no {ss : List St} {fs : List Int} : busyB ss fs = false ↔ ∀ f ∈ fs, (stAt ss f).1 = 0 := by
  rw [busyB, List.any_eq_false]
  constructor
  · intro h f hf
    have := h f hf
    simpa using this
  · intro h f hf
    rw [h f hf]
    decide
theorem apart_idle (ws : List Wy) (n : Nat) : ApartS ws (List.replicate n idleS) := fun k x s _ hs => by
  rw [(List.mem_replicate.1 (List.mem_of_getElem? hs)).2]
  exact .inl rfl
/-- Where none but the idle ones turned, it stays so. -/
theorem ApartS.less {ws : List Wy} {ss ss' : List St} (h : ApartS ws ss) (hl : ss'.length = ss.length) (hle : ∀ (k : Nat) (s s' : St), ss[k]? = some s → ss'[k]? = some s' → s.1 = 0 → s'.1 = 0) : ApartS ws ss' := fun k x s' hx hs' => by
  obtain ⟨s, hs⟩ := at_of (l := ss) (k := k) (by rw [← hl]; exact (List.getElem?_eq_some_iff.1 hs').1)
  rcases h k x s hx hs with h0 | h0
  · exact .inl (hle k s s' hs hs' h0)
  · refine .inr (busy_no.2 fun f hf => ?_)
    have h1 := busy_no.1 h0 f hf
    rw [stAt, List.getD_eq_getElem?_getD] at h1 ⊢
    cases e' : ss'[f.toNat]? with
    | none => rfl
    | some t' =>
      obtain ⟨t, ht⟩ := at_of (l := ss) (k := f.toNat) (by rw [← hl]; exact (List.getElem?_eq_some_iff.1 e').1)
      rw [ht] at h1
      exact hle _ t t' ht e' h1
theorem step_idle {s : St} {x : Wy} {occ : List Bool} {lies : List Int} (h : s.1 = 0) : (stepF s x occ lies).1 = 0 := by
  unfold stepF
  rw [if_neg (by omega), if_neg (by omega), if_neg (by omega), if_neg (by omega)]
  exact h
theorem stepAll_idle (occ : List Bool) (lies : List Int) : ∀ (ws : List Wy) (ss : List St) (k : Nat) (s s' : St), ss[k]? = some s → (stepAll occ lies ws ss)[k]? = some s' → s.1 = 0 → s'.1 = 0
  | [], ss, k, s, s', h1, h2, h0 => by
    rw [stepAll.eq_def] at h2
    rw [h1] at h2
    rw [← Option.some.inj h2]
    exact h0
  | _ :: _, [], k, s, s', h1, _, _ => by simp at h1
  | x :: ws, t :: ss, 0, s, s', h1, h2, h0 => by
    simp [stepAll] at h1 h2
    subst h1 h2
    exact step_idle h0
  | x :: ws, t :: ss, k + 1, s, s', h1, h2, h0 => by
    rw [stepAll, List.getElem?_cons_succ] at h2
    exact stepAll_idle occ lies ws ss k s s' (by simpa using h1) h2 h0
theorem ApartS.cyc {ns ng : Nat} {pts : List Int} {ws : List Wy} {ss : List St} (h : ApartS ws ss) (occ : List Bool) (lies : List Int) : ApartS ws (cycF ns ng pts ws ss occ lies).1 := by
  unfold cycF
  split
  · exact h.less (stepAll_len occ lies ws ss) (stepAll_idle occ lies ws ss)
  · exact h
theorem set_get {ss : List St} {k j : Nat} {s t : St} (h : (ss.set k s)[j]? = some t) : (j = k ∧ t = s) ∨ (j ≠ k ∧ ss[j]? = some t) := by
  rw [List.getElem?_set] at h
  split at h
  · rename_i e
    split at h
    · exact .inl ⟨e.symm, (Option.some.inj h).symm⟩
    · cases h
  · rename_i e
    exact .inr ⟨fun e' => e e'.symm, h⟩
theorem ApartS.call {pts : List Int} {ws : List Wy} {ss : List St} (h : ApartS ws ss) (hf : FoeOk ws) (occ : List Bool) (lies : List Int) {k : Nat} {x : Wy} {s : St} (hx : ws[k]? = some x) (hs : ss[k]? = some s) : ApartS ws (callF pts ws ss occ lies k x s).2 := by
  unfold callF
  split
  · rename_i h0
    split
    · exact h
    · rename_i hb
      rw [Bool.not_eq_true, Bool.or_eq_false_iff] at hb
      have hb0 := busy_no.1 hb.1
      have look : ∀ f : Int, 0 ≤ f → f ≠ (k : Int) → stAt (ss.set k (1, 0, 0, false)) f = stAt ss f := fun f h0 hne => by
        rw [stAt, stAt, List.getD_eq_getElem?_getD, List.getD_eq_getElem?_getD, List.getElem?_set_ne (by omega)]
      intro j y t hy ht
      have hpos := hf.pos y (List.mem_of_getElem? hy)
      rcases set_get ht with ⟨rfl, rfl⟩ | ⟨hne, ht⟩
      · obtain rfl := Option.some.inj (hx.symm.trans hy)
        refine .inr (busy_no.2 fun f hff => ?_)
        rw [look f (hpos f hff).1 fun e => hf.irr _ _ hx (e ▸ hff)]
        exact hb0 f hff
      · rcases h j y t hy ht with h1 | h1
        · exact .inl h1
        · by_cases hk : (k : Int) ∈ y.foes
          · have hj := hf.sym j k y x hy hx hk
            have := hb0 _ hj
            rw [stAt_at ht] at this
            exact .inl this
          · refine .inr (busy_no.2 fun f hff => ?_)
            rw [look f (hpos f hff).1 fun e => hk (e ▸ hff)]
            exact busy_no.1 h1 f hff
  · exact h
theorem ApartS.cancel {ws : List Wy} {ss : List St} (h : ApartS ws ss) {k : Nat} {s : St} (hs : ss[k]? = some s) : ApartS ws (cancelF ss k s).2 := by
  unfold cancelF
  split
  · refine h.less (by rw [List.length_set]) fun j t t' ht ht' h0 => ?_
    rcases set_get ht' with ⟨rfl, rfl⟩ | ⟨hne, ht'⟩
    · rfl
    · rw [← Option.some.inj (ht.symm.trans ht')]; exact h0
  · split
    · rename_i h2
      refine h.less (by rw [List.length_set]) fun j t t' ht ht' h0 => ?_
      rcases set_get ht' with ⟨rfl, rfl⟩ | ⟨hne, ht'⟩
      · rw [← Option.some.inj (hs.symm.trans ht)] at h0
        omega
      · rw [← Option.some.inj (ht.symm.trans ht')]; exact h0
    · exact h
theorem ApartS.cmd {ns : Nat} {pts : List Int} {ws : List Wy} {ss : List St} (h : ApartS ws ss) (hf : FoeOk ws) (occ : List Bool) (lies : List Int) (kind r : Int) : ApartS ws (cmdF ns pts ws ss occ lies kind r).2 := by
  unfold cmdF
  split
  · exact h
  split
  · exact h
  split
  · rename_i x s hx hs
    split
    · exact h.call hf occ lies hx hs
    · exact h.cancel hs
  · exact h
/-- What is apart may be set. -/
theorem stand_of {ns ng : Nat} {pts : List Int} {ws : List Wy} {ss : List St} (hok : LkOk ns ng pts ws ss) (h : ApartS ws ss) : standF ws ss = true :=
  stand_yes hok.len fun k x s hx hs => by
    rw [standOne, hok.sts k x s hx hs]
    rcases h k x s hx hs with h0 | h0
    · rw [h0]; rfl
    · rw [h0]; simp
/-- And what is set is apart. -/
theorem apart_of {ws : List Wy} {ss : List St} (h : standF ws ss = true) : ApartS ws ss := fun k x s hx hs => by
  rw [standF, Bool.and_eq_true] at h
  have := List.all_eq_true.1 h.2 (x, s) (List.mem_of_getElem? (zip_at hx hs))
  rw [standOne, Bool.and_eq_true, Bool.or_eq_true] at this
  rcases this.2 with h0 | h0
  · exact .inl (of_decide_eq_true h0)
  · exact .inr (by simpa using h0)
end Go.Proofs.YtceebimgfajbcaaGreatDoor
