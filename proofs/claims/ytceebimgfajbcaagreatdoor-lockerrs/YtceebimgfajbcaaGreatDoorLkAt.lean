/-
  A lock that the call itself made, in memory: what may turn of it, what not; a route's state stored.
-/
import Derived.Test.YtceebimgfajbcaaGreatDoorLkAny
namespace Go.Proofs.YtceebimgfajbcaaGreatDoor
open Go.RowKit

/-- A block that no lock ever writes. -/
def isClean (W : World) (k : Nat) : Prop := ∃ c t z, W.heap[k]? = some (.cells c t z) ∧ (t = 3 ∨ t = 96 ∨ t = 74)

structure LkAt (W : World) (B kb : Nat) (u : Nat → Value) (ns ng : Nat) (pts : List Int) (ws : List WyV) (ss : List St) : Prop where
  blk : W.heap[kb]? = some (.cells #[.int .i64 (ns : Nat), .int .i64 (ng : Nat), u 0, u 1, u 2] 72 (0, 0))
  base : B ≤ kb
  st : W.ownsRow B 80 4 (u 2) ss.length (ss.flatMap stC) ∨ (ss = [] ∧ ∃ o c, u 2 = .slice o 0 c)
  inn : ∀ W' : World, (∀ k, k < W.heap.size → isClean W k → W'.heap[k]? = W.heap[k]?) → rowAt W' (u 0) 1 iC pts ∧ rowAt W' (u 1) 4 wyC ws ∧ ∀ y ∈ ws, WyAt W' y

/-- What may turn of it. -/
def lkFoot (kb : Nat) (v : Value) (ss : List St) (k : Nat) : Prop := k = kb ∨ (ss ≠ [] ∧ v.ownBlock = some k)

variable {W W' : World} {B kb : Nat} {u : Nat → Value} {ns ng : Nat} {pts : List Int} {ws : List WyV} {ss : List St}

theorem LkAt.lt (h : LkAt W B kb u ns ng pts ws ss) : kb < W.heap.size := (Array.getElem?_eq_some_iff.1 h.blk).1
theorem LkAt.foot (h : LkAt W B kb u ns ng pts ws ss) {k : Nat} (hk : lkFoot kb (u 2) ss k) : B ≤ k ∧ k < W.heap.size ∧ ¬ isClean W k := by
  rcases hk with rfl | ⟨hne, hk⟩
  · refine ⟨h.base, h.lt, ?_⟩
    rintro ⟨c, t, z, hb, ht⟩
    rw [h.blk] at hb
    injection hb with hb
    injection hb with h1 h2 h3
    subst h2
    revert ht
    decide
  · rcases h.st with ho | ⟨h0, _⟩
    · refine ⟨(ho.lt k hk).1, (ho.lt k hk).2, ?_⟩
      rcases ho.2 with ⟨e, hn⟩ | ⟨g, cap, cur, e, _, hg, _⟩
      · exact absurd (List.eq_nil_of_length_eq_zero hn) hne
      · rintro ⟨c, t, z, hb, ht⟩
        rw [e] at hk
        have := Option.some.inj hk
        simp only at this
        subst this
        rw [hg] at hb
        injection hb with hb
        injection hb with h1 h2 h3
        subst h2
        revert ht
        decide
    · exact absurd h0 hne
theorem LkAt.keep (h : LkAt W B kb u ns ng pts ws ss) (hs : W.heap.size ≤ W'.heap.size) (hk : ∀ k, k < W.heap.size → lkFoot kb (u 2) ss k ∨ isClean W k → W'.heap[k]? = W.heap[k]?) : LkAt W' B kb u ns ng pts ws ss := by
  refine ⟨(hk kb h.lt (.inl (.inl rfl))).trans h.blk, h.base, ?_, fun W'' hW => h.inn W'' fun k hl hc => ?_⟩
  · rcases h.st with ho | h0
    · by_cases hne : ss = []
      · rcases ho.2 with ⟨e, hn⟩ | ⟨g, cap, cur, e, _⟩
        · exact .inr ⟨hne, _, _, e⟩
        · exact .inr ⟨hne, _, _, by rw [e, hne]; rfl⟩
      · exact .inl (owns_keep ho fun k e => hk k (ho.lt k e).2 (.inl (.inr ⟨hne, e⟩)))
    · exact .inr h0
  · have h1 := hk k hl (.inr hc)
    obtain ⟨c, t, z, hb, ht⟩ := hc
    exact (hW k (Nat.lt_of_lt_of_le hl hs) ⟨c, t, z, h1.trans hb, ht⟩).trans h1
theorem LkAt.below (h : LkAt W B kb u ns ng pts ws ss) (hb : Below W.heap.size W W') : LkAt W' B kb u ns ng pts ws ss := h.keep hb.size fun k hk _ => hb.block k hk
theorem LkAt.rd (h : LkAt W B kb u ns ng pts ws ss) : LkRd W kb u ns ng pts ws ss := by
  have hb := h.blk
  obtain ⟨h1, h2, h3⟩ := h.inn W fun _ _ _ => rfl
  refine ⟨?_, ?_, ?_, ?_, ?_, h1, h2, ?_, h3⟩
  · simp [World.cell?, hb]
  · simp [World.cell?, hb]
  · simp [World.cell?, hb]
  · simp [World.cell?, hb]
  · simp [World.cell?, hb]
  · rcases h.st with ho | ⟨h0, o, c, e⟩
    · exact rowAt_of_owns (fun _ => rfl) ho
    · rw [h0]
      exact ⟨o, c, e, fun j x hj => by simp at hj⟩

theorem flat_st_len (l : List St) : (l.flatMap stC).length = l.length * 4 := by
  induction l with
  | nil => rfl
  | cons x l ih => rw [List.flatMap_cons, List.length_append, ih, List.length_cons]; simp [stC]; omega
theorem flat_st_at {l : List St} {q i : Nat} (hq : q < l.length) (hi : i < 4) : (l.flatMap stC)[q * 4 + i]? = (stC (l[q]))[i]? := by
  have h4 : i < (stC l[q]).length := by simp [stC]; exact hi
  rw [flat_get (cs := stC) (size := 4) (fun _ => rfl) l q l[q] i _ (List.getElem?_eq_getElem hq) (List.getElem?_eq_getElem h4), List.getElem?_eq_getElem h4]
theorem flat_set {ss : List St} {k : Nat} (_ : k < ss.length) (s : St) : ((((ss.flatMap stC).set (k * 4) (.int .i64 s.1)).set (k * 4 + 1) (.int .i64 s.2.1)).set (k * 4 + 2) (.int .i64 s.2.2.1)).set (k * 4 + 3) (.bool s.2.2.2) = (ss.set k s).flatMap stC := by
  apply List.ext_getElem?
  intro j
  by_cases hj : j < ss.length * 4
  · obtain ⟨q, i, rfl, hi, hq⟩ : ∃ q i, j = q * 4 + i ∧ i < 4 ∧ q < ss.length := ⟨j / 4, j % 4, by omega, by omega, by omega⟩
    rw [flat_st_at (by rw [List.length_set]; exact hq) hi]
    simp only [List.getElem?_set, List.length_set, flat_st_len]
    by_cases hqk : k = q
    · subst hqk
      rw [List.getElem_set_self]
      match i, hi with
      | 0, _ => simp [stC]; omega
      | 1, _ => simp [stC, hj]
      | 2, _ => simp [stC, hj]
      | 3, _ => simp [stC, hj]
    · rw [List.getElem_set_ne hqk, if_neg (by omega), if_neg (by omega), if_neg (by omega), if_neg (by omega), flat_st_at hq hi]
  · rw [List.getElem?_eq_none (by simp only [List.length_set, flat_st_len]; omega), List.getElem?_eq_none (by rw [flat_st_len, List.length_set]; omega)]

/-- A route's state, stored. -/
theorem LkAt.put (h : LkAt W B kb u ns ng pts ws ss) {k : Nat} (hk : k < ss.length) (s : St) : ∃ sb cap, u 2 = .slice (some ⟨sb, 0, none⟩) ss.length cap ∧
    (∀ i, i < 4 → (∃ v, W.cell? ⟨sb, k * 4 + i, none⟩ = some v) ∧ W.frozen? ⟨sb, k * 4 + i, none⟩ = false) ∧
    LkAt ((((W.setCell ⟨sb, k * 4, none⟩ (.int .i64 s.1)).setCell ⟨sb, k * 4 + 1, none⟩ (.int .i64 s.2.1)).setCell ⟨sb, k * 4 + 2, none⟩ (.int .i64 s.2.2.1)).setCell ⟨sb, k * 4 + 3, none⟩ (.bool s.2.2.2)) B kb u ns ng pts ws (ss.set k s) ∧
    Chg (lkFoot kb (u 2) ss) W ((((W.setCell ⟨sb, k * 4, none⟩ (.int .i64 s.1)).setCell ⟨sb, k * 4 + 1, none⟩ (.int .i64 s.2.1)).setCell ⟨sb, k * 4 + 2, none⟩ (.int .i64 s.2.2.1)).setCell ⟨sb, k * 4 + 3, none⟩ (.bool s.2.2.2)) := by
  have hne : ss ≠ [] := fun e => by rw [e] at hk; simp at hk
  rcases h.st with ho | ⟨h0, _⟩
  · rcases ho.2 with ⟨e, hn⟩ | ⟨sb, cap, cur, e, hB, hg, hnc, hcm, hcs, htk⟩
    · omega
    · have hfs : lkFoot kb (u 2) ss sb := .inr ⟨hne, by rw [e]; rfl⟩
      have hkb : kb ≠ sb := fun e' => by
        have h1 := h.blk
        rw [e', hg] at h1
        injection h1 with h1
        injection h1 with h1 h2 h3
        revert h2
        decide
      refine ⟨sb, cap, e, fun i hi => ⟨?_, ?_⟩, ?_⟩
      · have : k * 4 + i < cur.size := by omega
        exact ⟨cur[k * 4 + i], by simp [World.cell?, hg, this]⟩
      · simp [World.frozen?, hg]
      · generalize hW : ((((W.setCell ⟨sb, k * 4, none⟩ (.int .i64 s.1)).setCell ⟨sb, k * 4 + 1, none⟩ (.int .i64 s.2.1)).setCell ⟨sb, k * 4 + 2, none⟩ (.int .i64 s.2.2.1)).setCell ⟨sb, k * 4 + 3, none⟩ (.bool s.2.2.2)) = W'
        have hsz : W'.heap.size = W.heap.size := by rw [← hW]; simp [World.setCell]
        have hoth : ∀ j, j ≠ sb → W'.heap[j]? = W.heap[j]? := fun j hj => by
          rw [← hW]
          rw [Below.heap_setCell _ _ _ _ (by exact hj), Below.heap_setCell _ _ _ _ (by exact hj), Below.heap_setCell _ _ _ _ (by exact hj), Below.heap_setCell _ _ _ _ (by exact hj)]
        have hsb : W'.heap[sb]? = some (.cells ((((cur.setIfInBounds (k * 4) (.int .i64 s.1)).setIfInBounds (k * 4 + 1) (.int .i64 s.2.1)).setIfInBounds (k * 4 + 2) (.int .i64 s.2.2.1)).setIfInBounds (k * 4 + 3) (.bool s.2.2.2)) 80 (0, 0)) := by
          rw [← hW]
          exact heap_put (heap_put (heap_put (heap_put hg _) _) _) _
        have hclean : ∀ j, j < W.heap.size → isClean W j → W'.heap[j]? = W.heap[j]? := fun j _ hc => hoth j fun e' => (h.foot hfs).2.2 (e' ▸ hc)
        refine ⟨⟨(hoth kb hkb).trans h.blk, h.base, .inl ⟨by rw [flat_st_len], .inr ⟨sb, cap, _, by rw [List.length_set]; exact e, hB, hsb, by rw [List.length_set]; exact hnc, hcm, by simpa using hcs, ?_⟩⟩, fun W'' hW'' => h.inn W'' fun j hl hc => ?_⟩, ?_⟩
        · rw [List.length_set, ← flat_set hk s, ← htk]
          simp only [Array.toList_setIfInBounds, List.take_set]
        · have h1 := hclean j hl hc
          obtain ⟨c, t, z, hb, ht⟩ := hc
          exact (hW'' j (by omega) ⟨c, t, z, h1.trans hb, ht⟩).trans h1
        · refine ⟨by rw [← hW]; rfl, by rw [← hW]; rfl, by rw [← hW]; rfl, by omega, fun j hj hf => hoth j fun e' => hf (e' ▸ hfs)⟩
  · exact absurd h0 hne
end Go.Proofs.YtceebimgfajbcaaGreatDoor
