/-
  What the field is told, plain: a signal that proceeds has its route; a point that is driven may be.
-/
import Derived.Test.YtceebimgfajbcaaGreatDoorLkCount
namespace Go.Proofs.YtceebimgfajbcaaGreatDoor
open Go.RowKit

/-- Is a route locked, clear, right, and begins at a signal? -/
def condB (occ : List Bool) (lies : List Int) (s : Int) (q : Wy × St) : Bool := decide (q.2.1 = 2) && (decide (q.1.frm = s) && (clearB occ q.1.path && rightB lies q.1.needs))
theorem tell_pr (pts : List Int) (ws : List Wy) (ss : List St) (occ : List Bool) (lies : List Int) (s : Nat) : ∀ (qs : List (Wy × St)) (k : Nat) (o : List Int × List Bool), (∀ q ∈ qs, 0 ≤ q.1.frm) → (tellAll pts ws ss occ lies qs k o).2[s]? = some true → o.2[s]? = some true ∨ qs.any (condB occ lies s) = true
  | [], _, _, _, h => .inl h
  | q :: qs, k, o, hq, h => by
    rw [tellAll] at h
    rw [List.any_cons, Bool.or_eq_true]
    rcases tell_pr pts ws ss occ lies s qs (k + 1) _ (fun y hy => hq y (List.mem_cons_of_mem _ hy)) h with h1 | h1
    · unfold tellF at h1
      split at h1
      · exact .inl h1
      split at h1
      · rename_i h2
        simp only at h1
        split at h1
        · rename_i h3
          rw [List.getElem?_set] at h1
          split at h1
          · rename_i h4
            refine .inr (.inl ?_)
            have := hq q (List.mem_cons_self ..)
            rw [condB, h3, h2]
            have : q.1.frm = (s : Int) := by omega
            simp [this]
          · exact .inl h1
        · exact .inl h1
      · exact .inl h1
    · exact .inr (.inr h1)
theorem drive_dr (pts : List Int) (ws : List Wy) (ss : List St) (occ : List Bool) (lies : List Int) (r : Int) (p : Nat) (d : Int) : ∀ (ns : List (Int × Bool)) (dr : List Int), (driveF pts ws ss occ lies r ns dr)[p]? = some d → dr[p]? = some d ∨ ∃ n ∈ ns, n.1.toNat = p ∧ rightF lies n = false ∧ mayMoveF pts ws ss occ n.1 r = true ∧ d = posF n.2
  | [], _, h => .inl h
  | n :: ns, dr, h => by
    rw [driveF] at h
    rcases drive_dr pts ws ss occ lies r p d ns _ h with h1 | ⟨m, hm, h1⟩
    · split at h1
      · rename_i h2
        rw [Bool.and_eq_true, Bool.not_eq_true'] at h2
        rw [List.getElem?_set] at h1
        split at h1
        · rename_i h3
          split at h1
          · exact .inr ⟨n, List.mem_cons_self .., h3, h2.1, h2.2, (Option.some.inj h1).symm⟩
          · cases h1
        · exact .inl h1
      · exact .inl h1
    · exact .inr ⟨m, List.mem_cons_of_mem _ hm, h1⟩
theorem tell_dr (pts : List Int) (ws : List Wy) (ss : List St) (occ : List Bool) (lies : List Int) (p : Nat) (d : Int) : ∀ (qs : List (Wy × St)) (k : Nat) (o : List Int × List Bool), (tellAll pts ws ss occ lies qs k o).1[p]? = some d → o.1[p]? = some d ∨ ∃ (j : Nat) (q : Wy × St), qs[j]? = some q ∧ q.2.1 = 1 ∧ ∃ n ∈ q.1.needs, n.1.toNat = p ∧ rightF lies n = false ∧ mayMoveF pts ws ss occ n.1 ((k + j : Nat) : Int) = true ∧ d = posF n.2
  | [], _, _, h => .inl h
  | q :: qs, k, o, h => by
    rw [tellAll] at h
    rcases tell_dr pts ws ss occ lies p d qs (k + 1) _ h with h1 | ⟨j, q', hj, h1, n, hn, h2, h3, h4, h5⟩
    · unfold tellF at h1
      split at h1
      · rename_i h2
        rcases drive_dr pts ws ss occ lies _ p d _ _ h1 with h3 | ⟨n, hn, h3, h4, h5, h6⟩
        · exact .inl h3
        · exact .inr ⟨0, q, rfl, h2, n, hn, h3, h4, h5, h6⟩
      split at h1
      · exact .inl h1
      · exact .inl h1
    · exact .inr ⟨j + 1, q', by simpa using hj, h1, n, hn, h2, h3, by rw [show k + (j + 1) = k + 1 + j from by omega]; exact h4, h5⟩
theorem at_get {α : Type} {p : α → Bool} : ∀ (l : List α) (k r : Nat), atF p l k = (r : Int) → ∃ j x, r = k + j ∧ l[j]? = some x ∧ p x = true
  | [], _, _, h => by rw [atF] at h; omega
  | x :: l, k, r, h => by
    rw [atF] at h
    split at h
    · rename_i hx
      exact ⟨0, x, by omega, rfl, hx⟩
    · obtain ⟨j, y, e, hy, hp⟩ := at_get l (k + 1) r h
      exact ⟨j + 1, y, by omega, by simpa using hy, hp⟩
theorem hold_uniq {rs : List RtV} {ss : List St} (h : ApartS (waysG rs rs 0) ss) (sec : Int) {i j : Nat} {p q : Wy × St} (hi : ((waysG rs rs 0).zip ss)[i]? = some p) (hj : ((waysG rs rs 0).zip ss)[j]? = some q) (hp : holdsB sec p = true) (hq : holdsB sec q = true) : i = j := by
  rw [List.getElem?_zip_eq_some] at hi hj
  obtain ⟨a, ha⟩ := at_of (l := rs) (k := i) (by rw [← waysG_map rs rs 0]; exact (List.getElem?_eq_some_iff.1 hi.1).1)
  obtain ⟨b, hb⟩ := at_of (l := rs) (k := j) (by rw [← waysG_map rs rs 0]; exact (List.getElem?_eq_some_iff.1 hj.1).1)
  have e1 := Option.some.inj ((ways_at rs rs 0 i a ha).symm.trans hi.1)
  have e2 := Option.some.inj ((ways_at rs rs 0 j b hb).symm.trans hj.1)
  have h1 := held_in hp
  have h2 := held_in hq
  rw [← e1] at h1
  rw [← e2] at h2
  by_cases hne : i = j
  · exact hne
  · have hc := apart_conf h ha hb hi.2 hj.2 hne h1.1 h2.1
    have hs : shareB a.1.path b.1.path = true := by
      rw [shareB, List.any_eq_true]
      exact ⟨sec, h1.2, (in_mem _ _).2 h2.2⟩
    rw [confB, hs] at hc
    simp at hc
/-- All that the law asks of what the field is told. -/
structure TellOk (occ : List Bool) (lies : List Int) (pts : List Int) (qs : List (Wy × St)) (dr : List Int) (pr : List Bool) : Prop where
  pr : ∀ s : Nat, pr[s]? = some true → qs.any (condB occ lies s) = true
  occ : ∀ (p : Nat) (d : Int), dr[p]? = some d → d ≠ 0 → occF occ (nthI pts p) = false
  lie : ∀ (p : Nat) (d : Int), dr[p]? = some d → d ≠ 0 → d ≠ lieF lies p
  own : ∀ (p : Nat) (d : Int), dr[p]? = some d → d ≠ 0 → ∀ q ∈ qs, holdsB (nthI pts p) q = true → q.2.1 = 1
theorem tell_ok {l : Lay} {rs : List RtV} {ss : List St} {occ : List Bool} {lies : List Int} (hok : LkOk l.sections.length l.signals.length (l.points.map (·.2)) (waysG rs rs 0) ss) (hap : ApartS (waysG rs rs 0) ss) (hin : inB2 occ lies l.sections.length l.points.length = true) :
    TellOk occ lies (l.points.map (·.2)) ((waysG rs rs 0).zip (cycG l rs ss occ lies).1) (cycG l rs ss occ lies).2.1 (cycG l rs ss occ lies).2.2 := by
  have hap2 : ApartS (waysG rs rs 0) (cycG l rs ss occ lies).1 := hap.cyc occ lies
  have e : cycG l rs ss occ lies = (stepAll occ lies (waysG rs rs 0) ss, tellAll (l.points.map (·.2)) (waysG rs rs 0) (stepAll occ lies (waysG rs rs 0) ss) occ lies ((waysG rs rs 0).zip (stepAll occ lies (waysG rs rs 0) ss)) 0 (List.replicate (l.points.map (·.2)).length 0, List.replicate l.signals.length false)) := if_pos (by rw [List.length_map]; exact hin)
  rw [e] at hap2 ⊢
  simp only at hap2 ⊢
  generalize stepAll occ lies (waysG rs rs 0) ss = st at *
  have key : ∀ (p : Nat) (d : Int), (tellAll (l.points.map (·.2)) (waysG rs rs 0) st occ lies ((waysG rs rs 0).zip st) 0 (List.replicate (l.points.map (·.2)).length 0, List.replicate l.signals.length false)).1[p]? = some d → d ≠ 0 → ∃ (j : Nat) (q : Wy × St), ((waysG rs rs 0).zip st)[j]? = some q ∧ q.2.1 = 1 ∧ ∃ n : Int × Bool, n.1 = (p : Int) ∧ rightF lies n = false ∧ mayMoveF (l.points.map (·.2)) (waysG rs rs 0) st occ n.1 (j : Int) = true ∧ d = posF n.2 := fun p d hd h0 => by
    rcases tell_dr _ _ _ _ _ p d _ 0 _ hd with h1 | ⟨j, q, hj, h1, n, hn, h2, h3, h4, h5⟩
    · have := List.mem_replicate.1 (List.mem_of_getElem? h1)
      exact absurd this.2 h0
    · have hq := List.mem_of_getElem? (List.getElem?_zip_eq_some.1 hj).1
      have := (hok.ways _ hq).needs n hn
      rw [Nat.zero_add] at h4
      exact ⟨j, q, hj, h1, n, by omega, h3, h4, h5⟩
  refine ⟨fun s hs => ?_, fun p d hd h0 => ?_, fun p d hd h0 => ?_, fun p d hd h0 q hq hh => ?_⟩
  · rcases tell_pr _ _ _ _ _ s _ 0 _ (fun q hq => (hok.ways _ (List.of_mem_zip hq).1).frm.1) hs with h1 | h1
    · have := List.mem_replicate.1 (List.mem_of_getElem? h1)
      exact absurd this.2 (by decide)
    · exact h1
  · obtain ⟨j, q, hj, h1, n, hn, h2, h3, h4⟩ := key p d hd h0
    rw [mayMoveF, Bool.and_eq_true, Bool.not_eq_true', hn] at h3
    exact h3.1
  · obtain ⟨j, q, hj, h1, n, hn, h2, h3, h4⟩ := key p d hd h0
    rw [rightF, hn] at h2
    rw [h4]
    exact fun e => of_decide_eq_false h2 e.symm
  · obtain ⟨j, q', hj, h1, n, hn, h2, h3, h4⟩ := key p d hd h0
    obtain ⟨i, hi⟩ := List.getElem?_of_mem hq
    rw [mayMoveF, Bool.and_eq_true, hn, Bool.or_eq_true, decide_eq_true_eq, decide_eq_true_eq] at h3
    have hpos : 0 ≤ holderF (waysG rs rs 0) st (nthI (l.points.map (·.2)) p) := (at_pos _ 0).2 ⟨q, hq, hh⟩
    rcases h3.2 with h5 | h5
    · omega
    · obtain ⟨j', q2, e1, e2, e3⟩ := at_get _ 0 j h5
      rw [Nat.zero_add] at e1
      subst e1
      obtain rfl := Option.some.inj (hj.symm.trans e2)
      obtain rfl := hold_uniq hap2 _ hi e2 hh e3
      rw [Option.some.inj (hi.symm.trans e2)]
      exact h1
end Go.Proofs.YtceebimgfajbcaaGreatDoor
