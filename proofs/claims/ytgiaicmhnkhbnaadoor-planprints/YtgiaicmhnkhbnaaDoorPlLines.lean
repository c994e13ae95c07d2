/-
  Plain facts: what a line of a section, a signal, a point, a route adds, told by its words.
-/
import Derived.Test.YtgiaicmhnkhbnaaDoorPlWords
namespace Go.Proofs.YtgiaicmhnkhbnaaDoor

theorem cap_ends {x : ByteArray} (h : capB x = true) : endsB x = false := by
  rw [capB, Bool.and_eq_true] at h
  simpa using h.2
theorem cap_name {x : ByteArray} (h : capB x = true) : nameB x.data.toList = true := by
  rw [capB, Bool.and_eq_true] at h
  exact h.1
theorem rName_cap {x : ByteArray} {ws : List ByteArray} (h : capB x = true) : rName (x :: ws, 0) = (x, (ws, 0)) := by
  rw [rName, rNext]
  simp only
  rw [if_pos h]
theorem rWord_is (t : ByteArray) (ws : List ByteArray) (f : Nat) : rWord t (t :: ws, f) = (ws, f) := by
  rw [rWord, if_pos (show (rNext (t :: ws, f)).1 = t from rfl)]
  rfl

theorem add_section (l : Lay) (x : ByteArray) (h : capB x = true) (hx : idx l.sections x = -1) (hl : l.sections.length < 10) : addWords l [kSection, x] = (0, { l with sections := l.sections ++ [x] }) := by
  have e : addNameP l.sections 10 ([x], 0) = (0, l.sections ++ [x]) := by
    rw [addNameP, rName_cap h]
    simp only [rEnd, if_true]
    rw [if_neg (by simp), if_neg (by simp [hx]), if_neg (by omega)]
  rw [addWords, if_pos rfl, e]
theorem kSig : kSignal ≠ kSection := by decide
theorem kPo1 : kPoint ≠ kSection := by decide
theorem kPo2 : kPoint ≠ kSignal := by decide
theorem kRo1 : kRoute ≠ kSection := by decide
theorem kRo2 : kRoute ≠ kSignal := by decide
theorem kRo3 : kRoute ≠ kPoint := by decide
theorem add_signal (l : Lay) (x : ByteArray) (h : capB x = true) (hx : idx l.signals x = -1) (hl : l.signals.length < 6) : addWords l [kSignal, x] = (0, { l with signals := l.signals ++ [x] }) := by
  have e : addNameP l.signals 6 ([x], 0) = (0, l.signals ++ [x]) := by
    rw [addNameP, rName_cap h]
    simp only [rEnd, if_true]
    rw [if_neg (by simp), if_neg (by simp [hx]), if_neg (by omega)]
  rw [addWords, if_neg kSig, if_pos rfl, e]
theorem add_point (l : Lay) (x y : ByteArray) (h : capB x = true) (hy : capB y = true) (hx : pointAt l x = -1) (hs : idx l.sections y ≠ -1) (hl : l.points.length < 5) :
    addWords l [kPoint, x, kIn, y] = (0, { l with points := l.points ++ [(x, idx l.sections y)] }) := by
  rw [addWords, if_neg kPo1, if_neg kPo2, if_pos rfl, addPointP, rName_cap h]
  simp only
  rw [rWord_is, rName_cap hy]
  simp only [rEnd, if_true]
  rw [if_neg (by simp), if_neg (by simp [hx]), if_neg hs, if_neg (by omega)]

theorem goes_nil (f : Nat) : rGoes ([], f) = false := rfl
theorem goes_set (ws : List ByteArray) (f : Nat) : rGoes (kSet :: ws, f) = false := by
  show (!endsB kSet) = false
  decide
theorem goes_flank (ws : List ByteArray) (f : Nat) : rGoes (kFlank :: ws, f) = false := by
  show (!endsB kFlank) = false
  decide
theorem row_names : ∀ (xs rest : List ByteArray) (k : Nat), xs.length ≤ k → (∀ x ∈ xs, capB x = true) → rGoes (rest, 0) = false → rowF rName k (xs ++ rest, 0) = (xs, (rest, 0))
  | [], rest, 0, _, _, _ => rfl
  | [], rest, k + 1, _, _, h => by rw [List.nil_append, rowF, h]; rfl
  | x :: xs, rest, k + 1, hk, hx, h => by
    have hc := hx x (by simp)
    have hg : rGoes (x :: (xs ++ rest), 0) = true := by
      show (!endsB x) = true
      rw [cap_ends hc]
      rfl
    rw [List.cons_append, rowF, if_pos hg, rName_cap hc]
    simp only
    rw [row_names xs rest k (by simpa using hk) (fun y hy => hx y (by simp [hy])) h]
theorem rRow_names (x : ByteArray) (xs rest : List ByteArray) (hx : ∀ y ∈ x :: xs, capB y = true) (h : rGoes (rest, 0) = false) : rRow rName (x :: (xs ++ rest), 0) = (x :: xs, (rest, 0)) := by
  rw [rRow, rName_cap (hx x (by simp))]
  simp only
  rw [row_names xs rest _ (by simp) (fun y hy => hx y (by simp [hy])) h]

/-- A want as a word. -/
def wantW (x : ByteArray × Bool) : ByteArray := ⟨(x.1.data.toList ++ [if x.2 = true then 45 else 43]).toArray⟩
theorem cutF_snoc : ∀ (xs : List (Nat × Nat)) (d : Nat × Nat) (pos a l : Nat), cutF (xs ++ [d]) pos a l = (pos + wsum xs, d.1)
  | [], d, pos, a, l => by simp [cutF, wsum]
  | x :: xs, d, pos, a, l => by
    rw [List.cons_append, cutF, cutF_snoc xs d, wsum]
    congr 1
    omega
theorem cutLast_want (x : ByteArray × Bool) (h : capB x.1 = true) : cutLast (wantW x) = (x.1, if x.2 = true then 45 else 43) := by
  have hw := (name_parts (cap_name h)).2.1
  have hr : runesAt (wantW x) 0 = runes x.1.data.toList ++ [(if x.2 = true then 45 else 43, 1)] := by
    rw [runesAt, List.drop_zero]
    show runes (x.1.data.toList ++ [if x.2 = true then 45 else 43]) = _
    rw [runes_append _ _ hw]
    congr 1
    cases x.2 <;> decide +kernel
  rw [cutLast, hr, cutF_snoc, wsum_runes]
  simp only [Nat.zero_add]
  congr 1
  apply ByteArray.ext
  apply Array.ext'
  rw [extract_all]
  show ((x.1.data.toList ++ [if x.2 = true then 45 else 43]).drop 0).take _ = _
  rw [List.drop_zero, Nat.sub_zero, List.take_left']
  rfl
theorem rWant_is (x : ByteArray × Bool) (ws : List ByteArray) (h : capB x.1 = true) : rWant (wantW x :: ws, 0) = (x, (ws, 0)) := by
  rw [rWant, rNext]
  simp only
  rw [cutLast_want x h]
  obtain ⟨x, b⟩ := x
  cases b <;> simp [signE, wantE, h]
theorem want_ends (x : ByteArray × Bool) : endsB (wantW x) = false := by
  rw [endsB, decide_eq_false_iff_not]
  intro e
  have hl : (wantW x).data.toList.getLast? = some (if x.2 = true then 45 else 43) := by
    show (x.1.data.toList ++ [if x.2 = true then (45 : UInt8) else 43]).getLast? = _
    simp
  rcases e with e | e <;> rw [e] at hl
  · have : kSet.data.toList.getLast? = some 116 := by decide
    rw [this] at hl
    obtain ⟨nm, b⟩ := x
    cases b <;> simp at hl
  · have : kFlank.data.toList.getLast? = some 107 := by decide
    rw [this] at hl
    obtain ⟨nm, b⟩ := x
    cases b <;> simp at hl
theorem row_wants : ∀ (xs : List Wt) (rest : List ByteArray) (k : Nat), xs.length ≤ k → (∀ x ∈ xs, capB x.1 = true) → rGoes (rest, 0) = false → rowF rWant k (xs.map wantW ++ rest, 0) = (xs, (rest, 0))
  | [], rest, 0, _, _, _ => rfl
  | [], rest, k + 1, _, _, h => by rw [List.map_nil, List.nil_append, rowF, h]; rfl
  | x :: xs, rest, k + 1, hk, hx, h => by
    have hc := hx x (by simp)
    have hg : rGoes (wantW x :: (xs.map wantW ++ rest), 0) = true := by
      show (!endsB (wantW x)) = true
      rw [want_ends]
      rfl
    rw [List.map_cons, List.cons_append, rowF, if_pos hg, rWant_is x _ hc]
    simp only
    rw [row_wants xs rest k (by simpa using hk) (fun y hy => hx y (by simp [hy])) h]
theorem rWants_some (t : ByteArray) (x : Wt) (xs : List Wt) (rest : List ByteArray) (hx : ∀ y ∈ x :: xs, capB y.1 = true) (h : rGoes (rest, 0) = false) : rWants t (t :: ((x :: xs).map wantW ++ rest), 0) = (x :: xs, (rest, 0)) := by
  have ha : rAhead t (t :: ((x :: xs).map wantW ++ rest), 0) = true := by
    show decide (t = t) = true
    simp
  rw [rWants, if_pos ha, rWord_is, List.map_cons, List.cons_append, rRow, rWant_is x _ (hx x (by simp))]
  simp only
  rw [row_wants xs rest _ (by simp) (fun y hy => hx y (by simp [hy])) h]
theorem rWants_none (t : ByteArray) (ws : List ByteArray) (h : ∀ y ys, ws = y :: ys → y ≠ t) : rWants t (ws, 0) = ([], (ws, 0)) := by
  have ha : rAhead t (ws, 0) = false := by
    cases ws with
    | nil => rfl
    | cons y ys =>
      show decide (y = t) = false
      exact decide_eq_false (h y ys rfl)
  rw [rWants, ha]
  rfl

/-- Wants behind their word; none, if there are none. -/
def wantRow (t : ByteArray) : List Wt → List ByteArray
  | [] => []
  | x :: xs => t :: (x :: xs).map wantW
def routeWords (r : RL) : List ByteArray := [r.name, kFrom, r.frm, kTo, r.to, kVia] ++ (r.via ++ (wantRow kSet r.set ++ wantRow kFlank r.flank))
structure RLOk (r : RL) : Prop where
  name : capB r.name = true
  frm : capB r.frm = true
  to : capB r.to = true
  via : r.via ≠ [] ∧ ∀ x ∈ r.via, capB x = true
  set : ∀ x ∈ r.set, capB x.1 = true
  flank : ∀ x ∈ r.flank, capB x.1 = true
theorem goes_wants (s f : List Wt) : rGoes (wantRow kSet s ++ wantRow kFlank f, 0) = false := by
  cases s with
  | nil =>
    cases f with
    | nil => rfl
    | cons y ys => exact goes_flank _ _
  | cons x xs => exact goes_set _ _
theorem goes_flanks (f : List Wt) : rGoes (wantRow kFlank f, 0) = false := by
  cases f with
  | nil => rfl
  | cons y ys => exact goes_flank _ _
theorem flank_set : kFlank ≠ kSet := by decide
theorem rRoute_is (r : RL) (h : RLOk r) : rRoute (routeWords r, 0) = (r, ([], 0)) := by
  obtain ⟨nm, fr, tw, via, st, fl⟩ := r
  obtain ⟨h1, h2, h3, ⟨h4, h5⟩, h6, h7⟩ := h
  simp only at *
  cases via with
  | nil => exact absurd rfl h4
  | cons v vs =>
    have e1 : rWants kSet (wantRow kSet st ++ wantRow kFlank fl, 0) = (st, (wantRow kFlank fl, 0)) := by
      cases st with
      | nil =>
        refine rWants_none _ _ ?_
        intro y ys e
        cases fl with
        | nil => simp [wantRow] at e
        | cons z zs =>
          simp [wantRow] at e
          rw [← e.1]
          exact flank_set
      | cons x xs => exact rWants_some kSet x xs _ h6 (goes_flanks fl)
    have e2 : rWants kFlank (wantRow kFlank fl, 0) = (fl, ([], 0)) := by
      cases fl with
      | nil => exact rWants_none _ _ (fun y ys e => by simp [wantRow] at e)
      | cons x xs =>
        have := rWants_some kFlank x xs [] h7 rfl
        rw [List.append_nil] at this
        exact this
    show rRoute (nm :: kFrom :: fr :: kTo :: tw :: kVia :: v :: (vs ++ (wantRow kSet st ++ wantRow kFlank fl)), 0) = _
    rw [rRoute]
    simp only [rName_cap h1, rWord_is, rName_cap h2, rName_cap h3, rRow_names v vs _ h5 (goes_wants st fl), e1, e2]
    rfl
theorem add_route (l : Lay) (r : RL) (h : RLOk r) (hn : hasRoute l r.name = false) (hl : lacks (byPlaces l r) = false) (ht : tooLong (byPlaces l r) = false) (h6 : l.routes.length < 6) :
    addWords l (kRoute :: routeWords r) = (0, { l with routes := l.routes ++ [byPlaces l r] }) := by
  rw [addWords, if_neg kRo1, if_neg kRo2, if_neg kRo3, if_pos rfl, addRouteP, rRoute_is r h]
  simp only
  rw [if_neg (by simp), hn, if_neg (by simp), hl, if_neg (by simp), ht, if_neg (by simp; omega)]

end Go.Proofs.YtgiaicmhnkhbnaaDoor
