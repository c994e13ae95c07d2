/-
  A region that draws its order in two phases: the first walked in the worlds of a class, of its loud operations two may come either way; the second, one operation behind the other, as a region that does not draw.
-/
import Derived.Test.YtelmjkjbbbgmpaaLyMix
namespace Go.Proofs.Ytelmjkjbbbgmpaa
open Go.RowKit

section
variable {P : Program} {ops : Array Oper} {md : Region.Mode} {C : World → Prop} {A : List Nat} {Q : Exit → Act → World → Prop}

def stepF2 (P : Program) (ops : Array Oper) (A : List Nat) (C : World → Prop) (Q : Exit → Act → World → Prop) (i : Nat) (K : Act → World → Prop) (a : Act) (w : World) : Prop :=
  if A.contains i = true then mOp P ops C i K a w else wpOp P ops Q i K a w

def wpAnyF (P : Program) (md : Region.Mode) (ops : Array Oper) (A : List Nat) (C : World → Prop) (Q : Exit → Act → World → Prop) : Nat → Array Bool → Act → World → Prop
  | 0, listed, a, w => Region.ready md ops listed = [] ∧ Q .normal a w
  | fuel + 1, listed, a, w =>
    (Region.ready md ops listed = [] → Q .normal a w) ∧
    ∀ i ∈ Region.ready md ops listed, stepF2 P ops A C Q i (wpAnyF P md ops A C Q fuel (listed.setIfInBounds i true)) a w

theorem wpOp_mono' {i : Nat} {K K' : Act → World → Prop} {a : Act} {w : World} (h : ∀ a w, K a w → K' a w) (hh : wpOp P ops Q i K a w) : wpOp P ops Q i K' a w := by
  unfold wpOp at *
  split
  · rename_i ho; simp only [ho] at hh; exact h _ _ hh
  · rename_i o ho
    simp only [ho] at hh
    split
    · rename_i hw
      simp only [hw, if_true] at hh
      exact hh.imp (Oper.wp_mono h) id
    · rename_i hw
      simp only [hw] at hh
      exact h _ _ hh

theorem wpAny_of_F (hph : phB md ops A = true) : ∀ (fuel : Nat) (listed : Array Bool) (a : Act) (w : World), (allA A listed = false → C w) →
    wpAnyF P md ops A C Q fuel listed a w → wpAny P md ops Q fuel listed a w
  | 0, _, _, _, _, h => h
  | fuel + 1, listed, a, w, h1, h => ⟨h.1, fun i hi => by
      have hh := h.2 i hi
      have hun := (mem_ready.1 hi).1
      unfold stepF2 at hh
      cases hA : A.contains i
      · have hall := ph_ready hph hi hA
        rw [hA, if_neg (by decide)] at hh
        have hall' : allA A (listed.setIfInBounds i true) = true := by
          refine List.all_eq_true.2 fun b hb => ?_
          have := List.all_eq_true.1 hall b hb
          by_cases hib : i = b
          · subst hib
            rw [hun] at this
            cases this
          · rw [getD_set_ne true hib]; exact this
        exact wpOp_mono' (fun a' w' hk => wpAny_of_F hph fuel _ a' w' (fun h0 => by rw [hall'] at h0; cases h0) hk) hh
      · rw [hA, if_pos rfl] at hh
        have hC : C w := by
          refine h1 ?_
          cases hal : allA A listed
          · rfl
          · have := List.all_eq_true.1 hal i (by simpa using hA)
            rw [hun] at this
            cases this
        exact wpOp_of_mOp hC (fun a' w' hw' hk => wpAny_of_F hph fuel _ a' w' (fun _ => hw') hk) hh⟩

theorem stepF2_in {i : Nat} (hA : A.contains i = true) {K : Act → World → Prop} {a : Act} {w : World} (h : mOp P ops C i K a w) : stepF2 P ops A C Q i K a w := by
  unfold stepF2
  rw [if_pos hA]
  exact h
theorem stepF2_of {i : Nat} (hA : A.contains i = true) {K : Act → World → Prop} {a : Act} {w : World} (h : stepF2 P ops A C Q i K a w) : mOp P ops C i K a w := by
  unfold stepF2 at h
  rwa [if_pos hA] at h

theorem wpAnyF_first (hph : phB md ops A = true) {i : Nat} {oi : Oper} {v : Value} (hiA : A.contains i = true) (hi : ops[i]? = some oi) (hsel : ∀ (j : Nat) (o : Oper) cs b, ops[j]? = some o → o.op ≠ .select cs b) :
    ∀ (fuel : Nat) (listed : Array Bool) (a : Act) (w : World),
      (∀ j oj, ops[j]? = some oj → j ≠ i → listed.getD j true = false → (∀ e ∈ oj.after, Region.binds md e = true → e.on ≠ i) → oi.apart ops oj = true) →
      i ∈ Region.ready md ops listed → YieldsM P ops C oi v a →
      wpAnyF P md ops A C Q fuel (listed.setIfInBounds i true) (a.put oi.dst v) w → wpAnyF P md ops A C Q (fuel + 1) listed a w := by
  have hin : ∀ {listed : Array Bool} {j : Nat}, i ∈ Region.ready md ops listed → j ∈ Region.ready md ops listed → A.contains j = true := fun {listed j} hr hj => by
    cases hA : A.contains j
    · have h1 := List.all_eq_true.1 (ph_ready hph hj hA) i (by simpa using hiA)
      rw [(mem_ready.1 hr).1] at h1
      cases h1
    · rfl
  intro fuel
  induction fuel with
  | zero =>
    intro listed a w _ hr hy H
    refine ⟨fun h => (by rw [h] at hr; cases hr), fun j hj => ?_⟩
    by_cases hji : j = i
    · subst hji; exact stepF2_in hiA (hy.mOp hi H)
    · have := ready_mono hj hji
      rw [H.1] at this
      cases this
  | succ fuel ih =>
    intro listed a w hfree hr hy H
    refine ⟨fun h => (by rw [h] at hr; cases hr), fun j hj => ?_⟩
    by_cases hji : j = i
    · subst hji; exact stepF2_in hiA (hy.mOp hi H)
    · have hjA := hin hr hj
      have h1 := stepF2_of hjA (H.2 j (ready_mono hj hji))
      obtain ⟨hjun, oj, hoj, hall⟩ := mem_ready.1 hj
      have hnot : ∀ e ∈ oj.after, Region.binds md e = true → e.on ≠ i := fun e he hb heq => by
        have h1 := hall e he hb
        have h0 := (mem_ready.1 hr).1
        rw [heq] at h1
        rcases Nat.lt_or_ge i listed.size with h' | h'
        · simp [h'] at h0 h1; rw [h0] at h1; cases h1
        · simp [Array.getElem?_eq_none h'] at h1
      have h2 := mOp_put hoj (hfree j oj hoj hji hjun hnot) (fun cs b => hsel i oi cs b hi) (fun cs b => hsel j oj cs b hoj) hy h1
      have hfree' : ∀ k ok, ops[k]? = some ok → k ≠ i → (listed.setIfInBounds j true).getD k true = false →
          (∀ e ∈ ok.after, Region.binds md e = true → e.on ≠ i) → oi.apart ops ok = true := fun k ok hk hki hun hno => by
        refine hfree k ok hk hki ?_ hno
        by_cases hjk : j = k
        · subst hjk; exact hjun
        · rw [getD_set_ne true hjk] at hun; exact hun
      refine stepF2_in hjA (mOp_mono (fun a' w' h3 => ih (listed.setIfInBounds j true) a' w' hfree' (ready_mono hr (Ne.symm hji)) h3.1 ?_) h2)
      rw [Array.setIfInBounds_comm _ _ hji]
      exact h3.2

def setAll (l : List Nat) (listed : Array Bool) : Array Bool := l.foldl (fun b i => b.setIfInBounds i true) listed
/-- May the first phase be walked so? -/
def mixP (md : Region.Mode) (ops : Array Oper) (A : List Nat) : List Nat → Array Bool → Bool
  | [], _ => true
  | i :: rest, listed =>
    A.contains i && ((match ops[i]? with
     | none => false
     | some o => if quietOp o.op then (Region.ready md ops listed).contains i && Region.free md ops listed i else Region.ready md ops listed == [i]) && mixP md ops A rest (listed.setIfInBounds i true))

theorem wpAnyF_pre (hph : phB md ops A = true) (hs : Region.noSelect ops = true) (fuel : Nat) : ∀ (l : List Nat) (listed : Array Bool) (a : Act) (w : World), mixP md ops A l listed = true → wpMixL P ops C (fun a' w' => wpAnyF P md ops A C Q fuel (setAll l listed) a' w') (l.filterMap (fun i => ops[i]?)) a w → wpAnyF P md ops A C Q (fuel + l.length) listed a w
  | [], _, _, _, _, h => h
  | i :: l, listed, a, w, hB, h => by
    rw [mixP, Bool.and_eq_true, Bool.and_eq_true] at hB
    obtain ⟨hiA, hB, hB'⟩ := hB
    have ih := fun a w => wpAnyF_pre hph hs fuel l (listed.setIfInBounds i true) a w hB'
    show wpAnyF P md ops A C Q (fuel + l.length + 1) listed a w
    cases ho : ops[i]? with
    | none => simp [ho] at hB
    | some o =>
      rw [List.filterMap_cons, ho] at h
      have h' : oOp P ops C o (wpMixL P ops C (fun a' w' => wpAnyF P md ops A C Q fuel (setAll l (listed.setIfInBounds i true)) a' w') (l.filterMap (fun i => ops[i]?))) a w := h
      simp only [ho] at hB
      by_cases hq : quietOp o.op = true
      · simp only [hq, if_true, Bool.and_eq_true] at hB
        obtain ⟨hr, hf⟩ := hB
        have hy : ∃ v, YieldsM P ops C o v a ∧ wpMixL P ops C (fun a' w' => wpAnyF P md ops A C Q fuel (setAll l (listed.setIfInBounds i true)) a' w') (l.filterMap (fun i => ops[i]?)) (a.put o.dst v) w := by
          unfold oOp at h'
          simp only [hq, if_true] at h'
          by_cases hw : Region.wanted o (yielded ops a.tmps) = true
          · simp only [hw, if_true] at h'
            obtain ⟨v, h1, h2⟩ := h'
            exact ⟨v, .inl ⟨hq, hw, h1⟩, h2⟩
          · simp only [hw] at h'
            exact ⟨undef, .inr ⟨by simpa using hw, rfl⟩, h'⟩
        obtain ⟨v, hy, hK⟩ := hy
        exact wpAnyF_first hph hiA ho (Region.noSelect_spec hs) (fuel + l.length) listed a w (Region.free_spec ho hf) (by simpa using hr) hy (ih _ _ hK)
      · simp only [hq, Bool.false_eq_true, if_false, beq_iff_eq] at hB
        refine ⟨fun h0 => (by rw [hB] at h0; cases h0), fun j hj => ?_⟩
        rw [hB, List.mem_singleton] at hj
        subst hj
        refine stepF2_in hiA ?_
        unfold mOp
        simp only [ho]
        exact oOp_mono ih h'

/-- The second phase, one behind the other. -/
def lastB (md : Region.Mode) (ops : Array Oper) (A : List Nat) : List Nat → Array Bool → Bool
  | [], listed => (Region.ready md ops listed).isEmpty
  | i :: rest, listed => !A.contains i && (decide (i < ops.size) && (Region.ready md ops listed == [i] && lastB md ops A rest (listed.setIfInBounds i true)))
theorem wpAnyF_last : ∀ (l : List Nat) (listed : Array Bool) (a : Act) (w : World), lastB md ops A l listed = true → wpList P ops Q (l.filterMap (fun i => ops[i]?)) a w → wpAnyF P md ops A C Q l.length listed a w
  | [], _, _, _, hB, h => ⟨by simpa [lastB] using hB, h⟩
  | i :: l, listed, a, w, hB, h => by
    simp only [lastB, Bool.and_eq_true, beq_iff_eq, decide_eq_true_eq] at hB
    obtain ⟨hA, hlt, hr, hB'⟩ := hB
    obtain ⟨o, ho⟩ : ∃ o, ops[i]? = some o := ⟨ops[i]'hlt, Array.getElem?_eq_getElem _⟩
    rw [List.filterMap_cons, ho] at h
    refine ⟨fun h0 => (by rw [hr] at h0; cases h0), fun j hj => ?_⟩
    rw [hr, List.mem_singleton] at hj
    subst hj
    unfold stepF2
    rw [if_neg (by simpa using hA)]
    refine wpOp_mono' (fun a' w' hk => wpAnyF_last l _ a' w' hB' hk) ?_
    unfold wpOp
    simp only [ho]
    exact h

theorem wpAnyF_two {i j : Nat} {listed : Array Bool} {fuel : Nat} {a : Act} {w : World} (hiA : A.contains i = true) (hjA : A.contains j = true) (hr : Region.ready md ops listed = [i, j])
    (h1 : mOp P ops C i (wpAnyF P md ops A C Q fuel (listed.setIfInBounds i true)) a w) (h2 : mOp P ops C j (wpAnyF P md ops A C Q fuel (listed.setIfInBounds j true)) a w) : wpAnyF P md ops A C Q (fuel + 1) listed a w := by
  refine ⟨fun h0 => (by rw [hr] at h0; cases h0), fun k hk => ?_⟩
  rw [hr] at hk
  rcases List.mem_cons.1 hk with rfl | hk
  · exact stepF2_in hiA h1
  · rw [List.mem_singleton] at hk
    subst hk
    exact stepF2_in hjA h2

/-- A sequence of the first phase from here on, and the second. -/
def tailB (md : Region.Mode) (ops : Array Oper) (A l B : List Nat) (listed : Array Bool) : Bool := mixP md ops A l listed && lastB md ops A B (setAll l listed)
theorem wpAnyF_rest (hph : phB md ops A = true) (hs : Region.noSelect ops = true) {l B : List Nat} {listed : Array Bool} (hB : tailB md ops A l B listed = true) {a : Act} {w : World}
    (h : wpMixL P ops C (wpList P ops Q (B.filterMap (fun i => ops[i]?))) (l.filterMap (fun i => ops[i]?)) a w) : wpAnyF P md ops A C Q (B.length + l.length) listed a w := by
  rw [tailB, Bool.and_eq_true] at hB
  exact wpAnyF_pre hph hs _ l listed a w hB.1 (wpMixL_mono (fun a w hk => wpAnyF_last B _ a w hB.2 hk) _ _ _ h)

theorem mOp_of_list {i : Nat} {o : Oper} (ho : ops[i]? = some o) {K : Act → World → Prop} {a : Act} {w : World} (h : oOp P ops C o K a w) : mOp P ops C i K a w := by
  unfold mOp
  simp only [ho]
  exact h
def headN (l : List Nat) : Nat := match l with | i :: _ => i | [] => 0

/-- Two ways from here on. -/
def forkB (md : Region.Mode) (ops : Array Oper) (A l0 la lb B : List Nat) (listed : Array Bool) : Bool :=
  match la, lb with
  | i :: la', j :: lb' => mixP md ops A l0 listed && (Region.ready md ops (setAll l0 listed) == [i, j] && (A.contains i && (A.contains j && (decide (i < ops.size) && (decide (j < ops.size) && (tailB md ops A la' B ((setAll l0 listed).setIfInBounds i true) && (tailB md ops A lb' B ((setAll l0 listed).setIfInBounds j true) && la'.length == lb'.length)))))))
  | _, _ => false
theorem wpAnyF_fork (hph : phB md ops A = true) (hs : Region.noSelect ops = true) {l0 la lb B : List Nat} {listed : Array Bool} (hB : forkB md ops A l0 la lb B listed = true) {a : Act} {w : World}
    (h : wpMixL P ops C (fun a1 w1 => wpMixL P ops C (wpList P ops Q (B.filterMap (fun i => ops[i]?))) (la.filterMap (fun i => ops[i]?)) a1 w1 ∧ wpMixL P ops C (wpList P ops Q (B.filterMap (fun i => ops[i]?))) (lb.filterMap (fun i => ops[i]?)) a1 w1) (l0.filterMap (fun i => ops[i]?)) a w) : wpAnyF P md ops A C Q (B.length + la.length + l0.length) listed a w := by
  unfold forkB at hB
  split at hB
  · rename_i i la j lb
    simp only [Bool.and_eq_true, beq_iff_eq, decide_eq_true_eq] at hB
    obtain ⟨h1, h2, h3, h4, h5, h6, h7, h8, h9⟩ := hB
    obtain ⟨oi, hoi⟩ : ∃ o, ops[i]? = some o := ⟨ops[i]'h5, Array.getElem?_eq_getElem _⟩
    obtain ⟨oj, hoj⟩ : ∃ o, ops[j]? = some o := ⟨ops[j]'h6, Array.getElem?_eq_getElem _⟩
    refine wpAnyF_pre hph hs _ l0 listed a w h1 (wpMixL_mono (fun a1 w1 hh => ?_) _ a w h)
    rw [List.filterMap_cons, hoi, List.filterMap_cons, hoj] at hh
    show wpAnyF P md ops A C Q (B.length + la.length + 1) _ a1 w1
    refine wpAnyF_two h3 h4 h2 (mOp_of_list hoi (oOp_mono (fun a w hk => wpAnyF_rest hph hs h7 hk) hh.1)) (mOp_of_list hoj (oOp_mono (fun a w hk => ?_) hh.2))
    rw [h9]
    exact wpAnyF_rest hph hs h8 hk
  · cases hB

/-- Three ways: a second fork in the first of the two. -/
def fork3B (md : Region.Mode) (ops : Array Oper) (A l0 li lb lc la B : List Nat) (listed : Array Bool) : Bool :=
  match li, la with
  | i :: l1, j :: la' => mixP md ops A l0 listed && (Region.ready md ops (setAll l0 listed) == [i, j] && (A.contains i && (A.contains j && (decide (i < ops.size) && (decide (j < ops.size) && (forkB md ops A l1 lb lc B ((setAll l0 listed).setIfInBounds i true) && (tailB md ops A la' B ((setAll l0 listed).setIfInBounds j true) && la'.length == lb.length + l1.length)))))))
  | _, _ => false
theorem wpAnyF_fork3 (hph : phB md ops A = true) (hs : Region.noSelect ops = true) {l0 li lb lc la B : List Nat} {listed : Array Bool} (hB : fork3B md ops A l0 li lb lc la B listed = true) {a : Act} {w : World}
    (h : wpMixL P ops C (fun a1 w1 => wpMixL P ops C (fun a2 w2 => wpMixL P ops C (wpList P ops Q (B.filterMap (fun i => ops[i]?))) (lb.filterMap (fun i => ops[i]?)) a2 w2 ∧ wpMixL P ops C (wpList P ops Q (B.filterMap (fun i => ops[i]?))) (lc.filterMap (fun i => ops[i]?)) a2 w2) (li.filterMap (fun i => ops[i]?)) a1 w1 ∧
      wpMixL P ops C (wpList P ops Q (B.filterMap (fun i => ops[i]?))) (la.filterMap (fun i => ops[i]?)) a1 w1) (l0.filterMap (fun i => ops[i]?)) a w) : wpAnyF P md ops A C Q (B.length + la.length + l0.length) listed a w := by
  unfold fork3B at hB
  split at hB
  · rename_i i l1 j la
    simp only [Bool.and_eq_true, beq_iff_eq, decide_eq_true_eq] at hB
    obtain ⟨h1, h2, h3, h4, h5, h6, h7, h8, h9⟩ := hB
    obtain ⟨oi, hoi⟩ : ∃ o, ops[i]? = some o := ⟨ops[i]'h5, Array.getElem?_eq_getElem _⟩
    obtain ⟨oj, hoj⟩ : ∃ o, ops[j]? = some o := ⟨ops[j]'h6, Array.getElem?_eq_getElem _⟩
    refine wpAnyF_pre hph hs _ l0 listed a w h1 (wpMixL_mono (fun a1 w1 hh => ?_) _ a w h)
    rw [List.filterMap_cons, hoi, List.filterMap_cons, hoj] at hh
    show wpAnyF P md ops A C Q (B.length + la.length + 1) _ a1 w1
    refine wpAnyF_two h3 h4 h2 (mOp_of_list hoi (oOp_mono (fun a w hk => ?_) hh.1)) (mOp_of_list hoj (oOp_mono (fun a w hk => wpAnyF_rest hph hs h8 hk) hh.2))
    have := wpAnyF_fork hph hs h7 hk
    rw [h9, show B.length + (lb.length + l1.length) = B.length + lb.length + l1.length by omega]
    exact this
  · cases hB

/-- The beginning, one way. -/
theorem wp_region_last {l oa oB : List Oper} (la B : List Nat) {id : Nat} {a : Act} {w : World} (hm : P.follows .mixedOrders = true) (hs : Region.noSelect l.toArray = true) (hp : phB .any l.toArray la = true) (hB : (tailB .any l.toArray la la B (Array.replicate l.toArray.size false) && (B.length + la.length == l.toArray.size)) = true)
    (ha : la.filterMap (fun i => l.toArray[i]?) = oa) (hBB : B.filterMap (fun i => l.toArray[i]?) = oB) (hC : C w.drew)
    (h : wpMixL P l.toArray C (wpList P l.toArray Q oB) oa a w.drew) : (Code.region id l.toArray true).wp P Q a w := by
  rw [Bool.and_eq_true, beq_iff_eq] at hB
  refine wp_region_any hm (wpAny_of_F (C := C) (A := la) hp _ _ _ _ (fun _ => hC) ?_)
  rw [← hB.2]
  refine wpAnyF_rest hp hs (by rw [hB.2]; exact hB.1) ?_
  rw [ha, hBB]
  exact h
/-- The beginning, two ways. -/
theorem wp_region_fork {l o0 oa ob oB : List Oper} (l0 la lb B : List Nat) {id : Nat} {a : Act} {w : World} (hm : P.follows .mixedOrders = true) (hs : Region.noSelect l.toArray = true) (hp : phB .any l.toArray (l0 ++ la) = true) (hB : (forkB .any l.toArray (l0 ++ la) l0 la lb B (Array.replicate l.toArray.size false) && (B.length + la.length + l0.length == l.toArray.size)) = true)
    (h0 : l0.filterMap (fun i => l.toArray[i]?) = o0) (ha : la.filterMap (fun i => l.toArray[i]?) = oa) (hb : lb.filterMap (fun i => l.toArray[i]?) = ob) (hBB : B.filterMap (fun i => l.toArray[i]?) = oB) (hC : C w.drew)
    (h : wpMixL P l.toArray C (fun a1 w1 => wpMixL P l.toArray C (wpList P l.toArray Q oB) oa a1 w1 ∧ wpMixL P l.toArray C (wpList P l.toArray Q oB) ob a1 w1) o0 a w.drew) : (Code.region id l.toArray true).wp P Q a w := by
  rw [Bool.and_eq_true, beq_iff_eq] at hB
  refine wp_region_any hm (wpAny_of_F (C := C) (A := l0 ++ la) hp _ _ _ _ (fun _ => hC) ?_)
  rw [← hB.2]
  refine wpAnyF_fork hp hs (by rw [hB.2]; exact hB.1) ?_
  rw [h0, ha, hb, hBB]
  exact h
/-- The beginning, three ways. -/
theorem wp_region_fork3 {l o0 oi ob oc oa oB : List Oper} (l0 li lb lc la B : List Nat) {id : Nat} {a : Act} {w : World} (hm : P.follows .mixedOrders = true) (hs : Region.noSelect l.toArray = true) (hp : phB .any l.toArray (l0 ++ la) = true) (hB : (fork3B .any l.toArray (l0 ++ la) l0 li lb lc la B (Array.replicate l.toArray.size false) && (B.length + la.length + l0.length == l.toArray.size)) = true)
    (h0 : l0.filterMap (fun i => l.toArray[i]?) = o0) (hi : li.filterMap (fun i => l.toArray[i]?) = oi) (hb : lb.filterMap (fun i => l.toArray[i]?) = ob) (hc : lc.filterMap (fun i => l.toArray[i]?) = oc) (ha : la.filterMap (fun i => l.toArray[i]?) = oa) (hBB : B.filterMap (fun i => l.toArray[i]?) = oB) (hC : C w.drew)
    (h : wpMixL P l.toArray C (fun a1 w1 => wpMixL P l.toArray C (fun a2 w2 => wpMixL P l.toArray C (wpList P l.toArray Q oB) ob a2 w2 ∧ wpMixL P l.toArray C (wpList P l.toArray Q oB) oc a2 w2) oi a1 w1 ∧ wpMixL P l.toArray C (wpList P l.toArray Q oB) oa a1 w1) o0 a w.drew) : (Code.region id l.toArray true).wp P Q a w := by
  rw [Bool.and_eq_true, beq_iff_eq] at hB
  refine wp_region_any hm (wpAny_of_F (C := C) (A := l0 ++ la) hp _ _ _ _ (fun _ => hC) ?_)
  rw [← hB.2]
  refine wpAnyF_fork3 hp hs (by rw [hB.2]; exact hB.1) ?_
  rw [h0, hi, hb, hc, ha, hBB]
  exact h
end
end Go.Proofs.Ytelmjkjbbbgmpaa
