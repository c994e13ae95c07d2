/-
  A region that draws its order, whose reading operations read the same in every world of a class, and whose other operations come one behind the other: one walk, the reading ones as soon as they may come up.
-/
import Derived.BigQuiet
namespace Go.Proofs.Ytfllogbpbldibaa
open Go.RowKit

section
variable {P : Program} {ops : Array Oper} {md : Region.Mode} {C : World → Prop}

/-- Operations that never enter a function. -/
def quietOp : Op → Bool
  | .move _ | .assign _ | .pick _ _ _ | .nilCheck _ | .makeFunc _ _ _ | .load _ _ | .binOp _ _ _ _ _ | .unOp _ _ _ | .fieldAddr _ _ _ | .field _ _ _ | .indexAddr _ _ _ | .index _ _ _ | .extract _ _ | .slice _ _ _ _ _ | .build _ _ | .convert _ _ _ => true
  | .call c => match c.callee with
    | .builtin .len => true
    | _ => false
  | _ => false

theorem value_no (s : Sem Value) (w w' : World) (f : FuncId) (args : Array Value) : (do pure (Next.value (← s)) : Sem Next).run P w ≠ .ok (.enter f args) w' := by
  simp only [Sem.run_bind, Sem.run_pure]
  cases s.run P w <;> simp [Result.andThen]
theorem noEnter {o : Oper} (h : quietOp o.op = true) (r : Operand → Value) (w w' : World) (f : FuncId) (args : Array Value) : (execOp r o).run P w ≠ .ok (.enter f args) w' := by
  cases ho : o.op <;> rw [ho] at h <;> simp only [quietOp, Bool.false_eq_true] at h <;> simp only [execOp, ho]
  case move => simp only [Sem.run_pure]; exact fun e => by injection e with e1 e2; cases e1
  case assign => simp only [Sem.run_pure]; exact fun e => by injection e with e1 e2; cases e1
  case pick c a b =>
    simp only [Sem.run_bind, Sem.run_pure]
    cases (asBool (r c)).run P w <;> simp [Result.andThen]
  case nilCheck x =>
    split
    · intro e; simp [runtimePanic, goPanic, go_sem] at e
    · intro e; simp [runtimePanic, goPanic, go_sem] at e
    · intro e; simp [runtimePanic, goPanic, go_sem] at e
    · split
      · intro e; simp [runtimePanic, goPanic, go_sem] at e
      · intro e
        simp only [Sem.run_bind] at e
        generalize (program).run P w = r1 at e
        cases r1 with
        | halt _ _ => simp [Result.andThen] at e
        | ok p w1 =>
          simp only [Result.andThen] at e
          generalize (nilAhead _ _ _ _).run P w1 = r2 at e
          cases r2 with
          | halt _ _ => simp at e
          | ok b w2 =>
            simp only at e
            split at e
            · simp [unsupported, go_sem] at e
            · simp only [Sem.run_pure] at e
              injection e with e1 e2
              cases e1
      · simp only [Sem.run_pure]; exact fun e => by injection e with e1 e2; cases e1
    · simp only [Sem.run_pure]; exact fun e => by injection e with e1 e2; cases e1
  case call c =>
    cases hc : c.callee with
    | builtin b =>
      rw [hc] at h
      cases b <;> simp only [Bool.false_eq_true] at h
      simp only [resolve, hc, invoke, builtin, Sem.run_bind, Sem.run_pure, Result.andThen]
      cases (Builtin.len_ c.argTypes o.type (c.args.map r)).run P w <;> simp
    | invoke _ _ => rw [hc] at h; simp at h
    | value _ => rw [hc] at h; simp at h
  all_goals exact value_no _ _ _ _ _

/-- An operation that is carried out where the world stands. -/
def loudUpon (P : Program) (C : World → Prop) (K : Value → World → Prop) : Result Next → Prop
  | .ok (.value v) w' => C w' ∧ K v w'
  | .ok .skip w' => C w' ∧ K undef w'
  | .ok (.enter f args) w' => Calls P f args w' (fun e w'' => ∃ v, e = .returned v ∧ C w'' ∧ K v w'')
  | _ => False
theorem loudUpon_mono {K K' : Value → World → Prop} {r : Result Next} (h : ∀ v w, K v w → K' v w) (hh : loudUpon P C K r) : loudUpon P C K' r := by
  cases r with
  | ok n w' =>
    cases n <;> simp only [loudUpon] at hh ⊢
    case value v => exact ⟨hh.1, h _ _ hh.2⟩
    case skip => exact ⟨hh.1, h _ _ hh.2⟩
    case enter f args => exact hh.mono fun e w'' ⟨v, he, hc, hk⟩ => ⟨v, he, hc, h _ _ hk⟩
  | halt x w' => simp only [loudUpon] at hh

def mOp (P : Program) (ops : Array Oper) (C : World → Prop) (i : Nat) (K : Act → World → Prop) (a : Act) (w : World) : Prop :=
  match ops[i]? with
  | none => False
  | some o => if Region.wanted o (yielded ops a.tmps) then (if quietOp o.op then o.quiet P a C (fun a' => K a' w) else loudUpon P C (fun v w' => K (a.put o.dst v) w') ((execOp a.eval o).run P w)) else K (a.put o.dst undef) w

theorem mOp_mono {i : Nat} {a : Act} {w : World} {K K' : Act → World → Prop} (h : ∀ a w, K a w → K' a w) (hh : mOp P ops C i K a w) : mOp P ops C i K' a w := by
  unfold mOp at *
  split
  · rename_i ho; rw [ho] at hh; exact hh
  · rename_i o ho
    simp only [ho] at hh
    split
    · rename_i hw
      simp only [hw, if_true] at hh
      split
      · rename_i hq; simp only [hq, if_true] at hh; exact Oper.quiet_mono (fun a => h a w) hh
      · rename_i hq; simp only [hq] at hh; exact loudUpon_mono (fun _ _ => h _ _) hh
    · rename_i hw; simp only [hw] at hh; exact h _ _ hh

def wpAnyM (P : Program) (md : Region.Mode) (ops : Array Oper) (C : World → Prop) (Q : Act → World → Prop) : Nat → Array Bool → Act → World → Prop
  | 0, listed, a, w => Region.ready md ops listed = [] ∧ Q a w
  | fuel + 1, listed, a, w =>
    (Region.ready md ops listed = [] → Q a w) ∧
    ∀ i ∈ Region.ready md ops listed, mOp P ops C i (wpAnyM P md ops C Q fuel (listed.setIfInBounds i true)) a w

theorem wp_of_quietB {o : Oper} {a : Act} {K : Act → Prop} {K' : Act → World → Prop} {Q' : Exit → Act → World → Prop} {w : World} (hq : quietOp o.op = true) (hw : C w) (h : ∀ a, K a → K' a w) (hh : o.quiet P a C K) : o.wp P a w K' Q' := by
  obtain ⟨v, h1, h2⟩ := hh
  have h3 := h1 w hw
  have hn := noEnter (P := P) hq a.eval w
  unfold Oper.quietAt at h3
  unfold Oper.wp
  generalize (execOp a.eval o).run P w = r at *
  cases r with
  | ok n w' =>
    cases n <;> simp only [Oper.quietUpon] at h3 <;> simp only [Oper.upon]
    case value u =>
      obtain ⟨e1, e2⟩ := h3
      rw [e1, e2]
      exact h _ h2
    case skip =>
      obtain ⟨e1, e2⟩ := h3
      rw [e1, ← e2]
      exact h _ h2
    case enter f args => exact absurd rfl (hn w' f args)
  | halt x w' => simp only [Oper.quietUpon] at h3
theorem wp_of_loud {o : Oper} {a : Act} {K : Value → World → Prop} {K' : Act → World → Prop} {Q' : Exit → Act → World → Prop} {w : World} (h : ∀ v w', C w' → K v w' → K' (a.put o.dst v) w') (hh : loudUpon P C K ((execOp a.eval o).run P w)) : o.wp P a w K' Q' := by
  unfold Oper.wp
  generalize (execOp a.eval o).run P w = r at *
  cases r with
  | ok n w' =>
    cases n <;> simp only [loudUpon] at hh <;> simp only [Oper.upon]
    case value u => exact h _ _ hh.1 hh.2
    case skip => exact h _ _ hh.1 hh.2
    case enter f args => exact hh.mono fun e w'' ⟨v, he, hc, hk⟩ => by subst he; exact h _ _ hc hk
  | halt x w' => simp only [loudUpon] at hh
theorem wpOp_of_mOp {i : Nat} {a : Act} {K K' : Act → World → Prop} {Q' : Exit → Act → World → Prop} {w : World} (hC : C w) (h : ∀ a w', C w' → K a w' → K' a w') (hh : mOp P ops C i K a w) : wpOp P ops Q' i K' a w := by
  unfold mOp at hh
  unfold wpOp
  split
  · rename_i ho; simp only [ho] at hh
  · rename_i o ho
    simp only [ho] at hh
    split
    · rename_i hw
      simp only [hw, if_true] at hh
      split at hh
      · rename_i hq; exact .inl (wp_of_quietB hq hC (fun a' => h a' w hC) hh)
      · exact .inl (wp_of_loud (fun v w' hc hk => h _ w' hc hk) hh)
    · rename_i hw; simp only [hw] at hh; exact h _ _ hC hh
theorem wpAny_of_mix {Q : Act → World → Prop} {Q' : Exit → Act → World → Prop} (hQ : ∀ a w, C w → Q a w → Q' .normal a w) : ∀ (fuel : Nat) (listed : Array Bool) (a : Act) (w : World), C w →
    wpAnyM P md ops C Q fuel listed a w → wpAny P md ops Q' fuel listed a w
  | 0, _, _, _, hw, h => ⟨h.1, hQ _ _ hw h.2⟩
  | fuel + 1, _, _, _, hw, h => ⟨fun h0 => hQ _ _ hw (h.1 h0), fun i hi => wpOp_of_mOp hw (fun a' w' hw' => wpAny_of_mix hQ fuel _ a' w' hw') (h.2 i hi)⟩

/-- A reading operation, or one that is passed over. -/
def YieldsM (P : Program) (ops : Array Oper) (C : World → Prop) (o : Oper) (v : Value) (a : Act) : Prop :=
  (quietOp o.op = true ∧ Region.wanted o (yielded ops a.tmps) = true ∧ ∀ w, C w → o.quietAt P a C w v) ∨
  (Region.wanted o (yielded ops a.tmps) = false ∧ v = undef)
theorem YieldsM.mOp {i : Nat} {o : Oper} {v : Value} {a : Act} {w : World} (hi : ops[i]? = some o) (hy : YieldsM P ops C o v a) {K : Act → World → Prop} (h : K (a.put o.dst v) w) : mOp P ops C i K a w := by
  unfold Go.Proofs.Ytfllogbpbldibaa.mOp
  simp only [hi]
  rcases hy with ⟨hq, hw, hv⟩ | ⟨hw, rfl⟩
  · simp only [hw, hq, if_true]; exact ⟨v, hv, h⟩
  · simp only [hw, Bool.false_eq_true, if_false]; exact h
theorem YieldsM.of_same {o : Oper} {v : Value} {a a' : Act} (hy : YieldsM P ops C o v a) (he : execOp a'.eval o = execOp a.eval o)
    (hw : Region.wanted o (yielded ops a'.tmps) = Region.wanted o (yielded ops a.tmps)) : YieldsM P ops C o v a' := by
  unfold YieldsM Oper.quietAt at *
  rw [he, hw]
  exact hy

theorem mOp_put {j : Nat} {oi oj : Oper} {v : Value} (hj : ops[j]? = some oj) (hap : oi.apart ops oj = true)
    (hsi : ∀ cs b, oi.op ≠ .select cs b) (hsj : ∀ cs b, oj.op ≠ .select cs b) {K : Act → World → Prop} {a : Act} {w : World}
    (hy : YieldsM P ops C oi v a) (h : mOp P ops C j K (a.put oi.dst v) w) :
    mOp P ops C j (fun a' w' => YieldsM P ops C oi v a' ∧ K (a'.put oi.dst v) w') a w := by
  obtain ⟨h1, h2, h3⟩ := Oper.apart_spec hap
  have keep : ∀ (a : Act), YieldsM P ops C oi v a → ∀ u, YieldsM P ops C oi v (a.put oj.dst u) := fun a hy u =>
    hy.of_same (execOp_put oi hsi a oj.dst u h3) (wanted_put oi a oj.dst u h3)
  unfold mOp at *
  simp only [hj] at *
  rw [wanted_put oj a oi.dst v h1] at h
  split
  · rename_i hw
    simp only [hw, if_true] at h
    split
    · rename_i hq
      simp only [hq, if_true] at h
      obtain ⟨u, hu, hn⟩ := h
      refine ⟨u, fun w hw' => ?_, keep a hy u, by rw [← Act.put_comm a v u h2]; exact hn⟩
      have := hu w hw'
      unfold Oper.quietAt at *
      rwa [execOp_put oj hsj a oi.dst v h1] at this
    · rename_i hq
      simp only [hq] at h
      rw [execOp_put oj hsj a oi.dst v h1] at h
      exact loudUpon_mono (fun u w' hk => ⟨keep a hy u, by rw [← Act.put_comm a v u h2]; exact hk⟩) h
  · rename_i hw
    simp only [hw] at h
    exact ⟨keep a hy _, by rw [← Act.put_comm a v undef h2]; exact h⟩

theorem wpAnyM_first {Q : Act → World → Prop} {i : Nat} {oi : Oper} {v : Value} (hi : ops[i]? = some oi) (hsel : ∀ (j : Nat) (o : Oper) cs b, ops[j]? = some o → o.op ≠ .select cs b) :
    ∀ (fuel : Nat) (listed : Array Bool) (a : Act) (w : World),
      (∀ j oj, ops[j]? = some oj → j ≠ i → listed.getD j true = false → (∀ e ∈ oj.after, Region.binds md e = true → e.on ≠ i) → oi.apart ops oj = true) →
      i ∈ Region.ready md ops listed → YieldsM P ops C oi v a →
      wpAnyM P md ops C Q fuel (listed.setIfInBounds i true) (a.put oi.dst v) w → wpAnyM P md ops C Q (fuel + 1) listed a w := by
  intro fuel
  induction fuel with
  | zero =>
    intro listed a w _ hr hy H
    refine ⟨fun h => (by rw [h] at hr; cases hr), fun j hj => ?_⟩
    by_cases hji : j = i
    · subst hji; exact hy.mOp hi H
    · have := ready_mono hj hji
      rw [H.1] at this
      cases this
  | succ fuel ih =>
    intro listed a w hfree hr hy H
    refine ⟨fun h => (by rw [h] at hr; cases hr), fun j hj => ?_⟩
    by_cases hji : j = i
    · subst hji; exact hy.mOp hi H
    · have h1 := H.2 j (ready_mono hj hji)
      obtain ⟨hjun, oj, hoj, hall⟩ := mem_ready.1 hj
      have hnot : ∀ e ∈ oj.after, Region.binds md e = true → e.on ≠ i := fun e he hb heq => by
        have h1 := hall e he hb
        have h0 := (mem_ready.1 hr).1
        rw [heq] at h1
        rcases Nat.lt_or_ge i listed.size with h' | h'
        · simp [h'] at h0 h1; rw [h0] at h1; cases h1
        · simp [Array.getElem?_eq_none h'] at h1
      have h2 := mOp_put hoj (hfree j oj hoj hji hjun hnot) (fun cs b => hsel i oi cs b hi) (fun cs b => hsel j oj cs b hoj) hy h1
      have hfree' : ∀ k ok, ops[k]? = some ok → k ≠ i → (listed.setIfInBounds j true).getD k true = false →
          (∀ e ∈ ok.after, Region.binds md e = true → e.on ≠ i) → oi.apart ops ok = true := fun k ok hk hki hun hno => by
        refine hfree k ok hk hki ?_ hno
        by_cases hjk : j = k
        · subst hjk; exact hjun
        · rw [getD_set_ne true hjk] at hun; exact hun
      refine mOp_mono (fun a' w' h3 => ih (listed.setIfInBounds j true) a' w' hfree' (ready_mono hr (Ne.symm hji)) h3.1 ?_) h2
      rw [Array.setIfInBounds_comm _ _ hji]
      exact h3.2

/-- The walk, in a given sequence. -/
def wpMix (P : Program) (ops : Array Oper) (C : World → Prop) (Q : Act → World → Prop) : List Nat → Act → World → Prop
  | [], a, w => Q a w
  | i :: rest, a, w => mOp P ops C i (wpMix P ops C Q rest) a w
/-- May it be walked so? -/
def mixB (md : Region.Mode) (ops : Array Oper) : List Nat → Array Bool → Bool
  | [], listed => (Region.ready md ops listed).isEmpty
  | i :: rest, listed =>
    (match ops[i]? with
     | none => false
     | some o => if quietOp o.op then (Region.ready md ops listed).contains i && Region.free md ops listed i else Region.ready md ops listed == [i]) && mixB md ops rest (listed.setIfInBounds i true)

theorem wpAnyM_seq {Q : Act → World → Prop} (hs : Region.noSelect ops = true) : ∀ (l : List Nat) (listed : Array Bool) (a : Act) (w : World), mixB md ops l listed = true → wpMix P ops C Q l a w → wpAnyM P md ops C Q l.length listed a w
  | [], _, _, _, hB, h => ⟨by simpa [mixB] using hB, h⟩
  | i :: l, listed, a, w, hB, h => by
    rw [mixB, Bool.and_eq_true] at hB
    obtain ⟨hB, hB'⟩ := hB
    have h' : mOp P ops C i (wpMix P ops C Q l) a w := h
    have ih := fun a w => wpAnyM_seq (Q := Q) hs l (listed.setIfInBounds i true) a w hB'
    cases ho : ops[i]? with
    | none => simp [ho] at hB
    | some o =>
      simp only [ho] at hB
      by_cases hq : quietOp o.op = true
      · simp only [hq, if_true, Bool.and_eq_true] at hB
        obtain ⟨hr, hf⟩ := hB
        have hy : ∃ v, YieldsM P ops C o v a ∧ wpMix P ops C Q l (a.put o.dst v) w := by
          unfold mOp at h'
          simp only [ho, hq, if_true] at h'
          by_cases hw : Region.wanted o (yielded ops a.tmps) = true
          · simp only [hw, if_true] at h'
            obtain ⟨v, h1, h2⟩ := h'
            exact ⟨v, .inl ⟨hq, hw, h1⟩, h2⟩
          · simp only [hw] at h'
            exact ⟨undef, .inr ⟨by simpa using hw, rfl⟩, h'⟩
        obtain ⟨v, hy, hK⟩ := hy
        exact wpAnyM_first ho (Region.noSelect_spec hs) l.length listed a w (Region.free_spec ho hf) (by simpa using hr) hy (ih _ _ hK)
      · simp only [hq, Bool.false_eq_true, if_false, beq_iff_eq] at hB
        refine ⟨fun h0 => (by rw [hB] at h0; cases h0), fun j hj => ?_⟩
        rw [hB, List.mem_singleton] at hj
        subst hj
        exact mOp_mono ih h'

theorem wp_region_mix (l : List Nat) {id : Nat} {Q : Exit → Act → World → Prop} {a : Act} {w : World} (hm : P.follows .mixedOrders = true) (hn : l.length = ops.size) (hs : Region.noSelect ops = true) (hB : mixB .any ops l (Array.replicate ops.size false) = true) (hC : C w.drew)
    (h : wpMix P ops C (fun a' w' => C w' → Q .normal a' w') l a w.drew) : (Code.region id ops true).wp P Q a w := by
  refine wp_region_any hm (wpAny_of_mix (C := C) (Q := fun a' w' => C w' → Q .normal a' w') (fun _ w' hw' h => h hw') _ _ _ _ hC ?_)
  rw [← hn]
  have := wpAnyM_seq (P := P) (C := C) (md := .any) hs l (Array.replicate ops.size false) a w.drew hB h
  rw [← hn] at this
  exact this

/-- The same walk over the operations themselves. -/
def oOp (P : Program) (ops : Array Oper) (C : World → Prop) (o : Oper) (K : Act → World → Prop) (a : Act) (w : World) : Prop :=
  if Region.wanted o (yielded ops a.tmps) then (if quietOp o.op then o.quiet P a C (fun a' => K a' w) else loudUpon P C (fun v w' => K (a.put o.dst v) w') ((execOp a.eval o).run P w)) else K (a.put o.dst undef) w
def wpMixL (P : Program) (ops : Array Oper) (C : World → Prop) (Q : Act → World → Prop) : List Oper → Act → World → Prop
  | [], a, w => Q a w
  | o :: rest, a, w => oOp P ops C o (wpMixL P ops C Q rest) a w
theorem mix_of_list {Q : Act → World → Prop} : ∀ (idx : List Nat) (listed : Array Bool) (a : Act) (w : World), mixB md ops idx listed = true → wpMixL P ops C Q (idx.filterMap (fun i => ops[i]?)) a w → wpMix P ops C Q idx a w
  | [], _, _, _, _, h => h
  | i :: idx, listed, a, w, hB, h => by
    rw [mixB, Bool.and_eq_true] at hB
    cases ho : ops[i]? with
    | none => simp [ho] at hB
    | some o =>
      rw [List.filterMap_cons, ho] at h
      have h1 : mOp P ops C i (wpMixL P ops C Q (idx.filterMap (fun i => ops[i]?))) a w := by
        unfold mOp
        simp only [ho]
        exact h
      exact mOp_mono (fun a' w' hh => mix_of_list idx (listed.setIfInBounds i true) a' w' hB.2 hh) h1

/-- The beginning, in the order of the text. -/
theorem wp_region_mix_lex {l : List Oper} {id : Nat} {Q : Exit → Act → World → Prop} {a : Act} {w : World} (hm : P.follows .mixedOrders = true) (hs : Region.noSelect l.toArray = true) (hB : mixB .any l.toArray (List.range l.length) (Array.replicate l.toArray.size false) = true)
    (hl : (List.range l.length).filterMap (fun i => l.toArray[i]?) = l) (hC : C w.drew)
    (h : wpMixL P l.toArray C (fun a' w' => C w' → Q .normal a' w') l a w.drew) : (Code.region id l.toArray true).wp P Q a w :=
  wp_region_mix (C := C) (List.range l.length) hm (by simp) hs hB hC (mix_of_list _ _ _ _ hB (by rw [hl]; exact h))
/-- The beginning, in a given sequence. -/
theorem wp_region_mix_seq {l l' : List Oper} (idx : List Nat) {id : Nat} {Q : Exit → Act → World → Prop} {a : Act} {w : World} (hm : P.follows .mixedOrders = true) (hn : idx.length = l.toArray.size) (hs : Region.noSelect l.toArray = true) (hB : mixB .any l.toArray idx (Array.replicate l.toArray.size false) = true)
    (hl : idx.filterMap (fun i => l.toArray[i]?) = l') (hC : C w.drew)
    (h : wpMixL P l.toArray C (fun a' w' => C w' → Q .normal a' w') l' a w.drew) : (Code.region id l.toArray true).wp P Q a w :=
  wp_region_mix (C := C) idx hm hn hs hB hC (mix_of_list _ _ _ _ hB (by rw [hl]; exact h))

theorem mix_end {Q : Act → World → Prop} {a : Act} {w : World} (h : Q a w) : wpMixL P ops C Q [] a w := h
theorem mix_read {Q : Act → World → Prop} {rest : List Oper} {o : Oper} {a : Act} {w : World} (hq : quietOp o.op = true) (h : wpQuiet P ops C (fun a' => wpMixL P ops C Q rest a' w) [o] a) : wpMixL P ops C Q (o :: rest) a w := by
  show oOp _ _ _ _ _ _ _
  unfold oOp
  unfold wpQuiet at h
  split
  · rename_i hw; rw [if_pos hw] at h; first | exact h | (rw [if_pos hq]; exact h)
  · rename_i hw; rw [if_neg hw] at h; exact h
theorem mix_pass {Q : Act → World → Prop} {rest : List Oper} {o : Oper} {a : Act} {w : World} (hw : Region.wanted o (yielded ops a.tmps) = false) (h : wpQuiet P ops C (fun a' => wpMixL P ops C Q rest a' w) [o] a) : wpMixL P ops C Q (o :: rest) a w := by
  show oOp _ _ _ _ _ _ _
  unfold oOp
  simp only [wpQuiet, hw, Bool.false_eq_true, if_false] at h
  simp only [hw, Bool.false_eq_true, if_false]
  exact h
theorem mix_call {Q : Act → World → Prop} {rest : List Oper} {o : Oper} {a : Act} {w : World} {f : FuncId} {args : Array Value} (hq : quietOp o.op = false) (hw : Region.wanted o (yielded ops a.tmps) = true)
    (hc : Calls P f args w (fun e w'' => ∃ v, e = .returned v ∧ C w'' ∧ wpMixL P ops C Q rest (a.put o.dst v) w'')) (hr : (execOp a.eval o).run P w = .ok (.enter f args) w) : wpMixL P ops C Q (o :: rest) a w := by
  show oOp _ _ _ _ _ _ _
  unfold oOp
  simp only [hw, if_true, hq, Bool.false_eq_true, if_false, hr, loudUpon]
  exact hc
theorem mix_does {Q : Act → World → Prop} {rest : List Oper} {o : Oper} {a : Act} {w w' : World} {v : Value} (hq : quietOp o.op = false) (hw : Region.wanted o (yielded ops a.tmps) = true)
    (hr : (execOp a.eval o).run P w = .ok (.value v) w') (hC : C w') (hc : wpMixL P ops C Q rest (a.put o.dst v) w') : wpMixL P ops C Q (o :: rest) a w := by
  show oOp _ _ _ _ _ _ _
  unfold oOp
  simp only [hw, if_true, hq, Bool.false_eq_true, if_false, hr, loudUpon]
  exact ⟨hC, hc⟩
theorem mix_skips {Q : Act → World → Prop} {rest : List Oper} {o : Oper} {a : Act} {w w' : World} (hq : quietOp o.op = false) (hw : Region.wanted o (yielded ops a.tmps) = true)
    (hr : (execOp a.eval o).run P w = .ok .skip w') (hC : C w') (hc : wpMixL P ops C Q rest (a.put o.dst undef) w') : wpMixL P ops C Q (o :: rest) a w := by
  show oOp _ _ _ _ _ _ _
  unfold oOp
  simp only [hw, if_true, hq, Bool.false_eq_true, if_false, hr, loudUpon]
  exact ⟨hC, hc⟩
end

section
variable {P : Program} {ops : Array Oper} {md : Region.Mode} {C C2 : World → Prop} {A : List Nat}

/-- The class of an operation: those of the first phase, those behind it. -/
def clsE (A : List Nat) (C C2 : World → Prop) (i : Nat) : World → Prop := if A.contains i then C else C2

theorem mOp_put2 {D : World → Prop} {j : Nat} {oi oj : Oper} {v : Value} (hj : ops[j]? = some oj) (hap : oi.apart ops oj = true)
    (hsi : ∀ cs b, oi.op ≠ .select cs b) (hsj : ∀ cs b, oj.op ≠ .select cs b) {K : Act → World → Prop} {a : Act} {w : World}
    (hy : YieldsM P ops C oi v a) (h : mOp P ops D j K (a.put oi.dst v) w) :
    mOp P ops D j (fun a' w' => YieldsM P ops C oi v a' ∧ K (a'.put oi.dst v) w') a w := by
  obtain ⟨h1, h2, h3⟩ := Oper.apart_spec hap
  have keep : ∀ (a : Act), YieldsM P ops C oi v a → ∀ u, YieldsM P ops C oi v (a.put oj.dst u) := fun a hy u =>
    hy.of_same (execOp_put oi hsi a oj.dst u h3) (wanted_put oi a oj.dst u h3)
  unfold mOp at *
  simp only [hj] at *
  rw [wanted_put oj a oi.dst v h1] at h
  split
  · rename_i hw
    simp only [hw, if_true] at h
    split
    · rename_i hq
      simp only [hq, if_true] at h
      obtain ⟨u, hu, hn⟩ := h
      refine ⟨u, fun w hw' => ?_, keep a hy u, by rw [← Act.put_comm a v u h2]; exact hn⟩
      have := hu w hw'
      unfold Oper.quietAt at *
      rwa [execOp_put oj hsj a oi.dst v h1] at this
    · rename_i hq
      simp only [hq] at h
      rw [execOp_put oj hsj a oi.dst v h1] at h
      exact loudUpon_mono (fun u w' hk => ⟨keep a hy u, by rw [← Act.put_comm a v u h2]; exact hk⟩) h
  · rename_i hw
    simp only [hw] at h
    exact ⟨keep a hy _, by rw [← Act.put_comm a v undef h2]; exact h⟩

def wpAnyE (P : Program) (md : Region.Mode) (ops : Array Oper) (E : Nat → World → Prop) (Q : Act → World → Prop) : Nat → Array Bool → Act → World → Prop
  | 0, listed, a, w => Region.ready md ops listed = [] ∧ Q a w
  | fuel + 1, listed, a, w =>
    (Region.ready md ops listed = [] → Q a w) ∧
    ∀ i ∈ Region.ready md ops listed, mOp P ops (E i) i (wpAnyE P md ops E Q fuel (listed.setIfInBounds i true)) a w

/-- Whatever stands behind the first phase hangs on all of it. -/
def phB (md : Region.Mode) (ops : Array Oper) (A : List Nat) : Bool :=
  (List.range ops.size).all fun j => A.contains j || (match ops[j]? with
    | none => true
    | some o => A.all fun a => o.after.any fun e => Region.binds md e && e.on == a)
def allA (A : List Nat) (listed : Array Bool) : Bool := A.all fun a => listed.getD a true

theorem ph_ready (h : phB md ops A = true) {listed : Array Bool} {j : Nat} (hj : j ∈ Region.ready md ops listed) (hA : A.contains j = false) : allA A listed = true := by
  obtain ⟨hjun, oj, hoj, hall⟩ := mem_ready.1 hj
  have hlt : j < ops.size := (Array.getElem?_eq_some_iff.1 hoj).1
  have h1 := List.all_eq_true.1 h j (List.mem_range.2 hlt)
  rw [hA, Bool.false_or] at h1
  simp only [hoj] at h1
  refine List.all_eq_true.2 fun a ha => ?_
  have h2 := List.all_eq_true.1 h1 a ha
  obtain ⟨e, he, hb⟩ := Array.any_eq_true'.1 h2
  rw [Bool.and_eq_true, beq_iff_eq] at hb
  have h3 := hall e he hb.1
  rw [hb.2] at h3
  rcases Nat.lt_or_ge a listed.size with h' | h'
  · simp [h'] at h3 ⊢; exact h3
  · simp [h']

theorem wpAny_of_mixE {Q : Act → World → Prop} {Q' : Exit → Act → World → Prop} (hCC : ∀ w, C w → C2 w) (hph : phB md ops A = true) (hQ : ∀ a w, Q a w → Q' .normal a w) : ∀ (fuel : Nat) (listed : Array Bool) (a : Act) (w : World), C2 w → (allA A listed = false → C w) →
    wpAnyE P md ops (clsE A C C2) Q fuel listed a w → wpAny P md ops Q' fuel listed a w
  | 0, _, _, _, _, _, h => ⟨h.1, hQ _ _ h.2⟩
  | fuel + 1, listed, a, w, h2, h1, h => ⟨fun h0 => hQ _ _ (h.1 h0), fun i hi => by
      have hh := h.2 i hi
      have hun := (mem_ready.1 hi).1
      cases hA : A.contains i
      · have hall := ph_ready hph hi hA
        have hE : clsE A C C2 i = C2 := by unfold clsE; rw [hA]; rfl
        rw [hE] at hh
        have hall' : allA A (listed.setIfInBounds i true) = true := by
          refine List.all_eq_true.2 fun b hb => ?_
          have := List.all_eq_true.1 hall b hb
          by_cases hib : i = b
          · subst hib
            rw [hun] at this
            cases this
          · rw [getD_set_ne true hib]; exact this
        exact wpOp_of_mOp h2 (fun a' w' hw' hk => wpAny_of_mixE hCC hph hQ fuel _ a' w' hw' (fun h0 => by rw [hall'] at h0; cases h0) hk) hh
      · have hE : clsE A C C2 i = C := by unfold clsE; rw [hA]; rfl
        rw [hE] at hh
        have hC : C w := by
          refine h1 ?_
          cases hal : allA A listed
          · rfl
          · have := List.all_eq_true.1 hal i (by simpa using hA)
            rw [hun] at this
            cases this
        exact wpOp_of_mOp hC (fun a' w' hw' hk => wpAny_of_mixE hCC hph hQ fuel _ a' w' (hCC _ hw') (fun _ => hw') hk) hh⟩

theorem wpAnyE_first {E : Nat → World → Prop} {Q : Act → World → Prop} {i : Nat} {oi : Oper} {v : Value} (hi : ops[i]? = some oi) (hsel : ∀ (j : Nat) (o : Oper) cs b, ops[j]? = some o → o.op ≠ .select cs b) :
    ∀ (fuel : Nat) (listed : Array Bool) (a : Act) (w : World),
      (∀ j oj, ops[j]? = some oj → j ≠ i → listed.getD j true = false → (∀ e ∈ oj.after, Region.binds md e = true → e.on ≠ i) → oi.apart ops oj = true) →
      i ∈ Region.ready md ops listed → YieldsM P ops (E i) oi v a →
      wpAnyE P md ops E Q fuel (listed.setIfInBounds i true) (a.put oi.dst v) w → wpAnyE P md ops E Q (fuel + 1) listed a w := by
  intro fuel
  induction fuel with
  | zero =>
    intro listed a w _ hr hy H
    refine ⟨fun h => (by rw [h] at hr; cases hr), fun j hj => ?_⟩
    by_cases hji : j = i
    · subst hji; exact hy.mOp hi H
    · have := ready_mono hj hji
      rw [H.1] at this
      cases this
  | succ fuel ih =>
    intro listed a w hfree hr hy H
    refine ⟨fun h => (by rw [h] at hr; cases hr), fun j hj => ?_⟩
    by_cases hji : j = i
    · subst hji; exact hy.mOp hi H
    · have h1 := H.2 j (ready_mono hj hji)
      obtain ⟨hjun, oj, hoj, hall⟩ := mem_ready.1 hj
      have hnot : ∀ e ∈ oj.after, Region.binds md e = true → e.on ≠ i := fun e he hb heq => by
        have h1 := hall e he hb
        have h0 := (mem_ready.1 hr).1
        rw [heq] at h1
        rcases Nat.lt_or_ge i listed.size with h' | h'
        · simp [h'] at h0 h1; rw [h0] at h1; cases h1
        · simp [Array.getElem?_eq_none h'] at h1
      have h2 := mOp_put2 (D := E j) hoj (hfree j oj hoj hji hjun hnot) (fun cs b => hsel i oi cs b hi) (fun cs b => hsel j oj cs b hoj) hy h1
      have hfree' : ∀ k ok, ops[k]? = some ok → k ≠ i → (listed.setIfInBounds j true).getD k true = false →
          (∀ e ∈ ok.after, Region.binds md e = true → e.on ≠ i) → oi.apart ops ok = true := fun k ok hk hki hun hno => by
        refine hfree k ok hk hki ?_ hno
        by_cases hjk : j = k
        · subst hjk; exact hjun
        · rw [getD_set_ne true hjk] at hun; exact hun
      refine mOp_mono (fun a' w' h3 => ih (listed.setIfInBounds j true) a' w' hfree' (ready_mono hr (Ne.symm hji)) h3.1 ?_) h2
      rw [Array.setIfInBounds_comm _ _ hji]
      exact h3.2

def wpMixE (P : Program) (ops : Array Oper) (E : Nat → World → Prop) (Q : Act → World → Prop) : List Nat → Act → World → Prop
  | [], a, w => Q a w
  | i :: rest, a, w => mOp P ops (E i) i (wpMixE P ops E Q rest) a w

theorem wpAnyE_seq {E : Nat → World → Prop} {Q : Act → World → Prop} (hs : Region.noSelect ops = true) : ∀ (l : List Nat) (listed : Array Bool) (a : Act) (w : World), mixB md ops l listed = true → wpMixE P ops E Q l a w → wpAnyE P md ops E Q l.length listed a w
  | [], _, _, _, hB, h => ⟨by simpa [mixB] using hB, h⟩
  | i :: l, listed, a, w, hB, h => by
    rw [mixB, Bool.and_eq_true] at hB
    obtain ⟨hB, hB'⟩ := hB
    have h' : mOp P ops (E i) i (wpMixE P ops E Q l) a w := h
    have ih := fun a w => wpAnyE_seq (E := E) (Q := Q) hs l (listed.setIfInBounds i true) a w hB'
    cases ho : ops[i]? with
    | none => simp [ho] at hB
    | some o =>
      simp only [ho] at hB
      by_cases hq : quietOp o.op = true
      · simp only [hq, if_true, Bool.and_eq_true] at hB
        obtain ⟨hr, hf⟩ := hB
        have hy : ∃ v, YieldsM P ops (E i) o v a ∧ wpMixE P ops E Q l (a.put o.dst v) w := by
          unfold mOp at h'
          simp only [ho, hq, if_true] at h'
          by_cases hw : Region.wanted o (yielded ops a.tmps) = true
          · simp only [hw, if_true] at h'
            obtain ⟨v, h1, h2⟩ := h'
            exact ⟨v, .inl ⟨hq, hw, h1⟩, h2⟩
          · simp only [hw] at h'
            exact ⟨undef, .inr ⟨by simpa using hw, rfl⟩, h'⟩
        obtain ⟨v, hy, hK⟩ := hy
        exact wpAnyE_first ho (Region.noSelect_spec hs) l.length listed a w (Region.free_spec ho hf) (by simpa using hr) hy (ih _ _ hK)
      · simp only [hq, Bool.false_eq_true, if_false, beq_iff_eq] at hB
        refine ⟨fun h0 => (by rw [hB] at h0; cases h0), fun j hj => ?_⟩
        rw [hB, List.mem_singleton] at hj
        subst hj
        exact mOp_mono ih h'

theorem mixE_of_list {E : Nat → World → Prop} {Q : Act → World → Prop} : ∀ (idx : List Nat), (∀ i ∈ idx, E i = C) → (∀ i ∈ idx, i < ops.size) → ∀ (a : Act) (w : World), wpMixL P ops C Q (idx.filterMap (fun i => ops[i]?)) a w → wpMixE P ops E Q idx a w
  | [], _, _, _, _, h => h
  | i :: idx, hE, hlt, a, w, h => by
    obtain ⟨o, ho⟩ : ∃ o, ops[i]? = some o := ⟨ops[i]'(hlt i List.mem_cons_self), Array.getElem?_eq_getElem _⟩
    rw [List.filterMap_cons, ho] at h
    have h1 : mOp P ops C i (wpMixL P ops C Q (idx.filterMap (fun i => ops[i]?))) a w := by
      unfold mOp
      simp only [ho]
      exact h
    show mOp P ops (E i) i _ a w
    rw [hE i List.mem_cons_self]
    exact mOp_mono (fun a' w' hh => mixE_of_list idx (fun j hj => hE j (List.mem_cons_of_mem _ hj)) (fun j hj => hlt j (List.mem_cons_of_mem _ hj)) a' w' hh) h1
theorem mixE_append {E : Nat → World → Prop} {Q : Act → World → Prop} : ∀ (l l' : List Nat) (a : Act) (w : World), wpMixE P ops E (wpMixE P ops E Q l') l a w → wpMixE P ops E Q (l ++ l') a w
  | [], _, _, _, h => h
  | _ :: l, l', _, _, h => mOp_mono (fun a w hh => mixE_append l l' a w hh) h

theorem oOp_mono {o : Oper} {K K' : Act → World → Prop} {a : Act} {w : World} (h : ∀ a w, K a w → K' a w) (hh : oOp P ops C o K a w) : oOp P ops C o K' a w := by
  unfold oOp at *
  split
  · rename_i hw
    simp only [hw, if_true] at hh
    split
    · rename_i hq; simp only [hq, if_true] at hh; exact Oper.quiet_mono (fun a => h a w) hh
    · rename_i hq; simp only [hq] at hh; exact loudUpon_mono (fun _ _ => h _ _) hh
  · rename_i hw; simp only [hw] at hh; exact h _ _ hh
theorem wpMixL_mono {Q Q' : Act → World → Prop} (h : ∀ a w, Q a w → Q' a w) : ∀ (l : List Oper) (a : Act) (w : World), wpMixL P ops C Q l a w → wpMixL P ops C Q' l a w
  | [], a, w, hh => h a w hh
  | _ :: l, _, _, hh => oOp_mono (fun a w hk => wpMixL_mono h l a w hk) hh

/-- Two phases: the reading operations of the first read the same in the worlds of C, those of the second in whatever world. -/
theorem wp_region_two {l l1 l2 : List Oper} (A B : List Nat) {id : Nat} {Q : Exit → Act → World → Prop} {a : Act} {w : World} (hm : P.follows .mixedOrders = true) (hn : (A ++ B).length = l.toArray.size) (hs : Region.noSelect l.toArray = true)
    (hB : mixB .any l.toArray (A ++ B) (Array.replicate l.toArray.size false) = true) (hp : phB .any l.toArray A = true) (hlt : ((A ++ B).all fun i => decide (i < l.toArray.size)) = true) (hd : (B.all fun i => !A.contains i) = true)
    (hl : A.filterMap (fun i => l.toArray[i]?) = l1) (hl2 : B.filterMap (fun i => l.toArray[i]?) = l2) (hC : C w.drew)
    (h : wpMixL P l.toArray C (fun a' w' => wpMixL P l.toArray (fun _ => True) (fun a'' w'' => Q .normal a'' w'') l2 a' w') l1 a w.drew) : (Code.region id l.toArray true).wp P Q a w := by
  have hlt' : ∀ i ∈ A ++ B, i < l.toArray.size := fun i hi => of_decide_eq_true (List.all_eq_true.1 hlt i hi)
  refine wp_region_any hm (wpAny_of_mixE (C := C) (C2 := fun _ => True) (A := A) (Q := fun a' w' => Q .normal a' w') (fun _ _ => trivial) hp (fun _ _ h => h) _ _ _ _ trivial (fun _ => hC) ?_)
  rw [← hn]
  have := wpAnyE_seq (P := P) (E := clsE A C fun _ => True) (md := .any) (Q := fun a' w' => Q .normal a' w') hs (A ++ B) (Array.replicate l.toArray.size false) a w.drew hB ?_
  · rw [← hn] at this
    exact this
  · refine mixE_append A B a _ (mixE_of_list (C := C) A (fun i hi => by unfold clsE; rw [if_pos (by simpa using hi)]) (fun i hi => hlt' i (List.mem_append_left _ hi)) a _ ?_)
    rw [hl]
    refine wpMixL_mono (fun a' w' hh => ?_) l1 a _ h
    refine mixE_of_list (C := fun _ => True) B (fun i hi => ?_) (fun i hi => hlt' i (List.mem_append_right _ hi)) a' w' ?_
    · have := List.all_eq_true.1 hd i hi
      unfold clsE
      rw [if_neg (by simpa using this)]
    · rw [hl2]
      exact hh
end
end Go.Proofs.Ytfllogbpbldibaa
