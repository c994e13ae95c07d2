/-
  Plain facts: of a layout that may be, the lines that tell it, one behind the other, tell just it.
-/
import Derived.Test.YtgiaicmhnkhbnaaDoorPlLines
namespace Go.Proofs.YtgiaicmhnkhbnaaDoor

def nth (l : List ByteArray) (i : Int) : ByteArray := l.getD i.toNat ⟨#[]⟩
def rlOf (l : Lay) (r : Rt) : RL := ⟨r.name, nth l.signals r.frm, nth l.signals r.to, r.path.map (nth l.sections), r.points.map (fun n => (nth (l.points.map (·.1)) n.1, n.2)), r.flank.map (fun n => (nth (l.points.map (·.1)) n.1, n.2))⟩
def wordsS (xs : List ByteArray) : List (List ByteArray) := xs.map fun x => [kSection, x]
def wordsG (xs : List ByteArray) : List (List ByteArray) := xs.map fun x => [kSignal, x]
def wordsP (l : Lay) (xs : List (ByteArray × Int)) : List (List ByteArray) := xs.map fun p => [kPoint, p.1, kIn, nth l.sections p.2]
def wordsR (l : Lay) (xs : List Rt) : List (List ByteArray) := xs.map fun r => kRoute :: routeWords (rlOf l r)
/-- The lines that tell a layout, as words. -/
def lineWords (l : Lay) : List (List ByteArray) := wordsS l.sections ++ (wordsG l.signals ++ (wordsP l l.points ++ wordsR l l.routes))

structure RtOk (l : Lay) (r : Rt) : Prop where
  frm : 0 ≤ r.frm ∧ r.frm < l.signals.length
  to : 0 ≤ r.to ∧ r.to < l.signals.length
  path : r.path ≠ [] ∧ r.path.length ≤ 5 ∧ ∀ i ∈ r.path, 0 ≤ i ∧ i < l.sections.length
  points : r.points.length ≤ 5 ∧ ∀ n ∈ r.points, 0 ≤ n.1 ∧ n.1 < l.points.length
  flank : r.flank.length ≤ 5 ∧ ∀ n ∈ r.flank, 0 ≤ n.1 ∧ n.1 < l.points.length
/-- What a layout that may be has, as far as its lines go. -/
structure IsL (l : Lay) : Prop where
  s : l.sections.length ≤ 10 ∧ l.sections.Nodup ∧ ∀ x ∈ l.sections, capB x = true
  g : l.signals.length ≤ 6 ∧ l.signals.Nodup ∧ ∀ x ∈ l.signals, capB x = true
  p : l.points.length ≤ 5 ∧ (l.points.map (·.1)).Nodup ∧ ∀ x ∈ l.points, capB x.1 = true ∧ 0 ≤ x.2 ∧ x.2 < l.sections.length
  r : l.routes.length ≤ 6 ∧ (l.routes.map (·.name)).Nodup ∧ ∀ x ∈ l.routes, capB x.name = true ∧ RtOk l x

def run : Lay → List (List ByteArray) → Option Lay
  | l, [] => some l
  | l, ws :: rest => if (addWords l ws).1 = 0 then run (addWords l ws).2 rest else none
theorem run_append : ∀ (a b : List (List ByteArray)) (l m : Lay), run l a = some m → run l (a ++ b) = run m b
  | [], b, l, m, h => by
    rw [run] at h
    rw [Option.some.inj h]
    rfl
  | w :: a, b, l, m, h => by
    rw [run] at h
    rw [List.cons_append, run]
    by_cases e : (addWords l w).1 = 0
    · rw [if_pos e] at h ⊢
      exact run_append a b _ m h
    · rw [if_neg e] at h
      exact absurd h (by simp)
theorem run_one {l m : Lay} {w : List ByteArray} {rest : List (List ByteArray)} (h : addWords l w = (0, m)) : run l (w :: rest) = run m rest := by
  rw [run, h, if_pos rfl]

theorem idxF_no (x : ByteArray) : ∀ (l : List ByteArray) (k : Nat), x ∉ l → idxF x l k = -1
  | [], _, _ => rfl
  | y :: l, k, h => by
    rw [idxF, if_neg (fun e => h (by rw [e]; simp)), idxF_no x l (k + 1) (fun e => h (by simp [e]))]
theorem idx_no {x : ByteArray} {l : List ByteArray} (h : x ∉ l) : idx l x = -1 := idxF_no x l 0 h
theorem idxF_at : ∀ (l : List ByteArray) (k i : Nat), l.Nodup → i < l.length → idxF (l.getD i ⟨#[]⟩) l k = ((k + i : Nat) : Int)
  | [], _, i, _, h => by simp at h
  | y :: l, k, 0, _, _ => by simp [idxF]
  | y :: l, k, i + 1, hn, hi => by
    have hn' := List.nodup_cons.1 hn
    have hi' : i < l.length := by simpa using hi
    have hm : l.getD i ⟨#[]⟩ ∈ l := by
      rw [List.getD_eq_getElem?_getD, List.getElem?_eq_getElem hi']
      simp
    show idxF (l.getD i ⟨#[]⟩) (y :: l) k = _
    rw [idxF, if_neg (fun e => hn'.1 (by rw [← e]; exact hm)), idxF_at l (k + 1) i hn'.2 hi']
    congr 1
    omega
theorem idx_nth {l : List ByteArray} (hn : l.Nodup) {i : Int} (h0 : 0 ≤ i) (h1 : i < l.length) : idx l (nth l i) = i := by
  obtain ⟨k, rfl⟩ := Int.eq_ofNat_of_zero_le h0
  rw [nth, Int.toNat_natCast, idx, idxF_at l 0 k hn (by omega), Nat.zero_add]
theorem nth_mem {l : List ByteArray} {i : Int} (h0 : 0 ≤ i) (h1 : i < l.length) : nth l i ∈ l := by
  obtain ⟨k, rfl⟩ := Int.eq_ofNat_of_zero_le h0
  have hk : k < l.length := by omega
  rw [nth, Int.toNat_natCast, List.getD_eq_getElem?_getD, List.getElem?_eq_getElem hk]
  simp

theorem run_s (l : Lay) : ∀ (todo done : List ByteArray) (b : Lay), (done ++ todo).Nodup → (∀ x ∈ done ++ todo, capB x = true) → (done ++ todo).length ≤ 10 → run { b with sections := done } (wordsS todo) = some { b with sections := done ++ todo }
  | [], done, b, _, _, _ => by rw [List.append_nil]; rfl
  | x :: todo, done, b, hn, hc, hl => by
    have h1 : x ∉ done := fun hx => (List.nodup_append.1 hn).2.2 x hx x (by simp) rfl
    have h2 := add_section { b with sections := done } x (hc x (by simp)) (idx_no h1) (by simp at hl ⊢; omega)
    have e : done ++ x :: todo = (done ++ [x]) ++ todo := by simp
    rw [e] at hn hc hl ⊢
    show run _ ([kSection, x] :: wordsS todo) = _
    rw [run_one h2]
    exact run_s l todo (done ++ [x]) b hn hc hl
theorem run_g (l : Lay) : ∀ (todo done : List ByteArray) (b : Lay), (done ++ todo).Nodup → (∀ x ∈ done ++ todo, capB x = true) → (done ++ todo).length ≤ 6 → run { b with signals := done } (wordsG todo) = some { b with signals := done ++ todo }
  | [], done, b, _, _, _ => by rw [List.append_nil]; rfl
  | x :: todo, done, b, hn, hc, hl => by
    have h1 : x ∉ done := fun hx => (List.nodup_append.1 hn).2.2 x hx x (by simp) rfl
    have h2 := add_signal { b with signals := done } x (hc x (by simp)) (idx_no h1) (by simp at hl ⊢; omega)
    have e : done ++ x :: todo = (done ++ [x]) ++ todo := by simp
    rw [e] at hn hc hl ⊢
    show run _ ([kSignal, x] :: wordsG todo) = _
    rw [run_one h2]
    exact run_g l todo (done ++ [x]) b hn hc hl
theorem run_p (l : Lay) (hs : l.sections.Nodup) (hsc : ∀ x ∈ l.sections, capB x = true) : ∀ (todo done : List (ByteArray × Int)) (b : Lay), b.sections = l.sections → ((done ++ todo).map (·.1)).Nodup → (∀ x ∈ done ++ todo, capB x.1 = true ∧ 0 ≤ x.2 ∧ x.2 < l.sections.length) → (done ++ todo).length ≤ 5 →
    run { b with points := done } (wordsP l todo) = some { b with points := done ++ todo }
  | [], done, b, _, _, _, _ => by rw [List.append_nil]; rfl
  | x :: todo, done, b, hb, hn, hc, hl => by
    obtain ⟨c1, c2, c3⟩ := hc x (by simp)
    have h1 : x.1 ∉ done.map (·.1) := fun hx => by
      rw [List.map_append] at hn
      exact (List.nodup_append.1 hn).2.2 x.1 hx x.1 (by simp) rfl
    have hi := idx_nth hs c2 c3
    have h2 := add_point { b with points := done } x.1 (nth l.sections x.2) c1 (hsc _ (nth_mem c2 c3)) (idx_no h1) (by show idx b.sections _ ≠ -1; rw [hb, hi]; omega) (by simp at hl ⊢; omega)
    have h3 : idx b.sections (nth l.sections x.2) = x.2 := by rw [hb, hi]
    have h4 : addWords { b with points := done } [kPoint, x.1, kIn, nth l.sections x.2] = (0, { b with points := done ++ [x] }) := by
      rw [h2]
      simp only
      rw [h3]
    have e : done ++ x :: todo = (done ++ [x]) ++ todo := by simp
    rw [e] at hn hc hl ⊢
    show run _ ([kPoint, x.1, kIn, nth l.sections x.2] :: wordsP l todo) = _
    rw [run_one h4]
    exact run_p l hs hsc todo (done ++ [x]) b hb hn hc hl

theorem map_nth {l : List ByteArray} (hn : l.Nodup) : ∀ (is : List Int), (∀ i ∈ is, 0 ≤ i ∧ i < l.length) → (is.map (nth l)).map (idx l) = is
  | [], _ => rfl
  | i :: is, h => by
    rw [List.map_cons, List.map_cons, idx_nth hn (h i (by simp)).1 (h i (by simp)).2, map_nth hn is fun j hj => h j (by simp [hj])]
theorem map_needs {l : Lay} (hn : (l.points.map (·.1)).Nodup) {b : Lay} (hb : b.points = l.points) : ∀ (ns : List (Int × Bool)), (∀ n ∈ ns, 0 ≤ n.1 ∧ n.1 < l.points.length) → needsP b (ns.map fun n => (nth (l.points.map (·.1)) n.1, n.2)) = ns
  | [], _ => rfl
  | n :: ns, h => by
    have ih := map_needs hn hb ns fun j hj => h j (by simp [hj])
    rw [needsP] at ih ⊢
    rw [List.map_cons, List.map_cons, ih]
    have h1 := h n (by simp)
    have : pointAt b (nth (l.points.map (·.1)) n.1) = n.1 := by
      rw [pointAt, hb]
      exact idx_nth hn h1.1 (by simpa using h1.2)
    rw [this]
theorem by_is {l b : Lay} (h : IsL l) (hs : b.sections = l.sections) (hp : b.points = l.points) (hg : b.signals = l.signals) {r : Rt} (hr : RtOk l r) : byPlaces b (rlOf l r) = r := by
  obtain ⟨nm, fr, tw, pa, po, fl⟩ := r
  rw [byPlaces, hs, hg]
  simp only [rlOf]
  rw [idx_nth h.g.2.1 hr.frm.1 hr.frm.2, idx_nth h.g.2.1 hr.to.1 hr.to.2, map_nth h.s.2.1 _ hr.path.2.2, map_needs h.p.2.1 hp _ hr.points.2, map_needs h.p.2.1 hp _ hr.flank.2]
theorem rl_ok {l : Lay} (h : IsL l) {r : Rt} (hc : capB r.name = true) (hr : RtOk l r) : RLOk (rlOf l r) := by
  refine ⟨hc, h.g.2.2 _ (nth_mem hr.frm.1 hr.frm.2), h.g.2.2 _ (nth_mem hr.to.1 hr.to.2), ⟨?_, ?_⟩, ?_, ?_⟩
  · intro e
    exact hr.path.1 (List.map_eq_nil_iff.1 e)
  · intro x hx
    obtain ⟨i, hi, rfl⟩ := List.mem_map.1 hx
    exact h.s.2.2 _ (nth_mem (hr.path.2.2 i hi).1 (hr.path.2.2 i hi).2)
  · intro x hx
    obtain ⟨n, hn, rfl⟩ := List.mem_map.1 hx
    have := nth_mem (l := l.points.map (·.1)) (hr.points.2 n hn).1 (by simpa using (hr.points.2 n hn).2)
    obtain ⟨p, hp, e⟩ := List.mem_map.1 this
    rw [← e]
    exact (h.p.2.2 p hp).1
  · intro x hx
    obtain ⟨n, hn, rfl⟩ := List.mem_map.1 hx
    have := nth_mem (l := l.points.map (·.1)) (hr.flank.2 n hn).1 (by simpa using (hr.flank.2 n hn).2)
    obtain ⟨p, hp, e⟩ := List.mem_map.1 this
    rw [← e]
    exact (h.p.2.2 p hp).1
theorem not_lacks {l : Lay} {r : Rt} (hr : RtOk l r) : lacks r = false := by
  have h1 := hr.frm.1
  have h2 := hr.to.1
  have a1 : decide (r.frm = -1) = false := by simp; omega
  have a2 : decide (r.to = -1) = false := by simp; omega
  have a3 : r.path.any (fun n => decide (n = -1)) = false := by
    rw [List.any_eq_false]
    intro x hx
    have := (hr.path.2.2 x hx).1
    simp
    omega
  have a4 : r.points.any (fun n => decide (n.1 = -1)) = false := by
    rw [List.any_eq_false]
    intro x hx
    have := (hr.points.2 x hx).1
    simp
    omega
  have a5 : r.flank.any (fun n => decide (n.1 = -1)) = false := by
    rw [List.any_eq_false]
    intro x hx
    have := (hr.flank.2 x hx).1
    simp
    omega
  rw [lacks, a1, a2, a3, a4, a5]
  rfl
theorem not_long {l : Lay} {r : Rt} (hr : RtOk l r) : tooLong r = false := by
  have h1 := hr.path.2.1
  have h2 := hr.points.1
  have h3 := hr.flank.1
  have a1 : decide (5 < r.path.length) = false := by simp; omega
  have a2 : decide (5 < r.points.length) = false := by simp; omega
  have a3 : decide (5 < r.flank.length) = false := by simp; omega
  rw [tooLong, a1, a2, a3]
  rfl
theorem run_r (l : Lay) (h : IsL l) : ∀ (todo done : List Rt) (b : Lay), b.sections = l.sections → b.points = l.points → b.signals = l.signals → ((done ++ todo).map (·.name)).Nodup → (∀ x ∈ todo, capB x.name = true ∧ RtOk l x) → (done ++ todo).length ≤ 6 →
    run { b with routes := done } (wordsR l todo) = some { b with routes := done ++ todo }
  | [], done, b, _, _, _, _, _, _ => by rw [List.append_nil]; rfl
  | x :: todo, done, b, hs, hp, hg, hn, hc, hl => by
    obtain ⟨c1, c2⟩ := hc x (by simp)
    have hb : byPlaces { b with routes := done } (rlOf l x) = x := by_is h hs hp hg c2
    have hh : hasRoute { b with routes := done } (rlOf l x).name = false := by
      rw [hasRoute, List.any_eq_false]
      intro y hy e
      rw [List.map_append] at hn
      exact (List.nodup_append.1 hn).2.2 y.name (List.mem_map.2 ⟨y, hy, rfl⟩) x.name (by simp) (of_decide_eq_true e)
    have h2 := add_route { b with routes := done } (rlOf l x) (rl_ok h c1 c2) hh (by rw [hb]; exact not_lacks c2) (by rw [hb]; exact not_long c2) (by simp at hl ⊢; omega)
    rw [hb] at h2
    have e : done ++ x :: todo = (done ++ [x]) ++ todo := by simp
    rw [e] at hn hl ⊢
    show run _ ((kRoute :: routeWords (rlOf l x)) :: wordsR l todo) = _
    rw [run_one h2]
    exact run_r l h todo (done ++ [x]) b hs hp hg hn (fun y hy => hc y (by simp [hy])) hl

/-- All lines tell the layout. -/
theorem run_all (l : Lay) (h : IsL l) : run Lay.zero (lineWords l) = some l := by
  obtain ⟨se, po, sg, ro⟩ := l
  have h1 := run_s ⟨se, po, sg, ro⟩ se [] Lay.zero h.s.2.1 h.s.2.2 h.s.1
  have h2 := run_g ⟨se, po, sg, ro⟩ sg [] { Lay.zero with sections := se } h.g.2.1 h.g.2.2 h.g.1
  have h3 := run_p ⟨se, po, sg, ro⟩ h.s.2.1 h.s.2.2 po [] { Lay.zero with sections := se, signals := sg } rfl h.p.2.1 h.p.2.2 h.p.1
  have h4 := run_r ⟨se, po, sg, ro⟩ h ro [] { Lay.zero with sections := se, signals := sg, points := po } rfl rfl rfl h.r.2.1 h.r.2.2 h.r.1
  exact (run_append (wordsS se) _ Lay.zero ⟨se, [], [], []⟩ h1).trans ((run_append (wordsG sg) _ ⟨se, [], [], []⟩ ⟨se, [], sg, []⟩ h2).trans ((run_append (wordsP ⟨se, po, sg, ro⟩ po) _ ⟨se, [], sg, []⟩ ⟨se, po, sg, []⟩ h3).trans h4))

end Go.Proofs.YtgiaicmhnkhbnaaDoor
