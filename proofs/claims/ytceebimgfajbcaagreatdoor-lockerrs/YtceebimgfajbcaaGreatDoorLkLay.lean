/-
  A lock of any layout that may be: New, Command, Cycle, Safe, Routes by contracts that carry all that a law needs.
-/
import Derived.Test.YtceebimgfajbcaaGreatDoorLkLine2
import Derived.Test.YtceebimgfajbcaaGreatDoorLkStand
namespace Go.Proofs.YtceebimgfajbcaaGreatDoor
open Go.RowKit

theorem ways_at (rs : List RtV) : ∀ (l : List RtV) (k j : Nat) (x : RtV), l[j]? = some x → (waysG rs l k)[j]? = some (wayF rs (k + j) x.1)
  | [], _, j, x, h => by simp at h
  | y :: l, k, 0, x, h => by
    obtain rfl : y = x := by simpa using h
    rfl
  | y :: l, k, j + 1, x, h => by
    rw [waysG, List.getElem?_cons_succ, ways_at rs l (k + 1) j x (by simpa using h)]
    congr 2
    omega
theorem ways_mem {rs l : List RtV} {k : Nat} {w : Wy} (h : w ∈ waysG rs l k) : ∃ j x, l[j]? = some x ∧ w = wayF rs (k + j) x.1 := by
  obtain ⟨j, hj⟩ := List.getElem?_of_mem h
  have hlt : j < l.length := by rw [← waysG_map rs l k]; exact (List.getElem?_eq_some_iff.1 hj).1
  obtain ⟨x, hx⟩ := at_of hlt
  refine ⟨j, x, hx, ?_⟩
  rw [ways_at rs l k j x hx] at hj
  exact (Option.some.inj hj).symm
theorem foes_mem (r : Nat) (a : Rt) : ∀ (ys : List RtV) (k : Nat) (f : Int), f ∈ foesF r a ys k ↔ ∃ j y, ys[j]? = some y ∧ f = ((k + j : Nat) : Int) ∧ (decide (k + j ≠ r) && confB r (k + j) a y.1) = true
  | [], k, f => by simp [foesF]
  | y :: ys, k, f => by
    have ih := foes_mem r a ys (k + 1) f
    have key : (∃ j z, (y :: ys)[j]? = some z ∧ f = ((k + j : Nat) : Int) ∧ (decide (k + j ≠ r) && confB r (k + j) a z.1) = true) ↔ (f = (k : Int) ∧ (decide (k ≠ r) && confB r k a y.1) = true) ∨ ∃ j z, ys[j]? = some z ∧ f = ((k + 1 + j : Nat) : Int) ∧ (decide (k + 1 + j ≠ r) && confB r (k + 1 + j) a z.1) = true := by
      constructor
      · rintro ⟨j, z, h1, h2, h3⟩
        cases j with
        | zero =>
          obtain rfl : y = z := by simpa using h1
          exact .inl ⟨h2, h3⟩
        | succ j => exact .inr ⟨j, z, by simpa using h1, by rw [h2]; congr 1; omega, by rw [show k + 1 + j = k + (j + 1) by omega]; exact h3⟩
      · rintro (⟨h2, h3⟩ | ⟨j, z, h1, h2, h3⟩)
        · exact ⟨0, y, rfl, h2, h3⟩
        · exact ⟨j + 1, z, by simpa using h1, by rw [h2]; congr 1; omega, by rw [show k + (j + 1) = k + 1 + j by omega]; exact h3⟩
    rw [key, ← ih, foesF]
    split
    · rename_i hc
      rw [List.mem_cons]
      constructor
      · rintro (h | h)
        · exact .inl ⟨h, hc⟩
        · exact .inr h
      · rintro (h | h)
        · exact .inl h.1
        · exact .inr h
    · rename_i hc
      constructor
      · exact fun h => .inr h
      · rintro (h | h)
        · exact absurd h.2 hc
        · exact h
theorem foes_len (r : Nat) (a : Rt) : ∀ (ys : List RtV) (k : Nat), (foesF r a ys k).length ≤ ys.length
  | [], _ => by simp [foesF]
  | y :: ys, k => by
    have := foes_len r a ys (k + 1)
    rw [foesF, List.length_cons]
    split
    · rw [List.length_cons]; omega
    · omega
/-- What a layout that may be is. -/
structure LayOk (l : Lay) : Prop where
  sec : 1 ≤ l.sections.length ∧ l.sections.length ≤ 10
  sig : 1 ≤ l.signals.length ∧ l.signals.length ≤ 6
  pts : l.points.length ≤ 5
  rts : l.routes.length ≤ 6
  pt : ∀ x ∈ l.points, 0 ≤ x.2 ∧ x.2 < l.sections.length
  rt : ∀ r ∈ l.routes, (0 ≤ r.frm ∧ r.frm < l.signals.length) ∧ 1 ≤ r.path.length ∧ r.path.length ≤ 5 ∧ r.path.Nodup ∧ (∀ i ∈ r.path, 0 ≤ i ∧ i < l.sections.length) ∧ (∀ x ∈ r.points ++ r.flank, 0 ≤ x.1 ∧ x.1 < l.points.length)
theorem needs_in (l : Lay) (path : List Int) (b : Bool) : ∀ (ns : List (Int × Bool)) (pr : Option Int), needsF l path b pr ns = true → ∀ x ∈ ns, 0 ≤ x.1 ∧ x.1 < l.points.length
  | [], _, _ => by simp
  | y :: ns, pr, h => by
    rw [needsF, Bool.and_eq_true, needOk, Bool.and_eq_true] at h
    intro x hx
    rcases List.mem_cons.1 hx with rfl | hx
    · exact of_decide_eq_true h.1.1
    · exact needs_in l path b ns _ h.2 x hx
theorem LayOk.of {l : Lay} (h : isB l = true) : LayOk l := by
  rw [isB, Bool.and_eq_true, Bool.and_eq_true, Bool.and_eq_true] at h
  obtain ⟨h1, h2, _, h4⟩ := h
  have b := of_decide_eq_true h1
  refine ⟨⟨b.1, b.2.1⟩, ⟨b.2.2.1, b.2.2.2.1⟩, b.2.2.2.2.1, b.2.2.2.2.2, of_decide_eq_true h2, fun r hr => ?_⟩
  have h5 := List.all_eq_true.1 h4 r hr
  rw [routeB, Bool.and_eq_true, Bool.and_eq_true] at h5
  have hh := of_decide_eq_true h5.1
  have hp := of_decide_eq_true h5.2.1
  have hq := h5.2.2
  rw [restB, Bool.and_eq_true, Bool.and_eq_true] at hq
  refine ⟨hh.1, hh.2.2.2.1, hh.2.2.2.2, hp.1, hp.2, fun x hx => ?_⟩
  rcases List.mem_append.1 hx with hx | hx
  · exact needs_in l _ _ _ _ hq.2.1 x hx
  · exact needs_in l _ _ _ _ hq.2.2 x hx
theorem lkOk_new {l : Lay} {rs : List RtV} (hm : rs.map (·.1) = l.routes) (h : isB l = true) (hs : LaySmall l) : LkOk l.sections.length l.signals.length (l.points.map (·.2)) (waysG rs rs 0) (List.replicate rs.length idleS) := by
  have hk := LayOk.of h
  have hlr : rs.length ≤ 6 := by have := hk.rts; rw [← hm, List.length_map] at this; exact this
  have mem : ∀ {j : Nat} {x : RtV}, rs[j]? = some x → x.1 ∈ l.routes := fun hx => by rw [← hm]; exact List.mem_map.2 ⟨_, List.mem_of_getElem? hx, rfl⟩
  refine ⟨by rw [List.length_replicate, waysG_map], fun w hw => ?_, fun w hw f hf => ?_, fun p hp => ?_, fun k x s _ h2 => ?_, ?_⟩
  · obtain ⟨j, x, hx, rfl⟩ := ways_mem hw
    have hr := hk.rt _ (mem hx)
    have hsm := hs.r.2 _ (mem hx)
    refine ⟨hr.2.2.2.2.1, fun n hn => by rw [List.length_map]; exact hr.2.2.2.2.2 n hn, hr.1, hr.2.1, ?_⟩
    have hf := foes_len (0 + j) x.1 rs 0
    show x.1.path.length ≤ 1000000 ∧ (x.1.points ++ x.1.flank).length ≤ 1000000 ∧ (foesF (0 + j) x.1 rs 0).length ≤ 1000000
    rw [List.length_append]
    omega
  · obtain ⟨j, x, hx, rfl⟩ := ways_mem hw
    obtain ⟨i, y, hy, rfl, _⟩ := (foes_mem _ _ _ _ _).1 hf
    have := (List.getElem?_eq_some_iff.1 hy).1
    rw [waysG_map]
    omega
  · obtain ⟨x, hx, rfl⟩ := List.mem_map.1 hp
    exact hk.pt x hx
  · have := List.mem_replicate.1 (List.mem_of_getElem? h2)
    rw [this.2]
    exact mayBe_idle _
  · have := hk.sec
    have := hk.sig
    have := hk.pts
    rw [List.length_map, waysG_map]
    omega
/-- One route's state put in place. -/
theorem LkOk.put {ns ng : Nat} {pts : List Int} {ws : List Wy} {ss : List St} (h : LkOk ns ng pts ws ss) {k : Nat} {s : St} (hs : ∀ n, 0 < n → mayBeF s n = true) : LkOk ns ng pts ws (ss.set k s) := by
  refine ⟨by rw [List.length_set]; exact h.len, h.ways, h.foes, h.inn, fun j x t hx ht => ?_, h.few⟩
  rw [List.getElem?_set] at ht
  split at ht
  · split at ht
    · rw [← Option.some.inj ht]
      exact hs _ (h.ways x (List.mem_of_getElem? hx)).some_
    · cases ht
  · exact h.sts j x t hx ht
theorem LkOk.cmd {ns ng : Nat} {pts : List Int} {ws : List Wy} {ss : List St} (h : LkOk ns ng pts ws ss) (occ : List Bool) (lies : List Int) (kind r : Int) : LkOk ns ng pts ws (cmdF ns pts ws ss occ lies kind r).2 := by
  unfold cmdF
  split
  · exact h
  split
  · exact h
  split
  · split
    · unfold callF
      split
      · split
        · exact h
        · exact h.put fun n _ => by simp [mayBeF]
      · exact h
    · unfold cancelF
      split
      · exact h.put fun n _ => mayBe_idle n
      · split
        · exact h.put fun n _ => by simp [mayBeF]
        · exact h
  · exact h
theorem LkOk.cyc {ns ng : Nat} {pts : List Int} {ws : List Wy} {ss : List St} (h : LkOk ns ng pts ws ss) (occ : List Bool) (lies : List Int) : LkOk ns ng pts ws (cycF ns ng pts ws ss occ lies).1 := by
  unfold cycF
  split
  · exact stepAll_ok h
  · exact h

structure LkG (w0 W : World) (l : Lay) (rs : List RtV) (kb : Nat) (ss : List St) : Prop where
  ex : ∃ u ws, LkAt W w0.heap.size kb u l.sections.length l.signals.length (l.points.map (·.2)) ws ss ∧ ws.map (·.1) = waysG rs rs 0
  ok : LkOk l.sections.length l.signals.length (l.points.map (·.2)) (waysG rs rs 0) ss
  bl : Below w0.heap.size w0 W
theorem LkG.step {w0 W W' : World} {l : Lay} {rs : List RtV} {kb : Nat} {ss : List St} (h : LkG w0 W l rs kb ss) (hb : Below W.heap.size W W') : LkG w0 W' l rs kb ss := by
  obtain ⟨u, ws, h1, h2⟩ := h.ex
  exact ⟨⟨u, ws, h1.below hb, h2⟩, h.ok, h.bl.trans (hb.mono h.bl.size)⟩
def cmdG (l : Lay) (rs : List RtV) (ss : List St) (occ : List Bool) (lies : List Int) (kind r : Int) : Int × List St := cmdF l.sections.length (l.points.map (·.2)) (waysG rs rs 0) ss occ lies kind r
def cycG (l : Lay) (rs : List RtV) (ss : List St) (occ : List Bool) (lies : List Int) : List St × (List Int × List Bool) := cycF l.sections.length l.signals.length (l.points.map (·.2)) (waysG rs rs 0) ss occ lies

theorem new_g (w0 W : World) (v : Nat → Value) (l : Lay) (rs : List RtV) (h : LayRd W v l rs) (hm : IsMid l rs v) (hi : isB l = true) (hs : LaySmall l) (hb : Below w0.heap.size w0 W) :
    Calls Tryz.prog 8 #[.agg #[v 0, v 1, v 2, v 3]] W fun e w' => ∃ kb, e = .returned (.tuple #[.pointer (some ⟨kb, 0, none⟩), .int .i64 0]) ∧ LkG w0 w' l rs kb (List.replicate rs.length idleS) ∧ Below W.heap.size W w' := by
  have hlr : rs.length = l.routes.length := by rw [← h.m, List.length_map]
  have hr := hs.r
  refine (new_any v l rs W h hm hi ⟨?_, ?_⟩ fun y hy => ?_).mono ?_
  · have := (LayOk.of hi).rts; omega
  · have := (LayOk.of hi).pts; omega
  · have := hr.2 y.1 (by rw [← h.m]; exact List.mem_map.2 ⟨y, hy, rfl⟩)
    omega
  · rintro e w' ⟨kb, u, ws, rfl, h1, h2, h3⟩
    exact ⟨kb, rfl, ⟨⟨u, ws, h1.lower hb.size, h2⟩, lkOk_new h.m hi hs, hb.trans (h3.mono hb.size)⟩, h3⟩
theorem cmd_g (w0 W : World) (l : Lay) (rs : List RtV) (kb : Nat) (ss : List St) (v : Nat → Value) (occ : List Bool) (lies : List Int) (kind r : Int) (h : LkG w0 W l rs kb ss) (hin : InRd W v occ lies) (hl : lies.length ≤ 4294967296) :
    Calls Tryz.prog 9 #[.pointer (some ⟨kb, 0, none⟩), .agg #[v 0, v 1], .agg #[.int .i64 kind, .int .i64 r]] W fun e w' => e = .returned (.int .i64 (cmdG l rs ss occ lies kind r).1) ∧ LkG w0 w' l rs kb (cmdG l rs ss occ lies kind r).2 ∧ TC W w' := by
  obtain ⟨u, ws, h1, h2⟩ := h.ex
  refine (command_any w0.heap.size kb u _ _ _ ws ss v occ lies kind r W h1 (by rw [h2]; exact h.ok) hin hl).mono ?_
  rintro e w' ⟨rfl, h3, h4⟩
  rw [h2] at h3 ⊢
  exact ⟨rfl, ⟨⟨u, ws, h3, h2⟩, h.ok.cmd occ lies kind r, h.bl.trans (h4.below (fun k hk => (h1.foot hk).1) h.bl.size)⟩, h4.mono fun k _ hk => foot_ty h1 hk⟩
theorem cyc_g (w0 W : World) (l : Lay) (rs : List RtV) (kb : Nat) (ss : List St) (v : Nat → Value) (occ : List Bool) (lies : List Int) (h : LkG w0 W l rs kb ss) (hin : InNew W v occ lies) (hl : lies.length ≤ 4294967296) :
    Calls Tryz.prog 10 #[.pointer (some ⟨kb, 0, none⟩), .agg #[v 0, v 1]] W fun e w' => ∃ b1 b2, e = .returned (outV b1 b2 l.points.length l.signals.length) ∧ OutAt w' W.heap.size b1 b2 (cycG l rs ss occ lies).2.1 (cycG l rs ss occ lies).2.2 ∧ LkG w0 w' l rs kb (cycG l rs ss occ lies).1 ∧ TC W w' := by
  obtain ⟨u, ws, h1, h2⟩ := h.ex
  refine (cycle_any w0.heap.size kb u _ _ _ ws ss v occ lies W h1 (by rw [h2]; exact h.ok) (fun W' hW => hin W' (hW.mono fun k _ hk => foot_ty h1 hk)) hl).mono ?_
  rintro e w' ⟨b1, b2, rfl, ho, h3, h4⟩
  rw [h2] at h3 ho
  exact ⟨b1, b2, by rw [List.length_map], ho, ⟨⟨u, ws, h3, h2⟩, h.ok.cyc occ lies, h.bl.trans (h4.below (fun k hk => (h1.foot hk).1) h.bl.size)⟩, h4.mono fun k _ hk => foot_ty h1 hk⟩
theorem safe_g (w0 W : World) (l : Lay) (rs : List RtV) (kb : Nat) (ss : List St) (h : LkG w0 W l rs kb ss) :
    Calls Tryz.prog 14 #[.pointer (some ⟨kb, 0, none⟩)] W fun e w' => ∃ b1 b2, e = .returned (outV b1 b2 l.points.length l.signals.length) ∧ OutAt w' W.heap.size b1 b2 (List.replicate l.points.length 0) (List.replicate l.signals.length false) ∧ Below W.heap.size W w' := by
  obtain ⟨u, ws, h1, h2⟩ := h.ex
  have := safe_any kb u _ _ _ ws ss W h1.rd ⟨h.ok.few.2.1, h.ok.few.2.2.1⟩
  rw [List.length_map] at this
  exact this
theorem routes_g (w0 W : World) (l : Lay) (rs : List RtV) (kb : Nat) (ss : List St) (h : LkG w0 W l rs kb ss) :
    Calls Tryz.prog 11 #[.pointer (some ⟨kb, 0, none⟩)] W fun e w' => ∃ v, e = .returned v ∧ w'.ownsRow W.heap.size 80 4 v ss.length (ss.flatMap stC) ∧ Below W.heap.size W w' := by
  obtain ⟨u, ws, h1, h2⟩ := h.ex
  exact routes_any kb u _ _ _ ws ss W h1.rd (by have := h.ok.len; have := h.ok.few.2.2.2; omega)
end Go.Proofs.YtceebimgfajbcaaGreatDoor
