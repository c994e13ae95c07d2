/-
  Package lock: Cycle, by a contract.
-/
import Derived.Test.YtceebimgfajbcaaGreatDoorLkTell
namespace Go.Proofs.YtceebimgfajbcaaGreatDoor
open Go.RowKit

def stepAll (occ : List Bool) (lies : List Int) : List Wy → List St → List St
  | x :: xs, s :: ss => stepF s x occ lies :: stepAll occ lies xs ss
  | _, ss => ss
def tellAll (pts : List Int) (ws : List Wy) (ss : List St) (occ : List Bool) (lies : List Int) : List (Wy × St) → Nat → List Int × List Bool → List Int × List Bool
  | [], _, o => o
  | q :: qs, k, o => tellAll pts ws ss occ lies qs (k + 1) (tellF pts ws ss occ lies k q.1 q.2 o)
/-- A cycle: how all stand then, and what the field is told. -/
def cycF (ns ng : Nat) (pts : List Int) (ws : List Wy) (ss : List St) (occ : List Bool) (lies : List Int) : List St × (List Int × List Bool) :=
  if inB2 occ lies ns pts.length = true then (stepAll occ lies ws ss, tellAll pts ws (stepAll occ lies ws ss) occ lies (ws.zip (stepAll occ lies ws ss)) 0 (List.replicate pts.length 0, List.replicate ng false))
  else (ss, (List.replicate pts.length 0, List.replicate ng false))

theorem stepAll_len (occ : List Bool) (lies : List Int) : ∀ (ws : List Wy) (ss : List St), (stepAll occ lies ws ss).length = ss.length
  | [], ss => rfl
  | _ :: _, [] => rfl
  | _ :: ws, _ :: ss => by rw [stepAll, List.length_cons, stepAll_len occ lies ws ss, List.length_cons]
theorem stepAll_at {occ : List Bool} {lies : List Int} : ∀ {ws : List Wy} {ss : List St} {k : Nat} {x : Wy} {s : St}, ws[k]? = some x → ss[k]? = some s → (stepAll occ lies ws ss)[k]? = some (stepF s x occ lies)
  | [], _, _, _, _, h, _ => by simp at h
  | _ :: _, [], _, _, _, _, h => by simp at h
  | _ :: ws, _ :: ss, 0, _, _, h1, h2 => by simp at h1 h2; subst h1 h2; rfl
  | _ :: ws, _ :: ss, k + 1, _, _, h1, h2 => by
    rw [stepAll, List.getElem?_cons_succ]
    exact stepAll_at (by simpa using h1) (by simpa using h2)
def curF (occ : List Bool) (lies : List Int) (ws : List Wy) (ss : List St) (j : Nat) : List St := (stepAll occ lies ws ss).take j ++ ss.drop j
theorem curF_len (occ : List Bool) (lies : List Int) (ws : List Wy) (ss : List St) (j : Nat) (hj : j ≤ ss.length) : (curF occ lies ws ss j).length = ss.length := by
  rw [curF, List.length_append, List.length_take, stepAll_len, List.length_drop]
  omega
theorem curF_at {occ : List Bool} {lies : List Int} {ws : List Wy} {ss : List St} {j : Nat} {s : St} (h : ss[j]? = some s) : (curF occ lies ws ss j)[j]? = some s := by
  have hl := (List.getElem?_eq_some_iff.1 h).1
  rw [curF, List.getElem?_append_right (by rw [List.length_take, stepAll_len]; omega), List.length_take, stepAll_len, Nat.min_eq_left (by omega), Nat.sub_self, List.getElem?_drop, Nat.add_zero, h]
theorem curF_set {occ : List Bool} {lies : List Int} {ws : List Wy} {ss : List St} {j : Nat} {x : Wy} {s : St} (hx : ws[j]? = some x) (h : ss[j]? = some s) : (curF occ lies ws ss j).set j (stepF s x occ lies) = curF occ lies ws ss (j + 1) := by
  have hl := (List.getElem?_eq_some_iff.1 h).1
  have h2 := stepAll_at (occ := occ) (lies := lies) hx h
  rw [curF, curF, List.set_append_right _ _ (by rw [List.length_take, stepAll_len]; omega), List.length_take, stepAll_len, Nat.min_eq_left (by omega), Nat.sub_self, drop_at h, List.set_cons_zero, List.take_add_one, h2]
  simp
theorem stepAll_ok {ns ng : Nat} {pts : List Int} {ws : List Wy} {ss : List St} {occ : List Bool} {lies : List Int} (h : LkOk ns ng pts ws ss) : LkOk ns ng pts ws (stepAll occ lies ws ss) := by
  refine ⟨by rw [stepAll_len]; exact h.len, h.ways, h.foes, h.inn, fun k x s hx hs => ?_, h.few⟩
  have hk := (List.getElem?_eq_some_iff.1 hx).1
  obtain ⟨s0, hs0⟩ : ∃ s0, ss[k]? = some s0 := at_of (by rw [h.len]; exact hk)
  rw [stepAll_at hx hs0] at hs
  injection hs with hs
  subst hs
  exact mayBe_step (h.sts k x s0 hx hs0) (h.ways x (List.mem_of_getElem? hx)).some_

theorem lkFoot_mono {kb : Nat} {v : Value} {ss ss' : List St} (h : ss'.length = ss.length) {k : Nat} (hk : lkFoot kb v ss' k) : lkFoot kb v ss k := by
  rcases hk with hk | ⟨hn, hk⟩
  · exact .inl hk
  · refine .inr ⟨fun e => hn ?_, hk⟩
    rw [e] at h
    exact List.eq_nil_of_length_eq_zero h
theorem OutAt.chg {S : Nat → Prop} {W W' : World} {B b1 b2 : Nat} {dr : List Int} {pr : List Bool} (h : OutAt W B b1 b2 dr pr) (hc : Chg S W W') (h1 : ¬ S b1) (h2 : ¬ S b2) : OutAt W' B b1 b2 dr pr := ⟨hc.blk h.h1 h1, hc.blk h.h2 h2, h.base, h.ne⟩
theorem OutAt.mono {W : World} {B B' b1 b2 : Nat} {dr : List Int} {pr : List Bool} (h : OutAt W B b1 b2 dr pr) (hB : B' ≤ B) : OutAt W B' b1 b2 dr pr := ⟨h.h1, h.h2, ⟨by have := h.base.1; omega, by have := h.base.2; omega⟩, h.ne⟩

theorem LkAt.over {w W W' : World} {B kb : Nat} {u : Nat → Value} {ns ng : Nat} {pts : List Int} {ws : List WyV} {ss0 ss : List St} (h0 : LkAt w B kb u ns ng pts ws ss0) (h : LkAt W B kb u ns ng pts ws ss) (hl : ss.length = ss0.length) (hc : Chg (lkFoot kb (u 2) ss0) w W) (hs : W.heap.size ≤ W'.heap.size) (hW : ∀ k, k < w.heap.size → W'.heap[k]? = W.heap[k]?) : LkAt W' B kb u ns ng pts ws ss := by
  refine ⟨(hW kb h0.lt).trans h.blk, h.base, ?_, fun W'' hW'' => h0.inn W'' fun k hk hcl => ?_⟩
  · rcases h.st with ho | he
    · by_cases hne : ss = []
      · rcases ho.2 with ⟨e, hn⟩ | ⟨g, cap, cur, e, _⟩
        · exact .inr ⟨hne, _, _, e⟩
        · exact .inr ⟨hne, _, _, by rw [e, hne]; rfl⟩
      · have hne0 : ss0 ≠ [] := fun e => hne (by rw [e] at hl; exact List.eq_nil_of_length_eq_zero hl)
        exact .inl (owns_keep ho fun k e => hW k (h0.foot (.inr ⟨hne0, e⟩)).2.1)
    · exact .inr he
  · have h1 : W'.heap[k]? = w.heap[k]? := (hW k hk).trans (hc.block k hk fun hf => (h0.foot hf).2.2 hcl)
    obtain ⟨c, t, z, hb, ht⟩ := hcl
    exact (hW'' k (Nat.lt_of_lt_of_le (Nat.lt_of_lt_of_le hk hc.size) hs) ⟨c, t, z, h1.trans hb, ht⟩).trans h1

theorem cyc_end {w W : World} {B kb : Nat} {u : Nat → Value} {ns ng : Nat} {pts : List Int} {ws : List WyV} {ss0 ss : List St} {b1 b2 q : Nat} {d : List Int} {p : List Bool} (h0 : LkAt w B kb u ns ng pts ws ss0) (h : LkAt W B kb u ns ng pts ws ss) (hl : ss.length = ss0.length) (hc : Chg (lkFoot kb (u 2) ss0) w W) (ho : OutAt W w.heap.size b1 b2 d p) (hq : w.heap.size ≤ q ∧ b1 ≠ q ∧ b2 ≠ q) (a0 a1 : Value) :
    OutAt ((W.setCell ⟨q, 0, none⟩ a0).setCell ⟨q, 1, none⟩ a1) w.heap.size b1 b2 d p ∧ LkAt ((W.setCell ⟨q, 0, none⟩ a0).setCell ⟨q, 1, none⟩ a1) B kb u ns ng pts ws ss ∧ Chg (lkFoot kb (u 2) ss0) w ((W.setCell ⟨q, 0, none⟩ a0).setCell ⟨q, 1, none⟩ a1) := by
  have hoth : ∀ k, k ≠ q → ((W.setCell ⟨q, 0, none⟩ a0).setCell ⟨q, 1, none⟩ a1).heap[k]? = W.heap[k]? := fun k hk => by
    rw [Below.heap_setCell _ _ _ _ (by exact hk), Below.heap_setCell _ _ _ _ (by exact hk)]
  have hsz : ((W.setCell ⟨q, 0, none⟩ a0).setCell ⟨q, 1, none⟩ a1).heap.size = W.heap.size := by simp [World.setCell]
  refine ⟨⟨(hoth _ hq.2.1).trans ho.h1, (hoth _ hq.2.2).trans ho.h2, ho.base, ho.ne⟩, h0.over h hl hc (by omega) fun k hk => hoth k (by omega), ⟨hc.os, hc.tape, hc.output, by rw [hsz]; exact hc.size, fun k hk hf => (hoth k (by omega)).trans (hc.block k hk hf)⟩⟩

set_option maxRecDepth 1000000 in
set_option maxHeartbeats 16000000 in
theorem cycle_any (B kb : Nat) (u : Nat → Value) (ns ng : Nat) (pts : List Int) (ws : List WyV) (ss : List St) (v : Nat → Value) (occ : List Bool) (lies : List Int) (w : World) (h : LkAt w B kb u ns ng pts ws ss) (hok : LkOk ns ng pts (ws.map (·.1)) ss) (hin : ∀ W, Chg (lkFoot kb (u 2) ss) w W → InRd W v occ lies) (hl : lies.length ≤ 4294967296) :
    Calls Tryz.prog 10 #[.pointer (some ⟨kb, 0, none⟩), .agg #[v 0, v 1]] w fun e w' => ∃ b1 b2, e = .returned (outV b1 b2 pts.length ng) ∧ OutAt w' w.heap.size b1 b2 (cycF ns ng pts (ws.map (·.1)) ss occ lies).2.1 (cycF ns ng pts (ws.map (·.1)) ss occ lies).2.2 ∧ LkAt w' B kb u ns ng pts ws (cycF ns ng pts (ws.map (·.1)) ss occ lies).1 ∧ Chg (lkFoot kb (u 2) ss) w w' := by
  have hr := h.rd
  have hfew := hok.few
  have hlen := hok.len
  have hin0 := hin w (Chg.refl _ _)
  rw [List.length_map] at hlen hfew
  have HF : Hid (cycF ns ng pts (ws.map (·.1)) ss occ lies = if inB2 occ lies ns pts.length = true then (stepAll occ lies (ws.map (·.1)) ss, tellAll pts (ws.map (·.1)) (stepAll occ lies (ws.map (·.1)) ss) occ lies ((ws.map (·.1)).zip (stepAll occ lies (ws.map (·.1)) ss)) 0 (List.replicate pts.length 0, List.replicate ng false))
      else (ss, (List.replicate pts.length 0, List.replicate ng false))) := rfl
  generalize cycF ns ng pts (ws.map (·.1)) ss occ lies = ans at *
  have HAT : Hid (LkAt w B kb u ns ng pts ws ss) := h
  have HOK : Hid (LkOk ns ng pts (ws.map (·.1)) ss) := hok
  have HIN : Hid (∀ W, Chg (lkFoot kb (u 2) ss) w W → InRd W v occ lies) := hin
  have SA : Hid (∀ W, Below w.heap.size w W → Calls Tryz.prog 14 #[.pointer (some ⟨kb, 0, none⟩)] W fun e w' => ∃ b1 b2, e = .returned (outV b1 b2 pts.length ng) ∧ OutAt w' W.heap.size b1 b2 (List.replicate pts.length 0) (List.replicate ng false) ∧ Below W.heap.size W w') := fun W hW => safe_any kb u ns ng pts ws ss W (hr.below hW) ⟨hfew.2.1, hfew.2.2.1⟩
  have MI : Hid (∀ W, Below w.heap.size w W → Calls Tryz.prog 27 #[.pointer (some ⟨kb, 0, none⟩), .agg #[v 0, v 1]] W fun e w' => e = .returned (.bool (inB2 occ lies ns pts.length)) ∧ Below W.heap.size W w') := fun W hW => mayIn_any kb u ns ng pts ws ss v occ lies W (hr.below hW) (hin0.below hW) hl
  have NF : Hid (∀ k, lkFoot kb (u 2) ss k → k < w.heap.size) := fun k hk => (h.foot hk).2.1
  have ST : Hid (inB2 occ lies ns pts.length = true → ∀ (k : Nat) (x : WyV) (m t g : Int) (b : Bool), ws[k]? = some x → ss[k]? = some (m, t, g, b) → ∀ W, Chg (lkFoot kb (u 2) ss) w W → WyAt W x → Calls Tryz.prog 31 #[.agg #[.int .i64 m, .int .i64 t, .int .i64 g, .bool b], .agg #[.int .i64 x.1.frm, x.2.1, x.2.2.1, x.2.2.2], .agg #[v 0, v 1]] W fun e w' => e = .returned (stV (stepF (m, t, g, b) x.1 occ lies)) ∧ Below W.heap.size W w') := fun hI k x m t g b hx hs W hW hxa => by
    unfold inB2 at hI
    simp only [Bool.and_eq_true, decide_eq_true_eq] at hI
    have e1 : occ.length = ns := by omega
    have e2 : lies.length = pts.length := by omega
    have hx' : (ws.map (·.1))[k]? = some x.1 := by rw [List.getElem?_map, hx]; rfl
    exact step_any v occ lies ng x m t g b W (HIN.out W hW) hxa (by rw [e1, e2]; exact hok.ways x.1 (List.mem_of_getElem? hx')) (hok.sts k x.1 _ hx' hs)
  have TE : Hid (inB2 occ lies ns pts.length = true → ∀ (k : Nat) (x : WyV) (s : St) (b1 b2 : Nat) (dr : List Int) (pr : List Bool) (W : World), ws[k]? = some x → (stepAll occ lies (ws.map (·.1)) ss)[k]? = some s →
      LkAt W B kb u ns ng pts ws (stepAll occ lies (ws.map (·.1)) ss) → Chg (lkFoot kb (u 2) ss) w W → OutAt W w.heap.size b1 b2 dr pr → dr.length = pts.length → pr.length = ng →
      Calls Tryz.prog 32 #[.pointer (some ⟨kb, 0, none⟩), .agg #[v 0, v 1], .int .i64 k, outV b1 b2 pts.length ng] W fun e w' => e = .returned (.tuple #[]) ∧ OutAt w' w.heap.size b1 b2 (tellF pts (ws.map (·.1)) (stepAll occ lies (ws.map (·.1)) ss) occ lies k x.1 s (dr, pr)).1 (tellF pts (ws.map (·.1)) (stepAll occ lies (ws.map (·.1)) ss) occ lies k x.1 s (dr, pr)).2 ∧ LkAt w' B kb u ns ng pts ws (stepAll occ lies (ws.map (·.1)) ss) ∧ Chg (lkFoot kb (u 2) ss) w w' ∧ Chg (outFoot b1 b2) W w') := fun hI k x s b1 b2 dr pr W hx hs hat hcg hoa hdr hpr => by
    unfold inB2 at hI
    simp only [Bool.and_eq_true, decide_eq_true_eq] at hI
    have e1 : occ.length = ns := by omega
    have e2 : lies.length = pts.length := by omega
    subst e1
    have far : ∀ W', Chg (outFoot b1 b2) W W' → ∀ k, k < w.heap.size → W'.heap[k]? = W.heap[k]? := fun W' hc k hk => hc.block k (Nat.lt_of_lt_of_le hk hcg.size) fun hf => by
      have := hoa.base
      rcases hf with rfl | rfl <;> omega
    have fard : ∀ W', Chg (outFoot b1 b2) W W' → Chg (lkFoot kb (u 2) ss) w W' := fun W' hc => ⟨hc.os.trans hcg.os, hc.tape.trans hcg.tape, hc.output.trans hcg.output, Nat.le_trans hcg.size hc.size, fun k hk hf => (far W' hc k hk).trans (hcg.block k hk hf)⟩
    have lk : ∀ W', Chg (outFoot b1 b2) W W' → LkAt W' B kb u occ.length ng pts ws (stepAll occ lies (ws.map (·.1)) ss) := fun W' hc => HAT.out.over hat (stepAll_len _ _ _ _) hcg hc.size (far W' hc)
    refine (tell_any kb u ng pts ws (stepAll occ lies (ws.map (·.1)) ss) v occ lies k x s W w.heap.size b1 b2 dr pr (fun W' hc => ⟨(lk W' hc).rd, HIN.out W' (fard W' hc)⟩) (stepAll_ok HOK.out) e2 hx hs hoa hdr hpr).mono ?_
    rintro e w' ⟨rfl, h1, h2⟩
    exact ⟨rfl, h1, lk w' h2, fard w' h2, h2⟩
  have HAX : Hid (∀ k, k < ws.length → ∃ x s, ws[k]? = some x ∧ ss[k]? = some s) := fun k hk => by
    obtain ⟨x, s, h1, h2, _⟩ := hok.at_ hk
    exact ⟨x, s, h1, h2⟩
  have h3 := hr.c3
  have h4 := hr.c4
  obtain ⟨o1, c1, e1, _⟩ := hr.w
  rw [e1] at h3
  obtain ⟨o3, c3, e3, _⟩ := hin0.o
  obtain ⟨o4, c4, e4, _⟩ := hin0.l
  rw [e3, e4] at MI ST TE ⊢
  have HU1 : Hid (u 1 = .slice o1 ws.length c1) := e1
  have hnb : ws.length ≤ 1000 := hfew.2.2.2
  have HLN : Hid (ss.length = ws.length) := hlen
  clear h hr hok hin hin0 hl hfew hlen e1 e3 e4
  generalize hib : inB2 occ lies ns pts.length = iB at *
  clear hib
  generalize occ.length = n3 at *
  generalize lies.length = n4 at *
  generalize hnw : ws.length = n1 at *
  have HNW : Hid (ws.length = n1) := hnw
  clear hnw
  generalize hch : (w.alloc (.cells #[.slice o3 n3 c3, .slice o4 n4 c4] 38)).alloc (.cells #[.slice none 0 0, .slice none 0 0] 46) = w1
  have HB1 : Hid (Below w.heap.size w w1) := by show Below _ _ _; rw [← hch]; exact (by repeat' (with_reducible first | exact Below.refl _ _ | refine Below.drew ?_ | refine _root_.Go.below_drewN ?_ _ | refine Below.alloc ?_ ?_ _ | refine Below.setCell ?_ ?_ _ | exact Nat.le_refl _ | (simp; done) | (simp; omega)))
  have H0 : Hid (w1.heap[w.heap.size]? = some (.cells #[.slice o3 n3 c3, .slice o4 n4 c4] 38 (0, 0))) := by show _ = _; rw [← hch]; exact blk_old (blk_new _ _)
  have H1 : Hid (w1.heap[w.heap.size + 1]? = some (.cells #[.slice none 0 0, .slice none 0 0] 46 (0, 0))) := by show _ = _; rw [← hch]; exact blk_at1 _ _ _
  go_enter Tryz.func10, Tryz.ntmps10
  go_wp2_with fail
  clear hch
  refine (SA.out w1 HB1.out).mono ?_
  rintro e w2 ⟨b1, b2, he, hoa, hb2⟩
  unfold outV at he
  subst he
  have HB2 : Hid (Below w.heap.size w w2) := HB1.out.trans (hb2.mono HB1.out.size)
  have H02 : Hid (w2.heap[w.heap.size]? = some (.cells #[.slice o3 n3 c3, .slice o4 n4 c4] 38 (0, 0))) := blk_below hb2 H0.out
  have H12 : Hid (w2.heap[w.heap.size + 1]? = some (.cells #[.slice none 0 0, .slice none 0 0] 46 (0, 0))) := blk_below hb2 H1.out
  have HBQ : Hid (w.heap.size + 1 < b1 ∧ w.heap.size + 1 < b2) := by have := hoa.base; have := (Array.getElem?_eq_some_iff.1 H1.out).1; exact ⟨by omega, by omega⟩
  have HOA : Hid (OutAt w2 w.heap.size b1 b2 (List.replicate pts.length 0) (List.replicate ng false)) := hoa.mono HB1.out.size
  clear hoa hb2 SA H0 H1
  generalize hch : w2.alloc (.cells #[.slice (some ⟨b1, 0, none⟩) pts.length pts.length, .slice (some ⟨b2, 0, none⟩) ng ng] 46) = w3
  have HB23 : Hid (Below w2.heap.size w2 w3) := by show Below _ _ _; rw [← hch]; exact (Below.refl _ _).alloc (Nat.le_refl _) _
  have H23 : Hid (w3.heap[w2.heap.size]? = some (.cells #[.slice (some ⟨b1, 0, none⟩) pts.length pts.length, .slice (some ⟨b2, 0, none⟩) ng ng] 46 (0, 0))) := by show _ = _; rw [← hch]; exact blk_new _ _
  have HB3 : Hid (Below w.heap.size w w3) := HB2.out.trans (HB23.out.mono HB2.out.size)
  obtain ⟨x0, x1⟩ := cells2 (blk_below HB23.out H02.out)
  go_wp2_with fail
  clear hch x0 x1
  refine (MI.out w3 HB3.out).mono ?_
  rintro e w4 ⟨rfl, hb4⟩
  have HB4 : Hid (Below w.heap.size w w4) := HB3.out.trans (hb4.mono HB3.out.size)
  have HB24 : Hid (Below w2.heap.size w2 w4) := HB23.out.trans (hb4.mono HB23.out.size)
  have H04 : Hid (w4.heap[w.heap.size]? = some (.cells #[.slice o3 n3 c3, .slice o4 n4 c4] 38 (0, 0))) := blk_below HB24.out H02.out
  have H14 : Hid (w4.heap[w.heap.size + 1]? = some (.cells #[.slice none 0 0, .slice none 0 0] 46 (0, 0))) := blk_below HB24.out H12.out
  have H24 : Hid (w4.heap[w2.heap.size]? = some (.cells #[.slice (some ⟨b1, 0, none⟩) pts.length pts.length, .slice (some ⟨b2, 0, none⟩) ng ng] 46 (0, 0))) := blk_below hb4 H23.out
  have HSZ : Hid (w.heap.size + 1 < w2.heap.size) := (Array.getElem?_eq_some_iff.1 H12.out).1
  clear hb4 MI H02 H12 H23 HB23
  obtain ⟨x2, x3⟩ := cells2 H24.out
  obtain ⟨x4, x5⟩ := cells2 H14.out
  have x6 := froz2 H14.out 0
  have x7 := froz2 H14.out 1
  cases iB
  · have HA : Hid (ans = (ss, (List.replicate pts.length 0, List.replicate ng false))) := by show _ = _; rw [HF.out]; rfl
    go_wp2
    refine bodyPost_ret (v := outV b1 b2 pts.length ng) (by simp [results, Tryz.results10, go_sem, outV, x4, x5]) rfl ⟨b1, b2, rfl, ?_⟩
    rw [HA.out]
    have hq := HBQ.out
    exact cyc_end HAT.out (HAT.out.below HB4.out) rfl (Chg.of_below HB4.out) (HOA.out.below HB24.out) ⟨by omega, by omega, by omega⟩ _ _
  have HF1 : Hid (ans = (stepAll occ lies (ws.map (·.1)) ss, tellAll pts (ws.map (·.1)) (stepAll occ lies (ws.map (·.1)) ss) occ lies ((ws.map (·.1)).zip (stepAll occ lies (ws.map (·.1)) ss)) 0 (List.replicate pts.length 0, List.replicate ng false))) := by show _ = _; rw [HF.out]; rfl
  have TE1 := TE.out rfl
  have ST1 := ST.out rfl
  have HTE : Hid (∀ (k : Nat) (x : WyV) (s : St) (b1 b2 : Nat) (dr : List Int) (pr : List Bool) (W : World), ws[k]? = some x → (stepAll occ lies (ws.map (·.1)) ss)[k]? = some s →
      LkAt W B kb u ns ng pts ws (stepAll occ lies (ws.map (·.1)) ss) → Chg (lkFoot kb (u 2) ss) w W → OutAt W w.heap.size b1 b2 dr pr → dr.length = pts.length → pr.length = ng →
      Calls Tryz.prog 32 #[.pointer (some ⟨kb, 0, none⟩), .agg #[.slice o3 n3 c3, .slice o4 n4 c4], .int .i64 k, outV b1 b2 pts.length ng] W fun e w' => e = .returned (.tuple #[]) ∧ OutAt w' w.heap.size b1 b2 (tellF pts (ws.map (·.1)) (stepAll occ lies (ws.map (·.1)) ss) occ lies k x.1 s (dr, pr)).1 (tellF pts (ws.map (·.1)) (stepAll occ lies (ws.map (·.1)) ss) occ lies k x.1 s (dr, pr)).2 ∧ LkAt w' B kb u ns ng pts ws (stepAll occ lies (ws.map (·.1)) ss) ∧ Chg (lkFoot kb (u 2) ss) w w' ∧ Chg (outFoot b1 b2) W w') := TE1
  have HST : Hid (∀ (k : Nat) (x : WyV) (m t g : Int) (b : Bool), ws[k]? = some x → ss[k]? = some (m, t, g, b) → ∀ W, Chg (lkFoot kb (u 2) ss) w W → WyAt W x → Calls Tryz.prog 31 #[.agg #[.int .i64 m, .int .i64 t, .int .i64 g, .bool b], .agg #[.int .i64 x.1.frm, x.2.1, x.2.2.1, x.2.2.2], .agg #[.slice o3 n3 c3, .slice o4 n4 c4]] W fun e w' => e = .returned (stV (stepF (m, t, g, b) x.1 occ lies)) ∧ Below W.heap.size W w') := ST1
  clear TE TE1 ST ST1 HF
  have y3 := up_cell HB4.out h3
  go_wp2
  clear x2 x3 x4 x5 x6 x7 y3 h3 h4
  go_loopg [6, 7, 25] n1 (fun gk a b i wr => ∃ j : Nat, gk = n1 - j ∧ i = .int .i64 j ∧ j ≤ n1 ∧ LkAt wr B kb u ns ng pts ws (curF occ lies (ws.map (·.1)) ss j) ∧ Chg (lkFoot kb (u 2) ss) w4 wr)
  case atStart => exact ⟨0, rfl, rfl, by omega, by rw [curF, List.take_zero, List.nil_append, List.drop_zero]; exact HAT.out.below HB4.out, Chg.refl _ _⟩
  case round =>
    obtain ⟨j, rfl, rfl, hj, hat, hcg⟩ := hrel
    have HATR : Hid (LkAt wr B kb u ns ng pts ws (curF occ lies (ws.map (·.1)) ss j)) := hat
    have HCG : Hid (Chg (lkFoot kb (u 2) ss) w4 wr) := hcg
    have HCW : Hid (Chg (lkFoot kb (u 2) ss) w wr) := (Chg.of_below HB4.out).trans hcg
    have nb : ∀ i, w.heap.size ≤ i → ¬ lkFoot kb (u 2) ss i := fun i hi hf => by have := NF.out i hf; omega
    have HG0 : Hid (wr.heap[w.heap.size]? = some (.cells #[.slice o3 n3 c3, .slice o4 n4 c4] 38 (0, 0))) := hcg.blk H04.out (nb _ (by omega))
    clear hat hcg
    by_cases hlt : j < n1
    · obtain ⟨x, s, hx, hs⟩ := HAX.out j hlt
      have hx' : (ws.map (·.1))[j]? = some x.1 := by rw [List.getElem?_map, hx]; rfl
      have HX : Hid (ws[j]? = some x) := hx
      have HS : Hid (ss[j]? = some s) := hs
      have hrd := HATR.out.rd
      have hcu : (curF occ lies (ws.map (·.1)) ss j)[j]? = some s := curF_at hs
      have hcl : (curF occ lies (ws.map (·.1)) ss j).length = ss.length := curF_len _ _ _ _ _ (by rw [HLN.out]; omega)
      have HCL : Hid ((curF occ lies (ws.map (·.1)) ss j).length = ss.length) := hcl
      have HFM : Hid (∀ k, lkFoot kb (u 2) (curF occ lies (ws.map (·.1)) ss j) k → lkFoot kb (u 2) ss k) := fun k hk => lkFoot_mono hcl hk
      have HSET : Hid ((curF occ lies (ws.map (·.1)) ss j).set j (stepF s x.1 occ lies) = curF occ lies (ws.map (·.1)) ss (j + 1)) := curF_set hx' hs
      have hxat := hrd.x x (List.mem_of_getElem? hx)
      have hw := hrd.w
      rw [HU1.out] at hw
      have hw' := hw
      obtain ⟨o1', c1', e1', q1⟩ := hw'
      rw [HNW.out] at e1'
      injection e1' with e11 e12 e13
      subst e11 e13
      have hwn : rowAt wr (.slice o1 n1 c1) 4 wyC ws := hw
      obtain ⟨g1, f1, rfl, a0, a1, a2, a3⟩ := row_way hwn j x hx
      obtain ⟨sb, cap, e5, _, _⟩ := HATR.out.put (k := j) (by rw [hcl, HLN.out]; exact hlt) s
      have hss := hrd.s
      rw [e5] at hss
      obtain ⟨g5, f5, e6, b0, b1', b2', b3'⟩ := row_st hss j s hcu
      injection e6 with e6
      injection e6 with e61 e62
      subst e61 e62
      have k4 := hrd.c4
      rw [e5, hcl] at k4
      have HU2 : Hid (u 2 = .slice (some ⟨sb, 0, none⟩) ss.length cap) := by show _ = _; rw [← hcl]; exact e5
      obtain ⟨p2, d2, e7, _⟩ := hxat.path
      obtain ⟨p6, d6, e8, _⟩ := hxat.needs
      obtain ⟨p7, d7, e9, _⟩ := hxat.foes
      rw [Nat.zero_add] at b0 b1' b2' b3'
      obtain ⟨m, t, g, b⟩ := s
      have STX := HST.out j x m t g b hx hs
      rw [e7] at a1 STX
      rw [e8] at a2 STX
      rw [e9] at a3 STX
      have HWX : Hid (∀ W, Below wr.heap.size wr W → WyAt W x) := fun W hW => hxat.below hW
      have hji : (j : Int) < (n1 : Int) := by omega
      have hjs : (j : Int) < (ss.length : Int) := by have := HLN.out; omega
      have HSTX : Hid (∀ W, Chg (lkFoot kb (u 2) ss) w W → WyAt W x → Calls Tryz.prog 31 #[.agg #[.int .i64 m, .int .i64 t, .int .i64 g, .bool b], .agg #[.int .i64 x.1.frm, .slice p2 x.1.path.length d2, .slice p6 x.1.needs.length d6, .slice p7 x.1.foes.length d7], .agg #[.slice o3 n3 c3, .slice o4 n4 c4]] W fun e w' => e = .returned (stV (stepF (m, t, g, b) x.1 occ lies)) ∧ Below W.heap.size W w') := STX
      simp only at b0 b1' b2' b3'
      clear STX hx hs hx' hrd hcu hcl hxat hw q1 hwn hss e5 e7 e8 e9 e12
      generalize x.1.path.length = l2 at *
      generalize x.1.needs.length = l6 at *
      generalize x.1.foes.length = l7 at *
      generalize x.1.frm = fr at *
      generalize hls : ss.length = nss at *
      clear hls
      generalize hch : wr.alloc (.cells #[.int .i64 fr, .slice p2 l2 d2, .slice p6 l6 d6, .slice p7 l7 d7] 74) = wa
      have HBA : Hid (Below wr.heap.size wr wa) := by show Below _ _ _; rw [← hch]; exact (Below.refl _ _).alloc (Nat.le_refl _) _
      obtain ⟨⟨r0, r1, r2, r3⟩, _⟩ := cells4 (show wa.heap[wr.heap.size]? = some (.cells #[.int .i64 fr, .slice p2 l2 d2, .slice p6 l6 d6, .slice p7 l7 d7] 74 (0, 0)) by rw [← hch]; exact blk_new _ _)
      obtain ⟨r4, r5⟩ := cells2 (blk_below HBA.out HG0.out)
      have r6 := up_cell HBA.out k4
      have r7 := up_cell HBA.out b0
      have r8 := up_cell HBA.out b1'
      have r9 := up_cell HBA.out b2'
      have ra := up_cell HBA.out b3'
      go_wp2_with fail
      clear k4 b0 b1' b2' b3' a0 a1 a2 a3 hch
      have f0 := ext_cell r0
      have f1' := ext_cell r1
      have f2 := ext_cell r2
      have f3 := ext_cell r3
      have f4 := ext_cell r4
      have f5 := ext_cell r5
      have f6 := ext_cell r6
      have f7 := ext_cell r7
      have f8 := ext_cell r8
      have f9 := ext_cell r9
      have fa := ext_cell ra
      haveI := ext_some wa
      have HB5 : Hid (Below wa.heap.size wa wa.drew) := (Below.refl _ _).drew
      clear r0 r1 r2 r3 r4 r5 r6 r7 r8 r9 ra
      refine wp_region_last (C := fun W => ∃ y : Ext wa, W = y.z) [0, 1, 2, 3, 4, 5, 6, 7, 8, 9, 10, 11, 12, 13, 14] [15, 16] (by kernel_rfl) (by kernel_rfl) (by kernel_rfl) (by kernel_rfl) (by simp only [List.filterMap_cons, List.getElem?_toArray, List.getElem?_cons_zero, List.getElem?_cons_succ, List.filterMap_nil]; rfl) (by simp only [List.filterMap_cons, List.getElem?_toArray, List.getElem?_cons_zero, List.getElem?_cons_succ, List.filterMap_nil]; rfl) ⟨⟨_, (Below.refl _ _).drew⟩, rfl⟩ ?_
      (repeat (first | (with_reducible refine mix_read (by kernel_rfl) ?_; go_big_quiet_want; go_big_quiet_op; go_big_quiet_on; with_reducible refine wpQuiet_nil ?_) | (with_reducible refine mix_pass (by kernel_rfl) ?_; go_big_quiet_skip; with_reducible refine wpQuiet_nil ?_)))
      with_reducible refine mix_call (by kernel_rfl) (by kernel_rfl) ((HSTX.out _ (HCW.out.trans (Chg.of_below (HBA.out.trans (HB5.out.mono HBA.out.size)))) (HWX.out _ (HBA.out.trans (HB5.out.mono HBA.out.size)))).mono ?_) (by kernel_rfl)
      rintro e w5 ⟨he, hb5⟩
      have HB6 : Hid (Below wa.heap.size wa w5) := HB5.out.trans (hb5.mono HB5.out.size)
      clear hb5
      generalize stepF (m, t, g, b) x.1 occ lies = sn at *
      obtain ⟨nm, nt, ng', nb'⟩ := sn
      simp only [stV] at he
      subst he
      refine ⟨_, rfl, ⟨⟨_, HB6.out⟩, rfl⟩, ?_⟩
      simp only [Act.put, List.setIfInBounds_toArray, List.set_cons_zero, List.set_cons_succ]
      with_reducible refine mix_end ?_
      have HB7 : Hid (Below wr.heap.size wr w5) := HBA.out.trans (HB6.out.mono HBA.out.size)
      clear f0 f1' f2 f3 f4 f5 f6 f7 f8 f9 fa
      obtain ⟨sb', cap', e5, hcl, hat, hch⟩ := (HATR.out.below HB7.out).put (k := j) (by rw [HCL.out]; omega) (nm, nt, ng', nb')
      rw [HU2.out] at e5
      injection e5 with e51 e52 e53
      injection e51 with e51
      injection e51 with e51
      subst e51
      obtain ⟨⟨d0, i0⟩, j0⟩ := hcl 0 (by omega)
      obtain ⟨⟨d1, i1⟩, j1⟩ := hcl 1 (by omega)
      obtain ⟨⟨d2', i2⟩, j2⟩ := hcl 2 (by omega)
      obtain ⟨⟨d3, i3⟩, j3⟩ := hcl 3 (by omega)
      rw [Nat.add_zero] at i0 j0
      rw [HSET.out] at hat
      have HATN : Hid (LkAt ((((w5.setCell ⟨sb, j * 4, none⟩ (.int .i64 nm)).setCell ⟨sb, j * 4 + 1, none⟩ (.int .i64 nt)).setCell ⟨sb, j * 4 + 2, none⟩ (.int .i64 ng')).setCell ⟨sb, j * 4 + 3, none⟩ (.bool nb')) B kb u ns ng pts ws (curF occ lies (ws.map (·.1)) ss (j + 1))) := hat
      have HCHN : Hid (Chg (lkFoot kb (u 2) ss) w4 ((((w5.setCell ⟨sb, j * 4, none⟩ (.int .i64 nm)).setCell ⟨sb, j * 4 + 1, none⟩ (.int .i64 nt)).setCell ⟨sb, j * 4 + 2, none⟩ (.int .i64 ng')).setCell ⟨sb, j * 4 + 3, none⟩ (.bool nb'))) := (HCG.out.trans (Chg.of_below HB7.out)).trans (hch.mono fun k _ hk => HFM.out k hk)
      clear hcl hat hch
      go_wp2
      go_roundg (n1 - (j + 1))
      case rel => exact ⟨j + 1, rfl, by go_num, by omega, HATN.out, HCHN.out⟩
      case measure => omega
    · have hjn : j = n1 := by omega
      subst hjn
      have hcur : curF occ lies (ws.map (·.1)) ss j = stepAll occ lies (ws.map (·.1)) ss := by rw [curF, List.take_of_length_le (by rw [stepAll_len]; have := HLN.out; omega), List.drop_of_length_le (by have := HLN.out; omega), List.append_nil]
      rw [hcur] at HATR
      clear hcur
      have k3 := HATR.out.rd.c3
      rw [HU1.out] at k3
      have HG1 : Hid (wr.heap[w.heap.size + 1]? = some (.cells #[.slice none 0 0, .slice none 0 0] 46 (0, 0))) := HCG.out.blk H14.out (nb _ (by omega))
      have HG2 : Hid (wr.heap[w2.heap.size]? = some (.cells #[.slice (some ⟨b1, 0, none⟩) pts.length pts.length, .slice (some ⟨b2, 0, none⟩) ng ng] 46 (0, 0))) := HCG.out.blk H24.out (nb _ (by have := HSZ.out; omega))
      have HOR : Hid (OutAt wr w.heap.size b1 b2 (List.replicate pts.length 0) (List.replicate ng false)) := (HOA.out.below HB24.out).chg HCG.out (nb _ (by have := HBQ.out; omega)) (nb _ (by have := HBQ.out; omega))
      have HB2N : Hid (b1 < w2.heap.size ∧ b2 < w2.heap.size) := HOA.out.lt
      have HZL : Hid (((ws.map (·.1)).zip (stepAll occ lies (ws.map (·.1)) ss)).length = j) := by show _ = _; rw [List.length_zip, List.length_map, stepAll_len, HLN.out, HNW.out, Nat.min_self]
      clear nb hj hlt
      go_wp2
      clear k3
      generalize wr = wz at *
      go_loopg [8, 52] j (fun gk a i wq => ∃ (n : Nat) (d : List Int) (p : List Bool), gk = j - n ∧ i = .int .i64 n ∧ n ≤ j ∧ tellAll pts (ws.map (·.1)) (stepAll occ lies (ws.map (·.1)) ss) occ lies (((ws.map (·.1)).zip (stepAll occ lies (ws.map (·.1)) ss)).drop n) n (d, p) = ans.2 ∧ d.length = pts.length ∧ p.length = ng ∧ OutAt wq w.heap.size b1 b2 d p ∧ LkAt wq B kb u ns ng pts ws (stepAll occ lies (ws.map (·.1)) ss) ∧ Chg (lkFoot kb (u 2) ss) w wq ∧ Chg (outFoot b1 b2) wz wq)
      case atStart => exact ⟨0, _, _, rfl, rfl, by omega, by rw [HF1.out, List.drop_zero], by simp, by simp, HOR.out, HATR.out, HCW.out, Chg.refl _ _⟩
      case round =>
        obtain ⟨n, d, p, rfl, rfl, hn, hc, hd, hp, ho, hat, hcw, hco⟩ := hrel
        have HC : Hid (tellAll pts (ws.map (·.1)) (stepAll occ lies (ws.map (·.1)) ss) occ lies (((ws.map (·.1)).zip (stepAll occ lies (ws.map (·.1)) ss)).drop n) n (d, p) = ans.2) := hc
        have HO : Hid (OutAt wr w.heap.size b1 b2 d p) := ho
        have HQ : Hid (LkAt wr B kb u ns ng pts ws (stepAll occ lies (ws.map (·.1)) ss)) := hat
        have HW : Hid (Chg (lkFoot kb (u 2) ss) w wr) := hcw
        have HCO : Hid (Chg (outFoot b1 b2) wz wr) := hco
        have nb : ∀ i, i ≠ b1 → i ≠ b2 → ¬ outFoot b1 b2 i := fun i h1 h2 hf => by rcases hf with rfl | rfl; exact h1 rfl; exact h2 rfl
        have hb := HBQ.out
        have hb' := HB2N.out
        have hsz := HSZ.out
        have G0 := hco.blk HG0.out (nb _ (by omega) (by omega))
        have G1 := hco.blk HG1.out (nb _ (by omega) (by omega))
        have G2 := hco.blk HG2.out (nb _ (by omega) (by omega))
        obtain ⟨x0, x1⟩ := cells2 G0
        obtain ⟨x2, x3⟩ := cells2 G2
        obtain ⟨x4, x5⟩ := cells2 G1
        have x6 := froz2 G1 0
        have x7 := froz2 G1 1
        clear hc ho hat hcw hco nb G0 G1 G2 hb hb' hsz
        by_cases hlt : n < j
        · obtain ⟨x, s0, hx, hs0⟩ := HAX.out n hlt
          have hx' : (ws.map (·.1))[n]? = some x.1 := by rw [List.getElem?_map, hx]; rfl
          have hs := stepAll_at (occ := occ) (lies := lies) hx' hs0
          rw [drop_at (zip_at hx' hs), tellAll] at HC
          have D := HTE.out n x _ b1 b2 d p wr hx hs HQ.out HW.out HO.out hd hp
          have HL : Hid ((tellF pts (ws.map (·.1)) (stepAll occ lies (ws.map (·.1)) ss) occ lies n x.1 (stepF s0 x.1 occ lies) (d, p)).1.length = pts.length ∧ (tellF pts (ws.map (·.1)) (stepAll occ lies (ws.map (·.1)) ss) occ lies n x.1 (stepF s0 x.1 occ lies) (d, p)).2.length = ng) := by
            have := tellF_len pts (ws.map (·.1)) (stepAll occ lies (ws.map (·.1)) ss) occ lies n x.1 (stepF s0 x.1 occ lies) (d, p)
            exact ⟨this.1.trans hd, this.2.trans hp⟩
          have hni : (n : Int) < (j : Int) := by omega
          unfold outV at D
          clear hx hs0 hx' hs
          generalize tellF pts (ws.map (·.1)) (stepAll occ lies (ws.map (·.1)) ss) occ lies n x.1 (stepF s0 x.1 occ lies) (d, p) = o' at *
          obtain ⟨d', p'⟩ := o'
          go_wp2_with fail
          refine D.mono ?_
          rintro e w6 ⟨rfl, ho6, hat6, hcw6, hco6⟩
          have H6 : Hid (OutAt w6 w.heap.size b1 b2 d' p' ∧ LkAt w6 B kb u ns ng pts ws (stepAll occ lies (ws.map (·.1)) ss) ∧ Chg (lkFoot kb (u 2) ss) w w6 ∧ Chg (outFoot b1 b2) wz w6) := ⟨ho6, hat6, hcw6, HCO.out.trans hco6⟩
          clear ho6 hat6 hcw6 hco6 D x0 x1 x2 x3 x4 x5 x6 x7
          go_wp2
          go_roundg (j - (n + 1))
          case rel => exact ⟨n + 1, d', p', rfl, by go_num, by omega, HC.out, HL.out.1, HL.out.2, H6.out.1, H6.out.2.1, H6.out.2.2.1, H6.out.2.2.2⟩
          case measure => omega
        · have hnj : n = j := by omega
          subst hnj
          rw [List.drop_of_length_le (by rw [HZL.out]; omega), tellAll] at HC
          go_wp2
          refine bodyPost_ret (v := outV b1 b2 pts.length ng) (by simp [results, Tryz.results10, go_sem, outV, x4, x5]) rfl ⟨b1, b2, rfl, ?_⟩
          rw [← HC.out, show ans.1 = stepAll occ lies (ws.map (·.1)) ss by rw [HF1.out]]
          have hq := HBQ.out
          exact cyc_end HAT.out HQ.out (stepAll_len _ _ _ _) HW.out HO.out ⟨by omega, by omega, by omega⟩ _ _
end Go.Proofs.YtceebimgfajbcaaGreatDoor
