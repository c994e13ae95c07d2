/-
  Set, whatever it is told: by a contract over a lock of any layout.
-/
import Derived.Test.YtceebimgfajbcaaDoorLkApartP
namespace Go.Proofs.YtceebimgfajbcaaDoor
open Go.RowKit

set_option maxRecDepth 1000000 in
set_option maxHeartbeats 8000000 in
theorem set_no (kb : Nat) (u : Nat → Value) (ns ng : Nat) (pts : List Int) (ws : List WyV) (ss l : List St) (v : Value) (w : World) (h : LkRd w kb u ns ng pts ws ss) (hv : rowAt w v 4 stC l) (hf : ∀ x ∈ ws, ∀ f ∈ x.1.foes, 0 ≤ f ∧ f < (ws.length : Nat)) (hl : ws.length ≤ 1000 ∧ l.length ≤ 1000000 ∧ ∀ x ∈ ws, x.1.path.length ≤ 1000000 ∧ x.1.foes.length ≤ 1000000) (hs : standF (ws.map (·.1)) l = false) :
    Calls Tryd.prog 18 #[.pointer (some ⟨kb, 0, none⟩), v] w fun e w' => e = .returned (.bool false) ∧ Below w.heap.size w w' := by
  have D := mayStand_any kb u ns ng pts ws ss l v w h hv hf hl
  rw [hs] at D
  obtain ⟨o, c, rfl, -⟩ := hv
  clear h hf hs hl
  go_enter Tryd.func18, Tryd.ntmps18
  go_wp2_with fail
  refine D.mono ?_
  rintro e w1 ⟨rfl, hb1⟩
  go_wp2
  go_ret
  exact ⟨rfl, hb1⟩
/-- How all routes stand when they have been told to stand so. -/
def setF (rs : List RtV) (ss t : List St) : List St := if standF (waysG rs rs 0) t = true then t else ss
theorem setF_apart {rs : List RtV} {ss : List St} (h : ApartS (waysG rs rs 0) ss) (t : List St) : ApartS (waysG rs rs 0) (setF rs ss t) := by
  unfold setF
  split
  · rename_i hs
    exact apart_of hs
  · exact h
theorem set_g (w0 W : World) (l : Lay) (rs : List RtV) (kb : Nat) (ss t : List St) (v : Value) (h : LkG w0 W l rs kb ss) (hv : rowAt W v 4 stC t) (ht : t.length ≤ 1000000) :
    Calls Tryd.prog 18 #[.pointer (some ⟨kb, 0, none⟩), v] W fun e w' => ∃ b, e = .returned (.bool b) ∧ LkG w0 w' l rs kb (setF rs ss t) ∧ TC W w' := by
  obtain ⟨u, ws, g1, g2⟩ := h.ex
  have hlen : ws.length = (waysG rs rs 0).length := by rw [← g2, List.length_map]
  have hf := h.ok.few.2.2.2
  have mem : ∀ x ∈ ws, x.1 ∈ waysG rs rs 0 := fun x hx => by rw [← g2]; exact List.mem_map.2 ⟨x, hx, rfl⟩
  have hfo : ∀ x ∈ ws, ∀ f ∈ x.1.foes, 0 ≤ f ∧ f < (ws.length : Nat) := fun x hx f hf => by rw [hlen]; exact h.ok.foes x.1 (mem x hx) f hf
  have hle : ws.length ≤ 1000 ∧ t.length ≤ 1000000 ∧ ∀ x ∈ ws, x.1.path.length ≤ 1000000 ∧ x.1.foes.length ≤ 1000000 := ⟨by omega, ht, fun x hx => ⟨(h.ok.ways x.1 (mem x hx)).few.1, (h.ok.ways x.1 (mem x hx)).few.2.2⟩⟩
  cases hs : standF (waysG rs rs 0) t
  · refine (set_no kb u _ _ _ ws ss t v W g1.rd hv hfo hle (by rw [g2]; exact hs)).mono ?_
    rintro e w' ⟨rfl, hb⟩
    have e0 : setF rs ss t = ss := by rw [setF, hs]; rfl
    rw [e0]
    exact ⟨_, rfl, h.step hb, TC.of_below hb⟩
  · refine (set_yes w0.heap.size kb u _ _ _ ws ss t v W g1 h.bl.size hv hfo hle (by rw [g2]; exact hs)).mono ?_
    rintro e w' ⟨u2, rfl, h4, h5, -⟩
    have e0 : setF rs ss t = t := by rw [setF, hs]; rfl
    rw [e0]
    have hst := stand_sts hs
    exact ⟨_, rfl, ⟨⟨u2, ws, h4, g2⟩, ⟨hst.1, h.ok.ways, h.ok.foes, h.ok.inn, hst.2, h.ok.few⟩, h.bl.trans (h5.below (fun k hk => by rw [hk]; exact (g1.foot (.inl rfl)).1) h.bl.size)⟩, h5.mono fun k _ hk => foot_ty g1 (.inl hk)⟩
end Go.Proofs.YtceebimgfajbcaaDoor
