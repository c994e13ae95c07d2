/-
  wire's Unpack, by a contract: the document's answer.
-/
import Derived.Test.YtfcoanlegjddpabWrRead2
import Derived.Test.YtfcoanlegjddpabWrPack
namespace Go.Proofs.Ytfcoanlegjddpab
open Go.RowKit

def smT (x : It) : Prop := (textOf (some x)).1.size ≤ 281474976710656
theorem readT_small (r : List (BitVec 8)) (x : It) (h : (readT r).1 = some x) : smT x := by
  unfold readT at h
  simp only at h
  split at h
  · injection h with h
    subst h
    show (0 : Nat) ≤ _; omega
  · split at h
    · injection h with h
      subst h
      show (strV _).size ≤ _
      have := num_one_lt (r.drop 1)
      rw [str_size, List.length_take]
      omega
    · split at h
      · injection h with h
        subst h
        show (0 : Nat) ≤ _; omega
      · cases h
theorem readN_small : ∀ (n : Nat) (r : List (BitVec 8)) (l : List It), (∀ x ∈ l, smT x) → ∀ x ∈ readN n r l, smT x
  | 0, _, _, h => h
  | n + 1, r, l, h => by
    refine readN_small n _ _ fun x hx => ?_
    cases ho : (readT r).1 with
    | none => rw [ho] at hx; exact h x hx
    | some y =>
      rw [ho] at hx
      have hx : x ∈ (if l.length < 100 then l ++ [y] else l) := hx
      split at hx
      · rcases List.mem_append.1 hx with hx | hx
        · exact h x hx
        · rw [List.mem_singleton.1 hx]; exact readT_small r y ho
      · exact h x hx
theorem small_of {l : List It} (h : ∀ x ∈ l, smT x) : SmallL l := fun i => by
  cases ho : itAt l i with
  | none => show (0 : Nat) ≤ _; omega
  | some x =>
    refine h x ?_
    unfold itAt at ho
    split at ho
    · cases ho
    · exact List.mem_of_getElem? ho
theorem readV_small (p : List (BitVec 8)) : SmallL (readV p) := small_of (readN_small _ _ _ fun x hx => by cases hx)

/-- What Unpack answers. -/
def UnpAns (w : World) (B : Nat) : Option (List It) → Value → Int → Prop
  | none, u, x => u = .pointer none ∧ x = 2
  | some l, u, x => x = 0 ∧ ∃ c v, u = .pointer (some ⟨c, 0, none⟩) ∧ Crate w B c v l

set_option maxRecDepth 1000000 in
set_option maxHeartbeats 1000000 in
theorem unpack_any (oa : Option Addr) (cap : Nat) (p : List (BitVec 8)) (w : World) (h : hasBytes w oa p) (hc : p.length ≤ cap) (ho : ∀ g, oa = some g → g.block < w.heap.size) :
    Calls Try.prog 8 #[.slice oa p.length cap] w fun e w' => ∃ u x, e = .returned (.tuple #[u, .int .i64 x]) ∧ UnpAns w' w.heap.size (unpackR p) u x ∧ Below w.heap.size w w' := by
  have H : Hid (hasBytes w oa p ∧ p.length ≤ cap ∧ (∀ g, oa = some g → g.block < w.heap.size)) := ⟨h, hc, ho⟩
  rw [← unpack_eq]
  have HV := readV_ok p
  have HOK : Hid ((readV p).length ≤ 100) := HV.1
  clear h hc ho HV
  obtain ⟨m, hm⟩ : ∃ m, m = p.length := ⟨_, rfl⟩
  have HM : Hid (p.length = m) := hm.symm
  rw [← hm]
  clear hm
  cases hp : packV (readV p) with
  | none =>
    have HP : Hid (packV (readV p) = none) := hp
    have HU : Hid (unpackV p = none) := by show _ = _; unfold unpackV; rw [hp, if_neg (by intro e; cases e)]
    have HE : Hid (packE (readV p) = 1) := by show _ = _; rw [packE, hp]; rfl
    rw [HU.out]
    clear hp
    go_enter Try.func8, Try.ntmps8
    go_wp2_with fail
    have D := read_any oa cap p w H.out.1 H.out.2.1 H.out.2.2
    rw [HM.out] at D
    refine D.mono ?_
    rintro e w1 ⟨c, v, rfl, h1, h2⟩
    clear D
    go_wp2_with fail
    refine (pack_any c (readV p) w1 h1.reads HOK.out (readV_small p)).mono ?_
    rw [HE.out]
    rintro e w2 ⟨v2, rfl, h3, h4⟩
    have HB : Hid (Below w.heap.size w w2) := h2.trans (h4.mono h2.size)
    clear h1 h2 h3 h4
    go_wp2
    go_ret2
    exact ⟨_, _, rfl, ⟨rfl, rfl⟩, HB.out⟩
  | some b =>
    have HP : Hid (packV (readV p) = some b) := hp
    have HE : Hid (packE (readV p) = 0) := by show _ = _; rw [packE, hp]; rfl
    have HU : Hid (unpackV p = if decide (b = p) then some (readV p) else none) := by
      show _ = _
      unfold unpackV
      rw [hp]
      by_cases hbp : b = p
      · simp [hbp]
      · simp [hbp]
    clear hp
    rw [HU.out]
    generalize hq : decide (b = p) = q at *
    have HQ : Hid (decide (b = p) = q) := hq
    clear hq HU
    have HD : Hid ((packV (readV p)).getD [] = b) := by show _ = _; rw [HP.out]; rfl
    go_enter Try.func8, Try.ntmps8
    go_wp2_with fail
    have D := read_any oa cap p w H.out.1 H.out.2.1 H.out.2.2
    rw [HM.out] at D
    refine D.mono ?_
    rintro e w1 ⟨c, v, rfl, h1, h2⟩
    clear D
    go_wp2_with fail
    refine (pack_any c (readV p) w1 h1.reads HOK.out (readV_small p)).mono ?_
    rw [HE.out, HD.out]
    rintro e w2 ⟨v2, rfl, h3, h4⟩
    have HX : Hid (Crate w2 w.heap.size c v (readV p) ∧ Below w.heap.size w w2) := ⟨⟨h1.1.below h4, h1.2⟩, h2.trans (h4.mono h2.size)⟩
    obtain ⟨oq, cq, rfl, hby⟩ := h3.bytes
    have HBY : Hid (hasBytes w2 oq b) := hby
    obtain ⟨mb, hmb⟩ : ∃ mb, mb = b.length := ⟨_, rfl⟩
    have HMB : Hid (b.length = mb) := hmb.symm
    rw [← hmb]
    clear h1 h2 h3 h4 hby hmb
    go_wp2_with fail
    have D := equal_any oq oa cq cap b p w2 HBY.out (fun j x hj => by
      obtain ⟨bb, off, e, hcell⟩ := H.out.1 j x hj
      exact ⟨bb, off, e, (HX.out.2.cell (World.block_lt_of_cell? _ _ hcell)).trans hcell⟩)
    rw [HMB.out, HM.out, HQ.out] at D
    refine D.mono ?_
    rintro e w3 ⟨rfl, rfl⟩
    clear D
    cases q
    · go_wp2
      go_ret2
      exact ⟨_, _, rfl, ⟨rfl, rfl⟩, HX.out.2⟩
    · go_wp2
      go_ret2
      exact ⟨_, _, rfl, ⟨rfl, c, v, rfl, HX.out.1⟩, HX.out.2⟩
end Go.Proofs.Ytfcoanlegjddpab
