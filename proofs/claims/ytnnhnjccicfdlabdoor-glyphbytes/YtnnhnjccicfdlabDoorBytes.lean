/-
  Plain facts: of texts without a wrong rune the order of their runes is that of their bytes.
-/
import Derived.Test.YtnnhnjccicfdlabDoorWhole
import Derived.Test.YtnnhnjccicfdlabDoorOrder
namespace Go.Proofs.YtnnhnjccicfdlabDoor

theorem bl_cons (a b : UInt8) (x y : List UInt8) : Op.bytesLess (a :: x) (b :: y) = (decide (a.toNat < b.toNat) || (decide (a.toNat = b.toNat) && Op.bytesLess x y)) := by
  rw [Op.bytesLess]
  congr 1
  congr 1
  rw [Bool.eq_iff_iff]
  simp [UInt8.toNat_inj]

/-- How a right rune stands in a text. -/
def Form (l : List UInt8) (d : Nat × Nat) : Prop :=
  (∃ a t, l = a :: t ∧ d = (a.toNat, 1) ∧ a.toNat < 128) ∨
  (∃ a b t, l = a :: b :: t ∧ d = (a.toNat % 32 * 64 + b.toNat % 64, 2) ∧ a.toNat / 32 = 6 ∧ b.toNat / 64 = 2 ∧ 128 ≤ d.1) ∨
  (∃ a b c t, l = a :: b :: c :: t ∧ d = (a.toNat % 16 * 4096 + b.toNat % 64 * 64 + c.toNat % 64, 3) ∧ a.toNat / 16 = 14 ∧ b.toNat / 64 = 2 ∧ c.toNat / 64 = 2 ∧ 2048 ≤ d.1) ∨
  (∃ a b c e t, l = a :: b :: c :: e :: t ∧ d = (a.toNat % 8 * 262144 + b.toNat % 64 * 4096 + c.toNat % 64 * 64 + e.toNat % 64, 4) ∧ a.toNat / 8 = 30 ∧ b.toNat / 64 = 2 ∧ c.toNat / 64 = 2 ∧ e.toNat / 64 = 2 ∧ 65536 ≤ d.1)

theorem two_of (t : List UInt8) (h : 1 < t.length) : ∃ b c u, t = b :: c :: u := by
  match t, h with
  | b :: c :: u, _ => exact ⟨b, c, u, rfl⟩
theorem three_of (t : List UInt8) (h : 2 < t.length) : ∃ b c e u, t = b :: c :: e :: u := by
  match t, h with
  | b :: c :: e :: u, _ => exact ⟨b, c, e, u, rfl⟩

set_option maxHeartbeats 1000000 in
theorem form_of (l : List UInt8) (hl : l ≠ []) (h : badB (dec l) = false) : Form l (dec l) := by
  obtain ⟨a, t, rfl⟩ : ∃ a t, l = a :: t := by cases l with | nil => exact absurd rfl hl | cons a t => exact ⟨a, t, rfl⟩
  have hbad : ∀ d : Nat × Nat, d = (65533, 1) → badB d = false → False := fun d e k => by rw [e] at k; exact absurd k (by decide)
  generalize hd : dec (a :: t) = d at *
  unfold dec Lib.decodeN at hd
  simp only [List.getD_cons_zero, List.getD_cons_succ, List.length_cons] at hd
  split at hd
  · subst hd
    exact .inl ⟨a, t, rfl, rfl, by assumption⟩
  · split at hd
    · rename_i _ q
      obtain ⟨b, u, rfl⟩ : ∃ b u, t = b :: u := by cases t with | nil => simp at q | cons b u => exact ⟨b, u, rfl⟩
      simp only [List.getD_cons_zero] at hd q
      split at hd
      · rename_i k
        subst hd
        exact .inr (.inl ⟨a, b, u, rfl, rfl, q.1, q.2.2, k⟩)
      · exact (hbad d hd.symm h).elim
    · split at hd
      · rename_i _ _ q
        obtain ⟨b, c, u, rfl⟩ := two_of t (by have := q.2.2.1; omega)
        simp only [List.getD_cons_zero, List.getD_cons_succ] at hd q
        split at hd
        · rename_i k
          refine .inr (.inr (.inl ⟨a, b, c, u, rfl, hd.symm, q.1, q.2.1.2, q.2.2.2, ?_⟩))
          rw [← hd]
          exact k.1
        · exact (hbad d hd.symm h).elim
      · split at hd
        · rename_i _ _ _ q
          obtain ⟨b, c, e, u, rfl⟩ := three_of t (by have := q.2.2.2.1; omega)
          simp only [List.getD_cons_zero, List.getD_cons_succ] at hd q
          split at hd
          · rename_i k
            refine .inr (.inr (.inr ⟨a, b, c, e, u, rfl, hd.symm, q.1, q.2.1.2, q.2.2.1.2, q.2.2.2.2, ?_⟩))
            rw [← hd]
            exact k.1
          · exact (hbad d hd.symm h).elim
        · exact (hbad d hd.symm h).elim

/-- The first runes decide, or stand alike. -/
def Key (l m : List UInt8) (d e : Nat × Nat) : Prop :=
  (d.1 < e.1 → Op.bytesLess l m = true) ∧ (e.1 < d.1 → Op.bytesLess l m = false) ∧ (d.1 = e.1 → Op.bytesLess l m = Op.bytesLess (l.drop d.2) (m.drop e.2) ∧ (l = m ↔ l.drop d.2 = m.drop e.2))

set_option maxHeartbeats 4000000 in
theorem key_of (l m : List UInt8) (d e : Nat × Nat) (h : Form l d) (k : Form m e) : Key l m d e := by
  rcases h with ⟨a, t, rfl, rfl, h1⟩ | ⟨a, b, t, rfl, rfl, h1, h2, h9⟩ | ⟨a, b, c, t, rfl, rfl, h1, h2, h3, h9⟩ | ⟨a, b, c, g, t, rfl, rfl, h1, h2, h3, h4, h9⟩ <;>
  rcases k with ⟨a', t', rfl, rfl, k1⟩ | ⟨a', b', t', rfl, rfl, k1, k2, k9⟩ | ⟨a', b', c', t', rfl, rfl, k1, k2, k3, k9⟩ | ⟨a', b', c', g', t', rfl, rfl, k1, k2, k3, k4, k9⟩
  all_goals
    refine ⟨fun q => ?_, fun q => ?_, fun q => ?_⟩
    all_goals dsimp only at *
    · simp only [bl_cons]
      generalize Op.bytesLess _ _ = z
      cases z <;> simp <;> omega
    · simp only [bl_cons]
      generalize Op.bytesLess _ _ = z
      cases z <;> simp <;> omega
    · first
      | (exfalso; omega)
      | (have e1 : a = a' := UInt8.toNat_inj.1 (by omega)
         have e2 : b = b' := UInt8.toNat_inj.1 (by omega)
         have e3 : c = c' := UInt8.toNat_inj.1 (by omega)
         have e4 : g = g' := UInt8.toNat_inj.1 (by omega)
         subst e1
         subst e2
         subst e3
         subst e4
         simp [bl_cons])
      | (have e1 : a = a' := UInt8.toNat_inj.1 (by omega)
         have e2 : b = b' := UInt8.toNat_inj.1 (by omega)
         have e3 : c = c' := UInt8.toNat_inj.1 (by omega)
         subst e1
         subst e2
         subst e3
         simp [bl_cons])
      | (have e1 : a = a' := UInt8.toNat_inj.1 (by omega)
         have e2 : b = b' := UInt8.toNat_inj.1 (by omega)
         subst e1
         subst e2
         simp [bl_cons])
      | (have e1 : a = a' := UInt8.toNat_inj.1 (by omega)
         subst e1
         simp [bl_cons])

theorem bytes_order : ∀ (n : Nat) (l m : List UInt8), l.length ≤ n → wholeB l = true → wholeB m = true → Op.bytesLess l m = decide (cmpS l m < 0) ∧ (l = m ↔ cmpS l m = 0)
  | n, [], [], _, _, _ => by simp [Op.bytesLess, cmpS, runes_nil, cmpF]
  | n, [], b :: m, _, _, _ => by
    have e : cmpS [] (b :: m) = -1 := by rw [cmpS, runes_nil, runes_cons _ (by simp), cmpF]
    rw [e]
    simp [Op.bytesLess]
  | n, a :: l, [], _, _, _ => by
    have e : cmpS (a :: l) [] = 1 := by rw [cmpS, runes_nil, runes_cons _ (by simp), cmpF]
    rw [e]
    simp [Op.bytesLess]
  | 0, a :: l, b :: m, h, _, _ => by simp at h
  | n + 1, a :: l, b :: m, h, hl, hm => by
    have nl : a :: l ≠ [] := by simp
    have nm : b :: m ≠ [] := by simp
    generalize a :: l = x at *
    generalize b :: m = y at *
    rw [wholeB, runes_cons x nl, wholeL, List.all_cons, Bool.and_eq_true] at hl
    rw [wholeB, runes_cons y nm, wholeL, List.all_cons, Bool.and_eq_true] at hm
    have wx := dec_width x nl
    obtain ⟨k1, k2, k3⟩ := key_of x y _ _ (form_of x nl (by simpa using hl.1)) (form_of y nm (by simpa using hm.1))
    have hc : cmpS x y = if (dec x).1 < (dec y).1 then -1 else if (dec y).1 < (dec x).1 then 1 else cmpS (x.drop (dec x).2) (y.drop (dec y).2) := by
      rw [cmpS, runes_cons x nl, runes_cons y nm, cmpF]
      rfl
    rcases (show (dec x).1 < (dec y).1 ∨ (dec y).1 < (dec x).1 ∨ (dec x).1 = (dec y).1 by omega) with q | q | q
    · rw [hc, if_pos q, k1 q]
      refine ⟨by decide, fun e => ?_, fun e => by omega⟩
      rw [e] at q
      omega
    · rw [hc, if_neg (by omega), if_pos q, k2 q]
      refine ⟨by decide, fun e => ?_, fun e => by omega⟩
      rw [e] at q
      omega
    · have ih := bytes_order n (x.drop (dec x).2) (y.drop (dec y).2) (by rw [List.length_drop]; omega) hl.2 hm.2
      rw [hc, if_neg (by omega), if_neg (by omega), (k3 q).1, (k3 q).2]
      exact ih
end Go.Proofs.YtnnhnjccicfdlabDoor
