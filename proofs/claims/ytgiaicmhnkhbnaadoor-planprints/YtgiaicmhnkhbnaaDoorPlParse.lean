/-
  plan.Parse, by a contract: at every text of fewer than 2^32 bytes; byPlaces' contract is a premise.
-/
import Derived.Test.YtgiaicmhnkhbnaaDoorPlLine
namespace Go.Proofs.YtgiaicmhnkhbnaaDoor
open Go.RowKit

def nilV (_ : Nat) : Value := .slice none 0 0
def fun4 (a b c d : Value) : Nat → Value
  | 0 => a
  | 1 => b
  | 2 => c
  | _ => d
theorem fun4_all {P : Value → Prop} {a b c d : Value} (ha : P a) (hb : P b) (hc : P c) (hd : P d) : ∀ i, P (fun4 a b c d i)
  | 0 => ha
  | 1 => hb
  | 2 => hc
  | _ + 3 => hd
theorem LayRd.four {w : World} {v : Nat → Value} {l : Lay} {rs : List RtV} (h : LayRd w v l rs) {a b c d : Value} (ha : v 0 = a) (hb : v 1 = b) (hc : v 2 = c) (hd : v 3 = d) : LayRd w (fun4 a b c d) l rs := by
  subst ha hb hc hd
  exact ⟨h.s, h.p, h.g, h.r, h.m, h.x⟩
theorem far4 {w : World} {c B : Nat} {a b d e : Value} (hc : c < B) : ∀ k, B ≤ k → k < w.heap.size → ((((w.setCell ⟨c, 0, none⟩ a).setCell ⟨c, 1, none⟩ b).setCell ⟨c, 2, none⟩ d).setCell ⟨c, 3, none⟩ e).heap[k]? = w.heap[k]? := by
  intro k hk _
  have hne : k ≠ c := by omega
  rw [Below.heap_setCell _ _ _ _ hne, Below.heap_setCell _ _ _ _ hne, Below.heap_setCell _ _ _ _ hne, Below.heap_setCell _ _ _ _ hne]
theorem below4 {w0 w : World} {c : Nat} {a b d e : Value} (h : Below c w0 w) : Below c w0 ((((w.setCell ⟨c, 0, none⟩ a).setCell ⟨c, 1, none⟩ b).setCell ⟨c, 2, none⟩ d).setCell ⟨c, 3, none⟩ e) :=
  (((h.setCell (Nat.le_refl _) _).setCell (Nat.le_refl _) _).setCell (Nat.le_refl _) _).setCell (Nat.le_refl _) _

theorem LayRd.zero (w : World) : LayRd w nilV Lay.zero [] :=
  ⟨rowAt.nil _ _ _, rowAt.nil _ _ _, rowAt.nil _ _ _, rowAt.nil _ _ _, rfl, fun _ h => by cases h⟩

theorem lay_new (w : World) : LayIn ((w.alloc (.cells #[.slice none 0 0, .slice none 0 0, .slice none 0 0, .slice none 0 0] 26)).alloc (.cells #[.slice none 0 0, .slice none 0 0, .slice none 0 0, .slice none 0 0] 26)) (w.heap.size + 1) (w.heap.size + 1) Lay.zero := by
  refine ⟨⟨by decide, by decide, by decide, by decide⟩, nilV, [], rfl, ?_, Nat.le_refl _, ?_, ?_, ?_, fun W _ x hx => by cases hx⟩
  · have := blk_new (w.alloc (.cells #[.slice none 0 0, .slice none 0 0, .slice none 0 0, .slice none 0 0] 26)) (.cells #[.slice none 0 0, .slice none 0 0, .slice none 0 0, .slice none 0 0] 26)
    rw [World.size_alloc] at this
    exact this
  · exact lt_four (World.ownsRow_nil _ _ _ _) (World.ownsRow_nil _ _ _ _) (World.ownsRow_nil _ _ _ _) (World.ownsRow_nil _ _ _ _)
  · intro i _ e
    simp [nilV, Value.ownBlock] at e
  · intro i j k _ _ _ e
    simp [nilV, Value.ownBlock] at e

theorem four_cells {w : World} {c : Nat} {a b d e : Value} {t : TypeId} (h : w.heap[c]? = some (.cells #[a, b, d, e] t (0, 0))) :
    (w.cell? ⟨c, 0, none⟩ = some a ∧ w.cell? ⟨c, 1, none⟩ = some b ∧ w.cell? ⟨c, 2, none⟩ = some d ∧ w.cell? ⟨c, 3, none⟩ = some e) ∧
    w.frozen? ⟨c, 0, none⟩ = false ∧ w.frozen? ⟨c, 1, none⟩ = false ∧ w.frozen? ⟨c, 2, none⟩ = false ∧ w.frozen? ⟨c, 3, none⟩ = false := by
  refine ⟨⟨?_, ?_, ?_, ?_⟩, ?_, ?_, ?_, ?_⟩ <;> simp [World.cell?, World.frozen?, h]

theorem cutLine_size (s : ByteArray) : (cutLine s).1.size ≤ s.size ∧ (cutLine s).2.size ≤ s.size := by
  rw [cutLine]
  split
  · simp
    omega
  · exact ⟨Nat.le_refl _, Nat.zero_le _⟩

theorem empty_of {s : ByteArray} (h : s.size = 0) : s = ⟨#[]⟩ := by
  obtain ⟨⟨l⟩⟩ := s
  cases l with
  | nil => rfl
  | cons x l => simp [ByteArray.size] at h

set_option maxRecDepth 1000000 in
set_option maxHeartbeats 4000000 in
theorem parse_any (hby : BySaid) (s : ByteArray) (w : World) (hs : s.size ≤ 4294967295) :
    Calls Tryd.prog 26 #[.string s] w fun e w' => ∃ v rs, e = .returned (.tuple #[.agg #[v 0, v 1, v 2, v 3], .int .i64 (parseP s).2.1, .int .i64 (parseP s).2.2]) ∧ LayRd w' v (parseP s).1 rs ∧ (∀ i, ∃ o n c, v i = .slice o n c) ∧ Below w.heap.size w w' := by
  have HBY : Hid BySaid := hby
  have HP : Hid (parseF 61 .zero 0 s = parseP s) := rfl
  generalize parseP s = ans at *
  have HL0 := lay_new w
  have HR0 : Hid (((w.alloc (.cells #[.slice none 0 0, .slice none 0 0, .slice none 0 0, .slice none 0 0] 26)).alloc (.cells #[.slice none 0 0, .slice none 0 0, .slice none 0 0, .slice none 0 0] 26)).heap[w.heap.size]? = some (.cells #[.slice none 0 0, .slice none 0 0, .slice none 0 0, .slice none 0 0] 26 (0, 0))) := blk_old (blk_new _ _)
  have HB0 : Hid (Below (w.heap.size + 1) (w.alloc (.cells #[.slice none 0 0, .slice none 0 0, .slice none 0 0, .slice none 0 0] 26)) ((w.alloc (.cells #[.slice none 0 0, .slice none 0 0, .slice none 0 0, .slice none 0 0] 26)).alloc (.cells #[.slice none 0 0, .slice none 0 0, .slice none 0 0, .slice none 0 0] 26))) := (Below.refl _ _).alloc (by simp) _
  have HWB : Hid (Below w.heap.size w (w.alloc (.cells #[.slice none 0 0, .slice none 0 0, .slice none 0 0, .slice none 0 0] 26))) := (Below.refl _ _).alloc (Nat.le_refl _) _
  have HLI : Hid (LayIn ((w.alloc (.cells #[.slice none 0 0, .slice none 0 0, .slice none 0 0, .slice none 0 0] 26)).alloc (.cells #[.slice none 0 0, .slice none 0 0, .slice none 0 0, .slice none 0 0] 26)) (w.heap.size + 1) (w.heap.size + 1) Lay.zero) := HL0
  clear hby HL0
  go_enter Tryd.func26, Tryd.ntmps26
  go_wp2
  go_loopw [0, 6, 7, 8, 9] (fun sv nv _ _ _ wr => ∃ (s' : ByteArray) (k : Nat) (l' : Lay), sv = .string s' ∧ nv = .int .i64 k ∧ k ≤ 60 ∧ s'.size ≤ s.size ∧ LayIn wr (w.heap.size + 1) (w.heap.size + 1) l' ∧ Below (w.heap.size + 1) (w.alloc (.cells #[.slice none 0 0, .slice none 0 0, .slice none 0 0, .slice none 0 0] 26)) wr ∧ parseF (61 - k) l' k s' = ans) (fun _ nv _ _ _ _ => 61 - (intOf nv).toNat)
  case atStart => exact ⟨s, 0, Lay.zero, rfl, rfl, by omega, Nat.le_refl _, HLI.out, HB0.out, HP.out⟩
  case round =>
    obtain ⟨s', k, l', rfl, rfl, hk, hsz, hli, hbl, hpf⟩ := hrel
    have HLI2 : Hid (LayIn wr (w.heap.size + 1) (w.heap.size + 1) l') := hli
    have HBL : Hid (Below (w.heap.size + 1) (w.alloc (.cells #[.slice none 0 0, .slice none 0 0, .slice none 0 0, .slice none 0 0] 26)) wr) := hbl
    have HPF : Hid (parseF (61 - k) l' k s' = ans) := hpf
    clear hli hbl hpf HLI HB0 HR0
    have HRS : Hid (wr.heap[w.heap.size]? = some (.cells #[.slice none 0 0, .slice none 0 0, .slice none 0 0, .slice none 0 0] 26 (0, 0))) := (HBL.out.block _ (Nat.lt_succ_self _)).trans (blk_new _ _)
    have HPS : Hid (parseF (61 - k) l' k s' = if s'.size = 0 then (l', k, 0) else if 60 ≤ k then (.zero, k + 1, 6)
        else if (addLineP l' (cutLine s').1).1 = 0 then parseF (60 - k) (addLineP l' (cutLine s').1).2 (k + 1) (cutLine s').2 else (.zero, k + 1, (addLineP l' (cutLine s').1).1)) := by
      rw [Hid, show 61 - k = (60 - k) + 1 by omega, parseF]
    rw [HPS.out] at HPF
    clear HPS
    by_cases h0 : s'.size = 0
    · rw [if_pos h0] at HPF
      have he := empty_of h0
      subst he
      clear h0
      obtain ⟨_, v, rs, hm, h4⟩ := HLI2.out
      obtain ⟨⟨c0, c1, c2, c3⟩, f0, f1, f2, f3⟩ := h4.cells
      obtain ⟨⟨d0, d1, d2, d3⟩, g0, g1, g2, g3⟩ := four_cells HRS.out
      obtain ⟨o0, k0, e0⟩ := own_slice (h4.own 0 (by omega))
      obtain ⟨o1, k1, e1⟩ := own_slice (h4.own 1 (by omega))
      obtain ⟨o2, k2, e2⟩ := own_slice (h4.own 2 (by omega))
      obtain ⟨o3, k3, e3⟩ := own_slice (h4.own 3 (by omega))
      have HE : Hid (v 0 = .slice o0 (nOf l' 0) k0 ∧ v 1 = .slice o1 (nOf l' 1) k1 ∧ v 2 = .slice o2 (nOf l' 2) k2 ∧ v 3 = .slice o3 (nOf l' 3) k3) := ⟨e0, e1, e2, e3⟩
      rw [e0] at c0
      rw [e1] at c1
      rw [e2] at c2
      rw [e3] at c3
      have H4 : Hid (L4 wr (w.heap.size + 1) (w.heap.size + 1) v (nOf l') (csOf l' rs) (fun W => ∀ x ∈ rs, RtAt W x)) := h4
      have HM : Hid (rs.map (·.1) = l'.routes) := hm
      clear h4 hm e0 e1 e2 e3
      generalize nOf l' 0 = n0 at *
      generalize nOf l' 1 = n1 at *
      generalize nOf l' 2 = n2 at *
      generalize nOf l' 3 = n3 at *
      go_wp2
      refine bodyPost_ret (v := .tuple #[.agg #[.slice o0 n0 k0, .slice o1 n1 k1, .slice o2 n2 k2, .slice o3 n3 k3], .int .i64 k, .int .i64 0]) (by simp [results, Tryd.results26, go_sem, d0, d1, d2, d3]) rfl ?_
      refine ⟨fun4 (.slice o0 n0 k0) (.slice o1 n1 k1) (.slice o2 n2 k2) (.slice o3 n3 k3), rs, ?_, ?_, fun4_all (P := fun u => ∃ o n c, u = .slice o n c) ⟨_, _, _, rfl⟩ ⟨_, _, _, rfl⟩ ⟨_, _, _, rfl⟩ ⟨_, _, _, rfl⟩, ?_⟩
      · rw [← HPF.out]
        rfl
      · rw [← HPF.out]
        have q := H4.out.far (w' := (((wr.setCell ⟨w.heap.size, 0, none⟩ (.slice o0 n0 k0)).setCell ⟨w.heap.size, 1, none⟩ (.slice o1 n1 k1)).setCell ⟨w.heap.size, 2, none⟩ (.slice o2 n2 k2)).setCell ⟨w.heap.size, 3, none⟩ (.slice o3 n3 k3)) (far4 (Nat.lt_succ_self _)) (by simp only [World.setCell, Array.size_modify]; exact Nat.le_refl _)
        exact (q.rd HM.out).four HE.out.1 HE.out.2.1 HE.out.2.2.1 HE.out.2.2.2
      · exact below4 (HWB.out.trans (HBL.out.mono (Nat.le_succ _)))
    · rw [if_neg h0] at HPF
      have hne : (s'.toList == []) = false := by
        rw [lit_eq, decide_eq_false_iff_not]
        rintro rfl
        exact h0 rfl
      obtain ⟨⟨d0, d1, d2, d3⟩, g0, g1, g2, g3⟩ := four_cells HRS.out
      by_cases h60 : 60 ≤ k
      · have hk60 : k = 60 := by omega
        subst hk60
        rw [if_pos h60] at HPF
        clear h60
        go_wp2
        refine bodyPost_ret (v := .tuple #[.agg #[.slice none 0 0, .slice none 0 0, .slice none 0 0, .slice none 0 0], .int .i64 61, .int .i64 6]) (by simp [results, Tryd.results26, go_sem, d0, d1, d2, d3]) rfl ?_
        refine ⟨nilV, [], ?_, ?_, fun i => ⟨_, _, _, rfl⟩, ?_⟩
        · rw [← HPF.out]
          rfl
        · rw [← HPF.out]
          exact LayRd.zero _
        · exact below4 (HWB.out.trans (HBL.out.mono (Nat.le_succ _)))
      · rw [if_neg h60] at HPF
        have hk60 : (k : Int) + 1 ≤ 60 := by omega
        have hcs := cutLine_size s'
        have N1 := fun W => cutLine_any s' W (by unfold maxLen; omega)
        generalize cutLine s' = cl at *
        obtain ⟨ln, bh⟩ := cl
        simp only at *
        have D1 : Hid (∀ W, Calls Tryd.prog 34 #[.string s'] W fun e w' => e = .returned (.tuple #[.string ln, .string bh]) ∧ Below W.heap.size W w') := N1
        have D2 := fun W h => addLine_any (B := w.heap.size + 1) (L := w.heap.size + 1) HBY.out l' ln W h (by omega)
        generalize addLineP l' ln = al at *
        obtain ⟨er, l2⟩ := al
        simp only at *
        have E2 : Hid (∀ W, LayIn W (w.heap.size + 1) (w.heap.size + 1) l' → Calls Tryd.prog 35 #[.pointer (some ⟨w.heap.size + 1, 0, none⟩), .string ln] W fun e w' => e = .returned (.int .i64 er) ∧ (er = 0 → LayIn w' (w.heap.size + 1) (w.heap.size + 1) l2) ∧ Below (w.heap.size + 1) W w') := D2
        clear N1 D2 d0 d1 d2 d3 g0 g1 g2 g3
        go_wp2_with fail
        refine (D1.out _).mono ?_
        rintro e w1 ⟨rfl, hb1⟩
        have HB1 : Hid (Below (w.heap.size + 1) (w.alloc (.cells #[.slice none 0 0, .slice none 0 0, .slice none 0 0, .slice none 0 0] 26)) w1) := HBL.out.trans (hb1.mono (by have := HLI2.out.lt; omega))
        have HL1 : Hid (LayIn w1 (w.heap.size + 1) (w.heap.size + 1) l') := HLI2.out.below hb1
        clear hb1 D1
        go_wp2_with fail
        refine (E2.out _ HL1.out).mono ?_
        rintro e w2 ⟨rfl, hl2, hb2⟩
        have HB2 : Hid (Below (w.heap.size + 1) (w.alloc (.cells #[.slice none 0 0, .slice none 0 0, .slice none 0 0, .slice none 0 0] 26)) w2) := HB1.out.trans hb2
        have HL2 : Hid (er = 0 → LayIn w2 (w.heap.size + 1) (w.heap.size + 1) l2) := hl2
        have HRS2 : Hid (w2.heap[w.heap.size]? = some (.cells #[.slice none 0 0, .slice none 0 0, .slice none 0 0, .slice none 0 0] 26 (0, 0))) := (HB2.out.block _ (Nat.lt_succ_self _)).trans (blk_new _ _)
        obtain ⟨⟨d0, d1, d2, d3⟩, g0, g1, g2, g3⟩ := four_cells HRS2.out
        clear hl2 hb2 E2
        by_cases her : er = 0
        · subst her
          rw [if_pos rfl] at HPF
          go_wp2
          go_roundw
          case rel => exact ⟨bh, k + 1, l2, rfl, by go_num, by omega, by omega, HL2.out trivial, HB2.out, by rw [show 61 - (k + 1) = 60 - k by omega]; exact HPF.out⟩
          case measure => simp [intOf]; omega
        · rw [if_neg her] at HPF
          have her' : ((er : Int) != 0) = true := by rw [bne_iff_ne]; omega
          clear her
          go_wp2
          refine bodyPost_ret (v := .tuple #[.agg #[.slice none 0 0, .slice none 0 0, .slice none 0 0, .slice none 0 0], .int .i64 (k + 1), .int .i64 er]) (by simp [results, Tryd.results26, go_sem, d0, d1, d2, d3]) rfl ?_
          refine ⟨nilV, [], ?_, ?_, fun i => ⟨_, _, _, rfl⟩, ?_⟩
          · rw [← HPF.out]
            rfl
          · rw [← HPF.out]
            exact LayRd.zero _
          · exact below4 (HWB.out.trans (HB2.out.mono (Nat.le_succ _)))

end Go.Proofs.YtgiaicmhnkhbnaaDoor
