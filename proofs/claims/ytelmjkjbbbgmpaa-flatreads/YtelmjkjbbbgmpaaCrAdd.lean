/-
  A struct of one slice that the call itself made; package crate's New, add, AddInt, AddText, AddBool by contracts.
-/
import Derived.Test.YtelmjkjbbbgmpaaCrRead
import Derived.Maps.AppendAt
import Derived.OwnWalk
namespace Go.Proofs.Ytelmjkjbbbgmpaa
open Go.RowKit

/-- Which blocks such a struct takes. -/
def foot (c : Nat) (v : Value) (k : Nat) : Prop := k = c ∨ v.ownBlock = some k

structure Box (t e : TypeId) (size : Nat) (w : World) (B c : Nat) (v : Value) (n : Nat) (xs : List Value) : Prop where
  cell : w.heap[c]? = some (.cells #[v] t (0, 0))
  own : w.ownsRow B e size v n xs
  base : B ≤ c
  apart : v.ownBlock ≠ some c

/-- Of what was there only this struct has turned; it has taken new blocks alone. -/
structure Turn (w w' : World) (c : Nat) (v v' : Value) : Prop where
  os : w'.os = w.os
  tape : w'.tape = w.tape
  output : w'.output = w.output
  size : w.heap.size ≤ w'.heap.size
  block : ∀ k, k < w.heap.size → ¬ foot c v k → w'.heap[k]? = w.heap[k]?
  feet : v'.ownBlock = v.ownBlock ∨ ∃ k, w.heap.size ≤ k ∧ v'.ownBlock = some k

def Apart (c : Nat) (v : Value) (d : Nat) (u : Value) : Prop := ∀ k, foot c v k → ¬ foot d u k
theorem Apart.symm {c d : Nat} {v u : Value} (h : Apart c v d u) : Apart d u c v := fun k a b => h k b a


theorem Box.clt {t e : TypeId} {size : Nat} {w : World} {B c n : Nat} {v : Value} {xs : List Value} (h : Box t e size w B c v n xs) : c < w.heap.size := (Array.getElem?_eq_some_iff.1 h.cell).1
theorem Box.lt {t e : TypeId} {size : Nat} {w : World} {B c n : Nat} {v : Value} {xs : List Value} (h : Box t e size w B c v n xs) {k : Nat} (hk : foot c v k) : B ≤ k ∧ k < w.heap.size := by
  rcases hk with rfl | hk
  · exact ⟨h.base, h.clt⟩
  · exact h.own.lt k hk
theorem owns_keep {e : TypeId} {size : Nat} {w w' : World} {B n : Nat} {v : Value} {xs : List Value} (h : w.ownsRow B e size v n xs) (hk : ∀ k, v.ownBlock = some k → w'.heap[k]? = w.heap[k]?) : w'.ownsRow B e size v n xs := by
  refine ⟨h.1, ?_⟩
  rcases h.2 with h2 | ⟨g, cap, cur, rfl, b, hg, r⟩
  · exact .inl h2
  · exact .inr ⟨g, cap, cur, rfl, b, (hk g rfl).trans hg, r⟩
theorem Box.keep {t e : TypeId} {size : Nat} {w w' : World} {B c n : Nat} {v : Value} {xs : List Value} (h : Box t e size w B c v n xs) (hk : ∀ k, foot c v k → w'.heap[k]? = w.heap[k]?) : Box t e size w' B c v n xs :=
  ⟨(hk c (.inl rfl)).trans h.cell, owns_keep h.own fun k e => hk k (.inr e), h.base, h.apart⟩
theorem Box.below {t e : TypeId} {size : Nat} {w w' : World} {B c n : Nat} {v : Value} {xs : List Value} (h : Box t e size w B c v n xs) (hb : Below w.heap.size w w') : Box t e size w' B c v n xs :=
  h.keep fun k hk => hb.block k (h.lt hk).2
theorem Box.mono {t e : TypeId} {size : Nat} {w : World} {B c n : Nat} {v : Value} {xs : List Value} {B' : Nat} (h : Box t e size w B c v n xs) (hB : B' ≤ B) : Box t e size w B' c v n xs := by
  refine ⟨h.cell, ⟨h.own.1, ?_⟩, by have := h.base; omega, h.apart⟩
  rcases h.own.2 with h2 | ⟨g, cap, cur, a, b, r⟩
  · exact .inl h2
  · exact .inr ⟨g, cap, cur, a, by omega, r⟩
theorem Box.other {t e : TypeId} {size : Nat} {w w' : World} {B c n : Nat} {v : Value} {xs : List Value} {d : Nat} {u u' : Value} (h : Box t e size w B c v n xs) (ht : Turn w w' d u u') (ha : Apart d u c v) : Box t e size w' B c v n xs ∧ Apart d u' c v := by
  refine ⟨h.keep fun k hk => ht.block k (h.lt hk).2 (fun hf => ha k hf hk), fun k hf hk => ?_⟩
  rcases hf with rfl | hf
  · exact ha k (.inl rfl) hk
  · rcases ht.feet with e | ⟨j, hj, e⟩
    · exact ha k (.inr (by rw [← e]; exact hf)) hk
    · rw [hf] at e
      have := Option.some.inj e
      have := (h.lt hk).2
      omega
theorem Turn.below {w w' : World} {B c : Nat} {v : Value} {u : Value} (h : Turn w w' c v u) (hB : ∀ k, foot c v k → B ≤ k) (hs : B ≤ w.heap.size) : Below B w w' :=
  ⟨h.os, h.tape, h.output, h.size, fun k hk => h.block k (by omega) fun hf => by have := hB k hf; omega⟩
theorem Box.turnBelow {t e : TypeId} {size : Nat} {w w' : World} {B c n : Nat} {v : Value} {xs : List Value} {u : Value} (h : Box t e size w B c v n xs) (ht : Turn w w' c v u) : Below B w w' :=
  ht.below (fun k hk => (h.lt hk).1) (by have := h.base; have := h.clt; omega)
theorem Turn.refl  (w : World) (c : Nat) (v : Value) : Turn w w c v v := ⟨rfl, rfl, rfl, Nat.le_refl _, fun _ _ _ => rfl, .inl rfl⟩
theorem Turn.trans {w w' : World} {c : Nat} {v : Value} {w'' : World} {u x : Value} (h : Turn w w' c v u) (k : Turn w' w'' c u x) : Turn w w'' c v x := by
  refine ⟨k.os.trans h.os, k.tape.trans h.tape, k.output.trans h.output, Nat.le_trans h.size k.size, fun i hi hf => ?_, ?_⟩
  · refine (k.block i (Nat.lt_of_lt_of_le hi h.size) fun hg => ?_).trans (h.block i hi hf)
    rcases hg with rfl | hg
    · exact hf (.inl rfl)
    · rcases h.feet with e | ⟨j, hj, e⟩
      · exact hf (.inr (by rw [← e]; exact hg))
      · rw [hg] at e
        have := Option.some.inj e
        omega
  · rcases k.feet with e | ⟨j, hj, e⟩
    · rw [e]; exact h.feet
    · exact .inr ⟨j, Nat.le_trans h.size hj, e⟩
theorem Turn.of_below {w w' : World} (h : Below w.heap.size w w') (c : Nat) (v : Value) : Turn w w' c v v := ⟨h.os, h.tape, h.output, h.size, fun k hk _ => h.block k hk, .inl rfl⟩
theorem heap_set {w : World} {c : Nat} {v u : Value} {t : TypeId} (h : w.heap[c]? = some (.cells #[v] t (0, 0))) : (w.setCell ⟨c, 0, none⟩ u).heap[c]? = some (.cells #[u] t (0, 0)) := by
  simp [World.setCell, Array.getElem?_modify, h]
theorem box_put {t e : TypeId} {size : Nat} {w w1 : World} {B c n m : Nat} {v v' : Value} {xs ys : List Value} {o : Obj} (h : Box t e size w B c v n xs) (hown : w1.ownsRow B e size v' m ys)
    (hg : (w.alloc o).grownBy w1 v.ownBlock) (hat : v'.ownBlock = v.ownBlock ∨ v'.ownBlock = some (w.heap.size + 1)) :
    Box t e size (w1.setCell ⟨c, 0, none⟩ v') B c v' m ys ∧ Turn w (w1.setCell ⟨c, 0, none⟩ v') c v v' := by
  have hclt := h.clt
  have hap := h.apart
  have hc1 : w1.heap[c]? = some (.cells #[v] t (0, 0)) := by
    rw [hg.block c (by simp; omega) (fun e => hap e.symm), Below.heap_alloc _ _ _ hclt]
    exact h.cell
  have hap' : v'.ownBlock ≠ some c := by
    rcases hat with e | e
    · rw [e]; exact hap
    · rw [e]
      intro q
      have := Option.some.inj q
      omega
  have hsz := hg.size
  rw [World.size_alloc] at hsz
  refine ⟨⟨heap_set hc1, owns_keep hown fun k hk => Below.heap_setCell _ _ _ _ (fun e => hap' (by rw [hk, e])), h.base, hap'⟩, hg.os, hg.tape, hg.output, ?_, fun k hk hf => ?_, ?_⟩
  · show w.heap.size ≤ (w1.setCell ⟨c, 0, none⟩ v').heap.size
    simp only [World.setCell, Array.size_modify]
    omega
  · rw [Below.heap_setCell _ _ _ _ (fun e => hf (.inl e)), hg.block k (by simp; omega) (fun e => hf (.inr e.symm)), Below.heap_alloc _ _ _ hk]
  · rcases hat with e | e
    · exact .inl e
    · exact .inr ⟨_, Nat.le_succ _, e⟩
/-- A crate that holds these things. -/
def Crate (w : World) (B c : Nat) (v : Value) (l : List It) : Prop := Box 76 20 1 w B c v l.length (l.map It.val) ∧ l.length ≤ 100

theorem addr_add (g j : Nat) : (⟨g, 0, none⟩ : Addr).add j = ⟨g, j, none⟩ := by unfold Addr.add; split <;> simp_all
theorem cell_of_heap {w : World} {c : Nat} {v : Value} {t : TypeId} (h : w.heap[c]? = some (.cells #[v] t (0, 0))) : w.cell? ⟨c, 0, none⟩ = some v := by simp [World.cell?, h]
theorem Crate.reads {w : World} {B c : Nat} {v : Value} {l : List It} (h : Crate w B c v l) : Reads w (.pointer (some ⟨c, 0, none⟩)) l := by
  obtain ⟨h, hl⟩ := h
  have hc := cell_of_heap h.cell
  have hcells := fun g => h.own.cells (g := g)
  rcases h.own.2 with ⟨rfl, h2⟩ | ⟨g, cap, cur, rfl, _, _, h2, _⟩
  · refine .inr ⟨c, none, 0, rfl, by rw [hc, h2], by omega, by omega, fun j x hj => ?_⟩
    have := List.eq_nil_of_length_eq_zero h2
    subst this
    simp at hj
  · refine .inr ⟨c, some ⟨g, 0, none⟩, cap, rfl, hc, h2, by omega, fun j x hj => ⟨g, rfl, ?_⟩⟩
    have := hcells g rfl j x.val (by rw [List.getElem?_map, hj]; rfl)
    rw [addr_add] at this
    exact this

theorem new_any (w : World) : Calls Try.prog 25 #[] w fun e w' => e = .returned (.pointer (some ⟨w.heap.size, 0, none⟩)) ∧ w' = w.alloc (.cells #[.slice none 0 0] 76) := by
  go_enter Try.func25, Try.ntmps25
  go_wp2
  go_ret
  exact ⟨rfl, rfl⟩
theorem crate_new (w : World) : Crate (w.alloc (.cells #[.slice none 0 0] 76)) w.heap.size w.heap.size (.slice none 0 0) [] :=
  ⟨⟨heap_alloc_new w _, World.ownsRow_nil _ _ _ _, Nat.le_refl _, by simp [Value.ownBlock]⟩, by simp⟩

def put (l : List It) (x : It) : List It := if l.length < 100 then l ++ [x] else l

theorem infoI : (Try.prog.info? 20).map (fun i => (i.zero, i.size, i.bytes)) = some (some .nilIface, 1, 16) := by kernel_rfl

set_option maxRecDepth 1000000 in
set_option maxHeartbeats 1000000 in
theorem add_any (x : It) (l : List It) (w : World) (B c : Nat) (v : Value) (h : Crate w B c v l) :
    Calls Try.prog 40 #[.pointer (some ⟨c, 0, none⟩), x.val] w fun e w' => ∃ v', e = .returned (.bool (decide (l.length < 100))) ∧ Crate w' B c v' (put l x) ∧ Turn w w' c v v' := by
  have HR : Hid (Reads w (.pointer (some ⟨c, 0, none⟩)) l) := h.reads
  have H : Hid (Crate w B c v l) := h
  have hcell := cell_of_heap h.1.cell
  clear h
  by_cases hl : l.length < 100
  · have HF : Hid (fullB (.pointer (some ⟨c, 0, none⟩)) l.length = false) := by simp [Hid, fullB]; omega
    have HP : Hid (put l x = l ++ [x]) := by simp [Hid, put, hl]
    have HD : Hid (decide (l.length < 100) = true) := decide_eq_true hl
    obtain ⟨n, hn⟩ : ∃ n, n = l.length := ⟨_, rfl⟩
    have HN : Hid (n = l.length) := hn
    have hn100 : n < 100 := by omega
    clear hl hn
    have hx : ∃ ty vv, x.val = .iface ty vv := by rcases x with x | x | x <;> exact ⟨_, _, rfl⟩
    obtain ⟨ty, vv, hx⟩ := hx
    rw [hx]
    have HX : Hid (x.val = .iface ty vv) := hx
    clear hx
    obtain ⟨i0, hi, hz0, hz1, hz2⟩ := info_parts infoI
    go_enter Try.func40, Try.ntmps40
    go_wp2_with fail
    refine (full_any _ l _ HR.out).mono ?_
    rw [HF.out]
    rintro e w1 ⟨rfl, hw⟩
    obtain rfl := hw.symm
    have hown : w.ownsRow B 20 1 v n (l.map It.val) := by rw [HN.out]; exact H.out.1.own
    have hap := H.out.1.apart
    have hclt := H.out.1.clt
    have hbc := H.out.1.base
    have hhc := H.out.1.cell
    go_wp2_with (at_builtin; refine wpList_append_own_at _ rfl _ _ 74 rfl B 20 i0 .nilIface 1 16 Try.underlying74 hi hz0 hz1 hz2 rfl (by decide) _ _ _ rfl (hown.alloc _) ⟨w.heap.size, 0, none⟩ 1 1 [.iface ty vv] rfl rfl (cell_one_new _ _ _) (fun u hu => by rw [List.mem_singleton.1 hu]; rfl) (by unfold maxLen; omega) (by omega) (by simp; omega) ?_)
    intro v' w1 hown' hgrow _ hat
    have hc1 : w1.heap[c]? = some (.cells #[v] 76 (0, 0)) := by
      rw [hgrow.block c (by simp; omega) (fun e => hap e.symm), Below.heap_alloc _ _ _ hclt]
      exact hhc
    have hs : ∃ oa cap, v' = .slice oa (n + 1) cap := by
      rcases hown'.2 with ⟨e, h0⟩ | ⟨g, cap, cur, e, _⟩
      · omega
      · exact ⟨_, _, e⟩
    obtain ⟨oa, cap, rfl⟩ := hs
    have hc2 := cell_of_heap hc1
    have hf2 : w1.frozen? ⟨c, 0, none⟩ = false := by simp [World.frozen?, hc1]
    have HG : Hid ((w.alloc (.cells #[.iface ty vv] 20)).grownBy w1 v.ownBlock) := hgrow
    have HA : Hid ((Value.slice oa (n + 1) cap).ownBlock = v.ownBlock ∨ (Value.slice oa (n + 1) cap).ownBlock = some (w.heap.size + 1)) := hat
    have HC1 : Hid (w1.heap[c]? = some (.cells #[v] 76 (0, 0))) := hc1
    clear hgrow hat hc1
    go_wp2
    go_ret
    obtain ⟨b1, b2⟩ := box_put H.out.1 hown' HG.out HA.out
    refine ⟨_, ?_, ⟨?_, ?_⟩, b2⟩
    · rw [HD.out]; rfl
    · rw [HP.out, List.length_append, List.map_append, ← HN.out, List.map_singleton, HX.out]
      exact b1
    · rw [HP.out, List.length_append, ← HN.out]
      exact hn100
  · have HF : Hid (fullB (.pointer (some ⟨c, 0, none⟩)) l.length = true) := by simp [Hid, fullB]; omega
    have HP : Hid (put l x = l) := by simp [Hid, put, hl]
    have HD : Hid (decide (l.length < 100) = false) := decide_eq_false hl
    clear hl
    go_enter Try.func40, Try.ntmps40
    go_wp2_with fail
    refine (full_any _ l _ HR.out).mono ?_
    rw [HF.out]
    rintro e w1 ⟨rfl, hw⟩
    obtain rfl := hw.symm
    go_wp2
    go_ret
    refine ⟨v, ?_, ?_, Turn.refl _ _ _⟩
    · rw [HD.out]; rfl
    · rw [HP.out]; exact H.out

set_option maxHeartbeats 400000 in
theorem addInt_any (n : Int) (l : List It) (w : World) (B c : Nat) (v : Value) (h : Crate w B c v l) :
    Calls Try.prog 29 #[.pointer (some ⟨c, 0, none⟩), .int .i64 n] w fun e w' => ∃ v', e = .returned (.bool (decide (l.length < 100))) ∧ Crate w' B c v' (put l (.inl n)) ∧ Turn w w' c v v' := by
  have H : Hid (Crate w B c v l) := h
  clear h
  go_enter Try.func29, Try.ntmps29
  go_wp2_with fail
  refine (add_any (.inl n) l _ _ _ _ H.out).mono ?_
  rintro e w1 ⟨v', rfl, h1, h2⟩
  go_wp2
  go_ret
  exact ⟨v', rfl, h1, h2⟩
set_option maxHeartbeats 400000 in
theorem addBool_any (b : Bool) (l : List It) (w : World) (B c : Nat) (v : Value) (h : Crate w B c v l) :
    Calls Try.prog 28 #[.pointer (some ⟨c, 0, none⟩), .bool b] w fun e w' => ∃ v', e = .returned (.bool (decide (l.length < 100))) ∧ Crate w' B c v' (put l ((.inr (.inr b)))) ∧ Turn w w' c v v' := by
  have H : Hid (Crate w B c v l) := h
  clear h
  go_enter Try.func28, Try.ntmps28
  go_wp2_with fail
  refine (add_any ((.inr (.inr b))) l _ _ _ _ H.out).mono ?_
  rintro e w1 ⟨v', rfl, h1, h2⟩
  go_wp2
  go_ret
  exact ⟨v', rfl, h1, h2⟩
set_option maxHeartbeats 400000 in
theorem addText_any (s : ByteArray) (l : List It) (w : World) (B c : Nat) (v : Value) (h : Crate w B c v l) (hs : s.size ≤ 281474976710656) :
    Calls Try.prog 26 #[.pointer (some ⟨c, 0, none⟩), .string s] w fun e w' => ∃ v', e = .returned (.bool (decide (l.length < 100))) ∧ Crate w' B c v' (put l ((.inr (.inl s)))) ∧ Turn w w' c v v' := by
  have H : Hid (Crate w B c v l) := h
  clear h
  by_cases hl : l.length < 100
  · have HF : Hid (fullB (.pointer (some ⟨c, 0, none⟩)) l.length = false) := by simp [Hid, fullB]; omega
    clear hl
    go_enter Try.func26, Try.ntmps26
    go_wp2_with fail
    refine (full_any _ l _ H.out.reads).mono ?_
    rw [HF.out]
    rintro e w1 ⟨rfl, hw⟩
    obtain rfl := hw.symm
    go_wp2_with fail
    refine (clone_any _ _ hs).mono ?_
    rintro e w1 ⟨rfl, hb⟩
    go_wp2_with fail
    refine (add_any ((.inr (.inl s))) l _ _ _ _ ⟨H.out.1.below hb, H.out.2⟩).mono ?_
    rintro e w2 ⟨v', rfl, h1, h2⟩
    go_wp2
    go_ret
    exact ⟨v', rfl, h1, (Turn.of_below hb c v).trans h2⟩
  · have HF : Hid (fullB (.pointer (some ⟨c, 0, none⟩)) l.length = true) := by simp [Hid, fullB]; omega
    have HP : Hid (put l ((.inr (.inl s))) = l) := by simp [Hid, put, hl]
    have HD : Hid (decide (l.length < 100) = false) := decide_eq_false hl
    clear hl
    go_enter Try.func26, Try.ntmps26
    go_wp2_with fail
    refine (full_any _ l _ H.out.reads).mono ?_
    rw [HF.out]
    rintro e w1 ⟨rfl, hw⟩
    obtain rfl := hw.symm
    go_wp2
    go_ret
    refine ⟨v, ?_, ?_, Turn.refl _ _ _⟩
    · rw [HD.out]; rfl
    · rw [HP.out]; exact H.out

end Go.Proofs.Ytelmjkjbbbgmpaa
