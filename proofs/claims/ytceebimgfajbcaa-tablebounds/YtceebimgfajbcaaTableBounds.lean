/-
  Of any four numbers: TableBounds returns true. No condition.
-/
import Derived.Test.YtceebimgfajbcaaRows
import Derived.Test.YtceebimgfajbcaaTbBoundsP
import Derived.WalkKit
import Derived.ProofKit
import Derived.OpenShut
import Derived.ShutString
import Derived.ChangeOld
import Derived.Below
import Derived.SizedLaws
namespace Go.Proofs.Ytceebimgfajbcaa.tableBounds
open Go.ChangeShapes Go.WideShapes Go.ChangeAt Go.RowKit

theorem infoPt : (Try.prog.info? 29).map (fun i => (i.zero, i.size, i.bytes)) = some (some (.agg #[.string ⟨#[]⟩, .int .i64 0]), 2, 24) := by kernel_rfl
theorem infoNd : (Try.prog.info? 35).map (fun i => (i.zero, i.size, i.bytes)) = some (some (.agg #[.int .i64 0, .bool false]), 2, 16) := by kernel_rfl
theorem infoRo : (Try.prog.info? 33).map (fun i => (i.zero, i.size, i.bytes)) = some (some (.agg #[.string ⟨#[]⟩, .int .i64 0, .int .i64 0, .slice none 0 0, .slice none 0 0, .slice none 0 0]), 6, 104) := by kernel_rfl
theorem new_one (w : World) (o : Obj) (x : Value) (t : TypeId) : ∀ j u, [x][j]? = some u → ((w.alloc o).alloc (.cells #[x] t)).cell? ((⟨w.heap.size + 1, 0, none⟩ : Addr).add j) = some u := by
  have := cell_one_new (w.alloc o) x t
  rwa [World.size_alloc] at this
theorem cell_two_new (w : World) (x y : Value) (t : TypeId) : ∀ j u, [x, y][j]? = some u → (w.alloc (.cells #[x, y] t)).cell? ((⟨w.heap.size, 0, none⟩ : Addr).add j) = some u := by
  intro j u hj
  match j, hj with
  | 0, hj => simp at hj; subst hj; simp [Addr.add]
  | 1, hj => simp at hj; subst hj; simp [Addr.add]
theorem new_two (w : World) (o : Obj) (x y : Value) (t : TypeId) : ∀ j u, [x, y][j]? = some u → ((w.alloc o).alloc (.cells #[x, y] t)).cell? ((⟨w.heap.size + 1, 0, none⟩ : Addr).add j) = some u := by
  have := cell_two_new (w.alloc o) x y t
  rwa [World.size_alloc] at this
theorem cell_six_new (w : World) (a b c d e f : Value) (t : TypeId) : ∀ j u, [a, b, c, d, e, f][j]? = some u → (w.alloc (.cells #[a, b, c, d, e, f] t)).cell? ((⟨w.heap.size, 0, none⟩ : Addr).add j) = some u := by
  intro j u hj
  match j, hj with
  | 0, hj => simp at hj; subst hj; simp [Addr.add]
  | 1, hj => simp at hj; subst hj; simp [Addr.add]
  | 2, hj => simp at hj; subst hj; simp [Addr.add]
  | 3, hj => simp at hj; subst hj; simp [Addr.add]
  | 4, hj => simp at hj; subst hj; simp [Addr.add]
  | 5, hj => simp at hj; subst hj; simp [Addr.add]
theorem one_two (a : ByteArray) (n : Int) : ∀ u ∈ [Value.string a, Value.int .i64 n], u.oneCell' = true := by
  intro u hu
  simp at hu
  rcases hu with rfl | rfl <;> rfl
theorem one_nd (n : Int) (b : Bool) : ∀ u ∈ [Value.int .i64 n, Value.bool b], u.oneCell' = true := by
  intro u hu
  simp at hu
  rcases hu with rfl | rfl <;> rfl
theorem upd4 {α : Type} {f h : Nat → α} {i : Nat} {x : α} (hx : h i = x) (he : ∀ j, j < 4 → j ≠ i → f j = h j) : ∀ j, j < 4 → upd f i x j = h j := by
  intro j h4
  by_cases hj : j = i
  · rw [hj, upd_at, hx]
  · rw [upd_ne _ _ _ hj, he j h4 hj]
theorem L4.congr {w : World} {B L : Nat} {v : Nat → Value} {n n' : Nat → Nat} {cs cs' : Nat → List Value} {X : World → Prop} (h : L4 w B L v n cs X) (hn : ∀ i, i < 4 → n i = n' i) (hc : ∀ i, i < 4 → cs i = cs' i) : L4 w B L v n' cs' X :=
  ⟨h.blk, h.base, fun i hi => by rw [← hn i hi, ← hc i hi]; exact h.own i hi, h.noL, h.apart, h.inn⟩
theorem rng {α : Type} (f : Nat → α) (k : Nat) : (List.range (k + 1)).map f = (List.range k).map f ++ [f k] := by rw [List.range_succ, List.map_append]; rfl
/-- The layout that is made, so far. -/
def Made (w wr : World) (v : Nat → Value) (l : Lay) (rs : List RtV) : Prop := L4 wr w.heap.size w.heap.size v (nOf l) (csOf l rs) (fun W => ∀ x ∈ rs, RtAt W x) ∧ Below w.heap.size w wr
theorem made0 (w : World) : Made w (w.alloc (.cells #[.slice none 0 0, .slice none 0 0, .slice none 0 0, .slice none 0 0] 26)) (fun _ => .slice none 0 0) (layB 0 0 0 0) [] :=
  ⟨⟨blk_new w _, Nat.le_refl _, fun i hi => by
      match i, hi with
      | 0, _ => exact World.ownsRow_nil _ _ _ _
      | 1, _ => exact World.ownsRow_nil _ _ _ _
      | 2, _ => exact World.ownsRow_nil _ _ _ _
      | 3, _ => exact World.ownsRow_nil _ _ _ _, fun i _ => by simp [Value.ownBlock], fun i j k _ _ _ h => by simp [Value.ownBlock] at h, fun W _ x hx => by cases hx⟩, (Below.refl _ _).alloc (Nat.le_refl _) _⟩
theorem Made.below {w wr wr' : World} {v : Nat → Value} {l : Lay} {rs : List RtV} (h : Made w wr v l rs) (hb : Below wr.heap.size wr wr') : Made w wr' v l rs := ⟨h.1.below hb, h.2.trans (hb.mono h.2.size)⟩
/-- Behind an append to the row of field i, and the store. -/
theorem Made.put {w wr w1 : World} {v : Nat → Value} {l l' : Lay} {rs rs' : List RtV} (h : Made w wr v l rs) {i m : Nat} (hi : i < 4) {o : Obj} {v' : Value} {ys : List Value}
    (hown : w1.ownsRow w.heap.size (eOf i) (szOf i) v' m ys) (hg : (wr.alloc o).grownBy w1 (v i).ownBlock) (hat : v'.ownBlock = (v i).ownBlock ∨ v'.ownBlock = some (wr.heap.size + 1))
    (hn : nOf l' i = m) (hn2 : ∀ j, j < 4 → j ≠ i → nOf l j = nOf l' j) (hc : csOf l' rs' i = ys) (hc2 : ∀ j, j < 4 → j ≠ i → csOf l rs j = csOf l' rs' j)
    (hX : ∀ W : World, (∀ k, w.heap.size ≤ k → k < wr.heap.size → ¬ foot4 w.heap.size v k → W.heap[k]? = wr.heap[k]?) → ∀ x ∈ rs', RtAt W x) :
    Made w (w1.setCell ⟨w.heap.size, i, none⟩ v') (upd v i v') l' rs' := by
  obtain ⟨h1, h2⟩ := h.1.put hi hown hg hat hX
  exact ⟨L4.congr h1 (upd4 hn hn2) (upd4 hc hc2), h.2.trans h2⟩
/-- A route under way: its name, its path, its points so far. -/
structure Five (wr w5 : World) (k : Nat) (o : Option Addr) (j c : Nat) : Prop where
  below : Below wr.heap.size wr w5
  size : wr.heap.size + 3 ≤ w5.heap.size
  path : w5.heap[wr.heap.size + 1]? = some (.cells #[.int .i64 0] 3 (0, 0))
  blk : w5.heap[wr.heap.size + 2]? = some (.cells #[.string (nm 100 k), .int .i64 0, .int .i64 1, .slice (some ⟨wr.heap.size + 1, 0, none⟩) 1 1, .slice o j c, .slice none 0 0] 33 (0, 0))
  own : w5.ownsRow (wr.heap.size + 3) 35 2 (.slice o j c) j ((needsB j).flatMap nC)
theorem five0 (wr : World) (k : Nat) : Five wr (((wr.alloc (.cells #[.int .u8 100, .int .u8 (97 + (k : Int))] 5)).alloc (.cells #[.int .i64 0] 3)).alloc (.cells #[.string (nm 100 k), .int .i64 0, .int .i64 1, .slice (some ⟨wr.heap.size + 1, 0, none⟩) 1 1, .slice none 0 0, .slice none 0 0] 33)) k none 0 0 := by
  refine ⟨(((Below.refl _ _).alloc (Nat.le_refl _) _).alloc (by simp) _).alloc (by simp; omega) _, by simp, ?_, ?_, World.ownsRow_nil _ _ _ _⟩
  · exact blk_old (blk_new' (by simp))
  · exact blk_new' (by simp)

theorem five_cells {wr w5 : World} {k j c : Nat} {o : Option Addr} (h : Five wr w5 k o j c) : w5.cell? ⟨wr.heap.size + 2, 0, none⟩ = some (.string (nm 100 k)) ∧ w5.cell? ⟨wr.heap.size + 2, 1, none⟩ = some (.int .i64 0) ∧ w5.cell? ⟨wr.heap.size + 2, 2, none⟩ = some (.int .i64 1) ∧
    w5.cell? ⟨wr.heap.size + 2, 3, none⟩ = some (.slice (some ⟨wr.heap.size + 1, 0, none⟩) 1 1) ∧ w5.cell? ⟨wr.heap.size + 2, 4, none⟩ = some (.slice o j c) ∧ w5.cell? ⟨wr.heap.size + 2, 5, none⟩ = some (.slice none 0 0) := by
  refine ⟨?_, ?_, ?_, ?_, ?_, ?_⟩ <;> simp [World.cell?, h.blk]
theorem five_next {wr w5 w6 : World} {k j c o' c'} {o : Option Addr} (h : Five wr w5 k o j c) (hown : w6.ownsRow (wr.heap.size + 3) 35 2 (.slice o' (j + 1) c') (j + 1) ((needsB j).flatMap nC ++ [.int .i64 (j : Int), .bool false]))
    (hg : (w5.alloc (.cells #[.int .i64 (j : Int), .bool false] 35)).grownBy w6 (Value.slice o j c).ownBlock) :
    Five wr (w6.setCell ⟨wr.heap.size + 2, 4, none⟩ (.slice o' (j + 1) c')) k o' (j + 1) c' ∧ w6.cell? ⟨wr.heap.size + 2, 4, none⟩ = some (.slice o j c) ∧ w6.frozen? ⟨wr.heap.size + 2, 4, none⟩ = false := by
  have hsz := h.size
  have keep : ∀ q, q < wr.heap.size + 3 → w6.heap[q]? = w5.heap[q]? := fun q hq => by
    rw [hg.block q (by simp; omega) (fun e => by have := (h.own.lt q e.symm).1; omega), Below.heap_alloc _ _ _ (by omega)]
  have hb6 : Below wr.heap.size wr w6 := h.below.trans (((Below.refl wr.heap.size w5).alloc (by omega) _).grown hg (by simp; omega) fun q hq => by have := (h.own.lt q hq).1; omega)
  have hblk := (keep (wr.heap.size + 2) (by omega)).trans h.blk
  refine ⟨⟨hb6.setCell (by show wr.heap.size ≤ wr.heap.size + 2; omega) _, ?_, ?_, ?_, ?_⟩, by simp [World.cell?, hblk], by simp [World.frozen?, hblk]⟩
  · have := hg.size
    simp only [World.setCell, Array.size_modify]
    simp at this
    omega
  · rw [Below.heap_setCell _ _ _ _ (by show wr.heap.size + 1 ≠ wr.heap.size + 2; omega)]
    exact (keep _ (by omega)).trans h.path
  · exact heap_put hblk _
  · have e : (needsB (j + 1)).flatMap nC = (needsB j).flatMap nC ++ [.int .i64 (j : Int), .bool false] := by
      unfold needsB
      rw [rng, List.flatMap_append]
      rfl
    rw [e]
    exact owns_keep hown fun q hq => Below.heap_setCell _ _ _ _ (by show q ≠ wr.heap.size + 2; have := (hown.lt q hq).1; omega)
theorem five_rt {wr w5 : World} {k j c : Nat} {o : Option Addr} (h : Five wr w5 k o j c) (W : World) (hW : ∀ q, wr.heap.size ≤ q → q < w5.heap.size → W.heap[q]? = w5.heap[q]?) :
    RtAt W (rtB j k, .slice (some ⟨wr.heap.size + 1, 0, none⟩) 1 1, .slice o j c, .slice none 0 0) := by
  have hsz := h.size
  refine ⟨?_, ?_, rowAt.nil _ _ _⟩
  · have h1 : W.heap[wr.heap.size + 1]? = some (.cells #[.int .i64 0] 3 (0, 0)) := (hW _ (by omega) (by omega)).trans h.path
    exact row_blk (cs := iC) (fun _ => rfl) [0] h1 rfl
  · have h2 : W.ownsRow (wr.heap.size + 3) 35 2 (.slice o j c) j ((needsB j).flatMap nC) := owns_keep h.own fun q hq => hW q (by have := (h.own.lt q hq).1; omega) (h.own.lt q hq).2
    have hl : (needsB j).length = j := by simp [needsB]
    refine rowAt_of_owns (base := wr.heap.size + 3) (e := 35) (fun _ => rfl) ?_
    show W.ownsRow _ _ 2 (.slice o j c) (needsB j).length _
    rw [hl]
    exact h2
theorem one_six (a : ByteArray) (p q r : Value) (hp : p.oneCell' = true) (hq : q.oneCell' = true) (hr : r.oneCell' = true) : ∀ u ∈ [Value.string a, Value.int .i64 0, Value.int .i64 1, p, q, r], u.oneCell' = true := by
  intro u hu
  simp at hu
  rcases hu with rfl | rfl | rfl | rfl | rfl | rfl <;> first | rfl | assumption
theorem mid_of {wr : World} {s g p r : Nat} {v : Nat → Value} {rs : List RtV} (hs : s ≤ 15) (hg : g ≤ 10) (hp : p ≤ 8) (hr : r ≤ 8) {B L : Nat} {X : World → Prop} (h : L4 wr B L v (nOf (layB s g p r)) (csOf (layB s g p r) rs) X)
    (hx : ∀ x ∈ rs, capOk x.2.1 ∧ x.1 ∈ (layB s g p 8).routes) : IsMid (layB s g p r) rs v := by
  have cp : ∀ i, i < 4 → capOk (v i) := fun i hi o n c e => by
    rcases (h.own i hi).2 with ⟨e', h0⟩ | ⟨g, cap, cur, e', _, _, h2, _⟩
    · rw [e] at e'
      injection e' with e1 e2 e3
      omega
    · rw [e] at e'
      injection e' with e1 e2 e3
      omega
  refine ⟨by simp [layB]; omega, by simp [layB]; omega, by simp [layB]; omega, by simp [layB]; omega, fun x hxx => ?_, cp 0 (by omega), cp 2 (by omega)⟩
  obtain ⟨h1, h2⟩ := hx x hxx
  obtain ⟨i, _, e⟩ := List.mem_map.1 h2
  rw [← e]
  exact ⟨h1, by simp [rtB], by simp [rtB, needsB]; omega, by simp [rtB]⟩

set_option maxRecDepth 1000000 in
set_option maxHeartbeats 4000000 in
theorem core (w : World) (s g p r : Nat) (hs : s ≤ 15) (hg : g ≤ 10) (hp : p ≤ 8) (hr : r ≤ 8) :
    Calls Try.prog 3 #[.int .i64 (s : Int), .int .i64 (g : Int), .int .i64 (p : Int), .int .i64 (r : Int)] w fun e w' => e = .returned (.bool true) ∧ Below w.heap.size w w' := by
  have HL : Hid (Made w (w.alloc (.cells #[.slice none 0 0, .slice none 0 0, .slice none 0 0, .slice none 0 0] 26)) (fun _ => .slice none 0 0) (layB 0 0 0 0) []) := made0 w
  go_enter Try.func3, Try.ntmps3
  go_wp2
  go_loopg [10] s (fun gk i wr => ∃ k : Nat, ∃ v, gk = s - k ∧ i = .int .i64 k ∧ k ≤ s ∧ Made w wr v (layB k 0 0 0) [])
  case atStart => exact ⟨0, _, rfl, rfl, by omega, HL.out⟩
  case round =>
    clear HL
    obtain ⟨k, v, rfl, rfl, hk, hrel⟩ := hrel
    have HL : Hid (Made w wr v (layB k 0 0 0) []) := hrel
    clear hrel
    by_cases hlt : k < s
    · have hki : (k : Int) < (s : Int) := by omega
      have hcv : (convert 27 9 (.slice (some ⟨wr.heap.size, 0, none⟩) 2 2)).run Try.prog (wr.alloc (.cells #[.int .u8 97, .int .u8 (97 + (k : Int))] 5)) = .ok (.string (nm 97 k)) (wr.alloc (.cells #[.int .u8 97, .int .u8 (97 + (k : Int))] 5)) := conv_two 97 k wr
      have HL1 : Hid (Made w (wr.alloc (.cells #[.int .u8 97, .int .u8 (97 + (k : Int))] 5)) v (layB k 0 0 0) []) := HL.out.below ((Below.refl _ _).alloc (Nat.le_refl _) _)
      have hcell := HL.out.1.cells.1.1
      obtain ⟨i0, hi, hz0, hz1, hz2⟩ := info_parts infoS
      have HO : Hid ((wr.alloc (.cells #[.int .u8 97, .int .u8 (97 + (k : Int))] 5)).ownsRow w.heap.size 9 1 (v 0) k (csOf (layB k 0 0 0) [] 0)) := by
        have := HL1.out.1.own 0 (by omega)
        rw [show nOf (layB k 0 0 0) 0 = k by simp [nOf, layB]] at this
        exact this
      have hsz : w.heap.size ≤ ((wr.alloc (.cells #[.int .u8 97, .int .u8 (97 + (k : Int))] 5)).alloc (.cells #[.string (nm 97 k)] 9)).heap.size := by have := HL.out.2.size; simp; omega
      have HSZ : Hid (w.heap.size ≤ ((wr.alloc (.cells #[.int .u8 97, .int .u8 (97 + (k : Int))] 5)).alloc (.cells #[.string (nm 97 k)] 9)).heap.size) := hsz
      clear hsz
      go_wp2_with (at_builtin; refine wpList_append_own_at _ rfl _ _ 22 rfl w.heap.size 9 i0 (.string ⟨#[]⟩) 1 16 Try.underlying22 hi hz0 hz1 hz2 rfl (by decide) (v 0) k _ rfl (HO.out.alloc _) ⟨wr.heap.size + 1, 0, none⟩ 1 1 [.string (nm 97 k)] rfl rfl (new_one _ _ _ _) (one_str _) (by unfold maxLen; omega) (by omega) HSZ.out ?_)
      intro v' w1 hown' hgrow _ hat
      obtain ⟨o', c', rfl⟩ := owns_slice hown'
      obtain ⟨e0, e1, e2, e3, ef⟩ := HL1.out.1.after (i := 0) (by omega) hgrow
      have hf := ef 0
      have HN : Hid (Made w (w1.setCell ⟨w.heap.size, 0, none⟩ (.slice o' (k + 1) c')) (upd v 0 (.slice o' (k + 1) c')) (layB (k + 1) 0 0 0) []) := by
        refine HL1.out.put (i := 0) (by omega) (m := k + 1) hown' hgrow (by simpa using hat) (by simp [nOf, layB]) ?_ ?_ ?_ (fun W _ x hx => by cases hx)
        · intro j hj4 hj
          match j, hj4 with
          | 0, _ => exact absurd rfl hj
          | 1, _ => rfl
          | 2, _ => rfl
          | 3, _ => rfl
        · show ((List.range (k + 1)).map (nm 97)).flatMap sC = ((List.range k).map (nm 97)).flatMap sC ++ _
          rw [rng, List.flatMap_append]
          rfl
        · intro j hj4 hj
          match j, hj4 with
          | 0, _ => exact absurd rfl hj
          | 1, _ => rfl
          | 2, _ => rfl
          | 3, _ => rfl
      clear hown' hgrow hat hi hz0 hz1 hz2 ef
      go_wp2
      go_roundg (s - (k + 1))
      case rel => exact ⟨k + 1, _, rfl, by go_num, by omega, HN.out⟩
      case measure => omega
    · have hkN : k = s := by omega
      obtain rfl : s = k := hkN.symm
      have hki : ¬ (s : Int) < (s : Int) := by omega
      go_wp2
      go_loopg [11] g (fun gk i wr => ∃ k : Nat, ∃ v, gk = g - k ∧ i = .int .i64 k ∧ k ≤ g ∧ Made w wr v (layB s k 0 0) [])
      case atStart => exact ⟨0, _, rfl, rfl, by omega, HL.out⟩
      case round =>
        clear HL
        obtain ⟨k, v, rfl, rfl, hk, hrel⟩ := hrel
        have HL : Hid (Made w wr v (layB s k 0 0) []) := hrel
        clear hrel
        by_cases hlt : k < g
        · have hki : (k : Int) < (g : Int) := by omega
          have hcv : (convert 27 9 (.slice (some ⟨wr.heap.size, 0, none⟩) 2 2)).run Try.prog (wr.alloc (.cells #[.int .u8 98, .int .u8 (97 + (k : Int))] 5)) = .ok (.string (nm 98 k)) (wr.alloc (.cells #[.int .u8 98, .int .u8 (97 + (k : Int))] 5)) := conv_two 98 k wr
          have HL1 : Hid (Made w (wr.alloc (.cells #[.int .u8 98, .int .u8 (97 + (k : Int))] 5)) v (layB s k 0 0) []) := HL.out.below ((Below.refl _ _).alloc (Nat.le_refl _) _)
          have hcell := HL.out.1.cells.1.2.2.1
          obtain ⟨i0, hi, hz0, hz1, hz2⟩ := info_parts infoS
          have HO : Hid ((wr.alloc (.cells #[.int .u8 98, .int .u8 (97 + (k : Int))] 5)).ownsRow w.heap.size 9 1 (v 2) k (csOf (layB s k 0 0) [] 2)) := by
            have := HL1.out.1.own 2 (by omega)
            rw [show nOf (layB s k 0 0) 2 = k by simp [nOf, layB]] at this
            exact this
          have hsz : w.heap.size ≤ ((wr.alloc (.cells #[.int .u8 98, .int .u8 (97 + (k : Int))] 5)).alloc (.cells #[.string (nm 98 k)] 9)).heap.size := by have := HL.out.2.size; simp; omega
          have HSZ : Hid (w.heap.size ≤ ((wr.alloc (.cells #[.int .u8 98, .int .u8 (97 + (k : Int))] 5)).alloc (.cells #[.string (nm 98 k)] 9)).heap.size) := hsz
          clear hsz
          go_wp2_with (at_builtin; refine wpList_append_own_at _ rfl _ _ 22 rfl w.heap.size 9 i0 (.string ⟨#[]⟩) 1 16 Try.underlying22 hi hz0 hz1 hz2 rfl (by decide) (v 2) k _ rfl (HO.out.alloc _) ⟨wr.heap.size + 1, 0, none⟩ 1 1 [.string (nm 98 k)] rfl rfl (new_one _ _ _ _) (one_str _) (by unfold maxLen; omega) (by omega) HSZ.out ?_)
          intro v' w1 hown' hgrow _ hat
          obtain ⟨o', c', rfl⟩ := owns_slice hown'
          obtain ⟨e0, e1, e2, e3, ef⟩ := HL1.out.1.after (i := 2) (by omega) hgrow
          have hf := ef 2
          have HN : Hid (Made w (w1.setCell ⟨w.heap.size, 2, none⟩ (.slice o' (k + 1) c')) (upd v 2 (.slice o' (k + 1) c')) (layB s (k + 1) 0 0) []) := by
            refine HL1.out.put (i := 2) (by omega) (m := k + 1) hown' hgrow (by simpa using hat) (by simp [nOf, layB]) ?_ ?_ ?_ (fun W _ x hx => by cases hx)
            · intro j hj4 hj
              match j, hj4 with
              | 0, _ => rfl
              | 1, _ => rfl
              | 2, _ => exact absurd rfl hj
              | 3, _ => rfl
            · show ((List.range (k + 1)).map (nm 98)).flatMap sC = ((List.range k).map (nm 98)).flatMap sC ++ _
              rw [rng, List.flatMap_append]
              rfl
            · intro j hj4 hj
              match j, hj4 with
              | 0, _ => rfl
              | 1, _ => rfl
              | 2, _ => exact absurd rfl hj
              | 3, _ => rfl
          clear hown' hgrow hat hi hz0 hz1 hz2 ef
          go_wp2
          go_roundg (g - (k + 1))
          case rel => exact ⟨k + 1, _, rfl, by go_num, by omega, HN.out⟩
          case measure => omega
        · have hkN : k = g := by omega
          obtain rfl : g = k := hkN.symm
          have hki : ¬ (g : Int) < (g : Int) := by omega
          go_wp2
          go_loopg [12] p (fun gk i wr => ∃ k : Nat, ∃ v, gk = p - k ∧ i = .int .i64 k ∧ k ≤ p ∧ Made w wr v (layB s g k 0) [])
          case atStart => exact ⟨0, _, rfl, rfl, by omega, HL.out⟩
          case round =>
            clear HL
            obtain ⟨k, v, rfl, rfl, hk, hrel⟩ := hrel
            have HL : Hid (Made w wr v (layB s g k 0) []) := hrel
            clear hrel
            by_cases hlt : k < p
            · have hki : (k : Int) < (p : Int) := by omega
              have hcv : (convert 27 9 (.slice (some ⟨wr.heap.size, 0, none⟩) 2 2)).run Try.prog (wr.alloc (.cells #[.int .u8 99, .int .u8 (97 + (k : Int))] 5)) = .ok (.string (nm 99 k)) (wr.alloc (.cells #[.int .u8 99, .int .u8 (97 + (k : Int))] 5)) := conv_two 99 k wr
              have HL1 : Hid (Made w (wr.alloc (.cells #[.int .u8 99, .int .u8 (97 + (k : Int))] 5)) v (layB s g k 0) []) := HL.out.below ((Below.refl _ _).alloc (Nat.le_refl _) _)
              have hcell := HL.out.1.cells.1.2.1
              obtain ⟨i0, hi, hz0, hz1, hz2⟩ := info_parts infoPt
              have HO : Hid ((wr.alloc (.cells #[.int .u8 99, .int .u8 (97 + (k : Int))] 5)).ownsRow w.heap.size 29 2 (v 1) k (csOf (layB s g k 0) [] 1)) := by
                have := HL1.out.1.own 1 (by omega)
                rw [show nOf (layB s g k 0) 1 = k by simp [nOf, layB]] at this
                exact this
              have hsz : w.heap.size ≤ ((wr.alloc (.cells #[.int .u8 99, .int .u8 (97 + (k : Int))] 5)).alloc (.cells #[.string (nm 99 k), .int .i64 0] 29)).heap.size := by have := HL.out.2.size; simp; omega
              have HSZ : Hid (w.heap.size ≤ ((wr.alloc (.cells #[.int .u8 99, .int .u8 (97 + (k : Int))] 5)).alloc (.cells #[.string (nm 99 k), .int .i64 0] 29)).heap.size) := hsz
              clear hsz
              go_wp2_with (at_builtin; refine wpList_append_own_at _ rfl _ _ 23 rfl w.heap.size 29 i0 (.agg #[.string ⟨#[]⟩, .int .i64 0]) 2 24 Try.underlying23 hi hz0 hz1 hz2 rfl (by decide) (v 1) k _ rfl (HO.out.alloc _) ⟨wr.heap.size + 1, 0, none⟩ 1 1 [.string (nm 99 k), .int .i64 0] rfl rfl (new_two _ _ _ _ _) (one_two _ _) (by unfold maxLen; omega) (by omega) HSZ.out ?_)
              intro v' w1 hown' hgrow _ hat
              obtain ⟨o', c', rfl⟩ := owns_slice hown'
              obtain ⟨e0, e1, e2, e3, ef⟩ := HL1.out.1.after (i := 1) (by omega) hgrow
              have hf := ef 1
              have HN : Hid (Made w (w1.setCell ⟨w.heap.size, 1, none⟩ (.slice o' (k + 1) c')) (upd v 1 (.slice o' (k + 1) c')) (layB s g (k + 1) 0) []) := by
                refine HL1.out.put (i := 1) (by omega) (m := k + 1) hown' hgrow (by simpa using hat) (by simp [nOf, layB]) ?_ ?_ ?_ (fun W _ x hx => by cases hx)
                · intro j hj4 hj
                  match j, hj4 with
                  | 0, _ => rfl
                  | 1, _ => exact absurd rfl hj
                  | 2, _ => rfl
                  | 3, _ => rfl
                · show ((List.range (k + 1)).map fun i => (nm 99 i, (0 : Int))).flatMap pC = ((List.range k).map fun i => (nm 99 i, (0 : Int))).flatMap pC ++ _
                  rw [rng, List.flatMap_append]
                  rfl
                · intro j hj4 hj
                  match j, hj4 with
                  | 0, _ => rfl
                  | 1, _ => exact absurd rfl hj
                  | 2, _ => rfl
                  | 3, _ => rfl
              clear hown' hgrow hat hi hz0 hz1 hz2 ef
              go_wp2
              go_roundg (p - (k + 1))
              case rel => exact ⟨k + 1, _, rfl, by go_num, by omega, HN.out⟩
              case measure => omega
            · have hkN : k = p := by omega
              obtain rfl : p = k := hkN.symm
              have hki : ¬ (p : Int) < (p : Int) := by omega
              have HL0 : Hid (∃ rs : List RtV, Made w wr v (layB s g p 0) rs ∧ rs.map (·.1) = (layB s g p 0).routes ∧ ∀ x ∈ rs, capOk x.2.1 ∧ x.1 ∈ (layB s g p 8).routes) := ⟨[], HL.out, rfl, fun x hx => by cases hx⟩
              clear HL hlt
              go_wp2
              go_loopg [13] r (fun gk i wr => ∃ k : Nat, ∃ v rs, gk = r - k ∧ i = .int .i64 k ∧ k ≤ r ∧ Made w wr v (layB s g p k) rs ∧ rs.map (·.1) = (layB s g p k).routes ∧ ∀ x ∈ rs, capOk x.2.1 ∧ x.1 ∈ (layB s g p 8).routes)
              case atStart =>
                obtain ⟨rs, a1, a2, a3⟩ := HL0.out
                exact ⟨0, v, rs, rfl, rfl, by omega, a1, a2, a3⟩
              case round =>
                clear HL0
                obtain ⟨k, v, rs, rfl, rfl, hk, h1, h2, h3⟩ := hrel
                have HL : Hid (Made w wr v (layB s g p k) rs ∧ rs.map (·.1) = (layB s g p k).routes ∧ ∀ x ∈ rs, capOk x.2.1 ∧ x.1 ∈ (layB s g p 8).routes) := ⟨h1, h2, h3⟩
                clear h1 h2 h3
                by_cases hlt : k < r
                · have hki : (k : Int) < (r : Int) := by omega
                  have hcv : (convert 27 9 (.slice (some ⟨wr.heap.size, 0, none⟩) 2 2)).run Try.prog (wr.alloc (.cells #[.int .u8 100, .int .u8 (97 + (k : Int))] 5)) = .ok (.string (nm 100 k)) (wr.alloc (.cells #[.int .u8 100, .int .u8 (97 + (k : Int))] 5)) := conv_two 100 k wr
                  have HS3 : Hid (Five wr (((wr.alloc (.cells #[.int .u8 100, .int .u8 (97 + (k : Int))] 5)).alloc (.cells #[.int .i64 0] 3)).alloc (.cells #[.string (nm 100 k), .int .i64 0, .int .i64 1, .slice (some ⟨wr.heap.size + 1, 0, none⟩) 1 1, .slice none 0 0, .slice none 0 0] 33)) k none 0 0) := five0 wr k
                  generalize wr = w4 at *
                  go_wp2
                  go_loopg [15] p (fun gk i wr5 => ∃ j : Nat, ∃ oj cj, gk = p - j ∧ i = .int .i64 j ∧ j ≤ p ∧ Five w4 wr5 k oj j cj)
                  case atStart => exact ⟨0, none, 0, rfl, rfl, by omega, HS3.out⟩
                  case round =>
                    clear HS3
                    obtain ⟨j, oj, cj, rfl, rfl, hj, hrel5⟩ := hrel
                    have H5 : Hid (Five w4 wr k oj j cj) := hrel5
                    clear hrel5
                    by_cases hlj : j < p
                    · have hji : (j : Int) < (p : Int) := by omega
                      have hcell : wr.cell? ⟨w4.heap.size + 2, 4, none⟩ = some (.slice oj j cj) := by simp [World.cell?, H5.out.blk]
                      obtain ⟨i0, hi, hz0, hz1, hz2⟩ := info_parts infoNd
                      have HSZ : Hid (w4.heap.size + 3 ≤ (wr.alloc (.cells #[.int .i64 (j : Int), .bool false] 35)).heap.size) := by have := H5.out.size; simp [Hid]; omega
                      go_wp2_with (at_builtin; refine wpList_append_own_at _ rfl _ _ 31 rfl (w4.heap.size + 3) 35 i0 (.agg #[.int .i64 0, .bool false]) 2 16 Try.underlying31 hi hz0 hz1 hz2 rfl (by decide) _ j _ rfl (H5.out.own.alloc _) ⟨wr.heap.size, 0, none⟩ 1 1 [.int .i64 (j : Int), .bool false] rfl rfl (cell_two_new _ _ _ _) (one_nd _ _) (by unfold maxLen; omega) (by omega) HSZ.out ?_)
                      intro v' w6 hown' hgrow _ _
                      obtain ⟨o', c', rfl⟩ := owns_slice hown'
                      obtain ⟨f1, f2, f3⟩ := five_next H5.out hown' hgrow
                      have HN : Hid (Five w4 (w6.setCell ⟨w4.heap.size + 2, 4, none⟩ (.slice o' (j + 1) c')) k o' (j + 1) c') := f1
                      clear hown' hgrow hi hz0 hz1 hz2 f1
                      go_wp2
                      go_roundg (p - (j + 1))
                      case rel => exact ⟨j + 1, o', c', rfl, by go_num, by omega, HN.out⟩
                      case measure => omega
                    · have hjp : j = p := by omega
                      obtain rfl : p = j := hjp.symm
                      have hji : ¬ (p : Int) < (p : Int) := by omega
                      obtain ⟨b0, b1, b2, b3, b4, b5⟩ := five_cells H5.out
                      have HL1 : Hid (Made w wr v (layB s g p k) rs) := HL.out.1.below H5.out.below
                      have hcell := HL1.out.1.cells.1.2.2.2
                      obtain ⟨i0, hi, hz0, hz1, hz2⟩ := info_parts infoRo
                      have HO : Hid (wr.ownsRow w.heap.size 33 6 (v 3) k (rs.flatMap rC)) := by
                        have := HL1.out.1.own 3 (by omega)
                        rw [show nOf (layB s g p k) 3 = k by simp [nOf, layB]] at this
                        exact this
                      have HSZ : Hid (w.heap.size ≤ (wr.alloc (.cells #[.string (nm 100 k), .int .i64 0, .int .i64 1, .slice (some ⟨w4.heap.size + 1, 0, none⟩) 1 1, .slice oj p cj, .slice none 0 0] 33)).heap.size) := by have := HL1.out.2.size; simp [Hid]; omega
                      go_wp2_with (at_builtin; refine wpList_append_own_at _ rfl _ _ 24 rfl w.heap.size 33 i0 (.agg #[.string ⟨#[]⟩, .int .i64 0, .int .i64 0, .slice none 0 0, .slice none 0 0, .slice none 0 0]) 6 104 Try.underlying24 hi hz0 hz1 hz2 rfl (by decide) (v 3) k _ rfl (HO.out.alloc _) ⟨wr.heap.size, 0, none⟩ 1 1 [.string (nm 100 k), .int .i64 0, .int .i64 1, .slice (some ⟨w4.heap.size + 1, 0, none⟩) 1 1, .slice oj p cj, .slice none 0 0] rfl rfl (cell_six_new _ _ _ _ _ _ _ _) (one_six _ _ _ _ rfl rfl rfl) (by unfold maxLen; omega) (by omega) HSZ.out ?_)
                      intro v' w1 hown' hgrow _ hat
                      obtain ⟨o', c', rfl⟩ := owns_slice hown'
                      obtain ⟨e0, e1, e2, e3, ef⟩ := HL1.out.1.after (i := 3) (by omega) hgrow
                      have hf := ef 3
                      have HN : Hid (Made w (w1.setCell ⟨w.heap.size, 3, none⟩ (.slice o' (k + 1) c')) (upd v 3 (.slice o' (k + 1) c')) (layB s g p (k + 1)) (rs ++ [(rtB p k, .slice (some ⟨w4.heap.size + 1, 0, none⟩) 1 1, .slice oj p cj, .slice none 0 0)])) := by
                        refine HL1.out.put (i := 3) (by omega) (m := k + 1) hown' hgrow (by simpa using hat) (by simp [nOf, layB]) ?_ ?_ ?_ ?_
                        · intro j hj4 hj
                          match j, hj4 with
                          | 0, _ => rfl
                          | 1, _ => rfl
                          | 2, _ => rfl
                          | 3, _ => exact absurd rfl hj
                        · show (rs ++ [_]).flatMap rC = rs.flatMap rC ++ _
                          rw [List.flatMap_append]
                          rfl
                        · intro j hj4 hj
                          match j, hj4 with
                          | 0, _ => rfl
                          | 1, _ => rfl
                          | 2, _ => rfl
                          | 3, _ => exact absurd rfl hj
                        · intro W hW x hx
                          rcases List.mem_append.1 hx with hx | hx
                          · exact HL1.out.1.inn W hW x hx
                          · rw [List.mem_singleton.1 hx]
                            exact five_rt H5.out W (fun q h1 h2 => hW q (by have := HL.out.1.2.size; omega) h2 fun hf => by have := (HL.out.1.1.foot hf).2; omega)
                      have HRS : Hid ((rs ++ [(rtB p k, Value.slice (some ⟨w4.heap.size + 1, 0, none⟩) 1 1, Value.slice oj p cj, Value.slice none 0 0)]).map (·.1) = (layB s g p (k + 1)).routes ∧ ∀ x ∈ rs ++ [(rtB p k, Value.slice (some ⟨w4.heap.size + 1, 0, none⟩) 1 1, Value.slice oj p cj, Value.slice none 0 0)], capOk x.2.1 ∧ x.1 ∈ (layB s g p 8).routes) := by
                        refine ⟨?_, fun x hx => ?_⟩
                        · rw [List.map_append, HL.out.2.1]
                          show (List.range k).map (rtB p) ++ [rtB p k] = (List.range (k + 1)).map (rtB p)
                          rw [rng]
                        · rcases List.mem_append.1 hx with hx | hx
                          · exact HL.out.2.2 x hx
                          · rw [List.mem_singleton.1 hx]
                            exact ⟨cap_of (Nat.le_refl _), List.mem_map.2 ⟨k, List.mem_range.2 (by omega), rfl⟩⟩
                      clear hown' hgrow hat hi hz0 hz1 hz2 ef
                      go_wp2
                      go_roundg (r - (k + 1))
                      case rel => exact ⟨k + 1, _, _, rfl, by go_num, by omega, HN.out, HRS.out⟩
                      case measure => omega
                · have hkN : k = r := by omega
                  obtain rfl : r = k := hkN.symm
                  have hki : ¬ (r : Int) < (r : Int) := by omega
                  have hc := HL.out.1.1.cells.1
                  obtain ⟨q0, q1, q2, q3⟩ := hc
                  have IC : Hid (Calls Try.prog 4 #[.agg #[v 0, v 1, v 2, v 3]] wr fun e w' => e = .returned (.bool (okB s g p r)) ∧ Below wr.heap.size wr w') := by
                    rw [← isB_lay]
                    exact tableIs_any v (layB s g p r) rs wr (L4.rd HL.out.1.1 HL.out.2.1) (mid_of hs hg hp hr HL.out.1.1 HL.out.2.2)
                  have HW : Hid (Below w.heap.size w wr) := HL.out.1.2
                  clear HL
                  by_cases hr0 : r = 0
                  · have hr0i : ((r : Int) == 0) = true := by simp; omega
                    go_wp2_with fail
                    all_goals
                      refine IC.out.mono ?_
                      first
                      | (have e : okB s g p r = true := decide_eq_true (by omega)
                         rw [e])
                      | (have e : okB s g p r = false := decide_eq_false (by omega)
                         rw [e])
                      rintro e w5 ⟨rfl, hb⟩
                      have HB5 : Hid (Below w.heap.size w w5) := HW.out.trans (hb.mono HW.out.size)
                      clear hb
                      go_wp2_with fail
                      refine (known_any w5).mono ?_
                      rintro e w6 ⟨rfl, hk6⟩
                      have HB6 : Hid (Below w.heap.size w w6) := HB5.out.trans (hk6.mono HB5.out.size)
                      clear hk6
                      go_wp2
                      go_ret
                      exact ⟨rfl, HB6.out⟩
                  · have hr0i : ((r : Int) == 0) = false := by simp; omega
                    by_cases hg2 : (2 : Int) ≤ (g : Int)
                    all_goals
                      go_wp2_with fail
                      all_goals
                        refine IC.out.mono ?_
                        first
                        | (have e : okB s g p r = true := decide_eq_true (by omega)
                           rw [e])
                        | (have e : okB s g p r = false := decide_eq_false (by omega)
                           rw [e])
                        rintro e w5 ⟨rfl, hb⟩
                        have HB5 : Hid (Below w.heap.size w w5) := HW.out.trans (hb.mono HW.out.size)
                        clear hb
                        go_wp2_with fail
                        refine (known_any w5).mono ?_
                        rintro e w6 ⟨rfl, hk6⟩
                        have HB6 : Hid (Below w.heap.size w w6) := HB5.out.trans (hk6.mono HB5.out.size)
                        clear hk6
                        go_wp2
                        go_ret
                        exact ⟨rfl, HB6.out⟩

set_option maxRecDepth 1000000 in
set_option maxHeartbeats 1000000 in
theorem walk (a b c d : Int) (_ : (Lit.int .i64 a).wf = true) (_ : (Lit.int .i64 b).wf = true) (_ : (Lit.int .i64 c).wf = true) (_ : (Lit.int .i64 d).wf = true) (w : World) :
    Calls Try.prog 3 #[.int .i64 a, .int .i64 b, .int .i64 c, .int .i64 d] w fun e w' => e = .returned (.bool true) ∧ Below w.heap.size w w' := by
  by_cases h1 : a < 0
  · go_enter Try.func3, Try.ntmps3
    go_wp2
    go_ret
    exact ⟨rfl, Below.refl _ _⟩
  by_cases h2 : 15 < a
  · go_enter Try.func3, Try.ntmps3
    go_wp2
    go_ret
    exact ⟨rfl, Below.refl _ _⟩
  by_cases h3 : b < 0
  · go_enter Try.func3, Try.ntmps3
    go_wp2
    go_ret
    exact ⟨rfl, Below.refl _ _⟩
  by_cases h4 : 10 < b
  · go_enter Try.func3, Try.ntmps3
    go_wp2
    go_ret
    exact ⟨rfl, Below.refl _ _⟩
  by_cases h5 : c < 0
  · go_enter Try.func3, Try.ntmps3
    go_wp2
    go_ret
    exact ⟨rfl, Below.refl _ _⟩
  by_cases h6 : 8 < c
  · go_enter Try.func3, Try.ntmps3
    go_wp2
    go_ret
    exact ⟨rfl, Below.refl _ _⟩
  by_cases h7 : d < 0
  · go_enter Try.func3, Try.ntmps3
    go_wp2
    go_ret
    exact ⟨rfl, Below.refl _ _⟩
  by_cases h8 : 8 < d
  · go_enter Try.func3, Try.ntmps3
    go_wp2
    go_ret
    exact ⟨rfl, Below.refl _ _⟩
  obtain ⟨s, rfl⟩ := Int.eq_ofNat_of_zero_le (Int.not_lt.1 h1)
  obtain ⟨g, rfl⟩ := Int.eq_ofNat_of_zero_le (Int.not_lt.1 h3)
  obtain ⟨p, rfl⟩ := Int.eq_ofNat_of_zero_le (Int.not_lt.1 h5)
  obtain ⟨r, rfl⟩ := Int.eq_ofNat_of_zero_le (Int.not_lt.1 h7)
  exact core w s g p r (by omega) (by omega) (by omega) (by omega)

theorem own : ownKnob Try.prog.godebug = none := by kernel_rfl

set_option maxRecDepth 100000 in
theorem lifted (os : Os) (started : os.Started) (H : Type) (enc : TypeId × Value → H) :
    ReturnsInHanded {} Try.checked os 3 .any (Rows.tableBoundsSpec.pre6 enc Try.prog Try.f3 Rows.tableBoundsRow.domain false) (Rows.tableBoundsSpec.post enc Try.prog Try.f3 false true false false) := by
  refine returnsInHanded_of_change (C := Try.checked) own started (by kernel_rfl) Try.func3
    (ChangeSpec.witness6 (enc := enc) (C := Try.checked) false ⟨#[], #[.int .i64 0, .int .i64 0, .int .i64 0, .int .i64 0], []⟩ 8 (by kernel_rfl) (by kernel_rfl) (by kernel_rfl) (by kernel_rfl)) ?_
  intro W base args ds gs before hval0 hW _ _
  have hval : ∀ (j : Nat) t v, Try.f3.params[j]? = some t → args[j]? = some v → Value.okWide Try.prog W .any base t v := hval0
  have hW' := hW
  obtain ⟨p, q, hA0, hV, rfl, _, _⟩ := hW
  have hA : DataW.TrodAll enc Try.prog W 0 (fun _ => true) true Try.f3.params.toList args.toList ds p := hA0
  rw [Try.params3] at hA hval
  obtain ⟨v0, vs0, d0, ds0, p0, q0, hargs, rfl, rfl, h0, r0⟩ := trodAll_cons hA
  obtain ⟨v1, vs1, d1, ds1, p1, q1, rfl, rfl, rfl, h1, r1⟩ := trodAll_cons r0
  obtain ⟨v2, vs2, d2, ds2, p2, q2, rfl, rfl, rfl, h2, r2⟩ := trodAll_cons r1
  obtain ⟨v3, vs3, d3, ds3, p3, q3, rfl, rfl, rfl, h3, r3⟩ := trodAll_cons r2
  obtain ⟨rfl, rfl, rfl⟩ := trodAll_nil r3
  obtain rfl : args = #[v0, v1, v2, v3] := by cases args; simp_all
  obtain ⟨rfl, rfl⟩ := trodVars_none hV
  obtain ⟨a0, rfl, rfl, rfl, w0⟩ := open_int Try.underlying3 (hval 0 3 v0 rfl rfl) h0
  obtain ⟨a1, rfl, rfl, rfl, w1⟩ := open_int Try.underlying3 (hval 1 3 v1 rfl rfl) h1
  obtain ⟨a2, rfl, rfl, rfl, w2⟩ := open_int Try.underlying3 (hval 2 3 v2 rfl rfl) h2
  obtain ⟨a3, rfl, rfl, rfl, w3⟩ := open_int Try.underlying3 (hval 3 3 v3 rfl rfl) h3
  clear hA0 hval0
  refine (walk a0 a1 a2 a3 w0 w1 w2 w3 W).mono fun e W' ⟨he, bel⟩ => ?_
  subst he
  exact ⟨_, rfl, _, _, _, [], _, [], hW', trodAll_mk1 (shut_bool Try.underlying4 _), (trodAll_cons_mk (shut_int Try.underlying3 w0) (trodAll_cons_mk (shut_int Try.underlying3 w1) (trodAll_cons_mk (shut_int Try.underlying3 w2) (trodAll_cons_mk (shut_int Try.underlying3 w3) trodAll_mk0)))), rfl, bel.frame _, fun h => by cases h⟩

theorem over : Rows.tableBoundsRow.holds Try.pinned (OpenSpec.ofChange Rows.tableBoundsSpec) :=
  OpenClaim.holds_of_wide 3 Try.f3 rfl rfl rfl rfl rfl rfl rfl ⟨rfl, rfl, rfl, rfl, rfl⟩ rfl rfl rfl rfl rfl (by kernel_rfl) Try.func3 (by kernel_rfl)
    (of_decide_eq_true (by kernel_rfl)) (by unfold Func.isWrapper; first | (rw [if_pos (by decide +kernel)]; kernel_rfl) | (rw [if_neg (by decide +kernel)]; exact ⟨rfl, rfl⟩))
    (fun os started H enc _ => lifted os started H enc)

end Go.Proofs.Ytceebimgfajbcaa.tableBounds
namespace Go.Proofs.Ytceebimgfajbcaa
theorem tableBounds_holds : Rows.TableBoundsSaid := tableBounds.over
#print axioms tableBounds_holds
end Go.Proofs.Ytceebimgfajbcaa
