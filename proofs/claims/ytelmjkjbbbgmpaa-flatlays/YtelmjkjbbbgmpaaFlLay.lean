/-
  Package flat: Lay: by a contract.
-/
import Derived.Test.YtelmjkjbbbgmpaaFlRP
import Derived.Test.YtelmjkjbbbgmpaaFlCat
import Derived.Test.YtelmjkjbbbgmpaaFlOf
namespace Go.Proofs.Ytelmjkjbbbgmpaa
open Go.RowKit

theorem put_lay (s : ByteArray) (n : List Int) (k : Nat) (x : Int) (hx : n[k]? = some x) (h : k + 1 < 100) : put (.inr (.inl s) :: (n.take k).map .inl) (.inl x) = .inr (.inl s) :: (n.take (k + 1)).map .inl := by
  have hk := (List.getElem?_eq_some_iff.1 hx).1
  rw [put, if_pos (by rw [List.length_cons, List.length_map, List.length_take]; omega), take_next hx, List.map_append]
  rfl
/-- A row that lies apart from a crate's. -/
theorem row_turn {w w' : World} {c : Nat} {v v' u : Value} {B : Nat} {l : List Int} (h : IRow w B u l) (ht : Turn w w' c v v') (ha : ∀ g, u.ownBlock = some g → ¬ foot c v g) : IRow w' B u l ∧ ∀ g, u.ownBlock = some g → ¬ foot c v' g := by
  refine ⟨owns_keep h fun k hk => ht.block k (h.lt k hk).2 (ha k hk), fun g hg hf => ?_⟩
  rcases hf with rfl | hf
  · exact ha _ hg (.inl rfl)
  · rcases ht.feet with e | ⟨j, hj, e⟩
    · exact ha g hg (.inr (by rw [← e]; exact hf))
    · rw [hf] at e
      have := Option.some.inj e
      have := (h.lt g hg).2
      omega

set_option maxRecDepth 1000000 in
set_option maxHeartbeats 4000000 in
theorem lay_any (ep ct : Int) (v : Value) (l : List Rs) (w : World) (h : rowAt w v 4 rsC l) (hl : l.length ≤ 24) :
    Calls Try.prog 21 #[.int .i64 ep, .int .i64 ct, v] w fun e w' => ∃ c u, e = .returned (.pointer (some ⟨c, 0, none⟩)) ∧ Crate w' w.heap.size c u (layV ep ct l) ∧ Below w.heap.size w w' := by
  have HL : Hid (rowAt w v 4 rsC l) := h
  obtain ⟨ol, cl, rfl, -⟩ := h
  have HNV : Hid (numsV ep ct l = [ep, ct, (l.length : Int)] ++ ofV l ∧ layV ep ct l = .inr (.inl stateS) :: (numsV ep ct l).map .inl) := ⟨rfl, rfl⟩
  obtain ⟨n, hn⟩ : ∃ n, n = l.length := ⟨_, rfl⟩
  have HN : Hid (l.length = n) := hn.symm
  have HOL : Hid ((ofV l).length = 4 * n ∧ (numsV ep ct l).length = 3 + 4 * n) := ⟨by rw [of_len, hn], by rw [nums_len, hn]⟩
  rw [← hn] at HL HNV hl ⊢
  clear hn
  have hnl : ¬ (24 : Int) < (n : Int) := by omega
  generalize hnums : numsV ep ct l = ns at *
  clear hnums
  go_enter Try.func21, Try.ntmps21
  go_wp2_with fail
  refine (new_any _).mono ?_
  rintro e w1 ⟨rfl, rfl⟩
  have C1 : Hid (Crate (w.alloc (.cells #[.slice none 0 0] 76)) w.heap.size w.heap.size (.slice none 0 0) [] ∧ Below w.heap.size w (w.alloc (.cells #[.slice none 0 0] 76))) := ⟨crate_new w, (Below.refl _ _).alloc (Nat.le_refl _) _⟩
  generalize w.alloc (.cells #[.slice none 0 0] 76) = w1 at *
  go_wp2_with fail
  refine (addText_any stateS [] w1 _ _ _ C1.out.1 (by decide)).mono ?_
  rintro e w2 ⟨v2, rfl, c2, t2⟩
  have C2 : Hid (Crate w2 w.heap.size w.heap.size v2 [.inr (.inl stateS)] ∧ Below w.heap.size w w2) := ⟨c2, C1.out.2.trans (C1.out.1.1.turnBelow t2)⟩
  clear c2 t2
  have hb3 : Below w2.heap.size w2 (w2.alloc (.cells #[.int .i64 ep, .int .i64 ct, .int .i64 (n : Int)] 3)) := (Below.refl _ _).alloc (Nat.le_refl _) _
  have O := of_any (.slice ol n cl) l (w2.alloc (.cells #[.int .i64 ep, .int .i64 ct, .int .i64 (n : Int)] 3)) ((HL.out.below C2.out.2).below hb3) (by rw [HN.out]; omega)
  have C3 : Hid (Crate (w2.alloc (.cells #[.int .i64 ep, .int .i64 ct, .int .i64 (n : Int)] 3)) w.heap.size w.heap.size v2 [.inr (.inl stateS)] ∧ Below w.heap.size w (w2.alloc (.cells #[.int .i64 ep, .int .i64 ct, .int .i64 (n : Int)] 3)) ∧ (w2.alloc (.cells #[.int .i64 ep, .int .i64 ct, .int .i64 (n : Int)] 3)).heap[w2.heap.size]? = some (.cells #[.int .i64 ep, .int .i64 ct, .int .i64 (n : Int)] 3 (0, 0))) :=
    ⟨⟨C2.out.1.1.below hb3, C2.out.1.2⟩, C2.out.2.trans (hb3.mono C2.out.2.size), blk_new _ _⟩
  clear hb3
  go_wp2_with fail
  generalize w2.alloc (.cells #[.int .i64 ep, .int .i64 ct, .int .i64 (n : Int)] 3) = w3 at *
  generalize w2.heap.size = b3 at *
  refine O.mono ?_
  rintro e w4 ⟨u, rfl, hu, hb4⟩
  obtain ⟨ou, cu, rfl⟩ := owns_slice hu
  generalize hz : (ofV l).length = z at hu HOL ⊢
  have hb5 : Below w4.heap.size w4 (w4.alloc (.cells #[.slice (some ⟨b3, 0, none⟩) 3 3, .slice ou z cu] 23)) := (Below.refl _ _).alloc (Nat.le_refl _) _
  have hbb := hb4.trans (hb5.mono hb4.size)
  have C5 : Hid (Crate (w4.alloc (.cells #[.slice (some ⟨b3, 0, none⟩) 3 3, .slice ou z cu] 23)) w.heap.size w.heap.size v2 [.inr (.inl stateS)] ∧ Below w.heap.size w (w4.alloc (.cells #[.slice (some ⟨b3, 0, none⟩) 3 3, .slice ou z cu] 23))) :=
    ⟨⟨C3.out.1.1.below hbb, C3.out.1.2⟩, C3.out.2.1.trans (hbb.mono C3.out.2.1.size)⟩
  have CC := concatI_any (.slice (some ⟨w4.heap.size, 0, none⟩) 2 2) [(.slice (some ⟨b3, 0, none⟩) 3 3, [ep, ct, (n : Int)]), (.slice ou z cu, ofV l)] (w4.alloc (.cells #[.slice (some ⟨b3, 0, none⟩) 3 3, .slice ou z cu] 23))
    (row_blk (cs := ivC) (fun _ => rfl) [(.slice (some ⟨b3, 0, none⟩) 3 3, [ep, ct, (n : Int)]), (.slice ou z cu, ofV l)] (blk_new _ _) rfl)
    (fun x hx => by
      rcases List.mem_cons.1 hx with rfl | hx
      · exact row_blk (cs := iC) (fun _ => rfl) [ep, ct, (n : Int)] (blk_below hbb C3.out.2.2) rfl
      · rw [List.mem_singleton.1 hx]
        exact (hu.below hb5).row) (by simp) (by show 3 + ((ofV l).length + 0) ≤ _; rw [hz, HOL.out.1]; omega)
  rw [show ([(Value.slice (some ⟨b3, 0, none⟩) 3 3, [ep, ct, (n : Int)]), (Value.slice ou z cu, ofV l)] : List IRw).flatMap (·.2) = ns by rw [HNV.out.1]; simp] at CC
  clear hb4 hb5 hbb hu O
  go_wp2_with fail
  generalize w4.alloc (.cells #[.slice (some ⟨b3, 0, none⟩) 3 3, .slice ou z cu] 23) = w5 at *
  generalize w4.heap.size = b5 at *
  refine CC.mono ?_
  rintro e w6 ⟨x, rfl, hx, hb6⟩
  obtain ⟨o, c, rfl⟩ := owns_slice hx
  have C6 : Hid (Crate w6 w.heap.size w.heap.size v2 (.inr (.inl stateS) :: ((ns.take 0).map .inl : List It)) ∧ Below w.heap.size w w6 ∧ IRow w6 w5.heap.size (.slice o ns.length c) ns ∧ ∀ g, (Value.slice o ns.length c).ownBlock = some g → ¬ foot w.heap.size v2 g) :=
    ⟨⟨C5.out.1.1.below hb6, C5.out.1.2⟩, C5.out.2.trans (hb6.mono C5.out.2.size), hx, fun g hg hf => by
      have h1 := (World.ownsRow.lt hx g hg).1
      have h2 := (C5.out.1.1.lt hf).2
      omega⟩
  have HNL : Hid (ns.length = 3 + 4 * n) := HOL.out.2
  clear hx hb6 CC
  generalize hk : ns.length = m at *
  have HM : Hid (ns.length = m) := hk
  have hm99 : m ≤ 99 := by rw [HNL.out]; omega
  clear hk
  go_wp2
  go_loopg [26] m (fun gk i wr => ∃ k : Nat, ∃ v', gk = m - k ∧ i = .int .i64 (k : Int) ∧ k ≤ m ∧ Crate wr w.heap.size w.heap.size v' (.inr (.inl stateS) :: ((ns.take k).map .inl : List It)) ∧ Below w.heap.size w wr ∧ IRow wr w5.heap.size (.slice o m c) ns ∧ ∀ g, (Value.slice o m c).ownBlock = some g → ¬ foot w.heap.size v' g)
  case atStart => exact ⟨0, v2, rfl, rfl, by omega, C6.out⟩
  case round =>
    obtain ⟨k, v', rfl, rfl, hk, k1, k2, k3, k4⟩ := hrel
    have HK : Hid (Crate wr w.heap.size w.heap.size v' (.inr (.inl stateS) :: ((ns.take k).map .inl : List It)) ∧ Below w.heap.size w wr ∧ IRow wr w5.heap.size (.slice o m c) ns ∧ ∀ g, (Value.slice o m c).ownBlock = some g → ¬ foot w.heap.size v' g) := ⟨k1, k2, k3, k4⟩
    by_cases hlt : k < m
    · have hki : (k : Int) < (m : Int) := by omega
      obtain ⟨y, hy⟩ := at_of (l := ns) (k := k) (by rw [HM.out]; exact hlt)
      obtain ⟨g, off, rfl, hc⟩ := row_int k3.row k y hy
      have A := addInt_any y _ wr _ _ _ k1
      rw [put_lay stateS ns k y hy (by omega)] at A
      clear k1 k2 k3 k4 hy
      go_wp2_with fail
      refine A.mono ?_
      rintro e w7 ⟨v7, rfl, c7, t7⟩
      have H7 : Hid (Crate w7 w.heap.size w.heap.size v7 (.inr (.inl stateS) :: ((ns.take (k + 1)).map .inl : List It)) ∧ Below w.heap.size w w7 ∧ IRow w7 w5.heap.size (.slice (some ⟨g, off, none⟩) m c) ns ∧ ∀ j, (Value.slice (some ⟨g, off, none⟩) m c).ownBlock = some j → ¬ foot w.heap.size v7 j) :=
        ⟨c7, HK.out.2.1.trans (HK.out.1.1.turnBelow t7), row_turn HK.out.2.2.1 t7 HK.out.2.2.2⟩
      clear c7 t7 A
      go_wp2
      go_roundg (m - (k + 1))
      case rel => exact ⟨k + 1, v7, rfl, by go_num, by omega, H7.out⟩
      case measure => omega
    · have hke : k = m := by omega
      subst hke
      rw [List.take_of_length_le (by rw [HM.out]; exact Nat.le_refl _), ← HNV.out.2] at HK
      clear k1 k2 k3 k4
      go_wp2
      go_ret
      exact ⟨_, _, rfl, HK.out.1, HK.out.2.1⟩
theorem lay_no (ep ct : Int) (ol : Option Addr) (n cl : Nat) (w : World) (hl : 24 < n) :
    Calls Try.prog 21 #[.int .i64 ep, .int .i64 ct, .slice ol n cl] w fun e w' => e = .returned (.pointer none) ∧ w' = w := by
  have hnl : (24 : Int) < (n : Int) := by omega
  go_enter Try.func21, Try.ntmps21
  go_wp2
  go_ret
  exact ⟨rfl, rfl⟩
end Go.Proofs.Ytelmjkjbbbgmpaa
