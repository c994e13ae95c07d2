/-
  Of any text and number: WireOwn returns true. No condition.
-/
import Derived.Test.YtfcoanlegjddpabRows
import Derived.Test.YtfcoanlegjddpabWrBackP
import Derived.Test.YtfcoanlegjddpabWrArgs
import Derived.Test.YtfcoanlegjddpabSmOpen
import Derived.WalkKit
import Derived.ProofKit
import Derived.OpenShut
import Derived.ShutString
import Derived.ChangeOld
import Derived.Below
import Derived.SizedLaws
import Derived.ShutString
namespace Go.Proofs.Ytfcoanlegjddpab.wireOwn
open Go.ChangeShapes Go.WideShapes Go.ChangeAt Go.RowKit
open Go.ChangeMaps (open_string shut_string)

theorem brow_store {w : World} {B g m c : Nat} {b : List (BitVec 8)} (h : BRow w B (.slice (some ⟨g, 0, none⟩) m c) b) (k : Nat) (z : BitVec 8) :
    BRow (w.setCell ⟨g, k, none⟩ (.int .u8 (u8 z))) B (.slice (some ⟨g, 0, none⟩) m c) (b.set k z) ∧ B ≤ g ∧ g < w.heap.size := by
  obtain ⟨o, c', e⟩ := h.form
  injection e with e1 e2 e3
  subst e2
  have h1 := (World.ownsRow.stored (w := w) h k (.int .u8 (u8 z))).1
  have hb := h.base g rfl
  refine ⟨?_, hb.1, hb.2⟩
  unfold BRow
  rw [List.length_set, List.map_set]
  exact h1
theorem rd_setk {r k : Nat} {w : World} (v : Value) : Rd1 r w (w.setCell ⟨r, k, none⟩ v) :=
  ⟨rfl, rfl, rfl, by simp [World.setCell], fun j hj => Below.heap_setCell _ _ _ _ (fun e => hj e)⟩
theorem crate_rd {w w' : World} {B r c : Nat} {v : Value} {l : List It} (h : Crate w B c v l) (hr : Rd1 r w w') (hB : r < B) : Crate w' B c v l :=
  ⟨h.1.keep fun k hk => hr.block k fun e => by have := (h.1.lt hk).1; omega, h.2⟩
theorem crate_rd2 {w0 w w' : World} {B r c : Nat} {v : Value} {l : List It} (h0 : Crate w0 B c v l) (h : Crate w B c v l) (hr : Rd1 r w w') (hB : w0.heap.size ≤ r) : Crate w' B c v l :=
  ⟨h.1.keep fun k hk => hr.block k fun e => by have := (h0.1.lt hk).2; omega, h.2⟩
def own2 (s : ByteArray) (n : Int) : List It := [.inr (.inl s), .inl n]
theorem own_body (s : ByteArray) (n : Int) : bodyV (own2 s n) = (2#8 :: 2#8 :: BitVec.ofNat 8 s.size :: bytesS s) ++ (1#8 :: bigV (n % 2 ^ 64).toNat 8) := rfl
theorem own_len (s : ByteArray) (n : Int) : (bodyV (own2 s n)).length = 12 + s.size := by
  rw [own_body, List.length_append]
  simp only [List.length_cons, bytes_len, big_len]
  omega
theorem own_good (s : ByteArray) (n : Int) (hs : s.size ≤ 100) (hn : (Lit.int .i64 n).wf = true) : ∀ x ∈ own2 s n, okT x ∧ longT x = false := fun x hx => by
  rcases List.mem_cons.1 hx with rfl | hx
  · exact ⟨trivial, decide_eq_false (by omega)⟩
  · rw [List.mem_singleton.1 hx]
    exact ⟨wf_i64 hn, rfl⟩
theorem own_small (s : ByteArray) (n : Int) (hs : s.size ≤ 100) : SmallL (own2 s n) := small_of fun x hx => by
  rcases List.mem_cons.1 hx with rfl | hx
  · show s.size ≤ _; omega
  · rw [List.mem_singleton.1 hx]
    show (0 : Nat) ≤ _; omega
theorem own_at (s : ByteArray) (n : Int) : (telV (bodyV (own2 s n)))[9 + s.size]? = some 1#8 := by
  have h := (tel_parts (bodyV (own2 s n))).2.2.1
  have h2 : ((telV (bodyV (own2 s n))).drop 6)[3 + s.size]? = some 1#8 := by
    rw [h, own_body, List.getElem?_append_right (by simp only [List.length_cons, bytes_len]; omega)]
    simp only [List.length_cons, bytes_len]
    rw [show 3 + s.size - (s.size + 1 + 1 + 1) = 0 by omega]
    rfl
  rw [List.getElem?_drop, show 6 + (3 + s.size) = 9 + s.size by omega] at h2
  exact h2

set_option maxRecDepth 1000000 in
set_option maxHeartbeats 2000000 in
theorem walk (s : ByteArray) (n : Int) (_ : s.size ≤ maxLen) (hn : (Lit.int .i64 n).wf = true) (w : World) :
    Calls Try.prog 6 #[.string s, .int .i64 n] w fun e w' => e = .returned (.bool true) ∧ Below w.heap.size w w' := by
  by_cases h1 : s.size < 1
  · have h1i : (s.size : Int) < 1 := by omega
    go_enter Try.func6, Try.ntmps6
    go_wp2
    go_ret
    exact ⟨rfl, Below.refl _ _⟩
  have h1i : ¬ (s.size : Int) < 1 := by omega
  by_cases h2 : 100 < s.size
  · have h2i : (100 : Int) < (s.size : Int) := by omega
    go_enter Try.func6, Try.ntmps6
    go_wp2
    go_ret
    exact ⟨rfl, Below.refl _ _⟩
  have h2i : ¬ (100 : Int) < (s.size : Int) := by omega
  have C0 : Hid (Crate (w.alloc (.cells #[.slice none 0 0] 67)) w.heap.size w.heap.size (.slice none 0 0) [] ∧ Below w.heap.size w (w.alloc (.cells #[.slice none 0 0] 67))) :=
    ⟨crate_new w, (Below.refl _ _).alloc (Nat.le_refl _) _⟩
  obtain ⟨b, g1, g2, g3, g4⟩ := good_pack (own_good s n (by omega) hn) (by show (2 : Nat) ≤ 100; omega) (by rw [own_len]; omega)
  have hbt : b = telV (bodyV (own2 s n)) := by
    have hp : packV (own2 s n) = some (telV (bodyV (own2 s n))) := by rw [pack_short fun x hx => (own_good s n (by omega) hn x hx).2, if_neg (by rw [own_len]; omega)]
    rw [← g2, hp]
    rfl
  obtain ⟨m, hm⟩ : ∃ m, m = b.length := ⟨_, rfl⟩
  have hm18 : m = 18 + s.size := by rw [hm, g4, own_len]; omega
  have HG : Hid (packE (own2 s n) = 0 ∧ (packV (own2 s n)).getD [] = b ∧ unpackR b = some (own2 s n) ∧ b.length = m ∧ b[m - 9]? = some 1#8) := ⟨g1, g2, g3, hm.symm, by rw [hm18, hbt, show 18 + s.size - 9 = 9 + s.size by omega]; exact own_at s n⟩
  have HSM : Hid (SmallL (own2 s n)) := own_small s n (by omega)
  have HSZ : Hid (s.size ≤ 281474976710656) := by show _ ≤ _; omega
  have hmb : m ≤ 118 ∧ 19 ≤ m := by omega
  obtain ⟨hm1, hm2⟩ := hmb
  clear g1 g2 g3 g4 hbt hm hm18
  go_enter Try.func6, Try.ntmps6
  go_wp2_with fail
  refine (new_any _).mono ?_
  rintro e w2 ⟨rfl, rfl⟩
  generalize hw1 : w.alloc (.cells #[.slice none 0 0] 67) = w1 at *
  clear hw1
  go_wp2_with fail
  refine (addText_any s [] w1 _ _ _ C0.out.1 HSZ.out).mono ?_
  rintro e w2 ⟨v2, rfl, c2, t2⟩
  have H2 : Hid (Crate w2 w.heap.size w.heap.size v2 [.inr (.inl s)] ∧ Below w.heap.size w w2) := ⟨c2, C0.out.2.trans (C0.out.1.1.turnBelow t2)⟩
  clear c2 t2
  go_wp2_with fail
  refine (addInt_any n _ w2 _ _ _ H2.out.1).mono ?_
  rintro e w3 ⟨v3, rfl, c3, t3⟩
  have H3 : Hid (Crate w3 w.heap.size w.heap.size v3 (own2 s n) ∧ Below w.heap.size w w3) := ⟨c3, H2.out.2.trans (H2.out.1.1.turnBelow t3)⟩
  clear c3 t3
  go_wp2_with fail
  refine (pack_any w.heap.size _ w3 H3.out.1.reads (by show (2 : Nat) ≤ 100; omega) HSM.out).mono ?_
  rw [HG.out.1, HG.out.2.1]
  rintro e w4 ⟨v4, rfl, h3, h4⟩
  obtain ⟨o4, c4, ev, hb4, hc4, ho4⟩ := h3.slice
  rw [HG.out.2.2.2.1] at ev
  subst ev
  obtain ⟨g4, off4, e4, -⟩ := hb4 (m - 9) _ HG.out.2.2.2.2
  have hoff : off4 = 0 := by
    rcases h3.2 with ⟨e', h0⟩ | ⟨g, cap', cur, e', _⟩
    · injection e' with e1
      rw [e1] at e4
      cases e4
    · injection e' with e1
      rw [e1] at e4
      injection e4 with e4
      injection e4 with _ e4
      exact e4.symm
  subst hoff
  subst e4
  have H4 : Hid (BRow w4 w3.heap.size (.slice (some ⟨g4, 0, none⟩) m c4) b ∧ Below w3.heap.size w3 w4 ∧ hasBytes w4 (some ⟨g4, 0, none⟩) b ∧ b.length ≤ c4 ∧ (∀ g, (some ⟨g4, 0, none⟩ : Option Addr) = some g → g.block < w4.heap.size)) := ⟨h3, h4, hb4, hc4, ho4⟩
  clear h3 h4 hb4 hc4 ho4
  go_wp2_with fail
  have D := unpack_any (some ⟨g4, 0, none⟩) c4 b w4 H4.out.2.2.1 H4.out.2.2.2.1 H4.out.2.2.2.2
  rw [HG.out.2.2.2.1, HG.out.2.2.1] at D
  refine D.mono ?_
  rintro e w5 ⟨ux, xx, rfl, ⟨rfl, d, vd, rfl, hcd⟩, hb5⟩
  have H5 : Hid (Crate w5 w4.heap.size d vd (own2 s n) ∧ Below w4.heap.size w4 w5 ∧ BRow w5 w3.heap.size (.slice (some ⟨g4, 0, none⟩) m c4) b ∧ Crate w5 w.heap.size w.heap.size v3 (own2 s n)) :=
    ⟨hcd, hb5, H4.out.1.below hb5, ⟨H3.out.1.1.below (H4.out.2.1.trans (hb5.mono H4.out.2.1.size)), H3.out.1.2⟩⟩
  have HG4 : Hid (w3.heap.size ≤ g4 ∧ g4 < w4.heap.size) := H4.out.1.base g4 rfl
  clear D hcd hb5
  go_wp2
  go_loopg [10] m (fun gk i wr => ∃ k : Nat, ∃ q, gk = m - k ∧ i = .int .i64 k ∧ k ≤ m ∧ BRow wr w3.heap.size (.slice (some ⟨g4, 0, none⟩) m c4) q ∧ q.length = m ∧ Rd1 g4 w5 wr)
  case atStart => exact ⟨0, b, rfl, rfl, by omega, H5.out.2.2.1, HG.out.2.2.2.1, Rd1.refl _ _⟩
  case round =>
    obtain ⟨k, q, rfl, rfl, hk, h1, h2, h3⟩ := hrel
    have HR : Hid (BRow wr w3.heap.size (.slice (some ⟨g4, 0, none⟩) m c4) q ∧ q.length = m ∧ Rd1 g4 w5 wr) := ⟨h1, h2, h3⟩
    clear h1 h2 h3
    by_cases hlt : k < m
    · have hki : (k : Int) < (m : Int) := by omega
      obtain ⟨x, hx⟩ : ∃ x, q[k]? = some x := ⟨q[k]'(by rw [HR.out.2.1]; exact hlt), List.getElem?_eq_getElem _⟩
      have hck : wr.cell? ⟨g4, k, none⟩ = some (.int .u8 (x.toNat : Int)) := by
        obtain ⟨oa, ca, e, hb⟩ := HR.out.1.bytes
        injection e with e1
        subst e1
        obtain ⟨b', o', e, hc⟩ := hb k x hx
        injection e with e
        injection e with e1 e2
        subst e1 e2
        rw [Nat.zero_add] at hc
        exact hc
      have hfk : wr.frozen? ⟨g4, k, none⟩ = false := World.ownsRow.frozenAt (w := wr) (g := g4) (by have := HR.out.1; unfold BRow at this; rw [HR.out.2.1] at this; exact this) k
      obtain ⟨s1, s2, s3⟩ := brow_store HR.out.1 k 0#8
      have HS : Hid (BRow (wr.setCell ⟨g4, k, none⟩ (.int .u8 0)) w3.heap.size (.slice (some ⟨g4, 0, none⟩) m c4) (q.set k 0#8) ∧ (q.set k 0#8).length = m ∧ Rd1 g4 w5 (wr.setCell ⟨g4, k, none⟩ (.int .u8 0))) := ⟨s1, by rw [List.length_set, HR.out.2.1], HR.out.2.2.trans (rd_setk _)⟩
      clear s1 s2 s3 hx
      go_wp2
      go_roundg (m - (k + 1))
      case rel => exact ⟨k + 1, _, rfl, by go_num, by omega, HS.out⟩
      case measure => omega
    · have hkN : k = m := by omega
      subst hkN
      have HC : Hid (Crate wr w.heap.size w.heap.size v3 (own2 s n) ∧ Crate wr w4.heap.size d vd (own2 s n) ∧ Below w.heap.size w wr) := by
        refine ⟨crate_rd2 H3.out.1 H5.out.2.2.2 HR.out.2.2 HG4.out.1, crate_rd H5.out.1 HR.out.2.2 HG4.out.2, ?_⟩
        have h35 := H4.out.2.1.trans (H5.out.2.1.mono H4.out.2.1.size)
        exact H3.out.2.trans ((h35.trans (HR.out.2.2.below HG4.out.1)).mono H3.out.2.size)
      go_wp2_with fail
      refine (pack_any w.heap.size _ wr HC.out.1.reads (by show (2 : Nat) ≤ 100; omega) HSM.out).mono ?_
      rw [HG.out.1, HG.out.2.1]
      rintro e w6 ⟨v6, rfl, h3, h4⟩
      have HB6 : Hid (Below wr.heap.size wr w6 ∧ Below w.heap.size w w6) := ⟨h4, HC.out.2.2.trans (h4.mono HC.out.2.2.size)⟩
      obtain ⟨o6, c6, ev, hb6, -, -⟩ := h3.slice
      rw [HG.out.2.2.2.1] at ev
      subst ev
      obtain ⟨g6, off6, rfl, hc6⟩ := bytes_at hb6 (k - 9) _ HG.out.2.2.2.2
      have n1 : ((1#8).toNat : Int) = 1 := rfl
      rw [n1] at hc6
      have HSA : Hid (Calls Try.prog 16 #[.pointer (some ⟨w.heap.size, 0, none⟩), .pointer (some ⟨d, 0, none⟩)] w6 fun e w' => e = .returned (.bool true) ∧ w' = w6) := by
        have := same_any _ _ (own2 s n) (own2 s n) w6 (HC.out.1.reads.below h4) (HC.out.2.1.reads.below h4)
        rw [decide_eq_true rfl] at this
        exact this
      clear h3 h4 hb6 n1
      have h9i : (9 : Int) ≤ (k : Int) := by omega
      have hk9 : ((k : Int) - 9) = ((k - 9 : Nat) : Int) := by omega
      go_wp2_with fail
      refine HSA.out.mono ?_
      rintro e w7 ⟨rfl, hw⟩
      obtain rfl := hw.symm
      go_wp2_with fail
      refine (known_any _).mono ?_
      rintro e w8 ⟨rfl, hk8⟩
      have HB8 : Hid (Below w.heap.size w w8) := HB6.out.2.trans (hk8.mono HB6.out.2.size)
      clear hk8
      go_wp2
      go_ret
      exact ⟨rfl, HB8.out⟩

theorem own : ownKnob Try.prog.godebug = none := by kernel_rfl

set_option maxRecDepth 100000 in
theorem lifted (os : Os) (started : os.Started) (H : Type) (enc : TypeId × Value → H) :
    ReturnsInHanded {} Try.checked os 6 .any (Rows.wireOwnSpec.pre6 enc Try.prog Try.f6 Rows.wireOwnRow.domain false) (Rows.wireOwnSpec.post enc Try.prog Try.f6 false true false false) := by
  refine returnsInHanded_of_change (C := Try.checked) own started (by kernel_rfl) Try.func6
    (ChangeSpec.witness6 (enc := enc) (C := Try.checked) false ⟨#[], #[.string ByteArray.empty, .int .i64 0], []⟩ 8 (by kernel_rfl) (by kernel_rfl) (by kernel_rfl) (by kernel_rfl)) ?_
  intro W base args ds gs before hval0 hW _ _
  have hval : ∀ (j : Nat) t v, Try.f6.params[j]? = some t → args[j]? = some v → Value.okWide Try.prog W .any base t v := hval0
  have hW' := hW
  obtain ⟨p, q, hA0, hV, rfl, _, _⟩ := hW
  have hA : DataW.TrodAll enc Try.prog W 0 (fun _ => true) true Try.f6.params.toList args.toList ds p := hA0
  rw [Try.params6] at hA hval
  obtain ⟨v0, vs0, d0, ds0, p0, q0, hargs, rfl, rfl, h0, r0⟩ := trodAll_cons hA
  obtain ⟨v1, vs1, d1, ds1, p1, q1, rfl, rfl, rfl, h1, r1⟩ := trodAll_cons r0
  obtain ⟨rfl, rfl, rfl⟩ := trodAll_nil r1
  obtain rfl : args = #[v0, v1] := by cases args; simp_all
  obtain ⟨rfl, rfl⟩ := trodVars_none hV
  obtain ⟨a0, rfl, rfl, rfl, w0⟩ := open_string Try.underlying9 (hval 0 9 v0 rfl rfl) h0
  obtain ⟨a1, rfl, rfl, rfl, w1⟩ := open_int Try.underlying3 (hval 1 3 v1 rfl rfl) h1
  clear hA0 hval0
  refine (walk a0 a1 w0 w1 W).mono fun e W' ⟨he, bel⟩ => ?_
  subst he
  exact ⟨_, rfl, _, _, _, [], _, [], hW', trodAll_mk1 (shut_bool Try.underlying4 _), (trodAll_cons_mk (shut_string Try.underlying9 w0) (trodAll_cons_mk (shut_int Try.underlying3 w1) trodAll_mk0)), rfl, bel.frame _, fun h => by cases h⟩

theorem over : Rows.wireOwnRow.holds Try.pinned (OpenSpec.ofChange Rows.wireOwnSpec) :=
  OpenClaim.holds_of_wide 6 Try.f6 rfl rfl rfl rfl rfl rfl rfl ⟨rfl, rfl, rfl, rfl, rfl⟩ rfl rfl rfl rfl rfl (by kernel_rfl) Try.func6 (by kernel_rfl)
    (of_decide_eq_true (by kernel_rfl)) (by unfold Func.isWrapper; first | (rw [if_pos (by decide +kernel)]; kernel_rfl) | (rw [if_neg (by decide +kernel)]; exact ⟨rfl, rfl⟩))
    (fun os started H enc _ => lifted os started H enc)

end Go.Proofs.Ytfcoanlegjddpab.wireOwn
namespace Go.Proofs.Ytfcoanlegjddpab
theorem wireOwn_holds : Rows.WireOwnSaid := wireOwn.over
#print axioms wireOwn_holds
end Go.Proofs.Ytfcoanlegjddpab
