/-
  Of any text, any numbers and any place: FlatReads returns true. No condition.
-/
import Derived.Test.YtelmjkjbbbgmpaaRows
import Derived.Test.YtelmjkjbbbgmpaaFlRfRd
import Derived.Test.YtelmjkjbbbgmpaaFlSame
import Derived.Test.YtelmjkjbbbgmpaaFlChg
import Derived.ShutString
namespace Go.Proofs.Ytelmjkjbbbgmpaa.flatReads
open Go.ChangeShapes Go.WideShapes Go.ChangeAt Go.RowKit
open Go.ChangeMaps (open_string shut_string)

theorem and_one (n : Int) : bits .and .i64 n 1 = n % 2 := by
  have h1 : (BitVec.ofInt 64 1).toNat = 2 ^ 1 - 1 := by decide
  have key : (BitVec.ofInt 64 n &&& BitVec.ofInt 64 1).toNat = (n % ((2 ^ 64 : Nat) : Int)).toNat % 2 ^ 1 := by
    rw [BitVec.toNat_and, BitVec.toNat_ofInt, h1, Nat.and_two_pow_sub_one_eq_mod]
  show IntKind.i64.wrap ((BitVec.ofInt 64 n &&& BitVec.ofInt 64 1).toNat : Nat) = n % 2
  rw [key, IntKind.wrap_i64]
  omega
def itOf (odd : Int) (k : Nat) (y : Int) : It := if (k : Int) = odd then .inr (.inr (y % 2 == 1)) else .inl y
def itsT (s : ByteArray) (n : List Int) (odd : Int) : Nat → List It
  | 0 => [.inr (.inl s)]
  | k + 1 => itsT s n odd k ++ [itOf odd k (n.getD k 0)]
theorem itsT_len (s : ByteArray) (n : List Int) (odd : Int) : ∀ k, (itsT s n odd k).length = k + 1
  | 0 => rfl
  | k + 1 => by rw [itsT, List.length_append, itsT_len s n odd k]; rfl
theorem itsT_put {s : ByteArray} {n : List Int} {odd : Int} {k : Nat} {y : Int} (hy : n[k]? = some y) (hk : k + 1 < 100) : put (itsT s n odd k) (itOf odd k y) = itsT s n odd (k + 1) := by
  rw [put, itsT_len, if_pos hk, itsT, getD_at hy]
theorem itsT_putT {s : ByteArray} {n : List Int} {odd : Int} {k : Nat} {y : Int} (hy : n[k]? = some y) (hk : k + 1 < 100) : putT ((itsT s n odd k).map It.th) (itOf odd k y).th = (itsT s n odd (k + 1)).map It.th := by
  rw [putT, List.length_map, itsT_len, if_pos hk, itsT, getD_at hy, List.map_append]
  rfl
theorem itsT_head (s : ByteArray) (n : List Int) (odd : Int) : ∀ k, (itsT s n odd k)[0]? = some (.inr (.inl s))
  | 0 => rfl
  | k + 1 => by rw [itsT, List.getElem?_append_left (by rw [itsT_len]; omega)]; exact itsT_head s n odd k

/-- Both crates hold the same things. -/
structure Two9 (w0 w : World) (c x : Nat) (v u : Value) (l : List It) : Prop where
  cr : Crate w w0.heap.size c v l
  rf : RefC w w0.heap.size x u (l.map It.th)
  ap : Apart c v x u
  b : Below w0.heap.size w0 w

set_option maxRecDepth 1000000 in
set_option maxHeartbeats 4000000 in
theorem walk (w : World) (s : ByteArray) (oa : Option Addr) (n ca : Nat) (a : List Int) (ea : a.length = n) (_ : OkSl oa n ca) (sa : rowAt w (.slice oa n ca) 1 iC a ∧ ∀ y ∈ a, wfI y) (odd : Int) (_ : s.size ≤ maxLen) (_ : (Lit.int .i64 odd).wf = true) :
    Calls Try.prog 8 #[.string s, .slice oa n ca, .int .i64 odd] w fun e w' => e = .returned (.bool true) ∧ Below w.heap.size w w' := by
  have HA : Hid (rowAt w (.slice oa n ca) 1 iC a ∧ a.length = n) := ⟨sa.1, ea⟩
  clear sa ea
  by_cases h1 : 50 < s.size
  · have h1i : (50 : Int) < (s.size : Int) := by omega
    go_enter Try.func8, Try.ntmps8
    go_wp2
    go_ret
    exact ⟨rfl, Below.refl _ _⟩
  have h1i : ¬ (50 : Int) < (s.size : Int) := by omega
  by_cases h2 : 90 < n
  · have h2i : (90 : Int) < (n : Int) := by omega
    go_enter Try.func8, Try.ntmps8
    go_wp2
    go_ret
    exact ⟨rfl, Below.refl _ _⟩
  have h2i : ¬ (90 : Int) < (n : Int) := by omega
  have HS : Hid (s.size ≤ 281474976710656) := by show _ ≤ _; omega
  have hw1 : Hid (Crate (w.alloc (.cells #[.slice none 0 0] 76)) w.heap.size w.heap.size (.slice none 0 0) []) := crate_new w
  have T0 : Hid (Two9 w ((w.alloc (.cells #[.slice none 0 0] 76)).alloc (.cells #[.slice none 0 0] 49)) w.heap.size (w.heap.size + 1) (.slice none 0 0) (.slice none 0 0) []) := by
    have hb2 : Below (w.alloc (.cells #[.slice none 0 0] 76)).heap.size (w.alloc (.cells #[.slice none 0 0] 76)) ((w.alloc (.cells #[.slice none 0 0] 76)).alloc (.cells #[.slice none 0 0] 49)) := (Below.refl _ _).alloc (Nat.le_refl _) _
    refine ⟨⟨hw1.out.1.below hb2, by simp⟩, ⟨⟨blk_at1 _ _ _, World.ownsRow_nil _ _ _ _, by omega, by simp [Value.ownBlock]⟩, by simp⟩, fun k h h' => by simp [foot, Value.ownBlock] at h h'; omega, by show Below _ _ _; exact (by repeat' (with_reducible first | exact Below.refl _ _ | refine Below.drew ?_ | refine _root_.Go.below_drewN ?_ _ | refine Below.alloc ?_ ?_ _ | refine Below.setCell ?_ ?_ _ | exact Nat.le_refl _ | (simp; done) | (simp; omega)))⟩
  go_enter Try.func8, Try.ntmps8
  go_wp2_with fail
  refine (new_any _).mono ?_
  rintro e w1 ⟨rfl, rfl⟩
  go_wp2_with fail
  generalize (w.alloc (.cells #[.slice none 0 0] 76)).alloc (.cells #[.slice none 0 0] 49) = w2 at *
  clear hw1
  generalize hx1 : w.heap.size + 1 = x at *
  refine (addText_any s [] w2 _ _ _ T0.out.cr HS.out).mono ?_
  rintro e w3 ⟨v3, rfl, c3, t3⟩
  obtain ⟨r3, p3⟩ := T0.out.rf.1.other t3 T0.out.ap
  have B3 : Hid (Below w.heap.size w w3) := T0.out.b.trans (T0.out.cr.1.turnBelow t3)
  have C3 : Hid (Crate w3 w.heap.size w.heap.size v3 [.inr (.inl s)] ∧ RefC w3 w.heap.size x (.slice none 0 0) [] ∧ Apart w.heap.size v3 x (.slice none 0 0)) := ⟨c3, ⟨r3, by simp⟩, p3⟩
  clear c3 t3 r3 p3
  go_wp2_with fail
  refine (refAdd_any ⟨2, 0, s, false⟩ [] w3 _ _ _ C3.out.2.1).mono ?_
  rintro e w4 ⟨u4, rfl, c4, t4⟩
  have T4 : Hid (Two9 w w4 w.heap.size x v3 u4 (itsT s a odd 0)) := by
    obtain ⟨r4, p4⟩ := C3.out.1.1.other t4 C3.out.2.2.symm
    exact ⟨⟨r4, by show (1 : Nat) ≤ 100; omega⟩, c4, p4.symm, B3.out.trans (C3.out.2.1.1.turnBelow t4)⟩
  clear c4 t4
  go_wp2
  go_loopg [9] n (fun gk i wr => ∃ k : Nat, ∃ v u, gk = n - k ∧ i = .int .i64 (k : Int) ∧ k ≤ n ∧ Two9 w wr w.heap.size x v u (itsT s a odd k))
  case atStart => exact ⟨0, v3, u4, rfl, rfl, by omega, T4.out⟩
  case round =>
    obtain ⟨k, v, u, rfl, rfl, hk, k1⟩ := hrel
    have HK : Hid (Two9 w wr w.heap.size x v u (itsT s a odd k)) := k1
    clear k1
    by_cases hlt : k < n
    · have hki : (k : Int) < (n : Int) := by omega
      obtain ⟨y, hy⟩ := at_of (l := a) (k := k) (by rw [HA.out.2]; exact hlt)
      obtain ⟨g, off, rfl, hc⟩ := row_int HA.out.1 k y hy
      have hcw := up_cell HK.out.b hc
      have HP : Hid (put (itsT s a odd k) (itOf odd k y) = itsT s a odd (k + 1) ∧ putT ((itsT s a odd k).map It.th) (itOf odd k y).th = (itsT s a odd (k + 1)).map It.th) := ⟨itsT_put hy (by omega), itsT_putT hy (by omega)⟩
      have HCW : Hid (∀ W, Below w.heap.size w W → W.cell? ⟨g, off + k, none⟩ = some (.int .i64 y)) := fun W hW => up_cell hW hc
      have hlen : (itsT s a odd k).length = k + 1 := itsT_len s a odd k
      clear hy hc
      by_cases hodd : (k : Int) = odd
      · have hbo : ((k : Int) == odd) = true := by simp [hodd]
        have hit : itOf odd k y = .inr (.inr (y % 2 == 1)) := by rw [itOf, if_pos hodd]
        rw [hit] at HP
        have hand := and_one y
        have A := addBool_any (y % 2 == 1) _ wr _ _ _ HK.out.cr
        rw [HP.out.1] at A
        clear hodd hit
        go_wp2_with fail
        refine A.mono ?_
        rintro e w7 ⟨v7, rfl, c7, t7⟩
        obtain ⟨r7, p7⟩ := HK.out.rf.1.other t7 HK.out.ap
        have B7 : Hid (Below w.heap.size w w7) := HK.out.b.trans (HK.out.cr.1.turnBelow t7)
        have C7 : Hid (Crate w7 w.heap.size w.heap.size v7 (itsT s a odd (k + 1)) ∧ RefC w7 w.heap.size x u ((itsT s a odd k).map It.th) ∧ Apart w.heap.size v7 x u) := ⟨c7, ⟨r7, HK.out.rf.2⟩, p7⟩
        have hc7 := HCW.out w7 B7.out
        have R := refAdd_any ⟨3, 0, ⟨#[]⟩, (y % 2 == 1)⟩ _ w7 _ _ _ C7.out.2.1
        have hpt : putT ((itsT s a odd k).map It.th) ⟨3, 0, ⟨#[]⟩, (y % 2 == 1)⟩ = (itsT s a odd (k + 1)).map It.th := HP.out.2
        rw [hpt] at R
        clear c7 t7 r7 p7 A hpt
        go_wp2_with fail
        refine R.mono ?_
        rintro e w8 ⟨u8, rfl, c8, t8⟩
        obtain ⟨r8, p8⟩ := C7.out.1.1.other t8 C7.out.2.2.symm
        have T8 : Hid (Two9 w w8 w.heap.size x v7 u8 (itsT s a odd (k + 1))) := ⟨⟨r8, C7.out.1.2⟩, c8, p8.symm, B7.out.trans (C7.out.2.1.1.turnBelow t8)⟩
        clear c8 t8 r8 p8 R hlen
        go_wp2
        go_roundg (n - (k + 1))
        case rel => exact ⟨k + 1, v7, u8, rfl, by go_num, by omega, T8.out⟩
        case measure => omega
      · have hbo : ((k : Int) == odd) = false := by simp [hodd]
        have hit : itOf odd k y = .inl y := by rw [itOf, if_neg hodd]
        rw [hit] at HP
        have A := addInt_any y _ wr _ _ _ HK.out.cr
        rw [HP.out.1] at A
        clear hodd hit
        go_wp2_with fail
        refine A.mono ?_
        rintro e w7 ⟨v7, rfl, c7, t7⟩
        obtain ⟨r7, p7⟩ := HK.out.rf.1.other t7 HK.out.ap
        have B7 : Hid (Below w.heap.size w w7) := HK.out.b.trans (HK.out.cr.1.turnBelow t7)
        have C7 : Hid (Crate w7 w.heap.size w.heap.size v7 (itsT s a odd (k + 1)) ∧ RefC w7 w.heap.size x u ((itsT s a odd k).map It.th) ∧ Apart w.heap.size v7 x u) := ⟨c7, ⟨r7, HK.out.rf.2⟩, p7⟩
        have hc7 := HCW.out w7 B7.out
        have R := refAdd_any ⟨1, y, ⟨#[]⟩, false⟩ _ w7 _ _ _ C7.out.2.1
        have hpt : putT ((itsT s a odd k).map It.th) ⟨1, y, ⟨#[]⟩, false⟩ = (itsT s a odd (k + 1)).map It.th := HP.out.2
        rw [hpt] at R
        clear c7 t7 r7 p7 A hpt
        go_wp2_with fail
        refine R.mono ?_
        rintro e w8 ⟨u8, rfl, c8, t8⟩
        obtain ⟨r8, p8⟩ := C7.out.1.1.other t8 C7.out.2.2.symm
        have T8 : Hid (Two9 w w8 w.heap.size x v7 u8 (itsT s a odd (k + 1))) := ⟨⟨r8, C7.out.1.2⟩, c8, p8.symm, B7.out.trans (C7.out.2.1.1.turnBelow t8)⟩
        clear c8 t8 r8 p8 R hlen
        go_wp2
        go_roundg (n - (k + 1))
        case rel => exact ⟨k + 1, v7, u8, rfl, by go_num, by omega, T8.out⟩
        case measure => omega
    · have hki : ¬ (k : Int) < (n : Int) := by omega
      have hz : (textOf (itAt (itsT s a odd k) 0)).1.size ≤ 281474976710656 := by
        rw [show itAt (itsT s a odd k) 0 = (itsT s a odd k)[0]? from itAt_nat _ 0, itsT_head]
        exact HS.out
      have R1 := read_any _ _ wr HK.out.cr.reads hz
      have HRF := HK.out.rf.reads
      have HB : Hid (Below w.heap.size w wr) := HK.out.b
      have HQ : Hid (ReadsT wr (.pointer (some ⟨x, 0, none⟩)) ((itsT s a odd k).map It.th)) := HRF
      have hl91 : (itsT s a odd k).length ≤ 91 := by rw [itsT_len]; omega
      clear HRF HK hz
      generalize itsT s a odd k = its at *
      have R2 : Hid (∀ W, Below wr.heap.size wr W → _) := fun W hW => rfRead_any _ its W (HQ.out.below hW)
      have R3 : Hid (∀ W : World, _) := fun W => read_any (.pointer none) [] W (.inl ⟨rfl, rfl⟩) (by decide)
      have hrl : ∀ a b r, readV its = some (a, b, r) → r.length ≤ 1000 := fun a b r h => by
        unfold readV at h
        cases hn : numV its with
        | none => rw [hn] at h; cases h
        | some nn =>
          rw [hn] at h
          have hnn : nn.length ≤ 1000 := by
            unfold numV at hn
            split at hn
            · rw [nuT_len hn]; omega
            · cases hn
          have h' : readN nn = some (a, b, r) := h
          unfold readN at h'
          split at h'
          · cases h'
          · cases ht : takeV (nn.drop 3) with
            | none => rw [ht] at h'; cases h'
            | some q =>
              rw [ht] at h'
              have hq := take_len ht
              rw [List.length_drop] at hq
              have h'' : (if nn.getD 2 0 = (q.length : Int) then some (nn.getD 0 0, nn.getD 1 0, q) else none) = some (a, b, r) := h'
              split at h''
              · injection h'' with h''
                injection h'' with _ h''
                injection h'' with _ h''
                subst h''
                omega
              · cases h''
      go_wp2_with fail
      refine R1.mono ?_
      rintro e w5 ⟨he, hb5⟩
      have G2 := R2.out w5 hb5
      have H5 : Hid (Below w.heap.size w w5) := HB.out.trans (hb5.mono HB.out.size)
      rcases he with ⟨p, q, r, v, hd, rfl, hi⟩ | ⟨hd, rfl⟩
      · have HRL : Hid (r.length ≤ 1000) := hrl _ _ _ hd
        rw [hd] at G2
        have S5 : Hid (SRow w5 wr.heap.size v r) := hi
        clear hi hb5 R1 hd hrl
        go_wp2_with fail
        refine G2.mono ?_
        rintro e w6 ⟨he, hb6⟩
        rcases he with ⟨p', q', r', v', hd, rfl, hi⟩ | ⟨hd, -⟩
        rotate_left
        · cases hd
        injection hd with hd
        injection hd with e1 hd
        injection hd with e2 e3
        subst e1 e2 e3
        have H6 : Hid (SRow w6 wr.heap.size v r ∧ SRow w6 w5.heap.size v' r ∧ Below w.heap.size w w6) := ⟨S5.out.below hb6, hi, H5.out.trans (hb6.mono H5.out.size)⟩
        clear hi hb6 G2
        go_wp2_with fail
        refine (R3.out w6).mono ?_
        rintro e w7 ⟨he, hb7⟩
        rcases he with ⟨_, _, _, _, hd, -, -⟩ | ⟨-, rfl⟩
        · cases hd
        have H7 : Hid (SRow w7 wr.heap.size v r ∧ SRow w7 w5.heap.size v' r ∧ Below w.heap.size w w7) := ⟨H6.out.1.below hb7, H6.out.2.1.below hb7, H6.out.2.2.trans (hb7.mono H6.out.2.2.size)⟩
        clear hb7
        go_wp2_with fail
        refine (rfSame_eq _ _ r _ H7.out.1.row H7.out.2.1.row (by have := HRL.out; omega)).mono ?_
        rintro e w8 ⟨rfl, nd, rfl⟩
        go_wp2_with fail
        refine (fknown_any _).mono ?_
        rintro e w9 ⟨rfl, hk⟩
        have HB9 : Hid (Below w.heap.size w w9) := below_drew_known nd H7.out.2.2 hk
        clear hk
        go_wp2
        go_ret
        exact ⟨rfl, HB9.out⟩
      · rw [hd] at G2
        clear hb5 R1 hd hrl
        go_wp2_with fail
        refine G2.mono ?_
        rintro e w6 ⟨he, hb6⟩
        rcases he with ⟨_, _, _, _, hd, -, -⟩ | ⟨-, rfl⟩
        · cases hd
        have H6 : Hid (Below w.heap.size w w6) := H5.out.trans (hb6.mono H5.out.size)
        clear hb6 G2
        go_wp2_with fail
        refine (R3.out w6).mono ?_
        rintro e w7 ⟨he, hb7⟩
        rcases he with ⟨_, _, _, _, hd, -, -⟩ | ⟨-, rfl⟩
        · cases hd
        have H7 : Hid (Below w.heap.size w w7) := H6.out.trans (hb7.mono H6.out.size)
        clear hb7
        go_wp2_with fail
        refine (rfSame_eq _ _ [] _ (rowAt.nil _ _ _) (rowAt.nil _ _ _) (by simp)).mono ?_
        rintro e w8 ⟨rfl, nd, rfl⟩
        go_wp2_with fail
        refine (fknown_any _).mono ?_
        rintro e w9 ⟨rfl, hk⟩
        have HB9 : Hid (Below w.heap.size w w9) := below_drew_known nd H7.out hk
        clear hk
        go_wp2
        go_ret
        exact ⟨rfl, HB9.out⟩

theorem own : ownKnob Try.prog.godebug = none := by kernel_rfl

set_option maxRecDepth 100000 in
theorem lifted (os : Os) (started : os.Started) (H : Type) (enc : TypeId × Value → H) :
    ReturnsInHanded {} Try.checked os 8 .any (Rows.flatReadsSpec.pre6 enc Try.prog Try.f8 Rows.flatReadsRow.domain false) (Rows.flatReadsSpec.post enc Try.prog Try.f8 false true false false) := by
  refine returnsInHanded_of_change (C := Try.checked) own started (by kernel_rfl) Try.func8
    (ChangeSpec.witness6 (enc := enc) (C := Try.checked) false ⟨#[], #[.string ByteArray.empty, .slice none 0 0, .int .i64 0], []⟩ 8 (by kernel_rfl) (by kernel_rfl) (by kernel_rfl) (by kernel_rfl)) ?_
  intro W base args ds gs before hval0 hW _ _
  have hval : ∀ (j : Nat) t v, Try.f8.params[j]? = some t → args[j]? = some v → Value.okWide Try.prog W .any base t v := hval0
  have hW' := hW
  obtain ⟨p, q, hA0, hV, rfl, _, _⟩ := hW
  have hA : DataW.TrodAll enc Try.prog W 0 (fun _ => true) true Try.f8.params.toList args.toList ds p := hA0
  rw [Try.params8] at hA hval
  obtain ⟨v0, vs0, d0, ds0, p0, q0, hargs, rfl, rfl, h0, r0⟩ := trodAll_cons hA
  obtain ⟨v1, vs1, d1, ds1, p1, q1, rfl, rfl, rfl, h1, r1⟩ := trodAll_cons r0
  obtain ⟨v2, vs2, d2, ds2, p2, q2, rfl, rfl, rfl, h2, r2⟩ := trodAll_cons r1
  obtain ⟨rfl, rfl, rfl⟩ := trodAll_nil r2
  obtain rfl : args = #[v0, v1, v2] := by cases args; simp_all
  obtain ⟨rfl, rfl⟩ := trodVars_none hV
  obtain ⟨a0, rfl, rfl, rfl, w0⟩ := open_string Try.underlying9 (hval 0 9 v0 rfl rfl) h0
  obtain ⟨a1, len1, cap1, rfl⟩ := okWide_slice Try.underlying23 (hval 1 23 v1 rfl rfl)
  have k1 := h1
  have lt1 : ∀ x ∈ p1, x.block < W.heap.size := by obtain ⟨m, hm⟩ := k1; exact DataW.trod_lt m _ _ _ hm
  obtain ⟨z1, e1, m1, s1⟩ : ∃ l : List Int, l.length = len1 ∧ OkSl a1 len1 cap1 ∧ (rowAt W (.slice a1 len1 cap1) 1 iC l ∧ ∀ y ∈ l, wfI y) := by
    obtain ⟨fuel, hf⟩ := h1
    exact open_intr hf
  obtain ⟨a2, rfl, rfl, rfl, w2⟩ := open_int Try.underlying3 (hval 2 3 v2 rfl rfl) h2
  clear hA0 hval0
  refine (walk W a0 a1 len1 cap1 z1 e1 m1 s1 a2 w0 w2).mono fun e W' ⟨he, bel⟩ => ?_
  subst he
  exact ⟨_, rfl, _, _, _, [], _, [], hW', trodAll_mk1 (shut_bool Try.underlying4 _), (trodAll_cons_mk (shut_string Try.underlying9 w0) (trodAll_cons_mk (Below.trod flaidOut (by kernel_rfl) (of_decide_eq_true (by kernel_rfl)) k1 bel lt1) (trodAll_cons_mk (shut_int Try.underlying3 w2) trodAll_mk0))), rfl, bel.frame _, fun h => by cases h⟩

theorem over : Rows.flatReadsRow.holds Try.pinned (OpenSpec.ofChange Rows.flatReadsSpec) :=
  OpenClaim.holds_of_wide 8 Try.f8 rfl rfl rfl rfl rfl rfl rfl ⟨rfl, rfl, rfl, rfl, rfl⟩ rfl rfl rfl rfl rfl (by kernel_rfl) Try.func8 (by kernel_rfl)
    (of_decide_eq_true (by kernel_rfl)) (by unfold Func.isWrapper; first | (rw [if_pos (by decide +kernel)]; kernel_rfl) | (rw [if_neg (by decide +kernel)]; exact ⟨rfl, rfl⟩))
    (fun os started H enc _ => lifted os started H enc)

end Go.Proofs.Ytelmjkjbbbgmpaa.flatReads
namespace Go.Proofs.Ytelmjkjbbbgmpaa
theorem flatReads_holds : Rows.FlatReadsSaid := flatReads.over
#print axioms flatReads_holds
end Go.Proofs.Ytelmjkjbbbgmpaa
