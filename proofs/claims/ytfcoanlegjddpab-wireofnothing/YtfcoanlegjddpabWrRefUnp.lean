/-
  The reference's Unpack, by a contract.
-/
import Derived.Test.YtfcoanlegjddpabWrTake
import Derived.Test.YtfcoanlegjddpabWrUnpack
namespace Go.Proofs.Ytfcoanlegjddpab
open Go.RowKit

theorem takeR_size {q : List (BitVec 8)} {x : It} {k : Nat} (h : takeR q = some (x, k)) : 2 ≤ k ∧ k ≤ q.length ∧ k ≤ 202 := by
  cases q with
  | nil => cases h
  | cons c r =>
    by_cases h1 : c = 1#8
    · subst h1
      rw [takeR_one] at h
      split at h
      · injection h with h
        injection h with _ h
        rw [List.length_cons]
        omega
      · cases h
    by_cases h2 : c = 2#8
    · subst h2
      cases r with
      | nil => cases h
      | cons n p =>
        rw [takeR_two] at h
        split at h
        · rename_i hl
          injection h with h
          injection h with _ h
          rw [List.length_cons, List.length_cons]
          omega
        · cases h
    by_cases h3 : c = 3#8
    · subst h3
      cases r with
      | nil => cases h
      | cons n p =>
        rw [takeR_three] at h
        split at h
        · injection h with h
          injection h with _ h
          rw [List.length_cons, List.length_cons]
          omega
        · cases h
    rw [takeR_none c r h1 h2 h3] at h
    cases h
/-- What the reference's Unpack answers. -/
def RefAns (w : World) (B : Nat) : Option (List It) → Value → Int → Prop
  | none, u, x => u = .pointer none ∧ x = 2
  | some l, u, x => x = 0 ∧ ∃ c v, u = .pointer (some ⟨c, 0, none⟩) ∧ RefC w B c v (l.map It.th)
def finR : Option (List It × List (BitVec 8)) → Option (List It)
  | some (l, []) => some l
  | _ => none
theorem unpackR_eq {p : List (BitVec 8)} (h1 : ¬ (p.length < 7 ∨ 4006 < p.length)) (h2 : numV (p.take 4) = (sumV (p.drop 6)).toNat) (h3 : numV ((p.drop 4).take 2) = (p.drop 6).length) {x : BitVec 8} {r : List (BitVec 8)} (hx : p.drop 6 = x :: r) :
    unpackR p = finR (thingsR x.toNat r []) := by
  unfold unpackR
  rw [if_neg h1, if_neg (by rw [h2, h3]; simp), hx, take_one, List.drop_succ_cons, List.drop_zero]
  rfl
theorem has_old_w {w w' : World} (hb : Below w.heap.size w w') {o : Option Addr} {q : List (BitVec 8)} (h : hasBytes w o q) : hasBytes w' o q := h.below hb
theorem RefC.old {w w' : World} {B c : Nat} {v : Value} {l : List Th} (h : RefC w B c v l) (hb : Below w.heap.size w w') : RefC w' B c v l := ⟨h.1.below hb, h.2⟩

set_option maxRecDepth 1000000 in
set_option maxHeartbeats 1000000 in
theorem refUnpack_no (oa : Option Addr) (cap : Nat) (p : List (BitVec 8)) (w : World) (hm : p.length ≤ 100000000) (hn : p.length < 7 ∨ 4006 < p.length) :
    Calls Try.prog 9 #[.slice oa p.length cap] w fun e w' => ∃ u x, e = .returned (.tuple #[u, .int .i64 x]) ∧ RefAns w' w.heap.size (unpackR p) u x ∧ Below w.heap.size w w' := by
  have HU : Hid (unpackR p = none) := by show _ = _; unfold unpackR; rw [if_pos hn]
  rw [HU.out]
  generalize p.length = n at *
  rcases hn with h | h
  · go_enter Try.func9, Try.ntmps9
    go_wp2
    go_ret2
    exact ⟨_, _, rfl, ⟨rfl, rfl⟩, Below.refl _ _⟩
  · have h1 : ¬ (n : Int) < 7 := by omega
    have h2 : (4000 : Int) < (n : Int) - 6 := by omega
    go_enter Try.func9, Try.ntmps9
    go_wp2
    go_ret2
    exact ⟨_, _, rfl, ⟨rfl, rfl⟩, Below.refl _ _⟩

set_option maxRecDepth 1000000 in
set_option maxHeartbeats 1000000 in
theorem refUnpack_yes (oa : Option Addr) (cap : Nat) (p : List (BitVec 8)) (w : World) (h : hasBytes w oa p) (hc : p.length ≤ cap) (hn : ¬ (p.length < 7 ∨ 4006 < p.length)) :
    Calls Try.prog 9 #[.slice oa p.length cap] w fun e w' => ∃ u x, e = .returned (.tuple #[u, .int .i64 x]) ∧ RefAns w' w.heap.size (unpackR p) u x ∧ Below w.heap.size w w' := by
  obtain ⟨n, hnn⟩ : ∃ n, n = p.length := ⟨_, rfl⟩
  have HL : Hid (p.length = n ∧ (p.take 4).length = 4 ∧ ((p.drop 4).take 2).length = 2 ∧ (p.drop 6).length = n - 6 ∧ ((p.take 6).drop 4).length = 2 ∧ (p.take 6).drop 4 = (p.drop 4).take 2) := by
    refine ⟨hnn.symm, ?_, ?_, ?_, ?_, ?_⟩
    · rw [List.length_take]; omega
    · rw [List.length_take, List.length_drop]; omega
    · rw [List.length_drop, hnn]
    · rw [List.length_drop, List.length_take]; omega
    · rw [List.drop_take]
  have HN : Hid (¬ (p.length < 7 ∨ 4006 < p.length)) := hn
  rw [← hnn] at hc hn ⊢
  obtain ⟨x0, hx0⟩ : ∃ x, p[0]? = some x := ⟨p[0]'(by omega), List.getElem?_eq_getElem _⟩
  obtain ⟨g, off, rfl, -⟩ := h 0 x0 hx0
  have H6 : Hid (hasBytes w (some ⟨g, off + 6, none⟩) (p.drop 6) ∧ hasBytes w (some ⟨g, off, none⟩) (p.take 4) ∧ hasBytes w (some ⟨g, off + 4, none⟩) ((p.drop 4).take 2)) := by
    have h6 := has_drop h 6
    have h4 := has_drop h 4
    rw [Option.map_some, waddr_at] at h6 h4
    exact ⟨h6, has_take h 4, has_take h4 2⟩
  have hn1 : ¬ (n : Int) < 7 := by omega
  have hn2 : ¬ (4000 : Int) < (n : Int) - 6 := by omega
  obtain ⟨A, hA⟩ : ∃ A, A = numV (p.take 4) := ⟨_, rfl⟩
  obtain ⟨C, hC⟩ : ∃ C, C = numV ((p.drop 4).take 2) := ⟨_, rfl⟩
  obtain ⟨N, hN1, hN2, hN32⟩ := sum_num (p.drop 6)
  have HA : Hid (numV (p.take 4) = A ∧ numV ((p.drop 4).take 2) = C ∧ N = (sumV (p.drop 6)).toNat) := ⟨hA.symm, hC.symm, hN2⟩
  have HS : Hid (_root_.Go.Proofs.Ytfcoanlegjddpab.u32 (sumV (p.drop 6)) = (N : Int)) := hN1
  have hwN : IntKind.u64.wrap (N : Int) = (N : Int) := by rw [num_u64]; omega
  have hwn : IntKind.u64.wrap ((n : Int) - 6) = (n : Int) - 6 := by rw [num_u64]; omega
  clear h hx0 hA hC hN1 hN2 hnn
  by_cases hAN : A = N
  · subst hAN
    by_cases hCn : C = n - 6
    · have hCi : (C : Int) = (n : Int) - 6 := by omega
      obtain ⟨x, r, hxr⟩ : ∃ x r, p.drop 6 = x :: r := by
        have := HL.out.2.2.2.1
        cases hp : p.drop 6 with
        | nil => rw [hp] at this; simp at this; omega
        | cons x r => exact ⟨x, r, rfl⟩
      have HU : Hid (unpackR p = finR (thingsR x.toNat r [])) := unpackR_eq HN.out (by rw [HA.out.1, ← HA.out.2.2]) (by rw [HA.out.2.1, HL.out.2.2.2.1]; exact hCn) hxr
      rw [HU.out]
      have HX : Hid (p.drop 6 = x :: r) := hxr
      have hrl : r.length = n - 7 := by have := HL.out.2.2.2.1; rw [hxr, List.length_cons] at this; omega
      obtain ⟨gx, offx, ex, hcx⟩ := bytes_at H6.out.1 0 x (by rw [hxr]; rfl)
      injection ex with ex
      injection ex with ex1 ex2
      subst ex1 ex2
      have HR7 : Hid (hasBytes w (some ⟨g, off + 7, none⟩) r) := by
        have := has_drop H6.out.1 1
        rw [Option.map_some, waddr_at, hxr] at this
        exact this
      have HRL : Hid (r.length = n - 7) := hrl
      have hx8 := x.isLt
      have hcx0 : w.cell? ⟨g, off + 6, none⟩ = some (.int .u8 (x.toNat : Int)) := hcx
      obtain ⟨X, hX⟩ : ∃ X, X = x.toNat := ⟨_, rfl⟩
      have HXX : Hid (x.toNat = X) := hX.symm
      rw [← hX] at hx8 hcx0 ⊢
      have BA : Below w.heap.size w (w.alloc (.cells #[.slice none 0 0] 58)) := (Below.refl _ _).alloc (Nat.le_refl _) _
      have hcx1 : (w.alloc (.cells #[.slice none 0 0] 58)).cell? ⟨g, off + 6, none⟩ = some (.int .u8 (X : Int)) := (BA.cell (World.block_lt_of_cell? _ _ hcx0)).trans hcx0
      obtain ⟨o7, r7, k7, -⟩ := slice_l (some ⟨g, off + 6, none⟩) (n - 6) (cap - 6) 1 (by omega) (by omega)
      have r7' : ∀ (W : World), Sem.run Try.prog (Instr.sliceAt 22 (Value.slice (some ⟨g, off + 6, none⟩) (n - 6) (cap - 6)) (some (Value.int IntKind.i64 1)) none none) W = Result.ok (Value.slice o7 (n - 6 - 1) (cap - 6 - 1)) W := r7
      have H7 : Hid (hasBytes w o7 r) := by
        have := k7 w _ H6.out.1 (by rw [HL.out.2.2.2.1])
        rw [hxr] at this
        exact this
      have R0 : Hid (RefC (w.alloc (.cells #[.slice none 0 0] 58)) w.heap.size w.heap.size (.slice none 0 0) [] ∧ Below w.heap.size w (w.alloc (.cells #[.slice none 0 0] 58))) :=
        ⟨⟨⟨heap_alloc_new w _, World.ownsRow_nil _ _ _ _, Nat.le_refl _, by simp [Value.ownBlock]⟩, by simp⟩, BA⟩
      clear hxr hrl hcx hX r7 k7 BA HR7
      subst hCn
      go_enter Try.func9, Try.ntmps9
      go_wp2_with fail
      have D := refNumber_any (some ⟨g, off, none⟩) cap (p.take 4) w H6.out.2.1 (by rw [HL.out.2.1]; omega)
      rw [HL.out.2.1, HA.out.1] at D
      refine D.mono ?_
      rintro e w1 ⟨rfl, hw⟩
      obtain rfl := hw.symm
      clear D
      go_wp2_with fail
      have D := refOf_any (some ⟨g, off + 6, none⟩) (cap - 6) (p.drop 6) w H6.out.1 (by rw [HL.out.2.2.2.1]; omega)
      rw [HL.out.2.2.2.1, HS.out] at D
      refine D.mono ?_
      rintro e w1 ⟨rfl, hw⟩
      obtain rfl := hw.symm
      clear D
      go_wp2_with fail
      have D := refNumber_any (some ⟨g, off + 4, none⟩) (cap - 4) ((p.drop 4).take 2) w H6.out.2.2 (by rw [HL.out.2.2.1]; omega)
      rw [HL.out.2.2.1, HA.out.2.1] at D
      refine D.mono ?_
      rintro e w1 ⟨rfl, hw⟩
      obtain rfl := hw.symm
      clear D
      go_wp2_with fail
      go_wp2
      go_loopg [4, 7] X (fun gk b i wr => ∃ j m : Nat, ∃ o c q v acc, gk = X - j ∧ i = .int .i64 (j : Int) ∧ j ≤ X ∧ b = .slice o m c ∧ m ≤ c ∧ q.length = m ∧ m ≤ 4000 ∧ hasBytes w o q ∧ acc.length = j ∧ RefC wr w.heap.size w.heap.size v (acc.map It.th) ∧ thingsR (X - j) q acc = thingsR X r [] ∧ Below w.heap.size w wr)
      case atStart =>
        exact ⟨0, n - 6 - 1, o7, cap - 6 - 1, r, _, [], rfl, rfl, by omega, rfl, by omega, by rw [HRL.out]; omega, by omega, H7.out, rfl, R0.out.1, rfl, R0.out.2⟩
      case round =>
        obtain ⟨j, m, o, c, q, v, acc, rfl, rfl, hj, rfl, hmc, hqm, hm4, hq, hacc, hrf, hth, hb⟩ := hrel
        have HM : Hid (q.length = m ∧ hasBytes w o q ∧ acc.length = j ∧ RefC wr w.heap.size w.heap.size v (acc.map It.th) ∧ thingsR (X - j) q acc = thingsR X r [] ∧ Below w.heap.size w wr) := ⟨hqm, hq, hacc, hrf, hth, hb⟩
        clear hqm hq hacc hrf hth hb R0 H7 r7' hcx0 hcx1
        by_cases hlt : j < X
        · have hji : (j : Int) < (X : Int) := by omega
          have hs : Hid (thingsR (X - j) q acc = match takeR q with | none => none | some (t, k) => if acc.length < 100 then thingsR (X - (j + 1)) (q.drop k) (acc ++ [t]) else none) := by
            show _ = _
            rw [show X - j = (X - (j + 1)) + 1 by omega, thingsR]
            rfl
          have D := refTake_any o c q wr (has_old_w HM.out.2.2.2.2.2 HM.out.2.1) (by rw [HM.out.1]; exact hmc)
          unfold TakeSaid at D
          rw [HM.out.1] at D
          cases htk : takeR q with
          | none =>
            have HU2 : Hid (finR (thingsR X r []) = none) := by
              show _ = _
              rw [← HM.out.2.2.2.2.1, hs.out, htk]
              rfl
            rw [htk] at D
            have HD : Hid (Calls Try.prog 25 #[.slice o m c] wr fun e w' => e = .returned (.tuple #[.agg #[.int .i64 0, .int .i64 0, .string ⟨#[]⟩, .bool false], .int .i64 0]) ∧ Below wr.heap.size wr w') := D
            clear D htk hs
            go_wp2_with fail
            refine HD.out.mono ?_
            rintro e w3 ⟨rfl, hb3⟩
            have HB3 : Hid (Below w.heap.size w w3) := HM.out.2.2.2.2.2.trans (hb3.mono HM.out.2.2.2.2.2.size)
            clear hb3 HD
            have BA : Hid (Below w.heap.size w (w3.alloc (.cells #[.int .i64 0, .int .i64 0, .string ⟨#[]⟩, .bool false] 60))) := HB3.out.alloc HB3.out.size _
            go_wp2
            go_ret2
            rw [HU2.out]
            exact ⟨_, _, rfl, ⟨rfl, rfl⟩, BA.out⟩
          | some yk =>
            obtain ⟨y, k⟩ := yk
            obtain ⟨hk2, hkm, hk202⟩ := takeR_size htk
            rw [HM.out.1] at hkm
            have hs2 : Hid (thingsR (X - j) q acc = if acc.length < 100 then thingsR (X - (j + 1)) (q.drop k) (acc ++ [y]) else none) := by
              show _ = _
              rw [hs.out, htk]
            rw [htk] at D
            obtain ⟨ok, rk, kk, -⟩ := slice_l o m c k hkm hmc
            have HK : Hid (hasBytes w ok (q.drop k) ∧ (q.drop k).length = m - k) := ⟨kk w q HM.out.2.1 HM.out.1, by rw [List.length_drop, HM.out.1]⟩
            obtain ⟨t, ht⟩ : ∃ t, t = y.th := ⟨_, rfl⟩
            have HT : Hid (y.th = t) := ht.symm
            have HD2 : Hid (Calls Try.prog 25 #[.slice o m c] wr fun e w' => e = .returned (.tuple #[.agg #[.int .i64 t.k, .int .i64 t.n, .string t.s, .bool t.b], .int .i64 (k : Int)]) ∧ Below wr.heap.size wr w') := by
              rw [ht]
              exact D
            clear D htk hs kk ht
            go_wp2_with fail
            refine HD2.out.mono ?_
            rintro e w3 ⟨rfl, hb3⟩
            have HB3 : Hid (Below w.heap.size w w3) := HM.out.2.2.2.2.2.trans (hb3.mono HM.out.2.2.2.2.2.size)
            have BA : Below w3.heap.size w3 (w3.alloc (.cells #[.int .i64 t.k, .int .i64 t.n, .string t.s, .bool t.b] 60)) := (Below.refl _ _).alloc (Nat.le_refl _) _
            have HW : Hid (RefC (w3.alloc (.cells #[.int .i64 t.k, .int .i64 t.n, .string t.s, .bool t.b] 60)) w.heap.size w.heap.size v (acc.map It.th) ∧ Below w.heap.size w (w3.alloc (.cells #[.int .i64 t.k, .int .i64 t.n, .string t.s, .bool t.b] 60))) :=
              ⟨(HM.out.2.2.2.1.old hb3).old BA, HB3.out.trans (BA.mono HB3.out.size)⟩
            have HLN : Hid ((acc.map It.th).length = j) := by show _ = _; rw [List.length_map, HM.out.2.2.1]
            clear hb3 BA HD2
            have hk0 : ((k : Int) == 0) = false := by simp; omega
            by_cases hj100 : j < 100
            · have HDD : Hid (decide ((acc.map It.th).length < 100) = true) := by show _ = _; rw [HLN.out]; exact decide_eq_true hj100
              go_wp2_with fail
              refine (refAdd_any t (acc.map It.th) _ _ _ _ HW.out.1).mono ?_
              rw [HDD.out]
              rintro e w4 ⟨v4, rfl, h5, h6⟩
              have HZ : Hid (RefC w4 w.heap.size w.heap.size v4 ((acc ++ [y]).map It.th) ∧ Below w.heap.size w w4 ∧ thingsR (X - (j + 1)) (q.drop k) (acc ++ [y]) = thingsR X r [] ∧ (acc ++ [y]).length = j + 1) := by
                refine ⟨?_, HW.out.2.trans (HW.out.1.1.turnBelow h6), ?_, by rw [List.length_append, HM.out.2.2.1]; rfl⟩
                · have e1 : putT (acc.map It.th) t = (acc ++ [y]).map It.th := by
                    unfold putT
                    rw [if_pos (by rw [HLN.out]; exact hj100), List.map_append, ← HT.out]
                    rfl
                  rw [← e1]
                  exact h5
                · rw [← HM.out.2.2.2.2.1, hs2.out, if_pos (by rw [HM.out.2.2.1]; exact hj100)]
              clear h5 h6
              go_wp2
              go_roundg (X - (j + 1))
              case rel => exact ⟨j + 1, m - k, ok, c - k, q.drop k, v4, acc ++ [y], rfl, by go_num, by omega, rfl, by omega, HK.out.2, by omega, HK.out.1, HZ.out.2.2.2, HZ.out.1, HZ.out.2.2.1, HZ.out.2.1⟩
              case measure => omega
            · have HDD : Hid (decide ((acc.map It.th).length < 100) = false) := by show _ = _; rw [HLN.out]; exact decide_eq_false hj100
              have HU2 : Hid (finR (thingsR X r []) = none) := by
                show _ = _
                rw [← HM.out.2.2.2.2.1, hs2.out, if_neg (by rw [HM.out.2.2.1]; exact hj100)]
                rfl
              go_wp2_with fail
              refine (refAdd_any t (acc.map It.th) _ _ _ _ HW.out.1).mono ?_
              rw [HDD.out]
              rintro e w4 ⟨v4, rfl, h5, h6⟩
              have HZ : Hid (Below w.heap.size w w4) := HW.out.2.trans (HW.out.1.1.turnBelow h6)
              clear h5 h6
              go_wp2
              go_ret2
              rw [HU2.out]
              exact ⟨_, _, rfl, ⟨rfl, rfl⟩, HZ.out⟩
        · have hjX : j = X := by omega
          subst hjX
          have HF : Hid (thingsR j r [] = some (acc, q)) := by
            have := HM.out.2.2.2.2.1
            rw [Nat.sub_self, thingsR] at this
            exact this.symm
          by_cases hm0 : m = 0
          · have HQ : Hid (finR (thingsR j r []) = some acc) := by
              show _ = _
              obtain rfl : q = [] := List.length_eq_zero_iff.1 (by rw [HM.out.1]; exact hm0)
              rw [HF.out]
              rfl
            subst hm0
            go_wp2
            go_ret2
            rw [HQ.out]
            exact ⟨_, _, rfl, ⟨rfl, _, v, rfl, HM.out.2.2.2.1⟩, HM.out.2.2.2.2.2⟩
          · have HQ : Hid (finR (thingsR j r []) = none) := by
              show _ = _
              rw [HF.out]
              cases q with
              | nil => exact absurd HM.out.1.symm hm0
              | cons z q => rfl
            have hmi : (0 : Int) < (m : Int) := by omega
            go_wp2
            go_ret2
            rw [HQ.out]
            exact ⟨_, _, rfl, ⟨rfl, rfl⟩, HM.out.2.2.2.2.2⟩
    · have hne : ¬ (C : Int) = (n : Int) - 6 := by omega
      have HU : Hid (unpackR p = none) := by
        show _ = _
        unfold unpackR
        rw [if_neg HN.out, if_pos (.inr (by rw [HA.out.2.1, HL.out.2.2.2.1]; exact hCn))]
      rw [HU.out]
      go_enter Try.func9, Try.ntmps9
      go_wp2_with fail
      have D := refNumber_any (some ⟨g, off, none⟩) cap (p.take 4) w H6.out.2.1 (by rw [HL.out.2.1]; omega)
      rw [HL.out.2.1, HA.out.1] at D
      refine D.mono ?_
      rintro e w1 ⟨rfl, hw⟩
      obtain rfl := hw.symm
      clear D
      go_wp2_with fail
      have D := refOf_any (some ⟨g, off + 6, none⟩) (cap - 6) (p.drop 6) w H6.out.1 (by rw [HL.out.2.2.2.1]; omega)
      rw [HL.out.2.2.2.1, HS.out] at D
      refine D.mono ?_
      rintro e w1 ⟨rfl, hw⟩
      obtain rfl := hw.symm
      clear D
      go_wp2_with fail
      have D := refNumber_any (some ⟨g, off + 4, none⟩) (cap - 4) ((p.drop 4).take 2) w H6.out.2.2 (by rw [HL.out.2.2.1]; omega)
      rw [HL.out.2.2.1, HA.out.2.1] at D
      refine D.mono ?_
      rintro e w1 ⟨rfl, hw⟩
      obtain rfl := hw.symm
      clear D
      go_wp2
      go_ret2
      exact ⟨_, _, rfl, ⟨rfl, rfl⟩, Below.refl _ _⟩
  · have hne : ¬ (A : Int) = (N : Int) := by omega
    have HU : Hid (unpackR p = none) := by
      show _ = _
      unfold unpackR
      rw [if_neg HN.out, if_pos (.inl (by rw [HA.out.1, ← HA.out.2.2]; exact hAN))]
    rw [HU.out]
    go_enter Try.func9, Try.ntmps9
    go_wp2_with fail
    have D := refNumber_any (some ⟨g, off, none⟩) cap (p.take 4) w H6.out.2.1 (by rw [HL.out.2.1]; omega)
    rw [HL.out.2.1, HA.out.1] at D
    refine D.mono ?_
    rintro e w1 ⟨rfl, hw⟩
    obtain rfl := hw.symm
    clear D
    go_wp2_with fail
    have D := refOf_any (some ⟨g, off + 6, none⟩) (cap - 6) (p.drop 6) w H6.out.1 (by rw [HL.out.2.2.2.1]; omega)
    rw [HL.out.2.2.2.1, HS.out] at D
    refine D.mono ?_
    rintro e w1 ⟨rfl, hw⟩
    obtain rfl := hw.symm
    clear D
    go_wp2
    go_ret2
    exact ⟨_, _, rfl, ⟨rfl, rfl⟩, Below.refl _ _⟩
theorem refUnpack_any (oa : Option Addr) (cap : Nat) (p : List (BitVec 8)) (w : World) (h : hasBytes w oa p) (hc : p.length ≤ cap) (hm : p.length ≤ 100000000) :
    Calls Try.prog 9 #[.slice oa p.length cap] w fun e w' => ∃ u x, e = .returned (.tuple #[u, .int .i64 x]) ∧ RefAns w' w.heap.size (unpackR p) u x ∧ Below w.heap.size w w' := by
  by_cases hn : p.length < 7 ∨ 4006 < p.length
  · exact refUnpack_no oa cap p w hm hn
  · exact refUnpack_yes oa cap p w h hc hn
end Go.Proofs.Ytfcoanlegjddpab
