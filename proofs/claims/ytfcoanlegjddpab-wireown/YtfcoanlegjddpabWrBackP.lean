/-
  Telegrams cut short, with more behind, turned: none is one.
-/
import Derived.Test.YtfcoanlegjddpabWrOwn
namespace Go.Proofs.Ytfcoanlegjddpab
open Go.RowKit

theorem plain_ok {l : List Th} (h : ∀ y ∈ l, y.s.size ≤ 140737488355328 ∧ (Lit.int .i64 y.n).wf = true) : ∀ x ∈ l.map plainI, okT x := fun x hx => by
  obtain ⟨t, ht, rfl⟩ := List.mem_map.1 hx
  have := (h t ht).2
  simp [Lit.wf, IntKind.max, IntKind.min, IntKind.bits, IntKind.signed] at this
  unfold plainI
  split
  · show -2 ^ 63 ≤ t.n ∧ t.n < 2 ^ 63
    omega
  · split
    · trivial
    · trivial
theorem pack_tel {l : List It} {b : List (BitVec 8)} (h : packV l = some b) : b = telV (bodyV l) ∧ (bodyV l).length ≤ 4000 ∧ 1 ≤ (bodyV l).length := by
  unfold packV at h
  split at h
  · cases h
  split at h
  · cases h
  rename_i h4
  injection h with h
  exact ⟨h.symm, by omega, by unfold bodyV; rw [List.length_cons]; omega⟩
theorem unp_len {p : List (BitVec 8)} {l : List It} (h : unpackR p = some l) : 7 ≤ p.length ∧ numV ((p.drop 4).take 2) = p.length - 6 ∧ numV (p.take 4) = (sumV (p.drop 6)).toNat := by
  unfold unpackR at h
  split at h
  · cases h
  rename_i h1
  split at h
  · cases h
  rename_i h2
  have e : (p.drop 6).length = p.length - 6 := List.length_drop
  rw [e] at h2
  omega
theorem tel_num {b : List (BitVec 8)} (h : b.length ≤ 4000) : numV (((telV b).drop 4).take 2) = b.length ∧ (telV b).length = 6 + b.length := by
  obtain ⟨_, t2, _, t4⟩ := tel_parts b
  rw [t2, num_big, Nat.mod_eq_of_lt (by omega)]
  exact ⟨rfl, t4⟩
theorem cut_none {b : List (BitVec 8)} (h : b.length ≤ 4000) {k : Nat} (hk : k < (telV b).length) : unpackR ((telV b).take k) = none := by
  cases hu : unpackR ((telV b).take k) with
  | none => rfl
  | some l =>
    obtain ⟨h1, h2, _⟩ := unp_len hu
    obtain ⟨t1, t2⟩ := tel_num h
    rw [List.length_take] at h1 h2
    have e : (((telV b).take k).drop 4).take 2 = ((telV b).drop 4).take 2 := by
      rw [List.drop_take, List.take_take, Nat.min_eq_left (by omega)]
    rw [e, t1] at h2
    omega
theorem more_none {b : List (BitVec 8)} (h : b.length ≤ 4000) {m : List (BitVec 8)} (hm : m ≠ []) : unpackR (telV b ++ m) = none := by
  cases hu : unpackR (telV b ++ m) with
  | none => rfl
  | some l =>
    obtain ⟨h1, h2, _⟩ := unp_len hu
    obtain ⟨t1, t2⟩ := tel_num h
    have hml : 1 ≤ m.length := by cases m with
      | nil => exact absurd rfl hm
      | cons x m => rw [List.length_cons]; omega
    rw [List.length_append] at h1 h2
    have e : ((telV b ++ m).drop 4).take 2 = ((telV b).drop 4).take 2 := by
      rw [List.drop_append_of_le_length (by omega), List.take_append_of_le_length (by rw [List.length_drop]; omega)]
    rw [e, t1] at h2
    omega
theorem set_none {b : List (BitVec 8)} (h : b.length ≤ 4000) (hb : 1 ≤ b.length) {k : Nat} {x y : BitVec 8} (hk : (telV b)[k]? = some x) (hy : y ≠ 0#8) : unpackR ((telV b).set k (x ^^^ y)) = none := by
  cases hu : unpackR ((telV b).set k (x ^^^ y)) with
  | none => rfl
  | some l =>
    exfalso
    obtain ⟨h1, h2, h3⟩ := unp_len hu
    obtain ⟨t1, t2, t3, t4⟩ := tel_parts b
    have hkl : k < (telV b).length := (List.getElem?_eq_some_iff.1 hk).1
    have hne : x ^^^ y ≠ x := fun e => hy (by
      have := congrArg (x ^^^ ·) e
      simpa [← BitVec.xor_assoc] using this)
    rw [List.length_set] at h1 h2
    have hx := hk
    by_cases k4 : k < 4
    · have e1 : ((telV b).set k (x ^^^ y)).drop 6 = b := by rw [List.drop_set, if_pos (by omega), t3]
      have e2 : ((telV b).set k (x ^^^ y)).take 4 = (bigV (sumV b).toNat 4).set k (x ^^^ y) := by rw [List.take_set, t1]
      rw [e1, e2] at h3
      have e3 : numV (bigV (sumV b).toNat 4) = (sumV b).toNat := by
        have := (sumV b).isLt
        rw [num_big, Nat.mod_eq_of_lt (by omega)]
      have e4 : (bigV (sumV b).toNat 4).set k (x ^^^ y) = bigV (sumV b).toNat 4 := by
        have a1 := big_num ((bigV (sumV b).toNat 4).set k (x ^^^ y))
        have a2 := big_num (bigV (sumV b).toNat 4)
        rw [h3, List.length_set, big_len] at a1
        exact a1.symm
      have e5 : (bigV (sumV b).toNat 4)[k]? = some x := by
        rw [← t1, List.getElem?_take, if_pos k4]
        exact hk
      have e6 := congrArg (fun z => z[k]?) e4
      rw [e5, List.getElem?_set_self (by rw [big_len]; omega)] at e6
      exact hne (Option.some.inj e6)
    by_cases k6 : k < 6
    · have e2 : (((telV b).set k (x ^^^ y)).drop 4).take 2 = (bigV b.length 2).set (k - 4) (x ^^^ y) := by
        rw [List.drop_set, if_neg (by omega), List.take_set, t2]
      rw [e2, t4, show 6 + b.length - 6 = b.length by omega] at h2
      have e4 : (bigV b.length 2).set (k - 4) (x ^^^ y) = bigV b.length 2 := by
        have a1 := big_num ((bigV b.length 2).set (k - 4) (x ^^^ y))
        rw [h2, List.length_set, big_len] at a1
        exact a1.symm
      have e5 : (bigV b.length 2)[k - 4]? = some x := by
        rw [← t2, List.getElem?_take, if_pos (by omega), List.getElem?_drop, show 4 + (k - 4) = k by omega]
        exact hk
      have e6 := congrArg (fun z => z[k - 4]?) e4
      rw [e5, List.getElem?_set_self (by rw [big_len]; omega)] at e6
      exact hne (Option.some.inj e6)
    · have e1 : ((telV b).set k (x ^^^ y)).drop 6 = b.set (k - 6) (x ^^^ y) := by rw [List.drop_set, if_neg (by omega), t3]
      have e2 : ((telV b).set k (x ^^^ y)).take 4 = bigV (sumV b).toNat 4 := by rw [List.take_set_of_le (by omega), t1]
      have := (sumV b).isLt
      rw [e1, e2, num_big, Nat.mod_eq_of_lt (by omega)] at h3
      have e3 : sumV b = sumV (b.set (k - 6) (x ^^^ y)) := BitVec.eq_of_toNat_eq h3
      have e5 : b[k - 6]? = some x := by
        rw [← t3, List.getElem?_drop, show 6 + (k - 6) = k by omega]
        exact hk
      have hk6 : k - 6 < b.length := (List.getElem?_eq_some_iff.1 e5).1
      have e6 : b.set (k - 6) x = b := by
        obtain ⟨_, e⟩ := List.getElem?_eq_some_iff.1 e5
        rw [← e]
        exact List.set_getElem_self _
      refine hne (sum_set b (k - 6) (x ^^^ y) x hk6 ?_)
      rw [e6]
      exact e3.symm
/-- What may be packed is packed, and unpacked. -/
theorem good_pack {l : List It} (h : ∀ x ∈ l, okT x ∧ longT x = false) (hl : l.length ≤ 100) (hb : (bodyV l).length ≤ 4000) :
    ∃ b, packE l = 0 ∧ (packV l).getD [] = b ∧ unpackR b = some l ∧ b.length = 6 + (bodyV l).length := by
  have hp : packV l = some (telV (bodyV l)) := by rw [pack_short fun x hx => (h x hx).2, if_neg (by omega)]
  exact ⟨telV (bodyV l), by rw [packE, hp]; rfl, by rw [hp]; rfl, back_pack l _ hp hl fun x hx => (h x hx).1, (tel_num hb).2⟩
end Go.Proofs.Ytfcoanlegjddpab
