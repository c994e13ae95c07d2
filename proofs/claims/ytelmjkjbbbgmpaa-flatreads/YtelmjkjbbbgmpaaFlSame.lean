/-
  The reference: is how all routes stand one? where it is one: by a contract.
-/
import Derived.Test.YtelmjkjbbbgmpaaFlTP
import Derived.Laws.StructEq
namespace Go.Proofs.Ytelmjkjbbbgmpaa
open Go.RowKit

theorem eqGuardRs : Try.prog.eqGuardType Try.prog.depth 62 = false := by kernel_rfl
theorem stoodRs : Try.prog.stoodInHeld 62 = false := by kernel_rfl
theorem namedRs : (Try.prog.fieldsOf 62).toList.map (fun f => (f.name, f.type, f.offset)) = [("Mode", 3, 0), ("Timer", 3, 1), ("Gone", 3, 2), ("Seen", 4, 3)] := by kernel_rfl
section
variable (m t g : Int) (b : Bool) (W : World)
theorem partRs0 : (part 3 #[.int .i64 m, .int .i64 t, .int .i64 g, .bool b] 0).run Try.prog W = .ok (.int .i64 m) W := by go_simp
theorem partRs1 : (part 3 #[.int .i64 m, .int .i64 t, .int .i64 g, .bool b] 1).run Try.prog W = .ok (.int .i64 t) W := by go_simp
theorem partRs2 : (part 3 #[.int .i64 m, .int .i64 t, .int .i64 g, .bool b] 2).run Try.prog W = .ok (.int .i64 g) W := by go_simp
theorem partRs3 : (part 4 #[.int .i64 m, .int .i64 t, .int .i64 g, .bool b] 3).run Try.prog W = .ok (.bool b) W := by go_simp
theorem run_eqRs : (Op.equalIn 10000 62 (.agg #[.int .i64 m, .int .i64 t, .int .i64 g, .bool b]) (.agg #[.int .i64 m, .int .i64 t, .int .i64 g, .bool b])).run Try.prog W = .ok true W := by
  rw [run_equalIn_struct W 9999 _ _ _ underRsO stoodRs]
  obtain ⟨p, q, r, s, hfg, hp, hq, hr, hs⟩ := fmaps_four _ _ _ _ _ _ namedRs
  rw [hfg]
  simp only [Prod.mk.injEq] at hp hq hr hs
  obtain ⟨p1, p2, p3⟩ := hp
  obtain ⟨q1, q2, q3⟩ := hq
  obtain ⟨r1, r2, r3⟩ := hr
  obtain ⟨s1, s2, s3⟩ := hs
  have z1 : ∀ k n : Int, (Op.equalIn 9999 3 (.int .i64 k) (.int .i64 n)).run Try.prog W = .ok (k == n) W := fun k n => run_equalIn_int (P := Try.prog) W 9998 3 .i64 .i64 k n Try.underlying3
  have z2 : ∀ a b : Bool, (Op.equalIn 9999 4 (.bool a) (.bool b)).run Try.prog W = .ok (a == b) W := fun a b => run_equalIn_bool (P := Try.prog) W 9998 4 a b Try.underlying4
  have e1 : ¬ (("Mode" : String) = "_") := by decide
  have e2 : ¬ (("Timer" : String) = "_") := by decide
  have e3 : ¬ (("Gone" : String) = "_") := by decide
  have e4 : ¬ (("Seen" : String) = "_") := by decide
  simp [Op.eqFields, p1, p2, p3, q1, q2, q3, r1, r2, r3, s1, s2, s3, e1, e2, e3, e4, Sem.run_bind, partRs0, partRs1, partRs2, partRs3, Result.andThen_ok, z1, z2]
theorem run_neqRs : (binOp .neq 62 (.agg #[.int .i64 m, .int .i64 t, .int .i64 g, .bool b]) (.agg #[.int .i64 m, .int .i64 t, .int .i64 g, .bool b])).run Try.prog W = .ok (.bool false) W := by
  rw [run_neq_struct, run_eqRs]
  rfl
end

set_option maxRecDepth 1000000 in
set_option maxHeartbeats 2000000 in
theorem rfSame_eq (va vb : Value) (l : List Rs) (w : World) (h : rowAt w va 4 rsC l) (hb : rowAt w vb 4 rsC l) (hl : l.length ≤ 4294967296) :
    Calls Try.prog 14 #[va, vb] w fun e w' => e = .returned (.bool true) ∧ ∃ q, w' = w.drewN q := by
  obtain ⟨oa, ca, rfl, h2⟩ := h
  obtain ⟨ob, cb, rfl, h3⟩ := hb
  have H2 : Hid (∀ j y, l[j]? = some y → ∃ g off, oa = some ⟨g, off, none⟩ ∧ ∀ i u, (rsC y)[i]? = some u → w.cell? ⟨g, off + j * 4 + i, none⟩ = some u) := h2
  have H3 : Hid (∀ j y, l[j]? = some y → ∃ g off, ob = some ⟨g, off, none⟩ ∧ ∀ i u, (rsC y)[i]? = some u → w.cell? ⟨g, off + j * 4 + i, none⟩ = some u) := h3
  clear h2 h3
  generalize hn : l.length = n at *
  have HN : Hid (l.length = n) := hn
  clear hn
  go_enter Try.func14, Try.ntmps14
  go_wp2
  go_loopg [5] n (fun gk i wr => ∃ k q : Nat, gk = n - k ∧ i = .int .i64 k ∧ k ≤ n ∧ wr = w.drewN q)
  case atStart => exact ⟨0, 0, rfl, rfl, by omega, rfl⟩
  case round =>
    obtain ⟨k, q, rfl, rfl, hk, rfl⟩ := hrel
    by_cases hlt : k < n
    · obtain ⟨⟨y1, y2, y3, y4⟩, hy⟩ : ∃ y, l[k]? = some y := ⟨l[k]'(by rw [HN.out]; exact hlt), List.getElem?_eq_getElem _⟩
      obtain ⟨g, off, rfl, hcell⟩ := H2.out k _ hy
      obtain ⟨g', off', rfl, hcell'⟩ := H3.out k _ hy
      have hki : (k : Int) < (n : Int) := by omega
      have a0 := hcell 0 _ rfl
      have a1 := hcell 1 _ rfl
      have a2 := hcell 2 _ rfl
      have a3 := hcell 3 _ rfl
      have b0 := hcell' 0 _ rfl
      have b1 := hcell' 1 _ rfl
      have b2 := hcell' 2 _ rfl
      have b3 := hcell' 3 _ rfl
      rw [Nat.add_zero] at a0 b0
      clear hcell hcell' hy
      have hEQ : ∀ W : World, (binOp .neq 62 (.agg #[.int .i64 y1, .int .i64 y2, .int .i64 y3, .bool y4]) (.agg #[.int .i64 y1, .int .i64 y2, .int .i64 y3, .bool y4])).run Try.prog W = .ok (.bool false) W := fun W => run_neqRs y1 y2 y3 y4 W
      have hgd := eqGuardRs
      go_wp2_with fail
      go_quiet (fail)
      go_wp2
      go_roundg (n - (k + 1))
      case rel => exact ⟨k + 1, q + nq, rfl, by go_num, by omega, rfl⟩
      case measure => omega
    · go_wp2
      go_ret
      exact ⟨rfl, _, rfl⟩
end Go.Proofs.Ytelmjkjbbbgmpaa
