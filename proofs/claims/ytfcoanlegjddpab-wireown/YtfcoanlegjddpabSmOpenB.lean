/-
  Bytes, and rows of bytes, among the arguments of a law.
-/
import Derived.Test.YtfcoanlegjddpabSmOf
import Derived.Deep.Slices
import Derived.Deep.Grids
import Derived.SizedLaws
namespace Go.Proofs.Ytfcoanlegjddpab
open Go.RowKit

theorem saddr_at (b off j : Nat) : (⟨b, off, none⟩ : Addr).add j = ⟨b, off + j, none⟩ := by unfold Addr.add; split <;> simp_all
theorem saddr_plain {W : World} {x : Addr} {v : Value} (h : W.cell? (x.add 0) = some v) : ∃ b off, x = ⟨b, off, none⟩ := by
  obtain ⟨b, off, spot⟩ := x
  have hs : spot = none := by simpa [Addr.add] using World.cell?_spot h
  subst hs
  exact ⟨b, off, rfl⟩
theorem u8_of (n : Int) (h : (Lit.int .u8 n).wf = true) : u8 (BitVec.ofInt 8 n) = n := by
  rw [← wrap_u8]
  have h2 : 0 ≤ n ∧ n < 256 := by
    simp [Lit.wf, IntKind.max, IntKind.min, IntKind.bits, IntKind.signed] at h
    omega
  simp [IntKind.wrap, IntKind.bits, IntKind.signed]
  omega
/-- Rows, and of a nil one that it has no room. -/
def hasRowsN (w : World) (oa : Option Addr) (ls : List (List (BitVec 8))) : Prop := hasRows w oa ls ∧ ∀ j r, ls[j]? = some r → ∀ b off c, oa = some ⟨b, off, none⟩ → w.cell? ⟨b, off + j, none⟩ = some (.slice none 0 c) → c = 0
/-- Bytes, and their room. -/
def hasBytesN (w : World) (oa : Option Addr) (cap : Nat) (l : List (BitVec 8)) : Prop := hasBytes w oa l ∧ l.length ≤ cap ∧ (oa = none → cap = 0)
section
variable {H : Type} {enc : TypeId × Value → H} {W : World}
theorem open_bytes {a : Option Addr} {len cap fuel : Nat} {x : DataW H × List MemPlace} (h : DataW.trod enc Try.prog W 0 (fun _ => true) true fuel 22 [.slice a len cap] = some x) :
    ∃ l : List (BitVec 8), l.length = len ∧ len ≤ maxLen ∧ hasBytes W a l := by
  rcases Go.ChangeShapes.open_ints Try.underlying22 Try.underlying5 (by kernel_rfl) h with ⟨hcs, _⟩ | ⟨x, l, c, ss, hcs, _, hl, hm, hz, _, hcell, hwf⟩
  · simp at hcs
    obtain ⟨rfl, rfl, rfl⟩ := hcs
    exact ⟨[], rfl, by unfold maxLen; omega, fun j x hj => by simp at hj⟩
  · simp at hcs
    obtain ⟨rfl, rfl, rfl⟩ := hcs
    have hz' : ss.length = cap := by simpa using hz
    refine ⟨(ss.take len).map (BitVec.ofInt 8), by simp; omega, by omega, fun j y hj => ?_⟩
    rw [List.getElem?_map, Option.map_eq_some_iff] at hj
    obtain ⟨n, hn, rfl⟩ := hj
    obtain ⟨h1, h2⟩ := List.getElem?_eq_some_iff.1 hn
    rw [List.length_take] at h1
    obtain ⟨b, off, rfl⟩ := saddr_plain (hcell 0 (by omega))
    refine ⟨b, off, rfl, ?_⟩
    have := hcell j (by omega)
    rw [saddr_at] at this
    rw [List.getElem_take] at h2
    rw [this, u8_of n (hwf n (h2 ▸ List.getElem_mem _)), ← h2, List.getD_eq_getElem?_getD, List.getElem?_eq_getElem (by omega)]
    rfl
theorem open_bytesn {a : Option Addr} {len cap fuel : Nat} {x : DataW H × List MemPlace} (h : DataW.trod enc Try.prog W 0 (fun _ => true) true fuel 22 [.slice a len cap] = some x) :
    ∃ l : List (BitVec 8), l.length = len ∧ len ≤ maxLen ∧ hasBytesN W a cap l := by
  obtain ⟨l, h1, h2, h3⟩ := open_bytes h
  refine ⟨l, h1, h2, h3, ?_⟩
  rcases Go.ChangeShapes.open_ints Try.underlying22 Try.underlying5 (by kernel_rfl) h with ⟨hcs, _⟩ | ⟨x, l', c, ss, hcs, _, hl, hm, hz, _⟩
  · simp at hcs
    obtain ⟨rfl, rfl, rfl⟩ := hcs
    exact ⟨by omega, fun _ => rfl⟩
  · simp at hcs
    obtain ⟨rfl, rfl, rfl⟩ := hcs
    exact ⟨by omega, fun e => by cases e⟩
theorem open_rows {a : Option Addr} {len cap fuel : Nat} {x : DataW H × List MemPlace} (h : DataW.trod enc Try.prog W 0 (fun _ => true) true fuel 73 [.slice a len cap] = some x) :
    ∃ l : List (List (BitVec 8)), l.length = len ∧ len ≤ maxLen ∧ hasRowsN W a l := by
  rcases Go.Deep.open_slice1 Try.underlying73 (by kernel_rfl) h with ⟨hcs, _⟩ | ⟨x, l, c, m, n, V, D, Pl, hcs, hb, hl, hm, hz, _, hcell⟩
  · simp at hcs
    obtain ⟨rfl, rfl, rfl⟩ := hcs
    exact ⟨[], rfl, by unfold maxLen; omega, fun j x hj => by simp at hj, fun j x hj => by simp at hj⟩
  · simp at hcs
    obtain ⟨rfl, rfl, rfl⟩ := hcs
    have hz' : m = cap := by simpa using hz
    have each : ∀ i, i < len → ∃ r : List (BitVec 8), ∃ oe c', V i = .slice oe r.length c' ∧ r.length ≤ maxLen ∧ hasBytes W oe r := fun i hi => by
      have ht := (hcell i (by omega)).2
      rcases Go.ChangeShapes.open_ints Try.underlying22 Try.underlying5 (by kernel_rfl) ht with ⟨hcs, _⟩ | ⟨x', l', c', ss, hcs, _⟩
      · have hv : V i = .slice none 0 0 := by simpa using hcs
        exact ⟨[], none, 0, hv, Nat.zero_le _, fun j x hj => by simp at hj⟩
      · have hv : V i = .slice (some x') l' c' := by simpa using hcs
        rw [hv] at ht
        obtain ⟨r, e, hm', hr⟩ := open_bytes ht
        exact ⟨r, _, c', by rw [hv, e], by rw [e]; exact hm', hr⟩
    have mk : ∀ n, n ≤ len → ∃ L : List (List (BitVec 8)), L.length = n ∧ ∀ j r, L[j]? = some r → ∃ oe c', V j = .slice oe r.length c' ∧ r.length ≤ maxLen ∧ hasBytes W oe r := by
      intro n
      induction n with
      | zero => exact fun _ => ⟨[], rfl, fun j r hj => by simp at hj⟩
      | succ n ih =>
        intro hn
        obtain ⟨L, hL, hL2⟩ := ih (by omega)
        obtain ⟨r, oe, c', h1⟩ := each n (by omega)
        refine ⟨L ++ [r], by simp [hL], fun j y hj => ?_⟩
        by_cases hjn : j < n
        · rw [List.getElem?_append_left (by omega)] at hj
          exact hL2 j y hj
        · have hlt : j < (L ++ [r]).length := (List.getElem?_eq_some_iff.1 hj).1
          rw [List.length_append, hL, List.length_singleton] at hlt
          have : j = n := by omega
          subst this
          rw [List.getElem?_append_right (by omega), hL, Nat.sub_self] at hj
          obtain rfl : r = y := by simpa using hj
          exact ⟨oe, c', h1⟩
    obtain ⟨L, hL, hL2⟩ := mk len (Nat.le_refl _)
    have H1 : hasRows W (some x) L := fun j r hj => by
      have hlt : j < len := by rw [← hL]; exact (List.getElem?_eq_some_iff.1 hj).1
      obtain ⟨oe, c', h1, h2, h3⟩ := hL2 j r hj
      obtain ⟨b, off, rfl⟩ := saddr_plain (hcell 0 (by omega)).1
      have hc := (hcell j (by omega)).1
      rw [saddr_at, h1] at hc
      exact ⟨b, off, oe, c', rfl, hc, h3, by unfold maxLen at h2; omega⟩
    refine ⟨L, hL, by omega, H1, fun j r hj b off c'' e hcv => ?_⟩
    have hlt : j < len := by rw [← hL]; exact (List.getElem?_eq_some_iff.1 hj).1
    injection e with e
    subst e
    have hc := (hcell j (by omega)).1
    rw [saddr_at, hcv] at hc
    have hv := (Option.some.inj hc).symm
    have ht := (hcell j (by omega)).2
    rcases Go.ChangeShapes.open_ints Try.underlying22 Try.underlying5 (by kernel_rfl) ht with ⟨hcs, _⟩ | ⟨x', l', c', ss, hcs, _⟩
    · have hv2 : V j = .slice none 0 0 := by simpa using hcs
      rw [hv2] at hv
      injection hv with _ _ h3
      exact h3.symm
    · have hv2 : V j = .slice (some x') l' c' := by simpa using hcs
      rw [hv2] at hv
      injection hv with h1
      cases h1
theorem sweightsAll_mem {P : Program} {e : TypeId} : ∀ {l : List (DataW H)} {d : DataW H} {n : Nat}, d ∈ l → n ∈ d.weights P e → n ∈ DataW.weightsAll P e l
  | x :: l, d, n, h, hn => by
    rw [DataW.weightsAll, List.mem_append]
    rcases List.mem_cons.1 h with rfl | h
    · exact .inl hn
    · exact .inr (sweightsAll_mem h hn)
/-- No row is longer than what the reach lets through. -/
theorem rows_sized {a : Option Addr} {len cap fuel : Nat} {x : DataW H × List MemPlace} (h : DataW.trod enc Try.prog W 0 (fun _ => true) true fuel 73 [.slice a len cap] = some x) (hsz : ∀ n ∈ x.1.weights Try.prog 73, n ≤ reachBytes)
    {l : List (List (BitVec 8))} (hl : l.length = len) (hr : hasRows W a l) : ∀ r ∈ l, r.length ≤ 140737488355328 := fun r hmem => by
  obtain ⟨j, hj⟩ := List.getElem?_of_mem hmem
  have hlt : j < len := by rw [← hl]; exact (List.getElem?_eq_some_iff.1 hj).1
  obtain ⟨b, off, oe, c1, rfl, hc, _, _⟩ := hr j r hj
  rcases Go.Deep.open_slice1 Try.underlying73 (by kernel_rfl) h with ⟨hcs, _⟩ | ⟨x, l2, c, m, n, V, D, Pl, hcs, hb, hl2, hm, hz, hx, hcell⟩
  · simp at hcs
  · simp at hcs
    obtain ⟨rfl, rfl, rfl⟩ := hcs
    have hz' : m = cap := by simpa using hz
    have hcj := (hcell j (by omega)).1
    rw [saddr_at, hc] at hcj
    have hv := Option.some.inj hcj
    have ht := (hcell j (by omega)).2
    rw [← hv] at ht
    subst hx
    rcases Go.ChangeShapes.open_ints Try.underlying22 Try.underlying5 (by kernel_rfl) ht with ⟨hcs, _⟩ | ⟨x', l', c', ss, hcs, _, hle, hmx, hzs, hd, _, _⟩
    · have h0 : r.length = 0 := by
        have := (List.cons.inj hcs).1
        injection this
      omega
    · have hrl : r.length = l' := by
        have := (List.cons.inj hcs).1
        injection this
      have hD : D j = .slice (Go.ChangeShapes.lits .u8 (ss.take l')) (Go.ChangeShapes.lits .u8 (ss.drop l')) := by
        have := congrArg Prod.fst hd
        exact this
      have hmem2 : ((Go.ChangeShapes.lits (H := H) .u8 (ss.take l')).length + (Go.ChangeShapes.lits (H := H) .u8 (ss.drop l')).length) * Try.prog.bytesOf 5 ∈ (D j).weights Try.prog 22 := by
        rw [hD, DataW.weights, Try.underlying22]
        exact List.mem_cons_self
      have hb1 : Try.prog.bytesOf 5 = 1 := by kernel_rfl
      have := hsz _ (by
        rw [DataW.weights, Try.underlying73]
        exact List.mem_cons_of_mem _ (List.mem_append_left _ (sweightsAll_mem (List.mem_map.2 ⟨j, List.mem_range.2 hlt, rfl⟩) hmem2)))
      rw [hb1, Nat.mul_one, Go.ChangeShapes.lits, Go.ChangeShapes.lits, List.length_map, List.length_map, List.length_take, List.length_drop] at this
      have hzs' : ss.length = c' := by simpa using hzs
      unfold reachBytes at this
      omega
theorem sweights_at {P : Program} {ts : List TypeId} {ds : List (DataW H)} (h : (DataW.weightsEach P ts ds).all (· ≤ reachBytes) = true) {j : Nat} {t : TypeId} {d : DataW H} (ht : ts[j]? = some t) (hd : ds[j]? = some d) : ∀ n ∈ d.weights P t, n ≤ reachBytes := by
  intro n hn
  have := List.all_eq_true.1 h n (DataW.weights_mem_each ht hd n hn)
  simpa using this
end
end Go.Proofs.Ytfcoanlegjddpab
