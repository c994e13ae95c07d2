/-
  A row of bytes of the call's own: appended to, stored into, read.
-/
import Derived.Test.YtfcoanlegjddpabSmKnown
import Derived.Maps.AppendAt
import Derived.Deep.OwnRows
namespace Go.Proofs.Ytfcoanlegjddpab
open Go.RowKit

theorem up_cellS {B : Nat} {W W' : World} (hb : Below B W W') {p : Addr} {v : Value} (h : W.cell? p = some v) (hp : p.block < B) : W'.cell? p = some v := (hb.cell hp).trans h
def u8C (x : BitVec 8) : Value := .int .u8 (u8 x)
theorem infoB : (Try.prog.info? 5).map (fun i => (i.zero, i.size, i.bytes)) = some (some (.int .u8 0), 1, 1) := by kernel_rfl
theorem made_u8 (n : Nat) : madeCells #[Value.int .u8 0] n = ((List.replicate n (0#8)).map u8C).toArray := by
  apply Array.ext
  · rw [size_madeCells]; simp
  · intro i h1 h2
    simp [madeCells, Nat.mod_one]
    rfl
theorem mk_u8 (n : Nat) (hn : n ≤ 1000) (w : World) : (Instr.makeSlice 22 (.int .i64 (n : Int)) (.int .i64 (n : Int))).run Try.prog w = .ok (.slice (some ⟨w.heap.size, 0, none⟩) n n) (w.alloc (.cells ((List.replicate n (0#8)).map u8C).toArray 5)) := by
  rw [← made_u8]
  exact run_make_row' (P := Try.prog) 22 5 (.int .u8 0) 1 Try.underlying22 infoB rfl .i64 .i64 n (by omega) (by omega) w
theorem sinfo_parts {o : Option TypeInfo} {z : Value} {s b : Nat} (h : o.map (fun i => (i.zero, i.size, i.bytes)) = some (some z, s, b)) : ∃ i, o = some i ∧ i.zero = some z ∧ i.size = s ∧ i.bytes = b := by
  cases o with
  | none => cases h
  | some i =>
    simp only [Option.map_some, Option.some.injEq, Prod.mk.injEq] at h
    exact ⟨i, rfl, h.1, h.2.1, h.2.2⟩
theorem one_u8 (l : List (BitVec 8)) : ∀ u ∈ l.map u8C, u.oneCell' = true := fun u hu => by
  obtain ⟨x, _, rfl⟩ := List.mem_map.1 hu
  rfl
/-- A row of the call's own, read. -/
theorem owns_bytes {w : World} {base : Nat} {v : Value} {n : Nat} {l : List (BitVec 8)} (h : w.ownsRow base 5 1 v n (l.map u8C)) : ∃ oa cap, v = .slice oa n cap ∧ l.length = n ∧ hasBytes w oa l := by
  have hl : l.length = n := by simpa using h.1
  rcases h.2 with ⟨rfl, rfl⟩ | ⟨g, cap, cur, rfl, _, hg, _, _, hs, ht⟩
  · refine ⟨none, 0, rfl, hl, fun j x hj => ?_⟩
    obtain rfl : l = [] := List.length_eq_zero_iff.1 hl
    simp at hj
  · refine ⟨some ⟨g, 0, none⟩, cap, rfl, hl, fun j x hj => ⟨g, 0, rfl, ?_⟩⟩
    have hlt := (List.getElem?_eq_some_iff.1 hj).1
    have h2 : (cur.toList.take (n * 1))[j]? = some (u8C x) := by rw [ht, List.getElem?_map, hj]; rfl
    rw [List.getElem?_take, if_pos (by omega)] at h2
    simp [World.cell?, hg]
    simp at h2
    exact h2
theorem news_bytes {w : World} {b off : Nat} {p : List (BitVec 8)} (hp : hasBytes w (some ⟨b, off, none⟩) p) : ∀ j u, (p.map u8C)[j]? = some u → w.cell? ((⟨b, off, none⟩ : Addr).add j) = some u := fun j u hj => by
  rw [List.getElem?_map, Option.map_eq_some_iff] at hj
  obtain ⟨x, hx, rfl⟩ := hj
  obtain ⟨b', off', e, hc⟩ := hp j x hx
  injection e with e
  injection e with e1 e2 e3
  subst e1 e2
  have : (⟨b, off, none⟩ : Addr).add j = ⟨b, off + j, none⟩ := by unfold Addr.add; split <;> simp_all
  rw [this]
  exact hc
/-- One byte stored into a row of the call's own. -/
theorem bytes_set {w : World} {g cap : Nat} {cur : Array Value} {t : TypeId} {l : List (BitVec 8)} (hg : w.heap[g]? = some (.cells cur t (0, 0))) (hs : cur.size = cap) (ht : cur.toList.take l.length = l.map u8C) (k : Nat) (x : BitVec 8) :
    (w.setCell ⟨g, k, none⟩ (.int .u8 (u8 x))).heap[g]? = some (.cells (cur.setIfInBounds k (.int .u8 (u8 x))) t (0, 0)) ∧ (cur.setIfInBounds k (.int .u8 (u8 x))).size = cap ∧ (cur.setIfInBounds k (.int .u8 (u8 x))).toList.take l.length = (l.set k x).map u8C := by
  refine ⟨by simp [World.setCell, Array.getElem?_modify, hg], by simp [hs], ?_⟩
  rw [Array.toList_setIfInBounds, List.take_set, ht, List.map_set]
  rfl
theorem bytes_own {w : World} {g : Nat} {cur : Array Value} {t : TypeId} {fr : Nat × Nat} {l : List (BitVec 8)} {n : Nat} (hg : w.heap[g]? = some (.cells cur t fr)) (ht : cur.toList.take n = l.map u8C) : hasBytes w (some ⟨g, 0, none⟩) l := fun j x hj => ⟨g, 0, rfl, by
  have h2 : (cur.toList.take n)[j]? = some (u8C x) := by rw [ht, List.getElem?_map, hj]; rfl
  have h3 : cur[j]? = some (u8C x) := by
    rw [List.getElem?_take] at h2
    split at h2
    · simpa using h2
    · cases h2
  simp [World.cell?, hg]
  exact h3⟩
theorem below_grown {w w' : World} {base : Nat} {v : Value} (hg : w.grownBy w' v.ownBlock) (hb : base ≤ w.heap.size) (hv : ∀ g, v.ownBlock = some g → base ≤ g) : Below base w w' :=
  (Below.refl base w).grown hg hb hv
end Go.Proofs.Ytfcoanlegjddpab
