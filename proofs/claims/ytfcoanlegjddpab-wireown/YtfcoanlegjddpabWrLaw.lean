/-
  The laws' own long, made, alike, known, each by a contract.
-/
import Derived.Test.YtfcoanlegjddpabWrUnpack
import Derived.Test.YtfcoanlegjddpabWrRefPack
import Derived.Test.YtfcoanlegjddpabCrLong
import Derived.Deep.QuietTactic
import Derived.BigQuiet
namespace Go.Proofs.Ytfcoanlegjddpab
open Go.RowKit

def longF (l : List Th) : Bool := decide (9000 < sumTh l) || decide (100 < l.length)


theorem its_small {l : List Th} (hz : ∀ y ∈ l, y.s.size ≤ 140737488355328) : SmallL (l.map plainI) := small_of fun x hx => by
  obtain ⟨t, ht, rfl⟩ := List.mem_map.1 hx
  have := hz t ht
  unfold smT plainI
  split
  · show (0 : Nat) ≤ _; omega
  · split
    · show t.s.size ≤ _; omega
    · show (0 : Nat) ≤ _; omega
def packK : List (BitVec 8) := telV [1#8, 3#8, 1#8]
theorem packK_eq : packV [.inr (.inr true)] = some packK := rfl
theorem packK_len : packK.length = 9 := by decide +kernel
theorem packK_at : packK[5]? = some 3#8 ∧ packK[6]? = some 1#8 ∧ packK[7]? = some 3#8 ∧ packK[8]? = some 1#8 := by decide +kernel
theorem cell_u8 {w : World} {oa : Option Addr} {q : List (BitVec 8)} (h : hasBytes w oa q) {k : Nat} {x : BitVec 8} (hx : q[k]? = some x) {g off : Nat} (e : oa = some ⟨g, off, none⟩) : w.cell? ⟨g, off + k, none⟩ = some (.int .u8 (x.toNat : Int)) := by
  obtain ⟨g', off', e', hc⟩ := h k x hx
  rw [e] at e'
  injection e' with e'
  injection e' with e1 e2
  subst e1 e2
  exact hc

set_option maxRecDepth 1000000 in
set_option maxHeartbeats 2000000 in
theorem known_any (w : World) :
    Calls Try.prog 10 #[] w fun e w' => e = .returned (.bool true) ∧ Below w.heap.size w w' := by
  have H0 : Hid (Crate (w.alloc (.cells #[.slice none 0 0] 67)) w.heap.size w.heap.size (.slice none 0 0) []) := crate_new w
  go_enter Try.func10, Try.ntmps10
  go_wp2_with fail
  refine (new_any _).mono ?_
  rintro e w1 ⟨rfl, rfl⟩
  go_wp2_with fail
  refine (addBool_any true [] _ _ _ _ H0.out).mono ?_
  rintro e w2 ⟨v1, rfl, h1, t1⟩
  have HX : Hid (Reads w2 (.pointer (some ⟨w.heap.size, 0, none⟩)) [.inr (.inr true)] ∧ Below w.heap.size w w2) :=
    ⟨h1.reads, ((Below.refl w.heap.size w).alloc (Nat.le_refl _) _).trans (H0.out.1.turnBelow t1)⟩
  clear h1 t1 H0
  have HE : Hid (packE [.inr (.inr true)] = 0 ∧ (packV [.inr (.inr true)]).getD [] = packK) := ⟨rfl, rfl⟩
  go_wp2_with fail
  refine (pack_any w.heap.size [.inr (.inr true)] w2 HX.out.1 (by decide) (small_of fun x hx => by rw [List.mem_singleton.1 hx]; show (0 : Nat) ≤ _; omega)).mono ?_
  rw [HE.out.1, HE.out.2]
  rintro e w3 ⟨v3, rfl, h3, h4⟩
  obtain ⟨oa, cap, ev, hby⟩ := h3.bytes
  rw [packK_len] at ev
  subst ev
  obtain ⟨g, off, ea, -⟩ := hby 5 _ packK_at.1
  have d5 := cell_u8 hby packK_at.1 ea
  have d6 := cell_u8 hby packK_at.2.1 ea
  have d7 := cell_u8 hby packK_at.2.2.1 ea
  have d8 := cell_u8 hby packK_at.2.2.2 ea
  subst ea
  have n3 : ((3#8).toNat : Int) = 3 := rfl
  have n1 : ((1#8).toNat : Int) = 1 := rfl
  rw [n3] at d5 d7
  rw [n1] at d6 d8
  have HB : Hid (Below w.heap.size w w3) := HX.out.2.trans (h4.mono HX.out.2.size)
  clear h3 h4 hby n3 n1 HX
  go_wp2
  go_ret
  exact ⟨rfl, HB.out⟩
end Go.Proofs.Ytfcoanlegjddpab
