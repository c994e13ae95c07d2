/-
  What is known of the law's field: by a contract.
-/
import Derived.Test.YthmbpohebcnehaaDoorFdLaw
namespace Go.Proofs.YthmbpohebcnehaaDoor
open Go.RowKit

theorem one1 : isB (oneLay 1) = true := by decide +kernel

set_option maxRecDepth 1000000 in
set_option maxHeartbeats 16000000 in
theorem fdKnown_any (w : World) : Calls Tryd.prog 17 #[] w fun e w' => e = .returned (.bool true) ∧ Below w.heap.size w w' := by
  go_enter Tryd.func17, Tryd.ntmps17
  go_wp2_with fail
  refine (one_any 1 w (by omega)).mono ?_
  rintro e w1 ⟨v, rfl, hL, hF, hb1⟩
  have D := new_f 1 w w1 v hL hF one1 (by omega) hb1
  clear hL hF
  go_wp2_with fail
  refine D.mono ?_
  rintro e w2 ⟨fb, rfl, hK, -⟩
  clear D hb1
  have HK2 : Hid (FdL w w2 fb [false] [itF 2 0 (restF 1)]) := hK
  clear hK
  go_wp2
  go_loopg [3] 3 (fun gk i wr => ∃ k : Nat, gk = 3 - k ∧ i = .int .i64 k ∧ k ≤ 3 ∧ FdL w wr fb [false] [itF 2 k (restF 1)])
  case atStart => exact ⟨0, rfl, rfl, by omega, HK2.out⟩
  case round =>
    obtain ⟨k, rfl, rfl, hk, hK⟩ := hrel
    have HKR : Hid (FdL w wr fb [false] [itF 2 k (restF 1)]) := hK
    clear hK
    by_cases hlt : k < 3
    · have hki : (k : Int) < 3 := by omega
      have HBA : Hid (Below wr.heap.size wr (wr.alloc (.cells #[.int .i64 2] 3))) := (Below.refl _ _).alloc (Nat.le_refl _) _
      have D := step_f w (wr.alloc (.cells #[.int .i64 2] 3)) fb [false] _ [2] wr.heap.size 1 1 (HKR.out.step HBA.out) (blk_new _ _) rfl (by omega)
      go_wp2_with fail
      refine D.mono ?_
      rintro e w3 ⟨rfl, hs, -⟩
      rw [step1 _ 2 (by decide)] at hs
      have HKS : Hid (FdL w w3 fb [false] [itF 2 (k + 1) (restF 1)]) := hs
      clear D hs
      go_wp2
      go_roundg (3 - (k + 1))
      case rel => exact ⟨k + 1, rfl, by go_num, by omega, HKS.out⟩
      case measure => omega
    · have hkn : k = 3 := by omega
      subst hkn
      have D := in_f w wr fb [false] _ 1 1 HKR.out rfl rfl (by omega)
      go_wp2_with fail
      refine D.mono ?_
      rintro e w3 ⟨g, c, b, rfl, ho, hl, -, hb3⟩
      have HK3 : Hid (FdL w w3 fb [false] [itF 2 3 (restF 1)]) := HKR.out.step hb3
      have hB : Below w3.heap.size w3 (w3.alloc (.cells #[.slice (some ⟨g, 0, none⟩) 1 c, .slice (some ⟨b, 0, none⟩) 1 1] 46)) := (Below.refl _ _).alloc (Nat.le_refl _) _
      have z1 := occ_cell (l := [false]) ho (k := 0) rfl
      have z0 := lies_cell hl (k := 0) (x := 2) (by decide +kernel)
      have y1 := up_cell hB z1
      have y0 := up_cell hB z0
      have HKE : Hid (FdL w (w3.alloc (.cells #[.slice (some ⟨g, 0, none⟩) 1 c, .slice (some ⟨b, 0, none⟩) 1 1] 46)) fb [false] [itF 2 3 (restF 1)]) := HK3.out.step hB
      clear D hl ho hb3 hB z0 z1
      go_wp2
      go_ret
      exact ⟨rfl, HKE.out.bl⟩
end Go.Proofs.YthmbpohebcnehaaDoor
