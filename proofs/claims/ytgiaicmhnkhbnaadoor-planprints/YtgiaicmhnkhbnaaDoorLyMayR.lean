/-
  The reference's places and needs of May: are all there? by contracts.
-/
import Derived.Test.YtgiaicmhnkhbnaaDoorLyIs
import Derived.Test.YtgiaicmhnkhbnaaDoorPlMay
import Derived.Test.YtgiaicmhnkhbnaaDoorPlRefCap
import Derived.Deep.CutBlock
namespace Go.Proofs.YtgiaicmhnkhbnaaDoor
open Go.RowKit

theorem isP_of {l : Lay} (h : mayB l = true) (a : LaySmall l) : IsP l := by
  rw [mayB, Bool.and_eq_true, Bool.and_eq_true, Bool.and_eq_true] at h
  obtain ⟨_, _, h3, h4⟩ := h
  refine ⟨⟨by have := a.s.1; omega, trivial, trivial⟩, ⟨by have := a.g.1; omega, trivial, trivial⟩, ⟨by have := a.p.1; omega, trivial, fun x hx => ?_⟩, ⟨by have := a.r.1; omega, trivial, fun x hx => ⟨trivial, ?_⟩⟩⟩
  · have := (List.all_eq_true.1 h3) x hx
    rw [pointP, Bool.and_eq_true] at this
    exact ⟨trivial, of_decide_eq_true this.2⟩
  · have := (List.all_eq_true.1 h4) x hx
    rw [routeP, Bool.and_eq_true, Bool.and_eq_true, Bool.and_eq_true, Bool.and_eq_true] at this
    obtain ⟨_, h5, h6, h7, h8⟩ := this
    have h5 := of_decide_eq_true h5
    obtain ⟨h1, h2, h3, h4⟩ := a.r.2 x hx
    exact ⟨h5.1, h5.2, ⟨trivial, by omega, of_decide_eq_true h6⟩, ⟨by omega, of_decide_eq_true h7⟩, ⟨by omega, of_decide_eq_true h8⟩⟩


set_option maxRecDepth 1000000 in
set_option maxHeartbeats 4000000 in
theorem places_any (v : Value) (p : List (Int)) (n : Nat) (w : World) (h : rowAt w v 1 iC p) (hl : p.length ≤ 4294967296) (_ : n ≤ 4294967296) (hi : ∀ x ∈ p, okI x) :
    Calls Tryd.prog 19 #[v, .int .i64 n] w fun e w' => e = .returned (.bool (placesB p n)) ∧ w' = w := by
  obtain ⟨oa, cap, rfl, h2⟩ := h
  have H2 : Hid (∀ j y, p[j]? = some y → ∃ g off, oa = some ⟨g, off, none⟩ ∧ ∀ i u, (iC y)[i]? = some u → w.cell? ⟨g, off + j * 1 + i, none⟩ = some u) := h2
  have HI : Hid (∀ x ∈ p, okI x) := hi
  clear h2 hi
  generalize hp : p.length = np at *
  have HP : Hid (p.length = np) := hp
  clear hp
  go_enter Tryd.func19, Tryd.ntmps19
  go_wp2
  go_loop [5] (fun i => ∃ k : Nat, i = .int .i64 k ∧ k ≤ np ∧ ∀ x ∈ p.take k, 0 ≤ x ∧ x < n) (fun i => np - (intOf i).toNat)
  case atStart => exact ⟨0, rfl, by omega, by simp⟩
  case round =>
    obtain ⟨k, rfl, hk, hc⟩ := hrel
    have HC : Hid (∀ x ∈ p.take k, 0 ≤ x ∧ x < n) := hc
    clear hc
    by_cases hlt : k < np
    · obtain ⟨y, hy⟩ : ∃ y, p[k]? = some y := ⟨p[k]'(by rw [HP.out]; exact hlt), List.getElem?_eq_getElem _⟩
      obtain ⟨g, off, rfl, hcell⟩ := H2.out k y hy
      have c0 := hcell 0 _ rfl
      have hki : (k : Int) < (np : Int) := by omega
      have hyi := HI.out y (List.mem_of_getElem? hy)
      simp only [okI] at hyi
      rw [show off + k * 1 + 0 = off + k by omega] at c0
      have BAD : Hid (¬ (0 ≤ y ∧ y < n) → placesB p n = false) := fun hh => decide_eq_false fun ha => hh (ha y (List.mem_of_getElem? hy))
      have GO : Hid (0 ≤ y ∧ y < n → ∀ x ∈ p.take (k + 1), 0 ≤ x ∧ x < n) := fun hh => take_more (P := fun x : Int => 0 ≤ x ∧ x < n) hy HC.out hh
      clear hcell hy
      skip
      skip
      by_cases h0 : y < 0
      · have HF : Hid (placesB p n = false) := BAD.out (by omega)
        go_wp2
        go_ret
        exact ⟨ret_bool HF.out.symm, rfl⟩
      · by_cases h1 : (n : Int) ≤ y
        · have HF : Hid (placesB p n = false) := BAD.out (by omega)
          go_wp2
          go_ret
          exact ⟨ret_bool HF.out.symm, rfl⟩
        · have hgo := GO.out (by omega)
          have HGO : Hid (∀ x ∈ p.take (k + 1), 0 ≤ x ∧ x < n) := hgo
          clear hgo GO BAD
          go_wp2
          go_round
          case rel => exact ⟨k + 1, by go_num, by omega, HGO.out⟩
          case measure => simp [intOf]; omega
    · have hki : ¬ (k : Int) < (np : Int) := by omega
      have h1 := HC.out
      rw [List.take_of_length_le (by rw [HP.out]; omega)] at h1
      have H1 : Hid (placesB p n = true) := decide_eq_true h1
      clear h1
      go_wp2
      go_ret
      exact ⟨ret_bool H1.out.symm, rfl⟩

set_option maxRecDepth 1000000 in
set_option maxHeartbeats 4000000 in
theorem wantsM_any (v : Value) (p : List (Int × Bool)) (n : Nat) (w : World) (h : rowAt w v 2 nC p) (hl : p.length ≤ 4294967296) (_ : n ≤ 4294967296) (hi : ∀ x ∈ p, okI x.1) :
    Calls Tryd.prog 20 #[v, .int .i64 n] w fun e w' => e = .returned (.bool (wantsB p n)) ∧ w' = w := by
  obtain ⟨oa, cap, rfl, h2⟩ := h
  have H2 : Hid (∀ j y, p[j]? = some y → ∃ g off, oa = some ⟨g, off, none⟩ ∧ ∀ i u, (nC y)[i]? = some u → w.cell? ⟨g, off + j * 2 + i, none⟩ = some u) := h2
  have HI : Hid (∀ x ∈ p, okI x.1) := hi
  clear h2 hi
  generalize hp : p.length = np at *
  have HP : Hid (p.length = np) := hp
  clear hp
  go_enter Tryd.func20, Tryd.ntmps20
  go_wp2
  go_loop [5] (fun i => ∃ k : Nat, i = .int .i64 k ∧ k ≤ np ∧ ∀ x ∈ p.take k, 0 ≤ x.1 ∧ x.1 < n) (fun i => np - (intOf i).toNat)
  case atStart => exact ⟨0, rfl, by omega, by simp⟩
  case round =>
    obtain ⟨k, rfl, hk, hc⟩ := hrel
    have HC : Hid (∀ x ∈ p.take k, 0 ≤ x.1 ∧ x.1 < n) := hc
    clear hc
    by_cases hlt : k < np
    · obtain ⟨y, hy⟩ : ∃ y, p[k]? = some y := ⟨p[k]'(by rw [HP.out]; exact hlt), List.getElem?_eq_getElem _⟩
      obtain ⟨g, off, rfl, hcell⟩ := H2.out k y hy
      have c0 := hcell 0 _ rfl
      have hki : (k : Int) < (np : Int) := by omega
      have hyi := HI.out y (List.mem_of_getElem? hy)
      simp only [okI] at hyi
      rw [Nat.add_zero] at c0
      have BAD : Hid (¬ (0 ≤ y.1 ∧ y.1 < n) → wantsB p n = false) := fun hh => decide_eq_false fun ha => hh (ha y (List.mem_of_getElem? hy))
      have GO : Hid (0 ≤ y.1 ∧ y.1 < n → ∀ x ∈ p.take (k + 1), 0 ≤ x.1 ∧ x.1 < n) := fun hh => take_more (P := fun x : Int × Bool => 0 ≤ x.1 ∧ x.1 < n) hy HC.out hh
      clear hcell hy
      obtain ⟨y, rv⟩ := y
      simp only at c0 hyi BAD GO
      by_cases h0 : y < 0
      · have HF : Hid (wantsB p n = false) := BAD.out (by omega)
        go_wp2
        go_ret
        exact ⟨ret_bool HF.out.symm, rfl⟩
      · by_cases h1 : (n : Int) ≤ y
        · have HF : Hid (wantsB p n = false) := BAD.out (by omega)
          go_wp2
          go_ret
          exact ⟨ret_bool HF.out.symm, rfl⟩
        · have hgo := GO.out (by omega)
          have HGO : Hid (∀ x ∈ p.take (k + 1), 0 ≤ x.1 ∧ x.1 < n) := hgo
          clear hgo GO BAD
          go_wp2
          go_round
          case rel => exact ⟨k + 1, by go_num, by omega, HGO.out⟩
          case measure => simp [intOf]; omega
    · have hki : ¬ (k : Int) < (np : Int) := by omega
      have h1 := HC.out
      rw [List.take_of_length_le (by rw [HP.out]; omega)] at h1
      have H1 : Hid (wantsB p n = true) := decide_eq_true h1
      clear h1
      go_wp2
      go_ret
      exact ⟨ret_bool H1.out.symm, rfl⟩
end Go.Proofs.YtgiaicmhnkhbnaaDoor
