/-
  The law's own 'known', by a contract: it is true.
-/
import Derived.Test.YtgiaicmhnkhbnaaDoorPlParse
import Derived.Test.YtgiaicmhnkhbnaaDoorPlText
namespace Go.Proofs.YtgiaicmhnkhbnaaDoor
open Go.RowKit

theorem pk1 : (parseP ⟨#[115, 101, 99, 116, 105, 111, 110, 32, 97, 10, 115, 101, 99, 116, 105, 111, 110, 32, 97, 10]⟩).2 = (2, 4) := by decide +kernel
theorem pk2 : (parseP ⟨#[115, 105, 103, 110, 97, 108, 32, 115]⟩).2 = (1, 0) ∧ (parseP ⟨#[115, 105, 103, 110, 97, 108, 32, 115]⟩).1.signals = [⟨#[115]⟩] := by decide +kernel

set_option maxRecDepth 1000000 in
set_option maxHeartbeats 2000000 in
theorem known_any (hby : BySaid) (w : World) : Calls Tryd.prog 10 #[] w fun e w' => e = .returned (.bool true) ∧ Below w.heap.size w w' := by
  have D1 : Hid (∀ W, Calls Tryd.prog 26 #[.string ⟨#[115, 101, 99, 116, 105, 111, 110, 32, 97, 10, 115, 101, 99, 116, 105, 111, 110, 32, 97, 10]⟩] W fun e w' => ∃ o0 n0 c0 o1 n1 c1 o2 n2 c2 o3 n3 c3, e = .returned (.tuple #[.agg #[.slice o0 n0 c0, .slice o1 n1 c1, .slice o2 n2 c2, .slice o3 n3 c3], .int .i64 2, .int .i64 4]) ∧ Below W.heap.size W w') := fun W => by
    refine (parse_any hby ⟨#[115, 101, 99, 116, 105, 111, 110, 32, 97, 10, 115, 101, 99, 116, 105, 111, 110, 32, 97, 10]⟩ W (by decide)).mono ?_
    rintro e w' ⟨v, rs, rfl, _, hs, hb⟩
    obtain ⟨o0, n0, c0, h0⟩ := hs 0
    obtain ⟨o1, n1, c1, h1⟩ := hs 1
    obtain ⟨o2, n2, c2, h2⟩ := hs 2
    obtain ⟨o3, n3, c3, h3⟩ := hs 3
    refine ⟨o0, n0, c0, o1, n1, c1, o2, n2, c2, o3, n3, c3, ?_, hb⟩
    rw [pk1, h0, h1, h2, h3]
    rfl
  have D2 : Hid (∀ W, Calls Tryd.prog 26 #[.string ⟨#[115, 105, 103, 110, 97, 108, 32, 115]⟩] W fun e w' => ∃ o0 n0 c0 o1 n1 c1 g off c2 o3 n3 c3, e = .returned (.tuple #[.agg #[.slice o0 n0 c0, .slice o1 n1 c1, .slice (some ⟨g, off, none⟩) 1 c2, .slice o3 n3 c3], .int .i64 1, .int .i64 0]) ∧ w'.cell? ⟨g, off, none⟩ = some (.string ⟨#[115]⟩) ∧ Below W.heap.size W w') := fun W => by
    refine (parse_any hby ⟨#[115, 105, 103, 110, 97, 108, 32, 115]⟩ W (by decide)).mono ?_
    rintro e w' ⟨v, rs, rfl, hr, hs, hb⟩
    obtain ⟨o0, n0, c0, h0⟩ := hs 0
    obtain ⟨o1, n1, c1, h1⟩ := hs 1
    obtain ⟨o3, n3, c3, h3⟩ := hs 3
    have hg := hr.g
    rw [pk2.2] at hg
    obtain ⟨oa, cap, h2, hc⟩ := hg
    obtain ⟨g, off, rfl, hcell⟩ := hc 0 _ rfl
    have c0' := hcell 0 _ rfl
    simp only [Nat.zero_mul, Nat.add_zero] at c0'
    refine ⟨o0, n0, c0, o1, n1, c1, g, off, cap, o3, n3, c3, ?_, c0', hb⟩
    rw [pk2.1, h0, h1, h2, h3]
    rfl
  go_enter Tryd.func10, Tryd.ntmps10
  go_wp2_with fail
  refine (D1.out _).mono ?_
  rintro e w1 ⟨o0, n0, c0, o1, n1, c1, o2, n2, c2, o3, n3, c3, rfl, hb1⟩
  have HB1 : Hid (Below w.heap.size w (w1.alloc (.cells #[.slice o0 n0 c0, .slice o1 n1 c1, .slice o2 n2 c2, .slice o3 n3 c3] 26))) := hb1.alloc hb1.size _
  clear hb1
  go_wp2_with fail
  refine (D2.out _).mono ?_
  rintro e w2 ⟨p0, m0, k0, p1, m1, k1, g, off, k2, p3, m3, k3, rfl, hc, hb2⟩
  have HB2 : Hid (Below w.heap.size w w2) := stepB HB1.out hb2
  have hc' : (w2.alloc (.cells #[.slice p0 m0 k0, .slice p1 m1 k1, .slice (some ⟨g, off, none⟩) 1 k2, .slice p3 m3 k3] 26)).cell? ⟨g, off, none⟩ = some (.string ⟨#[115]⟩) := (((Below.refl _ w2).alloc (Nat.le_refl _) _).cell (p := ⟨g, off, none⟩) (World.block_lt_of_cell? w2 _ hc)).trans hc
  clear hc hb2
  go_wp2
  go_ret
  exact ⟨rfl, HB2.out.alloc HB2.out.size _⟩

end Go.Proofs.YtgiaicmhnkhbnaaDoor
