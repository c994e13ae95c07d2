/-
  wire's withNumber and withThing, each by a contract: a row of bytes of the call's own grows by a number's bytes, by a thing's.
-/
import Derived.Test.YtfcoanlegjddpabWrP
import Derived.Test.YtfcoanlegjddpabSmOwn
import Derived.Lib.AppendStr
import Derived.Deep.LoopGhost
namespace Go.Proofs.Ytfcoanlegjddpab
open Go.RowKit

/-- A row of bytes that lies at or above a block. -/
def BRow (w : World) (B : Nat) (v : Value) (p : List (BitVec 8)) : Prop := w.ownsRow B 5 1 v p.length (p.map u8C)
theorem BRow.nil (w : World) (B : Nat) : BRow w B (.slice none 0 0) [] := World.ownsRow_nil _ _ _ _
theorem BRow.form {w : World} {B : Nat} {v : Value} {p : List (BitVec 8)} (h : BRow w B v p) : ∃ o c, v = .slice o p.length c := by
  rcases h.2 with ⟨e, h0⟩ | ⟨g, cap, cur, e, _⟩
  · exact ⟨none, 0, by rw [h0]; exact e⟩
  · exact ⟨_, _, e⟩
theorem BRow.any {w : World} {B : Nat} {v : Value} {p : List (BitVec 8)} (h : BRow w B v p) : ∃ o n c, v = .slice o n c := by
  obtain ⟨o, c, e⟩ := h.form
  exact ⟨o, _, c, e⟩
theorem BRow.base {w : World} {B : Nat} {v : Value} {p : List (BitVec 8)} (h : BRow w B v p) : ∀ g, v.ownBlock = some g → B ≤ g ∧ g < w.heap.size := fun g hg => by
  rcases h.2 with ⟨rfl, _⟩ | ⟨g', cap, cur, rfl, b, hg', _⟩
  · cases hg
  · cases hg
    exact ⟨b, (Array.getElem?_eq_some_iff.1 hg').1⟩
theorem BRow.below {w w' : World} {B : Nat} {v : Value} {p : List (BitVec 8)} (h : BRow w B v p) (hb : Below w.heap.size w w') : BRow w' B v p :=
  owns_keep h fun k hk => hb.block k (h.base k hk).2
theorem BRow.mono {w : World} {B B' : Nat} {v : Value} {p : List (BitVec 8)} (h : BRow w B v p) (hB : B' ≤ B) : BRow w B' v p := by
  refine ⟨h.1, ?_⟩
  rcases h.2 with h2 | ⟨g, cap, cur, a, b, r⟩
  · exact .inl h2
  · exact .inr ⟨g, cap, cur, a, by omega, r⟩
theorem BRow.bytes {w : World} {B : Nat} {v : Value} {p : List (BitVec 8)} (h : BRow w B v p) : ∃ oa cap, v = .slice oa p.length cap ∧ hasBytes w oa p := by
  obtain ⟨oa, cap, e, _, hb⟩ := owns_bytes h
  exact ⟨oa, cap, e, hb⟩

theorem brow_append {w w1 : World} {B m : Nat} {v v1 : Value} {q news : List (BitVec 8)} (h : BRow w B v q) (hB : B ≤ w.heap.size) (hm : m = q.length + news.length)
    (hown : w1.ownsRow B 5 1 v1 m (q.map u8C ++ news.map u8C)) (hg : w.grownBy w1 v.ownBlock) : BRow w1 B v1 (q ++ news) ∧ Below B w w1 := by
  subst hm
  refine ⟨?_, (Below.refl _ _).grown hg hB fun g e => (h.base g e).1⟩
  unfold BRow
  rw [List.length_append, List.map_append]
  exact hown
theorem u8_num (n : Nat) : Value.int IntKind.u8 ((n : Int) % 256) = u8C (BitVec.ofNat 8 n) := by
  unfold u8C u8
  rw [BitVec.toNat_ofNat]
  simp
theorem one_of (u : Value) (h : u.oneCell' = true) : ∀ x ∈ [u], x.oneCell' = true := fun x hx => by rw [List.mem_singleton.1 hx]; exact h

set_option maxRecDepth 1000000 in
set_option maxHeartbeats 1000000 in
theorem withNumber_any (n size : Nat) (p : List (BitVec 8)) (w : World) (B : Nat) (v : Value) (h : BRow w B v p) (hB : B ≤ w.heap.size) (hs : size ≤ 8) (hp : p.length ≤ 100000) :
    Calls Try.prog 19 #[v, .int .u64 (n : Int), .int .i64 (size : Int)] w fun e w' => ∃ v', e = .returned v' ∧ BRow w' B v' (p ++ bigV n size) ∧ Below B w w' := by
  have H : Hid (BRow w B v p) := h
  have HB0 : Hid (B ≤ w.heap.size) := hB
  obtain ⟨o0, c0, rfl⟩ := h.form
  obtain ⟨m0, hm0⟩ : ∃ m, m = p.length := ⟨_, rfl⟩
  rw [← hm0] at H hp
  have HM : Hid (m0 = p.length) := hm0
  rw [← hm0]
  clear h hB hm0
  obtain ⟨i0, hi0, hz0, hz1, hz2⟩ := sinfo_parts infoB
  have HI : Hid (Try.prog.info? 5 = some i0 ∧ i0.zero = some (.int .u8 0) ∧ i0.size = 1 ∧ i0.bytes = 1) := ⟨hi0, hz0, hz1, hz2⟩
  clear hi0 hz0 hz1 hz2
  go_enter Try.func19, Try.ntmps19
  go_wp2
  go_loopg [0, 7] (size + 1) (fun gk b i wr => ∃ k m : Nat, ∃ o c q, gk = k + 1 ∧ i = .int .i64 ((k : Int) - 1) ∧ k ≤ size ∧ b = .slice o m c ∧ m + k = m0 + size ∧ m = q.length ∧ BRow wr B (.slice o m c) q ∧ q ++ bigV n k = p ++ bigV n size ∧ Below B w wr)
  case atStart => exact ⟨size, m0, o0, c0, p, rfl, by go_num, by omega, rfl, rfl, HM.out, H.out, rfl, Below.refl _ _⟩
  case round =>
    obtain ⟨k, m, o, c, q, rfl, rfl, hk, rfl, hmk, hq, hbr, heq, hb⟩ := hrel
    have HR : Hid (BRow wr B (.slice o m c) q ∧ m = q.length ∧ q ++ bigV n k = p ++ bigV n size ∧ Below B w wr) := ⟨hbr, hq, heq, hb⟩
    clear hq hbr heq hb
    cases k with
    | zero =>
      have hd : decide ((0 : Int) ≤ ((0 : Nat) : Int) - 1) = false := by decide
      have hd2 : ¬ ((0 : Int) ≤ ((0 : Nat) : Int) - 1) := by decide
      go_wp2
      go_ret
      obtain ⟨h1, h2, h3, h4⟩ := HR.out
      rw [bigV, List.append_nil] at h3
      rw [h3] at h1
      exact ⟨_, rfl, h1, h4⟩
    | succ k =>
      have hd2 : (0 : Int) ≤ (((k + 1 : Nat) : Nat) : Int) - 1 := by omega
      have hk1 : (((k + 1 : Nat) : Nat) : Int) - 1 = (k : Int) := by omega
      rw [hk1]
      have hown : wr.ownsRow B 5 1 (.slice o m c) m (q.map u8C) := by rw [HR.out.2.1]; rw [HR.out.2.1] at HR; exact HR.out.1
      have hsz : B ≤ wr.heap.size := Nat.le_trans HB0.out HR.out.2.2.2.size
      have hcell : Value.int IntKind.u8 ((n : Int) / 2 ^ (8 * k) % 256) = u8C (BitVec.ofNat 8 (n / 2 ^ (8 * k))) := by
        rw [← u8_num]
        simp
      have HC : Hid (Value.int IntKind.u8 ((n : Int) / 2 ^ (8 * k) % 256) = u8C (BitVec.ofNat 8 (n / 2 ^ (8 * k)))) := hcell
      clear hcell
      obtain ⟨hi, hz0, hz1, hz2⟩ := HI.out
      go_wp2_with (at_builtin; refine wpList_append_own_at _ rfl _ _ 22 rfl B 5 i0 (.int .u8 0) 1 1 Try.underlying22 hi hz0 hz1 hz2 rfl (by decide) _ m _ rfl (hown.alloc _) ⟨wr.heap.size, 0, none⟩ 1 1 [.int .u8 ((n : Int) / 2 ^ (8 * k) % 256)] rfl rfl (cell_one_new _ _ _) (one_of _ rfl) (by unfold maxLen; omega) (by omega) (by simp; omega) ?_)
      intro v1 w1 hown' hgrow _ _
      rw [HC.out] at hown' hgrow
      have h1 := HR.out.1.below ((Below.refl wr.heap.size wr).alloc (Nat.le_refl _) (.cells #[u8C (BitVec.ofNat 8 (n / 2 ^ (8 * k)))] 5))
      obtain ⟨h2, h3⟩ := brow_append (news := [BitVec.ofNat 8 (n / 2 ^ (8 * k))]) h1 (by simp; omega) (by rw [← HR.out.2.1]; rfl) hown' hgrow
      have HN : Hid (BRow w1 B v1 (q ++ [BitVec.ofNat 8 (n / 2 ^ (8 * k))]) ∧ Below B w w1) := ⟨h2, (HR.out.2.2.2.trans ((Below.refl _ _).alloc hsz _)).trans h3⟩
      obtain ⟨o1, c1, e1⟩ := h2.form
      have hlen : (q ++ [BitVec.ofNat 8 (n / 2 ^ (8 * k))]).length = m + 1 := by rw [List.length_append, ← HR.out.2.1]; rfl
      rw [hlen] at e1
      subst e1
      have HE : Hid ((q ++ [BitVec.ofNat 8 (n / 2 ^ (8 * k))]) ++ bigV n k = p ++ bigV n size ∧ m + 1 = (q ++ [BitVec.ofNat 8 (n / 2 ^ (8 * k))]).length) := by
        refine ⟨?_, hlen.symm⟩
        rw [← HR.out.2.2.1, bigV, List.append_assoc]
        rfl
      clear hown hown' hgrow h1 h2 h3 hlen hi hz0 hz1 hz2 hsz
      go_wp2
      go_roundg (k + 1)
      case rel => exact ⟨k, m + 1, o1, c1, _, rfl, by go_num, by omega, rfl, by omega, HE.out.2, HN.out.1, HE.out.1, HN.out.2⟩
      case measure => omega
end Go.Proofs.Ytfcoanlegjddpab
