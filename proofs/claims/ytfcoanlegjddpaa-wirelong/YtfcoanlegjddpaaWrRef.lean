/-
  The reference's telegrams: big, thing, number, each by a contract.
-/
import Derived.Test.YtfcoanlegjddpaaWrThing
import Derived.Test.YtfcoanlegjddpaaWrPack
import Derived.Test.YtfcoanlegjddpaaCrRef
import Derived.Laws.IdiomStrings
namespace Go.Proofs.Ytfcoanlegjddpaa
open Go.RowKit

set_option maxRecDepth 1000000 in
set_option maxHeartbeats 1000000 in
theorem refBig_any (n size : Nat) (w : World) (hs : size ≤ 8) :
    Calls Try.prog 30 #[.int .u64 (n : Int), .int .i64 (size : Int)] w fun e w' => ∃ v', e = .returned v' ∧ BRow w' w.heap.size v' (bigV n size) ∧ Below w.heap.size w w' := by
  obtain ⟨i0, hi0, hz0, hz1, hz2⟩ := sinfo_parts infoB
  have HI : Hid (Try.prog.info? 5 = some i0 ∧ i0.zero = some (.int .u8 0) ∧ i0.size = 1 ∧ i0.bytes = 1) := ⟨hi0, hz0, hz1, hz2⟩
  clear hi0 hz0 hz1 hz2
  go_enter Try.func30, Try.ntmps30
  go_wp2
  go_loopg [5, 6] (size + 1) (fun gk b i wr => ∃ k m : Nat, ∃ o c q, gk = k + 1 ∧ i = .int .i64 ((k : Int) - 1) ∧ k ≤ size ∧ b = .slice o m c ∧ m + k = size ∧ m = q.length ∧ BRow wr w.heap.size (.slice o m c) q ∧ q ++ bigV n k = bigV n size ∧ Below w.heap.size w wr)
  case atStart => exact ⟨size, 0, none, 0, [], rfl, by go_num, by omega, rfl, by omega, rfl, BRow.nil _ _, rfl, Below.refl _ _⟩
  case round =>
    obtain ⟨k, m, o, c, q, rfl, rfl, hk, rfl, hmk, hq, hbr, heq, hb⟩ := hrel
    have HR : Hid (BRow wr w.heap.size (.slice o m c) q ∧ m = q.length ∧ q ++ bigV n k = bigV n size ∧ Below w.heap.size w wr) := ⟨hbr, hq, heq, hb⟩
    clear hq hbr heq hb
    cases k with
    | zero =>
      have hd : decide ((0 : Int) ≤ ((0 : Nat) : Int) - 1) = false := by decide
      have hd2 : ¬ ((0 : Int) ≤ ((0 : Nat) : Int) - 1) := by decide
      go_wp2
      go_ret
      obtain ⟨h1, h2, h3, h4⟩ := HR.out
      rw [bigV, List.append_nil] at h3
      rw [h3] at h1
      exact ⟨_, rfl, h1, h4⟩
    | succ k =>
      have hd2 : (0 : Int) ≤ (((k + 1 : Nat) : Nat) : Int) - 1 := by omega
      have hk1 : (((k + 1 : Nat) : Nat) : Int) - 1 = (k : Int) := by omega
      rw [hk1]
      have hown : wr.ownsRow w.heap.size 5 1 (.slice o m c) m (q.map u8C) := by rw [HR.out.2.1]; rw [HR.out.2.1] at HR; exact HR.out.1
      have hsz : w.heap.size ≤ wr.heap.size := HR.out.2.2.2.size
      have hcell : Value.int IntKind.u8 ((n : Int) / 2 ^ (8 * k) % 256) = u8C (BitVec.ofNat 8 (n / 2 ^ (8 * k))) := by
        rw [← u8_num]
        simp
      have HC : Hid (Value.int IntKind.u8 ((n : Int) / 2 ^ (8 * k) % 256) = u8C (BitVec.ofNat 8 (n / 2 ^ (8 * k)))) := hcell
      clear hcell
      obtain ⟨hi, hz0, hz1, hz2⟩ := HI.out
      go_wp2_with (at_builtin; refine wpList_append_own_at _ rfl _ _ 28 rfl w.heap.size 5 i0 (.int .u8 0) 1 1 Try.underlying28 hi hz0 hz1 hz2 rfl (by decide) _ m _ rfl (hown.alloc _) ⟨wr.heap.size, 0, none⟩ 1 1 [.int .u8 ((n : Int) / 2 ^ (8 * k) % 256)] rfl rfl (cell_one_new _ _ _) (one_of _ rfl) (by unfold maxLen; omega) (by omega) (by simp; omega) ?_)
      intro v1 w1 hown' hgrow _ _
      rw [HC.out] at hown' hgrow
      have h1 := HR.out.1.below ((Below.refl wr.heap.size wr).alloc (Nat.le_refl _) (.cells #[u8C (BitVec.ofNat 8 (n / 2 ^ (8 * k)))] 5))
      obtain ⟨h2, h3⟩ := brow_append (news := [BitVec.ofNat 8 (n / 2 ^ (8 * k))]) h1 (by simp; omega) (by rw [← HR.out.2.1]; rfl) hown' hgrow
      have HN : Hid (BRow w1 w.heap.size v1 (q ++ [BitVec.ofNat 8 (n / 2 ^ (8 * k))]) ∧ Below w.heap.size w w1) := ⟨h2, (HR.out.2.2.2.trans ((Below.refl _ _).alloc hsz _)).trans h3⟩
      obtain ⟨o1, c1, e1⟩ := h2.form
      have hlen : (q ++ [BitVec.ofNat 8 (n / 2 ^ (8 * k))]).length = m + 1 := by rw [List.length_append, ← HR.out.2.1]; rfl
      rw [hlen] at e1
      subst e1
      have HE : Hid ((q ++ [BitVec.ofNat 8 (n / 2 ^ (8 * k))]) ++ bigV n k = bigV n size ∧ m + 1 = (q ++ [BitVec.ofNat 8 (n / 2 ^ (8 * k))]).length) := by
        refine ⟨?_, hlen.symm⟩
        rw [← HR.out.2.2.1, bigV, List.append_assoc]
        rfl
      clear hown hown' hgrow h1 h2 h3 hlen hi hz0 hz1 hz2 hsz
      go_wp2
      go_roundg (k + 1)
      case rel => exact ⟨k, m + 1, o1, c1, _, rfl, by go_num, by omega, rfl, by omega, HE.out.2, HN.out.1, HE.out.1, HN.out.2⟩
      case measure => omega

theorem bytes_at {w : World} {oa : Option Addr} {q : List (BitVec 8)} (h : hasBytes w oa q) (k : Nat) (x : BitVec 8) (hx : q[k]? = some x) : ∃ b off, oa = some ⟨b, off, none⟩ ∧ w.cell? ⟨b, off + k, none⟩ = some (.int .u8 (x.toNat : Int)) := h k x hx
theorem or_nat (y z : Nat) (hz : z < 256) : y * 256 ||| z = y * 256 + z := by
  have := Nat.shiftLeft_add_eq_or_of_lt (show z < 2 ^ 8 from hz) y
  rw [Nat.shiftLeft_eq] at this
  exact this.symm
theorem or_u64 (y z : Nat) (hy : y < 72057594037927936) (hz : z < 256) : bits .or .u64 ((y : Int) * 256) (z : Int) = ((y * 256 + z : Nat) : Int) := by
  have e1 : BitVec.ofInt 64 ((y : Int) * 256) = BitVec.ofNat 64 (y * 256) := by
    rw [show (y : Int) * 256 = ((y * 256 : Nat) : Int) by omega, BitVec.ofInt_natCast]
  show IntKind.u64.wrap ((BitVec.ofInt 64 ((y : Int) * 256) ||| BitVec.ofInt 64 (z : Int)).toNat : Int) = _
  rw [e1, BitVec.ofInt_natCast, BitVec.toNat_or, BitVec.toNat_ofNat, BitVec.toNat_ofNat, Nat.mod_eq_of_lt (by omega), Nat.mod_eq_of_lt (by omega), or_nat y z hz, num_u64]
  omega

set_option maxRecDepth 1000000 in
set_option maxHeartbeats 1000000 in
theorem refNumber_any (oa : Option Addr) (cap : Nat) (q : List (BitVec 8)) (w : World) (h : hasBytes w oa q) (hs : q.length ≤ 8) :
    Calls Try.prog 33 #[.slice oa q.length cap] w fun e w' => e = .returned (.int .u64 (numV q : Int)) ∧ w' = w := by
  have HB : Hid (hasBytes w oa q) := h
  clear h
  go_enter Try.func33, Try.ntmps33
  go_wp2
  go_loopg [3, 4] q.length (fun gk x i wr => ∃ k : Nat, gk = q.length - k ∧ i = .int .i64 k ∧ k ≤ q.length ∧ x = .int .u64 (numV (q.take k) : Int) ∧ wr = w)
  case atStart => exact ⟨0, rfl, rfl, by omega, rfl, rfl⟩
  case round =>
    obtain ⟨k, rfl, rfl, hk, rfl, rfl⟩ := hrel
    by_cases hlt : k < q.length
    · have hki : (k : Int) < (q.length : Int) := by omega
      obtain ⟨x, hx⟩ : ∃ x, q[k]? = some x := ⟨q[k], List.getElem?_eq_getElem hlt⟩
      obtain ⟨b, off, rfl, hc⟩ := bytes_at HB.out k x hx
      have HN : Hid (numV (q.take (k + 1)) = numV (q.take k) * 256 + x.toNat) := by
        show _ = _
        rw [List.take_add_one, hx]
        exact num_snoc _ _
      have hlt2 := num_lt (q.take k)
      have hp7 : 256 ^ (q.take k).length ≤ 256 ^ 7 := Nat.pow_le_pow_right (by decide) (by rw [List.length_take]; omega)
      have hb72 : numV (q.take k) < 72057594037927936 := by omega
      clear hlt2 hp7 hx
      generalize numV (q.take k) = y at *
      have hx8 := x.isLt
      generalize x.toNat = z at *
      have ho := or_u64 y z hb72 (by omega)
      go_wp2
      go_roundg (q.length - (k + 1))
      case rel => exact ⟨k + 1, rfl, by go_num, by omega, by rw [HN.out]; go_num, rfl⟩
      case measure => omega
    · have hkq : k = q.length := by omega
      subst hkq
      have HT : Hid (q.take q.length = q) := List.take_length
      rw [HT.out]
      go_wp2
      go_ret
      exact ⟨rfl, rfl⟩

/-- A string's bytes as a row of their own. -/
theorem str_row (s : ByteArray) : ∃ (cp : World → Nat) (nx : World → World), (∀ W, (convert 9 28 (.string s)).run Try.prog W = .ok (.slice (some ⟨W.heap.size, 0, none⟩) s.size (cp W)) (nx W)) ∧
    ∀ W, Below W.heap.size W (nx W) ∧ hasBytes (nx W) (some ⟨W.heap.size, 0, none⟩) (bytesS s) := by
  refine ⟨_, _, fun W => run_bytes_of_string W 9 28 5 s Try.underlying9 Try.underlying28 Try.underlying5, fun W => ⟨((Below.refl _ _).drew).alloc (Nat.le_refl _) _, fun j x hj => ⟨W.heap.size, 0, rfl, ?_⟩⟩⟩
  have h1 : (W.drew.alloc (.cells (bytesRow s (grownCap W s.size 0 5)) 5 ((bytesRow s (grownCap W s.size 0 5)).size, (bytesRow s (grownCap W s.size 0 5)).size + 1))).heap[W.heap.size]? = some (.cells (bytesRow s (grownCap W s.size 0 5)) 5 ((bytesRow s (grownCap W s.size 0 5)).size, (bytesRow s (grownCap W s.size 0 5)).size + 1)) := sblk_new W.drew _
  have hlt : j < s.data.size := by
    have := (List.getElem?_eq_some_iff.1 hj).1
    rw [bytes_len] at this
    exact this
  simp only [World.cell?, h1]
  have h2 : (bytesRow s (grownCap W s.size 0 5))[0 + j]? = some (.int .u8 (u8 x)) := by
    rw [Nat.zero_add, bytesRow, Array.getElem?_append_left (by simpa using hlt)]
    unfold bytesS at hj
    rw [List.getElem?_map, Option.map_eq_some_iff] at hj
    obtain ⟨y, hy, rfl⟩ := hj
    rw [Array.getElem?_map, ← Array.getElem?_toList, hy]
    rfl
  exact h2

set_option maxRecDepth 1000000 in
set_option maxHeartbeats 1000000 in
theorem refThing_any (x : It) (w : World) (ht : longT x = false) :
    Calls Try.prog 29 #[.agg #[.int .i64 x.th.k, .int .i64 x.th.n, .string x.th.s, .bool x.th.b]] w fun e w' => ∃ v', e = .returned v' ∧ BRow w' w.heap.size v' (thingV x) ∧ Below w.heap.size w w' := by
  obtain ⟨i0, hi0, hz0, hz1, hz2⟩ := sinfo_parts infoB
  have HI : Hid (Try.prog.info? 5 = some i0 ∧ i0.zero = some (.int .u8 0) ∧ i0.size = 1 ∧ i0.bytes = 1) := ⟨hi0, hz0, hz1, hz2⟩
  clear hi0 hz0 hz1 hz2
  rcases x with n | s | b
  · obtain ⟨N, hN⟩ : ∃ N : Nat, n % 18446744073709551616 = (N : Int) := ⟨(n % 18446744073709551616).toNat, by omega⟩
    have HNN : Hid ((n % 2 ^ 64).toNat = N) := by show _ = _; omega
    have hnu : IntKind.u64.wrap n = (N : Int) := by rw [num_u64]; omega
    simp only [It.th]
    have B1 : Hid (BRow ((w.alloc (.cells #[.int .i64 1, .int .i64 n, .string ⟨#[]⟩, .bool false] 51)).alloc (.cells #[.int .u8 1] 5)) w.heap.size (.slice (some ⟨w.heap.size + 1, 0, none⟩) 1 1) [1#8]) := by
      have := World.ownsRow_lit (base := w.heap.size) (e := 5) (size := 1) (w.alloc (.cells #[.int .i64 1, .int .i64 n, .string ⟨#[]⟩, .bool false] 51)) #[.int .u8 1] 1 (by simp) (by unfold maxLen; omega) rfl
      simp only [World.size_alloc] at this
      exact this
    have BB : Hid (Below w.heap.size w ((w.alloc (.cells #[.int .i64 1, .int .i64 n, .string ⟨#[]⟩, .bool false] 51)).alloc (.cells #[.int .u8 1] 5))) := ((Below.refl _ _).alloc (Nat.le_refl _) _).alloc (by simp) _
    go_enter Try.func29, Try.ntmps29
    go_wp2_with fail
    generalize hW : (w.alloc (.cells #[.int .i64 1, .int .i64 n, .string ⟨#[]⟩, .bool false] 51)).alloc (.cells #[.int .u8 1] 5) = W at *
    clear hW
    refine (refBig_any N 8 W (by omega)).mono ?_
    rintro e w1 ⟨v1, rfl, h1, h2⟩
    obtain ⟨o1, c1, rfl, hby⟩ := h1.bytes
    obtain ⟨x0, hx0⟩ : ∃ x, (bigV N 8)[0]? = some x := ⟨_, rfl⟩
    obtain ⟨g, off, rfl, -⟩ := hby 0 x0 hx0
    have HNE : Hid (∀ j u, ((bigV N 8).map u8C)[j]? = some u → w1.cell? ((⟨g, off, none⟩ : Addr).add j) = some u) := news_bytes hby
    have HX : Hid (BRow w1 w.heap.size (.slice (some ⟨w.heap.size + 1, 0, none⟩) 1 1) [1#8] ∧ Below w.heap.size w w1) := ⟨B1.out.below h2, BB.out.trans (h2.mono BB.out.size)⟩
    have hl8 : (bigV N 8).length = 8 := big_len N 8
    rw [hl8]
    clear h1 h2 hby hx0 hl8
    obtain ⟨hi, hz0, hz1, hz2⟩ := HI.out
    have hown := HX.out.1
    unfold BRow at hown
    have HOW : Hid (w1.ownsRow w.heap.size 5 1 (.slice (some ⟨w.heap.size + 1, 0, none⟩) 1 1) 1 ([1#8].map u8C)) := hown
    clear hown
    go_wp2_with (at_builtin; refine wpList_append_own_at _ rfl _ _ 28 rfl w.heap.size 5 i0 (.int .u8 0) 1 1 Try.underlying28 hi hz0 hz1 hz2 rfl (by decide) _ 1 _ rfl HOW.out ⟨g, off, none⟩ 8 c1 ((bigV N 8).map u8C) rfl (by rw [List.length_map, big_len]) HNE.out (one_u8 _) (by unfold maxLen; omega) (by omega) HX.out.2.size ?_)
    intro v4 w4 hown' hgrow _ _
    obtain ⟨h2, h3⟩ := brow_append (news := bigV N 8) HX.out.1 HX.out.2.size (by rw [big_len]) (by simpa using hown') hgrow
    have HE : Hid (BRow w4 w.heap.size v4 (thingV (.inl n)) ∧ Below w.heap.size w w4) := ⟨by rw [thingV, HNN.out]; exact h2, HX.out.2.trans h3⟩
    obtain ⟨o4, n4, c4, rfl⟩ := h2.any
    clear hown' hgrow h2 h3 hi hz0 hz1 hz2
    go_wp2
    go_ret
    exact ⟨_, rfl, HE.out.1, HE.out.2⟩
  · have hs : s.size ≤ 200 := by simpa [longT] using ht
    have h8 : (s.size : Int) % 256 = s.size := by omega
    have hcell : Value.int IntKind.u8 (s.size : Int) = u8C (BitVec.ofNat 8 s.size) := by rw [← u8_num, h8]
    have HC : Hid (Value.int IntKind.u8 (s.size : Int) = u8C (BitVec.ofNat 8 s.size)) := hcell
    clear hcell
    simp only [It.th]
    obtain ⟨cp, nx, hcv, hnx⟩ := str_row s
    have HNX : Hid (∀ W, Below W.heap.size W (nx W) ∧ hasBytes (nx W) (some ⟨W.heap.size, 0, none⟩) (bytesS s)) := hnx
    clear hnx
    have B1 : Hid (BRow ((w.alloc (.cells #[.int .i64 2, .int .i64 0, .string s, .bool false] 51)).alloc (.cells #[.int .u8 2, .int .u8 s.size] 5)) w.heap.size (.slice (some ⟨w.heap.size + 1, 0, none⟩) 2 2) [2#8, BitVec.ofNat 8 s.size]) := by
      have := World.ownsRow_lit (base := w.heap.size) (e := 5) (size := 1) (w.alloc (.cells #[.int .i64 2, .int .i64 0, .string s, .bool false] 51)) #[.int .u8 2, .int .u8 s.size] 2 (by simp) (by unfold maxLen; omega) rfl
      simp only [World.size_alloc] at this
      unfold BRow
      simp only [List.map_cons, ← HC.out]
      exact this
    have BB : Hid (Below w.heap.size w ((w.alloc (.cells #[.int .i64 2, .int .i64 0, .string s, .bool false] 51)).alloc (.cells #[.int .u8 2, .int .u8 s.size] 5))) := ((Below.refl _ _).alloc (Nat.le_refl _) _).alloc (by simp) _
    obtain ⟨W, hW⟩ : ∃ W, W = (w.alloc (.cells #[.int .i64 2, .int .i64 0, .string s, .bool false] 51)).alloc (.cells #[.int .u8 2, .int .u8 s.size] 5) := ⟨_, rfl⟩
    rw [← hW] at B1 BB
    have HX : Hid (BRow (nx W) w.heap.size (.slice (some ⟨w.heap.size + 1, 0, none⟩) 2 2) [2#8, BitVec.ofNat 8 s.size] ∧ Below w.heap.size w (nx W)) := ⟨B1.out.below (HNX.out W).1, BB.out.trans ((HNX.out W).1.mono BB.out.size)⟩
    have hWs : W.heap.size = w.heap.size + 1 + 1 := by rw [hW]; simp
    have hown := HX.out.1
    unfold BRow at hown
    have HOW : Hid ((nx W).ownsRow w.heap.size 5 1 (.slice (some ⟨w.heap.size + 1, 0, none⟩) 2 2) 2 ([2#8, BitVec.ofNat 8 s.size].map u8C)) := hown
    have HNE : Hid (∀ j u, ((bytesS s).map u8C)[j]? = some u → (nx W).cell? ((⟨w.heap.size + 1 + 1, 0, none⟩ : Addr).add j) = some u) := by
      have := news_bytes (HNX.out W).2
      rw [hWs] at this
      exact this
    have HLE : Hid (((bytesS s).map u8C).length = s.size * 1) := by show _ = _; rw [List.length_map, bytes_len, Nat.mul_one]
    have HW : Hid (W = (w.alloc (.cells #[.int .i64 2, .int .i64 0, .string s, .bool false] 51)).alloc (.cells #[.int .u8 2, .int .u8 s.size] 5)) := hW
    clear hown hW hWs B1 BB
    obtain ⟨hi, hz0, hz1, hz2⟩ := HI.out
    go_enter Try.func29, Try.ntmps29
    go_wp2_with (at_builtin; rw [← HW.out]; refine wpList_append_own_at _ rfl _ _ 28 rfl w.heap.size 5 i0 (.int .u8 0) 1 1 Try.underlying28 hi hz0 hz1 hz2 rfl (by decide) _ 2 _ rfl HOW.out ⟨w.heap.size + 1 + 1, 0, none⟩ s.size (cp W) ((bytesS s).map u8C) rfl HLE.out HNE.out (one_u8 _) (by unfold maxLen; omega) (by omega) HX.out.2.size ?_)
    intro v4 w4 hown' hgrow _ _
    obtain ⟨h2, h3⟩ := brow_append (news := bytesS s) HX.out.1 HX.out.2.size (by rw [bytes_len]) (by simpa using hown') hgrow
    have HE : Hid (BRow w4 w.heap.size v4 (thingV (.inr (.inl s))) ∧ Below w.heap.size w w4) := ⟨by rw [thingV]; exact h2, HX.out.2.trans h3⟩
    obtain ⟨o4, n4, c4, rfl⟩ := h2.any
    clear hown' hgrow h2 h3 hi hz0 hz1 hz2
    go_wp2
    go_ret
    exact ⟨_, rfl, HE.out.1, HE.out.2⟩
  · simp only [It.th]
    cases b
    · have B1 : Hid (BRow ((w.alloc (.cells #[.int .i64 3, .int .i64 0, .string ⟨#[]⟩, .bool false] 51)).alloc (.cells #[.int .u8 3, .int .u8 0] 5)) w.heap.size (.slice (some ⟨w.heap.size + 1, 0, none⟩) 2 2) [3#8, 0#8]) := by
        have := World.ownsRow_lit (base := w.heap.size) (e := 5) (size := 1) (w.alloc (.cells #[.int .i64 3, .int .i64 0, .string ⟨#[]⟩, .bool false] 51)) #[.int .u8 3, .int .u8 0] 2 (by simp) (by unfold maxLen; omega) rfl
        simp only [World.size_alloc] at this
        exact this
      go_enter Try.func29, Try.ntmps29
      go_wp2
      go_ret
      exact ⟨_, rfl, B1.out, (by repeat' (with_reducible first | exact Below.refl _ _ | refine Below.drew ?_ | refine _root_.Go.below_drewN ?_ _ | refine Below.alloc ?_ ?_ _ | refine Below.setCell ?_ ?_ _ | exact Nat.le_refl _ | (simp; done) | (simp; omega)))⟩
    · have B1 : Hid (BRow ((w.alloc (.cells #[.int .i64 3, .int .i64 0, .string ⟨#[]⟩, .bool true] 51)).alloc (.cells #[.int .u8 3, .int .u8 1] 5)) w.heap.size (.slice (some ⟨w.heap.size + 1, 0, none⟩) 2 2) [3#8, 1#8]) := by
        have := World.ownsRow_lit (base := w.heap.size) (e := 5) (size := 1) (w.alloc (.cells #[.int .i64 3, .int .i64 0, .string ⟨#[]⟩, .bool true] 51)) #[.int .u8 3, .int .u8 1] 2 (by simp) (by unfold maxLen; omega) rfl
        simp only [World.size_alloc] at this
        exact this
      go_enter Try.func29, Try.ntmps29
      go_wp2
      go_ret
      exact ⟨_, rfl, B1.out, (by repeat' (with_reducible first | exact Below.refl _ _ | refine Below.drew ?_ | refine _root_.Go.below_drewN ?_ _ | refine Below.alloc ?_ ?_ _ | refine Below.setCell ?_ ?_ _ | exact Nat.le_refl _ | (simp; done) | (simp; omega)))⟩
end Go.Proofs.Ytfcoanlegjddpaa
