/-
  Package relay, plain: who has the field.
-/
import Derived.Test.YtmnhlnhocnchpaaFlBase
namespace Go.Proofs.Ytmnhlnhocnchpaa
open Go.RowKit

/-- A relay: the present cycle, who owns the field, who is connected, the epoch, the last count, when the owner asked last, when it is free. -/
structure Rl where
  now : Int
  own : Int
  con : Int
  epoch : Int
  last : Int
  asked : Int
  free : Int
def newR : Rl := ⟨0, -1, -1, 0, 0, 0, 0⟩
def goR (s : Rl) : Rl := ⟨s.now, -1, s.con, s.epoch, s.last, s.asked, s.now + 2⟩
def lateR (s : Rl) (now : Int) : Prop := 0 ≤ s.own ∧ 8 ≤ now - s.asked
instance (s : Rl) (now : Int) : Decidable (lateR s now) := by unfold lateR; infer_instance
def beginR (s : Rl) (now : Int) : Rl :=
  if now ≤ s.now ∨ 1099511627776 < now then s
  else if lateR s now then ⟨now, -1, -1, s.epoch, s.last, s.asked, now + 2⟩ else ⟨now, s.own, -1, s.epoch, s.last, s.asked, s.free⟩
def argR (unit count : Int) : Prop := unit < 0 ∨ 1 < unit ∨ count < 0
instance (unit count : Int) : Decidable (argR unit count) := by unfold argR; infer_instance
def askA (s : Rl) (unit count : Int) : Int × Int × Int :=
  if argR unit count then (0, 0, 1) else if s.own = unit then (s.epoch, s.last, 0) else if s.own < 0 ∧ s.free ≤ s.now then (s.epoch + 1, s.last, 0) else (0, 0, 8)
def askR (s : Rl) (unit count : Int) : Rl :=
  if argR unit count then s else if s.own = unit then ⟨s.now, s.own, unit, s.epoch, count, s.now, s.free⟩ else if s.own < 0 ∧ s.free ≤ s.now then ⟨s.now, unit, s.con, s.epoch + 1, s.last, s.now, s.free⟩ else s
def yieldA (s : Rl) (unit : Int) : Int := if unit < 0 ∨ s.own ≠ unit then 7 else 0
def yieldR (s : Rl) (unit : Int) : Rl := if unit < 0 ∨ s.own ≠ unit then s else ⟨s.now, -1, -1, s.epoch, s.last, s.asked, s.now + 2⟩

/-- What holds of each relay. `n`: so many calls at most. -/
structure RlOk (s : Rl) (n : Int) : Prop where
  own : -1 ≤ s.own ∧ s.own ≤ 1
  con : s.con = -1 ∨ s.con = s.own
  epoch : 0 ≤ s.epoch ∧ s.epoch ≤ n
  now : 0 ≤ s.now ∧ s.now ≤ 1099511627776
  asked : 0 ≤ s.asked ∧ s.asked ≤ s.now
  free : 0 ≤ s.free ∧ s.free ≤ s.now + 2
  last : 0 ≤ s.last
theorem newR_ok : RlOk newR 0 := ⟨by decide, .inl rfl, by decide, by decide, by decide, by decide, by decide⟩
theorem RlOk.mono {s : Rl} {n m : Int} (h : RlOk s n) (hm : n ≤ m) : RlOk s m := ⟨h.own, h.con, ⟨h.epoch.1, by have := h.epoch.2; omega⟩, h.now, h.asked, h.free, h.last⟩
theorem beginR_ok {s : Rl} {n : Int} (h : RlOk s n) (now : Int) : RlOk (beginR s now) n := by
  obtain ⟨⟨a1, a2⟩, b, ⟨c1, c2⟩, ⟨d1, d2⟩, ⟨e1, e2⟩, ⟨f1, f2⟩, g⟩ := h
  rw [beginR]
  split
  · exact ⟨⟨a1, a2⟩, b, ⟨c1, c2⟩, ⟨d1, d2⟩, ⟨e1, e2⟩, ⟨f1, f2⟩, g⟩
  · split <;> exact ⟨by simp only; omega, .inl rfl, ⟨c1, c2⟩, by simp only; omega, by simp only; omega, by simp only; omega, g⟩
theorem askR_ok {s : Rl} {n : Int} (h : RlOk s n) (unit count : Int) : RlOk (askR s unit count) (n + 1) := by
  obtain ⟨⟨a1, a2⟩, b, ⟨c1, c2⟩, ⟨d1, d2⟩, ⟨e1, e2⟩, ⟨f1, f2⟩, g⟩ := h
  rw [askR]
  split
  · exact ⟨⟨a1, a2⟩, b, by omega, ⟨d1, d2⟩, ⟨e1, e2⟩, ⟨f1, f2⟩, g⟩
  · rename_i ha
    rw [argR] at ha
    split
    · rename_i ho
      exact ⟨⟨a1, a2⟩, .inr ho.symm, by simp only; omega, ⟨d1, d2⟩, by simp only; omega, ⟨f1, f2⟩, by simp only; omega⟩
    · split
      · rename_i hf
        exact ⟨by simp only; omega, by rcases b with b | b; exact .inl b; left; simp only; omega, by simp only; omega, ⟨d1, d2⟩, by simp only; omega, ⟨f1, f2⟩, g⟩
      · exact ⟨⟨a1, a2⟩, b, by omega, ⟨d1, d2⟩, ⟨e1, e2⟩, ⟨f1, f2⟩, g⟩
theorem yieldR_ok {s : Rl} {n : Int} (h : RlOk s n) (unit : Int) : RlOk (yieldR s unit) n := by
  obtain ⟨⟨a1, a2⟩, b, ⟨c1, c2⟩, ⟨d1, d2⟩, ⟨e1, e2⟩, ⟨f1, f2⟩, g⟩ := h
  rw [yieldR]
  split
  · exact ⟨⟨a1, a2⟩, b, ⟨c1, c2⟩, ⟨d1, d2⟩, ⟨e1, e2⟩, ⟨f1, f2⟩, g⟩
  · exact ⟨by simp only; omega, .inl rfl, ⟨c1, c2⟩, ⟨d1, d2⟩, ⟨e1, e2⟩, by simp only; omega, g⟩

/-- One step of any kind: who owns the field changes with the epoch alone. -/
def OneR (s t : Rl) : Prop := s.epoch ≤ t.epoch ∧ (t.own < 0 → t.epoch = s.epoch) ∧ (0 ≤ t.own ∧ t.own ≠ s.own → t.epoch = s.epoch + 1) ∧ (t.own = s.own → t.epoch = s.epoch)
theorem one_begin (s : Rl) (now : Int) : OneR s (beginR s now) := by
  rw [beginR]
  split
  · refine ⟨?_, ?_, ?_, ?_⟩ <;> intros <;> omega
  · split <;> refine ⟨?_, ?_, ?_, ?_⟩ <;> dsimp only <;> intros <;> omega
theorem one_ask {s : Rl} (unit count : Int) : OneR s (askR s unit count) := by
  rw [askR]
  split
  · refine ⟨?_, ?_, ?_, ?_⟩ <;> intros <;> omega
  · rename_i ha
    rw [argR] at ha
    split
    · refine ⟨?_, ?_, ?_, ?_⟩ <;> dsimp only <;> intros <;> omega
    · split
      · refine ⟨?_, ?_, ?_, ?_⟩ <;> dsimp only <;> intros <;> omega
      · refine ⟨?_, ?_, ?_, ?_⟩ <;> intros <;> omega
theorem one_yield (s : Rl) (unit : Int) : OneR s (yieldR s unit) := by
  rw [yieldR]
  split
  · refine ⟨?_, ?_, ?_, ?_⟩ <;> intros <;> omega
  · refine ⟨?_, ?_, ?_, ?_⟩ <;> dsimp only <;> intros <;> omega

/-- One step at a time, where it is known how the relay stands. -/
theorem begin_old {s : Rl} {now : Int} (h : now ≤ s.now ∨ 1099511627776 < now) : beginR s now = s := by rw [beginR, if_pos h]
theorem begin_keeps {s : Rl} {now : Int} (h : s.now < now) (hm : now ≤ 1099511627776) (hl : s.own < 0 ∨ now - s.asked < 8) : beginR s now = ⟨now, s.own, -1, s.epoch, s.last, s.asked, s.free⟩ := by
  rw [beginR, if_neg (by omega), if_neg (by rw [lateR]; omega)]
theorem begin_lets {s : Rl} {now : Int} (h : s.now < now) (hm : now ≤ 1099511627776) (ho : 0 ≤ s.own) (hl : 8 ≤ now - s.asked) : beginR s now = ⟨now, -1, -1, s.epoch, s.last, s.asked, now + 2⟩ := by
  rw [beginR, if_neg (by omega), if_pos (by rw [lateR]; omega)]
theorem ask_own {s : Rl} {unit count : Int} (h0 : 0 ≤ unit ∧ unit ≤ 1) (hc : 0 ≤ count) (ho : s.own = unit) : askA s unit count = (s.epoch, s.last, 0) ∧ askR s unit count = ⟨s.now, s.own, unit, s.epoch, count, s.now, s.free⟩ := by
  have ha : ¬ argR unit count := by rw [argR]; omega
  rw [askA, askR, if_neg ha, if_neg ha, if_pos ho, if_pos ho]
  exact ⟨rfl, rfl⟩
theorem ask_free {s : Rl} {unit count : Int} (h0 : 0 ≤ unit ∧ unit ≤ 1) (hc : 0 ≤ count) (ho : s.own < 0) (hf : s.free ≤ s.now) : askA s unit count = (s.epoch + 1, s.last, 0) ∧ askR s unit count = ⟨s.now, unit, s.con, s.epoch + 1, s.last, s.now, s.free⟩ := by
  have ha : ¬ argR unit count := by rw [argR]; omega
  have hn : ¬ s.own = unit := by omega
  rw [askA, askR, if_neg ha, if_neg ha, if_neg hn, if_neg hn, if_pos ⟨ho, hf⟩, if_pos ⟨ho, hf⟩]
  exact ⟨rfl, rfl⟩
theorem ask_busy {s : Rl} {unit count : Int} (h0 : 0 ≤ unit ∧ unit ≤ 1) (hc : 0 ≤ count) (ho : s.own ≠ unit) (hf : 0 ≤ s.own ∨ s.now < s.free) : askA s unit count = (0, 0, 8) ∧ askR s unit count = s := by
  have ha : ¬ argR unit count := by rw [argR]; omega
  have hn : ¬ (s.own < 0 ∧ s.free ≤ s.now) := by omega
  rw [askA, askR, if_neg ha, if_neg ha, if_neg ho, if_neg ho, if_neg hn, if_neg hn]
  exact ⟨rfl, rfl⟩
theorem ask_arg {s : Rl} {unit count : Int} (h : unit < 0 ∨ 1 < unit ∨ count < 0) : askA s unit count = (0, 0, 1) ∧ askR s unit count = s := by
  have ha : argR unit count := h
  rw [askA, askR, if_pos ha, if_pos ha]
  exact ⟨rfl, rfl⟩
theorem yield_own {s : Rl} {unit : Int} (h0 : 0 ≤ unit) (ho : s.own = unit) : yieldA s unit = 0 ∧ yieldR s unit = ⟨s.now, -1, -1, s.epoch, s.last, s.asked, s.now + 2⟩ := by
  have hn : ¬ (unit < 0 ∨ s.own ≠ unit) := by omega
  rw [yieldA, yieldR, if_neg hn, if_neg hn]
  exact ⟨rfl, rfl⟩
theorem yield_no {s : Rl} {unit : Int} (h : unit < 0 ∨ s.own ≠ unit) : yieldA s unit = 7 ∧ yieldR s unit = s := by
  rw [yieldA, yieldR, if_pos h, if_pos h]
  exact ⟨rfl, rfl⟩
end Go.Proofs.Ytmnhlnhocnchpaa
