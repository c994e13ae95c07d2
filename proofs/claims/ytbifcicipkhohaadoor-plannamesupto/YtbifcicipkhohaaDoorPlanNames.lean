/-
  Of any two texts of bulk at most 1048576: PlanNames returns true. The tables of unicode/utf8 are as the program's text lays them (the tied card).
-/
import Derived.Test.YtbifcicipkhohaaDoorRows
import Derived.Test.YtbifcicipkhohaaDoorCards
import Derived.Test.YtbifcicipkhohaaDoorTie
import Derived.Test.YtbifcicipkhohaaDoorPlRefCap
import Derived.Test.YtbifcicipkhohaaDoorPlPrint2
import Derived.Test.YtbifcicipkhohaaDoorPlKnown
import Derived.Test.YtbifcicipkhohaaDoorPlBy
import Derived.WalkKit
import Derived.ProofKit
import Derived.OpenShut
import Derived.ShutString
import Derived.ChangeOld
import Derived.Below
import Derived.SizedLaws
import Derived.PinnedBridge
import Derived.Lib.LaidU8T
import Derived.Lay
import Derived.LaidOnce
import Derived.SevenTiedAt
import Derived.Deep.DeepHandedRow
namespace Go.Proofs.YtbifcicipkhohaaDoor.planNames
open Go.ChangeShapes Go.WideShapes Go.ChangeAt Go.RowKit
open Go.ChangeMaps (open_string shut_string)

theorem text_two (a b : ByteArray) : (⟨#[115, 101, 99, 116, 105, 111, 110, 32]⟩ : ByteArray) ++ a ++ ⟨#[10, 115, 101, 99, 116, 105, 111, 110, 32]⟩ ++ b = twoT a b := by
  apply ByteArray.ext
  apply Array.ext'
  simp [twoT, secB_is, mkB]
theorem text_out (a b : ByteArray) : (⟨(linesT secW [a, b] ++ linesT sigW []).toArray⟩ : ByteArray) = (⟨#[115, 101, 99, 116, 105, 111, 110, 32]⟩ : ByteArray) ++ a ++ ⟨#[10, 115, 101, 99, 116, 105, 111, 110, 32]⟩ ++ b ++ ⟨#[10]⟩ := by
  apply ByteArray.ext
  apply Array.ext'
  simp [linesT, lineT, secW, Lib.join]

set_option maxRecDepth 1000000 in
set_option maxHeartbeats 8000000 in
theorem walk_in (hby : BySaid) (a b : ByteArray) (ha : a.size ≤ 1048576) (hb : b.size ≤ 1048576) (w : World) (hT : Lib.Utf8Tabs 0 1 w) :
    Calls Tryd.prog 6 #[.string a, .string b] w fun e w' => e = .returned (.bool true) ∧ Below w.heap.size w w' := by
  have o0 := Ok.start hT
  clear hT
  cases na : nameB a.data.toList
  · go_enter Tryd.func6, Tryd.ntmps6
    go_wp2_with fail
    refine (refName_any a _ (by omega) o0.2).mono ?_
    rintro e w1 ⟨rfl, hb1⟩
    rw [na]
    go_wp2
    go_ret
    exact ⟨rfl, hb1⟩
  · cases nb : nameB b.data.toList
    · go_enter Tryd.func6, Tryd.ntmps6
      go_wp2_with fail
      refine (refName_any a _ (by omega) o0.2).mono ?_
      rintro e w1 ⟨rfl, hb1⟩
      rw [na]
      go_wp2_with fail
      refine (refName_any b _ (by omega) (o0.step hb1).2).mono ?_
      rintro e w2 ⟨rfl, hb2⟩
      rw [nb]
      go_wp2
      go_ret
      exact ⟨rfl, ((o0.step hb1).step hb2).1⟩
    · have hz : (twoT a b).size ≤ 4294967295 := by
        rw [← text_two]
        simp only [ByteArray.size_append]
        have : (⟨#[115, 101, 99, 116, 105, 111, 110, 32]⟩ : ByteArray).size = 8 := rfl
        have : (⟨#[10, 115, 101, 99, 116, 105, 111, 110, 32]⟩ : ByteArray).size = 9 := rfl
        omega
      have HP : Hid (∀ W, Calls Tryd.prog 15 #[.string (twoT a b)] W fun e w' => ∃ v rs, e = .returned (.tuple #[.agg #[v 0, v 1, v 2, v 3], .int .i64 (parseP (twoT a b)).2.1, .int .i64 (parseP (twoT a b)).2.2]) ∧ LayRd w' v (parseP (twoT a b)).1 rs ∧ (∀ i, ∃ o n c, v i = .slice o n c) ∧ Below W.heap.size W w') := fun W => parse_any hby _ W hz
      by_cases hok : capB a = true ∧ capB b = true ∧ a ≠ b
      · have hpe := two_ok hok.1 hok.2.1 hok.2.2
        rw [hpe] at HP
        clear hpe
        have hne : (a.toList == b.toList) = false := by rw [toList_eq, decide_eq_false hok.2.2]
        have hlen : (linesT secW [a, b]).length + (linesT sigW []).length + 100 ≤ 140737488355328 := by
          have h8 : secW.data.toList.length = 7 := rfl
          have sa : a.data.toList.length = a.size := (Lib.size_eq a).symm
          have sb : b.data.toList.length = b.size := (Lib.size_eq b).symm
          simp [linesT, lineT, Lib.join, h8] at sa sb ⊢
          omega
        go_enter Tryd.func6, Tryd.ntmps6
        go_wp2_with fail
        refine (refName_any a _ (by omega) o0.2).mono ?_
        rintro e w1 ⟨rfl, hb1⟩
        rw [na]
        go_wp2_with fail
        have o1 := o0.step hb1
        refine (refName_any b _ (by omega) o1.2).mono ?_
        rintro e w2 ⟨rfl, hb2⟩
        rw [nb]
        have o2 := o1.step hb2
        go_wp2_with fail
        rw [text_two]
        refine (HP.out w2).mono ?_
        rintro en w3 ⟨v, rs, rfl, hrd, hsl, hb3⟩
        obtain ⟨oa, c0, e0, r0⟩ := hrd.s
        obtain ⟨o1', n1, c1, e1⟩ := hsl 1
        obtain ⟨o2', n2, c2, e2⟩ := hsl 2
        obtain ⟨o3', n3, c3, e3⟩ := hsl 3
        obtain ⟨g, off, hoa, ca0⟩ := r0 0 a rfl
        obtain ⟨g', off', hob, cb0⟩ := r0 1 b rfl
        subst hoa
        injection hob with hob
        injection hob with hg hoff _
        subst hg hoff
        have ca1 : w3.cell? ⟨g, off, none⟩ = some (.string a) := ca0 0 _ rfl
        have cb1 : w3.cell? ⟨g, off + 1, none⟩ = some (.string b) := cb0 0 _ rfl
        have PR : Hid (∀ W, Below w3.heap.size w3 W → Calls Tryd.prog 11 #[.agg #[.slice (some ⟨g, off, none⟩) 2 c0, .slice o1' n1 c1, .slice o2' n2 c2, .slice o3' n3 c3]] W fun e w' => e = .returned (.string ((⟨#[115, 101, 99, 116, 105, 111, 110, 32]⟩ : ByteArray) ++ a ++ ⟨#[10, 115, 101, 99, 116, 105, 111, 110, 32]⟩ ++ b ++ ⟨#[10]⟩)) ∧ Below W.heap.size W w') := fun W hW => by
          have := print_names v _ rs W (hrd.below hW) rfl rfl ⟨by simp, by simp [Lay.zero]⟩ hlen
          rw [e0, e1, e2, e3] at this
          rw [← text_out]
          exact this
        rw [e0, e1, e2, e3, show ({ Lay.zero with sections := [a, b] } : Lay).sections.length = 2 from rfl]
        have o3 := o2.step hb3
        clear hrd hsl r0 ca0 cb0 e0 e1 e2 e3
        have hal : Below w3.heap.size w3 (w3.alloc (.cells #[.slice (some ⟨g, off, none⟩) 2 c0, .slice o1' n1 c1, .slice o2' n2 c2, .slice o3' n3 c3] 26)) := (Below.refl _ _).alloc (Nat.le_refl _) _
        have q0 : (w3.alloc (.cells #[.slice (some ⟨g, off, none⟩) 2 c0, .slice o1' n1 c1, .slice o2' n2 c2, .slice o3' n3 c3] 26)).cell? ⟨w3.heap.size, 0, none⟩ = some (.slice (some ⟨g, off, none⟩) 2 c0) := by simp
        have q1 : (w3.alloc (.cells #[.slice (some ⟨g, off, none⟩) 2 c0, .slice o1' n1 c1, .slice o2' n2 c2, .slice o3' n3 c3] 26)).cell? ⟨w3.heap.size, 1, none⟩ = some (.slice o1' n1 c1) := by simp
        have q2 : (w3.alloc (.cells #[.slice (some ⟨g, off, none⟩) 2 c0, .slice o1' n1 c1, .slice o2' n2 c2, .slice o3' n3 c3] 26)).cell? ⟨w3.heap.size, 2, none⟩ = some (.slice o2' n2 c2) := by simp
        have q3 : (w3.alloc (.cells #[.slice (some ⟨g, off, none⟩) 2 c0, .slice o1' n1 c1, .slice o2' n2 c2, .slice o3' n3 c3] 26)).cell? ⟨w3.heap.size, 3, none⟩ = some (.slice o3' n3 c3) := by simp
        have o4 := o3.step hal
        go_wp2_with fail
        refine (refCap_any a _ (by omega) o4.2).mono ?_
        rintro en w5 ⟨rfl, hb5⟩
        rw [hok.1]
        have o5 := o4.step hb5
        go_wp2_with fail
        refine (refCap_any b _ (by omega) o5.2).mono ?_
        rintro en w6 ⟨rfl, hb6⟩
        rw [hok.2.1]
        have o6 := o5.step hb6
        have hb36 : Below w3.heap.size w3 w6 := (hal.trans (hb5.mono hal.size)).trans (hb6.mono (Nat.le_trans hal.size hb5.size))
        have up : ∀ {p : Addr} {u : Value}, (w3.alloc (.cells #[.slice (some ⟨g, off, none⟩) 2 c0, .slice o1' n1 c1, .slice o2' n2 c2, .slice o3' n3 c3] 26)).cell? p = some u → w6.cell? p = some u := fun h => by
          have h5 := (hb5.cell (World.block_lt_of_cell? _ _ h)).trans h
          exact (hb6.cell (World.block_lt_of_cell? _ _ h5)).trans h5
        have k0 := up q0
        have k1 := up q1
        have k2 := up q2
        have k3 := up q3
        have ka := (hb36.cell (World.block_lt_of_cell? _ _ ca1)).trans ca1
        have kb := (hb36.cell (World.block_lt_of_cell? _ _ cb1)).trans cb1
        have P6 : Hid (Calls Tryd.prog 11 #[.agg #[.slice (some ⟨g, off, none⟩) 2 c0, .slice o1' n1 c1, .slice o2' n2 c2, .slice o3' n3 c3]] w6 fun e w' => e = .returned (.string ((⟨#[115, 101, 99, 116, 105, 111, 110, 32]⟩ : ByteArray) ++ a ++ ⟨#[10, 115, 101, 99, 116, 105, 111, 110, 32]⟩ ++ b ++ ⟨#[10]⟩)) ∧ Below w6.heap.size w6 w') := PR.out w6 hb36
        have HO6 : Hid (Ok w w6) := o6
        clear q0 q1 q2 q3 ca1 cb1 up PR HP o0 o1 o2 o3 o4 o5 o6 hal hb1 hb2 hb3 hb5 hb6 hb36 hz hlen
        go_wp2_with fail
        refine P6.out.mono ?_
        rintro en w7 ⟨rfl, hb7⟩
        have o7 := HO6.out.step hb7
        go_wp2_with fail
        refine (known_any hby _).mono ?_
        rintro en w8 ⟨rfl, hb8⟩
        go_wp2
        go_ret
        exact ⟨rfl, (o7.step hb8).1⟩
      · obtain ⟨n, e, hpe, he⟩ := two_no na nb hok
        rw [hpe] at HP
        clear hpe
        go_enter Tryd.func6, Tryd.ntmps6
        go_wp2_with fail
        refine (refName_any a _ (by omega) o0.2).mono ?_
        rintro e w1 ⟨rfl, hb1⟩
        rw [na]
        go_wp2_with fail
        have o1 := o0.step hb1
        refine (refName_any b _ (by omega) o1.2).mono ?_
        rintro e w2 ⟨rfl, hb2⟩
        rw [nb]
        have o2 := o1.step hb2
        go_wp2_with fail
        rw [text_two]
        refine (HP.out w2).mono ?_
        rintro en w3 ⟨v, rs, rfl, hrd, hsl, hb3⟩
        obtain ⟨oa, c0, e0, _⟩ := hrd.s
        obtain ⟨o1', n1, c1, e1⟩ := hsl 1
        obtain ⟨o2', n2, c2, e2⟩ := hsl 2
        obtain ⟨o3', n3, c3, e3⟩ := hsl 3
        rw [e0, e1, e2, e3, show Lay.zero.sections.length = 0 from rfl]
        have o3 := o2.step hb3
        clear hrd hsl
        have he' : ((e : Int) == 0) = false := by simp; omega
        have he2 : ((e : Int) != 0) = true := by simp; omega
        have hal : Below w3.heap.size w3 (w3.alloc (.cells #[.slice oa 0 c0, .slice o1' n1 c1, .slice o2' n2 c2, .slice o3' n3 c3] 26)) := (Below.refl _ _).alloc (Nat.le_refl _) _
        have q0 : (w3.alloc (.cells #[.slice oa 0 c0, .slice o1' n1 c1, .slice o2' n2 c2, .slice o3' n3 c3] 26)).cell? ⟨w3.heap.size, 0, none⟩ = some (.slice oa 0 c0) := by simp
        have o4 := o3.step hal
        cases ca : capB a
        · go_wp2_with fail
          refine (refCap_any a _ (by omega) o4.2).mono ?_
          rintro en w5 ⟨rfl, hb5⟩
          rw [ca]
          have q5 := (hb5.cell (World.block_lt_of_cell? _ _ q0)).trans q0
          have o5 := o4.step hb5
          clear q0
          go_wp2_with fail
          refine (known_any hby _).mono ?_
          rintro en w6 ⟨rfl, hb6⟩
          go_wp2
          go_ret
          exact ⟨rfl, (o5.step hb6).1⟩
        · go_wp2_with fail
          refine (refCap_any a _ (by omega) o4.2).mono ?_
          rintro en w5 ⟨rfl, hb5⟩
          rw [ca]
          have q5 := (hb5.cell (World.block_lt_of_cell? _ _ q0)).trans q0
          have o5 := o4.step hb5
          clear q0
          go_wp2_with fail
          refine (refCap_any b _ (by omega) o5.2).mono ?_
          rintro en w6 ⟨rfl, hb6⟩
          have q6 := (hb6.cell (World.block_lt_of_cell? _ _ q5)).trans q5
          have o6 := o5.step hb6
          clear q5
          cases cb : capB b
          · go_wp2_with fail
            refine (known_any hby _).mono ?_
            rintro en w7 ⟨rfl, hb7⟩
            go_wp2
            go_ret
            exact ⟨rfl, (o6.step hb7).1⟩
          · have hab : a = b := Classical.byContradiction fun hne => hok ⟨ca, cb, hne⟩
            subst hab
            go_wp2_with fail
            refine (known_any hby _).mono ?_
            rintro en w7 ⟨rfl, hb7⟩
            go_wp2
            go_ret
            exact ⟨rfl, (o6.step hb7).1⟩

theorem walk (a b : ByteArray) (ha : a.size ≤ 1048576) (hb : b.size ≤ 1048576) (w : World) (hT : Lib.Utf8Tabs 0 1 w) :
    Calls Tryd.prog 6 #[.string a, .string b] w fun e w' => e = .returned (.bool true) ∧ Below w.heap.size w w' := walk_in byPlaces_any a b ha hb w hT

theorem own : ownKnob Tryd.prog.godebug = none := by kernel_rfl
theorem u8x : U8Extra Tryd.prog Tryd.lays260_ren := ⟨by kernel_rfl, by kernel_rfl, by kernel_rfl, by kernel_rfl, by kernel_rfl, by kernel_rfl, by kernel_rfl⟩
theorem accept_eq : (Rows.laid_unicode_utf8_acceptRanges : DataW Unit) = Lib.acceptData := by kernel_rfl
theorem first_eq : Rows.laid_unicode_utf8_first = Lib.firstData := Pinned.utf8First_eq
theorem tabs_of {W : World} (hL : laidMet Tryd.prog Rows.planNamesUptoRow.laid W) : Lib.Utf8Tabs 0 1 W :=
  utf8Tabs_of_readsT (U8Types.of260 Tryd.lays260) u8x (first_eq ▸ Lib.laidMet.reads hL (.tail _ (.head _))) (accept_eq ▸ Lib.laidMet.reads hL (.head _))
theorem reads (os : Os) {H : Type} (enc : TypeId × Value → H) : ∃ places, DataW.whole enc Tryd.prog ((World.laidAll Tryd.prog os Rows.planNamesUptoRow.laid).forCall (fun _ _ => 0) ⟨#[], #[.string ByteArray.empty, .string ByteArray.empty], []⟩).memory Tryd.f6.params.toList Rows.planNamesSpec.vars false #[.string ByteArray.empty, .string ByteArray.empty].toList 8 = some ([.lit (.string []), .lit (.string [])], [], places) :=
  ⟨[], by kernel_rfl⟩

set_option maxRecDepth 100000 in
theorem lifted (os : Os) (started : os.Started) (H : Type) (enc : TypeId × Value → H) (F : Stop.Interp) :
    ReturnsInHanded {} Tryd.checked os 6 .any ((Rows.OpenSpec.upto Rows.planNamesSpec).preRow enc Tryd.prog Tryd.f6 Rows.planNamesUptoRow.domain false Rows.planNamesUptoRow.laid) (((Rows.OpenSpec.upto Rows.planNamesSpec).at F).post enc Tryd.prog Tryd.f6 false true false false) := by
  obtain ⟨places, hx⟩ := reads os enc
  have hok : Input.okWideB Tryd.prog ((World.laidAll Tryd.prog os Rows.planNamesUptoRow.laid).forCall (fun _ _ => 0) ⟨#[], #[.string ByteArray.empty, .string ByteArray.empty], []⟩) 6 ⟨#[], #[.string ByteArray.empty, .string ByteArray.empty], []⟩ = true := by kernel_rfl
  refine returnsInHanded_of_row (C := Tryd.checked) (s := Rows.OpenSpec.upto Rows.planNamesSpec) own started (by kernel_rfl) Tryd.func6
    ⟨World.laidAll Tryd.prog os Rows.planNamesUptoRow.laid, fun _ _ => 0, ⟨#[], #[.string ByteArray.empty, .string ByteArray.empty], []⟩, World.laidAll_os _ _ _, World.shaped_of_ZipB (by kernel_rfl) (by kernel_rfl), (Input.okWide_of_okWideB (base := 0) hok).1, (Input.okWide_of_okWideB hok).2,
      OpenSpec.preRow_of_cond 8 hx (by kernel_rfl) (fun k hk => by cases hk; kernel_rfl) (by kernel_rfl) (by rw [MakeChecks.laidMetH_plain _ _ _ (by kernel_rfl)]; exact laidMet_laidAll _ (by kernel_rfl) (by kernel_rfl)), by
      simp only [Assume.holds]
      exact ⟨by simp, by simp, fun _ => Modest.zero, by simp, by simp⟩⟩ ?_
  intro W base args ds gs before hval0 hW _ hcond _ hL _ _
  have hk0 := of_decide_eq_true (hcond _ rfl)
  have hval : ∀ (j : Nat) t v, Tryd.f6.params[j]? = some t → args[j]? = some v → Value.okWide Tryd.prog W .any base t v := hval0
  have hW' := hW
  obtain ⟨p, q, hA0, hV, rfl, _, _⟩ := hW
  have hA : DataW.TrodAll enc Tryd.prog W 0 (fun _ => true) true Tryd.f6.params.toList args.toList ds p := hA0
  rw [Tryd.params6] at hA hval
  obtain ⟨v0, vs0, d0, ds0, p0, q0, hargs, rfl, rfl, h0, r0⟩ := trodAll_cons hA
  obtain ⟨v1, vs1, d1, ds1, p1, q1, rfl, rfl, rfl, h1, r1⟩ := trodAll_cons r0
  obtain ⟨rfl, rfl, rfl⟩ := trodAll_nil r1
  obtain rfl : args = #[v0, v1] := by cases args; simp_all
  obtain ⟨rfl, rfl⟩ := trodVars_none hV
  obtain ⟨a0, rfl, rfl, rfl, w0⟩ := open_string Tryd.underlying9 (hval 0 9 v0 rfl rfl) h0
  obtain ⟨a1, rfl, rfl, rfl, w1⟩ := open_string Tryd.underlying9 (hval 1 9 v1 rfl rfl) h1
  simp only [List.append_nil, Rows.uptoBulkAll, Rows.uptoBulk] at hk0
  have z0 : a0.size ≤ 1048576 := by rw [Lib.size_eq]; omega
  have z1 : a1.size ≤ 1048576 := by rw [Lib.size_eq]; omega
  clear hA0 hval0
  rw [MakeChecks.laidMetH_plain _ _ _ (by kernel_rfl)] at hL
  refine (walk a0 a1 z0 z1 W (tabs_of hL)).mono fun e W' ⟨he, bel⟩ => ?_
  subst he
  exact ⟨_, rfl, _, _, _, [], _, [], hW', trodAll_mk1 (shut_bool Tryd.underlying4 _), (trodAll_cons_mk (shut_string Tryd.underlying9 w0) (trodAll_cons_mk (shut_string Tryd.underlying9 w1) trodAll_mk0)), rfl, bel.frame _, fun h => by cases h⟩

theorem over : Rows.PlanNamesUptoSaid :=
  OpenClaim.holds_of_cond 6 Tryd.f6 rfl rfl rfl rfl rfl rfl rfl ⟨rfl, rfl, rfl, rfl, rfl⟩ rfl rfl rfl rfl rfl (by kernel_rfl) Tryd.func6 (by kernel_rfl)
    (of_decide_eq_true (by kernel_rfl)) (by unfold Func.isWrapper; first | (rw [if_pos (by decide +kernel)]; kernel_rfl) | (rw [if_neg (by decide +kernel)]; exact ⟨rfl, rfl⟩))
    (fun os started H enc _ F => by rw [OpenClaim.pre_eq_preRow]; exact lifted os started H enc F)

theorem card : Rows.PlanNamesUptoCardSaid :=
  Claim7.holds_tied_plain_at .later [] _ _ _ _ over (fun _ h => by cases h) (by kernel_rfl) (fun _ h => by cases h) planNamesUpto_row_tie rfl ⟨rfl, rfl⟩ (by kernel_rfl) rfl
    (fun f fn hf hfn => by
      obtain rfl : f = 6 := Option.some.inj ((show Tryd.prog.funcNamed Rows.planNamesUptoRow.func = some 6 by kernel_rfl).symm.trans hf) |>.symm
      obtain rfl : fn = Tryd.f6 := (Option.some.inj (Tryd.func6.symm.trans hfn)).symm
      exact ⟨by kernel_rfl, fun j t ht => by
        rw [Tryd.params6] at ht
        have hm : t ∈ [9, 9] := by simpa using Array.mem_of_getElem? ht
        have hall : ([9, 9].all fun u => !Tryd.prog.wantsStandIn u) = true := by kernel_rfl
        exact (show Tryd.prog.wantsStandIn t = false by simpa using List.all_eq_true.1 hall t hm)⟩)
    (by kernel_rfl)


end Go.Proofs.YtbifcicipkhohaaDoor.planNames
namespace Go.Proofs.YtbifcicipkhohaaDoor
theorem planNames_holds : Rows.PlanNamesUptoCardSaid := planNames.card
#print axioms planNames_holds
end Go.Proofs.YtbifcicipkhohaaDoor
