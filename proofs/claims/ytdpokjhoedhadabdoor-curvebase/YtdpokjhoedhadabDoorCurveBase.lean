/-
  CurveBase: whatever text is handed in as a key (cut, or lengthened by bytes 0, to 32 bytes), the call returns true: a public key is the same as the multiple of 9, has 32 bytes and isn't nought.
-/
import Derived.Test.YtdpokjhoedhadabDoorFrame
import Derived.Test.YtdpokjhoedhadabDoorKeepCurve
import Derived.Test.YtdpokjhoedhadabDoorDoor2
import Derived.Test.YtdpokjhoedhadabDoorCards
import Derived.Test.YtdpokjhoedhadabDoorTie
import Derived.SevenTiedAt
namespace Go.Proofs.YtdpokjhoedhadabDoor.curveBase
open Go.ChangeShapes Go.WideShapes Go.ChangeAt Go.RowKit
open Go.ChangeMaps (open_string shut_string)
open num crv

theorem nine_sz : sz ⟨#[9]⟩ 32 = nineT := by decide +kernel
theorem kt_none : kt 0 = noughts 32 := by decide +kernel
theorem list_ne {a b : ByteArray} (h : a ≠ b) : (a.toList == b.toList) = false := by
  rw [beq_eq_false_iff_ne, ByteArray.toList_eq, ByteArray.toList_eq]
  exact fun e => h (by cases a; cases b; congr; exact Array.ext' e)
theorem facts (a : ByteArray) (ha : a.size = 32) (w : World) (hT : Tabs w) : ∃ X : ByteArray, X.size = 32 ∧ (X.toList == (noughts 32).toList) = false ∧
    (∀ W, Below w.heap.size w W → Calls Tryd.prog 11 #[.string a] W fun e w' => e = .returned (.tuple #[.string X, .int .i64 0]) ∧ Below w.heap.size w w') ∧
    (∀ W, Below w.heap.size w W → Calls Tryd.prog 12 #[.string a, .string (sz ⟨#[9]⟩ 32)] W fun e w' => e = .returned (.tuple #[.string X, .int .i64 0]) ∧ Below w.heap.size w w') := by
  refine ⟨xt a nineT, xt_size _ _, list_ne fun e => xk_nine a ha (kt_inj (e.trans kt_none.symm)), fun W h => public_keep h hT a ha, fun W h => ?_⟩
  rw [nine_sz]
  exact mult_keep h hT a nineT ha nineT_size
set_option maxHeartbeats 1600000 in
theorem walk (s : ByteArray) (hs : s.size ≤ maxLen) (w : World) (hT : Tabs w) :
    Calls Tryd.prog 4 #[.string s] w fun e w' => e = .returned (.bool true) ∧ Below w.heap.size w w' := by
  obtain ⟨X, hX, hne, f1, f2⟩ := facts (sz s 32) (sz_size s 32) w hT
  have H : Hid (s.size ≤ maxLen) := hs
  clear hs hT
  have F1 : Hid _ := f1
  have F2 : Hid _ := f2
  clear f1 f2
  have HN : Hid (∀ W, Below w.heap.size w W → Calls Tryd.prog 5 #[.string ⟨#[9]⟩, .int .i64 32] W fun e w' => e = .returned (.string (sz ⟨#[9]⟩ 32)) ∧ Below w.heap.size w w') := fun W h => sized_keep h ⟨#[9]⟩ (by decide)
  have HZ : Hid (∀ W, Below w.heap.size w W → Calls Tryd.prog 6 #[.int .i64 32] W fun e w' => e = .returned (.string (noughts 32)) ∧ Below w.heap.size w w') := fun W h => zeros_keep h
  generalize sz ⟨#[9]⟩ 32 = n at *
  generalize noughts 32 = z at *
  go_enter Tryd.func4, Tryd.ntmps4
  go_wp2_with fail
  refine (sized_any s 32 H.out (by decide) _).mono ?_
  rintro e w1 ⟨rfl, hb1⟩
  generalize sz s 32 = a at *
  go_wp2_with fail
  refine (F1.out _ (by assumption)).mono ?_
  rintro e wn ⟨rfl, hbn⟩
  go_wp2_with fail
  refine (HN.out _ (by assumption)).mono ?_
  rintro e wn ⟨rfl, hbn⟩
  go_wp2_with fail
  refine (F2.out _ (by assumption)).mono ?_
  rintro e wn ⟨rfl, hbn⟩
  go_wp2_with fail
  refine (HZ.out _ (by assumption)).mono ?_
  rintro e wn ⟨rfl, hbn⟩
  go_wp2_with fail
  go_ret
  exact ⟨rfl, by assumption⟩

/-! ### The row's step -/
set_option maxRecDepth 100000 in
theorem lifted (os : Os) (started : os.Started) (H : Type) (enc : TypeId × Value → H) :
    ReturnsInHanded {} Tryd.checked os 4 .any (fun w args => (Rows.curveBaseSpec.pre enc Tryd.prog Tryd.f4 [] false w args ∧ laidMetH Tryd.prog laid2 w) ∧ sizedMet enc Tryd.prog Tryd.f4 (OpenSpec.ofChange Rows.curveBaseSpec) false w args)
      (Rows.curveBaseSpec.post enc Tryd.prog Tryd.f4 false true false false) := by
  refine returnsInHanded_of_change_and (C := Tryd.checked) (X := fun w _ => laidMetH Tryd.prog laid2 w) (fun _ _ _ hh h => h.of_heap hh) own started (by kernel_rfl) Tryd.func4
    (ChangeSpec.witness_shaped (enc := enc) (C := Tryd.checked) (os := os) (X := fun w _ => laidMetH Tryd.prog laid2 w) false (World.doorLaid Tryd.prog 400 os) #[.string .empty] 8 rfl (World.shaped_of_RefB (by kernel_rfl) (by kernel_rfl)) (by kernel_rfl) (by kernel_rfl) (by kernel_rfl) (both_met os _)) ?_
  intro W base args ds gs before hval0 hW _ _ hL _
  have hval : ∀ (j : Nat) t v, Tryd.f4.params[j]? = some t → args[j]? = some v → Value.okWide Tryd.prog W .any base t v := hval0
  have hW' := hW
  obtain ⟨p, q, hA0, hV, rfl, hfz, hnd⟩ := hW
  have hA : DataW.TrodAll enc Tryd.prog W 0 (fun _ => true) true Tryd.f4.params.toList args.toList ds p := hA0
  rw [Tryd.params4] at hA hval
  obtain ⟨v0, vs0, d0, ds0, p0, q0, hargs, rfl, rfl, h0, r0⟩ := trodAll_cons hA
  obtain ⟨rfl, rfl, rfl⟩ := trodAll_nil r0
  obtain rfl : args = #[v0] := by cases args; simp_all
  obtain ⟨rfl, rfl⟩ := trodVars_none hV
  obtain ⟨s0, rfl, rfl, rfl, m0⟩ := open_string Tryd.underlying9 (hval 0 9 v0 rfl rfl) h0
  clear hA0 hval0
  simp only [List.append_nil] at hW'
  refine (walk s0 m0 W (both_tabs hL)).mono fun e W' ⟨he, hg⟩ => ?_
  subst he
  exact ⟨_, rfl, _, _, _, [], [], [], hW', trodAll_cons_mk (shut_bool Tryd.underlying4 _) trodAll_mk0, (trodAll_cons_mk (shut_string Tryd.underlying9 m0) trodAll_mk0), rfl, hg.frame _, fun h => by cases h⟩

/-- THE ROW. -/
theorem row : Rows.CurveBaseSaid :=
  OpenClaim.holds_of_wide 4 Tryd.f4 rfl rfl rfl rfl rfl rfl rfl ⟨rfl, rfl, rfl, rfl, rfl⟩ rfl rfl rfl rfl rfl (by kernel_rfl) Tryd.func4 (by kernel_rfl)
    (of_decide_eq_true (by kernel_rfl)) (by unfold Func.isWrapper; first | (rw [if_pos (by decide +kernel)]; kernel_rfl) | (rw [if_neg (by decide +kernel)]; exact ⟨rfl, rfl⟩))
    (fun os started H enc _ => lifted os started H enc)

/-- THE STATEMENT: the tied card. -/
theorem proved : Rows.CurveBaseCardSaid :=
  Claim7.holds_tied_plain_at .later [] [.data, .data] true (true, "a480d3e8bc925e12e1203e959bf3e4156975b924bc228b5481e7f42d26def2cf") false
    row (fun _ h => by cases h) (by kernel_rfl) (fun _ h => by cases h) curveBase_row_tie rfl ⟨rfl, rfl⟩ (by kernel_rfl) rfl
    (fun f fn hf hfn => by
      obtain rfl : f = 4 := Option.some.inj ((show Tryd.prog.funcNamed "souterrain/souterrainkeep.CurveBase" = some 4 by kernel_rfl).symm.trans hf) |>.symm
      obtain rfl : fn = Tryd.f4 := (Option.some.inj (Tryd.func4.symm.trans hfn)).symm
      exact ⟨by kernel_rfl, fun j t ht => by
        rw [Tryd.params4] at ht
        have hm : t ∈ [9] := by simpa using Array.mem_of_getElem? ht
        have hall : ([9].all fun u => !Tryd.prog.wantsStandIn u) = true := by kernel_rfl
        exact (show Tryd.prog.wantsStandIn t = false by simpa using List.all_eq_true.1 hall t hm)⟩)
    (by kernel_rfl)
end Go.Proofs.YtdpokjhoedhadabDoor.curveBase
