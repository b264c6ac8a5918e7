/-
  CurveMeets: whatever two texts are handed in as keys (cut, or lengthened by bytes 0, to 32 bytes), the call returns true: two who have one another's public keys have one secret, and it is never nought.
-/
import Derived.Test.YtdpokjhoedhadaaDoorFrame
import Derived.Test.YtdpokjhoedhadaaDoorKeepCurve
import Derived.Test.YtdpokjhoedhadaaDoorDoor2
import Derived.Test.YtdpokjhoedhadaaDoorCards
import Derived.Test.YtdpokjhoedhadaaDoorTie
import Derived.SevenTiedAt
namespace Go.Proofs.YtdpokjhoedhadaaDoor.curveMeets
open Go.ChangeShapes Go.WideShapes Go.ChangeAt Go.RowKit
open Go.ChangeMaps (open_string shut_string)
open num crv

theorem facts (a b : ByteArray) (ha : a.size = 32) (hb : b.size = 32) (w : World) (hT : Tabs w) : ∃ X Y S : ByteArray, S.size = 32 ∧
    (∀ W, Below w.heap.size w W → Calls Tryd.prog 10 #[.string a] W fun e w' => e = .returned (.tuple #[.string X, .int .i64 0]) ∧ Below w.heap.size w w') ∧
    (∀ W, Below w.heap.size w W → Calls Tryd.prog 10 #[.string b] W fun e w' => e = .returned (.tuple #[.string Y, .int .i64 0]) ∧ Below w.heap.size w w') ∧
    (∀ W, Below w.heap.size w W → Calls Tryd.prog 12 #[.string a, .string Y] W fun e w' => e = .returned (.tuple #[.string S, .int .i64 0]) ∧ Below w.heap.size w w') ∧
    (∀ W, Below w.heap.size w W → Calls Tryd.prog 12 #[.string b, .string X] W fun e w' => e = .returned (.tuple #[.string S, .int .i64 0]) ∧ Below w.heap.size w w') := by
  refine ⟨xt a nineT, xt b nineT, xt a (xt b nineT), xt_size _ _, fun W h => public_keep h hT a ha, fun W h => public_keep h hT b hb, fun W h => share_keep h hT a _ ha (xt_size _ _) (xk_nine2 a b ha hb), fun W h => ?_⟩
  have := share_keep h hT b _ hb (xt_size _ _) (xk_nine2 b a hb ha)
  rw [xt_comm a b nineT ha hb] at this
  exact this
set_option maxHeartbeats 1600000 in
theorem walk (s : ByteArray) (hs : s.size ≤ maxLen) (t : ByteArray) (ht : t.size ≤ maxLen) (w : World) (hT : Tabs w) :
    Calls Tryd.prog 5 #[.string s, .string t] w fun e w' => e = .returned (.bool true) ∧ Below w.heap.size w w' := by
  obtain ⟨X, Y, S, hS, f1, f2, f3, f4⟩ := facts (sz s 32) (sz t 32) (sz_size s 32) (sz_size t 32) w hT
  have H : Hid (s.size ≤ maxLen ∧ t.size ≤ maxLen) := ⟨hs, ht⟩
  clear hs ht hT
  have F1 : Hid _ := f1
  have F2 : Hid _ := f2
  have F3 : Hid _ := f3
  have F4 : Hid _ := f4
  clear f1 f2 f3 f4
  go_enter Tryd.func5, Tryd.ntmps5
  go_wp2_with fail
  refine (sized_any s 32 H.out.1 (by decide) _).mono ?_
  rintro e w1 ⟨rfl, hb1⟩
  go_wp2_with fail
  refine (sized_keep hb1 t H.out.2).mono ?_
  rintro e w2 ⟨rfl, hb2⟩
  generalize sz s 32 = a at *
  generalize sz t 32 = b at *
  clear hb1
  go_wp2_with fail
  refine (F1.out _ (by assumption)).mono ?_
  rintro e wn ⟨rfl, hbn⟩
  go_wp2_with fail
  refine (F2.out _ (by assumption)).mono ?_
  rintro e wn ⟨rfl, hbn⟩
  go_wp2_with fail
  refine (F3.out _ (by assumption)).mono ?_
  rintro e wn ⟨rfl, hbn⟩
  go_wp2_with fail
  refine (F4.out _ (by assumption)).mono ?_
  rintro e wn ⟨rfl, hbn⟩
  go_wp2_with fail
  go_ret
  exact ⟨rfl, by assumption⟩

/-! ### The row's step -/
set_option maxRecDepth 100000 in
theorem lifted (os : Os) (started : os.Started) (H : Type) (enc : TypeId × Value → H) :
    ReturnsInHanded {} Tryd.checked os 5 .any (fun w args => (Rows.curveMeetsSpec.pre enc Tryd.prog Tryd.f5 [] false w args ∧ laidMetH Tryd.prog laid2 w) ∧ sizedMet enc Tryd.prog Tryd.f5 (OpenSpec.ofChange Rows.curveMeetsSpec) false w args)
      (Rows.curveMeetsSpec.post enc Tryd.prog Tryd.f5 false true false false) := by
  refine returnsInHanded_of_change_and (C := Tryd.checked) (X := fun w _ => laidMetH Tryd.prog laid2 w) (fun _ _ _ hh h => h.of_heap hh) own started (by kernel_rfl) Tryd.func5
    (ChangeSpec.witness_shaped (enc := enc) (C := Tryd.checked) (os := os) (X := fun w _ => laidMetH Tryd.prog laid2 w) false (World.doorLaid Tryd.prog 400 os) #[.string .empty, .string .empty] 8 rfl (World.shaped_of_RefB (by kernel_rfl) (by kernel_rfl)) (by kernel_rfl) (by kernel_rfl) (by kernel_rfl) (both_met os _)) ?_
  intro W base args ds gs before hval0 hW _ _ hL _
  have hval : ∀ (j : Nat) t v, Tryd.f5.params[j]? = some t → args[j]? = some v → Value.okWide Tryd.prog W .any base t v := hval0
  have hW' := hW
  obtain ⟨p, q, hA0, hV, rfl, hfz, hnd⟩ := hW
  have hA : DataW.TrodAll enc Tryd.prog W 0 (fun _ => true) true Tryd.f5.params.toList args.toList ds p := hA0
  rw [Tryd.params5] at hA hval
  obtain ⟨v0, vs0, d0, ds0, p0, q0, hargs, rfl, rfl, h0, r0⟩ := trodAll_cons hA
  obtain ⟨v1, vs1, d1, ds1, p1, q1, rfl, rfl, rfl, h1, r1⟩ := trodAll_cons r0
  obtain ⟨rfl, rfl, rfl⟩ := trodAll_nil r1
  obtain rfl : args = #[v0, v1] := by cases args; simp_all
  obtain ⟨rfl, rfl⟩ := trodVars_none hV
  obtain ⟨s0, rfl, rfl, rfl, m0⟩ := open_string Tryd.underlying9 (hval 0 9 v0 rfl rfl) h0
  obtain ⟨s1, rfl, rfl, rfl, m1⟩ := open_string Tryd.underlying9 (hval 1 9 v1 rfl rfl) h1
  clear hA0 hval0
  simp only [List.append_nil] at hW'
  refine (walk s0 m0 s1 m1 W (both_tabs hL)).mono fun e W' ⟨he, hg⟩ => ?_
  subst he
  exact ⟨_, rfl, _, _, _, [], [], [], hW', trodAll_cons_mk (shut_bool Tryd.underlying4 _) trodAll_mk0, (trodAll_cons_mk (shut_string Tryd.underlying9 m0) (trodAll_cons_mk (shut_string Tryd.underlying9 m1) trodAll_mk0)), rfl, hg.frame _, fun h => by cases h⟩

/-- THE ROW. -/
theorem row : Rows.CurveMeetsSaid :=
  OpenClaim.holds_of_wide 5 Tryd.f5 rfl rfl rfl rfl rfl rfl rfl ⟨rfl, rfl, rfl, rfl, rfl⟩ rfl rfl rfl rfl rfl (by kernel_rfl) Tryd.func5 (by kernel_rfl)
    (of_decide_eq_true (by kernel_rfl)) (by unfold Func.isWrapper; first | (rw [if_pos (by decide +kernel)]; kernel_rfl) | (rw [if_neg (by decide +kernel)]; exact ⟨rfl, rfl⟩))
    (fun os started H enc _ => lifted os started H enc)

/-- THE STATEMENT: the tied card. -/
theorem proved : Rows.CurveMeetsCardSaid :=
  Claim7.holds_tied_plain_at .later [] [.data, .data] true (true, "60c4c9fdc2b3e4dec2a61077bcaa6191230837d56e555b0c45ad2dfbb02a1b72") false
    row (fun _ h => by cases h) (by kernel_rfl) (fun _ h => by cases h) curveMeets_row_tie rfl ⟨rfl, rfl⟩ (by kernel_rfl) rfl
    (fun f fn hf hfn => by
      obtain rfl : f = 5 := Option.some.inj ((show Tryd.prog.funcNamed "souterrain/souterrainkeep.CurveMeets" = some 5 by kernel_rfl).symm.trans hf) |>.symm
      obtain rfl : fn = Tryd.f5 := (Option.some.inj (Tryd.func5.symm.trans hfn)).symm
      exact ⟨by kernel_rfl, fun j t ht => by
        rw [Tryd.params5] at ht
        have hm : t ∈ [9] := by simpa using Array.mem_of_getElem? ht
        have hall : ([9].all fun u => !Tryd.prog.wantsStandIn u) = true := by kernel_rfl
        exact (show Tryd.prog.wantsStandIn t = false by simpa using List.all_eq_true.1 hall t hm)⟩)
    (by kernel_rfl)
end Go.Proofs.YtdpokjhoedhadaaDoor.curveMeets
