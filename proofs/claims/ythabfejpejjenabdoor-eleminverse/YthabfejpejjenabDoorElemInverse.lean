/-
  ElemInverse: whatever two texts a, b are handed in (cut, or lengthened by bytes 0, to 32 bytes), the call returns true: what has an inverse makes 1 with it; just nought has none; a product is nought just if one of both is.
-/
import Derived.Test.YthabfejpejjenabDoorFrame
import Derived.Test.YthabfejpejjenabDoorPlainElem
import Derived.Test.YthabfejpejjenabDoorDoor
import Derived.Test.YthabfejpejjenabDoorCards
import Derived.Test.YthabfejpejjenabDoorTie
import Derived.SevenTiedAt
namespace Go.Proofs.YthabfejpejjenabDoor.elemInverse
open Go.ChangeShapes Go.WideShapes Go.ChangeAt Go.RowKit
open Go.ChangeMaps (open_string shut_string)
open num

set_option maxHeartbeats 1600000 in
theorem walk_nought (s : ByteArray) (hs : s.size ≤ maxLen) (t : ByteArray) (ht : t.size ≤ maxLen) (h : N (sz s 32) % P = 0) (w : World) (hT : limb.Tab w 0 limb.lessL) :
    Calls Tryd.prog 3 #[.string s, .string t] w fun e w' => e = .returned (.bool true) ∧ Below w.heap.size w w' := by
  obtain ⟨r1, r2, r3, r4⟩ := inverse_nought (sz s 32) (sz t 32) (sz_size _ _) (sz_size _ _) h
  clear h
  have H : Hid (s.size ≤ maxLen ∧ t.size ≤ maxLen) := ⟨hs, ht⟩
  have HT : Hid (limb.Tab w 0 limb.lessL) := hT
  clear hs ht hT
  go_enter Tryd.func3, Tryd.ntmps3
  go_wp2_with fail
  refine (elems_any s H.out.1 _).mono ?_
  rintro e w1 ⟨rfl, hb1⟩
  go_wp2_with fail
  refine (sized_keep hb1 t H.out.2).mono ?_
  rintro e w2 ⟨rfl, hb2⟩
  generalize sz s 32 = a at *
  generalize sz t 32 = b at *
  clear hb1
  generalize hz : noughts 32 = z at *
  generalize ho : sz ⟨#[1]⟩ 32 = o at *
  have HZ : Hid (noughts 32 = z ∧ sz ⟨#[1]⟩ 32 = o) := ⟨hz, ho⟩
  clear hz ho
  go_wp2_with (first
    | (go_at_call 6; refine (inv_keep (by assumption) HT (by assumption)).mono ?_; rintro e wn ⟨rfl, hbn⟩)
    | (go_at_call 9; refine (mul_keep (by assumption) (by assumption)).mono ?_; rintro e wn ⟨rfl, hbn⟩)
    | (go_at_call 7; refine (least_keep (by assumption) (by assumption)).mono ?_; rintro e wn ⟨rfl, hbn⟩)
    | (go_at_call 8; refine (zeros_keep (by assumption)).mono ?_; rintro e wn ⟨rfl, hbn⟩; rw [HZ.out.1])
    | (go_at_call 5; refine (sized_keep (by assumption) ⟨#[1]⟩ (by decide)).mono ?_; rintro e wn ⟨rfl, hbn⟩; rw [HZ.out.2]))
  go_ret
  exact ⟨rfl, by assumption⟩

set_option maxHeartbeats 1600000 in
theorem walk_right (s : ByteArray) (hs : s.size ≤ maxLen) (t : ByteArray) (ht : t.size ≤ maxLen) (h : N (sz s 32) % P ≠ 0) (h2 : N (sz t 32) % P = 0) (w : World) (hT : limb.Tab w 0 limb.lessL) :
    Calls Tryd.prog 3 #[.string s, .string t] w fun e w' => e = .returned (.bool true) ∧ Below w.heap.size w w' := by
  obtain ⟨l, i, n1, n2, r1, r2, r3⟩ := inverse_some (sz s 32) (sz_size _ _) h
  have q1 := ne_list n1
  have q2 := ne_list n2
  obtain ⟨r4, r5⟩ := product_nought (sz s 32) (sz t 32) (sz_size _ _) (sz_size _ _) h2
  clear h h2 n1 n2
  have H : Hid (s.size ≤ maxLen ∧ t.size ≤ maxLen) := ⟨hs, ht⟩
  have HT : Hid (limb.Tab w 0 limb.lessL) := hT
  clear hs ht hT
  go_enter Tryd.func3, Tryd.ntmps3
  go_wp2_with fail
  refine (elems_any s H.out.1 _).mono ?_
  rintro e w1 ⟨rfl, hb1⟩
  go_wp2_with fail
  refine (sized_keep hb1 t H.out.2).mono ?_
  rintro e w2 ⟨rfl, hb2⟩
  generalize sz s 32 = a at *
  generalize sz t 32 = b at *
  clear hb1
  generalize hz : noughts 32 = z at *
  generalize ho : sz ⟨#[1]⟩ 32 = o at *
  have HZ : Hid (noughts 32 = z ∧ sz ⟨#[1]⟩ 32 = o) := ⟨hz, ho⟩
  clear hz ho
  go_wp2_with (first
    | (go_at_call 6; refine (inv_keep (by assumption) HT (by assumption)).mono ?_; rintro e wn ⟨rfl, hbn⟩)
    | (go_at_call 9; refine (mul_keep (by assumption) (by assumption)).mono ?_; rintro e wn ⟨rfl, hbn⟩)
    | (go_at_call 7; refine (least_keep (by assumption) (by assumption)).mono ?_; rintro e wn ⟨rfl, hbn⟩)
    | (go_at_call 8; refine (zeros_keep (by assumption)).mono ?_; rintro e wn ⟨rfl, hbn⟩; rw [HZ.out.1])
    | (go_at_call 5; refine (sized_keep (by assumption) ⟨#[1]⟩ (by decide)).mono ?_; rintro e wn ⟨rfl, hbn⟩; rw [HZ.out.2]))
  go_ret
  exact ⟨rfl, by assumption⟩

set_option maxHeartbeats 1600000 in
theorem walk_some (s : ByteArray) (hs : s.size ≤ maxLen) (t : ByteArray) (ht : t.size ≤ maxLen) (h : N (sz s 32) % P ≠ 0) (h2 : N (sz t 32) % P ≠ 0) (w : World) (hT : limb.Tab w 0 limb.lessL) :
    Calls Tryd.prog 3 #[.string s, .string t] w fun e w' => e = .returned (.bool true) ∧ Below w.heap.size w w' := by
  obtain ⟨l, i, n1, n2, r1, r2, r3⟩ := inverse_some (sz s 32) (sz_size _ _) h
  have q1 := ne_list n1
  have q2 := ne_list n2
  obtain ⟨m, k, n3, n4, r4, r5⟩ := product_some (sz s 32) (sz t 32) (sz_size _ _) (sz_size _ _) h h2
  have q3 := ne_list n3
  have q4 := ne_list n4
  clear n3 n4
  clear h h2 n1 n2
  have H : Hid (s.size ≤ maxLen ∧ t.size ≤ maxLen) := ⟨hs, ht⟩
  have HT : Hid (limb.Tab w 0 limb.lessL) := hT
  clear hs ht hT
  go_enter Tryd.func3, Tryd.ntmps3
  go_wp2_with fail
  refine (elems_any s H.out.1 _).mono ?_
  rintro e w1 ⟨rfl, hb1⟩
  go_wp2_with fail
  refine (sized_keep hb1 t H.out.2).mono ?_
  rintro e w2 ⟨rfl, hb2⟩
  generalize sz s 32 = a at *
  generalize sz t 32 = b at *
  clear hb1
  generalize hz : noughts 32 = z at *
  generalize ho : sz ⟨#[1]⟩ 32 = o at *
  have HZ : Hid (noughts 32 = z ∧ sz ⟨#[1]⟩ 32 = o) := ⟨hz, ho⟩
  clear hz ho
  go_wp2_with (first
    | (go_at_call 6; refine (inv_keep (by assumption) HT (by assumption)).mono ?_; rintro e wn ⟨rfl, hbn⟩)
    | (go_at_call 9; refine (mul_keep (by assumption) (by assumption)).mono ?_; rintro e wn ⟨rfl, hbn⟩)
    | (go_at_call 7; refine (least_keep (by assumption) (by assumption)).mono ?_; rintro e wn ⟨rfl, hbn⟩)
    | (go_at_call 8; refine (zeros_keep (by assumption)).mono ?_; rintro e wn ⟨rfl, hbn⟩; rw [HZ.out.1])
    | (go_at_call 5; refine (sized_keep (by assumption) ⟨#[1]⟩ (by decide)).mono ?_; rintro e wn ⟨rfl, hbn⟩; rw [HZ.out.2]))
  go_ret
  exact ⟨rfl, by assumption⟩

theorem walk (s : ByteArray) (hs : s.size ≤ maxLen) (t : ByteArray) (ht : t.size ≤ maxLen) (w : World) (hT : limb.Tab w 0 limb.lessL) :
    Calls Tryd.prog 3 #[.string s, .string t] w fun e w' => e = .returned (.bool true) ∧ Below w.heap.size w w' := by
  by_cases h : N (sz s 32) % P = 0
  · exact walk_nought s hs t ht h w hT
  · by_cases h2 : N (sz t 32) % P = 0
    · exact walk_right s hs t ht h h2 w hT
    · exact walk_some s hs t ht h h2 w hT

/-! ### The row's step -/
set_option maxRecDepth 100000 in
theorem lifted (os : Os) (started : os.Started) (H : Type) (enc : TypeId × Value → H) :
    ReturnsInHanded {} Tryd.checked os 3 .any (fun w args => (Rows.elemInverseSpec.pre enc Tryd.prog Tryd.f3 [] false w args ∧ laidMetH Tryd.prog laidL w) ∧ sizedMet enc Tryd.prog Tryd.f3 (OpenSpec.ofChange Rows.elemInverseSpec) false w args)
      (Rows.elemInverseSpec.post enc Tryd.prog Tryd.f3 false true false false) := by
  refine returnsInHanded_of_change_and (C := Tryd.checked) (X := fun w _ => laidMetH Tryd.prog laidL w) (fun _ _ _ hh h => h.of_heap hh) own started (by kernel_rfl) Tryd.func3
    (ChangeSpec.witness_shaped (enc := enc) (C := Tryd.checked) (os := os) (X := fun w _ => laidMetH Tryd.prog laidL w) false (World.doorLaid Tryd.prog 400 os) #[.string .empty, .string .empty] 8 rfl (World.shaped_of_RefB (by kernel_rfl) (by kernel_rfl)) (by kernel_rfl) (by kernel_rfl) (by kernel_rfl) (less_met os _)) ?_
  intro W base args ds gs before hval0 hW _ _ hL _
  have hval : ∀ (j : Nat) t v, Tryd.f3.params[j]? = some t → args[j]? = some v → Value.okWide Tryd.prog W .any base t v := hval0
  have hW' := hW
  obtain ⟨p, q, hA0, hV, rfl, hfz, hnd⟩ := hW
  have hA : DataW.TrodAll enc Tryd.prog W 0 (fun _ => true) true Tryd.f3.params.toList args.toList ds p := hA0
  rw [Tryd.params3] at hA hval
  obtain ⟨v0, vs0, d0, ds0, p0, q0, hargs, rfl, rfl, h0, r0⟩ := trodAll_cons hA
  obtain ⟨v1, vs1, d1, ds1, p1, q1, rfl, rfl, rfl, h1, r1⟩ := trodAll_cons r0
  obtain ⟨rfl, rfl, rfl⟩ := trodAll_nil r1
  obtain rfl : args = #[v0, v1] := by cases args; simp_all
  obtain ⟨rfl, rfl⟩ := trodVars_none hV
  obtain ⟨s0, rfl, rfl, rfl, m0⟩ := open_string Tryd.underlying9 (hval 0 9 v0 rfl rfl) h0
  obtain ⟨s1, rfl, rfl, rfl, m1⟩ := open_string Tryd.underlying9 (hval 1 9 v1 rfl rfl) h1
  clear hA0 hval0
  simp only [List.append_nil] at hW'
  refine (walk s0 m0 s1 m1 W (less_tab hL)).mono fun e W' ⟨he, hg⟩ => ?_
  subst he
  exact ⟨_, rfl, _, _, _, [], [], [], hW', trodAll_cons_mk (shut_bool Tryd.underlying4 _) trodAll_mk0, (trodAll_cons_mk (shut_string Tryd.underlying9 m0) (trodAll_cons_mk (shut_string Tryd.underlying9 m1) trodAll_mk0)), rfl, hg.frame _, fun h => by cases h⟩

/-- THE ROW. -/
theorem row : Rows.ElemInverseSaid :=
  OpenClaim.holds_of_wide 3 Tryd.f3 rfl rfl rfl rfl rfl rfl rfl ⟨rfl, rfl, rfl, rfl, rfl⟩ rfl rfl rfl rfl rfl (by kernel_rfl) Tryd.func3 (by kernel_rfl)
    (of_decide_eq_true (by kernel_rfl)) (by unfold Func.isWrapper; first | (rw [if_pos (by decide +kernel)]; kernel_rfl) | (rw [if_neg (by decide +kernel)]; exact ⟨rfl, rfl⟩))
    (fun os started H enc _ => lifted os started H enc)

/-- THE STATEMENT: the tied card. -/
theorem proved : Rows.ElemInverseCardSaid :=
  Claim7.holds_tied_plain_at .later [] [.data] true (true, "5fa2e93003ba34a3ca350e499436d953c939a05aad2ca7a2edb74788f1abdef9") false
    row (fun _ h => by cases h) (by kernel_rfl) (fun _ h => by cases h) elemInverse_row_tie rfl ⟨rfl, rfl⟩ (by kernel_rfl) rfl
    (fun f fn hf hfn => by
      obtain rfl : f = 3 := Option.some.inj ((show Tryd.prog.funcNamed "souterrain/souterrainkeep.ElemInverse" = some 3 by kernel_rfl).symm.trans hf) |>.symm
      obtain rfl : fn = Tryd.f3 := (Option.some.inj (Tryd.func3.symm.trans hfn)).symm
      exact ⟨by kernel_rfl, fun j t ht => by
        rw [Tryd.params3] at ht
        have hm : t ∈ [9] := by simpa using Array.mem_of_getElem? ht
        have hall : ([9].all fun u => !Tryd.prog.wantsStandIn u) = true := by kernel_rfl
        exact (show Tryd.prog.wantsStandIn t = false by simpa using List.all_eq_true.1 hall t hm)⟩)
    (by kernel_rfl)
end Go.Proofs.YthabfejpejjenabDoor.elemInverse
