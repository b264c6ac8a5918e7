/-
  BlakeKnown: whatever a key, a text and a size, the call returns true: two digests are as they are known; sizes and keys that can't be are refused; a digest has as many bytes as were asked for. (The tied card: package blake's three tables as start-up lays them.)
-/
import Derived.Test.YtgfcinlhhofllaaDoorFrame
import Derived.Test.YtgfcinlhhofllaaDoorBlakeSum
import Derived.Test.YtgfcinlhhofllaaDoorBlakeDoor
import Derived.Test.YtgfcinlhhofllaaDoorPlainBlakeKnown
import Derived.Test.YtgfcinlhhofllaaDoorKeepBytes
import Derived.Test.YtgfcinlhhofllaaDoorCards
import Derived.Test.YtgfcinlhhofllaaDoorTie
import Derived.SevenTiedAt
namespace Go.Proofs.YtgfcinlhhofllaaDoor.blakeKnown
open Go.ChangeShapes Go.WideShapes Go.ChangeAt Go.RowKit
open Go.ChangeMaps (open_string shut_string)
open bla

theorem un1 : unhexB (⟨#[53, 48, 56, 99, 53, 101, 56, 99, 51, 50, 55, 99, 49, 52, 101, 50, 101, 49, 97, 55, 50, 98, 97, 51, 52, 101, 101, 98, 52, 53, 50, 102, 51, 55, 52, 53, 56, 98, 50, 48, 57, 101, 100, 54, 51, 97, 50, 57, 52, 100, 57, 57, 57, 98, 52, 99, 56, 54, 54, 55, 53, 57, 56, 50]⟩ : ByteArray) = some v1 := by decide +kernel
theorem un2 : unhexB (⟨#[54, 57, 50, 49, 55, 97, 51, 48, 55, 57, 57, 48, 56, 48, 57, 52, 101, 49, 49, 49, 50, 49, 100, 48, 52, 50, 51, 53, 52, 97, 55, 99, 49, 102, 53, 53, 98, 54, 52, 56, 50, 99, 97, 49, 97, 53, 49, 101, 49, 98, 50, 53, 48, 100, 102, 100, 49, 101, 100, 48, 101, 101, 102, 57]⟩ : ByteArray) = some v2 := by decide +kernel
set_option maxRecDepth 100000 in
set_option maxHeartbeats 800000 in
theorem walk (k : ByteArray) (_ : k.size ≤ maxLen) (s : ByteArray) (hs : s.size ≤ maxLen) (z : Int) (_ : (Lit.int .i64 z).wf = true) (w : World) (hT : Tab w) :
    Calls Tryd.prog 3 #[.string k, .string s, .int .i64 z] w fun e w' => e = .returned (.bool true) ∧ Below w.heap.size w w' := by
  have B1 : Hid (∀ w, Calls Tryd.prog 5 #[.string (⟨#[53, 48, 56, 99, 53, 101, 56, 99, 51, 50, 55, 99, 49, 52, 101, 50, 101, 49, 97, 55, 50, 98, 97, 51, 52, 101, 101, 98, 52, 53, 50, 102, 51, 55, 52, 53, 56, 98, 50, 48, 57, 101, 100, 54, 51, 97, 50, 57, 52, 100, 57, 57, 57, 98, 52, 99, 56, 54, 54, 55, 53, 57, 56, 50]⟩ : ByteArray)] w fun e w' => e = .returned (.string v1) ∧ Below w.heap.size w w') := fun w => bytes_any _ v1 (by decide) un1 w
  have B2 : Hid (∀ w, Calls Tryd.prog 5 #[.string (⟨#[54, 57, 50, 49, 55, 97, 51, 48, 55, 57, 57, 48, 56, 48, 57, 52, 101, 49, 49, 49, 50, 49, 100, 48, 52, 50, 51, 53, 52, 97, 55, 99, 49, 102, 53, 53, 98, 54, 52, 56, 50, 99, 97, 49, 97, 53, 49, 101, 49, 98, 50, 53, 48, 100, 102, 100, 49, 101, 100, 48, 101, 101, 102, 57]⟩ : ByteArray)] w fun e w' => e = .returned (.string v2) ∧ Below w.heap.size w w') := fun w => bytes_any _ v2 (by decide) un2 w
  have F1 : Hid (∀ w', Below w.heap.size w w' → Calls Tryd.prog 4 #[.string ⟨#[]⟩, .string k1, .int .i64 32] w' fun e w'' => e = .returned (.tuple #[.string v1, .int .i64 0]) ∧ Below w'.heap.size w' w'') := fun w' h => by
    have := Sum_good ⟨#[]⟩ k1 32 (by decide) (by decide) (by decide) (by decide) w' (hT.grown h)
    rw [bla_1] at this
    exact this
  have F2 : Hid (∀ w', Below w.heap.size w w' → Calls Tryd.prog 4 #[.string ⟨#[]⟩, .string k2, .int .i64 32] w' fun e w'' => e = .returned (.tuple #[.string v2, .int .i64 0]) ∧ Below w'.heap.size w' w'') := fun w' h => by
    have := Sum_good ⟨#[]⟩ k2 32 (by decide) (by decide) (by decide) (by decide) w' (hT.grown h)
    rw [bla_2] at this
    exact this
  unfold k1 at F1
  unfold k2 at F2
  generalize v1 = y1 at *
  generalize v2 = y2 at *
  have hX : Below w.heap.size w w := Below.refl _ _
  by_cases c1 : z < 1
  · have F3 := Sum_bad k s z (.inl c1)
    have d1 : decide (z < 1) = true := by simp; omega
    go_enter Tryd.func3, Tryd.ntmps3
    go_wp2_with (first
      | (go_at_call 5; (first | (with_reducible refine (B1.out _).mono ?_) | (with_reducible refine (B2.out _).mono ?_)); rintro e wq ⟨rfl, hq⟩; replace hX := hX.trans (hq.mono hX.size); clear hq)
      | (go_at_call 4; (first | (with_reducible refine (F1.out _ hX).mono ?_) | (with_reducible refine (F2.out _ hX).mono ?_)); rintro e wq ⟨rfl, hq⟩; replace hX := hX.trans (hq.mono hX.size); clear hq)
      | (go_at_call 4; (with_reducible refine (F3 _).mono ?_); rintro e wq ⟨rfl, rfl⟩))
    go_ret
    exact ⟨rfl, hX⟩
  · have d1 : decide (z < 1) = false := by simp; omega
    by_cases c2 : 32 < z
    · have F3 := Sum_bad k s z (.inr (.inl c2))
      have d2 : decide (z > 32) = true := by simp; omega
      have d2' : decide (32 < z) = true := by simp; omega
      go_enter Tryd.func3, Tryd.ntmps3
      go_wp2_with (first
        | (go_at_call 5; (first | (with_reducible refine (B1.out _).mono ?_) | (with_reducible refine (B2.out _).mono ?_)); rintro e wq ⟨rfl, hq⟩; replace hX := hX.trans (hq.mono hX.size); clear hq)
        | (go_at_call 4; (first | (with_reducible refine (F1.out _ hX).mono ?_) | (with_reducible refine (F2.out _ hX).mono ?_)); rintro e wq ⟨rfl, hq⟩; replace hX := hX.trans (hq.mono hX.size); clear hq)
        | (go_at_call 4; (with_reducible refine (F3 _).mono ?_); rintro e wq ⟨rfl, rfl⟩))
      go_ret
      exact ⟨rfl, hX⟩
    · have d2 : decide (z > 32) = false := by simp; omega
      have d2' : decide (32 < z) = false := by simp; omega
      by_cases c3 : 32 < k.size
      · have F3 := Sum_bad k s z (.inr (.inr c3))
        have c3' : (32 : Int) < (k.size : Int) := by omega
        have d3 : decide ((k.size : Int) > 32) = true := by simp; omega
        have d3' : decide ((32 : Int) < (k.size : Int)) = true := by simp; omega
        go_enter Tryd.func3, Tryd.ntmps3
        go_wp2_with (first
          | (go_at_call 5; (first | (with_reducible refine (B1.out _).mono ?_) | (with_reducible refine (B2.out _).mono ?_)); rintro e wq ⟨rfl, hq⟩; replace hX := hX.trans (hq.mono hX.size); clear hq)
          | (go_at_call 4; (first | (with_reducible refine (F1.out _ hX).mono ?_) | (with_reducible refine (F2.out _ hX).mono ?_)); rintro e wq ⟨rfl, hq⟩; replace hX := hX.trans (hq.mono hX.size); clear hq)
          | (go_at_call 4; (with_reducible refine (F3 _).mono ?_); rintro e wq ⟨rfl, rfl⟩))
        go_ret
        exact ⟨rfl, hX⟩
      · have c3' : ¬ (32 : Int) < (k.size : Int) := by omega
        have d3 : decide ((k.size : Int) > 32) = false := by simp; omega
        have d3' : decide ((32 : Int) < (k.size : Int)) = false := by simp; omega
        obtain ⟨n, rfl⟩ : ∃ n : Nat, z = (n : Int) := ⟨z.toNat, by omega⟩
        have F3 : ∀ w', Below w.heap.size w w' → Calls Tryd.prog 4 #[.string k, .string s, .int .i64 n] w' fun e w'' => e = .returned (.tuple #[.string (blaT k s n), .int .i64 0]) ∧ Below w'.heap.size w' w'' :=
          fun w' h => Sum_good k s n (by omega) (by omega) (by omega) (by unfold maxLen at hs; omega) w' (hT.grown h)
        have sz := blaT_size k s (show n ≤ 32 by omega)
        generalize blaT k s n = C at *
        have e0 : ((C.size : Int) == (n : Int)) = true := by rw [beq_iff_eq]; omega
        have e1 : (C.size : Int) = (n : Int) := by omega
        go_enter Tryd.func3, Tryd.ntmps3
        go_wp2_with (first
          | (go_at_call 5; (first | (with_reducible refine (B1.out _).mono ?_) | (with_reducible refine (B2.out _).mono ?_)); rintro e wq ⟨rfl, hq⟩; replace hX := hX.trans (hq.mono hX.size); clear hq)
          | (go_at_call 4; (first | (with_reducible refine (F1.out _ hX).mono ?_) | (with_reducible refine (F2.out _ hX).mono ?_)); rintro e wq ⟨rfl, hq⟩; replace hX := hX.trans (hq.mono hX.size); clear hq)
          | (go_at_call 4; (with_reducible refine (F3 _ hX).mono ?_); rintro e wq ⟨rfl, hq⟩; replace hX := hX.trans (hq.mono hX.size); clear hq))
        go_ret
        exact ⟨rfl, hX⟩

/-! ### The row's step -/
set_option maxRecDepth 100000 in
theorem lifted (os : Os) (started : os.Started) (H : Type) (enc : TypeId × Value → H) :
    ReturnsInHanded {} Tryd.checked os 3 .any (fun w args => (Rows.blakeKnownSpec.pre enc Tryd.prog Tryd.f3 [] false w args ∧ laidMetH Tryd.prog laidB w) ∧ sizedMet enc Tryd.prog Tryd.f3 (OpenSpec.ofChange Rows.blakeKnownSpec) false w args)
      (Rows.blakeKnownSpec.post enc Tryd.prog Tryd.f3 false true false false) := by
  refine returnsInHanded_of_change_and (C := Tryd.checked) (X := fun w _ => laidMetH Tryd.prog laidB w) (fun _ _ _ hh h => h.of_heap hh) own started (by kernel_rfl) Tryd.func3
    (ChangeSpec.witness_shaped (enc := enc) (C := Tryd.checked) (os := os) (X := fun w _ => laidMetH Tryd.prog laidB w) false (World.doorLaid Tryd.prog 400 os) #[.string .empty, .string .empty, .int .i64 0] 8 rfl (World.shaped_of_RefB (by kernel_rfl) (by kernel_rfl)) (by kernel_rfl) (by kernel_rfl) (by kernel_rfl) (tabs_met os _)) ?_
  intro W base args ds gs before hval0 hW _ _ hL _
  have hval : ∀ (j : Nat) t v, Tryd.f3.params[j]? = some t → args[j]? = some v → Value.okWide Tryd.prog W .any base t v := hval0
  have hW' := hW
  obtain ⟨p, q, hA0, hV, rfl, hfz, hnd⟩ := hW
  have hA : DataW.TrodAll enc Tryd.prog W 0 (fun _ => true) true Tryd.f3.params.toList args.toList ds p := hA0
  rw [Tryd.params3] at hA hval
  obtain ⟨v0, vs0, d0, ds0, p0, q0, hargs, rfl, rfl, h0, r0⟩ := trodAll_cons hA
  obtain ⟨v1, vs1, d1, ds1, p1, q1, rfl, rfl, rfl, h1, r1⟩ := trodAll_cons r0
  obtain ⟨v2, vs2, d2, ds2, p2, q2, rfl, rfl, rfl, h2, r2⟩ := trodAll_cons r1
  obtain ⟨rfl, rfl, rfl⟩ := trodAll_nil r2
  obtain rfl : args = #[v0, v1, v2] := by cases args; simp_all
  obtain ⟨rfl, rfl⟩ := trodVars_none hV
  obtain ⟨s0, rfl, rfl, rfl, m0⟩ := open_string Tryd.underlying9 (hval 0 9 v0 rfl rfl) h0
  obtain ⟨s1, rfl, rfl, rfl, m1⟩ := open_string Tryd.underlying9 (hval 1 9 v1 rfl rfl) h1
  obtain ⟨s2, rfl, rfl, rfl, m2⟩ := open_int Tryd.underlying3 (hval 2 3 v2 rfl rfl) h2
  clear hA0 hval0
  simp only [List.append_nil] at hW'
  refine (walk s0 m0 s1 m1 s2 m2 W (tabs hL)).mono fun e W' ⟨he, hg⟩ => ?_
  subst he
  exact ⟨_, rfl, _, _, _, [], [], [], hW', trodAll_cons_mk (shut_bool Tryd.underlying4 _) trodAll_mk0, (trodAll_cons_mk (shut_string Tryd.underlying9 m0) (trodAll_cons_mk (shut_string Tryd.underlying9 m1) (trodAll_cons_mk (shut_int Tryd.underlying3 m2) trodAll_mk0))), rfl, hg.frame _, fun h => by cases h⟩

/-- THE ROW. -/
theorem row : Rows.BlakeKnownSaid :=
  OpenClaim.holds_of_wide 3 Tryd.f3 rfl rfl rfl rfl rfl rfl rfl ⟨rfl, rfl, rfl, rfl, rfl⟩ rfl rfl rfl rfl rfl (by kernel_rfl) Tryd.func3 (by kernel_rfl)
    (of_decide_eq_true (by kernel_rfl)) (by unfold Func.isWrapper; first | (rw [if_pos (by decide +kernel)]; kernel_rfl) | (rw [if_neg (by decide +kernel)]; exact ⟨rfl, rfl⟩))
    (fun os started H enc _ => lifted os started H enc)

/-- THE STATEMENT: the tied card. -/
theorem proved : Rows.BlakeKnownCardSaid :=
  Claim7.holds_tied_plain_at .later [] [.data, .data, .data] true (true, "cd503956581a77c28c8579f324424e8ab81f1b6a954f75765ec8048f3fe47bfc") false
    row (fun _ h => by cases h) (by kernel_rfl) (fun _ h => by cases h) blakeKnown_row_tie rfl ⟨rfl, rfl⟩ (by kernel_rfl) rfl
    (fun f fn hf hfn => by
      obtain rfl : f = 3 := Option.some.inj ((show Tryd.prog.funcNamed "souterrain/souterrainkeep.BlakeKnown" = some 3 by kernel_rfl).symm.trans hf) |>.symm
      obtain rfl : fn = Tryd.f3 := (Option.some.inj (Tryd.func3.symm.trans hfn)).symm
      exact ⟨by kernel_rfl, fun j t ht => by
        rw [Tryd.params3] at ht
        have hm : t ∈ [9, 3] := by simpa using Array.mem_of_getElem? ht
        have hall : ([9, 3].all fun u => !Tryd.prog.wantsStandIn u) = true := by kernel_rfl
        exact (show Tryd.prog.wantsStandIn t = false by simpa using List.all_eq_true.1 hall t hm)⟩)
    (by kernel_rfl)
end Go.Proofs.YtgfcinlhhofllaaDoor.blakeKnown
