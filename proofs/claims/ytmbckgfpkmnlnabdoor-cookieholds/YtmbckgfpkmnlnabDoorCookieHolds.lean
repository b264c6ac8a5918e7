/-
  CookieHolds: whatever a secret, a place and three numbers, the call returns true: a cookie is the same for as long as it holds, for one who is at one place; a time below 0 is refused. (The tied card: package blake's three tables as start-up lays them.)
-/
import Derived.Test.YtmbckgfpkmnlnabDoorFrame
import Derived.Test.YtmbckgfpkmnlnabDoorCookieMake
import Derived.Test.YtmbckgfpkmnlnabDoorKeepRest
import Derived.Test.YtmbckgfpkmnlnabDoorBlakeDoor
import Derived.Test.YtmbckgfpkmnlnabDoorCards
import Derived.Test.YtmbckgfpkmnlnabDoorTie
import Derived.SevenTiedAt
import Derived.SizedLaws
namespace Go.Proofs.YtmbckgfpkmnlnabDoor.cookieHolds
open Go.ChangeShapes Go.WideShapes Go.ChangeAt Go.RowKit
open Go.ChangeMaps (open_string shut_string)
open coo
open Go.Proofs.YtmbckgfpkmnlnabDoor.bla (Tab laidB tabs tabs_met)

theorem i64_bd {n : Int} (h : (Lit.int .i64 n).wf = true) : -9223372036854775808 ≤ n ∧ n ≤ 9223372036854775807 := by
  simp [Lit.wf] at h
  have h0 : IntKind.i64.min = -9223372036854775808 := rfl
  have h1 : IntKind.i64.max = 9223372036854775807 := rfl
  omega
set_option maxRecDepth 100000 in
set_option maxHeartbeats 3200000 in
theorem walk (s : ByteArray) (hs : s.size ≤ reachBytes) (f : Int) (hf : (Lit.int .u32 f).wf = true) (n : Int) (hn : (Lit.int .i64 n).wf = true) (a : Int) (ha : (Lit.int .i64 a).wf = true) (b : Int) (hb : (Lit.int .i64 b).wf = true) (w : World) (hT : Tab w) :
    Calls Tryd.prog 4 #[.string s, .int .u32 f, .int .i64 n, .int .i64 a, .int .i64 b] w fun e w' => e = .returned (.bool true) ∧ Below w.heap.size w w' := by
  have hm : reachBytes ≤ maxLen := by decide
  have bf := u32_bd hf
  obtain ⟨F, rfl⟩ : ∃ F : Nat, f = (F : Int) := ⟨f.toNat, by omega⟩
  have g1 : ∀ W, Calls Tryd.prog 5 #[.string s, .int .i64 32] W fun e w' => e = .returned (.string (sz s 32)) ∧ Below W.heap.size W w' := sized_any s 32 (by omega) (by decide)
  have g2 : ∀ W, Calls Tryd.prog 9 #[.int .i64 n, .int .i64 1073741824] W fun e w' => e = .returned (.int .i64 (((n % 1073741824).toNat : Nat) : Int)) ∧ w' = W := rest_any n 1073741824 (by decide) (by decide) (i64_bd hn)
  have g3 : ∀ W, Calls Tryd.prog 9 #[.int .i64 a, .int .i64 120] W fun e w' => e = .returned (.int .i64 (((a % 120).toNat : Nat) : Int)) ∧ w' = W := rest_any a 120 (by decide) (by decide) (i64_bd ha)
  have g4 : ∀ W, Calls Tryd.prog 9 #[.int .i64 b, .int .i64 120] W fun e w' => e = .returned (.int .i64 (((b % 120).toNat : Nat) : Int)) ∧ w' = W := rest_any b 120 (by decide) (by decide) (i64_bd hb)
  obtain ⟨N, hN⟩ : ∃ N, N = (n % 1073741824).toNat := ⟨_, rfl⟩
  obtain ⟨A, hA⟩ : ∃ A, A = (a % 120).toNat := ⟨_, rfl⟩
  obtain ⟨B, hB⟩ : ∃ B, B = (b % 120).toNat := ⟨_, rfl⟩
  have N1 : N < 1073741824 := by omega
  have A1 : A < 120 := by omega
  have B1 : B < 120 := by omega
  rw [← hN] at g2
  rw [← hA] at g3
  rw [← hB] at g4
  have s1 := sz_size s 32
  clear hN hA hB hs hf hn ha hb hm
  generalize sz s 32 = S at *
  have f1 : ∀ W, Below w.heap.size w W → _ := fun W h => Make_good S F N A s1 (by omega) N1 A1 W (hT.grown h)
  have f2 : ∀ W, Below w.heap.size w W → _ := fun W h => Make_good S F N B s1 (by omega) N1 B1 W (hT.grown h)
  have f3 := Make_neg S F s1
  have z1 : ((mk S (toldT N 8 ++ toldT F 4)).size : Int) = 16 := by rw [mk_size]; rfl
  generalize mk S (toldT N 8 ++ toldT F 4) = X at *
  obtain ⟨U, hU⟩ : ∃ U, U = 120 * N + A := ⟨_, rfl⟩
  obtain ⟨V, hV⟩ : ∃ V, V = 120 * N + B := ⟨_, rfl⟩
  rw [← hU] at f1
  rw [← hV] at f2
  have N2 : (N : Int) < 1073741824 := by omega
  have A2 : (A : Int) < 120 := by omega
  have B2 : (B : Int) < 120 := by omega
  have e1 : 120 * (N : Int) + (A : Int) = (U : Int) := by omega
  have e2 : 120 * (N : Int) + (B : Int) = (V : Int) := by omega
  have c0 : IntKind.i64.wrap (120 * (N : Int)) = 120 * (N : Int) := IntWalk.i64_in _ ⟨by omega, by omega⟩
  have c1 : IntKind.i64.wrap (U : Int) = (U : Int) := IntWalk.i64_in _ ⟨by omega, by omega⟩
  have c2 : IntKind.i64.wrap (V : Int) = (V : Int) := IntWalk.i64_in _ ⟨by omega, by omega⟩
  have hX : Below w.heap.size w w := Below.refl _ _
  clear hT hU hV s1 bf
  go_enter Tryd.func4, Tryd.ntmps4
  go_wp2_with (first
    | (go_at_call 5; (with_reducible refine (g1 _).mono ?_); rintro e wq ⟨rfl, hq⟩; replace hX := hX.trans (hq.mono hX.size); clear hq)
    | (go_at_call 9; (first | (with_reducible refine (g2 _).mono ?_) | (with_reducible refine (g3 _).mono ?_) | (with_reducible refine (g4 _).mono ?_)); rintro e wq ⟨rfl, rfl⟩)
    | (go_at_call 10; (first | (with_reducible refine (f1 _ hX).mono ?_) | (with_reducible refine (f2 _ hX).mono ?_)); rintro e wq ⟨rfl, hq⟩; replace hX := hX.trans (hq.mono hX.size); clear hq)
    | (go_at_call 10; (with_reducible refine (f3 _).mono ?_); rintro e wq ⟨rfl, rfl⟩))
  go_ret
  exact ⟨rfl, hX⟩

/-! ### The row's step -/
set_option maxRecDepth 100000 in
theorem lifted (os : Os) (started : os.Started) (H : Type) (enc : TypeId × Value → H) :
    ReturnsInHanded {} Tryd.checked os 4 .any (fun w args => (Rows.cookieHoldsSpec.pre enc Tryd.prog Tryd.f4 [] false w args ∧ laidMetH Tryd.prog laidB w) ∧ sizedMet enc Tryd.prog Tryd.f4 (OpenSpec.ofChange Rows.cookieHoldsSpec) false w args)
      (Rows.cookieHoldsSpec.post enc Tryd.prog Tryd.f4 false true false false) := by
  refine returnsInHanded_of_change_and (C := Tryd.checked) (X := fun w _ => laidMetH Tryd.prog laidB w) (fun _ _ _ hh h => h.of_heap hh) own started (by kernel_rfl) Tryd.func4
    (ChangeSpec.witness_shaped (enc := enc) (C := Tryd.checked) (os := os) (X := fun w _ => laidMetH Tryd.prog laidB w) false (World.doorLaid Tryd.prog 400 os) #[.string .empty, .int .u32 0, .int .i64 0, .int .i64 0, .int .i64 0] 8 rfl (World.shaped_of_RefB (by kernel_rfl) (by kernel_rfl)) (by kernel_rfl) (by kernel_rfl) (by kernel_rfl) (tabs_met os _)) ?_
  intro W base args ds gs before hval0 hW _ hz hL _
  have hval : ∀ (j : Nat) t v, Tryd.f4.params[j]? = some t → args[j]? = some v → Value.okWide Tryd.prog W .any base t v := hval0
  have hW' := hW
  obtain ⟨p, q, hA0, hV, rfl, hfz, hnd⟩ := hW
  have hA : DataW.TrodAll enc Tryd.prog W 0 (fun _ => true) true Tryd.f4.params.toList args.toList ds p := hA0
  rw [Tryd.params4] at hA hval
  obtain ⟨v0, vs0, d0, ds0, p0, q0, hargs, rfl, rfl, h0, r0⟩ := trodAll_cons hA
  obtain ⟨v1, vs1, d1, ds1, p1, q1, rfl, rfl, rfl, h1, r1⟩ := trodAll_cons r0
  obtain ⟨v2, vs2, d2, ds2, p2, q2, rfl, rfl, rfl, h2, r2⟩ := trodAll_cons r1
  obtain ⟨v3, vs3, d3, ds3, p3, q3, rfl, rfl, rfl, h3, r3⟩ := trodAll_cons r2
  obtain ⟨v4, vs4, d4, ds4, p4, q4, rfl, rfl, rfl, h4, r4⟩ := trodAll_cons r3
  obtain ⟨rfl, rfl, rfl⟩ := trodAll_nil r4
  obtain rfl : args = #[v0, v1, v2, v3, v4] := by cases args; simp_all
  obtain ⟨rfl, rfl⟩ := trodVars_none hV
  obtain ⟨s0, rfl, rfl, rfl, m0⟩ := open_string Tryd.underlying9 (hval 0 9 v0 rfl rfl) h0
  obtain ⟨s1, rfl, rfl, rfl, m1⟩ := open_int Tryd.underlying28 (hval 1 28 v1 rfl rfl) h1
  obtain ⟨s2, rfl, rfl, rfl, m2⟩ := open_int Tryd.underlying3 (hval 2 3 v2 rfl rfl) h2
  obtain ⟨s3, rfl, rfl, rfl, m3⟩ := open_int Tryd.underlying3 (hval 3 3 v3 rfl rfl) h3
  obtain ⟨s4, rfl, rfl, rfl, m4⟩ := open_int Tryd.underlying3 (hval 4 3 v4 rfl rfl) h4
  have z0 : s0.size ≤ reachBytes := by
    have h := sized_string hz (j := 0) (t := 9) (by rw [Tryd.params4]; rfl) rfl
    rwa [Array.length_toList] at h
  clear hA0 hval0 hz
  simp only [List.append_nil] at hW'
  refine (walk s0 z0 s1 m1 s2 m2 s3 m3 s4 m4 W (tabs hL)).mono fun e W' ⟨he, hg⟩ => ?_
  subst he
  exact ⟨_, rfl, _, _, _, [], [], [], hW', trodAll_cons_mk (shut_bool Tryd.underlying4 _) trodAll_mk0, (trodAll_cons_mk (shut_string Tryd.underlying9 m0) (trodAll_cons_mk (shut_int Tryd.underlying28 m1) (trodAll_cons_mk (shut_int Tryd.underlying3 m2) (trodAll_cons_mk (shut_int Tryd.underlying3 m3) (trodAll_cons_mk (shut_int Tryd.underlying3 m4) trodAll_mk0))))), rfl, hg.frame _, fun h => by cases h⟩

/-- THE ROW. -/
theorem row : Rows.CookieHoldsSaid :=
  OpenClaim.holds_of_wide 4 Tryd.f4 rfl rfl rfl rfl rfl rfl rfl ⟨rfl, rfl, rfl, rfl, rfl⟩ rfl rfl rfl rfl rfl (by kernel_rfl) Tryd.func4 (by kernel_rfl)
    (of_decide_eq_true (by kernel_rfl)) (by unfold Func.isWrapper; first | (rw [if_pos (by decide +kernel)]; kernel_rfl) | (rw [if_neg (by decide +kernel)]; exact ⟨rfl, rfl⟩))
    (fun os started H enc _ => lifted os started H enc)

/-- THE STATEMENT: the tied card. -/
theorem proved : Rows.CookieHoldsCardSaid :=
  Claim7.holds_tied_plain_at .later [] [.data, .data, .data] true (true, "d14a42abdfa936150f0aa3829e7bea75a8e2925d118d8f1eb362d09489ffebd5") false
    row (fun _ h => by cases h) (by kernel_rfl) (fun _ h => by cases h) cookieHolds_row_tie rfl ⟨rfl, rfl⟩ (by kernel_rfl) rfl
    (fun f fn hf hfn => by
      obtain rfl : f = 4 := Option.some.inj ((show Tryd.prog.funcNamed "souterrain/souterrainkeep.CookieHolds" = some 4 by kernel_rfl).symm.trans hf) |>.symm
      obtain rfl : fn = Tryd.f4 := (Option.some.inj (Tryd.func4.symm.trans hfn)).symm
      exact ⟨by kernel_rfl, fun j t ht => by
        rw [Tryd.params4] at ht
        have hm : t ∈ [9, 28, 3, 3, 3] := by simpa using Array.mem_of_getElem? ht
        have hall : ([9, 28, 3, 3, 3].all fun u => !Tryd.prog.wantsStandIn u) = true := by kernel_rfl
        exact (show Tryd.prog.wantsStandIn t = false by simpa using List.all_eq_true.1 hall t hm)⟩)
    (by kernel_rfl)
end Go.Proofs.YtmbckgfpkmnlnabDoor.cookieHolds
