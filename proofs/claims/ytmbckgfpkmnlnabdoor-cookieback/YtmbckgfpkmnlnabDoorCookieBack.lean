/-
  CookieBack: whatever four texts are handed in, the call returns true: who is sent a cookie has it. (The tied card: package blake's three tables as start-up lays them.)
-/
import Derived.Test.YtmbckgfpkmnlnabDoorBundle1
import Derived.Test.YtmbckgfpkmnlnabDoorBundle5
import Derived.Test.YtmbckgfpkmnlnabDoorCookieAccept
import Derived.Test.YtmbckgfpkmnlnabDoorBlakeDoor
import Derived.Test.YtmbckgfpkmnlnabDoorCards
import Derived.Test.YtmbckgfpkmnlnabDoorTie
import Derived.SevenTiedAt
import Derived.SizedLaws
namespace Go.Proofs.YtmbckgfpkmnlnabDoor.cookieBack
open Go.ChangeShapes Go.WideShapes Go.ChangeAt Go.RowKit
open Go.ChangeMaps (open_string shut_string)
open coo
open Go.Proofs.YtmbckgfpkmnlnabDoor.bla (Tab laidB tabs tabs_met)

set_option maxRecDepth 100000 in
set_option maxHeartbeats 3200000 in
theorem walk (p : ByteArray) (hp : p.size ≤ reachBytes) (n : ByteArray) (hn : n.size ≤ reachBytes) (c : ByteArray) (hc : c.size ≤ reachBytes) (t : ByteArray) (ht : t.size ≤ reachBytes) (w : World) (hT : Tab w) :
    Calls Tryd.prog 3 #[.string p, .string n, .string c, .string t] w fun e w' => e = .returned (.bool true) ∧ Below w.heap.size w w' := by
  have hr : reachBytes ≤ 140737488355328 := by decide
  have hm : reachBytes ≤ maxLen := by decide
  have g1 : ∀ W, Calls Tryd.prog 5 #[.string p, .int .i64 32] W fun e w' => e = .returned (.string (sz p 32)) ∧ Below W.heap.size W w' := sized_any p 32 (by omega) (by decide)
  have g2 : ∀ W, Calls Tryd.prog 5 #[.string n, .int .i64 24] W fun e w' => e = .returned (.string (sz n 24)) ∧ Below W.heap.size W w' := sized_any n 24 (by omega) (by decide)
  have g3 : ∀ W, Calls Tryd.prog 5 #[.string c, .int .i64 16] W fun e w' => e = .returned (.string (sz c 16)) ∧ Below W.heap.size W w' := sized_any c 16 (by omega) (by decide)
  have g4 : ∀ W, Calls Tryd.prog 5 #[.string t, .int .i64 6] W fun e w' => e = .returned (.string (sz t 6)) ∧ Below W.heap.size W w' := sized_any t 6 (by omega) (by decide)
  have s1 := sz_size p 32
  have s2 := sz_size n 24
  have s3 := sz_size c 16
  have s4 := sz_size t 6
  have ht' : t.size ≤ 140737488355328 := by omega
  clear hp hn hc ht hr hm
  generalize sz p 32 = P at *
  generalize sz n 24 = N at *
  generalize sz c 16 = C at *
  generalize sz t 6 = T at *
  have sT : (T ++ t).size = T.size + t.size := ByteArray.size_append
  have f1 : ∀ W, Below w.heap.size w W → _ := fun W h => Mark_good P ⟨#[]⟩ (T ++ t) s1 (.inl rfl) (by omega) W (hT.grown h)
  have f2 : ∀ W, Below w.heap.size w W → _ := fun W h => Reply_good P N C ⟨#[]⟩ (T ++ t) s1 s2 s3 (by omega) (by omega) W (hT.grown h)
  have f3 : ∀ W, Below w.heap.size w W → _ := fun W h => Accept_good P N C ⟨#[]⟩ (T ++ t) s1 s2 s3 (by omega) (by omega) W (hT.grown h)
  have z0 := marked_size P ⟨#[]⟩ (T ++ t)
  have z1 : ((rep P N C (marked P ⟨#[]⟩ (T ++ t)) (m1 P (T ++ t))).size : Int) = 62 := by rw [rep_size _ _ _ _ _ (by omega) s2 s3]; rfl
  have n1 : T.size + t.size ≤ 140737488355400 := by omega
  clear hT s1 s2 s3 s4 z0 sT
  generalize rep P N C (marked P ⟨#[]⟩ (T ++ t)) (m1 P (T ++ t)) = R at *
  generalize marked P ⟨#[]⟩ (T ++ t) = M at *
  have hX : Below w.heap.size w w := Below.refl _ _
  go_enter Tryd.func3, Tryd.ntmps3
  go_wp2_with (first
    | (go_at_call 5; (first | (with_reducible refine (g1 _).mono ?_) | (with_reducible refine (g2 _).mono ?_) | (with_reducible refine (g3 _).mono ?_) | (with_reducible refine (g4 _).mono ?_)); rintro e wq ⟨rfl, hq⟩; replace hX := hX.trans (hq.mono hX.size); clear hq)
    | (go_at_call 6; (with_reducible refine (f1 _ hX).mono ?_); rintro e wq ⟨rfl, hq⟩; replace hX := hX.trans (hq.mono hX.size); clear hq)
    | (go_at_call 7; (with_reducible refine (f2 _ hX).mono ?_); rintro e wq ⟨rfl, hq⟩; replace hX := hX.trans (hq.mono hX.size); clear hq)
    | (go_at_call 8; (with_reducible refine (f3 _ hX).mono ?_); rintro e wq ⟨rfl, hq⟩; replace hX := hX.trans (hq.mono hX.size); clear hq))
  go_ret
  exact ⟨rfl, hX⟩

/-! ### The row's step -/
set_option maxRecDepth 100000 in
theorem lifted (os : Os) (started : os.Started) (H : Type) (enc : TypeId × Value → H) :
    ReturnsInHanded {} Tryd.checked os 3 .any (fun w args => (Rows.cookieBackSpec.pre enc Tryd.prog Tryd.f3 [] false w args ∧ laidMetH Tryd.prog laidB w) ∧ sizedMet enc Tryd.prog Tryd.f3 (OpenSpec.ofChange Rows.cookieBackSpec) false w args)
      (Rows.cookieBackSpec.post enc Tryd.prog Tryd.f3 false true false false) := by
  refine returnsInHanded_of_change_and (C := Tryd.checked) (X := fun w _ => laidMetH Tryd.prog laidB w) (fun _ _ _ hh h => h.of_heap hh) own started (by kernel_rfl) Tryd.func3
    (ChangeSpec.witness_shaped (enc := enc) (C := Tryd.checked) (os := os) (X := fun w _ => laidMetH Tryd.prog laidB w) false (World.doorLaid Tryd.prog 400 os) #[.string .empty, .string .empty, .string .empty, .string .empty] 8 rfl (World.shaped_of_RefB (by kernel_rfl) (by kernel_rfl)) (by kernel_rfl) (by kernel_rfl) (by kernel_rfl) (tabs_met os _)) ?_
  intro W base args ds gs before hval0 hW _ hz hL _
  have hval : ∀ (j : Nat) t v, Tryd.f3.params[j]? = some t → args[j]? = some v → Value.okWide Tryd.prog W .any base t v := hval0
  have hW' := hW
  obtain ⟨p, q, hA0, hV, rfl, hfz, hnd⟩ := hW
  have hA : DataW.TrodAll enc Tryd.prog W 0 (fun _ => true) true Tryd.f3.params.toList args.toList ds p := hA0
  rw [Tryd.params3] at hA hval
  obtain ⟨v0, vs0, d0, ds0, p0, q0, hargs, rfl, rfl, h0, r0⟩ := trodAll_cons hA
  obtain ⟨v1, vs1, d1, ds1, p1, q1, rfl, rfl, rfl, h1, r1⟩ := trodAll_cons r0
  obtain ⟨v2, vs2, d2, ds2, p2, q2, rfl, rfl, rfl, h2, r2⟩ := trodAll_cons r1
  obtain ⟨v3, vs3, d3, ds3, p3, q3, rfl, rfl, rfl, h3, r3⟩ := trodAll_cons r2
  obtain ⟨rfl, rfl, rfl⟩ := trodAll_nil r3
  obtain rfl : args = #[v0, v1, v2, v3] := by cases args; simp_all
  obtain ⟨rfl, rfl⟩ := trodVars_none hV
  obtain ⟨s0, rfl, rfl, rfl, m0⟩ := open_string Tryd.underlying9 (hval 0 9 v0 rfl rfl) h0
  obtain ⟨s1, rfl, rfl, rfl, m1⟩ := open_string Tryd.underlying9 (hval 1 9 v1 rfl rfl) h1
  obtain ⟨s2, rfl, rfl, rfl, m2⟩ := open_string Tryd.underlying9 (hval 2 9 v2 rfl rfl) h2
  obtain ⟨s3, rfl, rfl, rfl, m3⟩ := open_string Tryd.underlying9 (hval 3 9 v3 rfl rfl) h3
  have z0 : s0.size ≤ reachBytes := by
    have h := sized_string hz (j := 0) (t := 9) (by rw [Tryd.params3]; rfl) rfl
    rwa [Array.length_toList] at h
  have z1 : s1.size ≤ reachBytes := by
    have h := sized_string hz (j := 1) (t := 9) (by rw [Tryd.params3]; rfl) rfl
    rwa [Array.length_toList] at h
  have z2 : s2.size ≤ reachBytes := by
    have h := sized_string hz (j := 2) (t := 9) (by rw [Tryd.params3]; rfl) rfl
    rwa [Array.length_toList] at h
  have z3 : s3.size ≤ reachBytes := by
    have h := sized_string hz (j := 3) (t := 9) (by rw [Tryd.params3]; rfl) rfl
    rwa [Array.length_toList] at h
  clear hA0 hval0 hz
  simp only [List.append_nil] at hW'
  refine (walk s0 z0 s1 z1 s2 z2 s3 z3 W (tabs hL)).mono fun e W' ⟨he, hg⟩ => ?_
  subst he
  exact ⟨_, rfl, _, _, _, [], [], [], hW', trodAll_cons_mk (shut_bool Tryd.underlying4 _) trodAll_mk0, (trodAll_cons_mk (shut_string Tryd.underlying9 m0) (trodAll_cons_mk (shut_string Tryd.underlying9 m1) (trodAll_cons_mk (shut_string Tryd.underlying9 m2) (trodAll_cons_mk (shut_string Tryd.underlying9 m3) trodAll_mk0)))), rfl, hg.frame _, fun h => by cases h⟩

/-- THE ROW. -/
theorem row : Rows.CookieBackSaid :=
  OpenClaim.holds_of_wide 3 Tryd.f3 rfl rfl rfl rfl rfl rfl rfl ⟨rfl, rfl, rfl, rfl, rfl⟩ rfl rfl rfl rfl rfl (by kernel_rfl) Tryd.func3 (by kernel_rfl)
    (of_decide_eq_true (by kernel_rfl)) (by unfold Func.isWrapper; first | (rw [if_pos (by decide +kernel)]; kernel_rfl) | (rw [if_neg (by decide +kernel)]; exact ⟨rfl, rfl⟩))
    (fun os started H enc _ => lifted os started H enc)

/-- THE STATEMENT: the tied card. -/
theorem proved : Rows.CookieBackCardSaid :=
  Claim7.holds_tied_plain_at .later [] [.data, .data, .data] true (true, "d14a42abdfa936150f0aa3829e7bea75a8e2925d118d8f1eb362d09489ffebd5") false
    row (fun _ h => by cases h) (by kernel_rfl) (fun _ h => by cases h) cookieBack_row_tie rfl ⟨rfl, rfl⟩ (by kernel_rfl) rfl
    (fun f fn hf hfn => by
      obtain rfl : f = 3 := Option.some.inj ((show Tryd.prog.funcNamed "souterrain/souterrainkeep.CookieBack" = some 3 by kernel_rfl).symm.trans hf) |>.symm
      obtain rfl : fn = Tryd.f3 := (Option.some.inj (Tryd.func3.symm.trans hfn)).symm
      exact ⟨by kernel_rfl, fun j t ht => by
        rw [Tryd.params3] at ht
        have hm : t ∈ [9, 9, 9, 9] := by simpa using Array.mem_of_getElem? ht
        have hall : ([9, 9, 9, 9].all fun u => !Tryd.prog.wantsStandIn u) = true := by kernel_rfl
        exact (show Tryd.prog.wantsStandIn t = false by simpa using List.all_eq_true.1 hall t hm)⟩)
    (by kernel_rfl)
end Go.Proofs.YtmbckgfpkmnlnabDoor.cookieBack
