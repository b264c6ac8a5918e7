/-
  KdfFirst: whatever a suite, a key and a text, the call returns true: fewer keys are the first ones of more; each has 32 bytes. (The tied card: package blake's three tables and package sha's roots as start-up lays them.)
-/
import Derived.Test.YtfpknemoaplhdaaDoorFrame
import Derived.Test.YtfpknemoaplhdaaDoorKdfFace
import Derived.Test.YtfpknemoaplhdaaDoorKdfDoor
import Derived.Test.YtfpknemoaplhdaaDoorKeepRest
import Derived.Test.YtfpknemoaplhdaaDoorCards
import Derived.Test.YtfpknemoaplhdaaDoorTie
import Derived.SevenTiedAt
import Derived.SizedLaws
namespace Go.Proofs.YtfpknemoaplhdaaDoor.kdfFirst
open Go.ChangeShapes Go.WideShapes Go.ChangeAt Go.RowKit
open Go.ChangeMaps (open_string shut_string)
open kdf

theorem i64_bd {n : Int} (h : (Lit.int .i64 n).wf = true) : -9223372036854775808 ≤ n ∧ n ≤ 9223372036854775807 := by
  simp [Lit.wf] at h
  have h0 : IntKind.i64.min = -9223372036854775808 := rfl
  have h1 : IntKind.i64.max = 9223372036854775807 := rfl
  omega
set_option maxHeartbeats 400000 in
/-- Two lists of the same texts. -/
theorem eq_strs (ba bb n ca cb : Nat) (f : Nat → ByteArray) (hn : n ≤ 1073741824) (w : World)
    (ha : ∀ j, j < n → w.cell? ⟨ba, j, none⟩ = some (.string (f j))) (hb : ∀ j, j < n → w.cell? ⟨bb, j, none⟩ = some (.string (f j))) :
    Calls Tryd.prog 13 #[.slice (some ⟨ba, 0, none⟩) n ca, .slice (some ⟨bb, 0, none⟩) n cb] w fun e w' => e = .returned (.bool true) ∧ w' = w := by
  go_enter Tryd.func13, Tryd.ntmps13
  go_wp2
  go_loop [14] (fun i => ∃ k : Nat, k ≤ n ∧ i = .int .i64 k) (fun i => n - (intOf i).toNat)
  case atStart => exact ⟨0, Nat.zero_le _, rfl⟩
  case round =>
    obtain ⟨k, hk, rfl⟩ := hrel
    by_cases hlt : k < n
    · have h1 := ha k hlt
      have h2 := hb k hlt
      clear ha hb
      go_wp2
      go_round
      case rel => exact ⟨k + 1, by omega, by go_num⟩
      case measure => simp [intOf]; omega
    · clear ha hb
      go_wp2
      go_ret
      exact ⟨rfl, rfl⟩
theorem sl_n (b n : Nat) (hn : n ≤ 3) (u : World) : (Instr.slice 32 (.slice (some ⟨b, 0, none⟩) 3 3) none (some (.int .i64 (n : Nat))) none).run Tryd.prog u = .ok (.slice (some ⟨b, 0, none⟩) n 3) u := by
  obtain ⟨j0, hj, _, _, _⟩ := info_parts infoSTR
  simp [Instr.slice, run_underlying Tryd.underlying32, Instr.sliceBounds, Instr.sliceBound, asIntOf, sizeOf, typeInfo, hj, Addr.add_mid, hn]
set_option maxRecDepth 100000 in
set_option maxHeartbeats 1600000 in
theorem walk (z : Int) (hz : (Lit.int .i64 z).wf = true) (k : ByteArray) (hk : k.size ≤ reachBytes) (s : ByteArray) (hs : s.size ≤ reachBytes) (w : World) (hT : Tab w) :
    Calls Tryd.prog 5 #[.int .i64 z, .string k, .string s] w fun e w' => e = .returned (.bool true) ∧ Below w.heap.size w w' := by
  have hr : reachBytes < 140737488355328 := by decide
  have hk' : k.size < 140737488355328 := by omega
  have hs' : s.size < 140737488355328 := by omega
  have bz := i64_bd hz
  clear hk hs hz hr
  have g1 : ∀ W, Calls Tryd.prog 9 #[.int .i64 z, .int .i64 2] W fun e w' => e = .returned (.int .i64 (((z % 2).toNat : Nat) : Int)) ∧ w' = W := rest_any z 2 (by decide) (by decide) bz
  obtain ⟨r, hr⟩ : ∃ r, r = (z % 2).toNat := ⟨_, rfl⟩
  have r2 : r < 2 := by omega
  rw [← hr] at g1
  clear hr bz
  obtain ⟨u, hu⟩ : ∃ u : Nat, u = r + 1 := ⟨_, rfl⟩
  have f1 : ∀ W, Below w.heap.size w W → Calls Tryd.prog 6 #[.int .i64 (u : Nat), .string k, .string s] W fun e w' => e = .returned (.tuple #[.string (macT (dg r) k s), .int .i64 0]) ∧ Below W.heap.size W w' := fun W h => by
    rw [hu]; exact Mac_any r r2 k s (by omega) (by omega) W (hT.grown h)
  have z1 : (macT (dg r) k s).size = 32 := macT_size (dg_size r) _ _
  have f2 : ∀ W, Below w.heap.size w W → Calls Tryd.prog 6 #[.int .i64 (u : Nat), .string (macT (dg r) k s), .string ⟨#[1]⟩] W fun e w' => e = .returned (.tuple #[.string (ky (dg r) (macT (dg r) k s) 1), .int .i64 0]) ∧ Below W.heap.size W w' := fun W h => by
    rw [hu]; exact Mac_any r r2 (macT (dg r) k s) ⟨#[1]⟩ (by omega) (by decide) W (hT.grown h)
  have f3 : ∀ n, 1 ≤ n → n ≤ 3 → ∀ W, Below w.heap.size w W → Calls Tryd.prog 12 #[.int .i64 (u : Nat), .string k, .string s, .int .i64 (n : Nat)] W fun e w' =>
      (∃ b, e = .returned (.tuple #[.slice (some ⟨b, 0, none⟩) n n, .int .i64 0]) ∧ W.heap.size ≤ b ∧ Keys (dg r) (macT (dg r) k s) n b w') ∧ Below W.heap.size W w' := fun n n1 n3 W h => by
    rw [hu]; exact Derive_any r r2 k s (by omega) (by omega) n n1 n3 W (hT.grown h)
  have f3a : ∀ W, Below w.heap.size w W → Calls Tryd.prog 12 #[.int .i64 (u : Nat), .string k, .string s, .int .i64 3] W fun e w' =>
      (∃ b, e = .returned (.tuple #[.slice (some ⟨b, 0, none⟩) 3 3, .int .i64 0]) ∧ W.heap.size ≤ b ∧ Keys (dg r) (macT (dg r) k s) 3 b w') ∧ Below W.heap.size W w' := f3 3 (by decide) (by decide)
  have y1 : (ky (dg r) (macT (dg r) k s) 1).size = 32 := dg_size r _
  have y3 : (ky (dg r) (macT (dg r) k s) 3).size = 32 := dg_size r _
  generalize macT (dg r) k s = P at *
  have s0 : 1 + (r : Int) = (u : Int) := by omega
  have s0w : IntKind.i64.wrap (1 + (r : Int)) = (u : Int) := by rw [IntWalk.i64_in _ ⟨by omega, by omega⟩]; omega
  have s2 : IntKind.i64.wrap (u : Int) = (u : Int) := IntWalk.i64_in _ ⟨by omega, by omega⟩
  have hX : Below w.heap.size w w := Below.refl _ _
  clear hT hu
  have y1' : ((ky (dg r) P 1).size : Int) = 32 := by omega
  have y3' : ((ky (dg r) P 3).size : Int) = 32 := by omega
  generalize dg r = D at *
  go_enter Tryd.func5, Tryd.ntmps5
  go_wp2_with (first
    | (go_at_call 9; (with_reducible refine (g1 _).mono ?_); rintro e wq ⟨rfl, hq⟩; have hq := hq.symm; subst hq)
    | (go_at_call 12; (with_reducible refine (f3a _ hX).mono ?_); rintro e wq ⟨⟨b, rfl, hb, hK⟩, hq⟩; replace hX := hX.trans (hq.mono hX.size); clear hq; have q1 := hK.cell 0 (by decide); have q3 := hK.cell 2 (by decide)))
  clear g1 q1 q3 f3a
  go_loopw [9] (fun i wr => ∃ n : Nat, 1 ≤ n ∧ n ≤ 3 ∧ i = .int .i64 n ∧ Keys D P 3 b wr ∧ Below w.heap.size w wr) (fun i _ => 3 - (intOf i).toNat)
  case atStart => exact ⟨1, by omega, by omega, rfl, hK, hX⟩
  case round =>
    clear hX hK
    obtain ⟨n, n1, n3, rfl, hK, hX⟩ := hrel
    by_cases hlt : n < 3
    · have d0 : decide ((n : Int) < 3) = true := by simp; omega
      have f4 := f3 n n1 n3
      have sl := sl_n b n n3
      obtain ⟨x, hx⟩ : ∃ x, x = n + 1 := ⟨_, rfl⟩
      have t0 : IntKind.i64.wrap ((n : Int) + 1) = (x : Int) := by rw [IntWalk.i64_in _ ⟨by omega, by omega⟩]; omega
      have t0' : (n : Int) + 1 = (x : Int) := by omega
      have t1 : IntKind.i64.wrap (x : Int) = (x : Int) := IntWalk.i64_in _ ⟨by omega, by omega⟩
      have x1 : 1 ≤ x := by omega
      have x3 : x ≤ 3 := by omega
      have HM : Hid (3 - x < 3 - n) := by show _ < _; omega
      clear f1 f2 f3 hx
      go_wp2_with (first
        | (go_at_call 12; (with_reducible refine (f4 _ hX).mono ?_); rintro e wq ⟨⟨c, rfl, hc, hL⟩, hq⟩; replace hX := hX.trans (hq.mono hX.size); replace hK := hK.below hq; have fe := eq_strs c b n n 3 (fun j => ky D P (j + 1)) (by omega) wq (fun j hj => hL.cell j hj) (fun j hj => hK.cell j (by omega)))
        | (go_at_call 13; (with_reducible refine fe.mono ?_); rintro e wq2 ⟨rfl, hq2⟩; have hq2 := hq2.symm; subst hq2))
      go_roundw
      case rel => exact ⟨x, x1, x3, by go_num, hK, hX⟩
      case measure => simp [intOf]; have := HM.out; omega
    · obtain rfl : n = 3 := by omega
      have d0 : decide (((3 : Nat) : Int) < 3) = false := by decide
      rw [show ((3 : Nat) : Int) = 3 from rfl] at d0 ⊢
      clear f3
      go_wp2_with (first
        | (go_at_call 6; (first | (with_reducible refine (f1 _ hX).mono ?_) | (with_reducible refine (f2 _ hX).mono ?_)); rintro e wq ⟨rfl, hq⟩; replace hX := hX.trans (hq.mono hX.size); replace hK := hK.below hq; have q1 := hK.cell 0 (by decide); clear hq))
      go_ret
      exact ⟨rfl, hX⟩

/-! ### The row's step -/
set_option maxRecDepth 100000 in
theorem lifted (os : Os) (started : os.Started) (H : Type) (enc : TypeId × Value → H) :
    ReturnsInHanded {} Tryd.checked os 5 .any (fun w args => (Rows.kdfFirstSpec.pre enc Tryd.prog Tryd.f5 [] false w args ∧ laidMetH Tryd.prog laidK w) ∧ sizedMet enc Tryd.prog Tryd.f5 (OpenSpec.ofChange Rows.kdfFirstSpec) false w args)
      (Rows.kdfFirstSpec.post enc Tryd.prog Tryd.f5 false true false false) := by
  refine returnsInHanded_of_change_and (C := Tryd.checked) (X := fun w _ => laidMetH Tryd.prog laidK w) (fun _ _ _ hh h => h.of_heap hh) own started (by kernel_rfl) Tryd.func5
    (ChangeSpec.witness_shaped (enc := enc) (C := Tryd.checked) (os := os) (X := fun w _ => laidMetH Tryd.prog laidK w) false (World.doorLaid Tryd.prog 400 os) #[.int .i64 0, .string .empty, .string .empty] 8 rfl (World.shaped_of_RefB (by kernel_rfl) (by kernel_rfl)) (by kernel_rfl) (by kernel_rfl) (by kernel_rfl) (tabs_met os _)) ?_
  intro W base args ds gs before hval0 hW _ hz hL _
  have hval : ∀ (j : Nat) t v, Tryd.f5.params[j]? = some t → args[j]? = some v → Value.okWide Tryd.prog W .any base t v := hval0
  have hW' := hW
  obtain ⟨p, q, hA0, hV, rfl, hfz, hnd⟩ := hW
  have hA : DataW.TrodAll enc Tryd.prog W 0 (fun _ => true) true Tryd.f5.params.toList args.toList ds p := hA0
  rw [Tryd.params5] at hA hval
  obtain ⟨v0, vs0, d0, ds0, p0, q0, hargs, rfl, rfl, h0, r0⟩ := trodAll_cons hA
  obtain ⟨v1, vs1, d1, ds1, p1, q1, rfl, rfl, rfl, h1, r1⟩ := trodAll_cons r0
  obtain ⟨v2, vs2, d2, ds2, p2, q2, rfl, rfl, rfl, h2, r2⟩ := trodAll_cons r1
  obtain ⟨rfl, rfl, rfl⟩ := trodAll_nil r2
  obtain rfl : args = #[v0, v1, v2] := by cases args; simp_all
  obtain ⟨rfl, rfl⟩ := trodVars_none hV
  obtain ⟨s0, rfl, rfl, rfl, m0⟩ := open_int Tryd.underlying3 (hval 0 3 v0 rfl rfl) h0
  obtain ⟨s1, rfl, rfl, rfl, m1⟩ := open_string Tryd.underlying9 (hval 1 9 v1 rfl rfl) h1
  obtain ⟨s2, rfl, rfl, rfl, m2⟩ := open_string Tryd.underlying9 (hval 2 9 v2 rfl rfl) h2
  have z1 : s1.size ≤ reachBytes := by
    have h := sized_string hz (j := 1) (t := 9) (by rw [Tryd.params5]; rfl) rfl
    rwa [Array.length_toList] at h
  have z2 : s2.size ≤ reachBytes := by
    have h := sized_string hz (j := 2) (t := 9) (by rw [Tryd.params5]; rfl) rfl
    rwa [Array.length_toList] at h
  clear hA0 hval0 hz
  simp only [List.append_nil] at hW'
  refine (walk s0 m0 s1 z1 s2 z2 W (tabs hL)).mono fun e W' ⟨he, hg⟩ => ?_
  subst he
  exact ⟨_, rfl, _, _, _, [], [], [], hW', trodAll_cons_mk (shut_bool Tryd.underlying4 _) trodAll_mk0, (trodAll_cons_mk (shut_int Tryd.underlying3 m0) (trodAll_cons_mk (shut_string Tryd.underlying9 m1) (trodAll_cons_mk (shut_string Tryd.underlying9 m2) trodAll_mk0))), rfl, hg.frame _, fun h => by cases h⟩

/-- THE ROW. -/
theorem row : Rows.KdfFirstSaid :=
  OpenClaim.holds_of_wide 5 Tryd.f5 rfl rfl rfl rfl rfl rfl rfl ⟨rfl, rfl, rfl, rfl, rfl⟩ rfl rfl rfl rfl rfl (by kernel_rfl) Tryd.func5 (by kernel_rfl)
    (of_decide_eq_true (by kernel_rfl)) (by unfold Func.isWrapper; first | (rw [if_pos (by decide +kernel)]; kernel_rfl) | (rw [if_neg (by decide +kernel)]; exact ⟨rfl, rfl⟩))
    (fun os started H enc _ => lifted os started H enc)

/-- THE STATEMENT: the tied card. -/
theorem proved : Rows.KdfFirstCardSaid :=
  Claim7.holds_tied_plain_at .later [] [.data, .data, .data, .data] true (true, "763c32b948d5aa0f7b4c5f4610f89e119f9106e36fe79adad22e87da5d5257f8") false
    row (fun _ h => by cases h) (by kernel_rfl) (fun _ h => by cases h) kdfFirst_row_tie rfl ⟨rfl, rfl⟩ (by kernel_rfl) rfl
    (fun f fn hf hfn => by
      obtain rfl : f = 5 := Option.some.inj ((show Tryd.prog.funcNamed "souterrain/souterrainkeep.KdfFirst" = some 5 by kernel_rfl).symm.trans hf) |>.symm
      obtain rfl : fn = Tryd.f5 := (Option.some.inj (Tryd.func5.symm.trans hfn)).symm
      exact ⟨by kernel_rfl, fun j t ht => by
        rw [Tryd.params5] at ht
        have hm : t ∈ [3, 9, 9] := by simpa using Array.mem_of_getElem? ht
        have hall : ([3, 9, 9].all fun u => !Tryd.prog.wantsStandIn u) = true := by kernel_rfl
        exact (show Tryd.prog.wantsStandIn t = false by simpa using List.all_eq_true.1 hall t hm)⟩)
    (by kernel_rfl)
end Go.Proofs.YtfpknemoaplhdaaDoor.kdfFirst
