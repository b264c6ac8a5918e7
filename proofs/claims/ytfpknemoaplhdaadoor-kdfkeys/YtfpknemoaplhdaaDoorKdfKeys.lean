/-
  KdfKeys: whatever a suite, a key, a text and a number, the call returns true: bytes 0 behind a key of fewer than 64 bytes are of no matter; a longer key is its own digest. (The tied card: package blake's three tables and package sha's roots as start-up lays them.)
-/
import Derived.Test.YtfpknemoaplhdaaDoorFrame
import Derived.Test.YtfpknemoaplhdaaDoorKdfKnown
import Derived.Test.YtfpknemoaplhdaaDoorBundle1
import Derived.SizedLaws
namespace Go.Proofs.YtfpknemoaplhdaaDoor.kdfKeys
open Go.ChangeShapes Go.WideShapes Go.ChangeAt Go.RowKit
open Go.ChangeMaps (open_string shut_string)
open kdf
open Go.Proofs.YtfpknemoaplhdaaDoor.ghs (tb)

theorem tb_noughts (n j : Nat) : tb (noughts n) j = 0 := by
  unfold tb nb noughts
  rw [List.getD_eq_getElem?_getD, List.getElem?_map]
  simp only [List.getElem?_replicate]
  split <;> rfl
theorem i64_bd {n : Int} (h : (Lit.int .i64 n).wf = true) : -9223372036854775808 ≤ n ∧ n ≤ 9223372036854775807 := by
  simp [Lit.wf] at h
  have h0 : IntKind.i64.min = -9223372036854775808 := rfl
  have h1 : IntKind.i64.max = 9223372036854775807 := rfl
  omega
set_option maxRecDepth 100000 in
set_option maxHeartbeats 1600000 in
theorem walk (z : Int) (hz : (Lit.int .i64 z).wf = true) (k : ByteArray) (hk : k.size ≤ reachBytes) (s : ByteArray) (hs : s.size ≤ reachBytes) (m : Int) (hm : (Lit.int .i64 m).wf = true) (w : World) (hT : Tab w) :
    Calls Tryd.prog 4 #[.int .i64 z, .string k, .string s, .int .i64 m] w fun e w' => e = .returned (.bool true) ∧ Below w.heap.size w w' := by
  have hr : reachBytes < 140737488355328 := by decide
  have hk' : k.size < 140737488355328 := by omega
  have hs' : s.size < 140737488355328 := by omega
  have bz := i64_bd hz
  have bm := i64_bd hm
  clear hk hs hz hm hr
  have g1 : ∀ W, Calls Tryd.prog 9 #[.int .i64 z, .int .i64 2] W fun e w' => e = .returned (.int .i64 (((z % 2).toNat : Nat) : Int)) ∧ w' = W := rest_any z 2 (by decide) (by decide) bz
  obtain ⟨r, hr⟩ : ∃ r, r = (z % 2).toNat := ⟨_, rfl⟩
  have r2 : r < 2 := by omega
  rw [← hr] at g1
  clear hr bz
  obtain ⟨u, hu⟩ : ∃ u : Nat, u = r + 1 := ⟨_, rfl⟩
  have f0 : ∀ W, Below w.heap.size w W → _ := fun W h => kdfKnown.walk W (hT.grown h)
  have f1 : ∀ W, Below w.heap.size w W → Calls Tryd.prog 6 #[.int .i64 (u : Nat), .string k, .string s] W fun e w' => e = .returned (.tuple #[.string (macT (dg r) k s), .int .i64 0]) ∧ Below W.heap.size W w' := fun W h => by
    rw [hu]; exact Mac_any r r2 k s (by omega) (by omega) W (hT.grown h)
  have z1 : (macT (dg r) k s).size = 32 := macT_size (dg_size r) _ _
  have z1' : ((macT (dg r) k s).size : Int) = 32 := by omega
  have s0 : 1 + (r : Int) = (u : Int) := by omega
  have s0w : IntKind.i64.wrap (1 + (r : Int)) = (u : Int) := by rw [IntWalk.i64_in _ ⟨by omega, by omega⟩]; omega
  have s2 : IntKind.i64.wrap (u : Int) = (u : Int) := IntWalk.i64_in _ ⟨by omega, by omega⟩
  have hX : Below w.heap.size w w := Below.refl _ _
  by_cases c : k.size ≤ 64
  · have c1 : (k.size : Int) ≤ 64 := by omega
    have d1 : decide ((k.size : Int) ≤ 64) = true := by simp; omega
    obtain ⟨q, hq⟩ : ∃ q, q = 65 - k.size := ⟨_, rfl⟩
    have e1 : (65 : Int) - (k.size : Int) = (q : Int) := by omega
    have g2 : ∀ W, _ := fun W => rest_any m q (by omega) (by omega) bm W
    obtain ⟨t, ht⟩ : ∃ t, t = (m % (q : Int)).toNat := ⟨_, rfl⟩
    have t1 : t < q := by
      have h1 := Int.emod_lt_of_pos m (show (0 : Int) < q by omega)
      omega
    rw [← ht] at g2
    clear ht
    have g3 := zeros_any t (by omega)
    have zt := noughts_size t
    have f2 : ∀ W, Below w.heap.size w W → Calls Tryd.prog 6 #[.int .i64 (u : Nat), .string (k ++ noughts t), .string s] W fun e w' => e = .returned (.tuple #[.string (macT (dg r) k s), .int .i64 0]) ∧ Below W.heap.size W w' := fun W h => by
      rw [hu, ← mac_more (dg r) k (noughts t) s (by omega) (tb_noughts t)]
      exact Mac_any r r2 _ s (by rw [ByteArray.size_append]; omega) (by omega) W (hT.grown h)
    generalize noughts t = Z at *
    generalize macT (dg r) k s = A at *
    clear hT hu hq bm
    go_enter Tryd.func4, Tryd.ntmps4
    go_wp2_with (first
      | (go_at_call 9; (first | (with_reducible refine (g1 _).mono ?_) | (with_reducible refine (g2 _).mono ?_)); rintro e wq ⟨rfl, rfl⟩)
      | (go_at_call 10; (with_reducible refine (g3 _).mono ?_); rintro e wq ⟨rfl, hq⟩; replace hX := hX.trans (hq.mono hX.size); clear hq)
      | (go_at_call 3; (with_reducible refine (f0 _ hX).mono ?_); rintro e wq ⟨rfl, hq⟩; replace hX := hX.trans (hq.mono hX.size); clear hq)
      | (go_at_call 6; (first | (with_reducible refine (f1 _ hX).mono ?_) | (with_reducible refine (f2 _ hX).mono ?_)); rintro e wq ⟨rfl, hq⟩; replace hX := hX.trans (hq.mono hX.size); clear hq))
    go_ret
    exact ⟨rfl, hX⟩
  · have c1 : ¬ (k.size : Int) ≤ 64 := by omega
    have d1 : decide ((k.size : Int) ≤ 64) = false := by simp; omega
    have f2 : ∀ W, Below w.heap.size w W → Calls Tryd.prog 11 #[.int .i64 (u : Nat), .string k] W fun e w' => e = .returned (.tuple #[.string (dg r k), .int .i64 0]) ∧ Below W.heap.size W w' := fun W h => by
      rw [hu]; exact Sum_any r r2 k (by omega) W (hT.grown h)
    have zd := dg_size r k
    have f3 : ∀ W, Below w.heap.size w W → Calls Tryd.prog 6 #[.int .i64 (u : Nat), .string (dg r k), .string s] W fun e w' => e = .returned (.tuple #[.string (macT (dg r) k s), .int .i64 0]) ∧ Below W.heap.size W w' := fun W h => by
      rw [hu, ← mac_long (dg r) (dg_size r) k s (by omega)]
      exact Mac_any r r2 _ s (by omega) (by omega) W (hT.grown h)
    generalize macT (dg r) k s = A at *
    generalize dg r k = K at *
    clear hT hu bm
    go_enter Tryd.func4, Tryd.ntmps4
    go_wp2_with (first
      | (go_at_call 9; (with_reducible refine (g1 _).mono ?_); rintro e wq ⟨rfl, rfl⟩)
      | (go_at_call 3; (with_reducible refine (f0 _ hX).mono ?_); rintro e wq ⟨rfl, hq⟩; replace hX := hX.trans (hq.mono hX.size); clear hq)
      | (go_at_call 11; (with_reducible refine (f2 _ hX).mono ?_); rintro e wq ⟨rfl, hq⟩; replace hX := hX.trans (hq.mono hX.size); clear hq)
      | (go_at_call 6; (first | (with_reducible refine (f1 _ hX).mono ?_) | (with_reducible refine (f3 _ hX).mono ?_)); rintro e wq ⟨rfl, hq⟩; replace hX := hX.trans (hq.mono hX.size); clear hq))
    go_ret
    exact ⟨rfl, hX⟩

/-! ### The row's step -/
set_option maxRecDepth 100000 in
theorem lifted (os : Os) (started : os.Started) (H : Type) (enc : TypeId × Value → H) :
    ReturnsInHanded {} Tryd.checked os 4 .any (fun w args => (Rows.kdfKeysSpec.pre enc Tryd.prog Tryd.f4 [] false w args ∧ laidMetH Tryd.prog laidK w) ∧ sizedMet enc Tryd.prog Tryd.f4 (OpenSpec.ofChange Rows.kdfKeysSpec) false w args)
      (Rows.kdfKeysSpec.post enc Tryd.prog Tryd.f4 false true false false) := by
  refine returnsInHanded_of_change_and (C := Tryd.checked) (X := fun w _ => laidMetH Tryd.prog laidK w) (fun _ _ _ hh h => h.of_heap hh) own started (by kernel_rfl) Tryd.func4
    (ChangeSpec.witness_shaped (enc := enc) (C := Tryd.checked) (os := os) (X := fun w _ => laidMetH Tryd.prog laidK w) false (World.doorLaid Tryd.prog 400 os) #[.int .i64 0, .string .empty, .string .empty, .int .i64 0] 8 rfl (World.shaped_of_RefB (by kernel_rfl) (by kernel_rfl)) (by kernel_rfl) (by kernel_rfl) (by kernel_rfl) (tabs_met os _)) ?_
  intro W base args ds gs before hval0 hW _ hz hL _
  have hval : ∀ (j : Nat) t v, Tryd.f4.params[j]? = some t → args[j]? = some v → Value.okWide Tryd.prog W .any base t v := hval0
  have hW' := hW
  obtain ⟨p, q, hA0, hV, rfl, hfz, hnd⟩ := hW
  have hA : DataW.TrodAll enc Tryd.prog W 0 (fun _ => true) true Tryd.f4.params.toList args.toList ds p := hA0
  rw [Tryd.params4] at hA hval
  obtain ⟨v0, vs0, d0, ds0, p0, q0, hargs, rfl, rfl, h0, r0⟩ := trodAll_cons hA
  obtain ⟨v1, vs1, d1, ds1, p1, q1, rfl, rfl, rfl, h1, r1⟩ := trodAll_cons r0
  obtain ⟨v2, vs2, d2, ds2, p2, q2, rfl, rfl, rfl, h2, r2⟩ := trodAll_cons r1
  obtain ⟨v3, vs3, d3, ds3, p3, q3, rfl, rfl, rfl, h3, r3⟩ := trodAll_cons r2
  obtain ⟨rfl, rfl, rfl⟩ := trodAll_nil r3
  obtain rfl : args = #[v0, v1, v2, v3] := by cases args; simp_all
  obtain ⟨rfl, rfl⟩ := trodVars_none hV
  obtain ⟨s0, rfl, rfl, rfl, m0⟩ := open_int Tryd.underlying3 (hval 0 3 v0 rfl rfl) h0
  obtain ⟨s1, rfl, rfl, rfl, m1⟩ := open_string Tryd.underlying9 (hval 1 9 v1 rfl rfl) h1
  obtain ⟨s2, rfl, rfl, rfl, m2⟩ := open_string Tryd.underlying9 (hval 2 9 v2 rfl rfl) h2
  obtain ⟨s3, rfl, rfl, rfl, m3⟩ := open_int Tryd.underlying3 (hval 3 3 v3 rfl rfl) h3
  have z1 : s1.size ≤ reachBytes := by
    have h := sized_string hz (j := 1) (t := 9) (by rw [Tryd.params4]; rfl) rfl
    rwa [Array.length_toList] at h
  have z2 : s2.size ≤ reachBytes := by
    have h := sized_string hz (j := 2) (t := 9) (by rw [Tryd.params4]; rfl) rfl
    rwa [Array.length_toList] at h
  clear hA0 hval0 hz
  simp only [List.append_nil] at hW'
  refine (walk s0 m0 s1 z1 s2 z2 s3 m3 W (tabs hL)).mono fun e W' ⟨he, hg⟩ => ?_
  subst he
  exact ⟨_, rfl, _, _, _, [], [], [], hW', trodAll_cons_mk (shut_bool Tryd.underlying4 _) trodAll_mk0, (trodAll_cons_mk (shut_int Tryd.underlying3 m0) (trodAll_cons_mk (shut_string Tryd.underlying9 m1) (trodAll_cons_mk (shut_string Tryd.underlying9 m2) (trodAll_cons_mk (shut_int Tryd.underlying3 m3) trodAll_mk0)))), rfl, hg.frame _, fun h => by cases h⟩

/-- THE ROW. -/
theorem row : Rows.KdfKeysSaid :=
  OpenClaim.holds_of_wide 4 Tryd.f4 rfl rfl rfl rfl rfl rfl rfl ⟨rfl, rfl, rfl, rfl, rfl⟩ rfl rfl rfl rfl rfl (by kernel_rfl) Tryd.func4 (by kernel_rfl)
    (of_decide_eq_true (by kernel_rfl)) (by unfold Func.isWrapper; first | (rw [if_pos (by decide +kernel)]; kernel_rfl) | (rw [if_neg (by decide +kernel)]; exact ⟨rfl, rfl⟩))
    (fun os started H enc _ => lifted os started H enc)

/-- THE STATEMENT: the tied card. -/
theorem proved : Rows.KdfKeysCardSaid :=
  Claim7.holds_tied_plain_at .later [] [.data, .data, .data, .data] true (true, "763c32b948d5aa0f7b4c5f4610f89e119f9106e36fe79adad22e87da5d5257f8") false
    row (fun _ h => by cases h) (by kernel_rfl) (fun _ h => by cases h) kdfKeys_row_tie rfl ⟨rfl, rfl⟩ (by kernel_rfl) rfl
    (fun f fn hf hfn => by
      obtain rfl : f = 4 := Option.some.inj ((show Tryd.prog.funcNamed "souterrain/souterrainkeep.KdfKeys" = some 4 by kernel_rfl).symm.trans hf) |>.symm
      obtain rfl : fn = Tryd.f4 := (Option.some.inj (Tryd.func4.symm.trans hfn)).symm
      exact ⟨by kernel_rfl, fun j t ht => by
        rw [Tryd.params4] at ht
        have hm : t ∈ [3, 9, 9, 3] := by simpa using Array.mem_of_getElem? ht
        have hall : ([3, 9, 9, 3].all fun u => !Tryd.prog.wantsStandIn u) = true := by kernel_rfl
        exact (show Tryd.prog.wantsStandIn t = false by simpa using List.all_eq_true.1 hall t hm)⟩)
    (by kernel_rfl)
end Go.Proofs.YtfpknemoaplhdaaDoor.kdfKeys
