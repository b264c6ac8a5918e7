/-
  CurveNothing: whatever text is handed in as a key (cut, or lengthened by bytes 0, to 32 bytes), and whatever whole number, the call returns true: numbers of which there is no secret: nought, 1, and the others of few multiples.
-/
import Derived.Test.YtdpokjhoedhadabDoorFrame
import Derived.Test.YtdpokjhoedhadabDoorKeepCurve
import Derived.Test.YtdpokjhoedhadabDoorDoor2
import Derived.Test.YtdpokjhoedhadabDoorCards
import Derived.Test.YtdpokjhoedhadabDoorTie
import Derived.SevenTiedAt
namespace Go.Proofs.YtdpokjhoedhadabDoor.curveNothing
open Go.ChangeShapes Go.WideShapes Go.ChangeAt Go.RowKit
open Go.ChangeMaps (open_string shut_string)
open num crv edw

def low2 : ByteArray := ⟨#[236, 255, 255, 255, 255, 255, 255, 255, 255, 255, 255, 255, 255, 255, 255, 255, 255, 255, 255, 255, 255, 255, 255, 255, 255, 255, 255, 255, 255, 255, 255, 127]⟩
def low3 : ByteArray := ⟨#[224, 235, 122, 124, 59, 65, 184, 174, 22, 86, 227, 250, 241, 159, 196, 106, 218, 9, 141, 235, 156, 50, 177, 253, 134, 98, 5, 22, 95, 73, 184, 0]⟩
def low4 : ByteArray := ⟨#[95, 156, 149, 188, 163, 80, 140, 36, 177, 208, 177, 85, 156, 131, 239, 91, 4, 68, 92, 196, 88, 28, 142, 134, 216, 34, 78, 221, 208, 159, 17, 87]⟩
theorem unhex_2 : unhexB (⟨#[101, 99, 102, 102, 102, 102, 102, 102, 102, 102, 102, 102, 102, 102, 102, 102, 102, 102, 102, 102, 102, 102, 102, 102, 102, 102, 102, 102, 102, 102, 102, 102, 102, 102, 102, 102, 102, 102, 102, 102, 102, 102, 102, 102, 102, 102, 102, 102, 102, 102, 102, 102, 102, 102, 102, 102, 102, 102, 102, 102, 102, 102, 55, 102]⟩ : ByteArray) = some low2 := by decide +kernel
theorem unhex_3 : unhexB (⟨#[101, 48, 101, 98, 55, 97, 55, 99, 51, 98, 52, 49, 98, 56, 97, 101, 49, 54, 53, 54, 101, 51, 102, 97, 102, 49, 57, 102, 99, 52, 54, 97, 100, 97, 48, 57, 56, 100, 101, 98, 57, 99, 51, 50, 98, 49, 102, 100, 56, 54, 54, 50, 48, 53, 49, 54, 53, 102, 52, 57, 98, 56, 48, 48]⟩ : ByteArray) = some low3 := by decide +kernel
theorem unhex_4 : unhexB (⟨#[53, 102, 57, 99, 57, 53, 98, 99, 97, 51, 53, 48, 56, 99, 50, 52, 98, 49, 100, 48, 98, 49, 53, 53, 57, 99, 56, 51, 101, 102, 53, 98, 48, 52, 52, 52, 53, 99, 99, 52, 53, 56, 49, 99, 56, 101, 56, 54, 100, 56, 50, 50, 52, 101, 100, 100, 100, 48, 57, 102, 49, 49, 53, 55]⟩ : ByteArray) = some low4 := by decide +kernel
theorem rest_any (n : Int) (h0 : -9223372036854775808 ≤ n) (h1 : n ≤ 9223372036854775807) (w : World) :
    Calls Tryd.prog 9 #[.int .i64 n, .int .i64 5] w fun e w' => e = .returned (.int .i64 (n % 5)) ∧ w' = w := by
  by_cases hn : 0 ≤ n
  · have q : n.tmod 5 = n % 5 := Int.tmod_eq_emod_of_nonneg hn
    have q0 : 0 ≤ n % 5 := by omega
    have q1 : n % 5 < 5 := by omega
    generalize n % 5 = r at *
    go_enter Tryd.func9, Tryd.ntmps9
    go_wp2
    go_ret
    exact ⟨rfl, rfl⟩
  · have q : n.tmod 5 = -((-n) % 5) := by
      have h := Int.neg_tmod (a := -n) (b := 5)
      rw [Int.neg_neg, Int.tmod_eq_emod_of_nonneg (a := -n) (by omega)] at h
      exact h
    by_cases hz : (-n) % 5 = 0
    · have e : n % 5 = 0 := by omega
      rw [hz] at q
      rw [e]
      clear hz e
      have q2 : n.tmod 5 = 0 := q
      clear q
      go_enter Tryd.func9, Tryd.ntmps9
      go_wp2
      go_ret
      exact ⟨rfl, rfl⟩
    · have e : n % 5 = n.tmod 5 + 5 := by omega
      have b0 : n.tmod 5 < 0 := by omega
      have b1 : -5 < n.tmod 5 := by omega
      rw [e]
      clear hz e q
      obtain ⟨r, hr⟩ : ∃ r, n.tmod 5 = r := ⟨_, rfl⟩
      rw [hr] at b0 b1 ⊢
      go_enter Tryd.func9, Tryd.ntmps9
      go_wp2
      go_ret
      exact ⟨rfl, rfl⟩
theorem share_nought {w0 w : World} (h : Below w0.heap.size w0 w) (hT : Hid (Tabs w0)) (k u : ByteArray) (hk : k.size = 32) (hu : u.size = 32) (hl : (lad (kap (N (belowC u))) [true, false, false, false]).1.2 = 0) :
    Calls Tryd.prog 8 #[.string k, .string u] w fun e w' => e = .returned (.tuple #[.string ⟨#[]⟩, .int .i64 12]) ∧ Below w0.heap.size w0 w' := keep h (share_none k u hk hu (xk_low k u hk hl) w (hT.out.below h))
theorem facts (a : ByteArray) (ha : a.size = 32) (w : World) (hT : Tabs w) : ∃ v0 v1 v2 v3 v4 : ByteArray,
    (∀ W, Below w.heap.size w W → Calls Tryd.prog 6 #[.int .i64 32] W fun e w' => e = .returned (.string v0) ∧ Below w.heap.size w w') ∧
    (∀ W, Below w.heap.size w W → Calls Tryd.prog 5 #[.string ⟨#[1]⟩, .int .i64 32] W fun e w' => e = .returned (.string v1) ∧ Below w.heap.size w w') ∧
    (∀ W, Below w.heap.size w W → Calls Tryd.prog 7 #[.string (⟨#[101, 99, 102, 102, 102, 102, 102, 102, 102, 102, 102, 102, 102, 102, 102, 102, 102, 102, 102, 102, 102, 102, 102, 102, 102, 102, 102, 102, 102, 102, 102, 102, 102, 102, 102, 102, 102, 102, 102, 102, 102, 102, 102, 102, 102, 102, 102, 102, 102, 102, 102, 102, 102, 102, 102, 102, 102, 102, 102, 102, 102, 102, 55, 102]⟩ : ByteArray)] W fun e w' => e = .returned (.string v2) ∧ Below w.heap.size w w') ∧
    (∀ W, Below w.heap.size w W → Calls Tryd.prog 7 #[.string (⟨#[101, 48, 101, 98, 55, 97, 55, 99, 51, 98, 52, 49, 98, 56, 97, 101, 49, 54, 53, 54, 101, 51, 102, 97, 102, 49, 57, 102, 99, 52, 54, 97, 100, 97, 48, 57, 56, 100, 101, 98, 57, 99, 51, 50, 98, 49, 102, 100, 56, 54, 54, 50, 48, 53, 49, 54, 53, 102, 52, 57, 98, 56, 48, 48]⟩ : ByteArray)] W fun e w' => e = .returned (.string v3) ∧ Below w.heap.size w w') ∧
    (∀ W, Below w.heap.size w W → Calls Tryd.prog 7 #[.string (⟨#[53, 102, 57, 99, 57, 53, 98, 99, 97, 51, 53, 48, 56, 99, 50, 52, 98, 49, 100, 48, 98, 49, 53, 53, 57, 99, 56, 51, 101, 102, 53, 98, 48, 52, 52, 52, 53, 99, 99, 52, 53, 56, 49, 99, 56, 101, 56, 54, 100, 56, 50, 50, 52, 101, 100, 100, 100, 48, 57, 102, 49, 49, 53, 55]⟩ : ByteArray)] W fun e w' => e = .returned (.string v4) ∧ Below w.heap.size w w') ∧
    (∀ v, (v = v0 ∨ v = v1 ∨ v = v2 ∨ v = v3 ∨ v = v4) → ∀ W, Below w.heap.size w W → Calls Tryd.prog 8 #[.string a, .string v] W fun e w' => e = .returned (.tuple #[.string ⟨#[]⟩, .int .i64 12]) ∧ Below w.heap.size w w') := by
  refine ⟨noughts 32, sz ⟨#[1]⟩ 32, low2, low3, low4, fun W h => zeros_keep h, fun W h => sized_keep h _ (by decide), fun W h => keep h (bytes_any _ _ (by decide) unhex_2 W), fun W h => keep h (bytes_any _ _ (by decide) unhex_3 W), fun W h => keep h (bytes_any _ _ (by decide) unhex_4 W), ?_⟩
  rintro v (rfl | rfl | rfl | rfl | rfl) W h
  · exact share_nought h hT a _ ha (by decide +kernel) (by decide +kernel)
  · exact share_nought h hT a _ ha (by decide +kernel) (by decide +kernel)
  · exact share_nought h hT a _ ha (by decide +kernel) (by decide +kernel)
  · exact share_nought h hT a _ ha (by decide +kernel) (by decide +kernel)
  · exact share_nought h hT a _ ha (by decide +kernel) (by decide +kernel)
set_option maxRecDepth 100000 in
set_option maxHeartbeats 1600000 in
theorem walk (s : ByteArray) (hs : s.size ≤ maxLen) (n : Int) (hn : (Lit.int .i64 n).wf = true) (w : World) (hT : Tabs w) :
    Calls Tryd.prog 3 #[.string s, .int .i64 n] w fun e w' => e = .returned (.bool true) ∧ Below w.heap.size w w' := by
  obtain ⟨v0, v1, v2, v3, v4, f0, f1, f2, f3, f4, fs⟩ := facts (sz s 32) (sz_size s 32) w hT
  have H : Hid (s.size ≤ maxLen) := hs
  have HT : Hid (Tabs w) := hT
  clear hs hT
  have F0 : Hid _ := f0
  have F1 : Hid _ := f1
  have F2 : Hid _ := f2
  have F3 : Hid _ := f3
  have F4 : Hid _ := f4
  have FS : Hid _ := fs
  clear f0 f1 f2 f3 f4 fs
  go_enter Tryd.func3, Tryd.ntmps3
  go_wp2_with fail
  refine (sized_any s 32 H.out (by decide) _).mono ?_
  rintro e w1 ⟨rfl, hb1⟩
  generalize sz s 32 = a at *
  go_wp2_with fail
  refine (F0.out _ (by assumption)).mono ?_
  rintro e wn ⟨rfl, hbn⟩
  go_wp2_with fail
  refine (F1.out _ (by assumption)).mono ?_
  rintro e wn ⟨rfl, hbn⟩
  go_wp2_with fail
  refine (F2.out _ (by assumption)).mono ?_
  rintro e wn ⟨rfl, hbn⟩
  go_wp2_with fail
  refine (F3.out _ (by assumption)).mono ?_
  rintro e wn ⟨rfl, hbn⟩
  go_wp2_with fail
  refine (F4.out _ (by assumption)).mono ?_
  rintro e w6 ⟨rfl, hb6⟩
  go_wp2_with fail
  obtain ⟨n0, n1⟩ : -9223372036854775808 ≤ n ∧ n ≤ 9223372036854775807 := by
    simp [Lit.wf] at hn
    have h0 : IntKind.i64.min = -9223372036854775808 := rfl
    have h1 : IntKind.i64.max = 9223372036854775807 := rfl
    omega
  have hX : Below w.heap.size w (w6.alloc (.cells #[.string v0, .string v1, .string v2, .string v3, .string v4] 9)) := hb6.alloc hb6.size _
  refine (rest_any n n0 n1 _).mono ?_
  rintro e w7 ⟨rfl, rfl⟩
  have hr : n % 5 = 0 ∨ n % 5 = 1 ∨ n % 5 = 2 ∨ n % 5 = 3 ∨ n % 5 = 4 := by omega
  clear hn n0 n1
  rcases hr with hr | hr | hr | hr | hr <;> rw [hr] <;> clear hr
  · go_wp2_with fail
    refine (FS.out v0 (by simp) _ hX).mono ?_
    rintro e wn ⟨rfl, hbn⟩
    go_wp2_with fail
    refine (fact_keep (by assumption) HT).mono ?_
    rintro e wn ⟨rfl, hbn⟩
    go_wp2_with fail
    go_ret
    exact ⟨rfl, by assumption⟩
  · go_wp2_with fail
    refine (FS.out v1 (by simp) _ hX).mono ?_
    rintro e wn ⟨rfl, hbn⟩
    go_wp2_with fail
    refine (fact_keep (by assumption) HT).mono ?_
    rintro e wn ⟨rfl, hbn⟩
    go_wp2_with fail
    go_ret
    exact ⟨rfl, by assumption⟩
  · go_wp2_with fail
    refine (FS.out v2 (by simp) _ hX).mono ?_
    rintro e wn ⟨rfl, hbn⟩
    go_wp2_with fail
    refine (fact_keep (by assumption) HT).mono ?_
    rintro e wn ⟨rfl, hbn⟩
    go_wp2_with fail
    go_ret
    exact ⟨rfl, by assumption⟩
  · go_wp2_with fail
    refine (FS.out v3 (by simp) _ hX).mono ?_
    rintro e wn ⟨rfl, hbn⟩
    go_wp2_with fail
    refine (fact_keep (by assumption) HT).mono ?_
    rintro e wn ⟨rfl, hbn⟩
    go_wp2_with fail
    go_ret
    exact ⟨rfl, by assumption⟩
  · go_wp2_with fail
    refine (FS.out v4 (by simp) _ hX).mono ?_
    rintro e wn ⟨rfl, hbn⟩
    go_wp2_with fail
    refine (fact_keep (by assumption) HT).mono ?_
    rintro e wn ⟨rfl, hbn⟩
    go_wp2_with fail
    go_ret
    exact ⟨rfl, by assumption⟩

/-! ### The row's step -/
set_option maxRecDepth 100000 in
theorem lifted (os : Os) (started : os.Started) (H : Type) (enc : TypeId × Value → H) :
    ReturnsInHanded {} Tryd.checked os 3 .any (fun w args => (Rows.curveNothingSpec.pre enc Tryd.prog Tryd.f3 [] false w args ∧ laidMetH Tryd.prog laid2 w) ∧ sizedMet enc Tryd.prog Tryd.f3 (OpenSpec.ofChange Rows.curveNothingSpec) false w args)
      (Rows.curveNothingSpec.post enc Tryd.prog Tryd.f3 false true false false) := by
  refine returnsInHanded_of_change_and (C := Tryd.checked) (X := fun w _ => laidMetH Tryd.prog laid2 w) (fun _ _ _ hh h => h.of_heap hh) own started (by kernel_rfl) Tryd.func3
    (ChangeSpec.witness_shaped (enc := enc) (C := Tryd.checked) (os := os) (X := fun w _ => laidMetH Tryd.prog laid2 w) false (World.doorLaid Tryd.prog 400 os) #[.string .empty, .int .i64 0] 8 rfl (World.shaped_of_RefB (by kernel_rfl) (by kernel_rfl)) (by kernel_rfl) (by kernel_rfl) (by kernel_rfl) (both_met os _)) ?_
  intro W base args ds gs before hval0 hW _ _ hL _
  have hval : ∀ (j : Nat) t v, Tryd.f3.params[j]? = some t → args[j]? = some v → Value.okWide Tryd.prog W .any base t v := hval0
  have hW' := hW
  obtain ⟨p, q, hA0, hV, rfl, hfz, hnd⟩ := hW
  have hA : DataW.TrodAll enc Tryd.prog W 0 (fun _ => true) true Tryd.f3.params.toList args.toList ds p := hA0
  rw [Tryd.params3] at hA hval
  obtain ⟨v0, vs0, d0, ds0, p0, q0, hargs, rfl, rfl, h0, r0⟩ := trodAll_cons hA
  obtain ⟨v1, vs1, d1, ds1, p1, q1, rfl, rfl, rfl, h1, r1⟩ := trodAll_cons r0
  obtain ⟨rfl, rfl, rfl⟩ := trodAll_nil r1
  obtain rfl : args = #[v0, v1] := by cases args; simp_all
  obtain ⟨rfl, rfl⟩ := trodVars_none hV
  obtain ⟨s0, rfl, rfl, rfl, m0⟩ := open_string Tryd.underlying9 (hval 0 9 v0 rfl rfl) h0
  obtain ⟨s1, rfl, rfl, rfl, m1⟩ := open_int Tryd.underlying3 (hval 1 3 v1 rfl rfl) h1
  clear hA0 hval0
  simp only [List.append_nil] at hW'
  refine (walk s0 m0 s1 m1 W (both_tabs hL)).mono fun e W' ⟨he, hg⟩ => ?_
  subst he
  exact ⟨_, rfl, _, _, _, [], [], [], hW', trodAll_cons_mk (shut_bool Tryd.underlying4 _) trodAll_mk0, (trodAll_cons_mk (shut_string Tryd.underlying9 m0) (trodAll_cons_mk (shut_int Tryd.underlying3 m1) trodAll_mk0)), rfl, hg.frame _, fun h => by cases h⟩

/-- THE ROW. -/
theorem row : Rows.CurveNothingSaid :=
  OpenClaim.holds_of_wide 3 Tryd.f3 rfl rfl rfl rfl rfl rfl rfl ⟨rfl, rfl, rfl, rfl, rfl⟩ rfl rfl rfl rfl rfl (by kernel_rfl) Tryd.func3 (by kernel_rfl)
    (of_decide_eq_true (by kernel_rfl)) (by unfold Func.isWrapper; first | (rw [if_pos (by decide +kernel)]; kernel_rfl) | (rw [if_neg (by decide +kernel)]; exact ⟨rfl, rfl⟩))
    (fun os started H enc _ => lifted os started H enc)

/-- THE STATEMENT: the tied card. -/
theorem proved : Rows.CurveNothingCardSaid :=
  Claim7.holds_tied_plain_at .later [] [.data, .data] true (true, "a480d3e8bc925e12e1203e959bf3e4156975b924bc228b5481e7f42d26def2cf") false
    row (fun _ h => by cases h) (by kernel_rfl) (fun _ h => by cases h) curveNothing_row_tie rfl ⟨rfl, rfl⟩ (by kernel_rfl) rfl
    (fun f fn hf hfn => by
      obtain rfl : f = 3 := Option.some.inj ((show Tryd.prog.funcNamed "souterrain/souterrainkeep.CurveNothing" = some 3 by kernel_rfl).symm.trans hf) |>.symm
      obtain rfl : fn = Tryd.f3 := (Option.some.inj (Tryd.func3.symm.trans hfn)).symm
      exact ⟨by kernel_rfl, fun j t ht => by
        rw [Tryd.params3] at ht
        have hm : t ∈ [9, 3] := by simpa using Array.mem_of_getElem? ht
        have hall : ([9, 3].all fun u => !Tryd.prog.wantsStandIn u) = true := by kernel_rfl
        exact (show Tryd.prog.wantsStandIn t = false by simpa using List.all_eq_true.1 hall t hm)⟩)
    (by kernel_rfl)
end Go.Proofs.YtdpokjhoedhadabDoor.curveNothing
