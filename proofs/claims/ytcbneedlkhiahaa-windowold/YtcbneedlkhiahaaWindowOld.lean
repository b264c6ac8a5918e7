/-
  WindowOld: whatever numbers came into a window, and whatever number is asked, the call returns true: what lies 64 or more below the highest one that was taken comes too late; what lies above it comes always.
-/
import Derived.Test.YtcbneedlkhiahaaWinList
import Derived.Test.YtcbneedlkhiahaaKeepRest
import Derived.Test.YtcbneedlkhiahaaListRow
namespace Go.Proofs.Ytcbneedlkhiahaa.windowOld
open Go.ChangeShapes Go.WideShapes Go.ChangeAt Go.RowKit
open win

set_option maxRecDepth 100000 in
set_option maxHeartbeats 1600000 in
theorem walk (w : World) (a : Option Addr) (n c : Nat) (zs : List Int) (hi : Ints w w.heap.size a n zs) (hr : n * 8 ≤ reachBytes) (_hz : ∀ z ∈ zs, (Lit.int .i64 z).wf = true) (m : Int) (hm : (Lit.int .i64 m).wf = true) :
    Calls Try.prog 6 #[.slice a n c, .int .i64 m] w fun e w' => e = .returned (.bool true) ∧ Below w.heap.size w w' := by
  have hrb : reachBytes < 140737488355328 := by decide
  have f1 := windows_any w a n c zs hi (by omega)
  have hb := bounds_i64 hm
  have g1 : ∀ W, Calls Try.prog 15 #[.int .i64 m, .int .i64 1099511627776] W fun e w' => e = .returned (.int .i64 (((m % 1099511627776).toNat : Nat) : Int)) ∧ w' = W := rest_any m 1099511627776 (by decide) (by decide) hb
  obtain ⟨x, hx⟩ : ∃ x, x = (m % 1099511627776).toNat := ⟨_, rfl⟩
  have x2 : x < 1099511627776 := by omega
  rw [← hx] at g1
  clear hx hb hm hr hrb hi
  obtain ⟨B, hBd⟩ : ∃ B, w.heap.size = B := ⟨_, rfl⟩
  rw [hBd] at f1 ⊢
  go_enter Try.func6, Try.ntmps6
  go_wp2_with (first
    | (go_at_call 14; (with_reducible refine f1.mono ?_); rintro e w1 ⟨rfl, ⟨N, T, hB, hI⟩, hX⟩)
    | (go_at_call 15; (with_reducible refine (g1 _).mono ?_); rintro e w2 ⟨rfl, hq⟩; have hq := hq.symm; subst hq))
  have f3 := Next_any B N T
  have f4 := Check_any B N T (x : Int) hI.nb hI.tb
  rw [hI.chk] at f4
  have nb := hI.nb
  obtain ⟨H, hH⟩ : ∃ H, (N : Int) - 1 = H := ⟨_, rfl⟩
  obtain ⟨G, hG⟩ : ∃ G, H - 64 = G := ⟨_, rfl⟩
  have H1 : -1 ≤ H ∧ H ≤ 1099511627776 := by omega
  have hcase : (H < (x : Int) ∧ G < (x : Int) ∧ rchk (rAll zs []) x = 0) ∨ ((x : Int) ≤ H ∧ (x : Int) ≤ G ∧ rchk (rAll zs []) x = 11) ∨ ((x : Int) ≤ H ∧ G < (x : Int) ∧ rchk (rAll zs []) x = 0) ∨ ((x : Int) ≤ H ∧ G < (x : Int) ∧ rchk (rAll zs []) x = 11) := by
    have hmem := hI.mem (x : Int)
    unfold rchk
    rw [if_neg (by omega), hI.top]
    by_cases c1 : (x : Int) ∈ rAll zs []
    · have := hmem c1
      rw [if_pos (.inl c1)]
      by_cases c2 : G < (x : Int)
      · right; right; right; exact ⟨by omega, by omega, rfl⟩
      · right; left; exact ⟨by omega, by omega, rfl⟩
    · by_cases c2 : (x : Int) + 64 < N
      · rw [if_pos (.inr c2)]
        right; left; exact ⟨by omega, by omega, rfl⟩
      · rw [if_neg (fun h => h.elim c1 c2)]
        by_cases c3 : H < (x : Int)
        · left; exact ⟨c3, by omega, rfl⟩
        · right; right; left; exact ⟨by omega, by omega, rfl⟩
  generalize rchk (rAll zs []) x = E at *
  clear hI g1 nb
  rcases hcase with ⟨c1, c2, rfl⟩ | ⟨c1, c2, rfl⟩ | ⟨c1, c2, rfl⟩ | ⟨c1, c2, rfl⟩
  · have d1 : decide ((x : Int) ≤ H) = false := decide_eq_false (by omega)
    have d2 : decide ((x : Int) > G) = true := decide_eq_true (by omega)
    go_wp2_with (first
      | (go_at_call 12; (with_reducible refine (f3 _ (by assumption)).mono ?_); rintro e w2 ⟨rfl, hq⟩; have hq := hq.symm; subst hq)
      | (go_at_call 8; (with_reducible refine (f4 _ (by assumption)).mono ?_); rintro e w2 ⟨rfl, hq⟩; have hq := hq.symm; subst hq))
    go_ret
    exact ⟨rfl, hX⟩
  · have d1 : decide ((x : Int) ≤ H) = true := decide_eq_true (by omega)
    have d2 : decide ((x : Int) > G) = false := decide_eq_false (by omega)
    go_wp2_with (first
      | (go_at_call 12; (with_reducible refine (f3 _ (by assumption)).mono ?_); rintro e w2 ⟨rfl, hq⟩; have hq := hq.symm; subst hq)
      | (go_at_call 8; (with_reducible refine (f4 _ (by assumption)).mono ?_); rintro e w2 ⟨rfl, hq⟩; have hq := hq.symm; subst hq))
    go_ret
    exact ⟨rfl, hX⟩
  · have d1 : decide ((x : Int) ≤ H) = true := decide_eq_true (by omega)
    have d2 : decide ((x : Int) > G) = true := decide_eq_true (by omega)
    go_wp2_with (first
      | (go_at_call 12; (with_reducible refine (f3 _ (by assumption)).mono ?_); rintro e w2 ⟨rfl, hq⟩; have hq := hq.symm; subst hq)
      | (go_at_call 8; (with_reducible refine (f4 _ (by assumption)).mono ?_); rintro e w2 ⟨rfl, hq⟩; have hq := hq.symm; subst hq))
    go_ret
    exact ⟨rfl, hX⟩
  · have d1 : decide ((x : Int) ≤ H) = true := decide_eq_true (by omega)
    have d2 : decide ((x : Int) > G) = true := decide_eq_true (by omega)
    go_wp2_with (first
      | (go_at_call 12; (with_reducible refine (f3 _ (by assumption)).mono ?_); rintro e w2 ⟨rfl, hq⟩; have hq := hq.symm; subst hq)
      | (go_at_call 8; (with_reducible refine (f4 _ (by assumption)).mono ?_); rintro e w2 ⟨rfl, hq⟩; have hq := hq.symm; subst hq))
    go_ret
    exact ⟨rfl, hX⟩

/-! ### The row's step -/
set_option maxRecDepth 100000 in
theorem lifted (os : Os) (started : os.Started) (H : Type) (enc : TypeId × Value → H) :
    ReturnsInHanded {} Try.checked os 6 .any (Rows.windowOldSpec.pre6 enc Try.prog Try.f6 Rows.windowOldRow.domain false) (Rows.windowOldSpec.post enc Try.prog Try.f6 false true false false) := by
  refine returnsInHanded_of_change_sized (C := Try.checked) own started (by kernel_rfl) Try.func6
    (ChangeSpec.witness6 (enc := enc) (C := Try.checked) false ⟨#[], #[.slice none 0 0, .int .i64 0], []⟩ 8 (by kernel_rfl) (by kernel_rfl) (by kernel_rfl) (by kernel_rfl)) ?_
  intro W base args ds gs before hval0 hW _ hz0 _
  have hz : (DataW.weightsEach Try.prog (Try.f6.params.toList ++ Rows.windowOldSpec.plain.varTypes Try.prog) (ds ++ gs)).all (· ≤ reachBytes) = true := hz0
  clear hz0
  have hval : ∀ (j : Nat) t v, Try.f6.params[j]? = some t → args[j]? = some v → Value.okWide Try.prog W .any base t v := hval0
  have hW' := hW
  obtain ⟨p, q, hA0, hV, rfl, hfz, hnd⟩ := hW
  have hA : DataW.TrodAll enc Try.prog W 0 (fun _ => true) true Try.f6.params.toList args.toList ds p := hA0
  rw [Try.params6] at hA hval hz
  obtain ⟨v0, vs0, d0, ds0, p0, q0, hargs, rfl, rfl, h0, r0⟩ := trodAll_cons hA
  obtain ⟨v1, vs1, d1, ds1, p1, q1, rfl, rfl, rfl, h1, r1⟩ := trodAll_cons r0
  obtain ⟨rfl, rfl, rfl⟩ := trodAll_nil r1
  obtain rfl : args = #[v0, v1] := by cases args; simp_all
  obtain ⟨rfl, rfl⟩ := trodVars_none hV
  obtain ⟨a0, n0, c0, rfl⟩ := okWide_slice Try.underlying22 (hval 0 22 v0 rfl rfl)
  have l0 : ∀ x ∈ p0, x.block < W.heap.size := fun x hx => by
    have := hW'.lt x (by simp [hx])
    simpa using this
  obtain ⟨z0, i0, b0, e0⟩ := list_open h0 l0
  have y0 : n0 * 8 ≤ reachBytes := by
    rcases e0 with ⟨_, e0⟩ | ⟨es, sp, e0, g0⟩
    · rw [e0]; decide
    · have h := sized_slice hz (j := 0) (t := 22) (e := 3) (by rfl) (by rw [e0]; rfl) Try.underlying22
      rw [bytesINT] at h
      try simp only [List.length_append] at h
      omega
  obtain ⟨s1, rfl, rfl, rfl, m1⟩ := open_int Try.underlying3 (hval 1 3 v1 rfl rfl) h1
  clear hA0 hval0 hz
  simp only [List.append_nil] at hW'
  refine (walk W a0 n0 c0 z0 i0 y0 b0 s1 m1).mono fun e W' ⟨he, hg⟩ => ?_
  subst he
  exact ⟨_, rfl, _, _, _, [], (p0 ++ ([] ++ [])), [], hW', trodAll_cons_mk (shut_bool Try.underlying4 _) trodAll_mk0, (trodAll_cons_mk (list_shut h0 l0 hg) (trodAll_cons_mk (shut_int Try.underlying3 m1) trodAll_mk0)), rfl, hg.frame _, fun h => by cases h⟩

/-- THE STATEMENT. -/
theorem proved : Rows.WindowOldSaid :=
  OpenClaim.holds_of_wide 6 Try.f6 rfl rfl rfl rfl rfl rfl rfl ⟨rfl, rfl, rfl, rfl, rfl⟩ rfl rfl rfl rfl rfl (by kernel_rfl) Try.func6 (by kernel_rfl)
    (of_decide_eq_true (by kernel_rfl)) (by unfold Func.isWrapper; first | (rw [if_pos (by decide +kernel)]; kernel_rfl) | (rw [if_neg (by decide +kernel)]; exact ⟨rfl, rfl⟩))
    (fun os started H enc _ => lifted os started H enc)
end Go.Proofs.Ytcbneedlkhiahaa.windowOld
