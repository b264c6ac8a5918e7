/-
  WindowOnce: whatever numbers come into a window, the call returns true: no number is taken twice, whatever came meanwhile; what was refused changes nothing.
-/
import Derived.Test.YtcbneedlkhiahaaWinList
import Derived.Test.YtcbneedlkhiahaaIntSet
import Derived.Test.YtcbneedlkhiahaaListRow
namespace Go.Proofs.Ytcbneedlkhiahaa.windowOnce
open Go.ChangeShapes Go.WideShapes Go.ChangeAt Go.RowKit
open win

theorem wf_at {n : Nat} (h : n ≤ 1099511627776) : (Lit.int .i64 (n : Int)).wf = true := by
  have h0 : IntKind.i64.min = -9223372036854775808 := rfl
  have h1 : IntKind.i64.max = 9223372036854775807 := rfl
  simp [Lit.wf]
  omega
set_option maxRecDepth 100000 in
set_option maxHeartbeats 1600000 in
theorem walk (w : World) (a : Option Addr) (n c : Nat) (zs : List Int) (hi : Ints w w.heap.size a n zs) (hr : n * 8 ≤ reachBytes) (_hz : ∀ z ∈ zs, (Lit.int .i64 z).wf = true) :
    Calls Try.prog 4 #[.slice a n c] w fun e w' => e = .returned (.bool true) ∧ Below w.heap.size w w' := by
  have hrb : reachBytes < 140737488355328 := by decide
  have f0 := windows_any w none 0 0 [] (Ints.nil _ _ _) (by decide)
  have hmm := @run_makeMap Try.prog
  have hn : n < 140737488355328 := by omega
  have hl := hi.len
  clear hr hrb
  obtain ⟨B, hBd⟩ : ∃ B, w.heap.size = B := ⟨_, rfl⟩
  rw [hBd] at f0 hi ⊢
  go_enter Try.func4, Try.ntmps4
  go_wp2_with (go_at_call 14; (with_reducible refine f0.mono ?_); rintro e w1 ⟨rfl, ⟨N0, T0, hB0, hI0⟩, hX0⟩)
  clear f0
  have hS0 := Seen.made w1
  have hX1 := hX0.alloc (Nat.le_of_lt hB0.lt) (.map #[] 0)
  have hB1 := hB0.alloc (.map #[] 0)
  obtain ⟨M, hM⟩ : ∃ M, w1.heap.size = M := ⟨_, rfl⟩
  have hBM : B < M := by rw [← hM]; exact hB0.lt
  rw [hM] at hS0 ⊢
  clear hB0 hX0 hM hmm
  generalize w1.alloc (.map #[] 0) = w2 at *
  go_loopw [15] (fun i wr => ∃ (k N T : Nat) (L : List Int), k ≤ n ∧ i = .int .i64 k ∧ W2 wr B N T ∧ Inv L N T ∧ Seen wr M k (fun x => decide (x ∈ L)) ∧ Below B w wr) (fun i _ => n - (intOf i).toNat)
  case atStart => exact ⟨0, N0, T0, [], Nat.zero_le _, rfl, hB1, hI0, hS0, hX1⟩
  case round =>
    clear hB1 hI0 hS0 hX1
    obtain ⟨k, N, T, L, hk, rfl, hB, hI, hS, hX⟩ := hrel
    by_cases hlt : k < n
    · obtain ⟨b, off, hix, hbB, hc⟩ := (hi.below hX (Nat.le_refl _)).at c k hlt (by omega)
      have f1 := Next_any B N T
      have f2 := Check_any B N T (zs[k]'(by omega)) hI.nb hI.tb
      have f3 := Take_any B N T (zs[k]'(by omega)) hI.nb hI.tb
      have hst := hI.step (zs[k]'(by omega))
      have hE := hI.chk (zs[k]'(by omega))
      generalize zs[k]'(by omega) = x at *
      have HL : Hid (Ints w B a n zs) := hi
      clear hi hl
      by_cases h0 : chk N T x = 0
      · obtain ⟨m, rfl, hm, _⟩ := chk_zero h0
        have hNN := tN_zero h0
        rw [h0] at hE f2 f3
        have hnot := rchk_not hE.symm
        rw [rL_zero hE.symm] at hst
        have f4 := Check_any B (tN N T m) (tT N T m) (m : Int) hst.nb hst.tb
        rw [hst.chk, rchk_mem (by omega) (by omega) (List.mem_append_right _ (List.mem_singleton.2 rfl))] at f4
        have f5 := Next_any B (tN N T m) (tT N T m)
        have HI : Hid (Inv (L ++ [(m : Int)]) (tN N T m) (tT N T m)) := hst
        generalize tN N T m = N' at *
        generalize tT N T m = T' at *
        obtain ⟨g1, g2⟩ := hNN
        have hwf := wf_at hm
        have HS : Hid (decide ((m : Int) ∈ L) = false) := decide_eq_false hnot
        clear hst hE h0 hnot hI hm
        go_wp2_with (first
          | (go_at_call 12; (first | (with_reducible refine (f1 _ (by assumption)).mono ?_) | (with_reducible refine (f5 _ (by assumption)).mono ?_)); rintro e w3 ⟨rfl, hq⟩; have hq := hq.symm; subst hq)
          | (go_at_call 8; (first | (with_reducible refine (f2 _ (by assumption)).mono ?_) | (with_reducible refine (f4 _ (by assumption)).mono ?_)); rintro e w3 ⟨rfl, hq⟩; have hq := hq.symm; subst hq)
          | (go_at_call 10; (with_reducible refine (f3 _ (by assumption)).mono ?_); rintro e w3 ⟨rfl, hB3, hG3⟩
             have hS3 := hS.kept hG3 (fun e => by cases e; omega)
             have hX3 := hX.grown hG3 (Nat.le_of_lt hB.lt) (fun j hj => by cases hj; exact Nat.le_refl _)
             have hlk := hS3.look m hwf
             rw [HS.out] at hlk)
          | (at_mapUpdate; refine wpList_seen rfl _ _ _ rfl M k _ rfl hS3 (by unfold maxLen; omega) _ rfl rfl hwf ?_; intro w4 hS4 hG4
             have hB4 := hB3.but hG4 (fun e => by cases e; omega)
             have hX4 := hX3.grown hG4 (Nat.le_of_lt hB3.lt) (fun j hj => by cases hj; omega)))
        go_roundw
        case rel => exact ⟨k + 1, N', T', L ++ [(m : Int)], by omega, by go_num, hB4, HI.out, hS4.same (fun y => by rw [← Bool.decide_or]; exact decide_eq_decide.2 (by rw [List.mem_append, List.mem_singleton])), hX4⟩
        case measure => simp [intOf]; omega
      · have hne : rchk L x ≠ 0 := fun e => h0 (by rw [hE]; exact e)
        obtain ⟨e1, e2⟩ := tN_not h0
        rw [rL_not hne, e1, e2] at hst
        rw [e1, e2] at f3
        have tE : (chk N T x == 0) = false := by rw [beq_eq_false_iff_ne]; exact h0
        have tF : (chk N T x != 0) = true := by rw [bne_iff_ne]; exact h0
        generalize chk N T x = E at *
        have HI : Hid (Inv L N T) := hI
        clear hst hE h0 hne hI e1 e2
        go_wp2_with (first
          | (go_at_call 12; (with_reducible refine (f1 _ (by assumption)).mono ?_); rintro e w3 ⟨rfl, hq⟩; have hq := hq.symm; subst hq)
          | (go_at_call 8; (with_reducible refine (f2 _ (by assumption)).mono ?_); rintro e w3 ⟨rfl, hq⟩; have hq := hq.symm; subst hq)
          | (go_at_call 10; (with_reducible refine (f3 _ (by assumption)).mono ?_); rintro e w3 ⟨rfl, hB3, hG3⟩
             have hS3 := hS.kept hG3 (fun e => by cases e; omega)
             have hX3 := hX.grown hG3 (Nat.le_of_lt hB.lt) (fun j hj => by cases hj; exact Nat.le_refl _)))
        go_roundw
        case rel => exact ⟨k + 1, N, T, L, by omega, by go_num, hB3, HI.out, hS3.mono (Nat.le_succ _), hX3⟩
        case measure => simp [intOf]; omega
    · obtain rfl : k = n := by omega
      clear hi
      go_wp2_with fail
      go_ret
      exact ⟨rfl, hX⟩

/-! ### The row's step -/
set_option maxRecDepth 100000 in
theorem lifted (os : Os) (started : os.Started) (H : Type) (enc : TypeId × Value → H) :
    ReturnsInHanded {} Try.checked os 4 .any (Rows.windowOnceSpec.pre6 enc Try.prog Try.f4 Rows.windowOnceRow.domain false) (Rows.windowOnceSpec.post enc Try.prog Try.f4 false true false false) := by
  refine returnsInHanded_of_change_sized (C := Try.checked) own started (by kernel_rfl) Try.func4
    (ChangeSpec.witness6 (enc := enc) (C := Try.checked) false ⟨#[], #[.slice none 0 0], []⟩ 8 (by kernel_rfl) (by kernel_rfl) (by kernel_rfl) (by kernel_rfl)) ?_
  intro W base args ds gs before hval0 hW _ hz0 _
  have hz : (DataW.weightsEach Try.prog (Try.f4.params.toList ++ Rows.windowOnceSpec.plain.varTypes Try.prog) (ds ++ gs)).all (· ≤ reachBytes) = true := hz0
  clear hz0
  have hval : ∀ (j : Nat) t v, Try.f4.params[j]? = some t → args[j]? = some v → Value.okWide Try.prog W .any base t v := hval0
  have hW' := hW
  obtain ⟨p, q, hA0, hV, rfl, hfz, hnd⟩ := hW
  have hA : DataW.TrodAll enc Try.prog W 0 (fun _ => true) true Try.f4.params.toList args.toList ds p := hA0
  rw [Try.params4] at hA hval hz
  obtain ⟨v0, vs0, d0, ds0, p0, q0, hargs, rfl, rfl, h0, r0⟩ := trodAll_cons hA
  obtain ⟨rfl, rfl, rfl⟩ := trodAll_nil r0
  obtain rfl : args = #[v0] := by cases args; simp_all
  obtain ⟨rfl, rfl⟩ := trodVars_none hV
  obtain ⟨a0, n0, c0, rfl⟩ := okWide_slice Try.underlying22 (hval 0 22 v0 rfl rfl)
  have l0 : ∀ x ∈ p0, x.block < W.heap.size := fun x hx => by
    have := hW'.lt x (by simp [hx])
    simpa using this
  obtain ⟨z0, i0, b0, e0⟩ := list_open h0 l0
  have y0 : n0 * 8 ≤ reachBytes := by
    rcases e0 with ⟨_, e0⟩ | ⟨es, sp, e0, g0⟩
    · rw [e0]; decide
    · have h := sized_slice hz (j := 0) (t := 22) (e := 3) (by rfl) (by rw [e0]; rfl) Try.underlying22
      rw [bytesINT] at h
      try simp only [List.length_append] at h
      omega
  clear hA0 hval0 hz
  simp only [List.append_nil] at hW'
  refine (walk W a0 n0 c0 z0 i0 y0 b0).mono fun e W' ⟨he, hg⟩ => ?_
  subst he
  exact ⟨_, rfl, _, _, _, [], (p0 ++ []), [], hW', trodAll_cons_mk (shut_bool Try.underlying4 _) trodAll_mk0, (trodAll_cons_mk (list_shut h0 l0 hg) trodAll_mk0), rfl, hg.frame _, fun h => by cases h⟩

/-- THE STATEMENT. -/
theorem proved : Rows.WindowOnceSaid :=
  OpenClaim.holds_of_wide 4 Try.f4 rfl rfl rfl rfl rfl rfl rfl ⟨rfl, rfl, rfl, rfl, rfl⟩ rfl rfl rfl rfl rfl (by kernel_rfl) Try.func4 (by kernel_rfl)
    (of_decide_eq_true (by kernel_rfl)) (by unfold Func.isWrapper; first | (rw [if_pos (by decide +kernel)]; kernel_rfl) | (rw [if_neg (by decide +kernel)]; exact ⟨rfl, rfl⟩))
    (fun os started H enc _ => lifted os started H enc)
end Go.Proofs.Ytcbneedlkhiahaa.windowOnce
