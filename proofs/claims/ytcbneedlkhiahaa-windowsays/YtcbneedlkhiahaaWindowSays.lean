/-
  WindowSays: whatever numbers come, in whatever order, the call returns true: Check, Take and Next of a window answer what the document's window answers, which keeps all that was taken.
-/
import Derived.Test.YtcbneedlkhiahaaWinTake
import Derived.Test.YtcbneedlkhiahaaRefWin
import Derived.Test.YtcbneedlkhiahaaListRow
namespace Go.Proofs.Ytcbneedlkhiahaa.windowSays
open Go.ChangeShapes Go.WideShapes Go.ChangeAt Go.RowKit
open win rwin

theorem rL_len (L : List Int) (n : Int) : (rL L n).length ≤ L.length + 1 := by
  unfold rL
  split <;> simp
set_option maxRecDepth 100000 in
set_option maxHeartbeats 3200000 in
theorem walk (w : World) (a : Option Addr) (n c : Nat) (zs : List Int) (hi : Ints w w.heap.size a n zs) (hr : n * 8 ≤ reachBytes) (_hz : ∀ z ∈ zs, (Lit.int .i64 z).wf = true) :
    Calls Try.prog 3 #[.slice a n c] w fun e w' => e = .returned (.bool true) ∧ Below w.heap.size w w' := by
  have hrb : reachBytes < 140737488355328 := by decide
  have hn : n < 17592186044416 := by omega
  have f0 := New_any w
  have hB0 : W2 (w.alloc (.cells #[.int .i64 0, .int .u64 0] 39)) w.heap.size 0 0 := Blk.new w 39 _ _ rfl
  have hX0 : Below w.heap.size w (w.alloc (.cells #[.int .i64 0, .int .u64 0] 39)) := (Below.refl _ _).alloc (Nat.le_refl _) _
  obtain ⟨w1, hw1⟩ : ∃ w1, w.alloc (.cells #[.int .i64 0, .int .u64 0] 39) = w1 := ⟨_, rfl⟩
  have hs1 : w1.heap.size = w.heap.size + 1 := by rw [← hw1]; simp
  rw [hw1] at f0 hB0 hX0
  have hB1 : W2 (w1.alloc (.cells #[.slice none 0 0] 27)) w.heap.size 0 0 := hB0.alloc _
  have hR1 : RW (w1.alloc (.cells #[.slice none 0 0] 27)) (w.heap.size + 1) (w.heap.size + 2) [] := by
    refine ⟨⟨none, 0, ?_, World.ownsRow_nil _ _ _ _⟩, by omega⟩
    have := Blk.new w1 27 [.slice none 0 0] _ rfl
    rw [hs1] at this
    exact this
  have hX1 : Below w.heap.size w (w1.alloc (.cells #[.slice none 0 0] 27)) := hX0.alloc (by omega) _
  have hz1 : w.heap.size + 2 ≤ (w1.alloc (.cells #[.slice none 0 0] 27)).heap.size := by simp [hs1]
  clear hB0 hX0 hr hrb hw1
  obtain ⟨B, hBd⟩ : ∃ B, w.heap.size = B := ⟨_, rfl⟩
  rw [hBd] at f0 hi hB1 hR1 hX1 hz1 hs1 ⊢
  have HI : Hid (Ints w B a n zs) := hi
  clear hi
  go_enter Try.func3, Try.ntmps3
  go_wp2_with (go_at_call 7; (with_reducible refine f0.mono ?_); rintro e w3 ⟨rfl, hq⟩; have hq := hq.symm; subst hq)
  generalize w1.alloc (.cells #[.slice none 0 0] 27) = w2 at *
  obtain ⟨D, hD⟩ : ∃ D, B + 1 = D := ⟨_, rfl⟩
  obtain ⟨C, hC⟩ : ∃ C, B + 2 = C := ⟨_, rfl⟩
  rw [hD] at hR1 ⊢
  rw [hC] at hR1 hz1
  have hBD : B < D := by omega
  have hDC : D < C := by omega
  clear hD hC hs1 f0
  go_loopw [14] (fun i wr => ∃ (k N T : Nat) (L : List Int), k ≤ n ∧ i = .int .i64 k ∧ W2 wr B N T ∧ Inv L N T ∧ RW wr D C L ∧ L.length ≤ k ∧ C ≤ wr.heap.size ∧ Below B w wr) (fun i _ => n - (intOf i).toNat)
  case atStart => exact ⟨0, 0, 0, [], Nat.zero_le _, rfl, hB1, Inv.nil, hR1, Nat.le_refl _, hz1, hX1⟩
  case round =>
    clear hB1 hR1 hz1 hX1
    obtain ⟨k, N, T, L, hk, rfl, hB, hI, hR, hlen, hz, hX⟩ := hrel
    by_cases hlt : k < n
    · obtain ⟨b, off, hix, hbB, hc⟩ := (HI.out.below hX (Nat.le_refl _)).at c k hlt (by have := HI.out.len; omega)
      generalize zs[k]'(by have := HI.out.len; omega) = x at *
      have hL : ∀ y ∈ L, 0 ≤ y ∧ y ≤ 1099511627776 := fun y hy => by have h1 := hI.mem y hy; have h2 := hI.nb; omega
      have f1 := Check_any B N T x hI.nb hI.tb
      have f2 := check_any D C L hL (by omega) x
      rw [hI.chk] at f1
      obtain ⟨r, hr⟩ : ∃ r, r = k % 3 := ⟨_, rfl⟩
      have e1 : Int.tmod (k : Int) 3 = (r : Int) := by rw [hr]; rw [Int.tmod_eq_emod_of_nonneg (by omega)]; omega
      by_cases h3 : r = 0
      · subst h3
        have e1' : Int.tmod (k : Int) 3 = 0 := e1
        have f3 := Next_any B N T
        have f4 := next_any D C L hL (by omega)
        rw [hI.top] at f4
        have HI2 : Hid (Inv L N T) := hI
        generalize rchk L x = E at *
        clear hr e1 hL hI
        go_wp2_with (first
          | (go_at_call 8; (with_reducible refine (f1 _ (by assumption)).mono ?_); rintro e w3 ⟨rfl, hq⟩; have hq := hq.symm; subst hq)
          | (go_at_call 9; (with_reducible refine (f2 _ (by assumption)).mono ?_); rintro e w3 ⟨rfl, hq⟩; have hq := hq.symm; subst hq)
          | (go_at_call 12; (with_reducible refine (f3 _ (by assumption)).mono ?_); rintro e w3 ⟨rfl, hq⟩; have hq := hq.symm; subst hq)
          | (go_at_call 13; (with_reducible refine (f4 _ (by assumption)).mono ?_); rintro e w3 ⟨rfl, hq⟩; have hq := hq.symm; subst hq))
        go_roundw
        case rel => exact ⟨k + 1, N, T, L, by omega, by go_num, hB, HI2.out, hR, by omega, hz, hX⟩
        case measure => simp [intOf]; omega
      · have h3' : 0 < r := by omega
        have d3 : decide ((r : Int) > 0) = true := decide_eq_true (by omega)
        have f5 := Take_any B N T x hI.nb hI.tb
        rw [hI.chk] at f5
        have f6 := take_any D C L hL (by omega) x
        have hst := hI.step x
        have hlen' := rL_len L x
        have HI2 : Hid (Inv (rL L x) (tN N T x) (tT N T x)) := hst
        have f3 := Next_any B (tN N T x) (tT N T x)
        have f4 := next_any D C (rL L x) (fun y hy => by have h1 := hst.mem y hy; have h2 := hst.nb; omega) (by omega)
        rw [hst.top] at f4
        generalize rL L x = L' at *
        generalize rchk L x = E at *
        generalize tN N T x = N' at *
        generalize tT N T x = T' at *
        clear hr hL hI hst h3
        go_wp2_with (first
          | (go_at_call 8; (with_reducible refine (f1 _ (by assumption)).mono ?_); rintro e w3 ⟨rfl, hq⟩; have hq := hq.symm; subst hq)
          | (go_at_call 9; (with_reducible refine (f2 _ (by assumption)).mono ?_); rintro e w3 ⟨rfl, hq⟩; have hq := hq.symm; subst hq)
          | (go_at_call 10; (with_reducible refine (f5 _ (by assumption)).mono ?_); rintro e w3 ⟨rfl, hB3, hG3⟩
             have hR3 := hR.but hG3 (by omega) (by omega)
             have hX3 := hX.grown hG3 (Nat.le_of_lt hB.lt) (fun j hj => by cases hj; exact Nat.le_refl _)
             have hz3 := Nat.le_trans hz hG3.size)
          | (go_at_call 11; (with_reducible refine (f6 _ (by assumption) (by assumption)).mono ?_); rintro e w4 ⟨rfl, hR4, hb4⟩
             have hB4 := hB3.below hb4 hBD
             have hX4 := hX3.trans (hb4.mono (Nat.le_of_lt hBD))
             have hz4 := Nat.le_trans hz3 hb4.size)
          | (go_at_call 12; (with_reducible refine (f3 _ (by assumption)).mono ?_); rintro e w3 ⟨rfl, hq⟩; have hq := hq.symm; subst hq)
          | (go_at_call 13; (with_reducible refine (f4 _ (by assumption)).mono ?_); rintro e w3 ⟨rfl, hq⟩; have hq := hq.symm; subst hq))
        go_roundw
        case rel => exact ⟨k + 1, N', T', L', by omega, by go_num, hB4, HI2.out, hR4, by omega, hz4, hX4⟩
        case measure => simp [intOf]; omega
    · obtain rfl : k = n := by omega
      have f1 : ∀ W, W2 W B N T → Calls Try.prog 8 #[.pointer (some ⟨B, 0, none⟩), .int .i64 (-1)] W fun e w' => e = .returned (.int .i64 1) ∧ w' = W := by
        have := Check_any B N T (-1) hI.nb hI.tb
        rw [chk_arg (.inl (by decide))] at this
        exact this
      clear hI hR
      go_wp2_with (go_at_call 8; (with_reducible refine (f1 _ (by assumption)).mono ?_); rintro e w3 ⟨rfl, hq⟩; have hq := hq.symm; subst hq)
      go_ret
      exact ⟨rfl, hX⟩

/-! ### The row's step -/
set_option maxRecDepth 100000 in
theorem lifted (os : Os) (started : os.Started) (H : Type) (enc : TypeId × Value → H) :
    ReturnsInHanded {} Try.checked os 3 .any (Rows.windowSaysSpec.pre6 enc Try.prog Try.f3 Rows.windowSaysRow.domain false) (Rows.windowSaysSpec.post enc Try.prog Try.f3 false true false false) := by
  refine returnsInHanded_of_change_sized (C := Try.checked) own started (by kernel_rfl) Try.func3
    (ChangeSpec.witness6 (enc := enc) (C := Try.checked) false ⟨#[], #[.slice none 0 0], []⟩ 8 (by kernel_rfl) (by kernel_rfl) (by kernel_rfl) (by kernel_rfl)) ?_
  intro W base args ds gs before hval0 hW _ hz0 _
  have hz : (DataW.weightsEach Try.prog (Try.f3.params.toList ++ Rows.windowSaysSpec.plain.varTypes Try.prog) (ds ++ gs)).all (· ≤ reachBytes) = true := hz0
  clear hz0
  have hval : ∀ (j : Nat) t v, Try.f3.params[j]? = some t → args[j]? = some v → Value.okWide Try.prog W .any base t v := hval0
  have hW' := hW
  obtain ⟨p, q, hA0, hV, rfl, hfz, hnd⟩ := hW
  have hA : DataW.TrodAll enc Try.prog W 0 (fun _ => true) true Try.f3.params.toList args.toList ds p := hA0
  rw [Try.params3] at hA hval hz
  obtain ⟨v0, vs0, d0, ds0, p0, q0, hargs, rfl, rfl, h0, r0⟩ := trodAll_cons hA
  obtain ⟨rfl, rfl, rfl⟩ := trodAll_nil r0
  obtain rfl : args = #[v0] := by cases args; simp_all
  obtain ⟨rfl, rfl⟩ := trodVars_none hV
  obtain ⟨a0, n0, c0, rfl⟩ := okWide_slice Try.underlying22 (hval 0 22 v0 rfl rfl)
  have l0 : ∀ x ∈ p0, x.block < W.heap.size := fun x hx => by
    have := hW'.lt x (by simp [hx])
    simpa using this
  obtain ⟨z0, i0, b0, e0⟩ := list_open h0 l0
  have y0 : n0 * 8 ≤ reachBytes := by
    rcases e0 with ⟨_, e0⟩ | ⟨es, sp, e0, g0⟩
    · rw [e0]; decide
    · have h := sized_slice hz (j := 0) (t := 22) (e := 3) (by rfl) (by rw [e0]; rfl) Try.underlying22
      rw [bytesINT] at h
      try simp only [List.length_append] at h
      omega
  clear hA0 hval0 hz
  simp only [List.append_nil] at hW'
  refine (walk W a0 n0 c0 z0 i0 y0 b0).mono fun e W' ⟨he, hg⟩ => ?_
  subst he
  exact ⟨_, rfl, _, _, _, [], (p0 ++ []), [], hW', trodAll_cons_mk (shut_bool Try.underlying4 _) trodAll_mk0, (trodAll_cons_mk (list_shut h0 l0 hg) trodAll_mk0), rfl, hg.frame _, fun h => by cases h⟩

/-- THE STATEMENT. -/
theorem proved : Rows.WindowSaysSaid :=
  OpenClaim.holds_of_wide 3 Try.f3 rfl rfl rfl rfl rfl rfl rfl ⟨rfl, rfl, rfl, rfl, rfl⟩ rfl rfl rfl rfl rfl (by kernel_rfl) Try.func3 (by kernel_rfl)
    (of_decide_eq_true (by kernel_rfl)) (by unfold Func.isWrapper; first | (rw [if_pos (by decide +kernel)]; kernel_rfl) | (rw [if_neg (by decide +kernel)]; exact ⟨rfl, rfl⟩))
    (fun os started H enc _ => lifted os started H enc)
end Go.Proofs.Ytcbneedlkhiahaa.windowSays
