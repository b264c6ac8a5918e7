/-
  WindowAll: whatever number and lists of numbers are handed in, the call returns true: numbers side by side, no more than 64, are all taken, each once, in whatever order they come, whatever lower ones came before.
-/
import Derived.Test.YtcbneedlkhiahaaWinList
import Derived.Test.YtcbneedlkhiahaaIntSet
import Derived.Test.YtcbneedlkhiahaaKeepRest
import Derived.Test.YtcbneedlkhiahaaListRow
import Derived.Deep.AppendLies
namespace Go.Proofs.Ytcbneedlkhiahaa.windowAll
open Go.ChangeShapes Go.WideShapes Go.ChangeAt Go.RowKit
open win

theorem wf_at {n : Nat} (h : n ≤ 1099511627776) : (Lit.int .i64 (n : Int)).wf = true := by
  have h0 : IntKind.i64.min = -9223372036854775808 := rfl
  have h1 : IntKind.i64.max = 9223372036854775807 := rfl
  simp [Lit.wf]
  omega
set_option maxRecDepth 100000 in
set_option maxHeartbeats 3200000 in
theorem walk (w : World) (m0 : Int) (hm0 : (Lit.int .i64 m0).wf = true) (a1 : Option Addr) (n1 c1 : Nat) (z1 : List Int) (hi1 : Ints w w.heap.size a1 n1 z1) (hr1 : n1 * 8 ≤ reachBytes) (hz1 : ∀ z ∈ z1, (Lit.int .i64 z).wf = true)
    (a2 : Option Addr) (n2 c2 : Nat) (z2 : List Int) (hi2 : Ints w w.heap.size a2 n2 z2) (hr2 : n2 * 8 ≤ reachBytes) (hz2 : ∀ z ∈ z2, (Lit.int .i64 z).wf = true) :
    Calls Try.prog 5 #[.int .i64 m0, .slice a1 n1 c1, .slice a2 n2 c2] w fun e w' => e = .returned (.bool true) ∧ Below w.heap.size w w' := by
  have hrb : reachBytes < 140737488355328 := by decide
  have hn1 : n1 < 17592186044416 := by omega
  have hn2 : n2 < 17592186044416 := by omega
  have hb0 := bounds_i64 hm0
  have g0 : ∀ W, Calls Try.prog 15 #[.int .i64 m0, .int .i64 549755813888] W fun e w' => e = .returned (.int .i64 (((m0 % 549755813888).toNat : Nat) : Int)) ∧ w' = W := rest_any m0 549755813888 (by decide) (by decide) hb0
  obtain ⟨f, hf⟩ : ∃ f, f = (m0 % 549755813888).toNat := ⟨_, rfl⟩
  have f2 : f < 549755813888 := by omega
  rw [← hf] at g0
  have hmm := @run_makeMap Try.prog
  have HZ1 : Hid (∀ z ∈ z1, (Lit.int .i64 z).wf = true) := hz1
  have HZ2 : Hid (∀ z ∈ z2, (Lit.int .i64 z).wf = true) := hz2
  obtain ⟨B, hBd⟩ : ∃ B, w.heap.size = B := ⟨_, rfl⟩
  have HI1 : Hid (Ints w B a1 n1 z1) := by rw [← hBd]; exact hi1
  have HI2 : Hid (Ints w B a2 n2 z2) := by rw [← hBd]; exact hi2
  have hX0 : Below B w w := Below.refl _ _
  have hB0 : B ≤ w.heap.size := Nat.le_of_eq hBd.symm
  rw [hBd]
  obtain ⟨g, hg⟩ : ∃ g, g = f + 1 := ⟨_, rfl⟩
  have eg : (f : Int) + 1 = (g : Int) := by omega
  have HG : Hid (g = f + 1) := hg
  have gb : g ≤ 549755813888 := by omega
  obtain ⟨i0, hi, hz0, hz1', hz2'⟩ := info_parts infoINT
  clear hrb hr1 hr2 hb0 hf hi1 hi2 hz1 hz2 hm0 hg
  go_enter Try.func5, Try.ntmps5
  go_wp2_with (go_at_call 15; (with_reducible refine (g0 _).mono ?_); rintro e w1 ⟨rfl, hq⟩; have hq := hq.symm; subst hq)
  clear g0
  go_loopw [7, 19] (fun u i wr => ∃ (k : Nat) (a : Option Addr) (cap : Nat) (xs : List Int), k ≤ n2 ∧ i = .int .i64 k ∧ u = .slice a k cap ∧ wr.ownsRow B 3 1 (.slice a k cap) k (xs.map (Value.int .i64)) ∧ (∀ x ∈ xs, x < (f : Int)) ∧ Below B w wr) (fun _ i _ => n2 - (intOf i).toNat)
  case atStart => exact ⟨0, none, 0, [], Nat.zero_le _, rfl, rfl, World.ownsRow_nil _ _ _ _, fun x h => (nomatch h), hX0⟩
  case round =>
    clear hX0
    obtain ⟨k, a, cap, xs, hk, rfl, rfl, hown, hxs, hX⟩ := hrel
    have hBr : B ≤ wr.heap.size := Nat.le_trans hB0 hX.size
    by_cases hlt : k < n2
    · have hlen := HI2.out.len
      obtain ⟨b, off, hix, hbB, hc⟩ := (HI2.out.below hX (Nat.le_refl _)).at c2 k hlt (by omega)
      have hbx := bounds_i64 (HZ2.out (z2[k]'(by omega)) (List.getElem_mem _))
      generalize z2[k]'(by omega) = x at *
      have g1 : ∀ W, Calls Try.prog 15 #[.int .i64 x, .int .i64 (g : Int)] W fun e w' => e = .returned (.int .i64 (((x % (g : Int)).toNat : Nat) : Int)) ∧ w' = W := rest_any x g (by omega) (by omega) hbx
      obtain ⟨r, hr⟩ : ∃ r, r = (x % (g : Int)).toNat := ⟨_, rfl⟩
      have hr2 : r < g := by
        have h1 := Int.emod_lt_of_pos x (show (0 : Int) < (g : Int) by omega)
        omega
      rw [← hr] at g1
      obtain ⟨y, hy⟩ : ∃ y, (r : Int) - 1 = y := ⟨_, rfl⟩
      have hyf : y < (f : Int) := by have := HG.out; omega
      have hy1 : -1 ≤ y := by omega
      have hy2 : y ≤ 549755813888 := by omega
      have hxs' : ∀ z ∈ xs ++ [y], z < (f : Int) := fun z hz => by
        rcases List.mem_append.1 hz with hz | hz
        · exact hxs z hz
        · rw [List.mem_singleton.1 hz]; exact hyf
      have HX : Hid (∀ z ∈ xs ++ [y], z < (f : Int)) := hxs'
      have hrow := hown.lt
      have HR : Hid (∀ j, (Value.slice a k cap).ownBlock = some j → B ≤ j) := fun j hj => (hrow j hj).1
      have HW : Hid (wr.ownsRow B 3 1 (.slice a k cap) k (xs.map (Value.int .i64))) := hown
      clear hr hxs hxs' hrow hown hlen hbx hyf
      go_wp2_with (first
        | (go_at_call 15; (with_reducible refine (g1 _).mono ?_); rintro e w3 ⟨rfl, hq⟩; have hq := hq.symm; subst hq)
        | (at_builtin; refine wpList_append_lies _ rfl _ _ 22 rfl B 3 i0 _ 1 8 Try.underlying22 hi hz0 hz1' hz2' rfl (by omega) _ k _ rfl (HW.out.alloc _) ⟨wr.heap.size, 0, none⟩ 1 1 [.int .i64 y] rfl rfl (World.news_of_block (cs := #[.int .i64 y]) (t := 3) (fr := (0, 0)) (heap_alloc_new wr _)) (by simp [Value.oneCell']) (by omega) (by unfold maxLen; omega) (by omega) (by simp; omega) (wr.heap.size + 1) (by simp) ?_; intro gg cap1 w4 hown4 hgrow4 hat hltg))
      go_roundw
      case rel => exact ⟨k + 1, some ⟨gg, 0, none⟩, cap1, xs ++ [y], by omega, by go_num, rfl, by rw [List.map_append]; exact hown4, HX.out, (hX.alloc hBr _).grown hgrow4 (by simp; omega) HR.out⟩
      case measure => simp [intOf]; omega
    · obtain rfl : k = n2 := by omega
      have hin := Ints.own hown
      have f1 := windows_any wr a k cap xs hin (by omega)
      obtain ⟨C, hC⟩ : ∃ C, wr.heap.size = C := ⟨_, rfl⟩
      rw [hC] at f1 hBr
      clear hin hown HI2 HZ2 hi hz0 hz1' hz2' HG eg gb
      go_wp2_with (go_at_call 14; (with_reducible refine f1.mono ?_); rintro e w1 ⟨rfl, ⟨N0, T0, hW0, hI0⟩, hX0⟩)
      have hL0 : ∀ x ∈ rAll xs [], x < (f : Int) := fun x hx => by
        rcases rAll_sub xs hx with h | h
        · exact nomatch h
        · exact hxs x h
      generalize rAll xs [] = L0 at *
      clear f1 hxs
      have hX1 : Below B w w1 := hX.trans (hX0.mono hBr)
      have hX2 := hX1.alloc (Nat.le_trans hBr (Nat.le_of_lt hW0.lt)) (.map #[] 0)
      have hS0 := Seen.made w1
      have hB1 := hW0.alloc (.map #[] 0)
      obtain ⟨M, hM⟩ : ∃ M, w1.heap.size = M := ⟨_, rfl⟩
      have hCM : C < M := by rw [← hM]; exact hW0.lt
      rw [hM] at hS0 ⊢
      clear hW0 hX0 hX1 hX hM hmm
      generalize w1.alloc (.map #[] 0) = w2 at *
      go_loopw [39] (fun i wr => ∃ (k N T : Nat) (L : List Int), k ≤ n1 ∧ i = .int .i64 k ∧ W2 wr C N T ∧ Inv L N T ∧ (∀ x ∈ L, x < (f : Int) + 64) ∧ Seen wr M k (fun x => decide (x ∈ L ∧ (f : Int) ≤ x)) ∧ Below B w wr) (fun i _ => n1 - (intOf i).toNat)
      case atStart => exact ⟨0, N0, T0, L0, Nat.zero_le _, rfl, hB1, hI0, fun x hx => by have := hL0 x hx; omega, hS0.same (fun x => (decide_eq_false (fun h => by have := hL0 x h.1; omega)).symm), hX2⟩
      case round =>
        clear hB1 hI0 hS0 hX2 hL0
        obtain ⟨q, N, T, L, hq, rfl, hB, hI, hL, hS, hX⟩ := hrel
        by_cases hlt : q < n1
        · have hlen := HI1.out.len
          obtain ⟨b, off, hix, hbB, hc⟩ := (HI1.out.below hX (Nat.le_refl _)).at c1 q hlt (by omega)
          have hbx := bounds_i64 (HZ1.out (z1[q]'(by omega)) (List.getElem_mem _))
          generalize z1[q]'(by omega) = x at *
          have g1 : ∀ W, Calls Try.prog 15 #[.int .i64 x, .int .i64 64] W fun e w' => e = .returned (.int .i64 (((x % 64).toNat : Nat) : Int)) ∧ w' = W := rest_any x 64 (by decide) (by decide) hbx
          obtain ⟨r, hr⟩ : ∃ r, r = (x % 64).toNat := ⟨_, rfl⟩
          have hr2 : r < 64 := by omega
          rw [← hr] at g1
          obtain ⟨m, hm⟩ : ∃ m, m = f + r := ⟨_, rfl⟩
          have em : (f : Int) + (r : Int) = (m : Int) := by omega
          have hmf : (f : Int) ≤ (m : Int) := by omega
          have hmb : m ≤ 1099511627776 := by omega
          have hm64 : (m : Int) < (f : Int) + 64 := by omega
          have f3 := Take_any C N T (m : Int) hI.nb hI.tb
          have hst := hI.step (m : Int)
          have hE := hI.chk (m : Int)
          have hwf := wf_at hmb
          have hlk := hS.look m hwf
          have HB : Hid (m ≤ 1099511627776) := hmb
          clear hr hm hlen hbx
          by_cases hmem : (m : Int) ∈ L
          · rw [decide_eq_true ⟨hmem, hmf⟩] at hlk
            have h11 : rchk L m = 11 := rchk_mem (by omega) (by omega) hmem
            rw [h11] at hE
            rw [hE] at f3
            obtain ⟨e1, e2⟩ := tN_not (N := N) (T := T) (n := (m : Int)) (by rw [hE]; decide)
            rw [e1, e2] at f3
            have HI : Hid (Inv L N T) := hI
            have HL : Hid (∀ x ∈ L, x < (f : Int) + 64) := hL
            have HM : Hid ((m : Int) ∈ L ∧ (f : Int) ≤ (m : Int)) := ⟨hmem, hmf⟩
            clear hst hE h11 e1 e2 hI hL hmem
            go_wp2_with (first
              | (go_at_call 15; (with_reducible refine (g1 _).mono ?_); rintro e w3 ⟨rfl, hq⟩; have hq := hq.symm; subst hq)
              | (go_at_call 10; (with_reducible refine (f3 _ (by assumption)).mono ?_); rintro e w3 ⟨rfl, hB3, hG3⟩
                 have hS3 := hS.kept hG3 (fun e => by cases e; omega)
                 have hX3 := hX.grown hG3 (Nat.le_trans hBr (Nat.le_of_lt hB.lt)) (fun j hj => by cases hj; exact hBr))
              | (at_mapUpdate; refine wpList_seen rfl _ _ _ rfl M q _ rfl hS3 (by unfold maxLen; omega) _ rfl rfl hwf ?_; intro w4 hS4 hG4
                 have hB4 := hB3.but hG4 (fun e => by cases e; omega)
                 have hX4 := hX3.grown hG4 (Nat.le_trans hBr (Nat.le_of_lt hB3.lt)) (fun j hj => by cases hj; omega)))
            go_roundw
            case rel => exact ⟨q + 1, N, T, L, by omega, by go_num, hB4, HI.out, HL.out, hS4.same (fun y => by
              rw [← Bool.decide_or]
              refine decide_eq_decide.2 ⟨fun h => h.elim id (fun e => by rw [e]; exact HM.out), .inl⟩), hX4⟩
            case measure => simp [intOf]; omega
          · rw [decide_eq_false (fun h => hmem h.1)] at hlk
            have h11 : rchk L m = 0 := rchk_new (f := (f : Int)) (by omega) hmf (by omega) hL hmem
            rw [rL_zero h11] at hst
            rw [h11] at hE
            rw [hE] at f3
            have HI : Hid (Inv (L ++ [(m : Int)]) (tN N T m) (tT N T m)) := hst
            generalize tN N T m = N' at *
            generalize tT N T m = T' at *
            have HL : Hid (∀ x ∈ L ++ [(m : Int)], x < (f : Int) + 64) := fun z hz => by
              rcases List.mem_append.1 hz with hz | hz
              · exact hL z hz
              · rw [List.mem_singleton.1 hz]; exact hm64
            have HM : Hid ((f : Int) ≤ (m : Int)) := hmf
            clear hst hE h11 hI hL hmem
            go_wp2_with (first
              | (go_at_call 15; (with_reducible refine (g1 _).mono ?_); rintro e w3 ⟨rfl, hq⟩; have hq := hq.symm; subst hq)
              | (go_at_call 10; (with_reducible refine (f3 _ (by assumption)).mono ?_); rintro e w3 ⟨rfl, hB3, hG3⟩
                 have hS3 := hS.kept hG3 (fun e => by cases e; omega)
                 have hX3 := hX.grown hG3 (Nat.le_trans hBr (Nat.le_of_lt hB.lt)) (fun j hj => by cases hj; exact hBr))
              | (at_mapUpdate; refine wpList_seen rfl _ _ _ rfl M q _ rfl hS3 (by unfold maxLen; omega) _ rfl rfl hwf ?_; intro w4 hS4 hG4
                 have hB4 := hB3.but hG4 (fun e => by cases e; omega)
                 have hX4 := hX3.grown hG4 (Nat.le_trans hBr (Nat.le_of_lt hB3.lt)) (fun j hj => by cases hj; omega)))
            go_roundw
            case rel => exact ⟨q + 1, N', T', L ++ [(m : Int)], by omega, by go_num, hB4, HI.out, HL.out, hS4.same (fun y => by
              rw [← Bool.decide_or]
              refine decide_eq_decide.2 ⟨fun h => h.elim (fun h => ⟨List.mem_append_left _ h.1, h.2⟩) (fun e => by rw [e]; exact ⟨List.mem_append_right _ (List.mem_singleton.2 rfl), HM.out⟩), fun h => (List.mem_append.1 h.1).elim (fun h1 => .inl ⟨h1, h.2⟩) (fun h1 => .inr (List.mem_singleton.1 h1))⟩), hX4⟩
            case measure => simp [intOf]; omega
        · obtain rfl : q = n1 := by omega
          go_wp2_with fail
          go_ret
          exact ⟨rfl, hX⟩

/-! ### The row's step -/
set_option maxRecDepth 100000 in
theorem lifted (os : Os) (started : os.Started) (H : Type) (enc : TypeId × Value → H) :
    ReturnsInHanded {} Try.checked os 5 .any (Rows.windowAllSpec.pre6 enc Try.prog Try.f5 Rows.windowAllRow.domain false) (Rows.windowAllSpec.post enc Try.prog Try.f5 false true false false) := by
  refine returnsInHanded_of_change_sized (C := Try.checked) own started (by kernel_rfl) Try.func5
    (ChangeSpec.witness6 (enc := enc) (C := Try.checked) false ⟨#[], #[.int .i64 0, .slice none 0 0, .slice none 0 0], []⟩ 8 (by kernel_rfl) (by kernel_rfl) (by kernel_rfl) (by kernel_rfl)) ?_
  intro W base args ds gs before hval0 hW _ hz0 _
  have hz : (DataW.weightsEach Try.prog (Try.f5.params.toList ++ Rows.windowAllSpec.plain.varTypes Try.prog) (ds ++ gs)).all (· ≤ reachBytes) = true := hz0
  clear hz0
  have hval : ∀ (j : Nat) t v, Try.f5.params[j]? = some t → args[j]? = some v → Value.okWide Try.prog W .any base t v := hval0
  have hW' := hW
  obtain ⟨p, q, hA0, hV, rfl, hfz, hnd⟩ := hW
  have hA : DataW.TrodAll enc Try.prog W 0 (fun _ => true) true Try.f5.params.toList args.toList ds p := hA0
  rw [Try.params5] at hA hval hz
  obtain ⟨v0, vs0, d0, ds0, p0, q0, hargs, rfl, rfl, h0, r0⟩ := trodAll_cons hA
  obtain ⟨v1, vs1, d1, ds1, p1, q1, rfl, rfl, rfl, h1, r1⟩ := trodAll_cons r0
  obtain ⟨v2, vs2, d2, ds2, p2, q2, rfl, rfl, rfl, h2, r2⟩ := trodAll_cons r1
  obtain ⟨rfl, rfl, rfl⟩ := trodAll_nil r2
  obtain rfl : args = #[v0, v1, v2] := by cases args; simp_all
  obtain ⟨rfl, rfl⟩ := trodVars_none hV
  obtain ⟨s0, rfl, rfl, rfl, m0⟩ := open_int Try.underlying3 (hval 0 3 v0 rfl rfl) h0
  obtain ⟨a1, n1, c1, rfl⟩ := okWide_slice Try.underlying22 (hval 1 22 v1 rfl rfl)
  have l1 : ∀ x ∈ p1, x.block < W.heap.size := fun x hx => by
    have := hW'.lt x (by simp [hx])
    simpa using this
  obtain ⟨z1, i1, b1, e1⟩ := list_open h1 l1
  have y1 : n1 * 8 ≤ reachBytes := by
    rcases e1 with ⟨_, e1⟩ | ⟨es, sp, e1, g1⟩
    · rw [e1]; decide
    · have h := sized_slice hz (j := 1) (t := 22) (e := 3) (by rfl) (by rw [e1]; rfl) Try.underlying22
      rw [bytesINT] at h
      try simp only [List.length_append] at h
      omega
  obtain ⟨a2, n2, c2, rfl⟩ := okWide_slice Try.underlying22 (hval 2 22 v2 rfl rfl)
  have l2 : ∀ x ∈ p2, x.block < W.heap.size := fun x hx => by
    have := hW'.lt x (by simp [hx])
    simpa using this
  obtain ⟨z2, i2, b2, e2⟩ := list_open h2 l2
  have y2 : n2 * 8 ≤ reachBytes := by
    rcases e2 with ⟨_, e2⟩ | ⟨es, sp, e2, g2⟩
    · rw [e2]; decide
    · have h := sized_slice hz (j := 2) (t := 22) (e := 3) (by rfl) (by rw [e2]; rfl) Try.underlying22
      rw [bytesINT] at h
      try simp only [List.length_append] at h
      omega
  clear hA0 hval0 hz
  simp only [List.append_nil] at hW'
  refine (walk W s0 m0 a1 n1 c1 z1 i1 y1 b1 a2 n2 c2 z2 i2 y2 b2).mono fun e W' ⟨he, hg⟩ => ?_
  subst he
  exact ⟨_, rfl, _, _, _, [], ([] ++ (p1 ++ (p2 ++ []))), [], hW', trodAll_cons_mk (shut_bool Try.underlying4 _) trodAll_mk0, (trodAll_cons_mk (shut_int Try.underlying3 m0) (trodAll_cons_mk (list_shut h1 l1 hg) (trodAll_cons_mk (list_shut h2 l2 hg) trodAll_mk0))), rfl, hg.frame _, fun h => by cases h⟩

/-- THE STATEMENT. -/
theorem proved : Rows.WindowAllSaid :=
  OpenClaim.holds_of_wide 5 Try.f5 rfl rfl rfl rfl rfl rfl rfl ⟨rfl, rfl, rfl, rfl, rfl⟩ rfl rfl rfl rfl rfl (by kernel_rfl) Try.func5 (by kernel_rfl)
    (of_decide_eq_true (by kernel_rfl)) (by unfold Func.isWrapper; first | (rw [if_pos (by decide +kernel)]; kernel_rfl) | (rw [if_neg (by decide +kernel)]; exact ⟨rfl, rfl⟩))
    (fun os started H enc _ => lifted os started H enc)
end Go.Proofs.Ytcbneedlkhiahaa.windowAll
