/-
  GhashLinear: whatever five texts are handed in, the call returns true: the sums of two, of both xored, and of noughts, all xored, are nought.
-/
import Derived.Test.YtkeeeohlkoefjaaFrame
import Derived.Test.YtkeeeohlkoefjaaKeepGhash
import Derived.Test.YtkeeeohlkoefjaaGhashSum
import Derived.SizedLaws
namespace Go.Proofs.Ytkeeeohlkoefjaa.ghashLinear
open Go.ChangeShapes Go.WideShapes Go.ChangeAt Go.RowKit
open Go.ChangeMaps (open_string shut_string)
open ghs

theorem tb_noughts (n j : Nat) : tb (noughts n) j = 0 := by
  unfold tb nb noughts
  simp only [List.map_replicate]
  rw [List.getD_eq_getElem?_getD, List.getElem?_replicate]
  split <;> rfl
theorem noughts_16 : noughts 16 = bt 0 := by
  refine bn_inj (noughts_size 16) (bt_size 0) ?_
  rw [bn_bt (by decide)]
  decide +kernel
theorem reach_le {n : Nat} (h : n ≤ reachBytes) : n ≤ 140737488355328 := by
  have := reachBytes_lt
  omega
theorem reach_max {n : Nat} (h : n ≤ reachBytes) : n ≤ maxLen := by
  have := reachBytes_lt
  unfold maxLen
  omega

set_option maxHeartbeats 3200000 in
theorem walk (h : ByteArray) (hh : h.size ≤ reachBytes) (l : ByteArray) (hl : l.size ≤ reachBytes) (m : ByteArray) (hm : m.size ≤ reachBytes) (s : ByteArray) (hs : s.size ≤ reachBytes) (t : ByteArray) (ht : t.size ≤ reachBytes) (w : World) :
    Calls Try.prog 7 #[.string h, .string l, .string m, .string s, .string t] w fun e w' => e = .returned (.bool true) ∧ Below w.heap.size w w' := by
  have g1 : ∀ W, Calls Try.prog 12 #[.string h, .int .i64 16] W fun e w' => e = .returned (.string (sz h 16)) ∧ Below W.heap.size W w' := sized_any h 16 (reach_max hh) (by decide)
  have g2 := sized_any m l.size (reach_max hm) (reach_le hl)
  have g3 := sized_any t s.size (reach_max ht) (reach_le hs)
  have g4 := zeros_any l.size (reach_le hl)
  have g5 := zeros_any s.size (reach_le hs)
  have g6 : ∀ W, Calls Try.prog 15 #[.int .i64 16] W fun e w' => e = .returned (.string (noughts 16)) ∧ Below W.heap.size W w' := zeros_any 16 (by decide)
  have s1 := sz_size h 16
  have s2 := sz_size m l.size
  have s3 := sz_size t s.size
  have s4 := noughts_size l.size
  have s5 := noughts_size s.size
  have o4 := tb_noughts l.size
  have o5 := tb_noughts s.size
  generalize sz h 16 = K at *
  generalize sz m l.size = M at *
  generalize sz t s.size = T at *
  generalize noughts l.size = Y at *
  generalize noughts s.size = Z at *
  replace hl := reach_le hl
  replace hs := reach_le hs
  clear hh hm ht
  have x1 := xored_any l M l.size rfl s2 hl
  have x2 := xored_any s T s.size rfl s3 hs
  have f1 := sum_good K l s s1 hl hs
  have f2 := sum_good K M T s1 (by omega) (by omega)
  have f3 := sum_good K (xo l M) (xo s T) s1 (by rw [xo_size]; exact hl) (by rw [xo_size]; exact hs)
  have f4 := sum_good K Y Z s1 (by omega) (by omega)
  have H4 := sum_four (bn K) s2 s3 s4 s5 o4 o5
  generalize sumN (bn K) l s = a at *
  generalize sumN (bn K) M T = b at *
  generalize sumN (bn K) (xo l M) (xo s T) = c at *
  generalize sumN (bn K) Y Z = d at *
  have x3 := xored_any (bt a) (bt b) 16 (bt_size _) (bt_size _) (by decide)
  have x4 := xored_any (bt c) (bt d) 16 (bt_size _) (bt_size _) (by decide)
  rw [xo_bt] at x3 x4
  have x5 := xored_any (bt (a ^^^ b)) (bt (c ^^^ d)) 16 (bt_size _) (bt_size _) (by decide)
  rw [xo_bt, H4] at x5
  rw [noughts_16] at g6
  have za : ((bt a).size : Int) = 16 := by rw [bt_size]; rfl
  generalize bt (a ^^^ b) = P at *
  generalize bt (c ^^^ d) = Q at *
  generalize bt a = A at *
  generalize bt b = B at *
  generalize bt c = C at *
  generalize bt d = D at *
  generalize bt 0 = N at *
  generalize xo l M = L' at *
  generalize xo s T = S' at *
  clear s1 s2 s3 s4 s5 o4 o5 H4
  have hX := Below.refl w.heap.size w
  go_enter Try.func7, Try.ntmps7
  go_wp2_with (first
    | (go_at_call 12; first
      | (with_reducible refine (g1 _).mono ?_; rintro e w1 ⟨rfl, hq⟩; replace hX := hX.trans (hq.mono hX.size); clear hq)
      | (with_reducible refine (g2 _).mono ?_; rintro e w1 ⟨rfl, hq⟩; replace hX := hX.trans (hq.mono hX.size); clear hq)
      | (with_reducible refine (g3 _).mono ?_; rintro e w1 ⟨rfl, hq⟩; replace hX := hX.trans (hq.mono hX.size); clear hq))
    | (go_at_call 15; first
      | (with_reducible refine (g4 _).mono ?_; rintro e w1 ⟨rfl, hq⟩; replace hX := hX.trans (hq.mono hX.size); clear hq)
      | (with_reducible refine (g5 _).mono ?_; rintro e w1 ⟨rfl, hq⟩; replace hX := hX.trans (hq.mono hX.size); clear hq)
      | (with_reducible refine (g6 _).mono ?_; rintro e w1 ⟨rfl, hq⟩; replace hX := hX.trans (hq.mono hX.size); clear hq))
    | (go_at_call 14; first
      | (with_reducible refine (x1 _).mono ?_; rintro e w1 ⟨rfl, hq⟩; replace hX := hX.trans (hq.mono hX.size); clear hq)
      | (with_reducible refine (x2 _).mono ?_; rintro e w1 ⟨rfl, hq⟩; replace hX := hX.trans (hq.mono hX.size); clear hq)
      | (with_reducible refine (x3 _).mono ?_; rintro e w1 ⟨rfl, hq⟩; replace hX := hX.trans (hq.mono hX.size); clear hq)
      | (with_reducible refine (x4 _).mono ?_; rintro e w1 ⟨rfl, hq⟩; replace hX := hX.trans (hq.mono hX.size); clear hq)
      | (with_reducible refine (x5 _).mono ?_; rintro e w1 ⟨rfl, hq⟩; replace hX := hX.trans (hq.mono hX.size); clear hq))
    | (go_at_call 10; first
      | (with_reducible refine (f1 _).mono ?_; rintro e w1 ⟨rfl, hq⟩; replace hX := hX.trans (hq.mono hX.size); clear hq)
      | (with_reducible refine (f2 _).mono ?_; rintro e w1 ⟨rfl, hq⟩; replace hX := hX.trans (hq.mono hX.size); clear hq)
      | (with_reducible refine (f3 _).mono ?_; rintro e w1 ⟨rfl, hq⟩; replace hX := hX.trans (hq.mono hX.size); clear hq)
      | (with_reducible refine (f4 _).mono ?_; rintro e w1 ⟨rfl, hq⟩; replace hX := hX.trans (hq.mono hX.size); clear hq)))
  go_ret
  exact ⟨rfl, hX⟩
/-! ### The row's step -/
set_option maxRecDepth 100000 in
theorem lifted (os : Os) (started : os.Started) (H : Type) (enc : TypeId × Value → H) :
    ReturnsInHanded {} Try.checked os 7 .any (Rows.ghashLinearSpec.pre6 enc Try.prog Try.f7 Rows.ghashLinearRow.domain false) (Rows.ghashLinearSpec.post enc Try.prog Try.f7 false true false false) := by
  refine returnsInHanded_of_change_sized (C := Try.checked) own started (by kernel_rfl) Try.func7
    (ChangeSpec.witness6 (enc := enc) (C := Try.checked) false ⟨#[], #[.string .empty, .string .empty, .string .empty, .string .empty, .string .empty], []⟩ 8 (by kernel_rfl) (by kernel_rfl) (by kernel_rfl) (by kernel_rfl)) ?_
  intro W base args ds gs before hval0 hW _ hz _
  have hval : ∀ (j : Nat) t v, Try.f7.params[j]? = some t → args[j]? = some v → Value.okWide Try.prog W .any base t v := hval0
  have hW' := hW
  obtain ⟨p, q, hA0, hV, rfl, hfz, hnd⟩ := hW
  have hA : DataW.TrodAll enc Try.prog W 0 (fun _ => true) true Try.f7.params.toList args.toList ds p := hA0
  rw [Try.params7] at hA hval
  obtain ⟨v0, vs0, d0, ds0, p0, q0, hargs, rfl, rfl, h0, r0⟩ := trodAll_cons hA
  obtain ⟨v1, vs1, d1, ds1, p1, q1, rfl, rfl, rfl, h1, r1⟩ := trodAll_cons r0
  obtain ⟨v2, vs2, d2, ds2, p2, q2, rfl, rfl, rfl, h2, r2⟩ := trodAll_cons r1
  obtain ⟨v3, vs3, d3, ds3, p3, q3, rfl, rfl, rfl, h3, r3⟩ := trodAll_cons r2
  obtain ⟨v4, vs4, d4, ds4, p4, q4, rfl, rfl, rfl, h4, r4⟩ := trodAll_cons r3
  obtain ⟨rfl, rfl, rfl⟩ := trodAll_nil r4
  obtain rfl : args = #[v0, v1, v2, v3, v4] := by cases args; simp_all
  obtain ⟨rfl, rfl⟩ := trodVars_none hV
  obtain ⟨s0, rfl, rfl, rfl, m0⟩ := open_string Try.underlying9 (hval 0 9 v0 rfl rfl) h0
  obtain ⟨s1, rfl, rfl, rfl, m1⟩ := open_string Try.underlying9 (hval 1 9 v1 rfl rfl) h1
  obtain ⟨s2, rfl, rfl, rfl, m2⟩ := open_string Try.underlying9 (hval 2 9 v2 rfl rfl) h2
  obtain ⟨s3, rfl, rfl, rfl, m3⟩ := open_string Try.underlying9 (hval 3 9 v3 rfl rfl) h3
  obtain ⟨s4, rfl, rfl, rfl, m4⟩ := open_string Try.underlying9 (hval 4 9 v4 rfl rfl) h4
  have z0 : s0.size ≤ reachBytes := by
    have h := sized_string hz (j := 0) (t := 9) (by rw [Try.params7]; rfl) rfl
    rwa [Array.length_toList] at h
  have z1 : s1.size ≤ reachBytes := by
    have h := sized_string hz (j := 1) (t := 9) (by rw [Try.params7]; rfl) rfl
    rwa [Array.length_toList] at h
  have z2 : s2.size ≤ reachBytes := by
    have h := sized_string hz (j := 2) (t := 9) (by rw [Try.params7]; rfl) rfl
    rwa [Array.length_toList] at h
  have z3 : s3.size ≤ reachBytes := by
    have h := sized_string hz (j := 3) (t := 9) (by rw [Try.params7]; rfl) rfl
    rwa [Array.length_toList] at h
  have z4 : s4.size ≤ reachBytes := by
    have h := sized_string hz (j := 4) (t := 9) (by rw [Try.params7]; rfl) rfl
    rwa [Array.length_toList] at h
  clear hA0 hval0 hz
  simp only [List.append_nil] at hW'
  refine (walk s0 z0 s1 z1 s2 z2 s3 z3 s4 z4 W).mono fun e W' ⟨he, hg⟩ => ?_
  subst he
  exact ⟨_, rfl, _, _, _, [], [], [], hW', trodAll_cons_mk (shut_bool Try.underlying4 _) trodAll_mk0, (trodAll_cons_mk (shut_string Try.underlying9 m0) (trodAll_cons_mk (shut_string Try.underlying9 m1) (trodAll_cons_mk (shut_string Try.underlying9 m2) (trodAll_cons_mk (shut_string Try.underlying9 m3) (trodAll_cons_mk (shut_string Try.underlying9 m4) trodAll_mk0))))), rfl, hg.frame _, fun h => by cases h⟩

/-- THE STATEMENT. -/
theorem proved : Rows.GhashLinearSaid :=
  OpenClaim.holds_of_wide 7 Try.f7 rfl rfl rfl rfl rfl rfl rfl ⟨rfl, rfl, rfl, rfl, rfl⟩ rfl rfl rfl rfl rfl (by kernel_rfl) Try.func7 (by kernel_rfl)
    (of_decide_eq_true (by kernel_rfl)) (by unfold Func.isWrapper; first | (rw [if_pos (by decide +kernel)]; kernel_rfl) | (rw [if_neg (by decide +kernel)]; exact ⟨rfl, rfl⟩))
    (fun os started H enc _ => lifted os started H enc)
end Go.Proofs.Ytkeeeohlkoefjaa.ghashLinear
