/-
  ChachaSplits: whatever key, nonce, number, cut and text are handed in, the call returns true: a text may be cut at each 64 bytes, and goes on with the next number; noughts that are hidden are the block.
-/
import Derived.Test.YtfmghneagggilabFrame
import Derived.Test.YtfmghneagggilabChaXor
import Derived.Test.YtfmghneagggilabPlainChaHid
import Derived.Test.YtfmghneagggilabSized
import Derived.Test.YtfmghneagggilabKeepRest
namespace Go.Proofs.Ytfmghneagggilab.chachaSplits
open Go.ChangeShapes Go.WideShapes Go.ChangeAt Go.RowKit
open Go.ChangeMaps (open_string shut_string)
open cha
open ghs (tb)

theorem i64_bd {n : Int} (h : (Lit.int .i64 n).wf = true) : -9223372036854775808 ≤ n ∧ n ≤ 9223372036854775807 := by
  simp [Lit.wf] at h
  have h0 : IntKind.i64.min = -9223372036854775808 := rfl
  have h1 : IntKind.i64.max = 9223372036854775807 := rfl
  omega
theorem tb_noughts (n j : Nat) : tb (noughts n) j = 0 := by
  unfold tb nb noughts
  rw [List.getD_eq_getElem?_getD, List.getElem?_map]
  simp only [List.getElem?_replicate]
  split <;> rfl
theorem min_cast (a : Nat) : min (a : Int) 500 = ((min a 500 : Nat) : Int) := by omega
set_option maxRecDepth 100000 in
set_option maxHeartbeats 1600000 in
theorem walk_any (key : ByteArray) (hk : key.size ≤ maxLen) (nonce : ByteArray) (hno : nonce.size ≤ maxLen) (n : Nat) (hn : n < 4294967296) (many : Int) (hmy : -9223372036854775808 ≤ many ∧ many ≤ 9223372036854775807) (s : ByteArray) (w : World) :
    Calls Try.prog 3 #[.string key, .string nonce, .int .u32 n, .int .i64 many, .string s] w fun e w' => e = .returned (.bool true) ∧ Below w.heap.size w w' := by
  have g1 : ∀ W, Calls Try.prog 5 #[.string key, .int .i64 32] W fun e w' => e = .returned (.string (sz key 32)) ∧ Below W.heap.size W w' := sized_any key 32 hk (by decide)
  have g2 : ∀ W, Calls Try.prog 5 #[.string nonce, .int .i64 12] W fun e w' => e = .returned (.string (sz nonce 12)) ∧ Below W.heap.size W w' := sized_any nonce 12 hno (by decide)
  have g3 : ∀ W, Calls Try.prog 6 #[.int .i64 many, .int .i64 5] W fun e w' => e = .returned (.int .i64 (((many % 5).toNat : Nat) : Int)) ∧ w' = W := rest_any many 5 (by decide) (by decide) hmy
  obtain ⟨r, hr⟩ : ∃ r, r = (many % 5).toNat := ⟨_, rfl⟩
  have r5 : r < 5 := by omega
  rw [← hr] at g3
  clear hr
  obtain ⟨l, hl⟩ : ∃ l, l = min s.size 500 := ⟨_, rfl⟩
  have hmin : min (s.size : Int) 500 = (l : Int) := by rw [hl]; exact min_cast _
  have hsl := cv.sl_to s l (by omega)
  have sS : (s.extract 0 l).size = l := by rw [ByteArray.size_extract]; omega
  have l5 : l ≤ 500 := by omega
  have hsb : s.size ≤ 500 ∨ 500 < s.size := by omega
  have hc : ((s.size : Int) < 500 → (l : Int) = (s.size : Int)) := by omega
  generalize s.extract 0 l = S at *
  obtain ⟨q, hq⟩ : ∃ q, q = 64 * r := ⟨_, rfl⟩
  have e1 : 64 * (r : Int) = (q : Int) := by omega
  have qb : q ≤ 256 := by omega
  have g4 := sized_any S q (by unfold maxLen; omega) (by omega)
  have g5 : ∀ W, Calls Try.prog 9 #[.int .i64 64] W fun e w' => e = .returned (.string (noughts 64)) ∧ Below W.heap.size W w' := zeros_any 64 (by decide)
  have s1 := sz_size key 32
  have s2 := sz_size nonce 12
  have s3 := sz_size S q
  have sZ := noughts_size 64
  have hZ := tb_noughts 64
  generalize sz key 32 = K at *
  generalize sz nonce 12 = O at *
  generalize sz S q = F at *
  generalize noughts 64 = Z at *
  have f1 := Xor_good K O n (F ++ S) hn s1 s2 (by rw [ByteArray.size_append]; omega)
  rw [hid_split K O n r F S (by omega)] at f1
  have f2 := Xor_good K O n F hn s1 s2 (by omega)
  have f3 := Xor_good K O ((n + r) % 4294967296) S (Nat.mod_lt _ (by decide)) s1 s2 (by omega)
  have f4 := Block_good K O n hn s1 s2
  have f5 := Xor_good K O n Z hn s1 s2 (by omega)
  rw [hid_zero K O n hn Z sZ hZ] at f5
  have za := hid_size K O n F
  have zb := hid_size K O ((n + r) % 4294967296) S
  have zc := blk_size K O n
  rw [s3] at za
  rw [sS] at zb
  generalize hid K O n F = A at *
  generalize hid K O ((n + r) % 4294967296) S = C at *
  generalize blk K O n = B at *
  obtain ⟨FS, hFS⟩ : ∃ FS, F ++ S = FS := ⟨_, rfl⟩
  rw [hFS] at f1
  obtain ⟨c, hcc⟩ : ∃ c, c = (n + r) % 4294967296 := ⟨_, rfl⟩
  rw [← hcc] at f3
  have e2 : ((n : Int) + (r : Int)) % 4294967296 = (c : Int) := by omega
  clear hq hcc hZ hk hno hmy hl
  have hX : Below w.heap.size w w := Below.refl _ _
  go_enter Try.func3, Try.ntmps3
  go_wp2_with (first
    | (go_at_call 5; (first | (with_reducible refine (g1 _).mono ?_) | (with_reducible refine (g2 _).mono ?_) | (with_reducible refine (g4 _).mono ?_)); rintro e wq ⟨rfl, hq⟩; replace hX := hX.trans (hq.mono hX.size); clear hq)
    | (go_at_call 6; (with_reducible refine (g3 _).mono ?_); rintro e wq ⟨rfl, rfl⟩)
    | (go_at_call 9; (with_reducible refine (g5 _).mono ?_); rintro e wq ⟨rfl, hq⟩; replace hX := hX.trans (hq.mono hX.size); clear hq)
    | (go_at_call 7; (first | (with_reducible refine (f1 _).mono ?_) | (with_reducible refine (f2 _).mono ?_) | (with_reducible refine (f3 _).mono ?_) | (with_reducible refine (f5 _).mono ?_)); rintro e wq ⟨rfl, hq⟩; replace hX := hX.trans (hq.mono hX.size); clear hq)
    | (go_at_call 8; (with_reducible refine (f4 _).mono ?_); rintro e wq ⟨rfl, hq⟩; replace hX := hX.trans (hq.mono hX.size); clear hq))
  go_ret
  exact ⟨rfl, hX⟩
theorem walk (key : ByteArray) (hk : key.size ≤ maxLen) (nonce : ByteArray) (hno : nonce.size ≤ maxLen) (i : Int) (hn : (Lit.int .u32 i).wf = true) (many : Int) (hm : (Lit.int .i64 many).wf = true) (s : ByteArray) (_ : s.size ≤ maxLen) (w : World) :
    Calls Try.prog 3 #[.string key, .string nonce, .int .u32 i, .int .i64 many, .string s] w fun e w' => e = .returned (.bool true) ∧ Below w.heap.size w w' := by
  obtain ⟨h0, h1⟩ := u32_bd hn
  obtain ⟨n, rfl⟩ : ∃ k : Nat, i = (k : Int) := ⟨i.toNat, by omega⟩
  exact walk_any key hk nonce hno n (by omega) many (i64_bd hm) s w

/-! ### The row's step -/
set_option maxRecDepth 100000 in
theorem lifted (os : Os) (started : os.Started) (H : Type) (enc : TypeId × Value → H) :
    ReturnsInHanded {} Try.checked os 3 .any (Rows.chachaSplitsSpec.pre6 enc Try.prog Try.f3 Rows.chachaSplitsRow.domain false) (Rows.chachaSplitsSpec.post enc Try.prog Try.f3 false true false false) := by
  refine returnsInHanded_of_change (C := Try.checked) own started (by kernel_rfl) Try.func3
    (ChangeSpec.witness6 (enc := enc) (C := Try.checked) false ⟨#[], #[.string .empty, .string .empty, .int .u32 0, .int .i64 0, .string .empty], []⟩ 8 (by kernel_rfl) (by kernel_rfl) (by kernel_rfl) (by kernel_rfl)) ?_
  intro W base args ds gs before hval0 hW _ _
  have hval : ∀ (j : Nat) t v, Try.f3.params[j]? = some t → args[j]? = some v → Value.okWide Try.prog W .any base t v := hval0
  have hW' := hW
  obtain ⟨p, q, hA0, hV, rfl, hfz, hnd⟩ := hW
  have hA : DataW.TrodAll enc Try.prog W 0 (fun _ => true) true Try.f3.params.toList args.toList ds p := hA0
  rw [Try.params3] at hA hval
  obtain ⟨v0, vs0, d0, ds0, p0, q0, hargs, rfl, rfl, h0, r0⟩ := trodAll_cons hA
  obtain ⟨v1, vs1, d1, ds1, p1, q1, rfl, rfl, rfl, h1, r1⟩ := trodAll_cons r0
  obtain ⟨v2, vs2, d2, ds2, p2, q2, rfl, rfl, rfl, h2, r2⟩ := trodAll_cons r1
  obtain ⟨v3, vs3, d3, ds3, p3, q3, rfl, rfl, rfl, h3, r3⟩ := trodAll_cons r2
  obtain ⟨v4, vs4, d4, ds4, p4, q4, rfl, rfl, rfl, h4, r4⟩ := trodAll_cons r3
  obtain ⟨rfl, rfl, rfl⟩ := trodAll_nil r4
  obtain rfl : args = #[v0, v1, v2, v3, v4] := by cases args; simp_all
  obtain ⟨rfl, rfl⟩ := trodVars_none hV
  obtain ⟨s0, rfl, rfl, rfl, m0⟩ := open_string Try.underlying9 (hval 0 9 v0 rfl rfl) h0
  obtain ⟨s1, rfl, rfl, rfl, m1⟩ := open_string Try.underlying9 (hval 1 9 v1 rfl rfl) h1
  obtain ⟨s2, rfl, rfl, rfl, m2⟩ := open_int Try.underlying22 (hval 2 22 v2 rfl rfl) h2
  obtain ⟨s3, rfl, rfl, rfl, m3⟩ := open_int Try.underlying3 (hval 3 3 v3 rfl rfl) h3
  obtain ⟨s4, rfl, rfl, rfl, m4⟩ := open_string Try.underlying9 (hval 4 9 v4 rfl rfl) h4
  clear hA0 hval0
  simp only [List.append_nil] at hW'
  refine (walk s0 m0 s1 m1 s2 m2 s3 m3 s4 m4 W).mono fun e W' ⟨he, hg⟩ => ?_
  subst he
  exact ⟨_, rfl, _, _, _, [], [], [], hW', trodAll_cons_mk (shut_bool Try.underlying4 _) trodAll_mk0, (trodAll_cons_mk (shut_string Try.underlying9 m0) (trodAll_cons_mk (shut_string Try.underlying9 m1) (trodAll_cons_mk (shut_int Try.underlying22 m2) (trodAll_cons_mk (shut_int Try.underlying3 m3) (trodAll_cons_mk (shut_string Try.underlying9 m4) trodAll_mk0))))), rfl, hg.frame _, fun h => by cases h⟩

/-- THE STATEMENT. -/
theorem proved : Rows.ChachaSplitsSaid :=
  OpenClaim.holds_of_wide 3 Try.f3 rfl rfl rfl rfl rfl rfl rfl ⟨rfl, rfl, rfl, rfl, rfl⟩ rfl rfl rfl rfl rfl (by kernel_rfl) Try.func3 (by kernel_rfl)
    (of_decide_eq_true (by kernel_rfl)) (by unfold Func.isWrapper; first | (rw [if_pos (by decide +kernel)]; kernel_rfl) | (rw [if_neg (by decide +kernel)]; exact ⟨rfl, rfl⟩))
    (fun os started H enc _ => lifted os started H enc)
end Go.Proofs.Ytfmghneagggilab.chachaSplits
