/-
  StampReads: whatever a text, the call returns true: Read answers of it what the document's own answers.
-/
import Derived.Test.YtkkechklpijgkaaFrame
import Derived.Test.YtkkechklpijgkaaRefStampRead
namespace Go.Proofs.Ytkkechklpijgkaa.stampReads
open Go.ChangeShapes Go.WideShapes Go.ChangeAt Go.RowKit
open Go.ChangeMaps (open_string shut_string)
open stm rstm

set_option maxHeartbeats 1600000 in
theorem walk (s : ByteArray) (hs : s.size ≤ maxLen) (w : World) :
    Calls Try.prog 4 #[.string s] w fun e w' => e = .returned (.bool true) ∧ Below w.heap.size w w' := by
  have hm : maxLen ≤ 9223372036854775807 := by decide
  have f1 := read_any s (Nat.le_trans hs hm)
  have f2 := rread_any s (Nat.le_trans hs hm)
  generalize rdA s = A at *
  generalize rdB s = B at *
  generalize rdE s = E at *
  clear hs hm
  go_enter Try.func4, Try.ntmps4
  go_wp2_with (first
    | (go_at_call 11; (with_reducible refine (f1 _).mono ?_); rintro e w1 ⟨rfl, hb1⟩)
    | (go_at_call 12; (with_reducible refine (f2 _).mono ?_); rintro e w2 ⟨rfl, hb2⟩
       have hA1 : Blk (w1.alloc (.cells #[.int .i64 A, .int .i64 B] 23)) w1.heap.size 23 [.int .i64 A, .int .i64 B] := Blk.new w1 23 _ _ rfl
       have hA2 := hA1.below hb2 hA1.lt
       have c0 : (w2.alloc (.cells #[.int .i64 A, .int .i64 B] 23)).cell? ⟨w1.heap.size, 0, none⟩ = some (.int .i64 A) := (hA2.alloc _).cell 0 _ rfl
       have c1 : (w2.alloc (.cells #[.int .i64 A, .int .i64 B] 23)).cell? ⟨w1.heap.size, 1, none⟩ = some (.int .i64 B) := (hA2.alloc _).cell 1 _ rfl
       have hX := ((hb1.alloc hb1.size (.cells #[.int .i64 A, .int .i64 B] 23)).trans (hb2.mono (by rw [World.size_alloc]; have := hb1.size; omega))).alloc (show w.heap.size ≤ w2.heap.size by have h1 := hb1.size; have h2 := hb2.size; rw [World.size_alloc] at h2; omega) (.cells #[.int .i64 A, .int .i64 B] 23)
       clear hA1 hA2))
  go_ret
  exact ⟨rfl, hX⟩

/-! ### The row's step -/
set_option maxRecDepth 100000 in
theorem lifted (os : Os) (started : os.Started) (H : Type) (enc : TypeId × Value → H) :
    ReturnsInHanded {} Try.checked os 4 .any (Rows.stampReadsSpec.pre6 enc Try.prog Try.f4 Rows.stampReadsRow.domain false) (Rows.stampReadsSpec.post enc Try.prog Try.f4 false true false false) := by
  refine returnsInHanded_of_change (C := Try.checked) own started (by kernel_rfl) Try.func4
    (ChangeSpec.witness6 (enc := enc) (C := Try.checked) false ⟨#[], #[.string .empty], []⟩ 8 (by kernel_rfl) (by kernel_rfl) (by kernel_rfl) (by kernel_rfl)) ?_
  intro W base args ds gs before hval0 hW _ _
  have hval : ∀ (j : Nat) t v, Try.f4.params[j]? = some t → args[j]? = some v → Value.okWide Try.prog W .any base t v := hval0
  have hW' := hW
  obtain ⟨p, q, hA0, hV, rfl, hfz, hnd⟩ := hW
  have hA : DataW.TrodAll enc Try.prog W 0 (fun _ => true) true Try.f4.params.toList args.toList ds p := hA0
  rw [Try.params4] at hA hval
  obtain ⟨v0, vs0, d0, ds0, p0, q0, hargs, rfl, rfl, h0, r0⟩ := trodAll_cons hA
  obtain ⟨rfl, rfl, rfl⟩ := trodAll_nil r0
  obtain rfl : args = #[v0] := by cases args; simp_all
  obtain ⟨rfl, rfl⟩ := trodVars_none hV
  obtain ⟨s0, rfl, rfl, rfl, m0⟩ := open_string Try.underlying9 (hval 0 9 v0 rfl rfl) h0
  clear hA0 hval0
  simp only [List.append_nil] at hW'
  refine (walk s0 m0 W).mono fun e W' ⟨he, hg⟩ => ?_
  subst he
  exact ⟨_, rfl, _, _, _, [], [], [], hW', trodAll_cons_mk (shut_bool Try.underlying4 _) trodAll_mk0, (trodAll_cons_mk (shut_string Try.underlying9 m0) trodAll_mk0), rfl, hg.frame _, fun h => by cases h⟩

/-- THE STATEMENT. -/
theorem proved : Rows.StampReadsSaid :=
  OpenClaim.holds_of_wide 4 Try.f4 rfl rfl rfl rfl rfl rfl rfl ⟨rfl, rfl, rfl, rfl, rfl⟩ rfl rfl rfl rfl rfl (by kernel_rfl) Try.func4 (by kernel_rfl)
    (of_decide_eq_true (by kernel_rfl)) (by unfold Func.isWrapper; first | (rw [if_pos (by decide +kernel)]; kernel_rfl) | (rw [if_neg (by decide +kernel)]; exact ⟨rfl, rfl⟩))
    (fun os started H enc _ => lifted os started H enc)
end Go.Proofs.Ytkkechklpijgkaa.stampReads
