/-
  BaseJoins: whatever two texts s, t of together at most 1048576 letters are handed in, the call returns true: of s as much as is a multiple of three bytes, and t: Base of the one and of the other, one behind the other, are Base of both together.
-/
import Derived.Test.YteoiijiiccecfabRows
import Derived.Test.YteoiijiiccecfabBase
import Derived.Test.YteoiijiiccecfabFrame
namespace Go.Proofs.Yteoiijiiccecfab.baseJoins
open Go.ChangeShapes Go.WideShapes Go.ChangeAt Go.RowKit
open Go.ChangeMaps (open_string shut_string)

theorem man : baseB ⟨#[77, 97, 110]⟩ = ⟨#[84, 87, 70, 117]⟩ := by decide +kernel

set_option maxHeartbeats 400000 in
theorem walk (s t : ByteArray) (hs : s.size + t.size ≤ 1048576) (w : World) :
    Calls Try.prog 3 #[.string s, .string t] w fun e w' => e = .returned (.bool true) ∧ Below w.heap.size w w' := by
  have hz1 : (s.extract 0 (s.size / 3 * 3)).size = s.size / 3 * 3 := by rw [ByteArray.size_extract]; omega
  have q1 : (s.size : Int) / 3 * 3 ≤ (s.size : Int) := by omega
  have q0 : (0 : Int) ≤ (s.size : Int) / 3 * 3 := by omega
  have hsl : ∀ u : World, (Instr.slice 9 (.string s) none (some (.int .i64 ((s.size : Int) / 3 * 3))) none).run Try.prog u = .ok (.string (s.extract 0 (s.size / 3 * 3))) u := fun u => by
    have h := run_slice_string_to_if (P := Try.prog) u 9 s .i64 ((s.size : Int) / 3 * 3) Try.underlying9
    rw [if_pos ⟨q0, q1⟩] at h
    rw [h, show ((s.size : Int) / 3 * 3).toNat = s.size / 3 * 3 from by omega]
  generalize s.extract 0 (s.size / 3 * 3) = a at *
  go_enter Try.func3, Try.ntmps3
  go_wp2_with fail
  refine (base.base_calls a (by omega) _).mono ?_
  rintro e w1 ⟨rfl, hb1⟩
  go_wp2_with fail
  refine (base.base_calls t (by omega) _).mono ?_
  rintro e w2 ⟨rfl, hb2⟩
  have za := baseB_size a
  have zt := baseB_size t
  have HJ : Hid (baseB (a ++ t) = baseB a ++ baseB t) := baseB_append a t (by omega)
  generalize baseB a = x at *
  generalize baseB t = y at *
  go_wp2_with fail
  refine (base.base_calls (a ++ t) (by rw [ByteArray.size_append]; omega) _).mono ?_
  rintro e w3 ⟨rfl, hb3⟩
  rw [HJ.out]
  have hx : ((⟨#[77, 97, 110]⟩ : ByteArray)).size = 3 := rfl
  go_wp2_with fail
  refine (base.base_calls ⟨#[77, 97, 110]⟩ (by rw [hx]; omega) _).mono ?_
  rintro e w4 ⟨rfl, hb4⟩
  rw [man]
  go_wp2
  go_ret
  have z1 := hb1.size
  have z2 := hb2.size
  have z3 := hb3.size
  exact ⟨rfl, hb1.trans ((hb2.mono z1).trans ((hb3.mono (by omega)).trans (hb4.mono (by omega))))⟩

/-! ### The row's step: two texts, their letters bounded -/
theorem contract (H : Type) (enc : TypeId × Value → H) (W : World) (base : Nat) (args : Array Value) (ds gs : List (DataW H)) (before : List MemPlace)
    (hval : ∀ (j : Nat) t v, Try.f3.params[j]? = some t → args[j]? = some v → Value.okWide Try.prog W .any base t v)
    (hW : DataW.Whole enc Try.prog Try.f3.params.toList Rows.baseJoinsSpec.vars false W args.toList ds gs before) (hk : Rows.uptoSmall H (ds ++ gs) = true) :
    Calls Try.prog 3 args W fun e W' => ∃ v, e = .returned v ∧ Rows.baseJoinsSpec.post enc Try.prog Try.f3 false true false false W args v W' := by
  have hW' := hW
  obtain ⟨p, q, hA0, hV, rfl, hfz, hnd⟩ := hW
  have hA : DataW.TrodAll enc Try.prog W 0 (fun _ => true) true Try.f3.params.toList args.toList ds p := hA0
  rw [Try.params3] at hA hval
  obtain ⟨v0, vs0, d0, ds0, p0, q0, hargs, rfl, rfl, h0, r0⟩ := trodAll_cons hA
  obtain ⟨v1, vs1, d1, ds1, p1, q1, rfl, rfl, rfl, h1, r1⟩ := trodAll_cons r0
  obtain ⟨rfl, rfl, rfl⟩ := trodAll_nil r1
  obtain rfl : args = #[v0, v1] := by cases args; simp_all
  obtain ⟨rfl, rfl⟩ := trodVars_none hV
  obtain ⟨s, rfl, rfl, rfl, m0⟩ := open_string Try.underlying9 (hval 0 9 v0 rfl rfl) h0
  obtain ⟨t, rfl, rfl, rfl, m1⟩ := open_string Try.underlying9 (hval 1 9 v1 rfl rfl) h1
  clear hA0
  simp only [List.append_nil] at hW' hk
  refine (walk s t (short2 hk) W).mono fun e W' ⟨he, hg⟩ => ?_
  subst he
  exact ⟨_, rfl, _, _, _, [], [], [], hW', trodAll_cons_mk (shut_bool Try.underlying4 _) trodAll_mk0, trodAll_cons_mk (shut_string Try.underlying9 m0) (trodAll_cons_mk (shut_string Try.underlying9 m1) trodAll_mk0), rfl, hg.frame _, fun h => by cases h⟩

set_option maxRecDepth 100000 in
theorem lifted (os : Os) (started : os.Started) (H : Type) (enc : TypeId × Value → H) (F : Stop.Interp) :
    ReturnsInHanded {} Try.checked os 3 .any ((Rows.OpenSpec.upto Rows.baseJoinsSpec).pre6 enc Try.prog Try.f3 Rows.baseJoinsUptoRow.domain false) (((Rows.OpenSpec.upto Rows.baseJoinsSpec).at F).post enc Try.prog Try.f3 false true false false) := by
  refine returnsInHanded_of_cond (C := Try.checked) (s := Rows.OpenSpec.upto Rows.baseJoinsSpec) (k := Rows.uptoSmall) rfl own started (by kernel_rfl) Try.func3
    (OpenSpec.witness (enc := enc) (C := Try.checked) (s := Rows.OpenSpec.upto Rows.baseJoinsSpec) (k := Rows.uptoSmall) rfl false ⟨#[], #[.string .empty, .string .empty], []⟩ 8 (by kernel_rfl) (by kernel_rfl) (by kernel_rfl)
      (x := ([.lit (.string []), .lit (.string [])], [], [])) (by kernel_rfl) rfl (by kernel_rfl)) ?_
  intro W base args ds gs before hval hW _ hk _
  exact contract H enc W base args ds gs before hval hW hk

/-- THE STATEMENT. -/
theorem proved : Rows.BaseJoinsUptoSaid :=
  OpenClaim.holds_of_cond 3 Try.f3 rfl rfl rfl rfl rfl rfl rfl ⟨rfl, rfl, rfl, rfl, rfl⟩ rfl rfl rfl rfl rfl (by kernel_rfl) Try.func3 (by kernel_rfl)
    (of_decide_eq_true (by kernel_rfl)) (by unfold Func.isWrapper; first | (rw [if_pos (by decide +kernel)]; kernel_rfl) | (rw [if_neg (by decide +kernel)]; exact ⟨rfl, rfl⟩))
    (fun os started H enc _ F => lifted os started H enc F)
end Go.Proofs.Yteoiijiiccecfab.baseJoins
