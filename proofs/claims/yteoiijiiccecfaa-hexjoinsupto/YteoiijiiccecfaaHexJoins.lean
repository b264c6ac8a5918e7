/-
  HexJoins: whatever two texts s, t of together at most 1048576 letters are handed in, the call returns true: Hex of s and of t, one behind the other, are Hex of both together, and their order is that of s and t.
-/
import Derived.Test.YteoiijiiccecfaaRows
import Derived.Test.YteoiijiiccecfaaHex
import Derived.Test.YteoiijiiccecfaaFrame
namespace Go.Proofs.Yteoiijiiccecfaa.hexJoins
open Go.ChangeShapes Go.WideShapes Go.ChangeAt Go.RowKit
open Go.ChangeMaps (open_string shut_string)

theorem hexB_append (s t : ByteArray) : hexB (s ++ t) = hexB s ++ hexB t := by
  have e : (s ++ t).data.toList = s.data.toList ++ t.data.toList := by simp
  unfold hexB
  rw [e, hexL_append]
  apply ByteArray.ext
  simp

theorem hexSign_lt : ∀ m n, m < 16 → n < 16 → ((decide (hexSign m < hexSign n)) = decide (m < n) ∧ (hexSign m == hexSign n) = decide (m = n)) := by
  have : ∀ m, m < 16 → ∀ n, n < 16 → ((decide (hexSign m < hexSign n)) = decide (m < n) ∧ (hexSign m == hexSign n) = decide (m = n)) := by decide +kernel
  exact fun m n hm hn => this m hm n hn
theorem less_hexL (x y : List UInt8) : Op.bytesLess (hexL x) (hexL y) = Op.bytesLess x y := by
  induction x generalizing y with
  | nil => cases y <;> rfl
  | cons a x ih =>
    cases y with
    | nil => rfl
    | cons b y =>
      have ha := a.toNat_lt
      have hb := b.toNat_lt
      have h1 := hexSign_lt (a.toNat / 16) (b.toNat / 16) (by omega) (by omega)
      have h2 := hexSign_lt (a.toNat % 16) (b.toNat % 16) (by omega) (by omega)
      simp only [hexL, Op.bytesLess, h1.1, h1.2, h2.1, h2.2, ih]
      have e1 : decide (a < b) = decide (a.toNat < b.toNat) := by rw [decide_eq_decide]; exact UInt8.lt_iff_toNat_lt
      have e2 : (a == b) = decide (a.toNat = b.toNat) := by rw [Bool.eq_iff_iff]; simp [← UInt8.toNat_inj]
      rw [e1, e2]
      cases Op.bytesLess x y <;> (rw [Bool.eq_iff_iff]; simp; omega)
theorem less_hexB (s t : ByteArray) : Op.bytesLess (hexB s).toList (hexB t).toList = Op.bytesLess s.toList t.toList := by
  rw [ByteArray.toList_eq, ByteArray.toList_eq, ByteArray.toList_eq, ByteArray.toList_eq]
  exact less_hexL _ _

set_option maxHeartbeats 400000 in
theorem walk (s t : ByteArray) (hs : s.size + t.size ≤ 1048576) (w : World) :
    Calls Try.prog 7 #[.string s, .string t] w fun e w' => e = .returned (.bool true) ∧ Below w.heap.size w w' := by
  have hsz := hexB_size s
  have htz := hexB_size t
  go_enter Try.func7, Try.ntmps7
  go_wp2_with fail
  refine (hex_calls s (by omega) _).mono ?_
  rintro e w1 ⟨rfl, hb1⟩
  go_wp2_with fail
  refine (hex_calls t (by omega) _).mono ?_
  rintro e w2 ⟨rfl, hb2⟩
  have hl : (Op.bytesLess (hexB s).toList (hexB t).toList == Op.bytesLess s.toList t.toList) = true := by rw [less_hexB]; simp
  have HJ : Hid (hexB (s ++ t) = hexB s ++ hexB t) := hexB_append s t
  generalize hexB s = a at *
  generalize hexB t = b at *
  go_wp2_with fail
  refine (hex_calls (s ++ t) (by rw [ByteArray.size_append]; omega) _).mono ?_
  rintro e w3 ⟨rfl, hb3⟩
  rw [HJ.out]
  have hx : ((⟨#[31]⟩ : ByteArray)).size = 1 := rfl
  go_wp2_with fail
  refine (hex_calls ⟨#[31]⟩ (by rw [hx]; omega) _).mono ?_
  rintro e w4 ⟨rfl, hb4⟩
  rw [show hexB ⟨#[31]⟩ = ⟨#[49, 102]⟩ from rfl]
  go_wp2
  go_ret
  have z1 := hb1.size
  have z2 := hb2.size
  have z3 := hb3.size
  exact ⟨rfl, hb1.trans ((hb2.mono z1).trans ((hb3.mono (by omega)).trans (hb4.mono (by omega))))⟩

/-! ### The row's step: two texts, their letters bounded -/
theorem contract (H : Type) (enc : TypeId × Value → H) (W : World) (base : Nat) (args : Array Value) (ds gs : List (DataW H)) (before : List MemPlace)
    (hval : ∀ (j : Nat) t v, Try.f7.params[j]? = some t → args[j]? = some v → Value.okWide Try.prog W .any base t v)
    (hW : DataW.Whole enc Try.prog Try.f7.params.toList Rows.hexJoinsSpec.vars false W args.toList ds gs before) (hk : Rows.uptoSmall H (ds ++ gs) = true) :
    Calls Try.prog 7 args W fun e W' => ∃ v, e = .returned v ∧ Rows.hexJoinsSpec.post enc Try.prog Try.f7 false true false false W args v W' := by
  have hW' := hW
  obtain ⟨p, q, hA0, hV, rfl, hfz, hnd⟩ := hW
  have hA : DataW.TrodAll enc Try.prog W 0 (fun _ => true) true Try.f7.params.toList args.toList ds p := hA0
  rw [Try.params7] at hA hval
  obtain ⟨v0, vs0, d0, ds0, p0, q0, hargs, rfl, rfl, h0, r0⟩ := trodAll_cons hA
  obtain ⟨v1, vs1, d1, ds1, p1, q1, rfl, rfl, rfl, h1, r1⟩ := trodAll_cons r0
  obtain ⟨rfl, rfl, rfl⟩ := trodAll_nil r1
  obtain rfl : args = #[v0, v1] := by cases args; simp_all
  obtain ⟨rfl, rfl⟩ := trodVars_none hV
  obtain ⟨s, rfl, rfl, rfl, m0⟩ := open_string Try.underlying9 (hval 0 9 v0 rfl rfl) h0
  obtain ⟨t, rfl, rfl, rfl, m1⟩ := open_string Try.underlying9 (hval 1 9 v1 rfl rfl) h1
  clear hA0
  simp only [List.append_nil] at hW' hk
  refine (walk s t (short2 hk) W).mono fun e W' ⟨he, hg⟩ => ?_
  subst he
  exact ⟨_, rfl, _, _, _, [], [], [], hW', trodAll_cons_mk (shut_bool Try.underlying4 _) trodAll_mk0, trodAll_cons_mk (shut_string Try.underlying9 m0) (trodAll_cons_mk (shut_string Try.underlying9 m1) trodAll_mk0), rfl, hg.frame _, fun h => by cases h⟩

set_option maxRecDepth 100000 in
theorem lifted (os : Os) (started : os.Started) (H : Type) (enc : TypeId × Value → H) (F : Stop.Interp) :
    ReturnsInHanded {} Try.checked os 7 .any ((Rows.OpenSpec.upto Rows.hexJoinsSpec).pre6 enc Try.prog Try.f7 Rows.hexJoinsUptoRow.domain false) (((Rows.OpenSpec.upto Rows.hexJoinsSpec).at F).post enc Try.prog Try.f7 false true false false) := by
  refine returnsInHanded_of_cond (C := Try.checked) (s := Rows.OpenSpec.upto Rows.hexJoinsSpec) (k := Rows.uptoSmall) rfl own started (by kernel_rfl) Try.func7
    (OpenSpec.witness (enc := enc) (C := Try.checked) (s := Rows.OpenSpec.upto Rows.hexJoinsSpec) (k := Rows.uptoSmall) rfl false ⟨#[], #[.string .empty, .string .empty], []⟩ 8 (by kernel_rfl) (by kernel_rfl) (by kernel_rfl)
      (x := ([.lit (.string []), .lit (.string [])], [], [])) (by kernel_rfl) rfl (by kernel_rfl)) ?_
  intro W base args ds gs before hval hW _ hk _
  exact contract H enc W base args ds gs before hval hW hk

/-- THE STATEMENT. -/
theorem proved : Rows.HexJoinsUptoSaid :=
  OpenClaim.holds_of_cond 7 Try.f7 rfl rfl rfl rfl rfl rfl rfl ⟨rfl, rfl, rfl, rfl, rfl⟩ rfl rfl rfl rfl rfl (by kernel_rfl) Try.func7 (by kernel_rfl)
    (of_decide_eq_true (by kernel_rfl)) (by unfold Func.isWrapper; first | (rw [if_pos (by decide +kernel)]; kernel_rfl) | (rw [if_neg (by decide +kernel)]; exact ⟨rfl, rfl⟩))
    (fun os started H enc _ F => lifted os started H enc F)
end Go.Proofs.Yteoiijiiccecfaa.hexJoins
