/-
  ElemLeast: whatever text a is handed in (cut, or lengthened by bytes 0, to 32 bytes), the call returns true: what is answered is below 2^255 - 19, and once more the same; 2^255 - 19 more is the same.
-/
import Derived.Test.YthabfejpejjenabFrame
import Derived.Test.YthabfejpejjenabPlainElem
import Derived.BigQuiet
namespace Go.Proofs.Ythabfejpejjenab.elemLeast
open Go.ChangeShapes Go.WideShapes Go.ChangeAt Go.RowKit
open Go.ChangeMaps (open_string shut_string)
open num

theorem ffs (w : World) : Calls Try.prog 13 #[.string ⟨#[255]⟩, .int .i64 30] w fun e w' => e = .returned (.string ⟨(Lib.repeatL [255] 30).toArray⟩) ∧ Below w.heap.size w w' :=
  Try.strings_Repeat ⟨#[255]⟩ 30 w (by omega) (by show 1 * 30 ≤ _; omega)

set_option maxHeartbeats 1600000 in
theorem walk (s : ByteArray) (hs : s.size ≤ maxLen) (w : World) :
    Calls Try.prog 5 #[.string s] w fun e w' => e = .returned (.bool true) ∧ Below w.heap.size w w' := by
  obtain ⟨l, hl, hlt, r1, r2, r3, r4⟩ := least_plain (sz s 32) (sz_size _ _)
  have H : Hid (s.size ≤ maxLen) := hs
  have hR : (⟨(Lib.repeatL [255] 30).toArray⟩ : ByteArray).size = 30 := by decide +kernel
  obtain ⟨R, HR⟩ : ∃ R : ByteArray, (⟨(Lib.repeatL [255] 30).toArray⟩ : ByteArray) = R := ⟨_, rfl⟩
  have hPT : (⟨#[237]⟩ ++ R ++ ⟨#[127]⟩ : ByteArray) = PT := by rw [← HR]; rfl
  rw [HR] at hR
  have HH : Hid ((⟨(Lib.repeatL [255] 30).toArray⟩ : ByteArray) = R ∧ (⟨#[237]⟩ ++ R ++ ⟨#[127]⟩ : ByteArray) = PT) := ⟨HR, hPT⟩
  clear hs HR hPT
  go_enter Try.func5, Try.ntmps5
  go_wp2_with fail
  refine (elems_any s H.out _).mono ?_
  rintro e w1 ⟨rfl, hb1⟩
  go_wp2_with fail
  refine (ffs _).mono ?_
  rintro e w2 ⟨rfl, hb2⟩
  rw [HH.out.1]
  have hb3 := hb1.trans (hb2.mono hb1.size)
  clear hb1 hb2
  generalize sz s 32 = a at *
  go_wp2_with (go_at_call 11; refine (least_keep hb3 r1).mono ?_; rintro e w4 ⟨rfl, hb4⟩)
  rw [HH.out.2]
  have hp : PT.size = 32 := PT_size
  generalize PT = p at *
  have he : (l.toList == []) = false := by
    rw [beq_eq_false_iff_ne, ByteArray.toList_eq]
    intro e
    have := congrArg List.length e
    rw [Array.length_toList] at this
    replace this : l.size = 0 := this
    omega
  clear hb3
  go_loopw [6, 7] (fun v i wr => ∃ (n : Nat) (b : Bool), n ≤ 32 ∧ i = .int .i64 ((n : Int) - 1) ∧ v = .bool b ∧ (b = false → Top l p n) ∧ Below w.heap.size w wr) (fun _ i _ => (intOf i + 1).toNat)
  case atStart => exact ⟨32, false, by omega, rfl, rfl, fun _ j h1 h2 => by omega, hb4⟩
  case round =>
    clear hb4
    obtain ⟨n, b, hn, rfl, rfl, ht, hnx⟩ := hrel
    have HT : Hid (b = false → Top l p n) := ht
    have HL : Hid (l.size = 32 ∧ p.size = 32 ∧ N l < N p) := ⟨hl, hp, hlt⟩
    clear ht hl hp hlt
    cases b with
    | true =>
      by_cases hi : 0 < n
      · have hd : decide ((n : Int) - 1 ≥ 0) = true := by simp; omega
        go_wp2_with (first
          | (go_at_call 11; refine (least_keep (by assumption) (by assumption)).mono ?_; rintro e wn ⟨rfl, hbn⟩)
          | (go_at_call 10; refine (add_keep (by assumption) (by assumption)).mono ?_; rintro e wn ⟨rfl, hbn⟩)
          | (go_at_call 14; refine (zeros_keep (by assumption)).mono ?_; rintro e wn ⟨rfl, hbn⟩))
        go_ret
        exact ⟨rfl, by assumption⟩
      · have hd : decide ((n : Int) - 1 ≥ 0) = false := by simp; omega
        go_wp2_with (first
          | (go_at_call 11; refine (least_keep (by assumption) (by assumption)).mono ?_; rintro e wn ⟨rfl, hbn⟩)
          | (go_at_call 10; refine (add_keep (by assumption) (by assumption)).mono ?_; rintro e wn ⟨rfl, hbn⟩)
          | (go_at_call 14; refine (zeros_keep (by assumption)).mono ?_; rintro e wn ⟨rfl, hbn⟩))
        go_ret
        exact ⟨rfl, by assumption⟩
    | false =>
      have htop := HT.out rfl
      cases n with
      | zero => exact absurd htop (top_zero HL.out.1 HL.out.2.1 HL.out.2.2)
      | succ q =>
        have hle := top_le HL.out.1 HL.out.2.1 HL.out.2.2 (by omega) htop
        have HTP : Hid (Top l p (q + 1)) := htop
        clear htop HT
        have hb := PlainAid.get_bt l
        have hb' := PlainAid.get_bt p
        have k0 : (0 : Int) ≤ (q : Int) := by omega
        have k1 : q < l.size := by rw [HL.out.1]; omega
        have k2 : q < p.size := by rw [HL.out.2.1]; omega
        have k3 : (q : Int) < (l.size : Int) := by omega
        have k4 : (q : Int) < (p.size : Int) := by omega
        have hq : ((q + 1 : Nat) : Int) - 1 = (q : Int) := by omega
        rw [hq]
        have hd : decide ((q : Int) ≥ 0) = true := by simp
        have hg : decide (PlainAid.bt l q > PlainAid.bt p q) = false := by simp; omega
        by_cases hc : PlainAid.bt l q < PlainAid.bt p q
        · have hd2 : decide (PlainAid.bt l q < PlainAid.bt p q) = true := by simp; omega
          clear hle hc hq
          go_wp2_with fail
          go_quiet (fail)
          go_wp2_with fail
          go_quiet (fail)
          go_wp2_with fail
          go_roundw
          case rel => exact ⟨q, true, by omega, by go_num, rfl, fun h => (by cases h), below_drewN hnx _⟩
          case measure => simp [intOf]
        · have hd2 : decide (PlainAid.bt l q < PlainAid.bt p q) = false := by simp; omega
          have HE : Hid (PlainAid.bt l q = PlainAid.bt p q) := by show PlainAid.bt l q = PlainAid.bt p q; omega
          clear hle hc hq
          go_wp2_with fail
          go_quiet (fail)
          go_wp2_with fail
          go_quiet (fail)
          go_wp2_with fail
          go_roundw
          case rel => exact ⟨q, false, by omega, by go_num, rfl, fun _ => top_step HTP.out HE.out, below_drewN hnx _⟩
          case measure => simp [intOf]

/-! ### The row's step -/
set_option maxRecDepth 100000 in
theorem lifted (os : Os) (started : os.Started) (H : Type) (enc : TypeId × Value → H) :
    ReturnsInHanded {} Try.checked os 5 .any (Rows.elemLeastSpec.pre6 enc Try.prog Try.f5 Rows.elemLeastRow.domain false) (Rows.elemLeastSpec.post enc Try.prog Try.f5 false true false false) := by
  refine returnsInHanded_of_change (C := Try.checked) own started (by kernel_rfl) Try.func5
    (ChangeSpec.witness6 (enc := enc) (C := Try.checked) false ⟨#[], #[.string .empty], []⟩ 8 (by kernel_rfl) (by kernel_rfl) (by kernel_rfl) (by kernel_rfl)) ?_
  intro W base args ds gs before hval0 hW _ _
  have hval : ∀ (j : Nat) t v, Try.f5.params[j]? = some t → args[j]? = some v → Value.okWide Try.prog W .any base t v := hval0
  have hW' := hW
  obtain ⟨p, q, hA0, hV, rfl, hfz, hnd⟩ := hW
  have hA : DataW.TrodAll enc Try.prog W 0 (fun _ => true) true Try.f5.params.toList args.toList ds p := hA0
  rw [Try.params5] at hA hval
  obtain ⟨v0, vs0, d0, ds0, p0, q0, hargs, rfl, rfl, h0, r0⟩ := trodAll_cons hA
  obtain ⟨rfl, rfl, rfl⟩ := trodAll_nil r0
  obtain rfl : args = #[v0] := by cases args; simp_all
  obtain ⟨rfl, rfl⟩ := trodVars_none hV
  obtain ⟨s0, rfl, rfl, rfl, m0⟩ := open_string Try.underlying9 (hval 0 9 v0 rfl rfl) h0
  clear hA0 hval0
  simp only [List.append_nil] at hW'
  refine (walk s0 m0 W).mono fun e W' ⟨he, hg⟩ => ?_
  subst he
  exact ⟨_, rfl, _, _, _, [], [], [], hW', trodAll_cons_mk (shut_bool Try.underlying4 _) trodAll_mk0, (trodAll_cons_mk (shut_string Try.underlying9 m0) trodAll_mk0), rfl, hg.frame _, fun h => by cases h⟩

/-- THE STATEMENT. -/
theorem proved : Rows.ElemLeastSaid :=
  OpenClaim.holds_of_wide 5 Try.f5 rfl rfl rfl rfl rfl rfl rfl ⟨rfl, rfl, rfl, rfl, rfl⟩ rfl rfl rfl rfl rfl (by kernel_rfl) Try.func5 (by kernel_rfl)
    (of_decide_eq_true (by kernel_rfl)) (by unfold Func.isWrapper; first | (rw [if_pos (by decide +kernel)]; kernel_rfl) | (rw [if_neg (by decide +kernel)]; exact ⟨rfl, rfl⟩))
    (fun os started H enc _ => lifted os started H enc)
end Go.Proofs.Ythabfejpejjenab.elemLeast
