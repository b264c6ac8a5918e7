/-
  KdfKnown: the call returns true: one tag is as it is known. (The tied card: package blake's three tables and package sha's roots as start-up lays them.)
-/
import Derived.Test.YtfpknemoaplhdaaDoorFrame
import Derived.Test.YtfpknemoaplhdaaDoorKdfFace
import Derived.Test.YtfpknemoaplhdaaDoorKdfDoor
import Derived.Test.YtfpknemoaplhdaaDoorPlainKdfKnown
import Derived.Test.YtfpknemoaplhdaaDoorKeepBytes
import Derived.Test.YtfpknemoaplhdaaDoorShelf
import Derived.Test.YtfpknemoaplhdaaDoorCards
import Derived.Test.YtfpknemoaplhdaaDoorTie
import Derived.SevenTiedAt
namespace Go.Proofs.YtfpknemoaplhdaaDoor.kdfKnown
open Go.ChangeShapes Go.WideShapes Go.ChangeAt Go.RowKit
open kdf

theorem un1 : unhexB (⟨#[98, 48, 51, 52, 52, 99, 54, 49, 100, 56, 100, 98, 51, 56, 53, 51, 53, 99, 97, 56, 97, 102, 99, 101, 97, 102, 48, 98, 102, 49, 50, 98, 56, 56, 49, 100, 99, 50, 48, 48, 99, 57, 56, 51, 51, 100, 97, 55, 50, 54, 101, 57, 51, 55, 54, 99, 50, 101, 51, 50, 99, 102, 102, 55]⟩ : ByteArray) = some vo := by decide +kernel
theorem rep : (⟨(Lib.repeatL [11] 20).toArray⟩ : ByteArray) = key1 := by decide +kernel
set_option maxRecDepth 100000 in
set_option maxHeartbeats 800000 in
theorem walk (w : World) (hT : Tab w) : Calls Tryd.prog 3 #[] w fun e w' => e = .returned (.bool true) ∧ Below w.heap.size w w' := by
  have B1 : Hid (∀ w, Calls Tryd.prog 8 #[.string (⟨#[98, 48, 51, 52, 52, 99, 54, 49, 100, 56, 100, 98, 51, 56, 53, 51, 53, 99, 97, 56, 97, 102, 99, 101, 97, 102, 48, 98, 102, 49, 50, 98, 56, 56, 49, 100, 99, 50, 48, 48, 99, 57, 56, 51, 51, 100, 97, 55, 50, 54, 101, 57, 51, 55, 54, 99, 50, 101, 51, 50, 99, 102, 102, 55]⟩ : ByteArray)] w fun e w' => e = .returned (.string vo) ∧ Below w.heap.size w w') := fun w => bytes_any _ vo (by decide) un1 w
  have R1 : Hid (∀ w, Calls Tryd.prog 7 #[.string ⟨#[11]⟩, .int .i64 20] w fun e w' => e = .returned (.string key1) ∧ Below w.heap.size w w') := fun w => by
    have h := Tryd.strings_Repeat ⟨#[11]⟩ 20 w (by omega) (by show 1 * 20 ≤ _; omega)
    rw [show (⟨#[11]⟩ : ByteArray).data.toList = [11] from rfl, rep] at h
    exact h
  have F1 : Hid (∀ w', Below w.heap.size w w' → Calls Tryd.prog 6 #[.int .i64 2, .string key1, .string msg1] w' fun e w'' => e = .returned (.tuple #[.string vo, .int .i64 0]) ∧ Below w'.heap.size w' w'') := fun w' h => by
    have := Mac_any 1 (by decide) key1 msg1 (by decide) (by decide) w' (hT.grown h)
    rw [show dg 1 = sha.shaT from rfl, known] at this
    exact this
  unfold msg1 at F1
  generalize vo = y1 at *
  generalize key1 = k1 at *
  have hX : Below w.heap.size w w := Below.refl _ _
  go_enter Tryd.func3, Tryd.ntmps3
  go_wp2_with (first
    | (go_at_call 7; (with_reducible refine (R1.out _).mono ?_); rintro e wq ⟨rfl, hq⟩; replace hX := hX.trans (hq.mono hX.size); clear hq)
    | (go_at_call 8; (with_reducible refine (B1.out _).mono ?_); rintro e wq ⟨rfl, hq⟩; replace hX := hX.trans (hq.mono hX.size); clear hq)
    | (go_at_call 6; (with_reducible refine (F1.out _ hX).mono ?_); rintro e wq ⟨rfl, hq⟩; replace hX := hX.trans (hq.mono hX.size); clear hq))
  go_ret
  exact ⟨rfl, hX⟩

/-! ### The row's step -/
set_option maxRecDepth 100000 in
theorem lifted (os : Os) (started : os.Started) (H : Type) (enc : TypeId × Value → H) :
    ReturnsInHanded {} Tryd.checked os 3 .any (fun w args => (Rows.kdfKnownSpec.pre enc Tryd.prog Tryd.f3 [] false w args ∧ laidMetH Tryd.prog laidK w) ∧ sizedMet enc Tryd.prog Tryd.f3 (OpenSpec.ofChange Rows.kdfKnownSpec) false w args)
      (Rows.kdfKnownSpec.post enc Tryd.prog Tryd.f3 false true false false) := by
  refine returnsInHanded_of_change_and (C := Tryd.checked) (X := fun w _ => laidMetH Tryd.prog laidK w) (fun _ _ _ hh h => h.of_heap hh) own started (by kernel_rfl) Tryd.func3
    (ChangeSpec.witness_shaped (enc := enc) (C := Tryd.checked) (os := os) (X := fun w _ => laidMetH Tryd.prog laidK w) false (World.doorLaid Tryd.prog 400 os) #[] 8 rfl (World.shaped_of_RefB (by kernel_rfl) (by kernel_rfl)) (by kernel_rfl) (by kernel_rfl) (by kernel_rfl) (tabs_met os _)) ?_
  intro W base args ds gs before _ hW _ _ hL _
  have hW' := hW
  obtain ⟨p, q, hA0, hV, rfl, hfz, hnd⟩ := hW
  have hA : DataW.TrodAll enc Tryd.prog W 0 (fun _ => true) true Tryd.f3.params.toList args.toList ds p := hA0
  rw [Tryd.params3] at hA
  obtain ⟨rfl, rfl, rfl⟩ := trodAll_none hA
  obtain ⟨rfl, rfl⟩ := trodVars_none hV
  clear hA0
  simp only [List.append_nil] at hW'
  refine (walk W (tabs hL)).mono fun e W' ⟨he, hg⟩ => ?_
  subst he
  exact ⟨_, rfl, _, _, _, [], [], [], hW', trodAll_cons_mk (shut_bool Tryd.underlying4 _) trodAll_mk0, trodAll_mk0, rfl, hg.frame _, fun h => by cases h⟩

/-- THE ROW. -/
theorem row : Rows.KdfKnownSaid :=
  OpenClaim.holds_of_wide 3 Tryd.f3 rfl rfl rfl rfl rfl rfl rfl ⟨rfl, rfl, rfl, rfl, rfl⟩ rfl rfl rfl rfl rfl (by kernel_rfl) Tryd.func3 (by kernel_rfl)
    (of_decide_eq_true (by kernel_rfl)) (by unfold Func.isWrapper; first | (rw [if_pos (by decide +kernel)]; kernel_rfl) | (rw [if_neg (by decide +kernel)]; exact ⟨rfl, rfl⟩))
    (fun os started H enc _ => lifted os started H enc)

/-- THE STATEMENT: the tied card. -/
theorem proved : Rows.KdfKnownCardSaid :=
  Claim7.holds_tied_plain_at .later [] [.data, .data, .data, .data] true (true, "763c32b948d5aa0f7b4c5f4610f89e119f9106e36fe79adad22e87da5d5257f8") false
    row (fun _ h => by cases h) (by kernel_rfl) (fun _ h => by cases h) kdfKnown_row_tie rfl ⟨rfl, rfl⟩ (by kernel_rfl) rfl
    (fun f fn hf hfn => by
      obtain rfl : f = 3 := Option.some.inj ((show Tryd.prog.funcNamed "souterrain/souterrainkeep.KdfKnown" = some 3 by kernel_rfl).symm.trans hf) |>.symm
      obtain rfl : fn = Tryd.f3 := (Option.some.inj (Tryd.func3.symm.trans hfn)).symm
      exact ⟨by kernel_rfl, fun j t ht => by
        rw [Tryd.params3] at ht
        simp at ht⟩)
    (by kernel_rfl)
end Go.Proofs.YtfpknemoaplhdaaDoor.kdfKnown
