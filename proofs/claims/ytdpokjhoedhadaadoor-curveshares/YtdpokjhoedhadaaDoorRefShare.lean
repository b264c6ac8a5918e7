/-
  THE WALKS OF the document's own Public and Share.
-/
import Derived.Test.YtdpokjhoedhadaaDoorRefMult
namespace Go.Proofs.YtdpokjhoedhadaaDoor.num
open Go.RowKit
open edw

/-- Bytes 0. -/
def zer (n : Nat) : ByteArray := ⟨(Lib.repeatL [0] n).toArray⟩
theorem zer_size (n : Nat) : (zer n).size = n := by
  unfold zer
  show (Lib.repeatL [0] n).toArray.size = n
  induction n with
  | zero => rfl
  | succ n ih =>
    simp only [List.size_toArray] at ih ⊢
    show ([0] ++ Lib.repeatL [0] n).length = _
    rw [List.length_append, ih]
    simp
    omega
theorem zeros_any (n : Nat) (hn : n ≤ 1000) (w : World) : Calls Tryd.prog 27 #[.int .i64 n] w fun e w' => e = .returned (.string (zer n)) ∧ Below w.heap.size w w' := by
  have h0 := chr_any 0 (by decide) (by decide)
  have h1 : ∀ W : World, Calls Tryd.prog 38 #[.string ⟨#[0]⟩, .int .i64 n] W fun e w' => e = .returned (.string (zer n)) ∧ Below W.heap.size W w' := fun W => Tryd.strings_Repeat ⟨#[0]⟩ n W (by omega) (by show 1 * n ≤ _; omega)
  have hc : (⟨#[UInt8.ofNat (0 : Int).toNat]⟩ : ByteArray) = ⟨#[0]⟩ := rfl
  rw [hc] at h0
  generalize zer n = z at *
  go_enter Tryd.func27, Tryd.ntmps27
  go_wp2_with fail
  refine (h0 _).mono ?_
  rintro e w1 ⟨rfl, hb1⟩
  go_wp2_with fail
  refine (h1 _).mono ?_
  rintro e w2 ⟨rfl, hb2⟩
  go_wp2_with fail
  go_ret
  exact ⟨rfl, hb1.trans (hb2.mono hb1.size)⟩
theorem nine_join : (⟨#[UInt8.ofNat (9 : Int).toNat]⟩ ++ zer 31 : ByteArray) = crv.nineT := by decide +kernel
theorem refPublic_of (k : ByteArray) (r : ByteArray) (er : Int) (hM : ∀ W : World, Calls Tryd.prog 9 #[.string k, .string crv.nineT] W fun e w' => e = .returned (.tuple #[.string r, .int .i64 er]) ∧ Below W.heap.size W w') (w : World) :
    Calls Tryd.prog 11 #[.string k] w fun e w' => e = .returned (.tuple #[.string r, .int .i64 er]) ∧ Below w.heap.size w w' := by
  have h0 := chr_any 9 (by decide) (by decide)
  have h1 : ∀ W : World, Calls Tryd.prog 27 #[.int .i64 31] W fun e w' => e = .returned (.string (zer 31)) ∧ Below W.heap.size W w' := fun W => zeros_any 31 (by decide) W
  rw [← nine_join] at hM
  have y0 : (⟨#[UInt8.ofNat (9 : Int).toNat]⟩ : ByteArray).size = 1 := rfl
  have y1 := zer_size 31
  generalize (⟨#[UInt8.ofNat (9 : Int).toNat]⟩ : ByteArray) = c at *
  generalize zer 31 = z at *
  go_enter Tryd.func11, Tryd.ntmps11
  go_wp2_with fail
  refine (h0 _).mono ?_
  rintro e w1 ⟨rfl, hb1⟩
  go_wp2_with fail
  refine (h1 _).mono ?_
  rintro e w2 ⟨rfl, hb2⟩
  go_wp2_with fail
  refine (hM _).mono ?_
  rintro e w3 ⟨rfl, hb3⟩
  have hb4 := hb1.trans (hb2.mono hb1.size)
  go_wp2_with fail
  go_ret2
  exact ⟨rfl, hb4.trans (hb3.mono hb4.size)⟩
theorem zer_32 : zer 32 = (⟨#[0, 0, 0, 0, 0, 0, 0, 0, 0, 0, 0, 0, 0, 0, 0, 0, 0, 0, 0, 0, 0, 0, 0, 0, 0, 0, 0, 0, 0, 0, 0, 0]⟩ : ByteArray) := by decide +kernel
theorem refShare_bad (k u : ByteArray) (h : k.size ≠ 32 ∨ u.size ≠ 32) (w : World) :
    Calls Tryd.prog 13 #[.string k, .string u] w fun e w' => e = .returned (.tuple #[.string ⟨#[]⟩, .int .i64 1]) ∧ Below w.heap.size w w' := by
  have h1 := refMult_bad k u h w
  clear h
  go_enter Tryd.func13, Tryd.ntmps13
  go_wp2_with (go_at_call 9; refine h1.mono ?_; rintro e w1 ⟨rfl, hb1⟩)
  go_ret2
  exact ⟨rfl, hb1⟩
theorem refShare_some (k u : ByteArray) (hk : k.size = 32) (hu : u.size = 32) (hx : crv.xk k u ≠ 0) (w : World) :
    Calls Tryd.prog 13 #[.string k, .string u] w fun e w' => e = .returned (.tuple #[.string (crv.xt k u), .int .i64 0]) ∧ Below w.heap.size w w' := by
  have h1 := refMult_good k u hk hu w
  have h2 : ∀ W : World, Calls Tryd.prog 27 #[.int .i64 32] W fun e w' => e = .returned (.string (zer 32)) ∧ Below W.heap.size W w' := fun W => zeros_any 32 (by decide) W
  have hn : crv.xt k u ≠ zer 32 := fun e => hx (crv.kt_inj (e.trans (zer_32.trans crv.kt_0.symm)))
  generalize crv.xt k u = r at *
  generalize zer 32 = z at *
  have hl : (r.toList == z.toList) = false := by
    rw [beq_eq_false_iff_ne, ByteArray.toList_eq, ByteArray.toList_eq]
    exact fun e => hn (by cases r; cases z; congr; exact Array.ext' e)
  clear hk hu hx hn
  go_enter Tryd.func13, Tryd.ntmps13
  go_wp2_with (go_at_call 9; refine h1.mono ?_; rintro e w1 ⟨rfl, hb1⟩)
  refine (h2 _).mono ?_
  rintro e w2 ⟨rfl, hb2⟩
  go_wp2_with fail
  go_ret2
  exact ⟨rfl, hb1.trans (hb2.mono hb1.size)⟩
theorem refShare_none (k u : ByteArray) (hk : k.size = 32) (hu : u.size = 32) (hx : crv.xk k u = 0) (w : World) :
    Calls Tryd.prog 13 #[.string k, .string u] w fun e w' => e = .returned (.tuple #[.string ⟨#[]⟩, .int .i64 12]) ∧ Below w.heap.size w w' := by
  have h1 := refMult_good k u hk hu w
  have h2 : ∀ W : World, Calls Tryd.prog 27 #[.int .i64 32] W fun e w' => e = .returned (.string (zer 32)) ∧ Below W.heap.size W w' := fun W => zeros_any 32 (by decide) W
  have hn : crv.xt k u = zer 32 := by unfold crv.xt; rw [hx, crv.kt_0, zer_32]
  rw [hn] at h1
  generalize zer 32 = z at *
  clear hk hu hx hn
  go_enter Tryd.func13, Tryd.ntmps13
  go_wp2_with (go_at_call 9; refine h1.mono ?_; rintro e w1 ⟨rfl, hb1⟩)
  refine (h2 _).mono ?_
  rintro e w2 ⟨rfl, hb2⟩
  go_wp2_with fail
  go_ret2
  exact ⟨rfl, hb1.trans (hb2.mono hb1.size)⟩
end Go.Proofs.YtdpokjhoedhadaaDoor.num
