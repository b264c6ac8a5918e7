/-
  THE WALKS OF package curve's Mult, Public and Share.
-/
import Derived.Test.YtdpokjhoedhadaaDoorCurveClimb
import Derived.Test.YtdpokjhoedhadaaDoorCurveClamp
namespace Go.Proofs.YtdpokjhoedhadaaDoor.crv
open Go.RowKit
open Go.Proofs.YtdpokjhoedhadaaDoor.num Go.Proofs.YtdpokjhoedhadaaDoor.edw

/-- The X25519 of a key and a number, as numbers. -/
def xk (k u : ByteArray) : K := mlt (kb (clampC k) 255) (kap (N (belowC u)))
/-- The same, as a text. -/
def xt (k u : ByteArray) : ByteArray := kt (xk k u)
theorem xt_size (k u : ByteArray) : (xt k u).size = 32 := kt_size _
def nineT : ByteArray := (⟨#[9, 0, 0, 0, 0, 0, 0, 0, 0, 0, 0, 0, 0, 0, 0, 0, 0, 0, 0, 0, 0, 0, 0, 0, 0, 0, 0, 0, 0, 0, 0, 0]⟩ : ByteArray)
theorem nineT_size : nineT.size = 32 := by decide

theorem mult_good (k u : ByteArray) (hk : k.size = 32) (hu : u.size = 32) (w : World) (hT : Tabs w) :
    Calls Tryd.prog 8 #[.string k, .string u] w fun e w' => e = .returned (.tuple #[.string (xt k u), .int .i64 0]) ∧ Below w.heap.size w w' := by
  have t1 : ((u.size : Int) != 32) = false := by rw [bne_eq_false_iff_eq]; omega
  have h1 := clamp_good k hk
  have h2 := below_any u hu
  have h3 := fun W hW => climbed_any (clampC k) (belowC u) (kap (N (belowC u))) (clampC_size k hk) ⟨belowC_size u hu, rfl⟩ W (hT.below hW)
  have HE : Hid (kt (mlt (kb (clampC k) 255) (kap (N (belowC u)))) = xt k u) := rfl
  generalize kt (mlt (kb (clampC k) 255) (kap (N (belowC u)))) = r at *
  generalize clampC k = c at *
  generalize belowC u = b at *
  clear hk hu hT
  go_enter Tryd.func8, Tryd.ntmps8
  go_wp2_with (first
    | (go_at_call 16; refine (h1 _).mono ?_; rintro e w1 ⟨rfl, hb1⟩)
    | (go_at_call 19; refine (h2 _).mono ?_; rintro e w2 ⟨rfl, hb2⟩; have hb3 := hb1.trans (hb2.mono hb1.size))
    | (go_at_call 18; refine (h3 _ hb3).mono ?_; rintro e w3 ⟨rfl, hb4⟩))
  go_ret2
  exact ⟨by rw [HE.out]; rfl, hb3.trans (hb4.mono hb3.size)⟩
theorem mult_bad (k u : ByteArray) (h : k.size ≠ 32 ∨ u.size ≠ 32) (w : World) :
    Calls Tryd.prog 8 #[.string k, .string u] w fun e w' => e = .returned (.tuple #[.string ⟨#[]⟩, .int .i64 1]) ∧ Below w.heap.size w w' := by
  by_cases hk : k.size = 32
  · have t1 : ((u.size : Int) != 32) = true := by rw [bne_iff_ne]; omega
    have h1 := clamp_good k hk
    generalize clampC k = c at *
    clear h hk
    go_enter Tryd.func8, Tryd.ntmps8
    go_wp2_with (go_at_call 16; refine (h1 _).mono ?_; rintro e w1 ⟨rfl, hb1⟩)
    go_ret2
    exact ⟨rfl, hb1⟩
  · have h1 := clamp_bad k hk
    clear h hk
    go_enter Tryd.func8, Tryd.ntmps8
    go_wp2_with (go_at_call 16; refine (h1 _).mono ?_; rintro e w1 ⟨rfl, rfl⟩)
    go_ret2
    exact ⟨rfl, Below.refl _ _⟩
theorem public_good (k : ByteArray) (hk : k.size = 32) (w : World) (hT : Tabs w) :
    Calls Tryd.prog 10 #[.string k] w fun e w' => e = .returned (.tuple #[.string (xt k nineT), .int .i64 0]) ∧ Below w.heap.size w w' := by
  have h1 : Calls Tryd.prog 8 #[.string k, .string (⟨#[9, 0, 0, 0, 0, 0, 0, 0, 0, 0, 0, 0, 0, 0, 0, 0, 0, 0, 0, 0, 0, 0, 0, 0, 0, 0, 0, 0, 0, 0, 0, 0]⟩ : ByteArray)] w fun e w' => e = .returned (.tuple #[.string (xt k nineT), .int .i64 0]) ∧ Below w.heap.size w w' := mult_good k nineT hk nineT_size w hT
  generalize xt k nineT = r at *
  clear hk hT
  go_enter Tryd.func10, Tryd.ntmps10
  go_wp2_with (go_at_call 8; refine h1.mono ?_; rintro e w1 ⟨rfl, hb1⟩)
  go_ret2
  exact ⟨rfl, hb1⟩
theorem public_bad (k : ByteArray) (hk : k.size ≠ 32) (w : World) :
    Calls Tryd.prog 10 #[.string k] w fun e w' => e = .returned (.tuple #[.string ⟨#[]⟩, .int .i64 1]) ∧ Below w.heap.size w w' := by
  have h1 := mult_bad k (⟨#[9, 0, 0, 0, 0, 0, 0, 0, 0, 0, 0, 0, 0, 0, 0, 0, 0, 0, 0, 0, 0, 0, 0, 0, 0, 0, 0, 0, 0, 0, 0, 0]⟩ : ByteArray) (.inl hk) w
  clear hk
  go_enter Tryd.func10, Tryd.ntmps10
  go_wp2_with (go_at_call 8; refine h1.mono ?_; rintro e w1 ⟨rfl, hb1⟩)
  go_ret2
  exact ⟨rfl, hb1⟩
theorem share_bad (k u : ByteArray) (h : k.size ≠ 32 ∨ u.size ≠ 32) (w : World) :
    Calls Tryd.prog 12 #[.string k, .string u] w fun e w' => e = .returned (.tuple #[.string ⟨#[]⟩, .int .i64 1]) ∧ Below w.heap.size w w' := by
  have h1 := mult_bad k u h w
  clear h
  go_enter Tryd.func12, Tryd.ntmps12
  go_wp2_with (go_at_call 8; refine h1.mono ?_; rintro e w1 ⟨rfl, hb1⟩)
  go_ret2
  exact ⟨rfl, hb1⟩
theorem kt_0 : kt 0 = (⟨#[0, 0, 0, 0, 0, 0, 0, 0, 0, 0, 0, 0, 0, 0, 0, 0, 0, 0, 0, 0, 0, 0, 0, 0, 0, 0, 0, 0, 0, 0, 0, 0]⟩ : ByteArray) := by decide +kernel
theorem share_some (k u : ByteArray) (hk : k.size = 32) (hu : u.size = 32) (hx : xk k u ≠ 0) (w : World) (hT : Tabs w) :
    Calls Tryd.prog 12 #[.string k, .string u] w fun e w' => e = .returned (.tuple #[.string (xt k u), .int .i64 0]) ∧ Below w.heap.size w w' := by
  have h1 := mult_good k u hk hu w hT
  have hn : xt k u ≠ (⟨#[0, 0, 0, 0, 0, 0, 0, 0, 0, 0, 0, 0, 0, 0, 0, 0, 0, 0, 0, 0, 0, 0, 0, 0, 0, 0, 0, 0, 0, 0, 0, 0]⟩ : ByteArray) := fun e => hx (kt_inj (e.trans kt_0.symm))
  generalize xt k u = r at *
  have hl : (r.toList == [0, 0, 0, 0, 0, 0, 0, 0, 0, 0, 0, 0, 0, 0, 0, 0, 0, 0, 0, 0, 0, 0, 0, 0, 0, 0, 0, 0, 0, 0, 0, 0]) = false := by
    rw [beq_eq_false_iff_ne, ByteArray.toList_eq]
    exact fun e => hn (by cases r; congr; exact Array.ext' e)
  clear hk hT hu hx hn
  go_enter Tryd.func12, Tryd.ntmps12
  go_wp2_with (go_at_call 8; refine h1.mono ?_; rintro e w1 ⟨rfl, hb1⟩)
  go_ret2
  exact ⟨rfl, hb1⟩
theorem share_none (k u : ByteArray) (hk : k.size = 32) (hu : u.size = 32) (hx : xk k u = 0) (w : World) (hT : Tabs w) :
    Calls Tryd.prog 12 #[.string k, .string u] w fun e w' => e = .returned (.tuple #[.string ⟨#[]⟩, .int .i64 12]) ∧ Below w.heap.size w w' := by
  have h1 := mult_good k u hk hu w hT
  have hn : xt k u = (⟨#[0, 0, 0, 0, 0, 0, 0, 0, 0, 0, 0, 0, 0, 0, 0, 0, 0, 0, 0, 0, 0, 0, 0, 0, 0, 0, 0, 0, 0, 0, 0, 0]⟩ : ByteArray) := by unfold xt; rw [hx, kt_0]
  rw [hn] at h1
  clear hk hT hu hx hn
  go_enter Tryd.func12, Tryd.ntmps12
  go_wp2_with (go_at_call 8; refine h1.mono ?_; rintro e w1 ⟨rfl, hb1⟩)
  go_ret2
  exact ⟨rfl, hb1⟩
end Go.Proofs.YtdpokjhoedhadaaDoor.crv
