/-
  THE WALKS OF package ghash's blocks: plus, only, timesX.
-/
import Derived.Test.YtibdlccaenanmaaPlainGhash
import Derived.Test.YtibdlccaenanmaaBlk
import Derived.Test.YtibdlccaenanmaaTail
import Derived.Test.YtibdlccaenanmaaProg
import Derived.BigRegion
import Derived.WalkSmall
namespace Go.Proofs.Ytibdlccaenanmaa.ghs
open Go.RowKit

/-! ### The model's words for it -/
theorem ofIntU (a : Nat) (h : a < 2 ^ 64) : (BitVec.ofInt 64 (a : Int)).toNat = a := by
  rw [BitVec.ofInt_natCast, BitVec.toNat_ofNat]; exact Nat.mod_eq_of_lt h
theorem wrapU (n : Nat) (h : n < 2 ^ 64) : IntKind.u64.wrap (n : Int) = (n : Int) := by
  simp [IntKind.wrap, IntKind.bits, IntKind.signed]
  omega
theorem wrap_u (n : Int) : IntKind.u64.wrap n = n % 18446744073709551616 := by simp [IntKind.wrap, IntKind.bits, IntKind.signed]
theorem xorU (a b : Nat) (ha : a < 2 ^ 64) (hb : b < 2 ^ 64) : bits .xor .u64 (a : Int) (b : Int) = ((a ^^^ b : Nat) : Int) := by
  show IntKind.u64.wrap ((BitVec.ofInt 64 (a : Int) ^^^ BitVec.ofInt 64 (b : Int)).toNat : Int) = _
  rw [BitVec.toNat_xor, ofIntU a ha, ofIntU b hb]
  exact wrapU _ (Nat.xor_lt_two_pow ha hb)
theorem andU (a b : Nat) (ha : a < 2 ^ 64) (hb : b < 2 ^ 64) : bits .and .u64 (a : Int) (b : Int) = ((a &&& b : Nat) : Int) := by
  show IntKind.u64.wrap ((BitVec.ofInt 64 (a : Int) &&& BitVec.ofInt 64 (b : Int)).toNat : Int) = _
  rw [BitVec.toNat_and, ofIntU a ha, ofIntU b hb]
  exact wrapU _ (Nat.and_lt_two_pow _ hb)
theorem orU (a b : Nat) (ha : a < 2 ^ 64) (hb : b < 2 ^ 64) : bits .or .u64 (a : Int) (b : Int) = ((a ||| b : Nat) : Int) := by
  show IntKind.u64.wrap ((BitVec.ofInt 64 (a : Int) ||| BitVec.ofInt 64 (b : Int)).toNat : Int) = _
  rw [BitVec.toNat_or, ofIntU a ha, ofIntU b hb]
  exact wrapU _ (Nat.or_lt_two_pow ha hb)

/-- A block's cells. -/
def fr (a : Nat) : Nat := a / 2 ^ 64
def bk (a : Nat) : Nat := a % 2 ^ 64
def blc (a : Nat) : List Value := [.int .u64 (fr a : Int), .int .u64 (bk a : Int)]
theorem fr_lt {a : Nat} (h : a < 2 ^ 128) : fr a < 2 ^ 64 := by unfold fr; omega
theorem bk_lt (a : Nat) : bk a < 2 ^ 64 := by unfold bk; omega
theorem fr_xor (a b : Nat) : fr (a ^^^ b) = fr a ^^^ fr b := Lin.div 64 a b
theorem bk_xor (a b : Nat) : bk (a ^^^ b) = bk a ^^^ bk b := Lin.mod 64 a b
theorem infoBL : (Try.prog.info? 77).map (·.size) = some 2 := by kernel_rfl

theorem whole_any (x : Nat) (h : x < 2) (w : World) :
    Calls Try.prog 91 #[.int .u64 x] w fun e w' => e = .returned (.int .u64 ((18446744073709551615 * x : Nat) : Int)) ∧ w' = w := by
  rcases (by omega : x = 0 ∨ x = 1) with rfl | rfl
  · go_enter Try.func91, Try.ntmps91
    go_wp2
    go_ret
    exact ⟨rfl, rfl⟩
  · go_enter Try.func91, Try.ntmps91
    go_wp2
    go_ret
    exact ⟨rfl, rfl⟩

theorem plus_any (a b : Nat) (ha : a < 2 ^ 128) (hb : b < 2 ^ 128) (w : World) :
    Calls Try.prog 73 #[.agg (blc a).toArray, .agg (blc b).toArray] w fun e w' => e = .returned (.agg (blc (a ^^^ b)).toArray) ∧ Below w.heap.size w w' := by
  have e1 := xorU _ _ (fr_lt ha) (fr_lt hb)
  have e2 := xorU _ _ (bk_lt a) (bk_lt b)
  rw [← fr_xor] at e1
  rw [← bk_xor] at e2
  unfold blc
  generalize fr (a ^^^ b) = x at *
  generalize bk (a ^^^ b) = y at *
  generalize fr a = a1 at *
  generalize bk a = a2 at *
  generalize fr b = b1 at *
  generalize bk b = b2 at *
  clear ha hb
  go_enter Try.func73, Try.ntmps73
  go_wp2
  have hW := Blk.new ((w.alloc (.cells #[.int .u64 a1, .int .u64 a2] 77)).alloc (.cells #[.int .u64 b1, .int .u64 b2] 77)) 77 [.int .u64 x, .int .u64 y] _ rfl
  rw [World.size_alloc, World.size_alloc] at hW
  exact bodyPost_ret (results_blk1 Try.results73 _ rfl hW _ Try.underlying77 rfl infoBL) rfl ⟨rfl, (((Below.refl _ _).alloc (Nat.le_refl _) _).alloc (by simp) _).alloc (by simp; omega) _⟩

/-- Nought. -/
def zc : List Value := [.int .u64 0, .int .u64 0]
theorem two_one (x y : Int) : (#[Value.int .u64 x, Value.int .u64 y]).all (·.oneCell') = true := by simp [Value.oneCell']
theorem and_whole {x u : Nat} (hx : x < 2 ^ 64) (hu : u < 2) : x &&& 18446744073709551615 * u = x * u := by
  rcases (by omega : u = 0 ∨ u = 1) with rfl | rfl
  · simp
  · show x &&& (2 ^ 64 - 1) = x * 1
    rw [Nat.and_two_pow_sub_one_eq_mod]; omega
theorem fr_bit (a u : Nat) (hu : u < 2) : fr (a * u) = fr a * u := by
  rcases (by omega : u = 0 ∨ u = 1) with rfl | rfl <;> simp [fr]
theorem bk_bit (a u : Nat) (hu : u < 2) : bk (a * u) = bk a * u := by
  rcases (by omega : u = 0 ∨ u = 1) with rfl | rfl <;> simp [bk]
theorem infoU64 : (Try.prog.info? 60).map (·.size) = some 1 := by kernel_rfl

set_option maxHeartbeats 800000 in
theorem only_any (a u : Nat) (ha : a < 2 ^ 128) (hu : u < 2) (w : World) :
    Calls Try.prog 86 #[.agg (blc a).toArray, .int .u64 u] w fun e w' => e = .returned (.agg (blc (a * u)).toArray) ∧ Below w.heap.size w w' := by
  have hU : (18446744073709551615 * u : Nat) < 2 ^ 64 := by omega
  have e1 := andU _ _ (fr_lt ha) hU
  have e2 := andU _ _ (bk_lt a) hU
  rw [and_whole (fr_lt ha) hu, ← fr_bit a u hu] at e1
  rw [and_whole (bk_lt a) hu, ← bk_bit a u hu] at e2
  have f1 := whole_any u hu
  generalize 18446744073709551615 * u = U at *
  unfold blc
  generalize fr (a * u) = x at *
  generalize bk (a * u) = y at *
  generalize fr a = a1 at *
  generalize bk a = a2 at *
  clear ha hu hU
  have hA : Blk ((w.alloc (.cells #[.int .u64 a1, .int .u64 a2] 77)).alloc (.cells zc.toArray 77)) w.heap.size 77 [.int .u64 a1, .int .u64 a2] := (Blk.new w 77 [.int .u64 a1, .int .u64 a2] _ rfl).alloc _
  have hZ : Blk ((w.alloc (.cells #[.int .u64 a1, .int .u64 a2] 77)).alloc (.cells zc.toArray 77)) (w.heap.size + 1) 77 zc := by
    have h := Blk.new (w.alloc (.cells #[.int .u64 a1, .int .u64 a2] 77)) 77 zc _ rfl
    rw [World.size_alloc] at h
    exact h
  have hX : Below w.heap.size w ((w.alloc (.cells #[.int .u64 a1, .int .u64 a2] 77)).alloc (.cells zc.toArray 77)) := ((Below.refl _ _).alloc (Nat.le_refl _) _).alloc (by simp) _
  go_enter Try.func86, Try.ntmps86
  go_wp2_with fail
  obtain ⟨W0, hW0⟩ : ∃ W0, W0 = (w.alloc (.cells #[.int .u64 a1, .int .u64 a2] 77)).alloc (.cells zc.toArray 77) := ⟨_, rfl⟩
  have e0 : (w.alloc (.cells #[.int .u64 a1, .int .u64 a2] 77)).alloc (.cells #[.int .u64 0, .int .u64 0] 77) = W0 := hW0.symm
  rw [e0]
  rw [← hW0] at hA hZ hX
  clear e0 hW0
  have hne := Up.some W0
  have ll := hA.lt
  have q1 : ∀ y : Up W0, y.1.cell? ⟨w.heap.size, 0, none⟩ = some (.int .u64 a1) := fun y => (hA.below y.2 ll).cell 0 _ rfl
  have q2 : ∀ y : Up W0, y.1.cell? ⟨w.heap.size, 1, none⟩ = some (.int .u64 a2) := fun y => (hA.below y.2 ll).cell 1 _ rfl
  have F1 : Hid (∀ y : Up W0, Calls Try.prog 91 #[.int .u64 u] y.1 fun e w' => e = .returned (.int .u64 U) ∧ Below y.1.heap.size y.1 w') := fun y => (f1 y.1).mono fun _ _ ⟨h1, h2⟩ => ⟨h1, by rw [h2]; exact Below.refl _ _⟩
  clear f1
  refine wp_region_tail 11 (by kernel_rfl) (by kernel_rfl) ?_
  simp only [List.take_succ_cons, List.take_zero, List.drop_succ_cons, List.drop_zero]
  repeat (go_big_quiet_step (with_reducible exact calls_up (F1.out _)))
  refine wpQuiet_nil ?_
  rintro w1 ⟨y1, rfl⟩
  have hZ1 := hZ.below y1.2 hZ.lt
  have hX1 := hX.trans (y1.2.mono hX.size)
  clear q1 q2 F1 hA hZ hX hne
  refine wpList_store_blk rfl 77 (.tmp 4) (.tmp 15) rfl (w.heap.size + 1) [.int .u64 x, .int .u64 y] rfl rfl zc hZ1 rfl (two_one _ _) infoBL ?_
  intro W1 hW1
  go_wp2
  exact bodyPost_ret (results_blk1 Try.results86 _ rfl hW1.blk _ Try.underlying77 rfl infoBL) rfl ⟨rfl, hW1.below _ _ (by omega) hX1⟩

/-! ### Times x -/
theorem fr_xt (a : Nat) : fr (xt a) = fr a / 2 ^^^ 16212958658533785600 * (bk a % 2) := by
  unfold xt
  rw [fr_xor]
  have e1 : fr (a / 2) = fr a / 2 := by unfold fr; omega
  have e2 : fr (E1 * (a % 2)) = 16212958658533785600 * (bk a % 2) := by
    have h1 : bk a % 2 = a % 2 := by unfold bk; omega
    rw [h1]
    rcases (by omega : a % 2 = 0 ∨ a % 2 = 1) with e | e <;> rw [e] <;> decide
  rw [e1, e2]
theorem bk_xt (a : Nat) : bk (xt a) = (fr a * 9223372036854775808 % 18446744073709551616) ||| bk a / 2 := by
  unfold xt
  rw [bk_xor]
  have e2 : bk (E1 * (a % 2)) = 0 := by
    rcases (by omega : a % 2 = 0 ∨ a % 2 = 1) with e | e <;> rw [e] <;> decide
  rw [e2, Nat.xor_zero]
  have h2 : bk a / 2 < 2 ^ 63 := by unfold bk; omega
  have h3 : fr a * 9223372036854775808 % 18446744073709551616 = 2 ^ 63 * (fr a % 2) := by omega
  rw [h3, ← Nat.two_pow_add_eq_or_of_lt h2]
  unfold fr bk
  omega

set_option maxHeartbeats 800000 in
theorem timesX_any (a : Nat) (ha : a < 2 ^ 128) (w : World) :
    Calls Try.prog 87 #[.agg (blc a).toArray] w fun e w' => e = .returned (.agg (blc (xt a)).toArray) ∧ Below w.heap.size w w' := by
  have h1 := fr_lt ha
  have h2 := bk_lt a
  have hx := fr_xt a
  have hy := bk_xt a
  unfold blc
  generalize fr (xt a) = x at *
  generalize bk (xt a) = y at *
  generalize fr a = a1 at *
  generalize bk a = a2 at *
  clear ha
  obtain ⟨u, hu⟩ : ∃ u, u = a2 % 2 := ⟨_, rfl⟩
  obtain ⟨v, hv⟩ : ∃ v, v = a1 / 2 := ⟨_, rfl⟩
  obtain ⟨s, hs⟩ : ∃ s, s = a2 / 2 := ⟨_, rfl⟩
  obtain ⟨t, ht⟩ : ∃ t, t = a1 * 9223372036854775808 % 18446744073709551616 := ⟨_, rfl⟩
  obtain ⟨r, hr⟩ : ∃ r, r = 16212958658533785600 * u := ⟨_, rfl⟩
  rw [← hu, ← hv, ← hr] at hx
  rw [← hs, ← ht] at hy
  have lu : u < 2 := by omega
  have f1 := whole_any u lu
  have e1 : bits .and .u64 (a2 : Int) 1 = (u : Int) := by
    rw [show (1 : Int) = ((1 : Nat) : Int) from rfl, andU _ _ h2 (by decide), Nat.and_one_is_mod, hu]
  have e2 : bits .and .u64 16212958658533785600 ((18446744073709551615 * u : Nat) : Int) = (r : Int) := by
    rw [show (16212958658533785600 : Int) = ((16212958658533785600 : Nat) : Int) from rfl, andU _ _ (by decide) (by omega), and_whole (by decide) lu, hr]
  generalize 18446744073709551615 * u = U at *
  have e3 : bits .xor .u64 (v : Int) (r : Int) = (x : Int) := by rw [xorU _ _ (by omega) (by omega), hx]
  have e4 : bits .or .u64 (t : Int) (s : Int) = (y : Int) := by rw [orU _ _ (by omega) (by omega), hy]
  have e5 : (a1 : Int) / 2 = (v : Int) := by omega
  have e6 : (a2 : Int) / 2 = (s : Int) := by omega
  have e7 : IntKind.u64.wrap ((a1 : Int) * 9223372036854775808) = (t : Int) := by rw [wrap_u]; omega
  clear h1 h2 hx hy hu hv hs ht hr lu
  have hA : Blk ((w.alloc (.cells #[.int .u64 a1, .int .u64 a2] 77)).alloc (.cells zc.toArray 77)) w.heap.size 77 [.int .u64 a1, .int .u64 a2] := (Blk.new w 77 [.int .u64 a1, .int .u64 a2] _ rfl).alloc _
  have hZ : Blk ((w.alloc (.cells #[.int .u64 a1, .int .u64 a2] 77)).alloc (.cells zc.toArray 77)) (w.heap.size + 1) 77 zc := by
    have h := Blk.new (w.alloc (.cells #[.int .u64 a1, .int .u64 a2] 77)) 77 zc _ rfl
    rw [World.size_alloc] at h
    exact h
  have hX : Below w.heap.size w ((w.alloc (.cells #[.int .u64 a1, .int .u64 a2] 77)).alloc (.cells zc.toArray 77)) := ((Below.refl _ _).alloc (Nat.le_refl _) _).alloc (by simp) _
  go_enter Try.func87, Try.ntmps87
  go_wp2_with fail
  obtain ⟨W0, hW0⟩ : ∃ W0, W0 = (w.alloc (.cells #[.int .u64 a1, .int .u64 a2] 77)).alloc (.cells zc.toArray 77) := ⟨_, rfl⟩
  have e0 : (w.alloc (.cells #[.int .u64 a1, .int .u64 a2] 77)).alloc (.cells #[.int .u64 0, .int .u64 0] 77) = W0 := hW0.symm
  rw [e0]
  rw [← hW0] at hA hZ hX
  clear e0 hW0
  have hne := Up.some W0
  have ll := hA.lt
  have q1 : ∀ y : Up W0, y.1.cell? ⟨w.heap.size, 0, none⟩ = some (.int .u64 a1) := fun y => (hA.below y.2 ll).cell 0 _ rfl
  have q2 : ∀ y : Up W0, y.1.cell? ⟨w.heap.size, 1, none⟩ = some (.int .u64 a2) := fun y => (hA.below y.2 ll).cell 1 _ rfl
  have F1 : Hid (∀ y : Up W0, Calls Try.prog 91 #[.int .u64 u] y.1 fun e w' => e = .returned (.int .u64 U) ∧ Below y.1.heap.size y.1 w') := fun y => (f1 y.1).mono fun _ _ ⟨h1, h2⟩ => ⟨h1, by rw [h2]; exact Below.refl _ _⟩
  clear f1
  refine wp_region_tail 17 (by kernel_rfl) (by kernel_rfl) ?_
  simp only [List.take_succ_cons, List.take_zero, List.drop_succ_cons, List.drop_zero]
  repeat (go_big_quiet_step (with_reducible exact calls_up (F1.out _)))
  refine wpQuiet_nil ?_
  rintro w1 ⟨y1, rfl⟩
  have hZ1 := hZ.below y1.2 hZ.lt
  have hX1 := hX.trans (y1.2.mono hX.size)
  clear q1 q2 F1 hA hZ hX hne
  refine wpList_store_blk rfl 77 (.tmp 2) (.tmp 19) rfl (w.heap.size + 1) [.int .u64 x, .int .u64 y] rfl rfl zc hZ1 rfl (two_one _ _) infoBL ?_
  intro W1 hW1
  go_wp2
  exact bodyPost_ret (results_blk1 Try.results87 _ rfl hW1.blk _ Try.underlying77 rfl infoBL) rfl ⟨rfl, hW1.below _ _ (by omega) hX1⟩
end Go.Proofs.Ytibdlccaenanmaa.ghs
