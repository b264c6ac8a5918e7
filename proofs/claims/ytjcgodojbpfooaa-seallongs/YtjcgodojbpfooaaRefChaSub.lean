/-
  THE WALK OF the document's ChachaSub.
-/
import Derived.Test.YtjcgodojbpfooaaRefChaStirred
namespace Go.Proofs.Ytjcgodojbpfooaa.cha
open Go.RowKit
open Go.Proofs.Ytjcgodojbpfooaa.soft

theorem tx_extract (l : List Nat) (a b : Nat) : (tx l).extract a b = tx ((l.take b).drop a) := by
  apply ByteArray.ext
  rw [ByteArray.data_extract]
  apply Array.ext'
  simp only [tx, Array.toList_extract, List.extract, List.map_take, List.map_drop]
  rw [List.drop_take]
theorem told_take (l : List Nat) (k : Nat) (h : k ≤ l.length) : (told l).extract 0 (4 * k) = told (l.take k) := by
  have e : bs4 l = bs4 (l.take k) ++ bs4 (l.drop k) := by rw [← bs4_append, List.take_append_drop]
  rw [told, tx_extract, e, List.take_left' (by rw [bs4_length, List.length_take, Nat.min_eq_left h]), List.drop_zero]
  rfl
theorem told_drop (l : List Nat) (k : Nat) (h : k ≤ l.length) : (told l).extract (4 * k) (told l).size = told (l.drop k) := by
  have e : bs4 l = bs4 (l.take k) ++ bs4 (l.drop k) := by rw [← bs4_append, List.take_append_drop]
  rw [told_size, told, tx_extract, List.take_of_length_le (by rw [bs4_length]; omega), e, List.drop_left' (by rw [bs4_length, List.length_take, Nat.min_eq_left h])]
  rfl
set_option maxHeartbeats 800000 in
theorem rsub_bad (key nonce : ByteArray) (h : key.size ≠ 32 ∨ nonce.size ≠ 16) (w : World) :
    Calls Try.prog 28 #[.string key, .string nonce] w fun e w' => e = .returned (.tuple #[.string ⟨#[]⟩, .int .i64 1]) ∧ Below w.heap.size w w' := by
  by_cases h1 : key.size = 32
  · have t1 : ((key.size : Int) != 32) = false := by rw [bne_eq_false_iff_eq]; omega
    have t2 : ((nonce.size : Int) != 16) = true := by rw [bne_iff_ne]; omega
    clear h h1
    go_enter Try.func28, Try.ntmps28
    go_wp2_with fail
    go_ret2
    exact ⟨rfl, Below.refl _ _⟩
  · have t1 : ((key.size : Int) != 32) = true := by rw [bne_iff_ne]; omega
    clear h h1
    go_enter Try.func28, Try.ntmps28
    go_wp2_with fail
    go_ret2
    exact ⟨rfl, Below.refl _ _⟩
set_option maxRecDepth 100000 in
set_option maxHeartbeats 1600000 in
theorem rsub_good (key nonce : ByteArray) (h1 : key.size = 32) (h2 : nonce.size = 16) (w : World) :
    Calls Try.prog 28 #[.string key, .string nonce] w fun e w' => e = .returned (.tuple #[.string (sub key nonce), .int .i64 0]) ∧ Below w.heap.size w w' := by
  have t1 : ((key.size : Int) != 32) = false := by rw [bne_eq_false_iff_eq]; omega
  have t2 : ((nonce.size : Int) != 16) = false := by rw [bne_eq_false_iff_eq]; omega
  have s48 : (key ++ nonce).size = 48 := by rw [ByteArray.size_append]; omega
  have f1 := rstirred_any (key ++ nonce) s48
  have hDl : (stirred (beg (key ++ nonce))).length = 16 := by rw [stirred_length, beg_length]
  have HB : Hid (sub key nonce = told ((stirred (beg (key ++ nonce))).take 4) ++ told ((stirred (beg (key ++ nonce))).drop 12)) := by
    show _ = _
    unfold sub told
    rw [bs4_append, tx_app]
  rw [HB.out]
  clear HB
  generalize stirred (beg (key ++ nonce)) = D at *
  have sW : (told D).size = 64 := by rw [told_size]; omega
  have x1 := told_take D 4 (by omega)
  have x2 := told_drop D 12 (by omega)
  have l1 := cv.sl_to (told D) 16 (by omega)
  have l2 := cv.sl_from (told D) 48 (by omega)
  rw [show (told D).extract 0 16 = told (D.take 4) from x1] at l1
  rw [show (told D).extract 48 (told D).size = told (D.drop 12) from x2] at l2
  have s1 : (told (D.take 4)).size = 16 := by rw [told_size, List.length_take]; omega
  have s2 : (told (D.drop 12)).size = 16 := by rw [told_size, List.length_drop]; omega
  obtain ⟨T1, H1⟩ : ∃ T, Hid (T = told (D.take 4)) := ⟨_, rfl⟩
  obtain ⟨T2, H2⟩ : ∃ T, Hid (T = told (D.drop 12)) := ⟨_, rfl⟩
  rw [← H1.out] at s1 l1 ⊢
  rw [← H2.out] at s2 l2 ⊢
  rw [show ((16 : Nat) : Int) = 16 from rfl] at l1
  rw [show ((48 : Nat) : Int) = 48 from rfl] at l2
  clear x1 x2 H1 H2
  generalize told D = TW at *
  obtain ⟨A, hA⟩ : ∃ A, A = key ++ nonce := ⟨_, rfl⟩
  rw [← hA] at f1 s48
  have hA' : key ++ nonce = A := hA.symm
  clear hA
  have hne := Up.some w
  go_enter Try.func28, Try.ntmps28
  go_wp2_with (go_at_call 46; (with_reducible refine (f1 _).mono ?_); rintro e w2 ⟨rfl, hb2⟩)
  have hne := Up.some w2
  refine wp_region_up (by kernel_rfl) (by kernel_rfl) ?_
  repeat (go_big_quiet_step (fail))
  refine wpQuiet_nil ?_
  rintro w4 ⟨y4, rfl⟩
  go_wp2_with fail
  go_ret2
  exact ⟨rfl, hb2.trans (y4.2.mono hb2.size)⟩
end Go.Proofs.Ytjcgodojbpfooaa.cha
