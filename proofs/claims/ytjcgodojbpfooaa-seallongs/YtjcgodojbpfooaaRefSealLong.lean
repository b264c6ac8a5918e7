/-
  THE WALK OF the document's own Long (Unlong, too).
-/
import Derived.Test.YtjcgodojbpfooaaRefSeal
import Derived.Test.YtjcgodojbpfooaaRefChaSub
import Derived.Test.YtjcgodojbpfooaaSealLongFace
namespace Go.Proofs.Ytjcgodojbpfooaa.rsea
open Go.RowKit
open Go.Proofs.Ytjcgodojbpfooaa.box
open Go.Proofs.Ytjcgodojbpfooaa.sea

theorem long_bad (key nonce more text : ByteArray) (b : Bool) (h : key.size ≠ 32 ∨ nonce.size ≠ 24) (w : World) :
    Calls Try.prog 14 #[.string key, .string nonce, .string more, .string text, .bool b] w fun e w' => e = .returned (.tuple #[.string ⟨#[]⟩, .int .i64 1]) ∧ w' = w := by
  by_cases h1 : key.size = 32
  · have t1 : ((key.size : Int) != 32) = false := by rw [bne_eq_false_iff_eq]; omega
    have t2 : ((nonce.size : Int) != 24) = true := by rw [bne_iff_ne]; omega
    clear h h1
    go_enter Try.func14, Try.ntmps14
    go_wp2_with fail
    go_ret2
    exact ⟨rfl, rfl⟩
  · have t1 : ((key.size : Int) != 32) = true := by rw [bne_iff_ne]; omega
    clear h h1
    go_enter Try.func14, Try.ntmps14
    go_wp2_with fail
    go_ret2
    exact ⟨rfl, rfl⟩

set_option maxRecDepth 100000 in
set_option maxHeartbeats 1600000 in
theorem long_seals (key nonce more text : ByteArray) (h1 : key.size = 32) (h2 : nonce.size = 24) (T : ByteArray) (c : Nat)
    (f3 : ∀ w, Calls Try.prog 10 #[.string (key2 key nonce), .string (nonce2 nonce), .string more, .string text] w fun e w' => e = .returned (.tuple #[.string T, .int .i64 c]) ∧ Below w.heap.size w w') (w : World) :
    Calls Try.prog 14 #[.string key, .string nonce, .string more, .string text, .bool true] w fun e w' => e = .returned (.tuple #[.string T, .int .i64 c]) ∧ Below w.heap.size w w' := by
  have t1 : ((key.size : Int) != 32) = false := by rw [bne_eq_false_iff_eq]; omega
  have t2 : ((nonce.size : Int) != 24) = false := by rw [bne_eq_false_iff_eq]; omega
  have p1 := cv.sl_to nonce 16 (by omega)
  have p2 := cv.sl_from nonce 16 (by omega)
  rw [show ((16 : Nat) : Int) = 16 from rfl] at p1 p2
  have f1 := cha.rsub_good key (nonce.extract 0 16) h1 (by rw [ByteArray.size_extract]; omega)
  have f2 := zeros_any 4 (by omega)
  rw [show ((4 : Nat) : Int) = 4 from rfl] at f2
  have HT : Hid (nonce2 nonce = noughts 4 ++ nonce.extract 16 nonce.size) := rfl
  have HK : Hid (key2 key nonce = cha.sub key (nonce.extract 0 16)) := rfl
  rw [HT.out, HK.out] at f3
  clear HT HK
  have s1 := noughts_size 4
  have s2 : (nonce.extract 16 nonce.size).size = 8 := by rw [ByteArray.size_extract]; omega
  generalize noughts 4 = Z at *
  generalize cha.sub key (nonce.extract 0 16) = K at *
  generalize nonce.extract 0 16 = A at *
  generalize nonce.extract 16 nonce.size = B at *
  go_enter Try.func14, Try.ntmps14
  go_wp2_with (go_at_call 28; (with_reducible refine (f1 _).mono ?_); rintro e w1 ⟨rfl, hb1⟩)
  have hne := Up.some w1
  have F2 : Hid (∀ y : Up w1, Calls Try.prog 29 #[.int .i64 4] y.1 fun e w' => e = .returned (.string Z) ∧ Below y.1.heap.size y.1 w') := fun y => f2 y.1
  have F3 : Hid (∀ y : Up w1, Calls Try.prog 10 #[.string K, .string (Z ++ B), .string more, .string text] y.1 fun e w' => e = .returned (.tuple #[.string T, .int .i64 c]) ∧ Below y.1.heap.size y.1 w') := fun y => f3 y.1
  clear f1 f2 f3
  refine wp_region_up (by kernel_rfl) (by kernel_rfl) ?_
  repeat (go_big_quiet_step (first | (with_reducible exact calls_up (F2.out _)) | (with_reducible exact calls_up (F3.out _))))
  refine wpQuiet_nil ?_
  rintro w2 ⟨y2, rfl⟩
  go_wp2_with fail
  go_ret2
  exact ⟨rfl, hb1.trans (y2.2.mono hb1.size)⟩

set_option maxRecDepth 100000 in
set_option maxHeartbeats 1600000 in
theorem long_opens (key nonce more text : ByteArray) (h1 : key.size = 32) (h2 : nonce.size = 24) (T : ByteArray) (c : Nat)
    (f3 : ∀ w, Calls Try.prog 12 #[.string (key2 key nonce), .string (nonce2 nonce), .string more, .string text] w fun e w' => e = .returned (.tuple #[.string T, .int .i64 c]) ∧ Below w.heap.size w w') (w : World) :
    Calls Try.prog 14 #[.string key, .string nonce, .string more, .string text, .bool false] w fun e w' => e = .returned (.tuple #[.string T, .int .i64 c]) ∧ Below w.heap.size w w' := by
  have t1 : ((key.size : Int) != 32) = false := by rw [bne_eq_false_iff_eq]; omega
  have t2 : ((nonce.size : Int) != 24) = false := by rw [bne_eq_false_iff_eq]; omega
  have p1 := cv.sl_to nonce 16 (by omega)
  have p2 := cv.sl_from nonce 16 (by omega)
  rw [show ((16 : Nat) : Int) = 16 from rfl] at p1 p2
  have f1 := cha.rsub_good key (nonce.extract 0 16) h1 (by rw [ByteArray.size_extract]; omega)
  have f2 := zeros_any 4 (by omega)
  rw [show ((4 : Nat) : Int) = 4 from rfl] at f2
  have HT : Hid (nonce2 nonce = noughts 4 ++ nonce.extract 16 nonce.size) := rfl
  have HK : Hid (key2 key nonce = cha.sub key (nonce.extract 0 16)) := rfl
  rw [HT.out, HK.out] at f3
  clear HT HK
  have s1 := noughts_size 4
  have s2 : (nonce.extract 16 nonce.size).size = 8 := by rw [ByteArray.size_extract]; omega
  generalize noughts 4 = Z at *
  generalize cha.sub key (nonce.extract 0 16) = K at *
  generalize nonce.extract 0 16 = A at *
  generalize nonce.extract 16 nonce.size = B at *
  go_enter Try.func14, Try.ntmps14
  go_wp2_with (go_at_call 28; (with_reducible refine (f1 _).mono ?_); rintro e w1 ⟨rfl, hb1⟩)
  have hne := Up.some w1
  have F2 : Hid (∀ y : Up w1, Calls Try.prog 29 #[.int .i64 4] y.1 fun e w' => e = .returned (.string Z) ∧ Below y.1.heap.size y.1 w') := fun y => f2 y.1
  have F3 : Hid (∀ y : Up w1, Calls Try.prog 12 #[.string K, .string (Z ++ B), .string more, .string text] y.1 fun e w' => e = .returned (.tuple #[.string T, .int .i64 c]) ∧ Below y.1.heap.size y.1 w') := fun y => f3 y.1
  clear f1 f2 f3
  refine wp_region_up (by kernel_rfl) (by kernel_rfl) ?_
  repeat (go_big_quiet_step (first | (with_reducible exact calls_up (F2.out _)) | (with_reducible exact calls_up (F3.out _))))
  refine wpQuiet_nil ?_
  rintro w2 ⟨y2, rfl⟩
  go_wp2_with fail
  go_ret2
  exact ⟨rfl, hb1.trans (y2.2.mono hb1.size)⟩

theorem seals_any (key nonce more text : ByteArray) (w : World) :
    Calls Try.prog 14 #[.string key, .string nonce, .string more, .string text, .bool true] w fun e w' => e = .returned (.tuple #[.string (longT key nonce (sealT (hide (key2 key nonce) (nonce2 nonce)) (tagT (key2 key nonce) (nonce2 nonce) more) (chk (key2 key nonce) (nonce2 nonce) more text 2000) text)), .int .i64 (longE key nonce (chk (key2 key nonce) (nonce2 nonce) more text 2000))]) ∧ Below w.heap.size w w' := by
  by_cases h : key.size = 32 ∧ nonce.size = 24
  · have f2 := long_seals key nonce more text h.1 h.2 _ _ (seal_any (key2 key nonce) (nonce2 nonce) more text) w
    rw [longT, longE, if_pos h, if_pos h]
    exact f2
  · rw [longT, longE, if_neg h, if_neg h]
    exact (long_bad key nonce more text true (by omega) w).mono fun e w' ⟨he, hw⟩ => ⟨he, by rw [hw]; exact Below.refl _ _⟩
theorem opens_any (key nonce more s : ByteArray) (w : World) :
    Calls Try.prog 14 #[.string key, .string nonce, .string more, .string s, .bool false] w fun e w' => e = .returned (.tuple #[.string (longT key nonce (openT (hide (key2 key nonce) (nonce2 nonce)) (tagT (key2 key nonce) (nonce2 nonce) more) (chk (key2 key nonce) (nonce2 nonce) more s 2016) s)), .int .i64 (longE key nonce (openE (tagT (key2 key nonce) (nonce2 nonce) more) (chk (key2 key nonce) (nonce2 nonce) more s 2016) s))]) ∧ Below w.heap.size w w' := by
  by_cases h : key.size = 32 ∧ nonce.size = 24
  · have f2 := long_opens key nonce more s h.1 h.2 _ _ (open_any (key2 key nonce) (nonce2 nonce) more s) w
    rw [longT, longE, if_pos h, if_pos h]
    exact f2
  · rw [longT, longE, if_neg h, if_neg h]
    exact (long_bad key nonce more s false (by omega) w).mono fun e w' ⟨he, hw⟩ => ⟨he, by rw [hw]; exact Below.refl _ _⟩
end Go.Proofs.Ytjcgodojbpfooaa.rsea
