/-
  THE WALKS OF package seal's shortened, Long and Unlong.
  THE LIBRARY CONTRACT OF strings.HasPrefix, laid at this dump by the shelf of the kit, in plain words.
-/
import Derived.Test.YtmbckgfpkmnlnabDoorSealFace
import Derived.Test.YtmbckgfpkmnlnabDoorChaSub
import Derived.Shelf.Strings.Prefix
import Derived.Test.YtmbckgfpkmnlnabDoorProg
namespace Go.Proofs.YtmbckgfpkmnlnabDoor.sea
open Go.RowKit
open Go.Proofs.YtmbckgfpkmnlnabDoor.box

theorem shortened_bad (key nonce : ByteArray) (h : key.size ≠ 32 ∨ nonce.size ≠ 24) (w : World) :
    Calls Tryd.prog 33 #[.string key, .string nonce] w fun e w' => e = .returned (.tuple #[.string ⟨#[]⟩, .string ⟨#[]⟩, .int .i64 1]) ∧ w' = w := by
  by_cases h1 : key.size = 32
  · have t1 : ((key.size : Int) != 32) = false := by rw [bne_eq_false_iff_eq]; omega
    have t2 : ((nonce.size : Int) != 24) = true := by rw [bne_iff_ne]; omega
    clear h h1
    go_enter Tryd.func33, Tryd.ntmps33
    go_wp2_with fail
    go_ret3
    exact ⟨rfl, rfl⟩
  · have t1 : ((key.size : Int) != 32) = true := by rw [bne_iff_ne]; omega
    clear h h1
    go_enter Tryd.func33, Tryd.ntmps33
    go_wp2_with fail
    go_ret3
    exact ⟨rfl, rfl⟩

set_option maxRecDepth 100000 in
set_option maxHeartbeats 800000 in
theorem shortened_good (key nonce : ByteArray) (h1 : key.size = 32) (h2 : nonce.size = 24) (w : World) :
    Calls Tryd.prog 33 #[.string key, .string nonce] w fun e w' => e = .returned (.tuple #[.string (key2 key nonce), .string (nonce2 nonce), .int .i64 0]) ∧ Below w.heap.size w w' := by
  have t1 : ((key.size : Int) != 32) = false := by rw [bne_eq_false_iff_eq]; omega
  have t2 : ((nonce.size : Int) != 24) = false := by rw [bne_eq_false_iff_eq]; omega
  have p1 := cv.sl_to nonce 16 (by omega)
  have p2 := cv.sl_from nonce 16 (by omega)
  rw [show ((16 : Nat) : Int) = 16 from rfl] at p1 p2
  have f1 := cha.Sub_good key (nonce.extract 0 16) h1 (by rw [ByteArray.size_extract]; omega)
  have HT : Hid (nonce2 nonce = noughts 4 ++ nonce.extract 16 nonce.size) := rfl
  have HK : Hid (key2 key nonce = cha.sub key (nonce.extract 0 16)) := rfl
  rw [HT.out, HK.out]
  clear HT HK
  have f2 := fun W => Tryd.strings_Repeat ⟨#[0]⟩ 4 W (by omega) (by show 1 * 4 ≤ _; omega)
  have e : (⟨(Lib.repeatL (⟨#[0]⟩ : ByteArray).data.toList 4).toArray⟩ : ByteArray) = noughts 4 := rfl
  rw [e, show ((4 : Nat) : Int) = 4 from rfl] at f2
  have s1 := noughts_size 4
  have s2 : (nonce.extract 16 nonce.size).size = 8 := by rw [ByteArray.size_extract]; omega
  clear e
  generalize noughts 4 = Z at *
  generalize cha.sub key (nonce.extract 0 16) = K at *
  generalize nonce.extract 0 16 = A at *
  generalize nonce.extract 16 nonce.size = B at *
  go_enter Tryd.func33, Tryd.ntmps33
  go_wp2_with (go_at_call 44; (with_reducible refine (f1 _).mono ?_); rintro e w1 ⟨rfl, hb1⟩)
  have hne := Up.some w1
  have F2 : Hid (∀ y : Up w1, Calls Tryd.prog 21 #[.string ⟨#[0]⟩, .int .i64 4] y.1 fun e w' => e = .returned (.string Z) ∧ Below y.1.heap.size y.1 w') := fun y => f2 y.1
  clear f1 f2
  refine wp_region_up (by kernel_rfl) (by kernel_rfl) ?_
  repeat (go_big_quiet_step (with_reducible exact calls_up (F2.out _)))
  refine wpQuiet_nil ?_
  rintro w2 ⟨y2, rfl⟩
  go_wp2_with fail
  go_ret3
  exact ⟨rfl, hb1.trans (y2.2.mono hb1.size)⟩

/-- What Long and Unlong answer. -/
def longT (key nonce : ByteArray) (T : ByteArray) : ByteArray := if key.size = 32 ∧ nonce.size = 24 then T else ⟨#[]⟩
def longE (key nonce : ByteArray) (e : Nat) : Nat := if key.size = 32 ∧ nonce.size = 24 then e else 1

set_option maxRecDepth 100000 in
set_option maxHeartbeats 800000 in
theorem long_any (key nonce more text : ByteArray) (w : World) :
    Calls Tryd.prog 23 #[.string key, .string nonce, .string more, .string text] w fun e w' => e = .returned (.tuple #[.string (longT key nonce (sealT (hide (key2 key nonce) (nonce2 nonce)) (tagT (key2 key nonce) (nonce2 nonce) more) (chk (key2 key nonce) (nonce2 nonce) more text 2000) text)), .int .i64 (longE key nonce (chk (key2 key nonce) (nonce2 nonce) more text 2000))]) ∧ Below w.heap.size w w' := by
  by_cases h : key.size = 32 ∧ nonce.size = 24
  · have f1 := shortened_good key nonce h.1 h.2
    have f2 := seal_any (key2 key nonce) (nonce2 nonce) more text
    have HT : ∀ T, longT key nonce T = T := fun T => if_pos h
    have HE : ∀ e, longE key nonce e = e := fun e => if_pos h
    rw [HT, HE]
    clear HT HE
    generalize sealT _ _ _ _ = T at *
    generalize chk _ _ _ _ _ = c at *
    generalize key2 key nonce = K at *
    generalize nonce2 nonce = N at *
    go_enter Tryd.func23, Tryd.ntmps23
    go_wp2_with (first
      | (go_at_call 33; (with_reducible refine (f1 _).mono ?_); rintro e w1 ⟨rfl, hb1⟩)
      | (go_at_call 34; (with_reducible refine (f2 _).mono ?_); rintro e w2 ⟨rfl, hb2⟩))
    go_ret2
    exact ⟨rfl, hb1.trans (hb2.mono hb1.size)⟩
  · have f1 := shortened_bad key nonce (by omega)
    rw [longT, longE, if_neg h, if_neg h]
    go_enter Tryd.func23, Tryd.ntmps23
    go_wp2_with (go_at_call 33; (with_reducible refine (f1 _).mono ?_); rintro e w1 ⟨rfl, rfl⟩)
    go_ret2
    exact ⟨rfl, Below.refl _ _⟩

set_option maxRecDepth 100000 in
set_option maxHeartbeats 800000 in
theorem unlong_any (key nonce more s : ByteArray) (w : World) :
    Calls Tryd.prog 26 #[.string key, .string nonce, .string more, .string s] w fun e w' => e = .returned (.tuple #[.string (longT key nonce (openT (hide (key2 key nonce) (nonce2 nonce)) (tagT (key2 key nonce) (nonce2 nonce) more) (chk (key2 key nonce) (nonce2 nonce) more s 2016) s)), .int .i64 (longE key nonce (openE (tagT (key2 key nonce) (nonce2 nonce) more) (chk (key2 key nonce) (nonce2 nonce) more s 2016) s))]) ∧ Below w.heap.size w w' := by
  by_cases h : key.size = 32 ∧ nonce.size = 24
  · have f1 := shortened_good key nonce h.1 h.2
    have f2 := open_any (key2 key nonce) (nonce2 nonce) more s
    have HT : ∀ T, longT key nonce T = T := fun T => if_pos h
    have HE : ∀ e, longE key nonce e = e := fun e => if_pos h
    rw [HT, HE]
    clear HT HE
    generalize openT _ _ _ _ = T at *
    generalize openE _ _ _ = c at *
    generalize key2 key nonce = K at *
    generalize nonce2 nonce = N at *
    go_enter Tryd.func26, Tryd.ntmps26
    go_wp2_with (first
      | (go_at_call 33; (with_reducible refine (f1 _).mono ?_); rintro e w1 ⟨rfl, hb1⟩)
      | (go_at_call 36; (with_reducible refine (f2 _).mono ?_); rintro e w2 ⟨rfl, hb2⟩))
    go_ret2
    exact ⟨rfl, hb1.trans (hb2.mono hb1.size)⟩
  · have f1 := shortened_bad key nonce (by omega)
    rw [longT, longE, if_neg h, if_neg h]
    go_enter Tryd.func26, Tryd.ntmps26
    go_wp2_with (go_at_call 33; (with_reducible refine (f1 _).mono ?_); rintro e w1 ⟨rfl, rfl⟩)
    go_ret2
    exact ⟨rfl, Below.refl _ _⟩
end Go.Proofs.YtmbckgfpkmnlnabDoor.sea
namespace Go.Proofs.YtmbckgfpkmnlnabDoor
open Go.Shelf
def Tryd.lays99_ren : Go.Shelf.Ren := ⟨fun | 99 => 18 | 206 => 25 | n => n, fun | 9 => 9 | 4 => 4 | 3 => 3 | n => n, fun | n => n⟩
theorem Tryd.lays99 : Go.Proofs.Lays.n99 Tryd.prog Tryd.lays99_ren := {
  mixed := by kernel_rfl
  f99 := Tryd.func18.trans (congrArg some (by kernel_rfl))
  f206 := Tryd.func25.trans (congrArg some (by kernel_rfl))
  t3 := Tryd.underlying3
  a3 := Tryd.isAgg3
  z3 := Tryd.sizeOf3
  v3 := Tryd.zeroValue3
  t4 := Tryd.underlying4
  a4 := Tryd.isAgg4
  z4 := Tryd.sizeOf4
  v4 := Tryd.zeroValue4
  t9 := Tryd.underlying9
  a9 := Tryd.isAgg9
  z9 := Tryd.sizeOf9
  v9 := Tryd.zeroValue9 }
open Go.RowKit Go.Lib in
/-- strings.HasPrefix: "HasPrefix reports whether the string s begins with prefix.": IT RETURNS 'Lib.hasPrefix s prefix'; the world is as it was. -/
theorem Tryd.strings_HasPrefix (s p : ByteArray) (w : World) :
    Calls Tryd.prog 18 #[.string s, .string p] w fun e w' => e = .returned (.bool (Lib.hasPrefix s.data.toList p.data.toList)) ∧ w' = w := Any.strings_HasPrefix Tryd.lays99 s p w
end Go.Proofs.YtmbckgfpkmnlnabDoor
