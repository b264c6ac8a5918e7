/-
  THE WALKS OF package cookie's Reply and Accept, where all is as long as it must be.
-/
import Derived.Test.YtmbckgfpkmnlnabDoorCookieReply
import Derived.Test.YtmbckgfpkmnlnabDoorBundle4
namespace Go.Proofs.YtmbckgfpkmnlnabDoor.coo
open Go.RowKit
open Go.Proofs.YtmbckgfpkmnlnabDoor.bla (Tab)

/-- A reply. -/
def rep (p n c s m : ByteArray) : ByteArray := hd s ++ n ++ sl p n m c
theorem rep_size (p n c s m : ByteArray) (hs : 6 ≤ s.size) (hn : n.size = 24) (hc : c.size = 16) : (rep p n c s m).size = 62 := by
  rw [rep, ByteArray.size_append, ByteArray.size_append, hd_size s hs, sl_size]
  omega
theorem app_mid (a b c : ByteArray) : (a ++ b ++ c).extract a.size (a.size + b.size) = b := by
  apply ByteArray.ext
  rw [ByteArray.data_extract, ByteArray.data_append, ByteArray.data_append]
  apply Array.toList_inj.1
  rw [Array.toList_extract, Array.toList_append, Array.toList_append, List.extract_eq_take_drop, List.append_assoc]
  rw [show List.drop a.size (a.data.toList ++ (b.data.toList ++ c.data.toList)) = b.data.toList ++ c.data.toList from List.drop_left' (by rw [Array.length_toList]; rfl)]
  exact List.take_left' (by rw [Array.length_toList]; show b.data.size = a.data.size + b.data.size - a.data.size; omega)
theorem app_prefix (a b c : ByteArray) : Lib.hasPrefix (a ++ b ++ c).data.toList a.data.toList = true := by
  unfold Lib.hasPrefix
  rw [ByteArray.data_append, ByteArray.data_append, Array.toList_append, Array.toList_append, List.append_assoc]
  rw [List.isPrefixOf_iff_prefix]
  exact List.prefix_append _ _

set_option maxRecDepth 100000 in
set_option maxHeartbeats 800000 in
theorem Reply_good (p n c d t : ByteArray) (hp : p.size = 32) (hn : n.size = 24) (hc : c.size = 16) (h6 : 6 ≤ t.size) (ht : t.size ≤ 140737488355360) (w : World) (hT : Tab w) :
    Calls Tryd.prog 7 #[.string p, .string n, .string c, .string (marked p d t)] w fun e w' => e = .returned (.tuple #[.string (rep p n c (marked p d t) (m1 p t)), .int .i64 0]) ∧ Below w.heap.size w w' := by
  have s0 := marked_size p d t
  have t1 : ((p.size : Int) != 32) = false := by rw [bne_eq_false_iff_eq]; omega
  have t2 : ((n.size : Int) != 24) = false := by rw [bne_eq_false_iff_eq]; omega
  have t3 : ((c.size : Int) != 16) = false := by rw [bne_eq_false_iff_eq]; omega
  have d1 : decide (((marked p d t).size : Int) < 38) = false := decide_eq_false (by omega)
  have d2 : ¬ ((marked p d t).size : Int) < 38 := by omega
  have f1 := head_any (marked p d t) (by omega)
  have f2 : ∀ W, Below w.heap.size w W → _ := fun W h => sealed_any p n c d t hp hn hc ht W (hT.grown h)
  have z1 := hd_size (marked p d t) (by omega)
  have z2 := sl_size p n (m1 p t) c
  have HR : Hid (hd (marked p d t) ++ n ++ sl p n (m1 p t) c = rep p n c (marked p d t) (m1 p t)) := rfl
  have n1 : (hd (marked p d t)).size + n.size ≤ 30 := by omega
  have n2 : (hd (marked p d t) ++ n).size + (sl p n (m1 p t) c).size ≤ 62 := by rw [ByteArray.size_append]; omega
  generalize rep p n c (marked p d t) (m1 p t) = R at *
  generalize sl p n (m1 p t) c = S at *
  generalize hd (marked p d t) = H at *
  generalize marked p d t = M at *
  have hX : Below w.heap.size w w := Below.refl _ _
  clear hT hp hn hc ht h6 s0 z1 z2
  go_enter Tryd.func7, Tryd.ntmps7
  go_wp2_with (first
    | (go_at_call 16; (with_reducible refine (f1 _).mono ?_); rintro e wq ⟨rfl, hq⟩; replace hX := hX.trans (hq.mono hX.size); clear hq)
    | (go_at_call 17; (with_reducible refine (f2 _ hX).mono ?_); rintro e wq ⟨rfl, hq⟩; replace hX := hX.trans (hq.mono hX.size); clear hq))
  go_ret2
  exact ⟨by rw [← HR.out]; rfl, hX⟩

set_option maxRecDepth 100000 in
set_option maxHeartbeats 800000 in
theorem Accept_good (p n c d t : ByteArray) (hp : p.size = 32) (hn : n.size = 24) (hc : c.size = 16) (h6 : 6 ≤ t.size) (ht : t.size ≤ 140737488355360) (w : World) (hT : Tab w) :
    Calls Tryd.prog 8 #[.string p, .string (marked p d t), .string (rep p n c (marked p d t) (m1 p t))] w fun e w' => e = .returned (.tuple #[.string c, .int .i64 0]) ∧ Below w.heap.size w w' := by
  have s0 := marked_size p d t
  have s1 := rep_size p n c (marked p d t) (m1 p t) (by omega) hn hc
  have t1 : ((p.size : Int) != 32) = false := by rw [bne_eq_false_iff_eq]; omega
  have d1 : decide (((marked p d t).size : Int) < 38) = false := decide_eq_false (by omega)
  have d2 : ¬ ((marked p d t).size : Int) < 38 := by omega
  have e1 : ((rep p n c (marked p d t) (m1 p t)).size : Int) = 62 := by omega
  have f1 := head_any (marked p d t) (by omega)
  have z1 := hd_size (marked p d t) (by omega)
  have f2 : ∀ W, Calls Tryd.prog 18 #[.string (rep p n c (marked p d t) (m1 p t)), .string (hd (marked p d t))] W fun e w' => e = .returned (.bool true) ∧ w' = W := fun W => by
    have h := Tryd.strings_HasPrefix (rep p n c (marked p d t) (m1 p t)) (hd (marked p d t)) W
    rw [rep, app_prefix] at h
    exact h
  have f3 : ∀ W, Below w.heap.size w W → _ := fun W h => opened_any p n c d t hp hn hc ht W (hT.grown h)
  have p1 := cv.sl_in (rep p n c (marked p d t) (m1 p t)) 6 30 (by decide) (by omega)
  have p2 := cv.sl_from (rep p n c (marked p d t) (m1 p t)) 30 (by omega)
  have q1 : (rep p n c (marked p d t) (m1 p t)).extract 6 30 = n := by
    have h := app_mid (hd (marked p d t)) n (sl p n (m1 p t) c)
    rw [z1, hn] at h
    exact h
  have q2 : (rep p n c (marked p d t) (m1 p t)).extract 30 (rep p n c (marked p d t) (m1 p t)).size = sl p n (m1 p t) c := by
    have h := app_from (hd (marked p d t) ++ n) (sl p n (m1 p t) c)
    rw [show (hd (marked p d t) ++ n).size = 30 from by rw [ByteArray.size_append]; omega] at h
    exact h
  rw [q1, show ((6 : Nat) : Int) = 6 from rfl, show ((30 : Nat) : Int) = 30 from rfl] at p1
  rw [q2, show ((30 : Nat) : Int) = 30 from rfl] at p2
  clear q1 q2 s1 z1
  generalize rep p n c (marked p d t) (m1 p t) = R at *
  generalize sl p n (m1 p t) c = S at *
  generalize hd (marked p d t) = H at *
  generalize marked p d t = M at *
  have hX : Below w.heap.size w w := Below.refl _ _
  have F3 : Hid (∀ W, Below w.heap.size w W → Calls Tryd.prog 19 #[.string p, .string n, .string S, .string M] W fun e w' => e = .returned (.tuple #[.string c, .int .i64 0]) ∧ Below W.heap.size W w') := f3
  clear hT hp hn hc ht h6 s0 f3
  go_enter Tryd.func8, Tryd.ntmps8
  go_wp2_with (first
    | (go_at_call 16; (with_reducible refine (f1 _).mono ?_); rintro e wq ⟨rfl, hq⟩; replace hX := hX.trans (hq.mono hX.size); clear hq)
    | (go_at_call 18; (with_reducible refine (f2 _).mono ?_); rintro e wq ⟨rfl, rfl⟩))
  have hne := Up.some wq
  have F4 : Hid (∀ y : Up wq, Calls Tryd.prog 19 #[.string p, .string n, .string S, .string M] y.1 fun e w' => e = .returned (.tuple #[.string c, .int .i64 0]) ∧ Below y.1.heap.size y.1 w') := fun y => F3.out y.1 (hX.trans (y.2.mono hX.size))
  clear f1 f2 F3
  refine wp_region_up (by kernel_rfl) (by kernel_rfl) ?_
  repeat (go_big_quiet_step (with_reducible exact calls_up (F4.out _)))
  refine wpQuiet_nil ?_
  rintro w5 ⟨y5, rfl⟩
  go_wp2_with fail
  go_ret2
  exact ⟨rfl, hX.trans (y5.2.mono hX.size)⟩
end Go.Proofs.YtmbckgfpkmnlnabDoor.coo
