/-
  THE WALKS OF package cookie's head, firstMark, sealed, opened, Reply and Accept.
-/
import Derived.Test.YtmbckgfpkmnlnabDoorBundle5
import Derived.Test.YtmbckgfpkmnlnabDoorBundle7
import Derived.Great.BuildSlice
import Derived.OwnWalk
namespace Go.Proofs.YtmbckgfpkmnlnabDoor.coo
open Go.RowKit
open Go.Proofs.YtmbckgfpkmnlnabDoor.bla (Tab)

/-- What a reply begins with. -/
def hd (s : ByteArray) : ByteArray := ⟨#[3, 0]⟩ ++ s.extract 2 6
theorem hd_size (s : ByteArray) (h : 6 ≤ s.size) : (hd s).size = 6 := by
  rw [hd, ByteArray.size_append, ByteArray.size_extract]
  show 2 + _ = 6
  omega
theorem hb_run (W : World) : (Instr.buildSlice 39 2 #[(0, .int .u8 3), (1, .int .u8 0)]).run Tryd.prog W = .ok (.slice (some ⟨W.heap.size, 0, none⟩) 2 2) (W.alloc (.cells #[.int .u8 3, .int .u8 0] 5)) := by
  obtain ⟨i0, hi, hz0, hz1, hz2⟩ := info_parts cv.infoU8
  exact run_buildSlice W 39 5 2 _ _ i0 (.int .u8 0) Tryd.underlying39 hi hz0 (by rw [hz1]; decide) (by rw [hz1]; decide) (by rw [hz1]; kernel_rfl)
theorem hc_run (W : World) : (convert 39 9 (.slice (some ⟨W.heap.size, 0, none⟩) 2 2)).run Tryd.prog (W.alloc (.cells #[.int .u8 3, .int .u8 0] 5)).drew = .ok (.string ⟨#[3, 0]⟩) (W.alloc (.cells #[.int .u8 3, .int .u8 0] 5)).drew :=
  cv.conv_blk (l := [3, 0]) (w := (W.alloc (.cells #[.int .u8 3, .int .u8 0] 5)).drew) (t := 5) (Blk.new W 5 _ _ rfl) rfl (by decide) 2
theorem hc_run' (W : World) : (convert 39 9 (.slice (some ⟨W.heap.size, 0, none⟩) 2 2)).run Tryd.prog (W.alloc (.cells #[.int .u8 3, .int .u8 0] 5)) = .ok (.string ⟨#[3, 0]⟩) (W.alloc (.cells #[.int .u8 3, .int .u8 0] 5)) :=
  cv.conv_blk (l := [3, 0]) (w := (W.alloc (.cells #[.int .u8 3, .int .u8 0] 5))) (t := 5) (Blk.new W 5 _ _ rfl) rfl (by decide) 2
set_option maxRecDepth 100000 in
set_option maxHeartbeats 800000 in
theorem head_any (s : ByteArray) (h : 6 ≤ s.size) (w : World) :
    Calls Tryd.prog 16 #[.string s] w fun e w' => e = .returned (.string (hd s)) ∧ Below w.heap.size w w' := by
  have p1 := cv.sl_in s 2 6 (by decide) h
  rw [show ((2 : Nat) : Int) = 2 from rfl, show ((6 : Nat) : Int) = 6 from rfl] at p1
  have n1 : (s.extract 2 6).size = 4 := by rw [ByteArray.size_extract]; omega
  have HH : Hid (⟨#[3, 0]⟩ ++ s.extract 2 6 = hd s) := rfl
  generalize s.extract 2 6 = X at *
  generalize hd s = H at *
  have b1 := hb_run
  have b2 := hc_run
  have b3 := hc_run'
  go_enter Tryd.func16, Tryd.ntmps16
  go_wp2_with fail
  go_region
  go_wp2_with fail
  go_ret
  exact ⟨by rw [← HH.out]; rfl, ((Below.refl _ _).alloc (Nat.le_refl _) _).drew⟩
theorem firstMark_any (p c t : ByteArray) (ht : t.size ≤ 140737488355360) (w : World) :
    Calls Tryd.prog 24 #[.string (marked p c t)] w fun e w' => e = .returned (.string (m1 p t)) ∧ Below w.heap.size w w' := by
  have f4 : ∀ W, Calls Tryd.prog 35 #[.string (marked p c t)] W fun e w' => e = .returned (.tuple #[.string (once p t), .string (prf c (once p t))]) ∧ Below W.heap.size W w' := cut_at _ _ (by rw [once_size]; omega) (prf_size _ _)
  have f5 : ∀ W, Calls Tryd.prog 35 #[.string (once p t)] W fun e w' => e = .returned (.tuple #[.string t, .string (m1 p t)]) ∧ Below W.heap.size W w' := cut_at _ _ (by omega) (m1_size _ _)
  generalize marked p c t = R at *
  generalize prf c (once p t) = Q at *
  generalize once p t = O at *
  generalize m1 p t = M at *
  have hX : Below w.heap.size w w := Below.refl _ _
  go_enter Tryd.func24, Tryd.ntmps24
  go_wp2_with (go_at_call 35; (first | (with_reducible refine (f4 _).mono ?_) | (with_reducible refine (f5 _).mono ?_)); rintro e wq ⟨rfl, hq⟩; replace hX := hX.trans (hq.mono hX.size); clear hq)
  go_ret
  exact ⟨rfl, hX⟩

/-- What is sealed for those who have seen a first mark. -/
def kr (p : ByteArray) : ByteArray := keyT ⟨#[99, 111, 111, 107, 105, 101, 45, 45]⟩ p
def hid (p n c : ByteArray) : ByteArray := sea.hide (sea.key2 (kr p) n) (sea.nonce2 n) c
def sl (p n m c : ByteArray) : ByteArray := hid p n c ++ sea.tagT (sea.key2 (kr p) n) (sea.nonce2 n) m (hid p n c)
theorem sl_size (p n m c : ByteArray) : (sl p n m c).size = c.size + 16 := by rw [sl, ByteArray.size_append, sea.tagT_size, hid, sea.hide_size]
theorem long_is (p n m c : ByteArray) (hn : n.size = 24) (hm : m.size = 16) (hc : c.size = 16) (w : World) :
    Calls Tryd.prog 23 #[.string (kr p), .string n, .string m, .string c] w fun e w' => e = .returned (.tuple #[.string (sl p n m c), .int .i64 0]) ∧ Below w.heap.size w w' := by
  have h := sea.long_any (kr p) n m c w
  have k1 := sea.key2_size (kr p) n
  have k2 := sea.nonce2_size n hn
  have e0 : box.chk (sea.key2 (kr p) n) (sea.nonce2 n) m c 2000 = 0 := by rw [box.chk, if_pos ⟨k1, k2⟩, if_pos ⟨by omega, by omega⟩]
  have e1 : ∀ T, sea.longT (kr p) n T = T := fun T => if_pos ⟨keyT_size _ _, hn⟩
  have e2 : ∀ e, sea.longE (kr p) n e = e := fun e => if_pos ⟨keyT_size _ _, hn⟩
  rw [e1, e2, e0, box.sealT, if_pos rfl] at h
  exact h
theorem unlong_is (p n m c : ByteArray) (hn : n.size = 24) (hm : m.size = 16) (hc : c.size = 16) (w : World) :
    Calls Tryd.prog 26 #[.string (kr p), .string n, .string m, .string (sl p n m c)] w fun e w' => e = .returned (.tuple #[.string c, .int .i64 0]) ∧ Below w.heap.size w w' := by
  have h := sea.unlong_any (kr p) n m (sl p n m c) w
  have k1 := sea.key2_size (kr p) n
  have k2 := sea.nonce2_size n hn
  have sz := sl_size p n m c
  have e0 : box.chk (sea.key2 (kr p) n) (sea.nonce2 n) m (sl p n m c) 2016 = 0 := by rw [box.chk, if_pos ⟨k1, k2⟩, if_pos ⟨by omega, by omega⟩]
  have e1 : ∀ T, sea.longT (kr p) n T = T := fun T => if_pos ⟨keyT_size _ _, hn⟩
  have e2 : ∀ e, sea.longE (kr p) n e = e := fun e => if_pos ⟨keyT_size _ _, hn⟩
  have fb := box.front_app (hid p n c) (sea.tagT (sea.key2 (kr p) n) (sea.nonce2 n) m (hid p n c)) (sea.tagT_size _ _ _ _)
  have oe : box.openE (sea.tagT (sea.key2 (kr p) n) (sea.nonce2 n) m) 0 (sl p n m c) = 0 := by
    rw [box.openE, if_pos rfl, if_neg (by omega), if_pos]
    show sea.tagT _ _ m (box.front (sl p n m c)) = box.back (sl p n m c)
    rw [sl, fb.1, fb.2]
  rw [e1, e2, e0, box.openT, oe, if_pos rfl, show box.front (sl p n m c) = hid p n c from fb.1, show sea.hide (sea.key2 (kr p) n) (sea.nonce2 n) (hid p n c) = c from sea.hide_twice _ _ _] at h
  exact h

set_option maxHeartbeats 800000 in
theorem sealed_any (p n c d t : ByteArray) (hp : p.size = 32) (hn : n.size = 24) (hc : c.size = 16) (ht : t.size ≤ 140737488355360) (w : World) (hT : Tab w) :
    Calls Tryd.prog 17 #[.string p, .string n, .string c, .string (marked p d t)] w fun e w' => e = .returned (.string (sl p n (m1 p t) c)) ∧ Below w.heap.size w w' := by
  have f1 : Calls Tryd.prog 14 #[.string ⟨#[99, 111, 111, 107, 105, 101, 45, 45]⟩, .string p] w fun e w' => e = .returned (.string (kr p)) ∧ Below w.heap.size w w' := key_any _ p (by decide) (by omega) w hT
  have f2 := firstMark_any p d t ht
  have f3 := long_is p n (m1 p t) c hn (m1_size _ _) hc
  generalize marked p d t = R at *
  generalize sl p n (m1 p t) c = S at *
  generalize m1 p t = M at *
  generalize kr p = K at *
  have hX : Below w.heap.size w w := Below.refl _ _
  clear hT hp hn hc ht
  go_enter Tryd.func17, Tryd.ntmps17
  go_wp2_with (first
    | (go_at_call 14; (with_reducible refine f1.mono ?_); rintro e wq ⟨rfl, hq⟩; replace hX := hX.trans (hq.mono hX.size); clear hq)
    | (go_at_call 24; (with_reducible refine (f2 _).mono ?_); rintro e wq ⟨rfl, hq⟩; replace hX := hX.trans (hq.mono hX.size); clear hq)
    | (go_at_call 23; (with_reducible refine (f3 _).mono ?_); rintro e wq ⟨rfl, hq⟩; replace hX := hX.trans (hq.mono hX.size); clear hq))
  go_ret
  exact ⟨rfl, hX⟩
set_option maxHeartbeats 800000 in
theorem opened_any (p n c d t : ByteArray) (hp : p.size = 32) (hn : n.size = 24) (hc : c.size = 16) (ht : t.size ≤ 140737488355360) (w : World) (hT : Tab w) :
    Calls Tryd.prog 19 #[.string p, .string n, .string (sl p n (m1 p t) c), .string (marked p d t)] w fun e w' => e = .returned (.tuple #[.string c, .int .i64 0]) ∧ Below w.heap.size w w' := by
  have f1 : Calls Tryd.prog 14 #[.string ⟨#[99, 111, 111, 107, 105, 101, 45, 45]⟩, .string p] w fun e w' => e = .returned (.string (kr p)) ∧ Below w.heap.size w w' := key_any _ p (by decide) (by omega) w hT
  have f2 := firstMark_any p d t ht
  have f3 := unlong_is p n (m1 p t) c hn (m1_size _ _) hc
  generalize marked p d t = R at *
  generalize sl p n (m1 p t) c = S at *
  generalize m1 p t = M at *
  generalize kr p = K at *
  have hX : Below w.heap.size w w := Below.refl _ _
  clear hT hp hn hc ht
  go_enter Tryd.func19, Tryd.ntmps19
  go_wp2_with (first
    | (go_at_call 14; (with_reducible refine f1.mono ?_); rintro e wq ⟨rfl, hq⟩; replace hX := hX.trans (hq.mono hX.size); clear hq)
    | (go_at_call 24; (with_reducible refine (f2 _).mono ?_); rintro e wq ⟨rfl, hq⟩; replace hX := hX.trans (hq.mono hX.size); clear hq)
    | (go_at_call 26; (with_reducible refine (f3 _).mono ?_); rintro e wq ⟨rfl, hq⟩; replace hX := hX.trans (hq.mono hX.size); clear hq))
  go_ret2
  exact ⟨rfl, hX⟩
end Go.Proofs.YtmbckgfpkmnlnabDoor.coo
