/-
  THE WALKS OF package chacha's Block, Sub and xor.
-/
import Derived.Test.YtmbckgfpkmnlnabDoorChaBlock
namespace Go.Proofs.YtmbckgfpkmnlnabDoor.cha
open Go.RowKit
open Go.Proofs.YtmbckgfpkmnlnabDoor.soft
open Go.Proofs.YtmbckgfpkmnlnabDoor.ghs (bt_nb tb tb_lt mkl mkl_length mkl_get)

theorem told1 (n : Nat) (hn : n < 4294967296) (w : World) : Calls Tryd.prog 54 #[.slice (some ⟨w.heap.size, 0, none⟩) 1 1] (w.alloc (.cells #[.int .u32 n] 28)) fun e w' => e = .returned (.string (told [n])) ∧ Below (w.heap.size + 1) (w.alloc (.cells #[.int .u32 n] 28)) w' := by
  have h := told_any w.heap.size 0 1 1 [n] rfl (fun x hx => by rw [List.mem_singleton.1 hx]; exact hn) (by decide) (by decide) (w.alloc (.cells #[.int .u32 n] 28)) (by simp) fun j hj => by
    obtain rfl : j = 0 := by omega
    exact (Blk.new w 28 [.int .u32 n] _ rfl).cell 0 _ rfl
  rw [World.size_alloc] at h
  exact h

set_option maxHeartbeats 400000 in
theorem Block_bad (key nonce : ByteArray) (n : Nat) (h : key.size ≠ 32 ∨ nonce.size ≠ 12) (w : World) :
    Calls Tryd.prog 56 #[.string key, .string nonce, .int .u32 n] w fun e w' => e = .returned (.tuple #[.string ⟨#[]⟩, .int .i64 1]) ∧ Below w.heap.size w w' := by
  by_cases h1 : key.size = 32
  · have t1 : ((key.size : Int) != 32) = false := by rw [bne_eq_false_iff_eq]; omega
    have t2 : ((nonce.size : Int) != 12) = true := by rw [bne_iff_ne]; omega
    clear h h1
    go_enter Tryd.func56, Tryd.ntmps56
    go_wp2_with fail
    go_ret2
    exact ⟨rfl, Below.refl _ _⟩
  · have t1 : ((key.size : Int) != 32) = true := by rw [bne_iff_ne]; omega
    clear h h1
    go_enter Tryd.func56, Tryd.ntmps56
    go_wp2_with fail
    go_ret2
    exact ⟨rfl, Below.refl _ _⟩
set_option maxRecDepth 100000 in
set_option maxHeartbeats 1600000 in
theorem Block_good (key nonce : ByteArray) (n : Nat) (hn : n < 4294967296) (h1 : key.size = 32) (h2 : nonce.size = 12) (w : World) :
    Calls Tryd.prog 56 #[.string key, .string nonce, .int .u32 n] w fun e w' => e = .returned (.tuple #[.string (blk key nonce n), .int .i64 0]) ∧ Below w.heap.size w w' := by
  have t1 : ((key.size : Int) != 32) = false := by rw [bne_eq_false_iff_eq]; omega
  have t2 : ((nonce.size : Int) != 12) = false := by rw [bne_eq_false_iff_eq]; omega
  have f0 := told1 n hn
  have hb := beg_S key nonce h1 hn
  have s4 : (told [n]).size = 4 := told_size _
  have s16 : (told [n] ++ nonce).size = 16 := by rw [ByteArray.size_append]; omega
  have f1 := begun_any key (told [n] ++ nonce) h1 s16
  rw [hb] at f1
  have f2 := block_any (S key nonce n) (S_length _ _ _) (S_ok _ _ hn)
  have HB : Hid (block (S key nonce n) = blk key nonce n) := rfl
  rw [HB.out] at f2
  clear hb
  generalize blk key nonce n = B at *
  generalize S key nonce n = L at *
  obtain ⟨T, hT⟩ : ∃ T, T = told [n] ++ nonce := ⟨_, rfl⟩
  rw [← hT] at f1 s16
  have hT' : told [n] ++ nonce = T := hT.symm
  clear hT
  generalize told [n] = T4 at *
  clear h1
  go_enter Tryd.func56, Tryd.ntmps56
  go_wp2_with (first
    | (go_at_call 54; (refine (f0 _).mono ?_); rintro e w1 ⟨rfl, hb1⟩)
    | (go_at_call 52; (with_reducible refine (f1 _).mono ?_); rintro e w2 ⟨rfl, hb2⟩)
    | (go_at_call 65; (with_reducible refine (f2 _).mono ?_); rintro e w3 ⟨rfl, hb3⟩))
  go_ret2
  have hX0 : Below w.heap.size w (w.alloc (.cells #[.int .u32 n] 28)) := (Below.refl _ _).alloc (Nat.le_refl _) _
  have hX1 := hX0.trans (hb1.mono (Nat.le_succ _))
  have hX2 := hX1.trans (hb2.mono hX1.size)
  exact ⟨rfl, hX2.trans (hb3.mono hX2.size)⟩
end Go.Proofs.YtmbckgfpkmnlnabDoor.cha
