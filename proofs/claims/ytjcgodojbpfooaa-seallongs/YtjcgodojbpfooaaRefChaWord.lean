/-
  THE WALKS OF the document's turn, quarter.
-/
import Derived.Test.YtjcgodojbpfooaaChaWord
import Derived.Test.YtjcgodojbpfooaaWd
import Derived.Test.YtjcgodojbpfooaaBlk
import Derived.Test.YtjcgodojbpfooaaTail
namespace Go.Proofs.Ytjcgodojbpfooaa.cha
open Go.RowKit
open Go.Proofs.Ytjcgodojbpfooaa.soft

theorem unturned (k x : Nat) (hk : 0 < k) (hk2 : k < 32) (h : x < 4294967296) : bits .or .u32 ((x : Int) / 2 ^ (32 - k)) ((x : Int) * 2 ^ k % 4294967296) = ((rl k x : Nat) : Int) := by
  have e1 : (x : Int) * 2 ^ k % 4294967296 = ((x * 2 ^ k % 4294967296 : Nat) : Int) := by simp
  have e2 : (x : Int) / 2 ^ (32 - k) = ((x / 2 ^ (32 - k) : Nat) : Int) := by simp
  rw [← turned k x hk hk2 h, e1, e2, or32 _ _ (Nat.mod_lt _ (by decide)) (Nat.lt_of_le_of_lt (Nat.div_le_self _ _) h), or32 _ _ (Nat.lt_of_le_of_lt (Nat.div_le_self _ _) h) (Nat.mod_lt _ (by decide)), Nat.or_comm]
theorem turn_16 (x : Nat) (h : x < 4294967296) (w : World) : Calls Try.prog 82 #[.int .u32 x, .int .i64 16] w fun e w' => e = .returned (.int .u32 (rl 16 x : Nat)) ∧ Below w.heap.size w w' := by
  have e1 : bits .or .u32 ((x : Int) / 65536) ((x : Int) * 65536 % 4294967296) = ((rl 16 x : Nat) : Int) := unturned 16 x (by decide) (by decide) h
  go_enter Try.func82, Try.ntmps82
  go_wp2_with fail
  go_quiet (fail)
  go_wp2_with fail
  go_ret
  exact ⟨rfl, below_drewN (Below.refl _ _) _⟩
theorem turn_20 (x : Nat) (h : x < 4294967296) (w : World) : Calls Try.prog 82 #[.int .u32 x, .int .i64 20] w fun e w' => e = .returned (.int .u32 (rl 12 x : Nat)) ∧ Below w.heap.size w w' := by
  have e1 : bits .or .u32 ((x : Int) / 1048576) ((x : Int) * 4096 % 4294967296) = ((rl 12 x : Nat) : Int) := unturned 12 x (by decide) (by decide) h
  go_enter Try.func82, Try.ntmps82
  go_wp2_with fail
  go_quiet (fail)
  go_wp2_with fail
  go_ret
  exact ⟨rfl, below_drewN (Below.refl _ _) _⟩
theorem turn_24 (x : Nat) (h : x < 4294967296) (w : World) : Calls Try.prog 82 #[.int .u32 x, .int .i64 24] w fun e w' => e = .returned (.int .u32 (rl 8 x : Nat)) ∧ Below w.heap.size w w' := by
  have e1 : bits .or .u32 ((x : Int) / 16777216) ((x : Int) * 256 % 4294967296) = ((rl 8 x : Nat) : Int) := unturned 8 x (by decide) (by decide) h
  go_enter Try.func82, Try.ntmps82
  go_wp2_with fail
  go_quiet (fail)
  go_wp2_with fail
  go_ret
  exact ⟨rfl, below_drewN (Below.refl _ _) _⟩
theorem turn_25 (x : Nat) (h : x < 4294967296) (w : World) : Calls Try.prog 82 #[.int .u32 x, .int .i64 25] w fun e w' => e = .returned (.int .u32 (rl 7 x : Nat)) ∧ Below w.heap.size w w' := by
  have e1 : bits .or .u32 ((x : Int) / 33554432) ((x : Int) * 128 % 4294967296) = ((rl 7 x : Nat) : Int) := unturned 7 x (by decide) (by decide) h
  go_enter Try.func82, Try.ntmps82
  go_wp2_with fail
  go_quiet (fail)
  go_wp2_with fail
  go_ret
  exact ⟨rfl, below_drewN (Below.refl _ _) _⟩
theorem turn_12 (x : Nat) (h : x < 4294967296) (w : World) : Calls Try.prog 82 #[.int .u32 x, .int .i64 12] w fun e w' => e = .returned (.int .u32 (rl 20 x : Nat)) ∧ Below w.heap.size w w' := by
  have e1 : bits .or .u32 ((x : Int) / 4096) ((x : Int) * 1048576 % 4294967296) = ((rl 20 x : Nat) : Int) := unturned 20 x (by decide) (by decide) h
  go_enter Try.func82, Try.ntmps82
  go_wp2_with fail
  go_quiet (fail)
  go_wp2_with fail
  go_ret
  exact ⟨rfl, below_drewN (Below.refl _ _) _⟩
theorem turn_8 (x : Nat) (h : x < 4294967296) (w : World) : Calls Try.prog 82 #[.int .u32 x, .int .i64 8] w fun e w' => e = .returned (.int .u32 (rl 24 x : Nat)) ∧ Below w.heap.size w w' := by
  have e1 : bits .or .u32 ((x : Int) / 256) ((x : Int) * 16777216 % 4294967296) = ((rl 24 x : Nat) : Int) := unturned 24 x (by decide) (by decide) h
  go_enter Try.func82, Try.ntmps82
  go_wp2_with fail
  go_quiet (fail)
  go_wp2_with fail
  go_ret
  exact ⟨rfl, below_drewN (Below.refl _ _) _⟩
theorem turn_7 (x : Nat) (h : x < 4294967296) (w : World) : Calls Try.prog 82 #[.int .u32 x, .int .i64 7] w fun e w' => e = .returned (.int .u32 (rl 25 x : Nat)) ∧ Below w.heap.size w w' := by
  have e1 : bits .or .u32 ((x : Int) / 128) ((x : Int) * 33554432 % 4294967296) = ((rl 25 x : Nat) : Int) := unturned 25 x (by decide) (by decide) h
  go_enter Try.func82, Try.ntmps82
  go_wp2_with fail
  go_quiet (fail)
  go_wp2_with fail
  go_ret
  exact ⟨rfl, below_drewN (Below.refl _ _) _⟩

/-- Four numbers, as cells. -/
def q4 (q : Q) : List Nat := [q.a, q.b, q.c, q.d]
theorem infoA4 : (Try.prog.info? 82).map (·.size) = some 4 := by kernel_rfl
def z4 : List Value := [.int .u32 0, .int .u32 0, .int .u32 0, .int .u32 0]
def ns : List Value := [.int .i64 16, .int .i64 12, .int .i64 8, .int .i64 7]
end Go.Proofs.Ytjcgodojbpfooaa.cha
