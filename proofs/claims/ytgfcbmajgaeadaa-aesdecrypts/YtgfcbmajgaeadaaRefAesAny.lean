/-
  THE document's own AesOf and AesBlock: whatever key; what is refused.
-/
import Derived.Test.YtgfcbmajgaeadaaRefAesOf4
import Derived.Test.YtgfcbmajgaeadaaRefAesOf8
namespace Go.Proofs.Ytgfcbmajgaeadaa.aes
open Go.RowKit
open Go.Proofs.Ytgfcbmajgaeadaa.gal

theorem aesOf_any (k : ByteArray) (h : k.size = 16 ∨ k.size = 32) (w : World) :
    Calls Try.prog 20 #[.string k] w fun e w' => ∃ sg wg wcap, e = .returned (.tuple #[.agg #[.slice (some ⟨sg, 0, none⟩) 256 256, .slice (some ⟨wg, 0, none⟩) (4 * (k.size / 4 + 6 + 1)) wcap], .bool true]) ∧ 4 * (k.size / 4 + 6 + 1) ≤ wcap ∧ Tab w' sg gsub ∧ Words w' wg (4 * (k.size / 4 + 6 + 1)) (kE k) ∧ Below w.heap.size w w' := by
  rcases h with h | h
  · have := aesOf_4 k h w
    rw [h]
    exact this
  · have := aesOf_8 k h w
    rw [h]
    exact this
theorem block_bad (k b : ByteArray) (h : ¬ ((k.size = 16 ∨ k.size = 32) ∧ b.size = 16)) (forth : Bool) (w : World) :
    Calls Try.prog 12 #[.string k, .string b, .bool forth] w fun e w' => e = .returned (.tuple #[.string ⟨#[]⟩, .int .i64 1]) ∧ Below w.heap.size w w' := by
  by_cases hk : k.size = 16 ∨ k.size = 32
  · have t1 : ((b.size : Int) != 16) = true := by rw [bne_iff_ne]; intro h2; exact h ⟨hk, by omega⟩
    have f1 := aesOf_any k hk
    clear h hk
    go_enter Try.func12, Try.ntmps12
    go_wp2_with (go_at_call 20; refine (f1 _).mono ?_; rintro e w1 ⟨sg, wg, wcap, rfl, _, _, _, hb1⟩)
    go_ret2
    exact ⟨rfl, hb1.alloc hb1.size _⟩
  · have f1 := aesOf_bad k (by omega) (by omega)
    clear h hk
    go_enter Try.func12, Try.ntmps12
    go_wp2_with (go_at_call 20; refine (f1 _).mono ?_; rintro e w1 ⟨rfl, hb1⟩)
    go_ret2
    exact ⟨rfl, hb1.alloc hb1.size _⟩
end Go.Proofs.Ytgfcbmajgaeadaa.aes
