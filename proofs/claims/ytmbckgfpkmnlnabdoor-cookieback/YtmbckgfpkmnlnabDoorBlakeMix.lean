/-
  THE WALKS OF package blake's turned and mix.
-/
import Derived.Test.YtmbckgfpkmnlnabDoorPlainBlake
import Derived.Test.YtmbckgfpkmnlnabDoorBundle3
import Derived.Test.YtmbckgfpkmnlnabDoorProg
import Derived.BigRegion
import Derived.WalkSmall
namespace Go.Proofs.YtmbckgfpkmnlnabDoor.bla
open Go.RowKit
open Go.Proofs.YtmbckgfpkmnlnabDoor.cha (ad ad_lt rl Ws xor_lt Q)
open Go.Proofs.YtmbckgfpkmnlnabDoor.sha (rr rr_lt)
open Go.Proofs.YtmbckgfpkmnlnabDoor.b32

theorem turned_16 (x : Nat) (h : x < 4294967296) (w : World) : Calls Tryd.prog 79 #[.int .u32 x, .int .i64 16] w fun e w' => e = .returned (.int .u32 (rr 16 x : Nat)) ∧ w' = w := by
  have f0 : Calls Tryd.prog 80 #[.int .u32 x, .int .i64 (-16)] w fun e w' => e = .returned (.int .u32 (rr 16 x : Nat)) ∧ w' = w := by
    have e0 : bits .and .u64 (IntKind.u64.wrap (-16)) 31 = 16 := by decide
    have e1 : bits .or .u32 ((x : Int) * 65536 % 4294967296) ((x : Int) / 65536) = ((rr 16 x : Nat) : Int) := turn_bits 16 x (by decide) (by decide) h
    go_enter Tryd.func80, Tryd.ntmps80
    go_wp2_with fail
    go_ret
    exact ⟨rfl, rfl⟩
  go_enter Tryd.func79, Tryd.ntmps79
  go_wp2_with (go_at_call 80; (with_reducible refine f0.mono ?_); rintro e w1 ⟨rfl, rfl⟩)
  go_ret
  exact ⟨rfl, rfl⟩
theorem turned_12 (x : Nat) (h : x < 4294967296) (w : World) : Calls Tryd.prog 79 #[.int .u32 x, .int .i64 12] w fun e w' => e = .returned (.int .u32 (rr 12 x : Nat)) ∧ w' = w := by
  have f0 : Calls Tryd.prog 80 #[.int .u32 x, .int .i64 (-12)] w fun e w' => e = .returned (.int .u32 (rr 12 x : Nat)) ∧ w' = w := by
    have e0 : bits .and .u64 (IntKind.u64.wrap (-12)) 31 = 20 := by decide
    have e1 : bits .or .u32 ((x : Int) * 1048576 % 4294967296) ((x : Int) / 4096) = ((rr 12 x : Nat) : Int) := turn_bits 20 x (by decide) (by decide) h
    go_enter Tryd.func80, Tryd.ntmps80
    go_wp2_with fail
    go_ret
    exact ⟨rfl, rfl⟩
  go_enter Tryd.func79, Tryd.ntmps79
  go_wp2_with (go_at_call 80; (with_reducible refine f0.mono ?_); rintro e w1 ⟨rfl, rfl⟩)
  go_ret
  exact ⟨rfl, rfl⟩
theorem turned_8 (x : Nat) (h : x < 4294967296) (w : World) : Calls Tryd.prog 79 #[.int .u32 x, .int .i64 8] w fun e w' => e = .returned (.int .u32 (rr 8 x : Nat)) ∧ w' = w := by
  have f0 : Calls Tryd.prog 80 #[.int .u32 x, .int .i64 (-8)] w fun e w' => e = .returned (.int .u32 (rr 8 x : Nat)) ∧ w' = w := by
    have e0 : bits .and .u64 (IntKind.u64.wrap (-8)) 31 = 24 := by decide
    have e1 : bits .or .u32 ((x : Int) * 16777216 % 4294967296) ((x : Int) / 256) = ((rr 8 x : Nat) : Int) := turn_bits 24 x (by decide) (by decide) h
    go_enter Tryd.func80, Tryd.ntmps80
    go_wp2_with fail
    go_ret
    exact ⟨rfl, rfl⟩
  go_enter Tryd.func79, Tryd.ntmps79
  go_wp2_with (go_at_call 80; (with_reducible refine f0.mono ?_); rintro e w1 ⟨rfl, rfl⟩)
  go_ret
  exact ⟨rfl, rfl⟩
theorem turned_7 (x : Nat) (h : x < 4294967296) (w : World) : Calls Tryd.prog 79 #[.int .u32 x, .int .i64 7] w fun e w' => e = .returned (.int .u32 (rr 7 x : Nat)) ∧ w' = w := by
  have f0 : Calls Tryd.prog 80 #[.int .u32 x, .int .i64 (-7)] w fun e w' => e = .returned (.int .u32 (rr 7 x : Nat)) ∧ w' = w := by
    have e0 : bits .and .u64 (IntKind.u64.wrap (-7)) 31 = 25 := by decide
    have e1 : bits .or .u32 ((x : Int) * 33554432 % 4294967296) ((x : Int) / 128) = ((rr 7 x : Nat) : Int) := turn_bits 25 x (by decide) (by decide) h
    go_enter Tryd.func80, Tryd.ntmps80
    go_wp2_with fail
    go_ret
    exact ⟨rfl, rfl⟩
  go_enter Tryd.func79, Tryd.ntmps79
  go_wp2_with (go_at_call 80; (with_reducible refine f0.mono ?_); rintro e w1 ⟨rfl, rfl⟩)
  go_ret
  exact ⟨rfl, rfl⟩
set_option maxRecDepth 100000 in
set_option maxHeartbeats 1600000 in
theorem mix_any (q : Q) (ok : q.Ok) (x y : Nat) (w : World) :
    Calls Tryd.prog 73 #[.int .u32 (q.a : Nat), .int .u32 (q.b : Nat), .int .u32 (q.c : Nat), .int .u32 (q.d : Nat), .int .u32 x, .int .u32 y] w fun e w' =>
      e = .returned (.tuple #[.int .u32 ((mx q x y).a : Nat), .int .u32 ((mx q x y).b : Nat), .int .u32 ((mx q x y).c : Nat), .int .u32 ((mx q x y).d : Nat)]) ∧ w' = w := by
  obtain ⟨a, b, c, d⟩ := q
  obtain ⟨la, lb, lc, ld⟩ := ok
  simp only at la lb lc ld
  obtain ⟨s1, q1⟩ : ∃ s, s = ad b x := ⟨_, rfl⟩
  have e1 := add32 b x
  rw [← q1] at e1
  obtain ⟨a1, q2⟩ : ∃ s, s = ad a s1 := ⟨_, rfl⟩
  have l2 : a1 < 4294967296 := by rw [q2]; exact ad_lt _ _
  have e2 : ((a : Int) + ((b : Int) + (x : Int))) % 4294967296 = (a1 : Int) := by
    have := add32 a s1
    rw [← q2] at this
    omega
  have e2' : ((a : Int) + (s1 : Int)) % 4294967296 = (a1 : Int) := by rw [q2]; exact add32 a s1
  obtain ⟨x1, q3⟩ : ∃ s, s = d ^^^ a1 := ⟨_, rfl⟩
  have l3 : x1 < 4294967296 := by rw [q3]; exact xor_lt ld l2
  have e3 := xor32 d a1 ld l2
  rw [← q3] at e3
  obtain ⟨d1, q4⟩ : ∃ s, s = rr 16 x1 := ⟨_, rfl⟩
  have l4 : d1 < 4294967296 := by rw [q4]; exact rr_lt (by omega) (by omega) l3
  have f4 := turned_16 x1 l3
  rw [← q4] at f4
  obtain ⟨c1, q5⟩ : ∃ s, s = ad c d1 := ⟨_, rfl⟩
  have l5 : c1 < 4294967296 := by rw [q5]; exact ad_lt _ _
  have e5 := add32 c d1
  rw [← q5] at e5
  obtain ⟨x2, q6⟩ : ∃ s, s = b ^^^ c1 := ⟨_, rfl⟩
  have l6 : x2 < 4294967296 := by rw [q6]; exact xor_lt lb l5
  have e6 := xor32 b c1 lb l5
  rw [← q6] at e6
  obtain ⟨b1, q7⟩ : ∃ s, s = rr 12 x2 := ⟨_, rfl⟩
  have l7 : b1 < 4294967296 := by rw [q7]; exact rr_lt (by omega) (by omega) l6
  have f7 := turned_12 x2 l6
  rw [← q7] at f7
  obtain ⟨s2, r1⟩ : ∃ s, s = ad b1 y := ⟨_, rfl⟩
  have g1 := add32 b1 y
  rw [← r1] at g1
  obtain ⟨a2, r2⟩ : ∃ s, s = ad a1 s2 := ⟨_, rfl⟩
  have k2 : a2 < 4294967296 := by rw [r2]; exact ad_lt _ _
  have g2' : ((a1 : Int) + (s2 : Int)) % 4294967296 = (a2 : Int) := by rw [r2]; exact add32 a1 s2
  have g2 : ((a1 : Int) + ((b1 : Int) + (y : Int))) % 4294967296 = (a2 : Int) := by omega
  obtain ⟨x3, r3⟩ : ∃ s, s = d1 ^^^ a2 := ⟨_, rfl⟩
  have k3 : x3 < 4294967296 := by rw [r3]; exact xor_lt l4 k2
  have g3 := xor32 d1 a2 l4 k2
  rw [← r3] at g3
  obtain ⟨d2, r4⟩ : ∃ s, s = rr 8 x3 := ⟨_, rfl⟩
  have k4 : d2 < 4294967296 := by rw [r4]; exact rr_lt (by omega) (by omega) k3
  have f8 := turned_8 x3 k3
  rw [← r4] at f8
  obtain ⟨c2, r5⟩ : ∃ s, s = ad c1 d2 := ⟨_, rfl⟩
  have k5 : c2 < 4294967296 := by rw [r5]; exact ad_lt _ _
  have g5 := add32 c1 d2
  rw [← r5] at g5
  obtain ⟨x4, r6⟩ : ∃ s, s = b1 ^^^ c2 := ⟨_, rfl⟩
  have k6 : x4 < 4294967296 := by rw [r6]; exact xor_lt l7 k5
  have g6 := xor32 b1 c2 l7 k5
  rw [← r6] at g6
  obtain ⟨b2, r7⟩ : ∃ s, s = rr 7 x4 := ⟨_, rfl⟩
  have f9 := turned_7 x4 k6
  rw [← r7] at f9
  have HE : Hid (mx ⟨a, b, c, d⟩ x y = ⟨a2, b2, c2, d2⟩) := by
    show _ = _
    have h1 : hf 16 12 ⟨a, b, c, d⟩ x = ⟨a1, b1, c1, d1⟩ := by rw [q7, q6, q5, q4, q3, q2, q1]; rfl
    unfold mx
    rw [h1, r7, r6, r5, r4, r3, r2, r1]
    rfl
  rw [HE.out]
  clear q1 q2 q3 q4 q5 q6 q7 r1 r2 r3 r4 r5 r6 r7
  go_enter Tryd.func73, Tryd.ntmps73
  go_wp2_with (go_at_call 79; (first | (with_reducible refine (f4 _).mono ?_) | (with_reducible refine (f7 _).mono ?_) | (with_reducible refine (f8 _).mono ?_) | (with_reducible refine (f9 _).mono ?_)); rintro e w1 ⟨rfl, rfl⟩)
  exact bodyPost_ret (v := .tuple #[.int .u32 a2, .int .u32 b2, .int .u32 c2, .int .u32 d2]) (by simp [results, Tryd.results73, go_sem]) rfl ⟨rfl, rfl⟩
end Go.Proofs.YtmbckgfpkmnlnabDoor.bla
