/-
  THE WALK OF the document's own coefficients.
-/
import Derived.Test.YtibdlccaenanmaaPlainGhashRef
import Derived.Test.YtibdlccaenanmaaBlk
import Derived.Test.YtibdlccaenanmaaProg
import Derived.OwnWalk
import Derived.WalkSmall
namespace Go.Proofs.Ytibdlccaenanmaa.ghs
open Go.RowKit

/-- Numbers, as cells. -/
def by64 (l : List Nat) : List Value := l.map fun n : Nat => Value.int .i64 (n : Int)
theorem by64_length (l : List Nat) : (by64 l).length = l.length := by simp [by64]
theorem by64_get (l : List Nat) (j : Nat) (h : j < l.length) : (by64 l)[j]? = some (.int .i64 ((l.getD j 0 : Nat) : Int)) := by simp [by64, h]
theorem by64_set (l : List Nat) (j n : Nat) : (by64 l).set j (.int .i64 (n : Int)) = by64 (l.set j n) := by simp [by64, List.map_set]
theorem by64_append (l m : List Nat) : by64 (l ++ m) = by64 l ++ by64 m := by simp [by64]
theorem infoINT : (Try.prog.info? 3).map (fun i => (i.zero, i.size, i.bytes)) = some (some (.int .i64 0), 1, 8) := by kernel_rfl

theorem cf_at (s : ByteArray) (i q k : Nat) (hq : q < 8) (hk : k = 7 - q) : cf s (8 * i + q) = tb s i / 2 ^ k % 2 := by
  unfold cf
  rw [show (8 * i + q) / 8 = i from by omega, show (8 * i + q) % 8 = q from by omega, hk]

set_option maxRecDepth 100000 in
set_option maxHeartbeats 1600000 in
theorem coefs_any (s : ByteArray) (hs : s.size = 16) (w : World) :
    Calls Try.prog 79 #[.string s] w fun e w' => ∃ g cap, e = .returned (.slice (some ⟨g, 0, none⟩) 128 cap) ∧ w.heap.size ≤ g ∧ g < w'.heap.size ∧ (∀ j, j < 128 → w'.cell? ⟨g, j, none⟩ = some (.int .i64 ((cf s j : Nat) : Int))) ∧ Below w.heap.size w w' := by
  obtain ⟨i0, hi, hz0, hz1, hz2⟩ := info_parts infoINT
  have hga := PlainAid.get_bt s
  have zs : (s.size : Int) = 16 := by omega
  go_enter Try.func79, Try.ntmps79
  go_wp2_with fail
  go_loopw [3, 8] (fun v i wr => ∃ k : Nat, k ≤ 16 ∧ i = .int .i64 k ∧ wr.ownsRow w.heap.size 3 1 v (8 * k) (by64 (mkl (8 * k) (cf s))) ∧ Below w.heap.size w wr) (fun _ i _ => 16 - (intOf i).toNat)
  case atStart => exact ⟨0, by omega, rfl, World.ownsRow_nil _ _ _ _, Below.refl _ _⟩
  case round =>
    obtain ⟨i, hi16, rfl, hown, hnx⟩ := hrel
    by_cases hlt : i < 16
    · have d0 : decide ((i : Int) < 16) = true := by simp; omega
      go_wp2_with fail
      go_loopw [3, 5] (fun v k wr => ∃ q : Nat, q ≤ 8 ∧ k = .int .i64 (7 - (q : Int)) ∧ wr.ownsRow w.heap.size 3 1 v (8 * i + q) (by64 (mkl (8 * i + q) (cf s))) ∧ Below w.heap.size w wr) (fun _ k _ => (1 + intOf k).toNat)
      case atStart => exact ⟨0, by omega, rfl, hown, hnx⟩
      case round =>
        clear hown hnx
        obtain ⟨q, hq8, rfl, hown, hnx⟩ := hrel
        have hsz := hnx.size
        have hlo := hown.lt
        by_cases hq : q < 8
        · obtain ⟨k, hk⟩ : ∃ k, k = 7 - q := ⟨_, rfl⟩
          have hkq : 7 - (q : Int) = (k : Int) := by omega
          rw [hkq]
          have d1 : decide ((k : Int) ≥ 0) = true := by simp
          have hc := cf_at s i q k hq hk
          have ht := tb_lt s i
          have h16 : i < s.size := by omega
          have e1 := bt_nb s i h16
          obtain ⟨N, hN⟩ : ∃ N, N = 8 * i + q := ⟨_, rfl⟩
          rw [← hN] at hown hc
          have HM : Hid (by64 (mkl N (cf s)) ++ [.int .i64 ((cf s N : Nat) : Int)] = by64 (mkl (8 * i + (q + 1)) (cf s))) := by
            show _ = _
            rw [show 8 * i + (q + 1) = N + 1 from by omega, mkl_succ, by64_append]
            rfl
          have hx2 : cf s N < 2 := cf_bits s N
          generalize cf s N = c at *
          generalize tb s i = x at *
          obtain ⟨y, hy⟩ : ∃ y, y = x / 2 ^ k := ⟨_, rfl⟩
          rw [← hy] at hc
          have ly : y < 256 := by rw [hy]; exact Nat.lt_of_le_of_lt (Nat.div_le_self _ _) ht
          have e2 : (x : Int) / 2 ^ k = (y : Int) := by rw [hy]; simp
          have e3 : (y : Int).tmod 2 = (c : Int) := by rw [Int.tmod_eq_emod_of_nonneg (by omega)]; omega
          have e4 : IntKind.i64.wrap (c : Int) = (c : Int) := by simp [IntKind.wrap, IntKind.bits, IntKind.signed]; omega
          have k0 : (0 : Int) ≤ (k : Int) := by omega
          have k8 : (k : Int) < 8 := by omega
          have i00 : (0 : Int) ≤ (i : Int) := by omega
          have i16 : (i : Int) < 16 := by omega
          have HN : Hid (N = 8 * i + q) := hN
          have HK : Hid (k = 7 - q) := hk
          have hNb : N < 128 := by omega
          clear hN hk hy hkq ht ly hc hx2
          go_wp2_with (at_builtin; refine wpList_append_lies _ rfl _ _ 106 rfl w.heap.size 3 i0 _ 1 8 Try.underlying106 hi hz0 hz1 hz2 rfl (by omega) _ N _ rfl (hown.alloc _) ⟨wr.heap.size, 0, none⟩ 1 1 [.int .i64 (c : Int)] rfl rfl (World.news_of_block (cs := #[.int .i64 (c : Int)]) (t := 3) (fr := (0, 0)) (heap_alloc_new wr _)) (by simp [Value.oneCell']) (by omega) (by unfold maxLen; omega) (by omega) (by simp; omega) (wr.heap.size + 1) (by simp) ?_; intro gg cap1 w2 hown2 hgr2 hat2 hlt2)
          have hX2 : Below w.heap.size w w2 := (hnx.alloc hsz _).grown hgr2 (by simp; omega) (fun b hb => by have := (hlo b hb).1; omega)
          go_roundw
          case rel => exact ⟨q + 1, by omega, by have := HK.out; have := HN.out; congr 1; omega, by have := HN.out; rw [← HM.out, show 8 * i + (q + 1) = N + 1 from by omega]; exact hown2, hX2⟩
          case measure => simp [intOf]; omega
        · obtain rfl : q = 8 := by omega
          have d1 : decide (7 - ((8 : Nat) : Int) ≥ 0) = false := by decide
          go_wp2_with fail
          go_roundw
          case rel => exact ⟨i + 1, by omega, by go_num, hown, hnx⟩
          case measure => simp [intOf]; omega
    · obtain rfl : i = 16 := by omega
      have d0 : decide (((16 : Nat) : Int) < 16) = false := by decide
      obtain ⟨g, cap, rfl, hpb, hpl⟩ := hown.form (by decide)
      have hc : ∀ j, j < 128 → wr.cell? ⟨g, j, none⟩ = some (.int .i64 ((cf s j : Nat) : Int)) := fun j hj => by
        rw [hown.cellAt j (by omega), by64_get _ j (by rw [mkl_length]; exact hj), mkl_get _ _ _ hj]
      go_wp2_with fail
      go_ret
      exact ⟨g, cap, rfl, hpb, hpl, hc, hnx⟩
end Go.Proofs.Ytibdlccaenanmaa.ghs
