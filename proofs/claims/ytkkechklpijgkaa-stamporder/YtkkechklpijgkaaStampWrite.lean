/-
  THE WALKS OF package stamp's putNumber and Write.
-/
import Derived.Test.YtkkechklpijgkaaStampLow
namespace Go.Proofs.Ytkkechklpijgkaa.stm
open Go.RowKit
open Go.Proofs.Ytkkechklpijgkaa.u64 (wrap_u wrap64u)

theorem by8s_set (l : List Nat) (j n : Nat) : (by8 l).set j (.int .u8 (n : Int)) = by8 (l.set j n) := by simp [by8, List.map_set]
set_option maxHeartbeats 800000 in
theorem put_any (b o m cap n t : Nat) (Z : List Nat) (hm : o + m ≤ Z.length) (hl : m ≤ 1000) (hn : n < 18446744073709551616) (w : World) (hb : Blk w b t (by8 Z)) :
    Calls Try.prog 14 #[.slice (some ⟨b, o, none⟩) m cap, .int .u64 n] w fun e w' => e = .returned (.tuple #[]) ∧ Blk w' b t (by8 (put Z o n m)) ∧ w'.heap.size = w.heap.size ∧ (∀ k, k ≠ b → w'.heap[k]? = w.heap[k]?) ∧ ∀ (B : Nat) (a : World), B ≤ b → Below B a w → Below B a w' := by
  have w8 := cv.wrap_8
  go_enter Try.func14, Try.ntmps14
  go_wp2_with fail
  go_loopw [1, 4] (fun x i wr => ∃ (k v : Nat) (Y : List Nat), k ≤ m ∧ i = .int .i64 ((k : Int) - 1) ∧ x = .int .u64 (v : Nat) ∧ v < 18446744073709551616 ∧ Y.length = Z.length ∧ put Y o v k = put Z o n m ∧ Blk wr b t (by8 Y) ∧ wr.heap.size = w.heap.size ∧ (∀ k, k ≠ b → wr.heap[k]? = w.heap[k]?) ∧ ∀ (B : Nat) (a : World), B ≤ b → Below B a w → Below B a wr) (fun _ i _ => (intOf i + 1).toNat)
  case atStart => exact ⟨m, n, Z, Nat.le_refl _, by go_num, rfl, hn, rfl, rfl, hb, rfl, fun _ _ => rfl, fun _ _ _ h => h⟩
  case round =>
    obtain ⟨k, v, Y, hk, rfl, rfl, hv, hY, hP, hB, hz, ho, hX⟩ := hrel
    cases k with
    | zero =>
      have d0 : decide ((-1 : Int) ≥ 0) = false := by decide
      have e0 : ((0 : Nat) : Int) - 1 = -1 := by decide
      rw [e0]
      rw [put] at hP
      rw [hP] at hB
      clear hb
      go_wp2_with fail
      exact ⟨rfl, .tuple #[], results_none Try.results14 _ _ _, rfl, hB, hz, ho, hX⟩
    | succ j =>
      obtain ⟨x, hx⟩ : ∃ x, x = v % 256 := ⟨_, rfl⟩
      obtain ⟨u, hu⟩ : ∃ u, u = v / 256 := ⟨_, rfl⟩
      have e0 : ((j + 1 : Nat) : Int) - 1 = (j : Int) := by omega
      have d0 : decide ((j : Int) ≥ 0) = true := by simp
      rw [e0]
      have HP : Hid (put (Y.set (o + j) x) o u j = put Z o n m) := by show _ = _; rw [hx, hu]; exact hP
      have c1 := hB.cell (o + j) _ (by8_get Y (o + j) (by omega))
      have c2 := hB.frozen (o + j)
      have x1 : (v : Int) % 256 = (x : Int) := by omega
      have v1 : IntKind.u8.wrap (v : Int) = (x : Int) := by rw [w8]; exact x1
      have v2 : (v : Int) / 2 ^ 8 = (u : Int) := by show (v : Int) / 256 = _; omega
      have v3 : (v : Int) / 256 = (u : Int) := by omega
      have u1 : u < 18446744073709551616 := by omega
      have v4 : IntKind.u64.wrap (u : Int) = (u : Int) := wrap64u u u1
      have jm : (j : Int) < (m : Int) := by omega
      have jb : (j : Int) ≤ 1000 := by omega
      have HJ : Hid (j ≤ m) := by show j ≤ m; omega
      generalize Y.getD (o + j) 0 = old at *
      clear hx hu w8 hb hP
      go_wp2_with fail
      go_roundw
      case rel => exact ⟨j, u, _, HJ.out, by go_num, rfl, u1, by rw [List.length_set]; exact hY, HP.out, by rw [← by8s_set]; exact hB.set _ _, by simpa using hz, fun k hk => by rw [Below.heap_setCell _ _ _ _ hk]; exact ho k hk, fun B a h1 h2 => (hX B a h1 h2).setCell h1 _⟩
      case measure => first | (simp [intOf]; done) | (simp [intOf]; omega)

theorem infoU8s : (Try.prog.info? 5).map (fun i => (i.zero, i.size, i.bytes)) = some (some (.int .u8 0), 1, 1) := by kernel_rfl
theorem sl_a (b : Nat) (w : World) : (Instr.sliceAt 34 (.pointer (some ⟨b, 0, none⟩)) none (some (.int .i64 8)) none).run Try.prog w = .ok (.slice (some ⟨b, 0, none⟩) 8 12) w := by
  obtain ⟨j0, hj, _, hj1, _⟩ := info_parts infoU8s
  simp [Instr.sliceAt, Instr.sureAddr, run_underlying Try.underlying34, Instr.sliceBounds, Instr.sliceBound, asIntOf, sizeOf, typeInfo, hj, Addr.add_mid]
theorem sl_b (b : Nat) (w : World) : (Instr.sliceAt 34 (.pointer (some ⟨b, 0, none⟩)) (some (.int .i64 8)) none none).run Try.prog w = .ok (.slice (some ⟨b, 8, none⟩) 4 4) w := by
  obtain ⟨j0, hj, _, hj1, _⟩ := info_parts infoU8s
  simp [Instr.sliceAt, Instr.sureAddr, run_underlying Try.underlying34, Instr.sliceBounds, Instr.sliceBound, asIntOf, sizeOf, typeInfo, hj, hj1, Addr.add_mid]
theorem sl_c (b : Nat) (w : World) : (Instr.sliceAt 34 (.pointer (some ⟨b, 0, none⟩)) none none none).run Try.prog w = .ok (.slice (some ⟨b, 0, none⟩) 12 12) w := by
  obtain ⟨j0, hj, _, hj1, _⟩ := info_parts infoU8s
  simp [Instr.sliceAt, Instr.sureAddr, run_underlying Try.underlying34, Instr.sliceBounds, sizeOf, typeInfo, hj, Addr.add_mid]

/-- What Write answers. -/
def wrT (a b : Int) : ByteArray := if ok a b then told a.toNat b.toNat else ⟨#[]⟩
def wrE (a b : Int) : Int := if ok a b then 0 else 1
def z12 : List Nat := List.replicate 12 0
set_option maxRecDepth 100000 in
set_option maxHeartbeats 1600000 in
theorem write_good (n m : Nat) (hn : n ≤ 1099511627776) (hm : m ≤ 999999999) (w : World) :
    Calls Try.prog 7 #[st n m] w fun e w' => e = .returned (.tuple #[.string (told n m), .int .i64 0]) ∧ Below w.heap.size w w' := by
  have f1 := isTime_any (n : Int) (m : Int)
  rw [show ok (n : Int) (m : Int) = true from decide_eq_true (by omega)] at f1
  have hS0 : Blk (w.alloc (.cells #[.int .i64 n, .int .i64 m] 23)) w.heap.size 23 [.int .i64 n, .int .i64 m] := Blk.new w 23 _ _ rfl
  have hX0 : Below w.heap.size w (w.alloc (.cells #[.int .i64 n, .int .i64 m] 23)) := (Below.refl _ _).alloc (Nat.le_refl _) _
  obtain ⟨N, hN⟩ : ∃ N, N = 4611686018427387904 + n := ⟨_, rfl⟩
  go_enter Try.func7, Try.ntmps7
  go_wp2_with (go_at_call 13; (with_reducible refine (f1 _).mono ?_); rintro e w1 ⟨rfl, hb1⟩)
  have hS1 := (hS0.below hb1 (by simp)).alloc (.cells (by8 z12).toArray 34)
  have hX1 := (hX0.trans (hb1.mono (by simp))).alloc (show w.heap.size ≤ w1.heap.size by have := hb1.size; simp at this; omega) (.cells (by8 z12).toArray 34)
  have hZ1 := Blk.new w1 34 (by8 z12) _ rfl
  have hgt : w.heap.size < w1.heap.size := by have := hb1.size; simp at this; omega
  obtain ⟨g, hg⟩ : ∃ g, g = w1.heap.size := ⟨_, rfl⟩
  obtain ⟨W0, hW0⟩ : ∃ W0, W0 = w1.alloc (.cells (by8 z12).toArray 34) := ⟨_, rfl⟩
  have e0 : w1.alloc (.cells #[.int .u8 0, .int .u8 0, .int .u8 0, .int .u8 0, .int .u8 0, .int .u8 0, .int .u8 0, .int .u8 0, .int .u8 0, .int .u8 0, .int .u8 0, .int .u8 0] 34) = W0 := hW0.symm
  rw [e0, ← hg]
  rw [← hW0] at hS1 hX1 hZ1
  rw [← hg] at hZ1 hgt
  clear e0 hW0 hg hS0 hX0 hb1 f1
  have ll := hS1.lt
  have lg := hZ1.lt
  have q1 : ∀ y : Up W0, y.1.cell? ⟨w.heap.size, 0, none⟩ = some (.int .i64 n) := fun y => (hS1.below y.2 ll).cell 0 _ rfl
  have q3 := sl_a g
  have n1 : IntKind.u64.wrap (n : Int) = (n : Int) := wrap64u n (by omega)
  have n3 : 4611686018427387904 + (n : Int) = (N : Int) := by omega
  have n2 : IntKind.u64.wrap (N : Int) = (N : Int) := wrap64u N (by omega)
  have HN : Hid (N = 4611686018427387904 + n) := hN
  have N64 : N < 18446744073709551616 := by omega
  clear hN
  have hne := Up.some W0
  refine wp_region_tail 5 (by kernel_rfl) (by kernel_rfl) ?_
  simp only [List.take_succ_cons, List.take_zero, List.drop_succ_cons, List.drop_zero]
  repeat (go_big_quiet_step (fail))
  refine wpQuiet_nil ?_
  rintro w2 ⟨y2, rfl⟩
  have hS2 := hS1.below y2.2 ll
  have hZ2 := hZ1.below y2.2 lg
  have hX2 := hX1.trans (y2.2.mono hX1.size)
  have f2 := put_any g 0 8 12 N 34 z12 (by decide) (by decide) N64 y2.1 hZ2
  clear q1 q3 hS1 hZ1 hX1 hne
  go_wp2_with (go_at_call 14; (refine f2.mono ?_); rintro e w3 ⟨rfl, hZ3, hs3, ho3, hX3⟩)
  have hS3 : Blk w3 w.heap.size 23 [.int .i64 n, .int .i64 m] := by unfold Blk at hS2 ⊢; rw [ho3 _ (by omega)]; exact hS2
  have hX4 := hX3 _ _ (Nat.le_of_lt hgt) hX2
  have ll3 := hS3.lt
  have lg3 := hZ3.lt
  clear hZ2 hX2 ho3 hX3 hS2 y2 f2 hs3 ll lg
  have q1 : ∀ y : Up w3, y.1.cell? ⟨w.heap.size, 1, none⟩ = some (.int .i64 m) := fun y => (hS3.below y.2 ll3).cell 1 _ rfl
  have q3 := sl_b g
  have n4 : IntKind.u64.wrap (m : Int) = (m : Int) := wrap64u m (by omega)
  have hne := Up.some w3
  refine wp_region_tail 4 (by kernel_rfl) (by kernel_rfl) ?_
  simp only [List.take_succ_cons, List.take_zero, List.drop_succ_cons, List.drop_zero]
  repeat (go_big_quiet_step (fail))
  refine wpQuiet_nil ?_
  rintro w5 ⟨y5, rfl⟩
  have hZ5 := hZ3.below y5.2 lg3
  have hX5 := hX4.trans (y5.2.mono hX4.size)
  have f5 := put_any g 8 4 4 m 34 (put z12 0 N 8) (by rw [put_length]; decide) (by decide) (by omega) y5.1 hZ5
  rw [show put (put z12 0 N 8) 8 m 4 = hb N 8 ++ hb m 4 from told_put N m] at f5
  clear q1 q3 hS3 hZ3 hX4 hne
  go_wp2_with (go_at_call 14; (refine f5.mono ?_); rintro e w6 ⟨rfl, hZ6, hs6, ho6, hX6⟩; have hc6 := cv.conv_blk hZ6 (by rw [List.length_append, hb_length, hb_length]) (told_list_ok N m) 12; have hsc := sl_c g w6)
  go_ret2
  refine ⟨?_, hX6 _ _ (Nat.le_of_lt hgt) hX5⟩
  unfold told
  rw [HN.out]
  rfl
theorem write_bad (a b : Int) (h : ok a b = false) (w : World) :
    Calls Try.prog 7 #[st a b] w fun e w' => e = .returned (.tuple #[.string ⟨#[]⟩, .int .i64 1]) ∧ Below w.heap.size w w' := by
  have f1 := isTime_any a b
  rw [h] at f1
  have hX0 : Below w.heap.size w (w.alloc (.cells #[.int .i64 a, .int .i64 b] 23)) := (Below.refl _ _).alloc (Nat.le_refl _) _
  go_enter Try.func7, Try.ntmps7
  go_wp2_with (go_at_call 13; (with_reducible refine (f1 _).mono ?_); rintro e w1 ⟨rfl, hb1⟩)
  go_ret2
  exact ⟨rfl, hX0.trans (hb1.mono (by simp))⟩
theorem ok_bd {a b : Int} (h : ok a b = true) : 0 ≤ a ∧ a ≤ 1099511627776 ∧ 0 ≤ b ∧ b ≤ 999999999 := of_decide_eq_true h
theorem ok_nat {a b : Int} (h : ok a b = true) : ∃ n m : Nat, a = n ∧ b = m ∧ n ≤ 1099511627776 ∧ m ≤ 999999999 := by
  have := ok_bd h
  exact ⟨a.toNat, b.toNat, by omega, by omega, by omega, by omega⟩
theorem write_any (a b : Int) (w : World) :
    Calls Try.prog 7 #[st a b] w fun e w' => e = .returned (.tuple #[.string (wrT a b), .int .i64 (wrE a b)]) ∧ Below w.heap.size w w' := by
  unfold wrT wrE
  by_cases h : ok a b = true
  · rw [if_pos h, if_pos h]
    obtain ⟨n, m, rfl, rfl, hn, hm⟩ := ok_nat h
    exact write_good n m hn hm w
  · rw [if_neg h, if_neg h]
    exact write_bad a b (by simpa using h) w
end Go.Proofs.Ytkkechklpijgkaa.stm
