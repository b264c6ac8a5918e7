/-
  THE WALKS OF the document's own powers of numbers, and of its answers of package elem.
-/
import Derived.Test.YtdpokjhoedhadaaDoorRefText
import Derived.Lib.OthersKept
namespace Go.Proofs.YtdpokjhoedhadaaDoor.num
open Go.RowKit

/-- A number, as sixteen pieces. -/
abbrev Num (v : Int) : Value := .agg (ints (dg 16 v))
/-- Below 2^256, and not below 0. -/
def Ok (v : Int) : Prop := 0 ≤ v ∧ v < 115792089237316195423570985008687907853269984665640564039457584007913129639936
theorem times_any (x y : Int) (hx : Ok x) (hy : Ok y) (w : World) :
    Calls Tryd.prog 24 #[Num x, Num y] w fun e w' => (∃ v : Int, Ok v ∧ v % P = (x * y) % P ∧ e = .returned (Num v)) ∧ Below w.heap.size w w' := by
  refine (times_list (dg 16 x) (dg 16 y) (dg_length _ _) (dg_length _ _) (dg_bd _ _) (dg_bd _ _) w).mono ?_
  rintro e w' ⟨⟨v, h0, h1, h2, rfl⟩, hb⟩
  rw [val_dg16 x hx.1 hx.2, val_dg16 y hy.1 hy.2] at h2
  exact ⟨⟨v, ⟨h0, h1⟩, h2, rfl⟩, hb⟩
theorem plus_any (x y t : Int) (hx : Ok x) (hy : Ok y) (t0 : -131072 ≤ t) (t1 : t ≤ 131072) (w : World) :
    Calls Tryd.prog 48 #[Num x, Num y, .int .i64 t] w fun e w' => (∃ v : Int, Ok v ∧ v % P = (x + t * y) % P ∧ e = .returned (Num v)) ∧ Below w.heap.size w w' := by
  refine (plus_list (dg 16 x) (dg 16 y) t (dg_length _ _) (dg_length _ _) (dg_bd _ _) (dg_bd _ _) t0 t1 w).mono ?_
  rintro e w' ⟨rfl, hb⟩
  rw [val_dg16 x hx.1 hx.2, val_dg16 y hy.1 hy.2]
  have hm : -8589934592 * 115792089237316195423570985008687907853269984665640564039457584007913129639936 ≤ t * y ∧ t * y ≤ 8589934592 * 115792089237316195423570985008687907853269984665640564039457584007913129639936 := by
    have h2 : t * y ≤ 131072 * y := Int.mul_le_mul_of_nonneg_right t1 hy.1
    have h3 : -131072 * y ≤ t * y := Int.mul_le_mul_of_nonneg_right t0 hy.1
    have h4 := hy.2
    have h5 := hy.1
    omega
  have hxx := hx
  unfold Ok at hxx
  have hc := cv_bd (x + t * y) (by omega) (by omega)
  exact ⟨⟨_, hc, cv_mod _, rfl⟩, hb⟩

set_option maxRecDepth 100000 in
set_option maxHeartbeats 1600000 in
theorem power_any (x : Int) (hx : Ok x) (s : ByteArray) (hs : ∀ c ∈ s.data.toList, c = 48 ∨ c = 49) (w : World) :
    Calls Tryd.prog 37 #[Num x, .string s] w fun e w' => (∃ v : Int, Ok v ∧ v % P = (x ^ ex s.data.toList) % P ∧ e = .returned (Num v)) ∧ Below w.heap.size w w' := by
  have hi : (Tryd.prog.info? 37).map (·.size) = some 16 := by kernel_rfl
  have e1 : dg 16 1 = 1 :: List.replicate 15 0 := by decide
  have hX : Arr ((w.alloc (.cells (ints (dg 16 x)) 37)).alloc (.cells (ints zeros) 37)) w.heap.size 37 (dg 16 x) := (Arr.new w 37 (dg 16 x)).alloc _
  have hZ : Arr ((w.alloc (.cells (ints (dg 16 x)) 37)).alloc (.cells (ints zeros) 37)) (w.heap.size + 1) 37 zeros := by
    have h := Arr.new (w.alloc (.cells (ints (dg 16 x)) 37)) 37 zeros
    rw [World.size_alloc] at h
    exact h
  have hB : Below w.heap.size w ((w.alloc (.cells (ints (dg 16 x)) 37)).alloc (.cells (ints zeros) 37)) := ((Below.refl _ _).alloc (Nat.le_refl _) _).alloc (by simp) _
  have hN2 := Arr.new ((w.alloc (.cells (ints (dg 16 x)) 37)).alloc (.cells (ints zeros) 37)) 37 zeros
  rw [World.size_alloc, World.size_alloc] at hN2
  unfold Num
  go_enter Tryd.func37, Tryd.ntmps37
  go_wp2_with fail
  go_loopw [7] (fun _ wr => ∃ (k : Nat) (v : Int), k ≤ s.size ∧ Ok v ∧ v % P = (x ^ ex (s.data.toList.take k)) % P ∧ Arr wr w.heap.size 37 (dg 16 x) ∧ Arr wr (w.heap.size + 1) 37 zeros ∧ Arr wr (w.heap.size + 1 + 1) 37 (dg 16 v) ∧ wr.heap[w.heap.size + 1 + 1 + 1]? = some (.stringIter s k) ∧ Below w.heap.size w wr) (fun _ wr => s.size - wr.iterPos (w.heap.size + 1 + 1 + 1))
  case atStart =>
    have hO := Arr.new ((w.alloc (.cells (ints (dg 16 x)) 37)).alloc (.cells (ints zeros) 37)) 37 (dg 16 1)
    rw [World.size_alloc, World.size_alloc] at hO
    have hI : (((w.alloc (.cells (ints (dg 16 x)) 37)).alloc (.cells (ints zeros) 37)).alloc (.cells (ints (dg 16 1)) 37)).heap.size = w.heap.size + 1 + 1 + 1 := by simp
    have hIt := World.iter_heap (((w.alloc (.cells (ints (dg 16 x)) 37)).alloc (.cells (ints zeros) 37)).alloc (.cells (ints (dg 16 1)) 37)) s 0
    rw [hI] at hIt
    have e2 : ints (dg 16 1) = #[.int .i64 1, .int .i64 0, .int .i64 0, .int .i64 0, .int .i64 0, .int .i64 0, .int .i64 0, .int .i64 0, .int .i64 0, .int .i64 0, .int .i64 0, .int .i64 0, .int .i64 0, .int .i64 0, .int .i64 0, .int .i64 0] := by rw [e1]; rfl
    have hA2 := hO.alloc (.stringIter s 0)
    have hX2 := (hX.alloc (.cells (ints (dg 16 1)) 37)).alloc (.stringIter s 0)
    have hZ2 := (hZ.alloc (.cells (ints (dg 16 1)) 37)).alloc (.stringIter s 0)
    have hB2 := (hB.alloc (by simp; omega) (.cells (ints (dg 16 1)) 37)).alloc (by simp; omega) (.stringIter s 0)
    rw [e2] at hIt hX2 hZ2 hB2
    have hA3 : Arr ((((w.alloc (.cells (ints (dg 16 x)) 37)).alloc (.cells (ints zeros) 37)).alloc (.cells #[.int .i64 1, .int .i64 0, .int .i64 0, .int .i64 0, .int .i64 0, .int .i64 0, .int .i64 0, .int .i64 0, .int .i64 0, .int .i64 0, .int .i64 0, .int .i64 0, .int .i64 0, .int .i64 0, .int .i64 0, .int .i64 0] 37)).alloc (.stringIter s 0)) (w.heap.size + 1 + 1) 37 (dg 16 1) := by rw [← e2]; exact hA2
    exact ⟨0, 1, by omega, by unfold Ok; decide, by simp [ex], hX2, hZ2, hA3, hIt, hB2⟩
  case round =>
    clear hX hZ hB hN2 e1
    obtain ⟨k, v, hk, hv, hvm, hX, hZ, hO, hIt, hnx⟩ := hrel
    have zl : zeros.length = 16 := rfl
    by_cases hlt : k < s.size
    · have hcell := hs (s.data.toList[k]'(by simpa using hlt)) (List.getElem_mem _)
      have hsk : s[k] = s.data.toList[k]'(by simpa using hlt) := rfl
      have hasc : (s[k]'hlt).toNat < 128 := by rw [hsk]; rcases hcell with h | h <;> rw [h] <;> decide
      have hnext : ∀ ty, (Instr.next (.pointer (some ⟨w.heap.size + 1 + 1 + 1, 0, none⟩)) true ty).run Tryd.prog wr = .ok (.tuple #[.bool true, .int .i64 k, .int .i32 (s[k]'hlt).toNat]) (wr.iterAt (w.heap.size + 1 + 1 + 1) s (k + 1)) := fun ty => Lib.run_next_ascii_at (P := Tryd.prog) wr _ s k ty hIt hlt hasc
      have hex : ex (s.data.toList.take (k + 1)) = 2 * ex (s.data.toList.take k) + (if s[k] = 49 then 1 else 0) := by
        rw [List.take_succ_eq_append_getElem (by simpa using hlt), ex_snoc]; rfl
      have jO : ∀ b, b ≠ w.heap.size + 1 + 1 + 1 → (wr.iterAt (w.heap.size + 1 + 1 + 1) s (k + 1)).heap[b]? = wr.heap[b]? := fun b hb => Lib.iterAt_other wr _ b s _ hb
      have hX1 : Arr (wr.iterAt (w.heap.size + 1 + 1 + 1) s (k + 1)) w.heap.size 37 (dg 16 x) := by unfold Arr; rw [jO _ (by omega)]; exact hX
      have hZ1 : Arr (wr.iterAt (w.heap.size + 1 + 1 + 1) s (k + 1)) (w.heap.size + 1) 37 zeros := by unfold Arr; rw [jO _ (by omega)]; exact hZ
      have hO1 : Arr (wr.iterAt (w.heap.size + 1 + 1 + 1) s (k + 1)) (w.heap.size + 1 + 1) 37 (dg 16 v) := by unfold Arr; rw [jO _ (by omega)]; exact hO
      have hI1 := Lib.iterAt_heap wr _ s k (k + 1) hIt
      have hnx1 := Lib.below_iterAt hnx (k := w.heap.size + 1 + 1 + 1) (by omega) s (k + 1)
      have hilt : w.heap.size + 1 + 1 + 1 < (wr.iterAt (w.heap.size + 1 + 1 + 1) s (k + 1)).heap.size := by
        rcases Nat.lt_or_ge (w.heap.size + 1 + 1 + 1) (wr.iterAt (w.heap.size + 1 + 1 + 1) s (k + 1)).heap.size with h | h
        · exact h
        · rw [Array.getElem?_eq_none h] at hI1; cases hI1
      have sz1 := hnx1.size
      have HIT : Hid (wr.heap[w.heap.size + 1 + 1 + 1]? = some (.stringIter s k)) := hIt
      clear jO hX hZ hO hnx hIt
      obtain ⟨W1, hW1⟩ : ∃ W1, wr.iterAt (w.heap.size + 1 + 1 + 1) s (k + 1) = W1 := ⟨_, rfl⟩
      rw [hW1] at hX1 hZ1 hO1 hI1 hnx1 hilt sz1 hnext
      clear hW1
      have l1 := dg_length 16 v
      have l2 := dg_length 16 x
      have HVM : Hid (v % P = (x ^ ex (s.data.toList.take k)) % P) := hvm
      have HEX : Hid (ex (s.data.toList.take (k + 1)) = 2 * ex (s.data.toList.take k) + (if s[k] = 49 then 1 else 0)) := hex
      clear hvm hex
      by_cases hc : s[k] = 49
      · have HC : Hid (s[k] = 49) := hc
        have hcn : ((s[k]'hlt).toNat : Int) = 49 := by rw [hc]; rfl
        rw [hcn] at hnext
        clear hc hcn hasc hsk hcell
        go_wp2_with (first | (refine wpList_load_arr rfl 37 (.tmp 5) rfl (w.heap.size + 1 + 1) rfl (dg 16 v) _ hO1 Tryd.underlying37 rfl (by rw [dg_length]; exact hi) ?_))
        refine (times_any v v hv hv _).mono ?_
        rintro e W2 ⟨⟨v2, hv2, hm2, rfl⟩, hb2⟩
        have hO2 := hO1.below hb2 (by omega)
        have hX2 := hX1.below hb2 (by omega)
        have hZ2 := hZ1.below hb2 (by omega)
        have hI2 : W2.heap[w.heap.size + 1 + 1 + 1]? = some (.stringIter s (k + 1)) := (hb2.block _ hilt).trans hI1
        have hnx2 := hnx1.trans (hb2.mono sz1)
        have sz2 := hb2.size
        clear hO1 hX1 hZ1 hI1 hnx1
        go_wp2_with (first | (refine wpList_store_arr rfl 37 (.tmp 5) (.tmp 16) rfl (w.heap.size + 1 + 1) (dg 16 v2) rfl rfl (dg 16 v) hO2 (by rw [dg_length, dg_length]) (by rw [dg_length]; exact hi) ?_; intro W3 hS3; have hO3 := hS3.arr; have hX3 := hS3.other _ _ _ (by omega) hX2; have hZ3 := hS3.other _ _ _ (by omega) hZ2; have hnx3 := hS3.below _ _ (by omega) hnx2; have hI3 : W3.heap[w.heap.size + 1 + 1 + 1]? = some (.stringIter s (k + 1)) := (hS3.block _ (by omega)).trans hI2; have sz3 := hS3.size) | (refine wpList_load_arr rfl 37 (.tmp 5) rfl (w.heap.size + 1 + 1) rfl (dg 16 v2) _ hO3 Tryd.underlying37 rfl (by rw [dg_length]; exact hi) ?_) | (refine wpList_load_arr rfl 37 (.tmp 2) rfl w.heap.size rfl (dg 16 x) _ hX3 Tryd.underlying37 rfl (by rw [dg_length]; exact hi) ?_))
        refine (times_any v2 x hv2 hx _).mono ?_
        rintro e W4 ⟨⟨v4, hv4, hm4, rfl⟩, hb4⟩
        have hO4 := hO3.below hb4 (by omega)
        have hX4 := hX3.below hb4 (by omega)
        have hZ4 := hZ3.below hb4 (by omega)
        have hI4 : W4.heap[w.heap.size + 1 + 1 + 1]? = some (.stringIter s (k + 1)) := (hb4.block _ (by omega)).trans hI3
        have hnx4 := hnx3.trans (hb4.mono hnx3.size)
        clear hO3 hX3 hZ3 hI3 hnx3 hO2 hX2 hZ2 hI2 hnx2 hS3
        go_wp2_with (refine wpList_store_arr rfl 37 (.tmp 5) (.tmp 21) rfl (w.heap.size + 1 + 1) (dg 16 v4) rfl rfl (dg 16 v2) hO4 (by rw [dg_length, dg_length]) (by rw [dg_length]; exact hi) ?_; intro W5 hS5)
        simp only [Act.put]
        go_roundw
        case rel =>
          refine ⟨k + 1, v4, by omega, hv4, ?_, hS5.other _ _ _ (by omega) hX4, hS5.other _ _ _ (by omega) hZ4, hS5.arr, (hS5.block _ (by omega)).trans hI4, hS5.below _ _ (by omega) hnx4⟩
          rw [HEX.out, if_pos HC.out, hm4, Int.pow_succ, pow_double]
          exact emod_mul _ _ _ _ _ (by rw [hm2]; exact emod_mul _ _ _ _ _ HVM.out HVM.out) rfl
        case measure =>
          have e1 : W5.iterPos (w.heap.size + 1 + 1 + 1) = k + 1 := by unfold World.iterPos; rw [(hS5.block _ (by omega)).trans hI4]
          have e2 : wr.iterPos (w.heap.size + 1 + 1 + 1) = k := by unfold World.iterPos; rw [HIT.out]
          rw [e1, e2]; omega
      · have HC : Hid (¬ s[k] = 49) := hc
        have hcn : ((s[k]'hlt).toNat : Int) = 48 := by
          rw [hsk] at hc ⊢
          rcases hcell with h | h
          · rw [h]; rfl
          · exact absurd h hc
        rw [hcn] at hnext
        clear hc hcn hasc hsk hcell
        go_wp2_with (first | (refine wpList_load_arr rfl 37 (.tmp 5) rfl (w.heap.size + 1 + 1) rfl (dg 16 v) _ hO1 Tryd.underlying37 rfl (by rw [dg_length]; exact hi) ?_))
        refine (times_any v v hv hv _).mono ?_
        rintro e W2 ⟨⟨v2, hv2, hm2, rfl⟩, hb2⟩
        have hO2 := hO1.below hb2 (by omega)
        have hX2 := hX1.below hb2 (by omega)
        have hZ2 := hZ1.below hb2 (by omega)
        have hI2 : W2.heap[w.heap.size + 1 + 1 + 1]? = some (.stringIter s (k + 1)) := (hb2.block _ hilt).trans hI1
        have hnx2 := hnx1.trans (hb2.mono sz1)
        have sz2 := hb2.size
        clear hO1 hX1 hZ1 hI1 hnx1
        go_wp2_with (refine wpList_store_arr rfl 37 (.tmp 5) (.tmp 16) rfl (w.heap.size + 1 + 1) (dg 16 v2) rfl rfl (dg 16 v) hO2 (by rw [dg_length, dg_length]) (by rw [dg_length]; exact hi) ?_; intro W3 hS3; have hO3 := hS3.arr; have hX3 := hS3.other _ _ _ (by omega) hX2; have hZ3 := hS3.other _ _ _ (by omega) hZ2; have hnx3 := hS3.below _ _ (by omega) hnx2; have hI3 : W3.heap[w.heap.size + 1 + 1 + 1]? = some (.stringIter s (k + 1)) := (hS3.block _ (by omega)).trans hI2; have sz3 := hS3.size)
        go_roundw
        case rel =>
          refine ⟨k + 1, v2, by omega, hv2, ?_, hX3, hZ3, hO3, hI3, hnx3⟩
          rw [HEX.out, if_neg HC.out, Nat.add_zero, pow_double, hm2]
          exact emod_mul _ _ _ _ _ HVM.out HVM.out
        case measure =>
          have e1 : W3.iterPos (w.heap.size + 1 + 1 + 1) = k + 1 := by unfold World.iterPos; rw [hI3]
          have e2 : wr.iterPos (w.heap.size + 1 + 1 + 1) = k := by unfold World.iterPos; rw [HIT.out]
          rw [e1, e2]; omega
    · obtain rfl : k = s.size := by omega
      have hnext : ∀ ty, (Instr.next (.pointer (some ⟨w.heap.size + 1 + 1 + 1, 0, none⟩)) true ty).run Tryd.prog wr = .ok (.tuple #[.bool false]) wr := fun ty => Lib.run_next_end_at (P := Tryd.prog) wr _ s s.size ty hIt hlt
      have ht : s.data.toList.take s.size = s.data.toList := List.take_of_length_le (by simp)
      rw [ht] at hvm
      have HVM : Hid (v % P = (x ^ ex s.data.toList) % P) := hvm
      clear hvm ht
      go_wp2_with (first | (refine wpList_load_arr rfl 37 (.tmp 5) rfl (w.heap.size + 1 + 1) rfl (dg 16 v) _ hO Tryd.underlying37 rfl (by rw [dg_length]; exact hi) ?_) | (refine wpList_store_arr rfl 37 (.tmp 4) (.tmp 22) rfl (w.heap.size + 1) (dg 16 v) rfl rfl zeros hZ (by rw [dg_length]; rfl) hi ?_; intro W5 hS5))
      exact bodyPost_ret (results_arr Tryd.results37 _ rfl hS5.arr _ Tryd.underlying37 rfl (by rw [dg_length]; exact hi)) rfl ⟨⟨v, hv, HVM.out, rfl⟩, hS5.below _ _ (by omega) hnx⟩
end Go.Proofs.YtdpokjhoedhadaaDoor.num
