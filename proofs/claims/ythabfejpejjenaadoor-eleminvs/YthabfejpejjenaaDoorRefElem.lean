/-
  THE WALKS OF the document's own answers of package elem.
-/
import Derived.Test.YthabfejpejjenaaDoorRefInverse
namespace Go.Proofs.YthabfejpejjenaaDoor.num
open Go.RowKit

theorem dg_small (v : Int) : small (dg 16 v) := fun a ha => by have := dg_bd 16 v a ha; omega
theorem text_any (v : Int) (hv : Ok v) (w : World) :
    Calls Tryd.prog 22 #[Num v] w fun e w' => e = .returned (.string (text v)) ∧ Below w.heap.size w w' := by
  have h := text_list (dg 16 v) (dg_length _ _) (dg_small v) w
  rw [val_dg16 v hv.1 hv.2] at h
  exact h
theorem inv_einv : ex inv = einv := by have h := inv_ex; have h2 := einv_val; omega
theorem N_ok (s : ByteArray) (h : s.size = 32) : Ok (N s) := N_bd s h

set_option maxHeartbeats 400000 in
theorem elem_bad (a b : ByteArray) (n : Int) (h : a.size ≠ 32 ∨ b.size ≠ 32) (w : World) :
    Calls Tryd.prog 7 #[.string a, .string b, .int .i64 n] w fun e w' => e = .returned (.tuple #[.string ⟨#[]⟩, .int .i64 1]) ∧ w' = w := by
  by_cases h1 : a.size = 32
  · have h2 : b.size ≠ 32 := by omega
    have t1 : ((a.size : Int) != 32) = false := by rw [bne_eq_false_iff_eq]; omega
    have t2 : ((b.size : Int) != 32) = true := by rw [bne_iff_ne]; omega
    clear h h1 h2
    go_enter Tryd.func7, Tryd.ntmps7
    go_wp2
    go_ret2
    exact ⟨rfl, rfl⟩
  · have t1 : ((a.size : Int) != 32) = true := by rw [bne_iff_ne]; omega
    clear h h1
    go_enter Tryd.func7, Tryd.ntmps7
    go_wp2
    go_ret2
    exact ⟨rfl, rfl⟩

set_option maxRecDepth 100000 in
set_option maxHeartbeats 1600000 in
theorem elem_low (a b : ByteArray) (ha : a.size = 32) (hb : b.size = 32) (w : World) :
    Calls Tryd.prog 7 #[.string a, .string b, .int .i64 0] w fun e w' => e = .returned (.tuple #[.string (text (N a)), .int .i64 0]) ∧ Below w.heap.size w w' := by
  have hi : (Tryd.prog.info? 43).map (·.size) = some 16 := by kernel_rfl
  have oa := N_ok a ha
  have ob := N_ok b hb
  have t1 : ((a.size : Int) != 32) = false := by rw [bne_eq_false_iff_eq]; omega
  have t2 : ((b.size : Int) != 32) = false := by rw [bne_eq_false_iff_eq]; omega
  have HA : Hid (a.size = 32 ∧ b.size = 32) := ⟨ha, hb⟩
  clear ha hb
  go_enter Tryd.func7, Tryd.ntmps7
  go_wp2_with fail
  refine (numOf_any a HA.out.1 _).mono ?_
  rintro e w1 ⟨rfl, hb1⟩
  go_wp2_with fail
  refine (numOf_any b HA.out.2 _).mono ?_
  rintro e w2 ⟨rfl, hb2⟩
  have z1 := hb1.size
  have z2 := hb2.size
  have hB2 : Below w.heap.size w w2 := hb1.trans (hb2.mono z1)
  have hN1 := (Arr.new w2 43 zeros).alloc (.cells (ints zeros) 43)
  have hN2 := Arr.new (w2.alloc (.cells (ints zeros) 43)) 43 zeros
  rw [World.size_alloc] at hN2
  have hB3 : Below w.heap.size w ((w2.alloc (.cells (ints zeros) 43)).alloc (.cells (ints zeros) 43)) := (hB2.alloc (by omega) _).alloc (by simp; omega) _
  obtain ⟨x, hx⟩ : ∃ x, N a = x := ⟨_, rfl⟩
  obtain ⟨y, hy⟩ : ∃ y, N b = y := ⟨_, rfl⟩
  rw [hx] at oa ⊢
  rw [hy] at ob ⊢
  have HX : Hid (N a = x ∧ N b = y) := ⟨hx, hy⟩
  clear hx hy
  have lx := dg_length 16 x
  have ly := dg_length 16 y
  obtain ⟨X, hX⟩ : ∃ X, dg 16 x = X := ⟨_, rfl⟩
  obtain ⟨Y, hY⟩ : ∃ Y, dg 16 y = Y := ⟨_, rfl⟩
  rw [hX] at lx ⊢
  rw [hY] at ly ⊢
  have HXX : Hid (dg 16 x = X ∧ dg 16 y = Y) := ⟨hX, hY⟩
  clear hX hY
  go_wp2_with (first | (refine wpList_store_arr rfl 43 (.tmp 8) (.tmp 19) rfl w2.heap.size X rfl rfl zeros hN1 (by rw [lx]; rfl) hi ?_; intro W3 hS3; have hN3 := hS3.other _ _ _ (by omega) hN2; have hB4 := hS3.below _ _ (by omega) hB3) | (refine wpList_store_arr rfl 43 (.tmp 9) (.tmp 21) rfl (w2.heap.size + 1) Y rfl rfl zeros hN3 (by rw [ly]; rfl) hi ?_; intro W4 hS4; have hA4 := hS4.other _ _ _ (by omega) hS3.arr; have hB5 := hS4.below _ _ (by omega) hB4) | (refine wpList_load_arr rfl 43 (.tmp 8) rfl w2.heap.size rfl X _ hA4 Tryd.underlying43 rfl (by rw [lx]; exact hi) ?_))
  rw [← HXX.out.1]
  refine (text_any x oa _).mono ?_
  rintro e w5 ⟨rfl, hb5⟩
  go_wp2
  go_ret2
  exact ⟨by rw [HX.out.1]; rfl, hB5.trans (hb5.mono hB5.size)⟩
set_option maxRecDepth 100000 in
set_option maxHeartbeats 1600000 in
theorem elem_sum (a b : ByteArray) (ha : a.size = 32) (hb : b.size = 32) (w : World) :
    Calls Tryd.prog 7 #[.string a, .string b, .int .i64 1] w fun e w' => e = .returned (.tuple #[.string (text (N a + N b)), .int .i64 0]) ∧ Below w.heap.size w w' := by
  have hi : (Tryd.prog.info? 43).map (·.size) = some 16 := by kernel_rfl
  have oa := N_ok a ha
  have ob := N_ok b hb
  have t1 : ((a.size : Int) != 32) = false := by rw [bne_eq_false_iff_eq]; omega
  have t2 : ((b.size : Int) != 32) = false := by rw [bne_eq_false_iff_eq]; omega
  have HA : Hid (a.size = 32 ∧ b.size = 32) := ⟨ha, hb⟩
  clear ha hb
  go_enter Tryd.func7, Tryd.ntmps7
  go_wp2_with fail
  refine (numOf_any a HA.out.1 _).mono ?_
  rintro e w1 ⟨rfl, hb1⟩
  go_wp2_with fail
  refine (numOf_any b HA.out.2 _).mono ?_
  rintro e w2 ⟨rfl, hb2⟩
  have z1 := hb1.size
  have z2 := hb2.size
  have hB2 : Below w.heap.size w w2 := hb1.trans (hb2.mono z1)
  have hN1 := (Arr.new w2 43 zeros).alloc (.cells (ints zeros) 43)
  have hN2 := Arr.new (w2.alloc (.cells (ints zeros) 43)) 43 zeros
  rw [World.size_alloc] at hN2
  have hB3 : Below w.heap.size w ((w2.alloc (.cells (ints zeros) 43)).alloc (.cells (ints zeros) 43)) := (hB2.alloc (by omega) _).alloc (by simp; omega) _
  obtain ⟨x, hx⟩ : ∃ x, N a = x := ⟨_, rfl⟩
  obtain ⟨y, hy⟩ : ∃ y, N b = y := ⟨_, rfl⟩
  rw [hx] at oa ⊢
  rw [hy] at ob ⊢
  have HX : Hid (N a = x ∧ N b = y) := ⟨hx, hy⟩
  clear hx hy
  have lx := dg_length 16 x
  have ly := dg_length 16 y
  obtain ⟨X, hX⟩ : ∃ X, dg 16 x = X := ⟨_, rfl⟩
  obtain ⟨Y, hY⟩ : ∃ Y, dg 16 y = Y := ⟨_, rfl⟩
  rw [hX] at lx ⊢
  rw [hY] at ly ⊢
  have HXX : Hid (dg 16 x = X ∧ dg 16 y = Y) := ⟨hX, hY⟩
  clear hX hY
  go_wp2_with (first | (refine wpList_store_arr rfl 43 (.tmp 8) (.tmp 19) rfl w2.heap.size X rfl rfl zeros hN1 (by rw [lx]; rfl) hi ?_; intro W3 hS3; have hN3 := hS3.other _ _ _ (by omega) hN2; have hB4 := hS3.below _ _ (by omega) hB3) | (refine wpList_store_arr rfl 43 (.tmp 9) (.tmp 21) rfl (w2.heap.size + 1) Y rfl rfl zeros hN3 (by rw [ly]; rfl) hi ?_; intro W4 hS4; have hA4 := hS4.other _ _ _ (by omega) hS3.arr; have hB5 := hS4.below _ _ (by omega) hB4) | (refine wpList_load_arr rfl 43 (.tmp 8) rfl w2.heap.size rfl X _ hA4 Tryd.underlying43 rfl (by rw [lx]; exact hi) ?_) | (refine wpList_load_arr rfl 43 (.tmp 9) rfl (w2.heap.size + 1) rfl Y _ hS4.arr Tryd.underlying43 rfl (by rw [ly]; exact hi) ?_))
  rw [← HXX.out.1, ← HXX.out.2]
  refine (plus_any x y 1 oa ob (by omega) (by omega) _).mono ?_
  rintro e w5 ⟨⟨v, hv, hm, rfl⟩, hb5⟩
  rw [HXX.out.1, HXX.out.2]
  have s4 := hS4.size
  have s3 := hS3.size
  have hA5 := hA4.below hb5 (by simp at s3 s4; omega)
  have hB6 := hB5.trans (hb5.mono hB5.size)
  unfold Num
  have lv := dg_length 16 v
  obtain ⟨V, hV⟩ : ∃ V, dg 16 v = V := ⟨_, rfl⟩
  rw [hV] at lv ⊢
  have HV : Hid (dg 16 v = V) := hV
  clear hV
  go_wp2_with (first | (refine wpList_store_arr rfl 43 (.tmp 8) (.tmp 27) rfl w2.heap.size V rfl rfl X hA5 (by rw [lx, lv]) (by rw [lx]; exact hi) ?_; intro W6 hS6; have hB7 := hS6.below _ _ (by omega) hB6) | (refine wpList_load_arr rfl 43 (.tmp 8) rfl w2.heap.size rfl V _ hS6.arr Tryd.underlying43 rfl (by rw [lv]; exact hi) ?_))
  rw [← HV.out]
  refine (text_any v hv _).mono ?_
  rintro e w7 ⟨rfl, hb7⟩
  go_wp2
  go_ret2
  refine ⟨?_, hB7.trans (hb7.mono hB7.size)⟩
  rw [HX.out.1, HX.out.2, text_congr v _ hm]
  rw [Int.one_mul]
  rfl
set_option maxRecDepth 100000 in
set_option maxHeartbeats 1600000 in
theorem elem_sub (a b : ByteArray) (ha : a.size = 32) (hb : b.size = 32) (w : World) :
    Calls Tryd.prog 7 #[.string a, .string b, .int .i64 2] w fun e w' => e = .returned (.tuple #[.string (text (N a - N b)), .int .i64 0]) ∧ Below w.heap.size w w' := by
  have hi : (Tryd.prog.info? 43).map (·.size) = some 16 := by kernel_rfl
  have oa := N_ok a ha
  have ob := N_ok b hb
  have t1 : ((a.size : Int) != 32) = false := by rw [bne_eq_false_iff_eq]; omega
  have t2 : ((b.size : Int) != 32) = false := by rw [bne_eq_false_iff_eq]; omega
  have HA : Hid (a.size = 32 ∧ b.size = 32) := ⟨ha, hb⟩
  clear ha hb
  go_enter Tryd.func7, Tryd.ntmps7
  go_wp2_with fail
  refine (numOf_any a HA.out.1 _).mono ?_
  rintro e w1 ⟨rfl, hb1⟩
  go_wp2_with fail
  refine (numOf_any b HA.out.2 _).mono ?_
  rintro e w2 ⟨rfl, hb2⟩
  have z1 := hb1.size
  have z2 := hb2.size
  have hB2 : Below w.heap.size w w2 := hb1.trans (hb2.mono z1)
  have hN1 := (Arr.new w2 43 zeros).alloc (.cells (ints zeros) 43)
  have hN2 := Arr.new (w2.alloc (.cells (ints zeros) 43)) 43 zeros
  rw [World.size_alloc] at hN2
  have hB3 : Below w.heap.size w ((w2.alloc (.cells (ints zeros) 43)).alloc (.cells (ints zeros) 43)) := (hB2.alloc (by omega) _).alloc (by simp; omega) _
  obtain ⟨x, hx⟩ : ∃ x, N a = x := ⟨_, rfl⟩
  obtain ⟨y, hy⟩ : ∃ y, N b = y := ⟨_, rfl⟩
  rw [hx] at oa ⊢
  rw [hy] at ob ⊢
  have HX : Hid (N a = x ∧ N b = y) := ⟨hx, hy⟩
  clear hx hy
  have lx := dg_length 16 x
  have ly := dg_length 16 y
  obtain ⟨X, hX⟩ : ∃ X, dg 16 x = X := ⟨_, rfl⟩
  obtain ⟨Y, hY⟩ : ∃ Y, dg 16 y = Y := ⟨_, rfl⟩
  rw [hX] at lx ⊢
  rw [hY] at ly ⊢
  have HXX : Hid (dg 16 x = X ∧ dg 16 y = Y) := ⟨hX, hY⟩
  clear hX hY
  go_wp2_with (first | (refine wpList_store_arr rfl 43 (.tmp 8) (.tmp 19) rfl w2.heap.size X rfl rfl zeros hN1 (by rw [lx]; rfl) hi ?_; intro W3 hS3; have hN3 := hS3.other _ _ _ (by omega) hN2; have hB4 := hS3.below _ _ (by omega) hB3) | (refine wpList_store_arr rfl 43 (.tmp 9) (.tmp 21) rfl (w2.heap.size + 1) Y rfl rfl zeros hN3 (by rw [ly]; rfl) hi ?_; intro W4 hS4; have hA4 := hS4.other _ _ _ (by omega) hS3.arr; have hB5 := hS4.below _ _ (by omega) hB4) | (refine wpList_load_arr rfl 43 (.tmp 8) rfl w2.heap.size rfl X _ hA4 Tryd.underlying43 rfl (by rw [lx]; exact hi) ?_) | (refine wpList_load_arr rfl 43 (.tmp 9) rfl (w2.heap.size + 1) rfl Y _ hS4.arr Tryd.underlying43 rfl (by rw [ly]; exact hi) ?_))
  rw [← HXX.out.1, ← HXX.out.2]
  refine (plus_any x y (-1) oa ob (by omega) (by omega) _).mono ?_
  rintro e w5 ⟨⟨v, hv, hm, rfl⟩, hb5⟩
  rw [HXX.out.1, HXX.out.2]
  have s4 := hS4.size
  have s3 := hS3.size
  have hA5 := hA4.below hb5 (by simp at s3 s4; omega)
  have hB6 := hB5.trans (hb5.mono hB5.size)
  unfold Num
  have lv := dg_length 16 v
  obtain ⟨V, hV⟩ : ∃ V, dg 16 v = V := ⟨_, rfl⟩
  rw [hV] at lv ⊢
  have HV : Hid (dg 16 v = V) := hV
  clear hV
  go_wp2_with (first | (refine wpList_store_arr rfl 43 (.tmp 8) (.tmp 32) rfl w2.heap.size V rfl rfl X hA5 (by rw [lx, lv]) (by rw [lx]; exact hi) ?_; intro W6 hS6; have hB7 := hS6.below _ _ (by omega) hB6) | (refine wpList_load_arr rfl 43 (.tmp 8) rfl w2.heap.size rfl V _ hS6.arr Tryd.underlying43 rfl (by rw [lv]; exact hi) ?_))
  rw [← HV.out]
  refine (text_any v hv _).mono ?_
  rintro e w7 ⟨rfl, hb7⟩
  go_wp2
  go_ret2
  refine ⟨?_, hB7.trans (hb7.mono hB7.size)⟩
  rw [HX.out.1, HX.out.2, text_congr v _ hm]
  rw [Int.neg_one_mul, ← Int.sub_eq_add_neg]
  rfl
set_option maxRecDepth 100000 in
set_option maxHeartbeats 1600000 in
theorem elem_mul (a b : ByteArray) (ha : a.size = 32) (hb : b.size = 32) (w : World) :
    Calls Tryd.prog 7 #[.string a, .string b, .int .i64 3] w fun e w' => e = .returned (.tuple #[.string (text (N a * N b)), .int .i64 0]) ∧ Below w.heap.size w w' := by
  have hi : (Tryd.prog.info? 43).map (·.size) = some 16 := by kernel_rfl
  have oa := N_ok a ha
  have ob := N_ok b hb
  have t1 : ((a.size : Int) != 32) = false := by rw [bne_eq_false_iff_eq]; omega
  have t2 : ((b.size : Int) != 32) = false := by rw [bne_eq_false_iff_eq]; omega
  have HA : Hid (a.size = 32 ∧ b.size = 32) := ⟨ha, hb⟩
  clear ha hb
  go_enter Tryd.func7, Tryd.ntmps7
  go_wp2_with fail
  refine (numOf_any a HA.out.1 _).mono ?_
  rintro e w1 ⟨rfl, hb1⟩
  go_wp2_with fail
  refine (numOf_any b HA.out.2 _).mono ?_
  rintro e w2 ⟨rfl, hb2⟩
  have z1 := hb1.size
  have z2 := hb2.size
  have hB2 : Below w.heap.size w w2 := hb1.trans (hb2.mono z1)
  have hN1 := (Arr.new w2 43 zeros).alloc (.cells (ints zeros) 43)
  have hN2 := Arr.new (w2.alloc (.cells (ints zeros) 43)) 43 zeros
  rw [World.size_alloc] at hN2
  have hB3 : Below w.heap.size w ((w2.alloc (.cells (ints zeros) 43)).alloc (.cells (ints zeros) 43)) := (hB2.alloc (by omega) _).alloc (by simp; omega) _
  obtain ⟨x, hx⟩ : ∃ x, N a = x := ⟨_, rfl⟩
  obtain ⟨y, hy⟩ : ∃ y, N b = y := ⟨_, rfl⟩
  rw [hx] at oa ⊢
  rw [hy] at ob ⊢
  have HX : Hid (N a = x ∧ N b = y) := ⟨hx, hy⟩
  clear hx hy
  have lx := dg_length 16 x
  have ly := dg_length 16 y
  obtain ⟨X, hX⟩ : ∃ X, dg 16 x = X := ⟨_, rfl⟩
  obtain ⟨Y, hY⟩ : ∃ Y, dg 16 y = Y := ⟨_, rfl⟩
  rw [hX] at lx ⊢
  rw [hY] at ly ⊢
  have HXX : Hid (dg 16 x = X ∧ dg 16 y = Y) := ⟨hX, hY⟩
  clear hX hY
  go_wp2_with (first | (refine wpList_store_arr rfl 43 (.tmp 8) (.tmp 19) rfl w2.heap.size X rfl rfl zeros hN1 (by rw [lx]; rfl) hi ?_; intro W3 hS3; have hN3 := hS3.other _ _ _ (by omega) hN2; have hB4 := hS3.below _ _ (by omega) hB3) | (refine wpList_store_arr rfl 43 (.tmp 9) (.tmp 21) rfl (w2.heap.size + 1) Y rfl rfl zeros hN3 (by rw [ly]; rfl) hi ?_; intro W4 hS4; have hA4 := hS4.other _ _ _ (by omega) hS3.arr; have hB5 := hS4.below _ _ (by omega) hB4) | (refine wpList_load_arr rfl 43 (.tmp 8) rfl w2.heap.size rfl X _ hA4 Tryd.underlying43 rfl (by rw [lx]; exact hi) ?_) | (refine wpList_load_arr rfl 43 (.tmp 9) rfl (w2.heap.size + 1) rfl Y _ hS4.arr Tryd.underlying43 rfl (by rw [ly]; exact hi) ?_))
  rw [← HXX.out.1, ← HXX.out.2]
  refine (times_any x y oa ob _).mono ?_
  rintro e w5 ⟨⟨v, hv, hm, rfl⟩, hb5⟩
  rw [HXX.out.1, HXX.out.2]
  have s4 := hS4.size
  have s3 := hS3.size
  have hA5 := hA4.below hb5 (by simp at s3 s4; omega)
  have hB6 := hB5.trans (hb5.mono hB5.size)
  unfold Num
  have lv := dg_length 16 v
  obtain ⟨V, hV⟩ : ∃ V, dg 16 v = V := ⟨_, rfl⟩
  rw [hV] at lv ⊢
  have HV : Hid (dg 16 v = V) := hV
  clear hV
  go_wp2_with (first | (refine wpList_store_arr rfl 43 (.tmp 8) (.tmp 37) rfl w2.heap.size V rfl rfl X hA5 (by rw [lx, lv]) (by rw [lx]; exact hi) ?_; intro W6 hS6; have hB7 := hS6.below _ _ (by omega) hB6) | (refine wpList_load_arr rfl 43 (.tmp 8) rfl w2.heap.size rfl V _ hS6.arr Tryd.underlying43 rfl (by rw [lv]; exact hi) ?_))
  rw [← HV.out]
  refine (text_any v hv _).mono ?_
  rintro e w7 ⟨rfl, hb7⟩
  go_wp2
  go_ret2
  refine ⟨?_, hB7.trans (hb7.mono hB7.size)⟩
  rw [HX.out.1, HX.out.2, text_congr v _ hm]
  rfl
set_option maxRecDepth 100000 in
set_option maxHeartbeats 1600000 in
theorem elem_inv (a b : ByteArray) (ha : a.size = 32) (hb : b.size = 32) (w : World) :
    Calls Tryd.prog 7 #[.string a, .string b, .int .i64 4] w fun e w' => e = .returned (.tuple #[.string (text (N a ^ einv)), .int .i64 0]) ∧ Below w.heap.size w w' := by
  have hi : (Tryd.prog.info? 43).map (·.size) = some 16 := by kernel_rfl
  have oa := N_ok a ha
  have ob := N_ok b hb
  have t1 : ((a.size : Int) != 32) = false := by rw [bne_eq_false_iff_eq]; omega
  have t2 : ((b.size : Int) != 32) = false := by rw [bne_eq_false_iff_eq]; omega
  have HA : Hid (a.size = 32 ∧ b.size = 32) := ⟨ha, hb⟩
  clear ha hb
  go_enter Tryd.func7, Tryd.ntmps7
  go_wp2_with fail
  refine (numOf_any a HA.out.1 _).mono ?_
  rintro e w1 ⟨rfl, hb1⟩
  go_wp2_with fail
  refine (numOf_any b HA.out.2 _).mono ?_
  rintro e w2 ⟨rfl, hb2⟩
  have z1 := hb1.size
  have z2 := hb2.size
  have hB2 : Below w.heap.size w w2 := hb1.trans (hb2.mono z1)
  have hN1 := (Arr.new w2 43 zeros).alloc (.cells (ints zeros) 43)
  have hN2 := Arr.new (w2.alloc (.cells (ints zeros) 43)) 43 zeros
  rw [World.size_alloc] at hN2
  have hB3 : Below w.heap.size w ((w2.alloc (.cells (ints zeros) 43)).alloc (.cells (ints zeros) 43)) := (hB2.alloc (by omega) _).alloc (by simp; omega) _
  obtain ⟨x, hx⟩ : ∃ x, N a = x := ⟨_, rfl⟩
  obtain ⟨y, hy⟩ : ∃ y, N b = y := ⟨_, rfl⟩
  rw [hx] at oa ⊢
  rw [hy] at ob ⊢
  have HX : Hid (N a = x ∧ N b = y) := ⟨hx, hy⟩
  clear hx hy
  have lx := dg_length 16 x
  have ly := dg_length 16 y
  obtain ⟨X, hX⟩ : ∃ X, dg 16 x = X := ⟨_, rfl⟩
  obtain ⟨Y, hY⟩ : ∃ Y, dg 16 y = Y := ⟨_, rfl⟩
  rw [hX] at lx ⊢
  rw [hY] at ly ⊢
  have HXX : Hid (dg 16 x = X ∧ dg 16 y = Y) := ⟨hX, hY⟩
  clear hX hY
  go_wp2_with (first | (refine wpList_store_arr rfl 43 (.tmp 8) (.tmp 19) rfl w2.heap.size X rfl rfl zeros hN1 (by rw [lx]; rfl) hi ?_; intro W3 hS3; have hN3 := hS3.other _ _ _ (by omega) hN2; have hB4 := hS3.below _ _ (by omega) hB3) | (refine wpList_store_arr rfl 43 (.tmp 9) (.tmp 21) rfl (w2.heap.size + 1) Y rfl rfl zeros hN3 (by rw [ly]; rfl) hi ?_; intro W4 hS4; have hA4 := hS4.other _ _ _ (by omega) hS3.arr; have hB5 := hS4.below _ _ (by omega) hB4) | (refine wpList_load_arr rfl 43 (.tmp 8) rfl w2.heap.size rfl X _ hA4 Tryd.underlying43 rfl (by rw [lx]; exact hi) ?_) | (refine wpList_load_arr rfl 43 (.tmp 9) rfl (w2.heap.size + 1) rfl Y _ hS4.arr Tryd.underlying43 rfl (by rw [ly]; exact hi) ?_))
  rw [← HXX.out.1]
  refine (inverse_any x oa _).mono ?_
  rintro e w5 ⟨⟨v, hv, hm, rfl⟩, hb5⟩
  rw [HXX.out.1]
  have s4 := hS4.size
  have s3 := hS3.size
  have hA5 := hA4.below hb5 (by simp at s3 s4; omega)
  have hB6 := hB5.trans (hb5.mono hB5.size)
  unfold Num
  have lv := dg_length 16 v
  obtain ⟨V, hV⟩ : ∃ V, dg 16 v = V := ⟨_, rfl⟩
  rw [hV] at lv ⊢
  have HV : Hid (dg 16 v = V) := hV
  clear hV
  go_wp2_with (first | (refine wpList_store_arr rfl 43 (.tmp 8) (.tmp 41) rfl w2.heap.size V rfl rfl X hA5 (by rw [lx, lv]) (by rw [lx]; exact hi) ?_; intro W6 hS6; have hB7 := hS6.below _ _ (by omega) hB6) | (refine wpList_load_arr rfl 43 (.tmp 8) rfl w2.heap.size rfl V _ hS6.arr Tryd.underlying43 rfl (by rw [lv]; exact hi) ?_))
  rw [← HV.out]
  refine (text_any v hv _).mono ?_
  rintro e w7 ⟨rfl, hb7⟩
  go_wp2
  go_ret2
  refine ⟨?_, hB7.trans (hb7.mono hB7.size)⟩
  rw [HX.out.1, text_congr v _ hm]
  rw [inv_einv]
  rfl
end Go.Proofs.YthabfejpejjenaaDoor.num
