/-
  THE WALK OF package code's Unbase: it returns what its plain function says, in every world, and nothing that was there has turned.
-/
import Derived.Test.YteoiijiiccecfaaBase
namespace Go.Proofs.Yteoiijiiccecfaa.base
open Go.RowKit

theorem ret_bv {a b : Int} {p q : Bool} (h : a = b) (h2 : p = q) : Ending.returned (.tuple #[.int .u8 a, .bool p]) = .returned (.tuple #[.int .u8 b, .bool q]) := by rw [h, h2]
set_option maxHeartbeats 800000 in
theorem value_any (c : Int) (h0 : 0 ≤ c) (h1 : c ≤ 255) (w : World) :
    Calls Try.prog 21 #[.int .u8 c] w fun e w' => e = .returned (.tuple #[.int .u8 (bval c), .bool (bok c)]) ∧ w' = w := by
  go_enter Try.func21, Try.ntmps21
  go_wp2
  all_goals
    go_ret2
    refine ⟨ret_bv ?_ ?_, rfl⟩
  all_goals try simp only [beq_iff_eq, beq_eq_false_iff_ne] at *
  all_goals first | (unfold bok; symm; first | (rw [decide_eq_true_eq]; omega) | (rw [decide_eq_false_iff_not]; omega)) | (unfold bval; repeat (first | rw [if_pos (by omega)] | rw [if_neg (by omega)]))
theorem padN_at (s : ByteArray) (k : Nat) (h : k < padN s) : PlainAid.bt s (s.size - 1 - k) = 61 := by
  unfold padN at h
  split at h
  · rename_i h1
    split at h
    · rename_i h2
      rcases (show k = 0 ∨ k = 1 by omega) with rfl | rfl
      · exact h1.2
      · exact h2.2
    · obtain rfl : k = 0 := by omega
      exact h1.2
  · omega
theorem padN_past (s : ByteArray) (h : padN s < 2) (h2 : padN s < s.size) : PlainAid.bt s (s.size - 1 - padN s) ≠ 61 := by
  intro e
  unfold padN at h e h2
  split at h
  · rename_i h1
    split at h
    · omega
    · rename_i h3
      rw [if_pos h1, if_neg h3] at e h2
      exact h3 ⟨by omega, e⟩
  · rename_i h1
    rw [if_neg h1] at e h2
    exact h1 ⟨by omega, e⟩
set_option maxHeartbeats 800000 in
theorem unpadded_any (s : ByteArray) (hs : s.size ≤ 1073741824) (w : World) :
    Calls Try.prog 20 #[.string s] w fun e w' => e = .returned (.string (bare s)) ∧ w' = w := by
  have hb := PlainAid.get_bt s
  have hp := padN_le s
  go_enter Try.func20, Try.ntmps20
  go_wp2
  go_loop [3] (fun i => ∃ k : Nat, k ≤ padN s ∧ i = .int .i64 ((s.size : Int) - (k : Int))) (fun i => (intOf i).toNat)
  case atStart => exact ⟨0, Nat.zero_le _, by go_num⟩
  case round =>
    obtain ⟨k, hk, rfl⟩ := hrel
    by_cases hlt : k < padN s
    · have hx := padN_at s k hlt
      have n1 : ((s.size : Int) - (k : Int) - 1).toNat = s.size - 1 - k := by omega
      have p0 : (s.size : Int) - 2 < (s.size : Int) - (k : Int) := by omega
      have p1 : (0 : Int) < (s.size : Int) - (k : Int) := by omega
      have p2 : (0 : Int) ≤ (s.size : Int) - (k : Int) - 1 := by omega
      have p3 : (s.size : Int) - (k : Int) - 1 < (s.size : Int) := by omega
      have p4 : s.size - 1 - k < s.size := by omega
      go_wp2
      go_round
      case rel => exact ⟨k + 1, by omega, by go_num⟩
      case measure => simp [intOf]; omega
    · obtain rfl : k = padN s := by omega
      have hsl : (Instr.slice 9 (.string s) none (some (.int .i64 ((s.size : Int) - (padN s : Int)))) none).run Try.prog w = .ok (.string (bare s)) w := by
        have h := run_slice_string_to_if (P := Try.prog) w 9 s .i64 ((s.size : Int) - (padN s : Int)) Try.underlying9
        rw [if_pos ⟨by omega, by omega⟩] at h
        rw [h, show ((s.size : Int) - (padN s : Int)).toNat = s.size - padN s from by omega]
        rfl
      by_cases c0 : padN s = s.size
      · have p1 : ¬ (0 : Int) < (s.size : Int) - (padN s : Int) := by omega
        have p1' : decide ((0 : Int) < (s.size : Int) - (padN s : Int)) = false := by simp; omega
        clear c0
        generalize padN s = p at *
        go_wp2
        go_ret
        exact ⟨rfl, rfl⟩
      · have p1 : (0 : Int) < (s.size : Int) - (padN s : Int) := by omega
        by_cases c1 : padN s = 2
        · have p2 : ¬ (s.size : Int) - 2 < (s.size : Int) - (padN s : Int) := by omega
          clear c1
          generalize padN s = p at *
          go_wp2
          go_ret
          exact ⟨rfl, rfl⟩
        · have hx := padN_past s (by omega) (by omega)
          have hx' : (PlainAid.bt s (s.size - 1 - padN s) == 61) = false := by rw [beq_eq_false_iff_ne]; exact hx
          have n1 : ((s.size : Int) - (padN s : Int) - 1).toNat = s.size - 1 - padN s := by omega
          have p0 : (s.size : Int) - 2 < (s.size : Int) - (padN s : Int) := by omega
          have p2 : (0 : Int) ≤ (s.size : Int) - (padN s : Int) - 1 := by omega
          have p3 : (s.size : Int) - (padN s : Int) - 1 < (s.size : Int) := by omega
          have p4 : s.size - 1 - padN s < s.size := by omega
          clear hx c0 c1
          generalize padN s = p at *
          go_wp2
          go_ret
          exact ⟨rfl, rfl⟩

theorem cells_byte (l : List UInt8) (n : Nat) (h : n < 256) : cellsOf (l ++ [UInt8.ofNat n]) = cellsOf l ++ [.int .u8 (n : Int)] := by
  have := cells_snoc l (n : Int) (by omega) (by omega)
  rwa [Int.toNat_natCast] at this
theorem wraps_u32 (n : Int) (h0 : 0 ≤ n) (h1 : n < 2 ^ 32) : IntKind.u32.wrap n = n := by rw [IntKind.wrap_u32]; omega
theorem or32 (d v : Int) (d0 : 0 ≤ d) (d1 : d < 64) (v0 : 0 ≤ v) (v1 : v < 64) : bits .or .u32 (d * 64) v = d * 64 + v :=
  bits_join .u32 32 (by decide) wraps_u32 6 (d * 64) v (by omega) (by omega) (by omega) v0 (by omega) (by omega)
theorem and15 (x : Int) (h0 : 0 ≤ x) (h1 : x < 4294967296) : bits .and .u32 x 15 = x % 16 := bits_mask .u32 32 (by decide) wraps_u32 4 (by decide) x h0 h1
theorem and3 (x : Int) (h0 : 0 ≤ x) (h1 : x < 4294967296) : bits .and .u32 x 3 = x % 4 := bits_mask .u32 32 (by decide) wraps_u32 2 (by decide) x h0 h1
theorem and0 (x : Int) (h0 : 0 ≤ x) (h1 : x < 4294967296) : bits .and .u32 x 0 = 0 := by
  have := bits_mask .u32 32 (by decide) wraps_u32 0 (by decide) x h0 h1
  simpa using this

set_option maxHeartbeats 400000 in
theorem unbase_rem (s : ByteArray) (hs : s.size ≤ 1073741824) (h : s.size % 4 ≠ 0) (w : World) :
    Calls Try.prog 14 #[.string s] w fun e w' => e = .returned (.tuple #[.string ⟨#[]⟩, .int .i64 3]) ∧ Below w.heap.size w w' := by
  have h1 : ((s.size : Int) % 4 != 0) = true := by rw [bne_iff_ne]; omega
  go_enter Try.func14, Try.ntmps14
  go_wp2
  go_ret2
  exact ⟨rfl, Below.refl _ _⟩

set_option maxRecDepth 100000 in
set_option maxHeartbeats 1600000 in
theorem unbase_four (s : ByteArray) (hs : s.size ≤ 1073741824) (h4 : s.size % 4 = 0) (R : Option ByteArray) (hR : unbaseB s = R) (w : World) :
    Calls Try.prog 14 #[.string s] w fun e w' => e = .returned (.tuple #[.string (R.getD ⟨#[]⟩), .int .i64 (if R.isSome then 0 else 3)]) ∧ Below w.heap.size w w' := by
  obtain ⟨i0, hi, hz0, hz1, hz2⟩ := info_parts infoB
  have h1 : ((s.size : Int) % 4 != 0) = false := by rw [bne_eq_false_iff_eq]; omega
  have HR : Hid (unbaseB s = R) := hR
  have H4 : Hid (s.size % 4 = 0) := h4
  have hu : (bare s).size ≤ s.size := by rw [bare_size]; omega
  clear hR h4
  go_enter Try.func14, Try.ntmps14
  go_wp2_with fail
  refine (unpadded_any s hs _).mono ?_
  rintro e w1 ⟨rfl, hw⟩
  rw [hw]
  clear hw w1
  have HB : Hid (∃ u, bare s = u) := ⟨_, rfl⟩
  generalize hbu : bare s = u at *
  have HU : Hid (bare s = u) := hbu
  clear hbu
  go_wp2_with (at_make; refine wpList_make_own _ rfl _ _ 31 rfl w.heap.size 5 i0 (.int .u8 0) 1 Try.underlying31 hi hz0 hz1 _ _ _ (s.size / 4 * 3) rfl rfl (by omega) (by rw [hz2]; omega) (by unfold maxLen; omega) (Nat.le_refl _) ?_; intro w1 hown hgrow)
  go_loopw [5, 6, 7, 8] (fun v hh cc i wr => ∃ (k d c : Nat) (o : List UInt8), k ≤ u.size ∧ i = .int .i64 k ∧ hh = .int .u32 d ∧ cc = .int .i64 c ∧ okB (u.data.toList.take k) = true ∧ foldB (u.data.toList.take k) = (o, d, c) ∧ (∃ g cap, v = .slice (some ⟨g, 0, none⟩) o.length cap) ∧ wr.ownsRow w.heap.size 5 1 v o.length (cellsOf o) ∧ Below w.heap.size w wr)
    (fun _ _ _ i _ => u.size - (intOf i).toNat)
  case atStart =>
    exact ⟨0, 0, 0, [], Nat.zero_le _, rfl, rfl, rfl, rfl, rfl, ⟨_, _, rfl⟩, hown, (Below.refl _ _).grown hgrow (Nat.le_refl _) (fun k hk => by cases hk)⟩
  case round =>
    obtain ⟨k, d, c, o, hk, rfl, rfl, rfl, hok, hf, ⟨g, cap, rfl⟩, hown1, hnx⟩ := hrel
    have hsz := hnx.size
    have hinv := foldB_inv (u.data.toList.take k)
    have hol := foldB_len (u.data.toList.take k)
    rw [hf] at hinv hol
    rw [List.length_take] at hol
    have hol' : o.length ≤ 1073741824 := by have : (o, d, c).1.length = o.length := rfl; omega
    clear hol
    have HK : Hid (okB (u.data.toList.take k) = true) := hok
    have HF : Hid (foldB (u.data.toList.take k) = (o, d, c)) := hf
    clear hok hf
    by_cases hlt : k < u.size
    · have hb := PlainAid.get_bt u
      have b0 := PlainAid.bt_nonneg u k
      have b1 := PlainAid.bt_le u k
      have hv := bval_bd (PlainAid.bt u k)
      obtain ⟨v0, v1⟩ := hv
      obtain ⟨V, hV⟩ := Int.eq_ofNat_of_zero_le v0
      have v2 : V ≤ 63 := by omega
      by_cases hc : bok (PlainAid.bt u k) = true
      · have HT : Hid (foldB (u.data.toList.take (k + 1)) = stepB (o, d, c) V) := by rw [← HF.out, foldB_take u k hlt, hV]; rfl
        have HO : Hid (okB (u.data.toList.take (k + 1)) = true) := okB_take u k hlt HK.out hc
        rcases hinv with ⟨e1, e2⟩ | ⟨e1, e2⟩ | ⟨e1, e2⟩ | ⟨e1, e2⟩
        · simp only at e1 e2
          subst e1
          have d1 : d < 1 := by omega
          clear e2
          have fo := or32 (d : Int) (V : Int) (by omega) (by omega) (by omega) (by omega)
          go_wp2_with (go_at_call 21; refine (value_any _ (by omega) (by omega) _).mono ?_; rintro e w' ⟨rfl, hw⟩; rw [hw]; clear hw w')
          go_roundw
          case rel => exact ⟨k + 1, d * 64 + V, 6, o, by omega, by go_num, by go_num, rfl, HO.out, by rw [HT.out]; simp [stepB], ⟨g, cap, rfl⟩, hown1, hnx⟩
          case measure => simp [intOf]; omega
        · simp only at e1 e2
          subst e1
          have fo := or32 (d : Int) (V : Int) (by omega) (by omega) (by omega) (by omega)
          have fa := and15 ((d : Int) * 64 + (V : Int)) (by omega) (by omega)
          have y0 : (0 : Int) ≤ ((d : Int) * 64 + (V : Int)) / 16 := by omega
          have y1 : ((d : Int) * 64 + (V : Int)) / 16 ≤ 255 := by omega
          go_wp2_with (first | (go_at_call 21; refine (value_any _ (by omega) (by omega) _).mono ?_; rintro e w' ⟨rfl, hw⟩; rw [hw]; clear hw w') | (at_builtin; refine wpList_append_lies _ rfl _ _ 31 rfl w.heap.size 5 i0 _ 1 1 Try.underlying31 hi hz0 hz1 hz2 rfl (by omega) (.slice (some ⟨g, 0, none⟩) o.length cap) (o.length) _ rfl (hown1.alloc _) ⟨(wr).heap.size, 0, none⟩ 1 1 [Value.int .u8 (((d : Int) * 64 + (V : Int)) / 16)] rfl rfl (World.news_of_block (cs := #[Value.int .u8 (((d : Int) * 64 + (V : Int)) / 16)]) (t := 5) (fr := (0, 0)) (heap_alloc_new (wr) _)) (by simp [Value.oneCell']) (by omega) (by unfold maxLen; omega) (by omega) (by simp; omega) ((wr).heap.size + 1) (by simp) ?_; intro gg cap1 w2 hown2 hgrow2 hat hltg))
          go_roundw
          case rel => exact ⟨k + 1, (d * 64 + V) % 16, 4, o ++ [UInt8.ofNat ((d * 64 + V) / 16)], by omega, by go_num, by go_num, rfl, HO.out, by rw [HT.out]; simp [stepB], ⟨gg, cap1, by rw [List.length_append]; rfl⟩, by rw [List.length_append, cells_byte o _ (by omega)]; exact hown2, (hnx.alloc hsz _).grown hgrow2 (by simp; omega) (fun j hj => by cases hj; exact (hown1.lt _ rfl).1)⟩
          case measure => simp [intOf]; omega
        · simp only at e1 e2
          subst e1
          have fo := or32 (d : Int) (V : Int) (by omega) (by omega) (by omega) (by omega)
          have fa := and3 ((d : Int) * 64 + (V : Int)) (by omega) (by omega)
          have y0 : (0 : Int) ≤ ((d : Int) * 64 + (V : Int)) / 4 := by omega
          have y1 : ((d : Int) * 64 + (V : Int)) / 4 ≤ 255 := by omega
          go_wp2_with (first | (go_at_call 21; refine (value_any _ (by omega) (by omega) _).mono ?_; rintro e w' ⟨rfl, hw⟩; rw [hw]; clear hw w') | (at_builtin; refine wpList_append_lies _ rfl _ _ 31 rfl w.heap.size 5 i0 _ 1 1 Try.underlying31 hi hz0 hz1 hz2 rfl (by omega) (.slice (some ⟨g, 0, none⟩) o.length cap) (o.length) _ rfl (hown1.alloc _) ⟨(wr).heap.size, 0, none⟩ 1 1 [Value.int .u8 (((d : Int) * 64 + (V : Int)) / 4)] rfl rfl (World.news_of_block (cs := #[Value.int .u8 (((d : Int) * 64 + (V : Int)) / 4)]) (t := 5) (fr := (0, 0)) (heap_alloc_new (wr) _)) (by simp [Value.oneCell']) (by omega) (by unfold maxLen; omega) (by omega) (by simp; omega) ((wr).heap.size + 1) (by simp) ?_; intro gg cap1 w2 hown2 hgrow2 hat hltg))
          go_roundw
          case rel => exact ⟨k + 1, (d * 64 + V) % 4, 2, o ++ [UInt8.ofNat ((d * 64 + V) / 4)], by omega, by go_num, by go_num, rfl, HO.out, by rw [HT.out]; simp [stepB], ⟨gg, cap1, by rw [List.length_append]; rfl⟩, by rw [List.length_append, cells_byte o _ (by omega)]; exact hown2, (hnx.alloc hsz _).grown hgrow2 (by simp; omega) (fun j hj => by cases hj; exact (hown1.lt _ rfl).1)⟩
          case measure => simp [intOf]; omega
        · simp only at e1 e2
          subst e1
          have fo := or32 (d : Int) (V : Int) (by omega) (by omega) (by omega) (by omega)
          have fa := and0 ((d : Int) * 64 + (V : Int)) (by omega) (by omega)
          have y0 : (0 : Int) ≤ ((d : Int) * 64 + (V : Int)) := by omega
          have y1 : ((d : Int) * 64 + (V : Int)) ≤ 255 := by omega
          go_wp2_with (first | (go_at_call 21; refine (value_any _ (by omega) (by omega) _).mono ?_; rintro e w' ⟨rfl, hw⟩; rw [hw]; clear hw w') | (at_builtin; refine wpList_append_lies _ rfl _ _ 31 rfl w.heap.size 5 i0 _ 1 1 Try.underlying31 hi hz0 hz1 hz2 rfl (by omega) (.slice (some ⟨g, 0, none⟩) o.length cap) (o.length) _ rfl (hown1.alloc _) ⟨(wr).heap.size, 0, none⟩ 1 1 [Value.int .u8 (((d : Int) * 64 + (V : Int)))] rfl rfl (World.news_of_block (cs := #[Value.int .u8 (((d : Int) * 64 + (V : Int)))]) (t := 5) (fr := (0, 0)) (heap_alloc_new (wr) _)) (by simp [Value.oneCell']) (by omega) (by unfold maxLen; omega) (by omega) (by simp; omega) ((wr).heap.size + 1) (by simp) ?_; intro gg cap1 w2 hown2 hgrow2 hat hltg))
          go_roundw
          case rel => exact ⟨k + 1, (d * 64 + V) % 1, 0, o ++ [UInt8.ofNat (d * 64 + V)], by omega, by go_num, by go_num, rfl, HO.out, by rw [HT.out]; simp [stepB], ⟨gg, cap1, by rw [List.length_append]; rfl⟩, by rw [List.length_append, cells_byte o _ (by omega)]; exact hown2, (hnx.alloc hsz _).grown hgrow2 (by simp; omega) (fun j hj => by cases hj; exact (hown1.lt _ rfl).1)⟩
          case measure => simp [intOf]; omega
      · have hc' : bok (PlainAid.bt u k) = false := by simpa using hc
        obtain rfl : none = R := by rw [← HR.out, unbase_none s (.inl (by rw [HU.out]; exact okB_not u k hlt hc'))]
        clear hc
        go_wp2_with (go_at_call 21; refine (value_any _ (by omega) (by omega) _).mono ?_; rintro e w' ⟨rfl, hw⟩; rw [hw]; clear hw w')
        go_ret2
        exact ⟨rfl, hnx⟩
    · obtain rfl : k = u.size := by omega
      have ht : u.data.toList.take u.size = u.data.toList := take_all u _ rfl
      have hcv := conv_own hown1
      by_cases hd : d = 0
      · obtain rfl : some (⟨o.toArray⟩ : ByteArray) = R := by
          have h1 := HK.out
          have h2 := HF.out
          rw [ht] at h1 h2
          rw [← HR.out, unbase_some s (by rw [HU.out]; exact h1) H4.out (by rw [HU.out, h2]; exact hd), HU.out, h2]
        subst hd
        clear ht
        go_wp2
        go_ret2
        exact ⟨rfl, hnx⟩
      · obtain rfl : none = R := by
          have h2 := HF.out
          rw [ht] at h2
          rw [← HR.out, unbase_none s (.inr (.inr (by rw [HU.out, h2]; exact hd)))]
        have hd' : ((d : Int) != 0) = true := by rw [bne_iff_ne]; omega
        clear ht
        go_wp2
        go_ret2
        exact ⟨rfl, hnx⟩

theorem unbase_yes (s v : ByteArray) (hs : s.size ≤ 1073741824) (hv : unbaseB s = some v) (w : World) :
    Calls Try.prog 14 #[.string s] w fun e w' => e = .returned (.tuple #[.string v, .int .i64 0]) ∧ Below w.heap.size w w' := by
  by_cases h : s.size % 4 = 0
  · exact unbase_four s hs h (some v) hv w
  · rw [unbase_none s (.inr (.inl h))] at hv
    cases hv
theorem unbase_no (s : ByteArray) (hs : s.size ≤ 1073741824) (hv : unbaseB s = none) (w : World) :
    Calls Try.prog 14 #[.string s] w fun e w' => e = .returned (.tuple #[.string ⟨#[]⟩, .int .i64 3]) ∧ Below w.heap.size w w' := by
  by_cases h : s.size % 4 = 0
  · exact unbase_four s hs h none hv w
  · exact unbase_rem s hs h w
end Go.Proofs.Yteoiijiiccecfaa.base
