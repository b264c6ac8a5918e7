/-
  THE WALKS OF package poly's trimmed, sum and Tag.
-/
import Derived.Test.YtmbckgfpkmnlnabDoorBundle6
import Derived.Test.YtmbckgfpkmnlnabDoorPolyTimes
import Derived.Test.YtmbckgfpkmnlnabDoorPolyRead
namespace Go.Proofs.YtmbckgfpkmnlnabDoor.pol
open Go.RowKit
open Go.Proofs.YtmbckgfpkmnlnabDoor.u64
open Go.Proofs.YtmbckgfpkmnlnabDoor.soft
open Go.Proofs.YtmbckgfpkmnlnabDoor.ghs (tb tb_lt tb_tx bt_nb dr dr_size tb_dr dr_0 dr_dr mkl mkl_length mkl_get mkl_succ mkl_congr text_ext)

theorem and15 (a : Nat) (h : a < 256) : bits .and .u8 (a : Int) 15 = ((a % 16 : Nat) : Int) := by
  have : ∀ a : Nat, a < 256 → bits .and .u8 (a : Int) 15 = ((a % 16 : Nat) : Int) := by decide +kernel
  exact this a h
theorem and252 (a : Nat) (h : a < 256) : bits .and .u8 (a : Int) 252 = ((a / 4 * 4 : Nat) : Int) := by
  have : ∀ a : Nat, a < 256 → bits .and .u8 (a : Int) 252 = ((a / 4 * 4 : Nat) : Int) := by decide +kernel
  exact this a h
/-- How far the bits are cleared: the bytes below i of the first kind, below k of the second. -/
def cl (s : ByteArray) (i k j : Nat) : Nat := if j % 4 = 3 ∧ j < i then tb s j % 16 else if j % 4 = 0 ∧ j ≠ 0 ∧ j < k then tb s j / 4 * 4 else tb s j
theorem cl_start (s : ByteArray) (h : s.size = 16) : by8 (nb s) = by8 (mkl 16 (cl s 3 4)) := by
  congr 1
  refine ghs.tx_ext (by rw [nb_length, h, mkl_length]) fun j hj => ?_
  rw [nb_length, h] at hj
  rw [mkl_get _ _ _ hj]
  unfold cl
  rw [if_neg (by omega), if_neg (by omega)]
  rfl
theorem cl_three (s : ByteArray) (q : Nat) : (by8 (mkl 16 (cl s (3 + 4 * q) 4))).set (3 + 4 * q) (.int .u8 ((tb s (3 + 4 * q) % 16 : Nat) : Int)) = by8 (mkl 16 (cl s (3 + 4 * (q + 1)) 4)) := by
  rw [by8_set]
  congr 1
  refine ghs.tx_ext (by rw [List.length_set, mkl_length, mkl_length]) fun j hj => ?_
  rw [List.length_set, mkl_length] at hj
  rw [ghs.getD_set _ _ _ _ (by rw [mkl_length]; exact hj), mkl_get _ _ _ hj, mkl_get _ _ _ hj]
  by_cases c : 3 + 4 * q = j
  · rw [if_pos c, ← c]
    unfold cl
    rw [if_pos (by omega)]
  · rw [if_neg c]
    unfold cl
    by_cases d : j % 4 = 3 ∧ j < 3 + 4 * q
    · rw [if_pos d, if_pos (by omega)]
    · rw [if_neg d, if_neg (by omega : ¬ (j % 4 = 3 ∧ j < 3 + 4 * (q + 1)))]
theorem cl_four (s : ByteArray) (q : Nat) (h : q < 3) : (by8 (mkl 16 (cl s 19 (4 + 4 * q)))).set (4 + 4 * q) (.int .u8 ((tb s (4 + 4 * q) / 4 * 4 : Nat) : Int)) = by8 (mkl 16 (cl s 19 (4 + 4 * (q + 1)))) := by
  rw [by8_set]
  congr 1
  refine ghs.tx_ext (by rw [List.length_set, mkl_length, mkl_length]) fun j hj => ?_
  rw [List.length_set, mkl_length] at hj
  rw [ghs.getD_set _ _ _ _ (by rw [mkl_length]; exact hj), mkl_get _ _ _ hj, mkl_get _ _ _ hj]
  by_cases c : 4 + 4 * q = j
  · rw [if_pos c, ← c]
    unfold cl
    rw [if_neg (by omega), if_pos (by omega)]
  · rw [if_neg c]
    unfold cl
    by_cases d : j % 4 = 3 ∧ j < 19
    · rw [if_pos d, if_pos d]
    · rw [if_neg d, if_neg d]
      by_cases e : j % 4 = 0 ∧ j ≠ 0 ∧ j < 4 + 4 * q
      · rw [if_pos e, if_pos (by omega)]
      · rw [if_neg e, if_neg (by omega : ¬ (j % 4 = 0 ∧ j ≠ 0 ∧ j < 4 + 4 * (q + 1)))]
theorem cl_end (s : ByteArray) : mkl 16 (cl s 19 16) = mkl 16 fun j => tr j (tb s j) :=
  mkl_congr fun j hj => by
    unfold cl tr
    by_cases d : j % 4 = 3
    · rw [if_pos ⟨d, by omega⟩, if_pos d]
    · rw [if_neg (by omega), if_neg d]
      by_cases e : j % 4 = 0 ∧ j ≠ 0
      · rw [if_pos ⟨e.1, e.2, hj⟩, if_pos e]
      · rw [if_neg (by omega), if_neg e]

set_option maxRecDepth 100000 in
set_option maxHeartbeats 1600000 in
theorem trimmed_any (s : ByteArray) (hs : s.size = 16) (w : World) :
    Calls Tryd.prog 67 #[.string s] w fun e w' => e = .returned (.string (trim s)) ∧ Below w.heap.size w w' := by
  obtain ⟨W, cp, hcv, hRW, hbW⟩ := cv.bytes_row s w
  rw [cl_start s hs] at hRW
  rw [hs] at hcv hRW
  have hWs := hbW.size
  obtain ⟨g, hg⟩ : ∃ g, g = w.heap.size := ⟨_, rfl⟩
  rw [← hg] at hcv hRW
  have HG : Hid (g = w.heap.size) := hg
  clear hg
  go_enter Tryd.func67, Tryd.ntmps67
  go_wp2
  go_loopw [4] (fun v wr => ∃ q : Nat, q ≤ 4 ∧ v = .int .i64 ((3 + 4 * q : Nat) : Int) ∧ Row wr g 1 g 16 cp (by8 (mkl 16 (cl s (3 + 4 * q) 4))) ∧ Below w.heap.size w wr) (fun v _ => 19 - (intOf v).toNat)
  case atStart => exact ⟨0, by omega, rfl, hRW, hbW⟩
  case round =>
    clear hRW hbW hWs hcv
    obtain ⟨q, hq, rfl, hR, hnx⟩ := hrel
    by_cases hlt : q < 4
    · have hst := cl_three s q
      have hj : 3 + 4 * q < (by8 (mkl 16 (cl s (3 + 4 * q) 4))).length := by rw [by8_length, mkl_length]; omega
      have hv : (mkl 16 (cl s (3 + 4 * q) 4)).getD (3 + 4 * q) 0 = tb s (3 + 4 * q) := by
        rw [mkl_get _ _ _ (by omega)]
        unfold cl
        rw [if_neg (by omega), if_neg (by omega)]
      have hg8 := by8_get (mkl 16 (cl s (3 + 4 * q) 4)) (3 + 4 * q) (by rw [mkl_length]; omega)
      rw [hv] at hg8
      have hc := hR.get _ _ hg8
      have hf := (hR.free (3 + 4 * q) (by have := hR.le; omega)).2
      rw [Nat.zero_add] at hf
      have hx := tb_lt s (3 + 4 * q)
      have ha := and15 _ hx
      generalize tb s (3 + 4 * q) = x at *
      obtain ⟨y, hy⟩ : ∃ y, y = x % 16 := ⟨_, rfl⟩
      rw [← hy] at ha hst
      generalize by8 (mkl 16 (cl s (3 + 4 * q) 4)) = Y at *
      have HS : Hid _ := hst
      have hsr := hR.set (3 + 4 * q) (.int .u8 (y : Int)) hj
      obtain ⟨i, hi⟩ : ∃ i, i = 3 + 4 * q := ⟨_, rfl⟩
      rw [← hi] at hc hf hsr HS
      have HI : Hid (i = 3 + 4 * q ∧ q < 4) := ⟨hi, hlt⟩
      have i0 : (0 : Int) ≤ (i : Int) := by omega
      have i1 : (i : Int) < 16 := by omega
      rw [← hi]
      clear hst hj hv hg8 hx hy hi hlt hs
      go_wp2
      go_roundw
      case rel => exact ⟨q + 1, by have := HI.out.2; omega, by rw [show 3 + 4 * (q + 1) = i + 4 from by have := HI.out.1; omega]; go_num, by rw [← HS.out]; exact hsr, hnx.setCell (by rw [HG.out]; exact Nat.le_refl _) _⟩
      case measure => have := HI.out; simp [intOf]; omega
    · obtain rfl : q = 4 := by omega
      rw [show cl s (3 + 4 * 4) 4 = cl s 19 4 from rfl] at hR
      go_wp2
      go_loopw [5] (fun v wr => ∃ q : Nat, q ≤ 3 ∧ v = .int .i64 ((4 + 4 * q : Nat) : Int) ∧ Row wr g 1 g 16 cp (by8 (mkl 16 (cl s 19 (4 + 4 * q)))) ∧ Below w.heap.size w wr) (fun v _ => 16 - (intOf v).toNat)
      case atStart => exact ⟨0, by omega, rfl, hR, hnx⟩
      case round =>
        clear hR hnx
        obtain ⟨q, hq, rfl, hR, hnx⟩ := hrel
        by_cases hlt : q < 3
        · have hst := cl_four s q hlt
          have hj : 4 + 4 * q < (by8 (mkl 16 (cl s 19 (4 + 4 * q)))).length := by rw [by8_length, mkl_length]; omega
          have hv : (mkl 16 (cl s 19 (4 + 4 * q))).getD (4 + 4 * q) 0 = tb s (4 + 4 * q) := by
            rw [mkl_get _ _ _ (by omega)]
            unfold cl
            rw [if_neg (by omega), if_neg (by omega)]
          have hg8 := by8_get (mkl 16 (cl s 19 (4 + 4 * q))) (4 + 4 * q) (by rw [mkl_length]; omega)
          rw [hv] at hg8
          have hc := hR.get _ _ hg8
          have hf := (hR.free (4 + 4 * q) (by have := hR.le; omega)).2
          rw [Nat.zero_add] at hf
          have hx := tb_lt s (4 + 4 * q)
          have ha := and252 _ hx
          generalize tb s (4 + 4 * q) = x at *
          obtain ⟨y, hy⟩ : ∃ y, y = x / 4 * 4 := ⟨_, rfl⟩
          rw [← hy] at ha hst
          generalize by8 (mkl 16 (cl s 19 (4 + 4 * q))) = Y at *
          have HS : Hid _ := hst
          have hsr := hR.set (4 + 4 * q) (.int .u8 (y : Int)) hj
          obtain ⟨i, hi⟩ : ∃ i, i = 4 + 4 * q := ⟨_, rfl⟩
          rw [← hi] at hc hf hsr HS
          have HI : Hid (i = 4 + 4 * q ∧ q < 3) := ⟨hi, hlt⟩
          have i0 : (0 : Int) ≤ (i : Int) := by omega
          have i1 : (i : Int) < 16 := by omega
          rw [← hi]
          clear hst hj hv hg8 hx hy hi hlt hs
          go_wp2
          go_roundw
          case rel => exact ⟨q + 1, by have := HI.out.2; omega, by rw [show 4 + 4 * (q + 1) = i + 4 from by have := HI.out.1; omega]; go_num, by rw [← HS.out]; exact hsr, hnx.setCell (by rw [HG.out]; exact Nat.le_refl _) _⟩
          case measure => have := HI.out; simp [intOf]; omega
        · obtain rfl : q = 3 := by omega
          have hcv := cv.conv_row hR (by
            rw [show cl s 19 (4 + 4 * 3) = cl s 19 16 from rfl, cl_end]
            exact trim_ok s 16)
          rw [show tx (mkl 16 (cl s 19 (4 + 4 * 3))) = trim s from congrArg tx (cl_end s)] at hcv
          obtain ⟨X, hX⟩ : ∃ X, X = trim s := ⟨_, rfl⟩
          rw [← hX] at hcv
          have HX : Hid (X = trim s) := hX
          clear hX hR
          go_wp2
          go_ret
          exact ⟨by rw [HX.out]; rfl, hnx⟩

/-- A text's size. -/
def szOf : Value → Nat
  | .string t => t.size
  | _ => 0
theorem dg5_le (u : Nat) : ∀ a ∈ dg 67108864 5 u, a ≤ 67108864 := fun a ha => Nat.le_of_lt (dg_lt (by decide) 5 u a ha)
theorem plus_le (u v : Nat) : ∀ a ∈ plusL (dg 67108864 5 u) (dg 67108864 5 v), a ≤ 134217728 := plusL_le (by rw [dg_length, dg_length]) (dg5_le u) (dg5_le v)
/-- What a round makes. -/
def nxt (u x r : Nat) : Nat := mulv (plusL (dg 67108864 5 u) (dg 67108864 5 x)) (dg 67108864 5 r)
theorem nxt_eq {u x r : Nat} (hu : u < 67108864 ^ 5) (hx : x < 67108864 ^ 5) (hr : r < 67108864 ^ 5) : nxt u x r % P = (u + x) * r % P ∧ nxt u x r < 67108864 ^ 5 := by
  have h := mulv_eq (l := plusL (dg 67108864 5 u) (dg 67108864 5 x)) (m := dg 67108864 5 r) (by rw [plusL_length _ _ (by rw [dg_length, dg_length]), dg_length]) (dg_length _ _ _) (plus_le u x) (dg5_le r)
  rw [val_plus _ _ _ (by rw [dg_length, dg_length]), val_dg, val_dg, val_dg, Nat.mod_eq_of_lt hu, Nat.mod_eq_of_lt hx, Nat.mod_eq_of_lt hr] at h
  exact h

set_option maxRecDepth 100000 in
set_option maxHeartbeats 1600000 in
theorem sum_any (r : Nat) (hr : r < 67108864 ^ 5) (s : ByteArray) (w : World) :
    Calls Tryd.prog 68 #[.agg (wu (dg 67108864 5 r)).toArray, .string s] w fun e w' => e = .returned (.agg (wu (dg 67108864 5 (acc r s (nbk s)))).toArray) ∧ Below w.heap.size w w' := by
  have hdr := dg_length 67108864 5 r
  have hR0 : Arr (((w.alloc (.cells (wu (dg 67108864 5 r)).toArray 97)).alloc (.cells (wu z5).toArray 97)).alloc (.cells (wu z5).toArray 97)) w.heap.size 97 (dg 67108864 5 r) := ((Arr.new w 97 _).alloc _).alloc _
  have hZ0 : Arr (((w.alloc (.cells (wu (dg 67108864 5 r)).toArray 97)).alloc (.cells (wu z5).toArray 97)).alloc (.cells (wu z5).toArray 97)) (w.heap.size + 1) 97 z5 := by
    have h := Arr.new (w.alloc (.cells (wu (dg 67108864 5 r)).toArray 97)) 97 z5
    rw [World.size_alloc] at h
    exact h.alloc _
  have hA0 : Arr (((w.alloc (.cells (wu (dg 67108864 5 r)).toArray 97)).alloc (.cells (wu z5).toArray 97)).alloc (.cells (wu z5).toArray 97)) (w.heap.size + 1 + 1) 97 z5 := by
    have h := Arr.new ((w.alloc (.cells (wu (dg 67108864 5 r)).toArray 97)).alloc (.cells (wu z5).toArray 97)) 97 z5
    rw [World.size_alloc, World.size_alloc] at h
    exact h
  have hX0 : Below w.heap.size w (((w.alloc (.cells (wu (dg 67108864 5 r)).toArray 97)).alloc (.cells (wu z5).toArray 97)).alloc (.cells (wu z5).toArray 97)) := (((Below.refl _ _).alloc (Nat.le_refl _) _).alloc (by simp) _).alloc (by simp; omega) _
  obtain ⟨D, hD⟩ : ∃ D, dg 67108864 5 r = D := ⟨_, rfl⟩
  rw [hD] at hdr hR0 hZ0 hA0 hX0 ⊢
  have HD : Hid (dg 67108864 5 r = D) := hD
  clear hD
  go_enter Tryd.func68, Tryd.ntmps68
  go_wp2
  go_loopw [1] (fun tv wr => ∃ (k u : Nat), k ≤ nbk s ∧ tv = .string (dr s (16 * k)) ∧ u < 67108864 ^ 5 ∧ u % P = acc r s k ∧ Arr wr (w.heap.size + 1 + 1) 97 (dg 67108864 5 u) ∧ Arr wr w.heap.size 97 D ∧ Arr wr (w.heap.size + 1) 97 z5 ∧ Below w.heap.size w wr) (fun tv _ => szOf tv)
  case atStart => exact ⟨0, 0, Nat.zero_le _, by rw [Nat.mul_zero, dr_0], by decide, rfl, hA0, hR0, hZ0, hX0⟩
  case round =>
    clear hR0 hZ0 hA0 hX0
    obtain ⟨k, u, hk, rfl, hu, hup, hA, hR, hZ, hnx⟩ := hrel
    have hts := dr_size s (16 * k)
    have hsz := hnx.size
    have hl1 := hA.lt
    have hl2 := hR.lt
    have hl3 := hZ.lt
    have hdu := dg_length 67108864 5 u
    by_cases hlt : 0 < (dr s (16 * k)).size
    · have hdd := dr_dr s (16 * k) 16
      have hx5 : N (piece s k) < 67108864 ^ 5 := by rw [pow5]; have := piece_lt s k; omega
      have hn := nxt_eq hu hx5 hr
      have hstep := step_acc hup hn.1
      have f1 := read_any (piece s k) (piece_size s k)
      have f2 := plus_any (dg 67108864 5 u) (dg 67108864 5 (N (piece s k))) hdu (dg_length _ _ _) (fun a ha => by have := dg5_le u a ha; omega) (fun a ha => by have := dg5_le _ a ha; omega)
      have f3 := times_any (plusL (dg 67108864 5 u) (dg 67108864 5 (N (piece s k)))) (dg 67108864 5 r) (by rw [plusL_length _ _ (by rw [hdu, dg_length]), hdu]) (dg_length _ _ _) (plus_le u _) (dg5_le r)
      rw [HD.out] at f3
      have HN : Hid (mulv (plusL (dg 67108864 5 u) (dg 67108864 5 (N (piece s k)))) D < 67108864 ^ 5 ∧ mulv (plusL (dg 67108864 5 u) (dg 67108864 5 (N (piece s k)))) D % P = acc r s (k + 1) ∧ k + 1 ≤ nbk s) := by
        rw [← HD.out]
        exact ⟨hn.2, hstep, by unfold nbk; omega⟩
      have hdv := dg_length 67108864 5 (mulv (plusL (dg 67108864 5 u) (dg 67108864 5 (N (piece s k)))) D)
      generalize mulv (plusL (dg 67108864 5 u) (dg 67108864 5 (N (piece s k)))) D = v at *
      generalize plusL (dg 67108864 5 u) (dg 67108864 5 (N (piece s k))) = L at *
      generalize dg 67108864 5 (N (piece s k)) = X at *
      obtain ⟨U, hU⟩ : ∃ U, dg 67108864 5 u = U := ⟨_, rfl⟩
      rw [hU] at hA hdu f2
      have hpc : (dr s (16 * k)).extract 0 (min 16 (dr s (16 * k)).size) ++ ⟨#[1]⟩ = piece s k := rfl
      generalize piece s k = PC at *
      have hcs : ((dr s (16 * k)).extract 0 (min 16 (dr s (16 * k)).size)).size ≤ 16 := by rw [ByteArray.size_extract]; omega
      have hnn : min 16 (dr s (16 * k)).size ≤ (dr s (16 * k)).size := Nat.min_le_right _ _
      have s1 := cv.sl_to (dr s (16 * k)) _ hnn
      have HLast : Hid (min 16 (dr s (16 * k)).size = 16 ∨ min 16 (dr s (16 * k)).size = (dr s (16 * k)).size) := by
        show _ ∨ _
        omega
      have hnx2 : dr (dr s (16 * k)) (min 16 (dr s (16 * k)).size) = dr s (16 * (k + 1)) := by
        rw [dr_dr]
        by_cases c : 16 ≤ (dr s (16 * k)).size
        · rw [Nat.min_eq_left c, show 16 * (k + 1) = 16 * k + 16 from by omega]
        · rw [Nat.min_eq_right (by omega)]
          exact ghs.dr_end s _ _ (by omega) (by omega)
      have s2 := cv.sl_from (dr s (16 * k)) _ hnn
      rw [show (dr s (16 * k)).extract (min 16 (dr s (16 * k)).size) (dr s (16 * k)).size = dr s (16 * (k + 1)) from hnx2] at s2
      have hms : Hid ((dr s (16 * (k + 1))).size < (dr s (16 * k)).size) := by
        show _ < _
        rw [dr_size, dr_size] at *
        omega
      obtain ⟨T0, hT0⟩ : ∃ T0, dr s (16 * k) = T0 := ⟨_, rfl⟩
      rw [hT0] at s1 s2 hpc hcs hlt hnn hms
      rw [hT0]
      obtain ⟨T1, hT1⟩ : ∃ T1, dr s (16 * (k + 1)) = T1 := ⟨_, rfl⟩
      rw [hT1] at s2 hms
      have HT1 : Hid (dr s (16 * (k + 1)) = T1) := hT1
      obtain ⟨n, hm⟩ : ∃ n, min 16 T0.size = n := ⟨_, rfl⟩
      rw [hm] at s1 s2 hpc hcs hnn
      obtain ⟨X0, hX0⟩ : ∃ X0, T0.extract 0 n = X0 := ⟨_, rfl⟩
      rw [hX0] at s1 hpc hcs
      have hlt2 : (0 : Int) < (T0.size : Int) := by omega
      have HPC : Hid (n = T0.size → T0 ++ ⟨#[1]⟩ = PC) := by
        show n = T0.size → _
        intro h
        have e : X0 = T0 := by rw [← hX0, h]; exact ByteArray.extract_zero_size
        rw [← e]
        exact hpc
      have hne := Up.some wr
      have F1 : Hid (∀ z : Up wr, Calls Tryd.prog 66 #[.string PC] z.1 fun e w' => e = .returned (.agg (wu X).toArray) ∧ Below z.1.heap.size z.1 w') := fun z => f1 z.1
      have F2 : Hid (∀ z : Up wr, Calls Tryd.prog 69 #[.agg (wu U).toArray, .agg (wu X).toArray] z.1 fun e w' => e = .returned (.agg (wu L).toArray) ∧ Below z.1.heap.size z.1 w') := fun z => f2 z.1
      have F3 : Hid (∀ z : Up wr, Calls Tryd.prog 77 #[.agg (wu L).toArray, .agg (wu D).toArray] z.1 fun e w' => e = .returned (.agg (wu (dg 67108864 5 v)).toArray) ∧ Below z.1.heap.size z.1 w') := fun z => f3 z.1
      have HM : Hid (min 16 T0.size = n) := hm
      clear hm hT0 hT1 hX0 f1 f2 f3 hnx2 hdd hx5 hn hstep hts hr hu hup hk
      have q1 : ∀ y : Up wr, y.1.rangeAt (w.heap.size + 1 + 1) 0 (wu U) := fun y => (hA.below y.2 hl1).range 0 (wu U) (by simp)
      have q2 : ∀ y : Up wr, y.1.rangeAt w.heap.size 0 (wu D) := fun y => (hR.below y.2 hl2).range 0 (wu D) (by simp)
      clear hlt
      go_wp2_with fail
      · obtain ⟨ni, hni⟩ : ∃ ni : Int, ni = (n : Int) := ⟨_, rfl⟩
        rw [← hni] at s1 s2
        obtain rfl : ni = (T0.size : Int) := by have := HM.out; omega
        clear hni hnn
        have hpc2 : T0 ++ ⟨#[1]⟩ = PC := HPC.out (by have := HM.out; omega)
        refine wp_region_tail 9 (by kernel_rfl) (by kernel_rfl) ?_
        simp only [List.take_succ_cons, List.take_zero, List.drop_succ_cons, List.drop_zero]
        repeat (first
          | (refine wpQuiet_load rfl 97 (.tmp 5) rfl (w.heap.size + 1 + 1) 0 rfl (wu U) _ q1 Tryd.underlying97 rfl (by rw [wu_length, hdu]; exact infoNR) ?_; simp only [Act.put, List.setIfInBounds_toArray, List.set_cons_succ, List.set_cons_zero])
          | (refine wpQuiet_load rfl 97 (.tmp 2) rfl w.heap.size 0 rfl (wu D) _ q2 Tryd.underlying97 rfl (by rw [wu_length, hdr]; exact infoNR) ?_; simp only [Act.put, List.setIfInBounds_toArray, List.set_cons_succ, List.set_cons_zero])
          | (go_big_quiet_step (with_reducible (first | exact calls_up (F1.out _) | exact calls_up (F2.out _) | exact calls_up (F3.out _)))))
        refine wpQuiet_nil ?_
        rintro w1 ⟨y1, rfl⟩
        have hA1 := hA.below y1.2 hl1
        have hR1 := hR.below y1.2 hl2
        have hZ1 := hZ.below y1.2 hl3
        have hX1 := hnx.trans (y1.2.mono hsz)
        refine wpList_store_arr rfl 97 (.tmp 5) (.tmp 21) rfl (w.heap.size + 1 + 1) (dg 67108864 5 v) rfl rfl hA1 (by rw [hdv, hdu]) (by rw [hdu]; exact infoNR) ?_
        intro W5 hW5
        go_wp2
        go_roundw
        case rel => exact ⟨k + 1, v, HN.out.2.2, by rw [HT1.out], HN.out.1, HN.out.2.1, hW5.arr, hW5.other _ _ _ (by omega) hR1, hW5.other _ _ _ (by omega) hZ1, hW5.below _ _ (by omega) hX1⟩
        case measure => exact hms
      · obtain ⟨ni, hni⟩ : ∃ ni : Int, ni = (n : Int) := ⟨_, rfl⟩
        rw [← hni] at s1 s2
        obtain rfl : ni = 16 := by have := HM.out; omega
        clear hni hnn
        refine wp_region_tail 9 (by kernel_rfl) (by kernel_rfl) ?_
        simp only [List.take_succ_cons, List.take_zero, List.drop_succ_cons, List.drop_zero]
        repeat (first
          | (refine wpQuiet_load rfl 97 (.tmp 5) rfl (w.heap.size + 1 + 1) 0 rfl (wu U) _ q1 Tryd.underlying97 rfl (by rw [wu_length, hdu]; exact infoNR) ?_; simp only [Act.put, List.setIfInBounds_toArray, List.set_cons_succ, List.set_cons_zero])
          | (refine wpQuiet_load rfl 97 (.tmp 2) rfl w.heap.size 0 rfl (wu D) _ q2 Tryd.underlying97 rfl (by rw [wu_length, hdr]; exact infoNR) ?_; simp only [Act.put, List.setIfInBounds_toArray, List.set_cons_succ, List.set_cons_zero])
          | (go_big_quiet_step (with_reducible (first | exact calls_up (F1.out _) | exact calls_up (F2.out _) | exact calls_up (F3.out _)))))
        refine wpQuiet_nil ?_
        rintro w1 ⟨y1, rfl⟩
        have hA1 := hA.below y1.2 hl1
        have hR1 := hR.below y1.2 hl2
        have hZ1 := hZ.below y1.2 hl3
        have hX1 := hnx.trans (y1.2.mono hsz)
        refine wpList_store_arr rfl 97 (.tmp 5) (.tmp 21) rfl (w.heap.size + 1 + 1) (dg 67108864 5 v) rfl rfl hA1 (by rw [hdv, hdu]) (by rw [hdu]; exact infoNR) ?_
        intro W5 hW5
        go_wp2
        go_roundw
        case rel => exact ⟨k + 1, v, HN.out.2.2, by rw [HT1.out], HN.out.1, HN.out.2.1, hW5.arr, hW5.other _ _ _ (by omega) hR1, hW5.other _ _ _ (by omega) hZ1, hW5.below _ _ (by omega) hX1⟩
        case measure => exact hms
    · have hkn : k = nbk s := by unfold nbk at *; omega
      have hlow := lowered_any u hu
      rw [hup, hkn] at hlow
      have hz0 : ((dr s (16 * k)).size : Int) = 0 := by omega
      generalize dr s (16 * k) = T0 at *
      have hda := dg_length 67108864 5 (acc r s (nbk s))
      obtain ⟨E, hE⟩ : ∃ E, dg 67108864 5 (acc r s (nbk s)) = E := ⟨_, rfl⟩
      rw [hE] at hlow hda
      have HE : Hid (dg 67108864 5 (acc r s (nbk s)) = E) := hE
      obtain ⟨U, hU⟩ : ∃ U, dg 67108864 5 u = U := ⟨_, rfl⟩
      rw [hU] at hA hdu hlow
      clear hE hU hu hup hk hkn hr hts hlt
      go_wp2_with (first | (refine wpList_load_arr rfl 97 (.tmp 5) rfl (w.heap.size + 1 + 1) rfl hA _ Tryd.underlying97 rfl (by rw [hdu]; exact infoNR) ?_) | (go_at_call 78; (with_reducible refine (hlow _).mono ?_); rintro e w5 ⟨rfl, hb5⟩) | (refine wpList_store_arr rfl 97 (.tmp 4) (.tmp 26) rfl (w.heap.size + 1) E rfl rfl (hZ.below hb5 hl3) (by rw [hda]; rfl) infoNR ?_; intro W5 hW5))
      exact bodyPost_ret (results_arr Tryd.results68 _ rfl hW5.arr _ Tryd.underlying97 rfl (by rw [hda]; exact infoNR)) rfl ⟨by rw [HE.out], hW5.below _ _ (by omega) (hnx.trans (hb5.mono hsz))⟩

set_option maxHeartbeats 400000 in
theorem Tag_bad (key s : ByteArray) (hk : ¬ key.size = 32) (w : World) :
    Calls Tryd.prog 57 #[.string key, .string s] w fun e w' => e = .returned (.tuple #[.string ⟨#[]⟩, .int .i64 1]) ∧ Below w.heap.size w w' := by
  have d0 : ((key.size : Int) == 32) = false := by rw [beq_eq_false_iff_ne]; omega
  go_enter Tryd.func57, Tryd.ntmps57
  go_wp2_with fail
  go_ret2
  exact ⟨rfl, Below.refl _ _⟩

/-- What the operations of Tag's first region yield. -/
def tagR (key K1 TR K2 : ByteArray) (RR NN : List Nat) (B : Nat) : Nat → Value → World → Prop
  | 0, v, _ => v = .string key
  | 1, v, _ => v = .string K1
  | 2, v, _ => v = .string TR
  | 3, v, _ => v = .agg (wu RR).toArray
  | 4, v, _ => v = .string key
  | 5, v, _ => v = .string K2
  | 6, v, _ => v = .agg (wu NN).toArray
  | 7, v, W => ∃ b, v = .pointer (some ⟨b, 0, none⟩) ∧ B ≤ b ∧ Arr W b 97 z5
  | 8, v, W => ∃ b, v = .pointer (some ⟨b, 0, none⟩) ∧ B ≤ b ∧ Arr W b 97 z5
  | _, _, _ => True
theorem tagR_stable (key K1 TR K2 : ByteArray) (RR NN : List Nat) (B : Nat) : Stable (tagR key K1 TR K2 RR NN B) := by
  intro i v W W' h hb
  unfold tagR at h ⊢
  split at h <;> first | exact h | (obtain ⟨b, e, hle, hB⟩ := h; exact ⟨b, e, hle, hB.below hb hB.lt⟩)

theorem trim_front (key : ByteArray) : trim (key.extract 0 16) = trim key :=
  trim_congr fun j hj => by rw [tb_cut _ _ _ _ (by omega), Nat.zero_add]

set_option maxRecDepth 100000 in
set_option maxHeartbeats 1600000 in
theorem Tag_good (key s : ByteArray) (hk : key.size = 32) (w : World) :
    Calls Tryd.prog 57 #[.string key, .string s] w fun e w' => e = .returned (.tuple #[.string (tag key s), .int .i64 0]) ∧ Below w.heap.size w w' := by
  have s1 : ∀ u : World, (Instr.slice 9 (.string key) none (some (.int .i64 16)) none).run Tryd.prog u = .ok (.string (key.extract 0 16)) u := cv.sl_to key 16 (by omega)
  have s2 : ∀ u : World, (Instr.slice 9 (.string key) (some (.int .i64 16)) none none).run Tryd.prog u = .ok (.string (key.extract 16 key.size)) u := cv.sl_from key 16 (by omega)
  have f1 := trimmed_any (key.extract 0 16) (by rw [ByteArray.size_extract]; omega)
  rw [trim_front] at f1
  have f2 := read_any (trim key) (by rw [trim_size]; decide)
  have h16 : (key.extract 16 key.size).size = 16 := by rw [ByteArray.size_extract]; omega
  have f3 := read_any (key.extract 16 key.size) (by omega)
  have hr : N (trim key) < 67108864 ^ 5 := by
    have := N_lt (trim key)
    rw [trim_size] at this
    rw [pow5]
    have e : (256 : Nat) ^ 16 = 340282366920938463463374607431768211456 := by decide
    omega
  have f4 := sum_any (N (trim key)) hr s
  have ha := acc_lt (N (trim key)) s (nbk s)
  have hn : N (key.extract 16 key.size) < 67108864 ^ 5 := by
    have := N_lt (key.extract 16 key.size)
    rw [h16] at this
    rw [pow5]
    have e : (256 : Nat) ^ 16 = 340282366920938463463374607431768211456 := by decide
    omega
  have hab : acc (N (trim key)) s (nbk s) < 67108864 ^ 5 := by rw [pow5]; unfold P at ha; omega
  have f5 := plus_any (dg 67108864 5 (acc (N (trim key)) s (nbk s))) (dg 67108864 5 (N (key.extract 16 key.size))) (dg_length _ _ _) (dg_length _ _ _) (fun a ha => by have := dg5_le _ a ha; omega) (fun a ha => by have := dg5_le _ a ha; omega)
  have f6 := text_any (plusL (dg 67108864 5 (acc (N (trim key)) s (nbk s))) (dg 67108864 5 (N (key.extract 16 key.size)))) (by rw [plusL_length _ _ (by rw [dg_length, dg_length]), dg_length]) (fun a ha => by have := plus_le _ _ a ha; omega)
  rw [val_plus _ _ _ (by rw [dg_length, dg_length]), val_dg, val_dg, Nat.mod_eq_of_lt hab, Nat.mod_eq_of_lt hn] at f6
  have HT : Hid (T 16 (acc (N (trim key)) s (nbk s) + N (key.extract 16 key.size)) = tag key s) := rfl
  have hd1 := dg_length 67108864 5 (N (trim key))
  have hd2 := dg_length 67108864 5 (N (key.extract 16 key.size))
  generalize T 16 (acc (N (trim key)) s (nbk s) + N (key.extract 16 key.size)) = TT at *
  generalize plusL (dg 67108864 5 (acc (N (trim key)) s (nbk s))) (dg 67108864 5 (N (key.extract 16 key.size))) = L at *
  generalize dg 67108864 5 (acc (N (trim key)) s (nbk s)) = A at *
  generalize dg 67108864 5 (N (key.extract 16 key.size)) = NN at *
  generalize dg 67108864 5 (N (trim key)) = RR at *
  generalize trim key = TR at *
  generalize key.extract 16 key.size = K2 at *
  generalize key.extract 0 16 = K1 at *
  have HK : Hid (key.size = 32) := hk
  have k1 : (key.size : Int) = 32 := by omega
  clear hr ha hn hab h16 hk
  go_enter Tryd.func57, Tryd.ntmps57
  go_wp2_with fail
  have hSt := tagR_stable key K1 TR K2 RR NN w.heap.size
  refine wp_region_told 9 (by kernel_rfl) (by kernel_rfl) (tagR key K1 TR K2 RR NN w.heap.size) (fun i => i == 7 || i == 8) ?_ ?_
  · intro f W A hin hout hg i o hi ho hpre
    have hF : ∀ j v, (j == 7 || j == 8) = true → tagR key K1 TR K2 RR NN w.heap.size j v W → ∃ b, v = .pointer (some ⟨b, 0, none⟩) ∧ b < W.heap.size := by
      intro j v hj hr
      simp only [Bool.or_eq_true, beq_iff_eq] at hj
      rcases hj with rfl | rfl
      · obtain ⟨b, e, _, hB⟩ := hr; exact ⟨b, e, hB.lt⟩
      · obtain ⟨b, e, _, hB⟩ := hr; exact ⟨b, e, hB.lt⟩
    have hnew : Arr (W.alloc (.cells (wu z5).toArray 97)) W.heap.size 97 z5 := Arr.new W 97 z5
    match i, hi with
    | 0, _ =>
      obtain rfl := Option.some.inj ho
      have e0 : A.eval (.tmp 0) = .string key := hout 0 (by kernel_rfl)
      exact op_value (v := .string key) (W' := W) rfl rfl (by generalize A.eval = ev at *; simp [go_sem, e0]) ⟨_, rfl, hg.value hSt rfl rfl⟩
    | 1, _ =>
      obtain rfl := Option.some.inj ho
      obtain ⟨v0, g0, r0⟩ := hg.get (hpre ⟨0, .data⟩ (by simp) rfl)
      have e11 := hin 0 11 v0 g0 (by kernel_rfl) (by simp)
      obtain rfl : v0 = .string key := r0
      have ec : A.eval (.const (.int .i64 16)) = .int .i64 16 := rfl
      exact op_value (v := .string K1) (W' := W) rfl rfl (by generalize A.eval = ev at *; simp [go_sem, e11, ec, s1]) ⟨_, rfl, hg.value hSt rfl rfl⟩
    | 2, _ =>
      obtain rfl := Option.some.inj ho
      obtain ⟨v1, g1, r1⟩ := hg.get (hpre ⟨1, .data⟩ (by simp) rfl)
      have e12 := hin 1 12 v1 g1 (by kernel_rfl) (by simp)
      obtain rfl : v1 = .string K1 := r1
      refine op_call (g := 67) (args := #[.string K1]) rfl rfl (by have ef : ∀ f, A.eval (.func f) = .func (.func f) #[] #[] := fun _ => rfl; generalize A.eval = ev at *; simp [go_sem, e12, ef]) ?_
      refine (f1 W).mono ?_
      rintro e W' ⟨rfl, hb⟩
      exact ⟨_, rfl, _, rfl, hg.call hSt rfl hb rfl⟩
    | 3, _ =>
      obtain rfl := Option.some.inj ho
      obtain ⟨v2, g2, r2⟩ := hg.get (hpre ⟨2, .data⟩ (by simp) rfl)
      have e13 := hin 2 13 v2 g2 (by kernel_rfl) (by simp)
      obtain rfl : v2 = .string TR := r2
      refine op_call (g := 66) (args := #[.string TR]) rfl rfl (by have ef : ∀ f, A.eval (.func f) = .func (.func f) #[] #[] := fun _ => rfl; generalize A.eval = ev at *; simp [go_sem, e13, ef]) ?_
      refine (f2 W).mono ?_
      rintro e W' ⟨rfl, hb⟩
      exact ⟨_, rfl, _, rfl, hg.call hSt rfl hb rfl⟩
    | 4, _ =>
      obtain rfl := Option.some.inj ho
      have e0 : A.eval (.tmp 0) = .string key := hout 0 (by kernel_rfl)
      exact op_value (v := .string key) (W' := W) rfl rfl (by generalize A.eval = ev at *; simp [go_sem, e0]) ⟨_, rfl, hg.value hSt rfl rfl⟩
    | 5, _ =>
      obtain rfl := Option.some.inj ho
      obtain ⟨v4, g4, r4⟩ := hg.get (hpre ⟨4, .data⟩ (by simp) rfl)
      have e15 := hin 4 15 v4 g4 (by kernel_rfl) (by simp)
      obtain rfl : v4 = .string key := r4
      have ec : A.eval (.const (.int .i64 16)) = .int .i64 16 := rfl
      exact op_value (v := .string K2) (W' := W) rfl rfl (by generalize A.eval = ev at *; simp [go_sem, e15, ec, s2]) ⟨_, rfl, hg.value hSt rfl rfl⟩
    | 6, _ =>
      obtain rfl := Option.some.inj ho
      obtain ⟨v5, g5, r5⟩ := hg.get (hpre ⟨5, .data⟩ (by simp) rfl)
      have e16 := hin 5 16 v5 g5 (by kernel_rfl) (by simp)
      obtain rfl : v5 = .string K2 := r5
      refine op_call (g := 66) (args := #[.string K2]) rfl rfl (by have ef : ∀ f, A.eval (.func f) = .func (.func f) #[] #[] := fun _ => rfl; generalize A.eval = ev at *; simp [go_sem, e16, ef]) ?_
      refine (f3 W).mono ?_
      rintro e W' ⟨rfl, hb⟩
      exact ⟨_, rfl, _, rfl, hg.call hSt rfl hb rfl⟩
    | 7, _ =>
      obtain rfl := Option.some.inj ho
      exact op_value (v := .pointer (some ⟨W.heap.size, 0, none⟩)) (W' := W.alloc (.cells (wu z5).toArray 97)) rfl rfl (by simp [go_sem]; rfl) ⟨_, rfl, hg.alloc hSt hF ⟨_, rfl, hg.below.size, hnew⟩⟩
    | 8, _ =>
      obtain rfl := Option.some.inj ho
      exact op_value (v := .pointer (some ⟨W.heap.size, 0, none⟩)) (W' := W.alloc (.cells (wu z5).toArray 97)) rfl rfl (by simp [go_sem]; rfl) ⟨_, rfl, hg.alloc hSt hF ⟨_, rfl, hg.below.size, hnew⟩⟩
    | (j + 9), h => exact absurd h (by omega)
  · intro f W hall hg
    obtain ⟨v0, g0, r0⟩ := hg.get (hall 0 (by decide))
    obtain ⟨v1, g1, r1⟩ := hg.get (hall 1 (by decide))
    obtain ⟨v2, g2, r2⟩ := hg.get (hall 2 (by decide))
    obtain ⟨v3, g3, r3⟩ := hg.get (hall 3 (by decide))
    obtain ⟨v4, g4, r4⟩ := hg.get (hall 4 (by decide))
    obtain ⟨v5, g5, r5⟩ := hg.get (hall 5 (by decide))
    obtain ⟨v6, g6, r6⟩ := hg.get (hall 6 (by decide))
    obtain ⟨v7, g7, r7⟩ := hg.get (hall 7 (by decide))
    obtain ⟨v8, g8, r8⟩ := hg.get (hall 8 (by decide))
    have hne := hg.apart 7 8 v7 (by decide) rfl rfl g7
    have hbW := hg.below
    obtain ⟨b7, rfl, hle7, hB7⟩ := r7
    obtain ⟨b8, rfl, hle8, hB8⟩ := r8
    have hn78 : b7 ≠ b8 := fun e => hne (by rw [g8, e])
    obtain rfl : v3 = .agg (wu RR).toArray := r3
    obtain rfl : v6 = .agg (wu NN).toArray := r6
    simp only [List.drop_succ_cons, List.drop_zero, List.take_succ_cons, List.take_zero, fr, g0, g1, g2, g3, g4, g5, g6, g7, g8, Act.put, List.setIfInBounds_toArray, List.set_cons_zero, List.set_cons_succ]
    refine wpList_store_arr rfl 97 (.tmp 6) (.tmp 14) rfl b7 RR rfl rfl hB7 (by rw [hd1]; rfl) infoNR ?_
    intro W3 hW3
    refine wpList_store_arr rfl 97 (.tmp 7) (.tmp 17) rfl b8 NN rfl rfl (hW3.other _ _ _ (by omega) hB8) (by rw [hd2]; rfl) infoNR ?_
    intro W4 hW4
    have hR4 := hW4.other _ _ _ hn78 hW3.arr
    have hN4 := hW4.arr
    have hX4 := hW4.below _ _ hle8 (hW3.below _ _ hle7 hbW)
    clear hne g0 g1 g2 g3 g4 g5 g6 g7 g8 r0 r1 r2 r4 r5 hall hg hSt hB7 hB8 hbW hW3 hW4 f1 f2 f3 s1 s2
    have hsz := hX4.size
    have hl7 := hR4.lt
    have hl8 := hN4.lt
    have q1 : ∀ y : Up W4, y.1.rangeAt b7 0 (wu RR) := fun y => (hR4.below y.2 hl7).range 0 (wu RR) (by simp)
    have q2 : ∀ y : Up W4, y.1.rangeAt b8 0 (wu NN) := fun y => (hN4.below y.2 hl8).range 0 (wu NN) (by simp)
    have hne := Up.some W4
    have F4 : Hid (∀ z : Up W4, Calls Tryd.prog 68 #[.agg (wu RR).toArray, .string s] z.1 fun e w' => e = .returned (.agg (wu A).toArray) ∧ Below z.1.heap.size z.1 w') := fun z => f4 z.1
    have F5 : Hid (∀ z : Up W4, Calls Tryd.prog 69 #[.agg (wu A).toArray, .agg (wu NN).toArray] z.1 fun e w' => e = .returned (.agg (wu L).toArray) ∧ Below z.1.heap.size z.1 w') := fun z => f5 z.1
    have F6 : Hid (∀ z : Up W4, Calls Tryd.prog 70 #[.agg (wu L).toArray] z.1 fun e w' => e = .returned (.string TT) ∧ Below z.1.heap.size z.1 w') := fun z => f6 z.1
    clear f4 f5 f6
    go_wp2_with fail
    refine wp_region_tail 6 (by kernel_rfl) (by kernel_rfl) ?_
    simp only [List.take_succ_cons, List.take_zero, List.drop_succ_cons, List.drop_zero]
    repeat (first
      | (refine wpQuiet_load rfl 97 (.tmp 6) rfl b7 0 rfl (wu RR) _ q1 Tryd.underlying97 rfl (by rw [wu_length, hd1]; exact infoNR) ?_; simp only [Act.put, List.setIfInBounds_toArray, List.set_cons_succ, List.set_cons_zero])
      | (refine wpQuiet_load rfl 97 (.tmp 7) rfl b8 0 rfl (wu NN) _ q2 Tryd.underlying97 rfl (by rw [wu_length, hd2]; exact infoNR) ?_; simp only [Act.put, List.setIfInBounds_toArray, List.set_cons_succ, List.set_cons_zero])
      | (go_big_quiet_step (with_reducible (first | exact calls_up (F4.out _) | exact calls_up (F5.out _) | exact calls_up (F6.out _)))))
    refine wpQuiet_nil ?_
    rintro w1 ⟨y1, rfl⟩
    go_wp2_with fail
    go_ret2
    exact ⟨by rw [← HT.out]; rfl, hX4.trans (y1.2.mono hsz)⟩
end Go.Proofs.YtmbckgfpkmnlnabDoor.pol
