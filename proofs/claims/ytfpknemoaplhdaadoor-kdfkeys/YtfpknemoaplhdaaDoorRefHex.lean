/-
  THE WALKS OF the document's own Hex, Unhex: each returns what the plain function says.
-/
import Derived.Test.YtfpknemoaplhdaaDoorHex
import Derived.Deep.QuietTactic
import Derived.BigQuiet
import Derived.WalkSmall
namespace Go.Proofs.YtfpknemoaplhdaaDoor
open Go.RowKit

set_option maxHeartbeats 400000 in
theorem chr_any (n : Int) (h0 : 0 ≤ n) (h1 : n ≤ 255) (w : World) :
    Calls Tryd.prog 35 #[.int .i64 n] w fun e w' => e = .returned (.string ⟨#[UInt8.ofNat n.toNat]⟩) ∧ Below w.heap.size w w' := by
  have hcv : (convert 46 9 (.slice (some ⟨w.heap.size, 0, none⟩) 1 1)).run Tryd.prog (w.alloc (.cells #[.int .u8 n] 5)) = .ok (.string ⟨#[UInt8.ofNat n.toNat]⟩) (w.alloc (.cells #[.int .u8 n] 5)) := by
    have ho := World.ownsRow_lit (base := w.heap.size) (e := 5) (size := 1) w #[.int .u8 n] 1 (Nat.le_refl _) (by unfold maxLen; omega) rfl
    have e : (#[Value.int .u8 n] : Array Value).toList = cellsOf [UInt8.ofNat n.toNat] := by
      have := cells_snoc [] n h0 h1
      simpa [cellsOf] using this.symm
    rw [e] at ho
    exact conv_own ho
  go_enter Tryd.func35, Tryd.ntmps35
  go_wp2
  go_ret
  exact ⟨rfl, (Below.refl _ _).alloc (Nat.le_refl _) _⟩

theorem hex_tail (n : Nat) (h : n < 16) : ∃ T : ByteArray, (⟨#[48, 49, 50, 51, 52, 53, 54, 55, 56, 57, 97, 98, 99, 100, 101, 102]⟩ : ByteArray).extract n 16 = T ∧ (1 : Int) ≤ (T.size : Int) ∧ T.extract 0 1 = ⟨#[hexSign n]⟩ := by
  have key : ∀ n, n < 16 → 1 ≤ ((⟨#[48, 49, 50, 51, 52, 53, 54, 55, 56, 57, 97, 98, 99, 100, 101, 102]⟩ : ByteArray).extract n 16).size ∧ ((⟨#[48, 49, 50, 51, 52, 53, 54, 55, 56, 57, 97, 98, 99, 100, 101, 102]⟩ : ByteArray).extract n 16).extract 0 1 = ⟨#[hexSign n]⟩ := by decide +kernel
  exact ⟨_, rfl, by have := (key n h).1; omega, (key n h).2⟩

/-- Hex of the first k bytes. -/
def hexK (s : ByteArray) (k : Nat) : ByteArray := ⟨(hexL (s.data.toList.take k)).toArray⟩
theorem hexK_all (s : ByteArray) : hexK s s.size = hexB s := by
  unfold hexK hexB
  rw [show s.data.toList.take s.size = s.data.toList from List.take_of_length_le (by simp)]
theorem hexK_size (s : ByteArray) (k : Nat) (h : k ≤ s.size) : (hexK s k).size = 2 * k := by
  show (hexL (s.data.toList.take k)).toArray.size = _
  rw [List.size_toArray, hexL_length, List.length_take, Nat.min_eq_left (by simpa using h)]
theorem hexK_succ (s : ByteArray) (k : Nat) (h : k < s.size) : hexK s k ++ (⟨#[hexSign (PlainAid.bt s k / 16).toNat]⟩ ++ ⟨#[hexSign (PlainAid.bt s k % 16).toNat]⟩) = hexK s (k + 1) := by
  have e : PlainAid.bt s k = (s[k].toNat : Int) := (PlainAid.get_bt s k h).symm
  have e1 : (PlainAid.bt s k / 16).toNat = s[k].toNat / 16 := by omega
  have e2 : (PlainAid.bt s k % 16).toNat = s[k].toNat % 16 := by omega
  unfold hexK
  rw [take_snoc s k h, hexL_append, e1, e2]
  apply ByteArray.ext
  simp [hexL]

set_option maxHeartbeats 400000 in
theorem refHex_any (s : ByteArray) (hs : s.size ≤ 1073741824) (w : World) :
    Calls Tryd.prog 34 #[.string s] w fun e w' => e = .returned (.string (hexB s)) ∧ ∃ n, w' = w.drewN n := by
  go_enter Tryd.func34, Tryd.ntmps34
  go_wp2
  go_loopw [3, 7] (fun v i wr => ∃ k : Nat, k ≤ s.size ∧ i = .int .i64 k ∧ v = .string (hexK s k) ∧ ∃ n, wr = w.drewN n) (fun _ i _ => s.size - (intOf i).toNat)
  case atStart => exact ⟨0, Nat.zero_le _, rfl, rfl, 0, rfl⟩
  case round =>
    obtain ⟨k, hk, rfl, rfl, n, rfl⟩ := hrel
    by_cases hlt : k < s.size
    · have hc1 := PlainAid.bt_le s k
      have hc0 := PlainAid.bt_nonneg s k
      have hb := PlainAid.get_bt s
      have hd0 : 0 ≤ PlainAid.bt s k / 16 := by omega
      have hd1 : PlainAid.bt s k / 16 < 16 := by omega
      have hd2 : 0 ≤ PlainAid.bt s k % 16 := by omega
      have hd3 : PlainAid.bt s k % 16 < 16 := by omega
      have hkz : (k : Int) < (s.size : Int) := by omega
      go_wp2
      have he : IntKind.u8.wrap ((PlainAid.bt s k).tdiv 16) = PlainAid.bt s k / 16 := by
        rw [Int.tdiv_eq_ediv_of_nonneg hc0, IntKind.wrap_u8]; omega
      have hd4 : PlainAid.bt s k / 16 ≤ 16 := by omega
      have hd5 : PlainAid.bt s k % 16 ≤ 16 := by omega
      obtain ⟨T1, r1, z1, x1⟩ := hex_tail (PlainAid.bt s k / 16).toNat (by omega)
      obtain ⟨T2, r2, z2, x2⟩ := hex_tail (PlainAid.bt s k % 16).toNat (by omega)
      have hm : (PlainAid.bt s k).tmod 16 = PlainAid.bt s k % 16 := Int.tmod_eq_emod_of_nonneg hc0
      have hz := hexK_size s k hk
      have Hst : Hid (hexK s k ++ (⟨#[hexSign (PlainAid.bt s k / 16).toNat]⟩ ++ ⟨#[hexSign (PlainAid.bt s k % 16).toNat]⟩) = hexK s (k + 1)) := hexK_succ s k hlt
      generalize hexK s k = o at *
      go_quiet (fail)
      rw [Hst.out]
      go_wp2
      go_roundw
      case rel => exact ⟨k + 1, by omega, by go_num, rfl, n + nq, rfl⟩
      case measure => simp [intOf]; omega
    · obtain rfl : k = s.size := by omega
      rw [hexK_all]
      go_wp2
      go_ret
      exact ⟨rfl, n, rfl⟩

def same (s : ByteArray) (i n : Nat) : Bool := (hexB ⟨#[UInt8.ofNat n]⟩).toList == (s.extract i (i + 2)).toList

theorem bytes_snoc (l : List UInt8) (c : UInt8) : (⟨l.toArray⟩ ++ ⟨#[c]⟩ : ByteArray) = ⟨(l ++ [c]).toArray⟩ := by
  apply ByteArray.ext
  simp
theorem last_t (s : ByteArray) (i j : Nat) (h : ((hexB ⟨#[UInt8.ofNat j]⟩).toList == (s.extract i (i + 2)).toList) = true) : last (same s i) (j + 1) = j := by
  have : same s i j = true := h
  rw [last, this]; rfl
theorem last_f (s : ByteArray) (i j : Nat) (h : ((hexB ⟨#[UInt8.ofNat j]⟩).toList == (s.extract i (i + 2)).toList) = false) : last (same s i) (j + 1) = last (same s i) j := by
  have : same s i j = false := h
  rw [last, this]; rfl
theorem same_iff (s : ByteArray) (k n : Nat) (h : 2 * k + 1 < s.size) (hn : n < 256) : same s (2 * k) n = true ↔ ((hok (PlainAid.bt s (2 * k)) && hok (PlainAid.bt s (2 * k + 1))) = true ∧ (n : Int) = hv (PlainAid.bt s (2 * k)) * 16 + hv (PlainAid.bt s (2 * k + 1))) := by
  rw [← PlainAid.get_bt s (2 * k) (by omega), ← PlainAid.get_bt s (2 * k + 1) (by omega), ← hexL_two _ _ n hn]
  unfold same
  rw [beq_iff_eq, ByteArray.toList_eq, ByteArray.toList_eq]
  have e1 : (s.extract (2 * k) (2 * k + 2)).data.toList = [s[2 * k], s[2 * k + 1]] := by
    rw [ByteArray.data_extract, Array.toList_extract, List.extract]
    have e := take_two s k h
    generalize s[2 * k] = a at *
    generalize s[2 * k + 1] = b at *
    rw [e, List.drop_append, List.drop_of_length_le (by simp; omega)]
    simp [Nat.min_eq_left (show 2 * k ≤ s.size by omega)]
  rw [e1]
  rfl
theorem last_yes (s : ByteArray) (k : Nat) (h : 2 * k + 1 < s.size) (hc : (hok (PlainAid.bt s (2 * k)) && hok (PlainAid.bt s (2 * k + 1))) = true) : last (same s (2 * k)) 256 = hv (PlainAid.bt s (2 * k)) * 16 + hv (PlainAid.bt s (2 * k + 1)) := by
  have ba := hv_bd (PlainAid.bt s (2 * k))
  have bb := hv_bd (PlainAid.bt s (2 * k + 1))
  have e : (((hv (PlainAid.bt s (2 * k)) * 16 + hv (PlainAid.bt s (2 * k + 1))).toNat : Nat) : Int) = hv (PlainAid.bt s (2 * k)) * 16 + hv (PlainAid.bt s (2 * k + 1)) := by omega
  rw [last_one _ (hv (PlainAid.bt s (2 * k)) * 16 + hv (PlainAid.bt s (2 * k + 1))).toNat 256 (by omega) ((same_iff s k _ h (by omega)).2 ⟨hc, e⟩) (fun n hn hp => by have := ((same_iff s k n h hn).1 hp).2; omega), e]
theorem last_no (s : ByteArray) (k : Nat) (h : 2 * k + 1 < s.size) (hc : (hok (PlainAid.bt s (2 * k)) && hok (PlainAid.bt s (2 * k + 1))) = false) : last (same s (2 * k)) 256 = -1 :=
  last_none _ _ fun n hn => by
    rw [Bool.eq_false_iff]
    intro hp
    rw [((same_iff s k n h hn).1 hp).1] at hc
    cases hc

set_option maxRecDepth 100000 in
set_option maxHeartbeats 800000 in
theorem refUnhex_any (s : ByteArray) (hs : s.size ≤ 1073741824) (R : Option (List UInt8)) (hR : unhexL s.data.toList = R) (w : World) :
    Calls Tryd.prog 22 #[.string s] w fun e w' => e = .returned (.tuple #[.string ⟨(R.getD []).toArray⟩, .int .i64 (if R.isSome then 0 else 3)]) ∧ Below w.heap.size w w' := by
  have HR : Hid (unhexL s.data.toList = R) := hR
  clear hR
  go_enter Tryd.func22, Tryd.ntmps22
  go_wp2
  go_loopw [4, 5] (fun v i wr => ∃ (k : Nat) (l : List UInt8), 2 * k ≤ s.size ∧ i = .int .i64 (2 * (k : Int)) ∧ unhexL (s.data.toList.take (2 * k)) = some l ∧ v = .string ⟨l.toArray⟩ ∧ Below w.heap.size w wr)
    (fun _ i _ => s.size - (intOf i).toNat)
  case atStart =>
    exact ⟨0, [], by omega, rfl, rfl, rfl, Below.refl _ _⟩
  case round =>
    obtain ⟨k, l, hk, rfl, hl, rfl, hnx⟩ := hrel
    have Hl : Hid (unhexL (s.data.toList.take (2 * k)) = some l) := hl
    clear hl
    by_cases hlt : 2 * k < s.size
    · by_cases hl2 : 2 * k + 1 < s.size
      · have hd : decide (2 * (k : Int) < (s.size : Int)) = true := by simp; omega
        go_wp2
        go_loopw [6, 14] (fun v i wr => ∃ j : Nat, j ≤ 256 ∧ i = .int .i64 j ∧ v = .int .i64 (last (same s (2 * k)) j) ∧ Below w.heap.size w wr) (fun _ i _ => 256 - (intOf i).toNat)
        case atStart => exact ⟨0, by omega, rfl, rfl, hnx⟩
        case round =>
          obtain ⟨j, hj, rfl, rfl, hnx2⟩ := hrel
          by_cases hj2 : j < 256
          · have q0 : IntKind.i64.wrap (2 * (k : Int) + 1) = 2 * (k : Int) + 1 := IntWalk.i64_in _ ⟨by omega, by omega⟩
            have q4 : IntKind.i64.wrap (2 * (k : Int) + 2) = 2 * (k : Int) + 2 := IntWalk.i64_in _ ⟨by omega, by omega⟩
            have q1 : decide (2 * (k : Int) + 1 < (s.size : Int)) = true := by simp; omega
            have q2 : (0 : Int) ≤ 2 * (k : Int) := by omega
            have q3 : 2 * (k : Int) + 2 ≤ (s.size : Int) := by omega
            have hsl : ∀ u : World, (Instr.slice 9 (.string s) (some (.int .i64 (2 * (k : Int)))) (some (.int .i64 (2 * (k : Int) + 2))) none).run Tryd.prog u = .ok (.string (s.extract (2 * k) (2 * k + 2))) u := fun u => by
              have h := run_slice_string (P := Tryd.prog) u 9 s .i64 .i64 (2 * (k : Int)) (2 * (k : Int) + 2) Tryd.underlying9 (by omega) (by omega) (by omega)
              rw [h, show (2 * (k : Int)).toNat = 2 * k from by omega, show (2 * (k : Int) + 2).toNat = 2 * k + 2 from by omega]
            have e1 : ∀ c, (⟨#[c]⟩ : ByteArray).size ≤ 1073741824 := fun c => by show 1 ≤ _; omega
            go_wp2
            go_region_held3 (fun _ => True) (trivial) (first | (go_at_call 35; refine (chr_any _ (by omega) (by omega) _).mono ?_; rintro e w5 ⟨rfl, hb5⟩) | (go_at_call 34; refine (refHex_any _ (e1 _) _).mono ?_; rintro e w6 ⟨rfl, n6, rfl⟩))
            have hb6 : Below w.heap.size w (w5.drewN n6) := below_drewN (hnx2.drew.trans (hb5.mono (by simp; exact hnx2.size))) n6
            go_wp2
            all_goals
              go_roundw
              case rel => exact ⟨j + 1, by omega, by go_num, by first | rw [last_t s (2 * k) j (by assumption)] | rw [last_f s (2 * k) j (by assumption)], hb6⟩
              case measure => simp [intOf]; omega
          · obtain rfl : j = 256 := by omega
            by_cases hc : (hok (PlainAid.bt s (2 * k)) && hok (PlainAid.bt s (2 * k + 1))) = true
            · have hll := last_yes s k hl2 hc
              have Hu := unhex_ok s k l hl2 Hl.out (Bool.and_eq_true_iff.1 hc).1 (Bool.and_eq_true_iff.1 hc).2
              have HU : Hid (unhexL (s.data.toList.take (2 * (k + 1))) = some (l ++ [UInt8.ofNat (hv (PlainAid.bt s (2 * k)) * 16 + hv (PlainAid.bt s (2 * k + 1))).toNat])) := Hu
              clear Hu hc
              have ba := hv_bd (PlainAid.bt s (2 * k))
              have bb := hv_bd (PlainAid.bt s (2 * k + 1))
              have hm : 0 ≤ hv (PlainAid.bt s (2 * k)) * 16 + hv (PlainAid.bt s (2 * k + 1)) ∧ hv (PlainAid.bt s (2 * k)) * 16 + hv (PlainAid.bt s (2 * k + 1)) ≤ 255 := by omega
              obtain ⟨hm0, hm1⟩ := hm
              have hlz : (⟨l.toArray⟩ : ByteArray).size = k := by
                have e := unhexL_size _ l Hl.out
                rw [List.length_take, Nat.min_eq_left (by simp; omega)] at e
                show l.toArray.size = k
                rw [List.size_toArray]; omega
              have e1 : ∀ c, (⟨#[c]⟩ : ByteArray).size = 1 := fun c => rfl
              rw [hll]
              clear hll ba bb
              generalize hv (PlainAid.bt s (2 * k)) * 16 + hv (PlainAid.bt s (2 * k + 1)) = m at *
              go_wp2_with (go_at_call 35; refine (chr_any _ (by omega) (by omega) _).mono ?_; rintro e w5 ⟨rfl, hb5⟩)
              go_roundw
              case rel => exact ⟨k + 1, _, by omega, by go_num, HU.out, by rw [bytes_snoc], hnx2.trans (hb5.mono hnx2.size)⟩
              case measure => simp [intOf]; omega
            · have hc' : (hok (PlainAid.bt s (2 * k)) && hok (PlainAid.bt s (2 * k + 1))) = false := by simpa using hc
              clear hc
              have hll := last_no s k hl2 hc'
              obtain rfl : none = R := by rw [← HR.out, unhex_bad s k l hl2 Hl.out hc']
              clear hc'
              rw [hll]
              clear hll
              go_wp2
              go_ret2
              exact ⟨rfl, hnx2⟩
      · have hd : decide (2 * (k : Int) < (s.size : Int)) = true := by simp; omega
        go_wp2
        go_loopw [6, 14] (fun v i wr => ∃ j : Nat, j ≤ 256 ∧ i = .int .i64 j ∧ v = .int .i64 (-1) ∧ Below w.heap.size w wr) (fun _ i _ => 256 - (intOf i).toNat)
        case atStart => exact ⟨0, by omega, rfl, rfl, hnx⟩
        case round =>
          obtain ⟨j, hj, rfl, rfl, hnx2⟩ := hrel
          by_cases hj2 : j < 256
          · have q0 : IntKind.i64.wrap (2 * (k : Int) + 1) = 2 * (k : Int) + 1 := IntWalk.i64_in _ ⟨by omega, by omega⟩
            have q1 : decide (2 * (k : Int) + 1 < (s.size : Int)) = false := by simp; omega
            go_wp2
            go_quiet (fail)
            go_wp2
            go_roundw
            case rel => exact ⟨j + 1, by omega, by go_num, rfl, below_drewN hnx2 nq⟩
            case measure => simp [intOf]; omega
          · obtain rfl : j = 256 := by omega
            obtain rfl : none = R := by rw [← HR.out, unhexL_odd _ (by simp; omega)]
            go_wp2
            go_ret2
            exact ⟨rfl, hnx2⟩
    · obtain rfl : some l = R := by rw [← HR.out, ← Hl.out, List.take_of_length_le (by simp; omega)]
      go_wp2
      go_ret2
      exact ⟨rfl, hnx⟩
theorem refUnhex_some (s v : ByteArray) (hs : s.size ≤ 1073741824) (hv : unhexB s = some v) (w : World) :
    Calls Tryd.prog 22 #[.string s] w fun e w' => e = .returned (.tuple #[.string v, .int .i64 0]) ∧ Below w.heap.size w w' := by
  unfold unhexB at hv
  obtain ⟨l, hl, rfl⟩ := Option.map_eq_some_iff.1 hv
  exact refUnhex_any s hs (some l) hl w
theorem refUnhex_none (s : ByteArray) (hs : s.size ≤ 1073741824) (hv : unhexB s = none) (w : World) :
    Calls Tryd.prog 22 #[.string s] w fun e w' => e = .returned (.tuple #[.string ⟨#[]⟩, .int .i64 3]) ∧ Below w.heap.size w w' := by
  unfold unhexB at hv
  exact refUnhex_any s hs none (Option.map_eq_none_iff.1 hv) w
end Go.Proofs.YtfpknemoaplhdaaDoor
