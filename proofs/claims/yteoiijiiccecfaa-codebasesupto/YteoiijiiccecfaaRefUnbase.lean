/-
  THE WALK OF the document's own Unbase: it returns what the plain function says.
-/
import Derived.Test.YteoiijiiccecfaaRefBase
import Derived.Lib.Bytealg
namespace Go.Proofs.Yteoiijiiccecfaa.base
open Go.RowKit

theorem index_any (s : ByteArray) (c : Int) (w : World) :
    Calls Try.prog 26 #[.string s, .int .u8 c] w fun e w' => e = .returned (.int .i64 (Lib.indexByte s.data.toList c.toNat.toUInt8)) ∧ w' = w := by
  go_enter Try.func26, Try.ntmps26
  go_wp2
  rw [run_callFunc_extern Try.func28 (by kernel_rfl) (by kernel_rfl) (by kernel_rfl) (e := Extern.BytealgIndexByte.indexByte) (by kernel_rfl), Lib.run_indexByteString]
  simp only [Result.andThen]
  rw [Oper.upon_value]
  go_wp2
  go_ret
  exact ⟨rfl, rfl⟩
/-- The place of the first c. -/
def place : List UInt8 → UInt8 → Nat → Int
  | [], _, _ => -1
  | b :: l, c, n => if b == c then (n : Int) else place l c (n + 1)
theorem place_eq (l : List UInt8) (c : UInt8) (n : Nat) : place l c n = if Lib.indexByte l c = -1 then -1 else Lib.indexByte l c + n := by
  induction l generalizing n with
  | nil => simp [place, Lib.indexByte]
  | cons b l ih =>
    have hg := Lib.indexByte_ge l c
    rw [place, Lib.indexByte, ih]
    by_cases h : (b == c) = true
    · simp [h]
    · simp only [h, Bool.false_eq_true, if_false, beq_iff_eq]
      by_cases h2 : Lib.indexByte l c = -1
      · simp [h2]
      · simp only [h2, if_false]
        rw [if_neg (by omega)]
        omega
theorem tab_place : ∀ n : Nat, n < 256 → place baseTab n.toUInt8 0 = if bok n then bval n else -1 := by decide +kernel
theorem tab_index (n : Nat) (h : n < 256) : Lib.indexByte baseTab n.toUInt8 = if bok n then bval n else -1 := by
  have h1 := tab_place n h
  rw [place_eq] at h1
  rw [← h1]
  split
  · assumption
  · simp
theorem Index_any (c : Int) (h0 : 0 ≤ c) (h1 : c ≤ 255) (w : World) :
    Calls Try.prog 23 #[.string ⟨baseTab.toArray⟩, .int .u8 c] w fun e w' => e = .returned (.int .i64 (if bok c then bval c else -1)) ∧ w' = w := by
  have h := tab_index c.toNat (by omega)
  rw [Int.toNat_of_nonneg h0] at h
  have e : (⟨baseTab.toArray⟩ : ByteArray).data.toList = baseTab := rfl
  rw [← h, ← e]
  generalize (⟨baseTab.toArray⟩ : ByteArray) = tb
  go_enter Try.func23, Try.ntmps23
  go_wp2_with (go_at_call 26; refine (index_any _ _ _).mono ?_; rintro e w' ⟨rfl, hw⟩; rw [hw]; clear hw w')
  go_ret
  exact ⟨rfl, rfl⟩

/-- One pad less. -/
def trim1 (s : ByteArray) : ByteArray := if 1 ≤ s.size ∧ PlainAid.bt s (s.size - 1) = 61 then s.extract 0 (s.size - 1) else s
theorem last_one (s : ByteArray) (h : 1 ≤ s.size) : s.extract (s.size - 1) s.size = ⟨#[s[s.size - 1]'(by omega)]⟩ := by
  apply ByteArray.ext
  apply Array.ext'
  rw [ByteArray.data_extract, Array.toList_extract, List.extract, List.drop_eq_getElem_cons (by simp; omega)]
  rw [List.drop_of_length_le (by simp; omega)]
  rw [show s.size - (s.size - 1) = 1 from by omega]
  rfl
theorem bt_extract (s : ByteArray) (n k : Nat) (hn : n ≤ s.size) (hk : k < n) : PlainAid.bt (s.extract 0 n) k = PlainAid.bt s k := by
  have hz : (s.extract 0 n).size = n := by rw [ByteArray.size_extract]; omega
  rw [bt_get _ k (by omega), bt_get s k (by omega)]
  have e : (s.extract 0 n).data.toList = s.data.toList.take n := by
    rw [ByteArray.data_extract, Array.toList_extract, List.extract]; simp
  simp only [e, List.getElem_take]
theorem extract_two (s : ByteArray) (n m : Nat) (hm : m ≤ n) : (s.extract 0 n).extract 0 m = s.extract 0 m := by
  apply ByteArray.ext
  apply Array.ext'
  simp only [ByteArray.data_extract, Array.toList_extract, List.extract, List.drop_zero, Nat.sub_zero]
  rw [List.take_take, Nat.min_eq_left hm]
theorem extract_all (s : ByteArray) : s.extract 0 s.size = s := by
  apply ByteArray.ext
  apply Array.ext'
  simp only [ByteArray.data_extract, Array.toList_extract, List.extract, List.drop_zero, Nat.sub_zero]
  exact List.take_of_length_le (by simp)
theorem trim_two (s : ByteArray) : trim1 (trim1 s) = bare s := by
  unfold bare padN
  by_cases h1 : 1 ≤ s.size ∧ PlainAid.bt s (s.size - 1) = 61
  · have e : trim1 s = s.extract 0 (s.size - 1) := by unfold trim1; rw [if_pos h1]
    have hz : (s.extract 0 (s.size - 1)).size = s.size - 1 := by rw [ByteArray.size_extract]; omega
    rw [e, if_pos h1]
    unfold trim1
    rw [hz]
    by_cases h2 : 2 ≤ s.size ∧ PlainAid.bt s (s.size - 2) = 61
    · rw [if_pos h2, if_pos ⟨by omega, by rw [bt_extract s _ _ (by omega) (by omega), show s.size - 1 - 1 = s.size - 2 from by omega]; exact h2.2⟩, extract_two s _ _ (by omega)]
      rfl
    · rw [if_neg h2, if_neg]
      rintro ⟨h3, h4⟩
      rw [bt_extract s _ _ (by omega) (by omega), show s.size - 1 - 1 = s.size - 2 from by omega] at h4
      exact h2 ⟨by omega, h4⟩
  · have e : trim1 s = s := by unfold trim1; rw [if_neg h1]
    rw [e, e, if_neg h1, Nat.sub_zero, extract_all]

set_option maxHeartbeats 400000 in
theorem has_any (s : ByteArray) (hs : s.size ≤ 1073741824) (w : World) :
    Calls Try.prog 27 #[.string s, .string ⟨#[61]⟩] w fun e w' => e = .returned (.bool (decide (1 ≤ s.size ∧ PlainAid.bt s (s.size - 1) = 61))) ∧ w' = w := by
  have e1 : (⟨#[61]⟩ : ByteArray).size = 1 := rfl
  by_cases h0 : s.size = 0
  · rw [decide_eq_false (by omega)]
    have p0 : (s.size : Int) < 1 := by omega
    clear h0
    go_enter Try.func27, Try.ntmps27
    go_wp2
    go_ret
    exact ⟨rfl, rfl⟩
  · have p0 : (1 : Int) ≤ (s.size : Int) := by omega
    have hsl : ∀ u : World, (Instr.slice 9 (.string s) (some (.int .i64 ((s.size : Int) - 1))) none none).run Try.prog u = .ok (.string ⟨#[s[s.size - 1]'(by omega)]⟩) u := fun u => by
      have h := run_slice_string_from_if (P := Try.prog) u 9 s .i64 ((s.size : Int) - 1) Try.underlying9
      rw [if_pos ⟨by omega, by omega⟩, show ((s.size : Int) - 1).toNat = s.size - 1 from by omega, last_one s (by omega)] at h
      exact h
    have hg := PlainAid.get_bt s (s.size - 1) (by omega)
    generalize s[s.size - 1]'(by omega) = c at *
    by_cases hc : c = 61
    · subst hc
      rw [decide_eq_true ⟨by omega, by rw [← hg]; rfl⟩]
      clear hg h0
      go_enter Try.func27, Try.ntmps27
      go_wp2
      go_ret
      exact ⟨rfl, rfl⟩
    · rw [decide_eq_false (fun h => hc (by have h2 := h.2; rw [← hg] at h2; apply UInt8.toNat_inj.1; have : (61 : UInt8).toNat = 61 := rfl; omega))]
      clear hg h0
      have hc' : (c == 61) = false := by simp [hc]
      go_enter Try.func27, Try.ntmps27
      go_wp2
      go_ret
      exact ⟨rfl, rfl⟩

theorem trim_any (s : ByteArray) (hs : s.size ≤ 1073741824) (w : World) :
    Calls Try.prog 25 #[.string s, .string ⟨#[61]⟩] w fun e w' => e = .returned (.string (trim1 s)) ∧ w' = w := by
  have e1 : (⟨#[61]⟩ : ByteArray).size = 1 := rfl
  by_cases hc : 1 ≤ s.size ∧ PlainAid.bt s (s.size - 1) = 61
  · have ht : trim1 s = s.extract 0 (s.size - 1) := by unfold trim1; rw [if_pos hc]
    rw [ht]
    have hd : decide (1 ≤ s.size ∧ PlainAid.bt s (s.size - 1) = 61) = true := decide_eq_true hc
    have HD : Hid (decide (1 ≤ s.size ∧ PlainAid.bt s (s.size - 1) = 61) = true) := hd
    have p0 : (1 : Int) ≤ (s.size : Int) := by omega
    have hsl : ∀ u : World, (Instr.slice 9 (.string s) none (some (.int .i64 ((s.size : Int) - 1))) none).run Try.prog u = .ok (.string (s.extract 0 (s.size - 1))) u := fun u => by
      have h := run_slice_string_to_if (P := Try.prog) u 9 s .i64 ((s.size : Int) - 1) Try.underlying9
      rw [if_pos ⟨by omega, by omega⟩, show ((s.size : Int) - 1).toNat = s.size - 1 from by omega] at h
      exact h
    clear hd hc ht
    go_enter Try.func25, Try.ntmps25
    go_wp2_with fail
    refine (has_any s hs _).mono ?_
    rintro e w' ⟨rfl, hw⟩
    rw [hw, HD.out]
    go_wp2
    go_ret
    exact ⟨rfl, rfl⟩
  · have ht : trim1 s = s := by unfold trim1; rw [if_neg hc]
    rw [ht]
    have HD : Hid (decide (1 ≤ s.size ∧ PlainAid.bt s (s.size - 1) = 61) = false) := decide_eq_false hc
    clear hc ht
    go_enter Try.func25, Try.ntmps25
    go_wp2_with fail
    refine (has_any s hs _).mono ?_
    rintro e w' ⟨rfl, hw⟩
    rw [hw, HD.out]
    go_wp2
    go_ret
    exact ⟨rfl, rfl⟩
theorem Trim_any (s : ByteArray) (hs : s.size ≤ 1073741824) (w : World) :
    Calls Try.prog 22 #[.string s, .string ⟨#[61]⟩] w fun e w' => e = .returned (.string (trim1 s)) ∧ w' = w := by
  go_enter Try.func22, Try.ntmps22
  go_wp2_with fail
  refine (trim_any s hs _).mono ?_
  rintro e w' ⟨rfl, hw⟩
  rw [hw]
  go_wp2
  go_ret
  exact ⟨rfl, rfl⟩
theorem trim1_size (s : ByteArray) : (trim1 s).size ≤ s.size := by
  unfold trim1
  split
  · rw [ByteArray.size_extract]; omega
  · exact Nat.le_refl _

set_option maxRecDepth 100000 in
set_option maxHeartbeats 1600000 in
theorem refUnbase_any (s : ByteArray) (hs : s.size ≤ 134217728) (R : Option ByteArray) (hR : unbaseB s = R) (w : World) :
    Calls Try.prog 15 #[.string s] w fun e w' => e = .returned (.tuple #[.string (R.getD ⟨#[]⟩), .int .i64 (if R.isSome then 0 else 3)]) ∧ Below w.heap.size w w' := by
  have HR : Hid (unbaseB s = R) := hR
  clear hR
  have h2 := trim_two s
  have t1 := trim1_size s
  have HU : Hid (bare s = trim1 (trim1 s)) := h2.symm
  clear h2
  have t2 := trim1_size (trim1 s)
  go_enter Try.func15, Try.ntmps15
  go_wp2_with fail
  refine (Trim_any s (by omega) _).mono ?_
  rintro e w1 ⟨rfl, hw⟩
  rw [hw]
  clear hw w1
  go_wp2_with fail
  refine (Trim_any (trim1 s) (by omega) _).mono ?_
  rintro e w1 ⟨rfl, hw⟩
  rw [hw]
  clear hw w1
  generalize trim1 (trim1 s) = u at *
  have hcv := fun v : World => run_bytes_of_string (P := Try.prog) v 9 31 5 u Try.underlying9 Try.underlying31 Try.underlying5
  go_wp2
  have hcell : ∀ (cp k : Nat) (h : k < u.size), ((w.alloc (.cells (bytesRow u cp) 5 ((bytesRow u cp).size, (bytesRow u cp).size + 1))).drew).cell? ⟨w.heap.size, k, none⟩ = some (.int .u8 (PlainAid.bt u k)) := fun cp k h => by
    have h1 := bytesRow_at u cp k h
    rw [show ((w.alloc (.cells (bytesRow u cp) 5 ((bytesRow u cp).size, (bytesRow u cp).size + 1))).drew).cell? ⟨w.heap.size, k, none⟩ = (w.alloc (.cells (bytesRow u cp) 5 ((bytesRow u cp).size, (bytesRow u cp).size + 1))).cell? ⟨w.heap.size, k, none⟩ from rfl, World.cell?_alloc_mark, h1, ← PlainAid.get_bt u k h]
    rfl
  replace hcell := hcell (grownCap w u.size 0 5)
  have hWb : Below w.heap.size w ((w.alloc (.cells (bytesRow u (grownCap w u.size 0 5)) 5 ((bytesRow u (grownCap w u.size 0 5)).size, (bytesRow u (grownCap w u.size 0 5)).size + 1))).drew) := ((Below.refl _ _).alloc (Nat.le_refl _) _).drew
  have hWz : ((w.alloc (.cells (bytesRow u (grownCap w u.size 0 5)) 5 ((bytesRow u (grownCap w u.size 0 5)).size, (bytesRow u (grownCap w u.size 0 5)).size + 1))).drew).heap.size = w.heap.size + 1 := by simp
  clear hcv
  generalize (w.alloc (.cells (bytesRow u (grownCap w u.size 0 5)) 5 ((bytesRow u (grownCap w u.size 0 5)).size, (bytesRow u (grownCap w u.size 0 5)).size + 1))).drew = W at *
  generalize grownCap w u.size 0 5 = cp at *
  have HWZ : Hid (W.heap.size = w.heap.size + 1) := hWz
  clear hWz
  go_loopw [4, 5, 6, 15] (fun v hh cc i wr => ∃ (k d c : Nat) (o : List UInt8), k ≤ u.size ∧ i = .int .i64 k ∧ hh = .int .i64 d ∧ cc = .int .i64 c ∧ okB (u.data.toList.take k) = true ∧ foldB (u.data.toList.take k) = (o, d, c) ∧ v = .string ⟨o.toArray⟩ ∧ Below W.heap.size W wr)
    (fun _ _ _ i _ => u.size - (intOf i).toNat)
  case atStart =>
    exact ⟨0, 0, 0, [], Nat.zero_le _, rfl, rfl, rfl, rfl, rfl, rfl, Below.refl _ _⟩
  case round =>
    obtain ⟨k, d, c, o, hk, rfl, rfl, rfl, hok, hf, rfl, hnx⟩ := hrel
    have hinv := foldB_inv (u.data.toList.take k)
    have hol := foldB_len (u.data.toList.take k)
    rw [hf] at hinv hol
    rw [List.length_take] at hol
    have hol' : o.length ≤ 134217728 := by have : (o, d, c).1.length = o.length := rfl; omega
    clear hol
    have so : (⟨o.toArray⟩ : ByteArray).size = o.length := List.size_toArray
    have HK : Hid (okB (u.data.toList.take k) = true) := hok
    have HF : Hid (foldB (u.data.toList.take k) = (o, d, c)) := hf
    clear hok hf
    have hfin : Below w.heap.size w wr := hWb.trans (hnx.mono (by have := HWZ.out; omega))
    by_cases hlt : k < u.size
    · have hce : wr.cell? ⟨w.heap.size, k, none⟩ = some (.int .u8 (PlainAid.bt u k)) := (hnx.cell (by show w.heap.size < W.heap.size; have := HWZ.out; omega)).trans (hcell k hlt)
      clear hcell
      have b0 := PlainAid.bt_nonneg u k
      have b1 := PlainAid.bt_le u k
      have hv := bval_bd (PlainAid.bt u k)
      obtain ⟨v0, v1⟩ := hv
      obtain ⟨V, hV⟩ := Int.eq_ofNat_of_zero_le v0
      have v2 : V ≤ 63 := by omega
      by_cases hc : bok (PlainAid.bt u k) = true
      · have HT : Hid (foldB (u.data.toList.take (k + 1)) = stepB (o, d, c) V) := by rw [← HF.out, foldB_take u k hlt, hV]; rfl
        have HO : Hid (okB (u.data.toList.take (k + 1)) = true) := okB_take u k hlt HK.out hc
        have hix : (if bok (PlainAid.bt u k) = true then bval (PlainAid.bt u k) else -1) = (V : Int) := by rw [if_pos hc, hV]
        clear hc
        rcases hinv with ⟨e1, e2⟩ | ⟨e1, e2⟩ | ⟨e1, e2⟩ | ⟨e1, e2⟩
        · simp only at e1 e2
          subst e1
          have d1 : d < 1 := by omega
          clear e2
          go_wp2_with (go_at_call 23; refine (Index_any _ (by omega) (by omega) _).mono ?_; rintro e w' ⟨rfl, hw⟩; rw [hw, hix]; clear hw w')
          go_roundw
          case rel => exact ⟨k + 1, d * 64 + V, 6, o, by omega, by go_num, by go_num, rfl, HO.out, by rw [HT.out]; simp [stepB], rfl, hnx⟩
          case measure => simp [intOf]; omega
        · simp only at e1 e2
          subst e1
          have y0 : (0 : Int) ≤ (64 * (d : Int) + (V : Int)) / 16 := by omega
          have y1 : (64 * (d : Int) + (V : Int)) / 16 ≤ 255 := by omega
          have hby : ((64 * (d : Int) + (V : Int)) / 16).toNat = (d * 64 + V) / 16 := by omega
          have HBS : Hid ((⟨o.toArray⟩ ++ ⟨#[UInt8.ofNat ((d * 64 + V) / 16)]⟩ : ByteArray) = ⟨(o ++ [UInt8.ofNat ((d * 64 + V) / 16)]).toArray⟩) := bytes_snoc o _
          have eX : ∀ c, (⟨#[c]⟩ : ByteArray).size = 1 := fun c => rfl
          go_wp2_with (first | (go_at_call 23; refine (Index_any _ (by omega) (by omega) _).mono ?_; rintro e w' ⟨rfl, hw⟩; rw [hw, hix]; clear hw w') | (go_at_call 19; refine (chr_any _ (by omega) (by omega) _).mono ?_; rintro e w5 ⟨rfl, hb5⟩; rw [hby]))
          go_roundw
          case rel => exact ⟨k + 1, (d * 64 + V) % 16, 4, o ++ [UInt8.ofNat ((d * 64 + V) / 16)], by omega, by go_num, by go_num, rfl, HO.out, by rw [HT.out]; simp [stepB], by rw [← HBS.out] <;> simp, hnx.trans (hb5.mono hnx.size)⟩
          case measure => simp [intOf]; omega
        · simp only at e1 e2
          subst e1
          have y0 : (0 : Int) ≤ (64 * (d : Int) + (V : Int)) / 4 := by omega
          have y1 : (64 * (d : Int) + (V : Int)) / 4 ≤ 255 := by omega
          have hby : ((64 * (d : Int) + (V : Int)) / 4).toNat = (d * 64 + V) / 4 := by omega
          have HBS : Hid ((⟨o.toArray⟩ ++ ⟨#[UInt8.ofNat ((d * 64 + V) / 4)]⟩ : ByteArray) = ⟨(o ++ [UInt8.ofNat ((d * 64 + V) / 4)]).toArray⟩) := bytes_snoc o _
          have eX : ∀ c, (⟨#[c]⟩ : ByteArray).size = 1 := fun c => rfl
          go_wp2_with (first | (go_at_call 23; refine (Index_any _ (by omega) (by omega) _).mono ?_; rintro e w' ⟨rfl, hw⟩; rw [hw, hix]; clear hw w') | (go_at_call 19; refine (chr_any _ (by omega) (by omega) _).mono ?_; rintro e w5 ⟨rfl, hb5⟩; rw [hby]))
          go_roundw
          case rel => exact ⟨k + 1, (d * 64 + V) % 4, 2, o ++ [UInt8.ofNat ((d * 64 + V) / 4)], by omega, by go_num, by go_num, rfl, HO.out, by rw [HT.out]; simp [stepB], by rw [← HBS.out] <;> simp, hnx.trans (hb5.mono hnx.size)⟩
          case measure => simp [intOf]; omega
        · simp only at e1 e2
          subst e1
          have y0 : (0 : Int) ≤ (64 * (d : Int) + (V : Int)) := by omega
          have y1 : (64 * (d : Int) + (V : Int)) ≤ 255 := by omega
          have hby : ((64 * (d : Int) + (V : Int))).toNat = d * 64 + V := by omega
          have HBS : Hid ((⟨o.toArray⟩ ++ ⟨#[UInt8.ofNat (d * 64 + V)]⟩ : ByteArray) = ⟨(o ++ [UInt8.ofNat (d * 64 + V)]).toArray⟩) := bytes_snoc o _
          have eX : ∀ c, (⟨#[c]⟩ : ByteArray).size = 1 := fun c => rfl
          go_wp2_with (first | (go_at_call 23; refine (Index_any _ (by omega) (by omega) _).mono ?_; rintro e w' ⟨rfl, hw⟩; rw [hw, hix]; clear hw w') | (go_at_call 19; refine (chr_any _ (by omega) (by omega) _).mono ?_; rintro e w5 ⟨rfl, hb5⟩; rw [hby]))
          go_roundw
          case rel => exact ⟨k + 1, (d * 64 + V) % 1, 0, o ++ [UInt8.ofNat (d * 64 + V)], by omega, by go_num, by go_num, rfl, HO.out, by rw [HT.out]; simp [stepB], by rw [← HBS.out] <;> simp, hnx.trans (hb5.mono hnx.size)⟩
          case measure => simp [intOf]; omega
      · have hc' : bok (PlainAid.bt u k) = false := by simpa using hc
        obtain rfl : none = R := by rw [← HR.out, unbase_none s (.inl (by rw [HU.out]; exact okB_not u k hlt hc'))]
        have hix : (if bok (PlainAid.bt u k) = true then bval (PlainAid.bt u k) else -1) = (-1 : Int) := by rw [if_neg hc]
        clear hc hc'
        go_wp2_with (go_at_call 23; refine (Index_any _ (by omega) (by omega) _).mono ?_; rintro e w' ⟨rfl, hw⟩; rw [hw, hix]; clear hw w')
        go_ret2
        exact ⟨rfl, hfin⟩
    · obtain rfl : k = u.size := by omega
      clear hcell
      have ht : u.data.toList.take u.size = u.data.toList := take_all u _ rfl
      have h1 := HK.out
      have h2 := HF.out
      rw [ht] at h1 h2
      have h3 := base_told s (by rw [HU.out]; exact h1)
      rw [HU.out, h2] at h3
      clear ht
      by_cases he : baseB ⟨o.toArray⟩ = s
      · have hh := h3.1 he
        obtain rfl : some (⟨o.toArray⟩ : ByteArray) = R := by
          rw [← HR.out, unbase_some s (by rw [HU.out]; exact h1) hh.1 (by rw [HU.out, h2]; exact hh.2), HU.out, h2]
        have HE : Hid (baseB ⟨o.toArray⟩ = s) := he
        clear h1 h2 h3 hh he
        go_wp2_with fail
        refine (refBase_any _ (by rw [so]; exact hol') _).mono ?_
        rintro e w5 ⟨rfl, hb5⟩
        rw [HE.out]
        go_wp2
        go_ret2
        exact ⟨rfl, hfin.trans (hb5.mono hfin.size)⟩
      · obtain rfl : none = R := by
          rw [← HR.out, unbase_none s (by
            by_cases h4 : s.size % 4 = 0
            · exact .inr (.inr (by rw [HU.out, h2]; exact fun h5 => he (h3.2 ⟨h4, h5⟩)))
            · exact .inr (.inl h4))]
        have hne : ((baseB ⟨o.toArray⟩).toList == s.toList) = false := by
          rw [beq_eq_false_iff_ne, ByteArray.toList_eq, ByteArray.toList_eq]
          exact fun h => he (by rw [← bytes_of (baseB ⟨o.toArray⟩) _ rfl, h, bytes_of s _ rfl])
        clear h1 h2 h3 he
        go_wp2_with fail
        refine (refBase_any _ (by rw [so]; exact hol') _).mono ?_
        rintro e w5 ⟨rfl, hb5⟩
        generalize baseB ⟨o.toArray⟩ = y at *
        go_wp2
        go_ret2
        exact ⟨rfl, hfin.trans (hb5.mono hfin.size)⟩

theorem refUnbase_yes (s v : ByteArray) (hs : s.size ≤ 134217728) (hv : unbaseB s = some v) (w : World) :
    Calls Try.prog 15 #[.string s] w fun e w' => e = .returned (.tuple #[.string v, .int .i64 0]) ∧ Below w.heap.size w w' := refUnbase_any s hs (some v) hv w
theorem refUnbase_no (s : ByteArray) (hs : s.size ≤ 134217728) (hv : unbaseB s = none) (w : World) :
    Calls Try.prog 15 #[.string s] w fun e w' => e = .returned (.tuple #[.string ⟨#[]⟩, .int .i64 3]) ∧ Below w.heap.size w w' := refUnbase_any s hs none hv w
end Go.Proofs.Yteoiijiiccecfaa.base
