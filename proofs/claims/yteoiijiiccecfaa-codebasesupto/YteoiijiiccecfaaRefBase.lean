/-
  THE WALK OF the document's own Base: it returns what the plain function says.
-/
import Derived.Test.YteoiijiiccecfaaBase
import Derived.Test.YteoiijiiccecfaaRefHex
import Derived.Test.YteoiijiiccecfaaPlainBits
namespace Go.Proofs.Yteoiijiiccecfaa.base
open Go.RowKit

theorem sign_at (n : Nat) (h : n < 64) : (⟨#[65, 66, 67, 68, 69, 70, 71, 72, 73, 74, 75, 76, 77, 78, 79, 80, 81, 82, 83, 84, 85, 86, 87, 88, 89, 90, 97, 98, 99, 100, 101, 102, 103, 104, 105, 106, 107, 108, 109, 110, 111, 112, 113, 114, 115, 116, 117, 118, 119, 120, 121, 122, 48, 49, 50, 51, 52, 53, 54, 55, 56, 57, 43, 47]⟩ : ByteArray).extract n (n + 1) = ⟨#[sgn n]⟩ := by
  have key : ∀ n, n < 64 → (⟨#[65, 66, 67, 68, 69, 70, 71, 72, 73, 74, 75, 76, 77, 78, 79, 80, 81, 82, 83, 84, 85, 86, 87, 88, 89, 90, 97, 98, 99, 100, 101, 102, 103, 104, 105, 106, 107, 108, 109, 110, 111, 112, 113, 114, 115, 116, 117, 118, 119, 120, 121, 122, 48, 49, 50, 51, 52, 53, 54, 55, 56, 57, 43, 47]⟩ : ByteArray).extract n (n + 1) = ⟨#[sgn n]⟩ := by decide +kernel
  exact key n h
/-- The number of bytes in a slot: for a loop's measure. -/
def strLen : Value → Nat | .string s => s.size | _ => 0

set_option maxRecDepth 100000 in
set_option maxHeartbeats 1600000 in
theorem refBase_any (s : ByteArray) (hs : s.size ≤ 134217728) (w : World) :
    Calls Try.prog 17 #[.string s] w fun e w' => e = .returned (.string (baseB s)) ∧ Below w.heap.size w w' := by
  go_enter Try.func17, Try.ntmps17
  go_wp2
  go_loopw [3, 12] (fun v i wr => ∃ k : Nat, k ≤ s.size ∧ i = .int .i64 k ∧ v = .string ⟨(bitsL (s.data.toList.take k)).toArray⟩ ∧ Below w.heap.size w wr) (fun _ i _ => s.size - (intOf i).toNat)
  case atStart => exact ⟨0, Nat.zero_le _, rfl, rfl, Below.refl _ _⟩
  case round =>
    obtain ⟨k, hk, rfl, rfl, hnx⟩ := hrel
    by_cases hlt : k < s.size
    · have hb := PlainAid.get_bt s
      have b0 := PlainAid.bt_nonneg s k
      have b1 := PlainAid.bt_le s k
      have hd : decide ((k : Int) < (s.size : Int)) = true := by simp; omega
      go_wp2
      go_loopw [3, 5] (fun v i wr => ∃ j : Nat, j ≤ 8 ∧ i = .int .i64 (7 - (j : Int)) ∧ v = .string ⟨(bitsL (s.data.toList.take k) ++ bitsOf (PlainAid.bt s k).toNat j).toArray⟩ ∧ Below w.heap.size w wr) (fun _ i _ => (intOf i + 1).toNat)
      case atStart => exact ⟨0, by omega, rfl, by simp [bitsOf], hnx⟩
      case round =>
        obtain ⟨j, hj, rfl, rfl, hnx2⟩ := hrel
        by_cases hj2 : j < 8
        · have hw : ∀ l : List UInt8, (⟨l.toArray⟩ : ByteArray).size = l.length := fun l => List.size_toArray
          have hbz : (bitsL (s.data.toList.take k) ++ bitsOf (PlainAid.bt s k).toNat j).length = 8 * k + j := by
            rw [List.length_append, bitsL_length, bitsOf_length, take_len s k hk]
          have Hs := bitsOf_succ (PlainAid.bt s k).toNat j
          obtain ⟨b, hbb⟩ : ∃ b, (PlainAid.bt s k).toNat / 2 ^ (7 - j) % 2 = b := ⟨_, rfl⟩
          have hb2 : b < 2 := by rw [← hbb]; exact bit_lt _
          have ht : (PlainAid.bt s k / 2 ^ (7 - j)).tmod 2 = (b : Int) := by
            rw [← hbb, Int.tmod_eq_emod_of_nonneg (Int.ediv_nonneg b0 (by exact_mod_cast Nat.zero_le _))]
            rw [Int.natCast_emod, Int.natCast_ediv, Int.toNat_of_nonneg b0]
            simp
          rw [hbb] at Hs
          have HS : Hid (bitsOf (PlainAid.bt s k).toNat (j + 1) = bitsOf (PlainAid.bt s k).toNat j ++ [UInt8.ofNat (48 + b)]) := Hs
          clear Hs hbb
          have hz := hw (bitsL (s.data.toList.take k) ++ bitsOf (PlainAid.bt s k).toNat j)
          rw [hbz] at hz
          have e1 : ∀ c, (⟨#[c]⟩ : ByteArray).size = 1 := fun c => rfl
          have hcv : (48 + (b : Int)).toNat = 48 + b := by omega
          have HB : Hid ((⟨(bitsL (s.data.toList.take k) ++ bitsOf (PlainAid.bt s k).toNat j).toArray⟩ ++ ⟨#[UInt8.ofNat (48 + b)]⟩ : ByteArray) = ⟨(bitsL (s.data.toList.take k) ++ bitsOf (PlainAid.bt s k).toNat (j + 1)).toArray⟩) := by
            show _ = _
            rw [bytes_snoc, HS.out, List.append_assoc]
          clear hw hbz
          generalize (⟨(bitsL (s.data.toList.take k) ++ bitsOf (PlainAid.bt s k).toNat j).toArray⟩ : ByteArray) = o at *
          go_wp2_with fail
          refine (chr_any _ (by omega) (by omega) _).mono ?_
          rintro e w5 ⟨rfl, hb5⟩
          rw [hcv]
          generalize UInt8.ofNat (48 + b) = ch at *
          go_wp2
          go_roundw
          case rel => exact ⟨j + 1, by omega, by go_num, by rw [HB.out], hnx2.trans (hb5.mono hnx2.size)⟩
          case measure => simp [intOf]; omega
        · obtain rfl : j = 8 := by omega
          have hst : bitsL (s.data.toList.take k) ++ bitsOf (PlainAid.bt s k).toNat 8 = bitsL (s.data.toList.take (k + 1)) := by
            rw [take_snoc s k hlt, bitsL_append, ← bt_nat s k hlt]
            simp [bitsL]
          rw [hst]
          clear hst
          go_wp2
          go_roundw
          case rel => exact ⟨k + 1, by omega, by go_num, rfl, hnx2⟩
          case measure => simp [intOf]; omega
    · obtain rfl : k = s.size := by omega
      rw [take_all s _ rfl]
      have h4 : Hid (four (sixL (bitsL s.data.toList)) = baseL s.data.toList) := four_base _
      have hzo := zo_bitsL s.data.toList
      have hbl : (bitsL s.data.toList).length ≤ 1073741824 := by rw [bitsL_length]; simp; omega
      generalize hB : bitsL s.data.toList = b0 at *
      clear hB
      go_wp2
      go_loopw [3, 6] (fun v o wr => ∃ (b q : List UInt8), v = .string ⟨b.toArray⟩ ∧ o = .string ⟨q.toArray⟩ ∧ zo b ∧ b.length + q.length ≤ 1073741824 ∧ q ++ sixL b = sixL b0 ∧ Below w.heap.size w wr) (fun v _ _ => strLen v)
      case atStart => exact ⟨b0, [], rfl, rfl, hzo, by simpa using hbl, rfl, hnx⟩
      case round =>
        obtain ⟨b, q, rfl, rfl, hzb, hbq, hsx, hnx2⟩ := hrel
        have HX : Hid (q ++ sixL b = sixL b0) := hsx
        clear hsx
        by_cases hbe : b = []
        · subst hbe
          have HQ : Hid (q = sixL b0) := by have h := HX.out; rw [sixL, List.append_nil] at h; exact h
          clear HX
          go_wp2
          go_loop [6] (fun v => ∃ j : Nat, j ≤ (4 - q.length % 4) % 4 ∧ v = .string ⟨(q ++ List.replicate j 61).toArray⟩) (fun v => q.length + 4 - strLen v)
          case atStart => exact ⟨0, Nat.zero_le _, by simp⟩
          case round =>
            obtain ⟨j, hj, rfl⟩ := hrel
            have hl2 : (⟨(q ++ List.replicate j 61).toArray⟩ : ByteArray).size = q.length + j := by
              have h := congrArg id (show (q ++ List.replicate j 61).length = q.length + j by simp)
              exact (List.size_toArray).trans h
            have HN : Hid ((⟨(q ++ List.replicate j 61).toArray⟩ ++ ⟨#[61]⟩ : ByteArray) = ⟨(q ++ List.replicate (j + 1) 61).toArray⟩) := by
              show _ = _
              rw [bytes_snoc, List.replicate_succ', List.append_assoc]
            have hq : q.length ≤ 1073741824 := by have : ([] : List UInt8).length = 0 := rfl; omega
            by_cases hlt4 : j < (4 - q.length % 4) % 4
            · have c4 : (0 : Int) < ((q.length + j : Nat) : Int) % 4 := by omega
              have e1 : (⟨#[61]⟩ : ByteArray).size = 1 := rfl
              generalize (⟨(q ++ List.replicate j 61).toArray⟩ : ByteArray) = x at *
              go_wp2
              go_round
              case rel => exact ⟨j + 1, by omega, by rw [HN.out]⟩
              case measure => simp [strLen, hl2]; omega
            · obtain rfl : j = (4 - q.length % 4) % 4 := by omega
              have c4 : ((q.length + (4 - q.length % 4) % 4 : Nat) : Int) % 4 = 0 := by omega
              have HF : Hid ((⟨(q ++ List.replicate ((4 - q.length % 4) % 4) 61).toArray⟩ : ByteArray) = baseB s) := by
                show _ = _
                unfold baseB
                rw [← h4.out, ← HQ.out]
                rfl
              clear HN hj hlt4
              generalize (⟨(q ++ List.replicate ((4 - q.length % 4) % 4) 61).toArray⟩ : ByteArray) = x at *
              generalize (4 - q.length % 4) % 4 = jj at *
              go_wp2
              go_ret
              exact ⟨by rw [HF.out]; rfl, hnx2⟩
        · have hbe' : b.isEmpty = false := by rw [List.isEmpty_eq_false_iff]; exact hbe
          have hb0 : 0 < b.length := List.length_pos_iff.2 hbe
          clear hbe
          go_wp2
          go_loop [3] (fun v => ∃ j : Nat, (j = 0 ∨ b.length + j ≤ 6) ∧ v = .string ⟨(b ++ List.replicate j 48).toArray⟩) (fun v => 6 - strLen v)
          case atStart => exact ⟨0, .inl rfl, by simp⟩
          case round =>
            obtain ⟨j, hj, rfl⟩ := hrel
            have hlen : (b ++ List.replicate j 48).length = b.length + j := by simp
            have hsn : (⟨(b ++ List.replicate j 48).toArray⟩ ++ ⟨#[48]⟩ : ByteArray) = ⟨(b ++ List.replicate (j + 1) 48).toArray⟩ := by
              rw [bytes_snoc, List.replicate_succ', List.append_assoc]
            have HN : Hid ((⟨(b ++ List.replicate j 48).toArray⟩ ++ ⟨#[48]⟩ : ByteArray) = ⟨(b ++ List.replicate (j + 1) 48).toArray⟩) := hsn
            clear hsn
            have hl2 : (⟨(b ++ List.replicate j 48).toArray⟩ : ByteArray).size = b.length + j := by rw [← hlen]; exact List.size_toArray
            clear hlen
            by_cases hlt6 : b.length + j < 6
            · generalize (⟨(b ++ List.replicate j 48).toArray⟩ : ByteArray) = x at *
              have e1 : (⟨#[48]⟩ : ByteArray).size = 1 := rfl
              go_wp2
              go_round
              case rel => exact ⟨j + 1, .inr (by omega), by rw [HN.out]⟩
              case measure => simp [strLen, hl2]; omega
            · clear HN
              have HS : Hid (sixL (b ++ List.replicate j 48) = sixL b) := by
                show _ = _
                rcases Nat.eq_zero_or_pos j with rfl | hp
                · simp
                · rw [sixL_fill b hb0 (by omega), show 6 - b.length = j from by omega]
              have zB : zo (b ++ List.replicate j 48) := by
                intro c hc
                rcases List.mem_append.1 hc with h | h
                · exact hzb c h
                · exact .inl (List.eq_of_mem_replicate h)
              have lB : 6 ≤ (b ++ List.replicate j 48).length := by rw [List.length_append, List.length_replicate]; omega
              have mB : (b ++ List.replicate j 48).length - 6 < b.length := by rw [List.length_append, List.length_replicate]; omega
              clear hlt6 hj hl2
              generalize b ++ List.replicate j 48 = B at *
              have kB := sixL_take B lB
              have HC : Hid (q ++ [sgn (num (B.take 6))] ++ sixL (B.drop 6) = sixL b0) := by
                show _ = _
                rw [← HX.out, ← HS.out, kB, List.append_assoc]
                rfl
              clear kB HS HX
              have zT : zo (B.take 6) := fun c hc => zB c (List.mem_of_mem_take hc)
              have zD : zo (B.drop 6) := fun c hc => zB c (List.mem_of_mem_drop hc)
              have lT : (B.take 6).length = 6 := by rw [List.length_take, Nat.min_eq_left lB]
              have lD : (B.drop 6).length = B.length - 6 := List.length_drop
              have sB : (⟨B.toArray⟩ : ByteArray).size = B.length := List.size_toArray
              have s1 : ∀ u : World, (Instr.slice 9 (.string ⟨B.toArray⟩) none (some (.int .i64 6)) none).run Try.prog u = .ok (.string ⟨(B.take 6).toArray⟩) u := fun u => by
                have h := run_slice_string_to_if (P := Try.prog) u 9 ⟨B.toArray⟩ .i64 6 Try.underlying9
                rw [if_pos ⟨by omega, by rw [sB]; omega⟩, ByteArray.extract_mk] at h
                exact h
              have s2 : ∀ u : World, (Instr.slice 9 (.string ⟨B.toArray⟩) (some (.int .i64 6)) none none).run Try.prog u = .ok (.string ⟨(B.drop 6).toArray⟩) u := fun u => by
                have h := run_slice_string_from_if (P := Try.prog) u 9 ⟨B.toArray⟩ .i64 6 Try.underlying9
                rw [if_pos ⟨by omega, by rw [sB]; omega⟩, ByteArray.extract_mk] at h
                have e : (B.drop (6 : Int).toNat).take ((⟨B.toArray⟩ : ByteArray).size - (6 : Int).toNat) = B.drop 6 := by
                  rw [sB]
                  exact List.take_of_length_le (by rw [List.length_drop]; exact Nat.le_refl _)
                rw [e] at h
                exact h
              have nS : num (B.take 6) < 64 := by have := num_lt _ zT; rw [lT] at this; exact this
              generalize B.take 6 = T at *
              generalize B.drop 6 = D at *
              have hbt : ∀ k, (hk : k < 6) → ∃ c : Nat, c < 2 ∧ PlainAid.bt ⟨T.toArray⟩ k = 48 + (c : Int) ∧ num (T.take (k + 1)) = 2 * num (T.take k) + c ∧ num (T.take k) < 32 := fun k hk => by
                have hT : k < T.length := by omega
                have e1 : PlainAid.bt ⟨T.toArray⟩ k = (T[k].toNat : Int) := (PlainAid.get_bt ⟨T.toArray⟩ k (by show k < T.toArray.size; rw [List.size_toArray]; exact hT)).symm
                have e2 : num (T.take (k + 1)) = 2 * num (T.take k) + (T[k].toNat - 48) := by rw [List.take_succ_eq_append_getElem hT, num_snoc]
                have e3 : num (T.take k) < 32 := by
                  have h1 := num_lt (T.take k) (fun c hc => zT c (List.mem_of_mem_take hc))
                  have h2 : (T.take k).length ≤ 5 := by rw [List.length_take]; omega
                  have h3 : 2 ^ (T.take k).length ≤ 2 ^ 5 := Nat.pow_le_pow_right (by decide) h2
                  omega
                rcases zT T[k] (List.getElem_mem hT) with h | h
                · exact ⟨0, by omega, by rw [e1, h]; rfl, by rw [e2, h]; rfl, e3⟩
                · exact ⟨1, by omega, by rw [e1, h]; rfl, by rw [e2, h]; rfl, e3⟩
              have sT : (⟨T.toArray⟩ : ByteArray).size = 6 := by rw [← lT]; exact List.size_toArray
              have HTN : Hid (num T = num (T.take 6)) := by show _ = _; rw [List.take_of_length_le (by omega)]
              have HN0 : Hid (num (T.take 0) = 0) := rfl
              generalize (⟨T.toArray⟩ : ByteArray) = TT at *
              have HBT := hbt
              clear hbt
              have dB : decide ((B.length : Int) < 6) = false := by simp; omega
              have HBQ : Hid (b.length + q.length ≤ 1073741824) := hbq
              go_wp2
              go_loopw [7] (fun n wq => ∃ k : Nat, k ≤ 6 ∧ n = .int .i64 (num (T.take k)) ∧ wq = wr.iter TT k) (fun _ wq => 6 - wq.iterPos wr.heap.size)
              case atStart => exact ⟨0, by omega, by rw [HN0.out]; rfl, rfl⟩
              case round =>
                obtain ⟨k, hk, rfl, rfl⟩ := hrel
                by_cases hk6 : k < 6
                · obtain ⟨c, hc2, hbk, hnk, hlk⟩ := HBT k hk6
                  have hnx : ∀ ty, (Instr.next (.pointer (some ⟨wr.heap.size, 0, none⟩)) true ty).run Try.prog (wr.iter TT k) = .ok (.tuple #[.bool true, .int .i64 k, .int .i32 (48 + (c : Int))]) (wr.iter TT (k + 1)) := fun ty => by
                    have hl : k < TT.size := by omega
                    have h := run_next_ascii (P := Try.prog) wr TT k ty hl (by have := PlainAid.get_bt TT k hl; omega)
                    rw [h, PlainAid.get_bt TT k hl, hbk]
                  have HNK : Hid (num (T.take (k + 1)) = 2 * num (T.take k) + c) := hnk
                  clear hnk HBT hbk
                  generalize num (T.take k) = nk at *
                  go_wp2
                  go_roundw
                  case rel => exact ⟨k + 1, by omega, by rw [HNK.out]; go_num, rfl⟩
                  case measure => simp; omega
                · obtain rfl : k = 6 := by omega
                  rw [← HTN.out]
                  clear HBT
                  have hnx : ∀ ty, (Instr.next (.pointer (some ⟨wr.heap.size, 0, none⟩)) true ty).run Try.prog (wr.iter TT 6) = .ok (.tuple #[.bool false]) (wr.iter TT 6) := fun ty =>
                    run_next_end (P := Try.prog) wr TT 6 ty (by omega)
                  have s3 : ∀ u : World, (Instr.slice 9 (.string ⟨#[65, 66, 67, 68, 69, 70, 71, 72, 73, 74, 75, 76, 77, 78, 79, 80, 81, 82, 83, 84, 85, 86, 87, 88, 89, 90, 97, 98, 99, 100, 101, 102, 103, 104, 105, 106, 107, 108, 109, 110, 111, 112, 113, 114, 115, 116, 117, 118, 119, 120, 121, 122, 48, 49, 50, 51, 52, 53, 54, 55, 56, 57, 43, 47]⟩) (some (.int .i64 (num T : Int))) (some (.int .i64 ((num T : Int) + 1))) none).run Try.prog u = .ok (.string ⟨#[sgn (num T)]⟩) u := fun u => by
                    have h := run_slice_string (P := Try.prog) u 9 ⟨#[65, 66, 67, 68, 69, 70, 71, 72, 73, 74, 75, 76, 77, 78, 79, 80, 81, 82, 83, 84, 85, 86, 87, 88, 89, 90, 97, 98, 99, 100, 101, 102, 103, 104, 105, 106, 107, 108, 109, 110, 111, 112, 113, 114, 115, 116, 117, 118, 119, 120, 121, 122, 48, 49, 50, 51, 52, 53, 54, 55, 56, 57, 43, 47]⟩ .i64 .i64 (num T : Int) ((num T : Int) + 1) Try.underlying9 (by omega) (by omega) (by show _ ≤ (64 : Int); omega)
                    rw [h, Int.toNat_natCast, show ((num T : Int) + 1).toNat = num T + 1 from by omega, sign_at (num T) nS]
                  have HQ : Hid ((⟨q.toArray⟩ ++ ⟨#[sgn (num T)]⟩ : ByteArray) = ⟨(q ++ [sgn (num T)]).toArray⟩) := bytes_snoc q _
                  have sQ : (⟨q.toArray⟩ : ByteArray).size = q.length := List.size_toArray
                  have e1 : (⟨#[sgn (num T)]⟩ : ByteArray).size = 1 := rfl
                  generalize (⟨#[sgn (num T)]⟩ : ByteArray) = X at *
                  go_wp2
                  go_roundw
                  case rel => exact ⟨D, q ++ [sgn (num T)], rfl, by rw [HQ.out], zD, by rw [List.length_append, List.length_cons, List.length_nil]; have := HBQ.out; omega, HC.out, hnx2.alloc hnx2.size _⟩
                  case measure =>
                    have z1 : (⟨D.toArray⟩ : ByteArray).size = D.length := List.size_toArray
                    have z2 : (⟨b.toArray⟩ : ByteArray).size = b.length := List.size_toArray
                    show (⟨D.toArray⟩ : ByteArray).size < (⟨b.toArray⟩ : ByteArray).size
                    omega
end Go.Proofs.Yteoiijiiccecfaa.base
