/-
  THE WALK OF package aes's EncryptAll.
-/
import Derived.Test.YtibdlccaenanmaaAesThere
import Derived.Test.YtibdlccaenanmaaRow2
namespace Go.Proofs.Ytibdlccaenanmaa.aes
open Go.RowKit
open Go.Proofs.Ytibdlccaenanmaa.gal

/-- The first q blocks of l, each encrypted. -/
def blks (E : List Nat) (R : Nat) (l : List Nat) : Nat → List Nat
  | 0 => []
  | q + 1 => blks E R l q ++ enc E R ((l.drop (16 * q)).take 16)
theorem enc_length (E : List Nat) (R : Nat) (b : List Nat) : (enc E R b).length = 16 := mk_length _ _
theorem blks_length (E : List Nat) (R : Nat) (l : List Nat) : ∀ q, (blks E R l q).length = 16 * q
  | 0 => rfl
  | q + 1 => by rw [blks, List.length_append, blks_length E R l q, enc_length]; omega
theorem blks_ok (E : List Nat) (R : Nat) (l : List Nat) (hE : Ok E) : ∀ q, Ok (blks E R l q)
  | 0 => fun x hx => by cases hx
  | q + 1 => (blks_ok E R l hE q).append (enc_ok _ _ _ hE)
def encA (E : List Nat) (R : Nat) (l : List Nat) (q : Nat) : List Nat := blks E R l q ++ l.drop (16 * q)
theorem encA_length (E : List Nat) (R : Nat) (l : List Nat) (q : Nat) (h : 16 * q ≤ l.length) : (encA E R l q).length = l.length := by
  rw [encA, List.length_append, blks_length, List.length_drop]; omega
theorem encA_part (E : List Nat) (R : Nat) (l : List Nat) (q : Nat) : ((encA E R l q).drop (16 * q)).take 16 = (l.drop (16 * q)).take 16 := by
  rw [encA, List.drop_append_of_le_length (by rw [blks_length]; exact Nat.le_refl _), List.drop_of_length_le (by rw [blks_length]; exact Nat.le_refl _), List.nil_append]
theorem encA_step (E : List Nat) (R : Nat) (l : List Nat) (q : Nat) : (encA E R l q).take (16 * q) ++ enc E R ((l.drop (16 * q)).take 16) ++ (encA E R l q).drop (16 * q + 16) = encA E R l (q + 1) := by
  have e1 : (encA E R l q).take (16 * q) = blks E R l q := by
    rw [encA, List.take_append_of_le_length (by rw [blks_length]; exact Nat.le_refl _), List.take_of_length_le (by rw [blks_length]; exact Nat.le_refl _)]
  have e2 : (encA E R l q).drop (16 * q + 16) = l.drop (16 * (q + 1)) := by
    have e3 : (blks E R l q).drop (16 * q) = [] := List.drop_of_length_le (by rw [blks_length]; exact Nat.le_refl _)
    rw [encA, ← List.drop_drop, List.drop_append_of_le_length (by rw [blks_length]; exact Nat.le_refl _), e3, List.nil_append, List.drop_drop]
    rw [show 16 * (q + 1) = 16 * q + 16 from by omega]
  rw [e1, e2, encA, blks]
theorem encA_all (E : List Nat) (R : Nat) (l : List Nat) (m : Nat) (h : l.length = 16 * m) : encA E R l m = blks E R l m := by
  rw [encA, List.drop_of_length_le (by omega), List.append_nil]
theorem sl_row (g c n cap : Nat) (hc : c < n) (hn : n ≤ cap) (w : World) : (Instr.sliceAt 41 (.slice (some ⟨g, 0, none⟩) n cap) (some (.int .i64 (c : Int))) none none).run Try.prog w = .ok (.slice (some ⟨g, c, none⟩) (n - c) (cap - c)) w := by
  obtain ⟨j0, hj, _, hj1, _⟩ := info_parts infoU8
  have hne : ¬ cap = c := by omega
  have h1 : c ≤ n := by omega
  simp [Instr.sliceAt, Instr.slice, run_underlying Try.underlying41, Instr.sliceBounds, Instr.sliceBound, asIntOf, sizeOf, typeInfo, hj, hj1, h1, hne, Addr.add_mid]
theorem sl_whole (b : Nat) (w : World) : (Instr.sliceAt 71 (.pointer (some ⟨b, 0, none⟩)) none none none).run Try.prog w = .ok (.slice (some ⟨b, 0, none⟩) 16 16) w := by
  obtain ⟨j0, hj, _, hj1, _⟩ := info_parts infoU8
  simp [Instr.sliceAt, Instr.sureAddr, run_underlying Try.underlying71, Instr.sliceBounds, sizeOf, typeInfo, hj, Addr.add_mid]

set_option maxRecDepth 100000 in
set_option maxHeartbeats 1600000 in
theorem encryptAll_good (key blk : ByteArray) (hk : key.size = 16 ∨ key.size = 32) (m : Nat) (hbk : blk.size = 16 * m) (hm : m ≤ 100000) (w : World) :
    Calls Try.prog 28 #[.string key, .string blk] w fun e w' => e = .returned (.tuple #[.string (tx (blks (kE key) (key.size / 4 + 6) (nb blk) m)), .int .i64 0]) ∧ Below w.heap.size w w' := by
  have f1 := isKey_yes key hk
  have f2 := newCipher_any key hk
  have t1 : ((blk.size : Int).tmod 16 != 0) = false := by rw [bne_eq_false_iff_eq, hbk, Int.tmod_eq_emod_of_nonneg (by omega)]; omega
  have hBl : (nb blk).length = 16 * m := by rw [nb_length, hbk]
  have hR2 : 2 ≤ key.size / 4 + 6 ∧ key.size / 4 + 6 ≤ 1000 := by omega
  have hEo := kE_ok key
  have infoB : (Try.prog.info? 5).map (·.size) = some 1 := by kernel_rfl
  have hok := nb_lt blk
  have hR7 : key.size / 4 + 7 = key.size / 4 + 6 + 1 := rfl
  rw [hR7] at f2
  generalize key.size / 4 + 6 = R at *
  generalize kE key = E at *
  go_enter Try.func28, Try.ntmps28
  go_wp2_with (first
    | (go_at_call 47; refine (f1 _).mono ?_; rintro e w0 ⟨rfl, rfl⟩)
    | (go_at_call 48; refine (f2 _).mono ?_; rintro e w1 ⟨ca, rfl, hca, hC, hb1⟩; obtain ⟨kg, kcap, hH⟩ := hC.held; obtain ⟨W, cp, hcv, hRw, hbW⟩ := bytes_row blk w1))
  have hgr : w1.heap.size < W.heap.size := hRw.lt
  have hHW := hH.below hbW
  rw [hbk] at hRw hcv
  have hW0 : Below w1.heap.size w1 W := hbW
  have hE0 : encA E R (nb blk) 0 = nb blk := by simp [encA, blks]
  have hRw0 : Row W w1.heap.size 1 w1.heap.size (16 * m) cp (by8 (encA E R (nb blk) 0)) := by rw [hE0]; exact hRw
  go_wp2_with fail
  go_loopw [8] (fun at' wr => ∃ q : Nat, q ≤ m ∧ at' = .int .i64 ((16 * q : Nat) : Int) ∧ Row wr w1.heap.size 1 w1.heap.size (16 * m) cp (by8 (encA E R (nb blk) q)) ∧ Below w1.heap.size w1 wr) (fun at' _ => 16 * m - (intOf at').toNat)
  case atStart => exact ⟨0, by omega, rfl, hRw0, hW0⟩
  case round =>
    clear hRw0 hW0 hRw hHW
    obtain ⟨q, hq, rfl, hA, hnx⟩ := hrel
    by_cases hlt : q < m
    · have d0 : decide (((16 * q : Nat) : Int) < ((16 * m : Nat) : Int)) = true := by simp; omega
      obtain ⟨c, hc⟩ : ∃ c, c = 16 * q := ⟨_, rfl⟩
      have hHr := hH.below hnx
      have hAl := hA.lt
      have hle := hA.le
      have hpl : (encA E R (nb blk) q).length = 16 * m := by rw [encA_length _ _ _ _ (by omega), hBl]
      have hcl : (((nb blk).drop (16 * q)).take 16).length = 16 := by rw [List.length_take, List.length_drop, hBl]; omega
      have hco : Ok (((nb blk).drop (16 * q)).take 16) := fun x hx => hok x (List.mem_of_mem_drop (List.mem_of_mem_take hx))
      have f3 := there_any E _ R hR2.1 hR2.2 hEo hcl hco
      have HP : Hid (by8 (((nb blk).drop (16 * q)).take 16) = ((by8 (encA E R (nb blk) q)).drop c).take (by8 (((nb blk).drop (16 * q)).take 16)).length) := by
        show _ = _
        rw [by8_length, hcl, hc, ← by8_drop, ← by8_take, encA_part]
      have HN : Hid (by8 ((encA E R (nb blk) q).take (16 * q) ++ enc E R (((nb blk).drop (16 * q)).take 16) ++ (encA E R (nb blk) q).drop (16 * q + 16)) = by8 (encA E R (nb blk) (q + 1))) := by
        show _ = _
        rw [encA_step]
      rw [← hc] at HN HP d0 ⊢
      rw [by8_append, by8_append, by8_take, by8_drop] at HN
      have hDl := enc_length E R (((nb blk).drop c).take 16)
      rw [← hc] at f3 hcl hco
      generalize hD : enc E R (((nb blk).drop c).take 16) = D at *
      generalize ((nb blk).drop c).take 16 = C at *
      have HC : Hid (c = 16 * q) := hc
      have hc1 : c + 16 ≤ 16 * m := by omega
      clear hc hD
      have hsl := sl_row w1.heap.size c (16 * m) cp (by omega) hle
      have hat := at_sq (some ⟨w1.heap.size, c, none⟩) (16 * m - c) (cp - c) (by omega)
      have f4 := f3 ca kg kcap _ hHr
      go_wp2_with (first
        | (refine wpList_load_mid rfl 71 (.tmp 33) rfl w1.heap.size c rfl (by8 C) _ (hA.part c _ HP.out) Try.underlying71 rfl (by rw [by8_length, hcl]; exact infoSQ) ?_)
        | (go_at_call 49; refine f4.mono ?_; rintro e w5 ⟨rfl, hb5⟩; have hA5 := hA.below hb5 hAl; have hs5 := hb5.size)
        | (refine wpList_store_blk rfl 71 (.tmp 9) (.tmp 35) rfl w5.heap.size (by8 D) rfl rfl (by8 zero16) (Blk.new w5 71 (by8 zero16) _ rfl) (by rw [by8_length, hDl]; rfl) (by8_one _) infoSQ ?_; intro W6 hW6))
      have hA6 : Row W6 w1.heap.size 1 w1.heap.size (16 * m) cp (by8 (encA E R (nb blk) q)) :=
        (hA5.alloc (.cells (by8 zero16).toArray 71)).below (C := w5.heap.size) (hW6.below _ _ (Nat.le_refl _) (Below.refl _ _)) (by omega)
      have hn6 : Below w1.heap.size w1 W6 := hW6.below _ _ (Nat.le_trans hnx.size hs5) ((hnx.trans (hb5.mono hnx.size)).alloc (Nat.le_trans hnx.size hs5) _)
      have hsw := sl_whole w5.heap.size
      have hmn : (by8 D).length = Nat.min 16 (16 * m - c) := by rw [by8_length, hDl]; show 16 = min 16 (16 * m - c); omega
      have hfit : c + (by8 D).length ≤ (by8 (encA E R (nb blk) q)).length := by rw [by8_length, by8_length, hpl, hDl]; omega
      go_region_held3 (fun _ => True) (trivial) ((refine step_copy_row (by rfl) (.tmp 38) (.tmp 39) 41 41 (by rfl) 5 Try.underlying41 infoB w1.heap.size c (16 * m - c) (cp - c) ⟨w5.heap.size, 0, none⟩ 16 16 (by rfl) (by rfl) (xs := by8 (encA E R (nb blk) q)) (by first | exact hA6 | exact hA6.drew) (by8 D) hmn (fun j v hv => by rw [Addr.add_mid, Nat.zero_add]; exact hW6.blk.cell j v hv) hfit (by8_ones _) ?_; intro W7 hA7 hb7))
      all_goals
        have hcs : goInt (by8 D).length = .int .i64 16 := by rw [by8_length, hDl]; rfl
        rw [by8_length, hDl, HN.out] at hA7
        have hn7 := hb7 w1.heap.size w1 (Nat.le_refl _) (by first | exact hn6 | exact hn6.drew)
        clear hb7
        go_wp2
        go_roundw
        case rel => exact ⟨q + 1, by omega, by have := HC.out; rw [show 16 * (q + 1) = c + 16 from by omega]; go_num, hA7, hn7⟩
        case measure => have := HC.out; simp [intOf]; omega
    · obtain rfl : q = m := by omega
      have d0 : decide (((16 * q : Nat) : Int) < ((16 * q : Nat) : Int)) = false := by simp
      rw [encA_all _ _ _ _ hBl] at hA
      have hcn := conv_row hA (blks_ok E R (nb blk) hEo q)
      go_wp2_with fail
      go_ret2
      exact ⟨rfl, hb1.trans (hnx.mono hb1.size)⟩
end Go.Proofs.Ytibdlccaenanmaa.aes
