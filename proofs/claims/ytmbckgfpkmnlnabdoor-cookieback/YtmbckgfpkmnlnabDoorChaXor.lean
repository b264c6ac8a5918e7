/-
  THE WALKS OF package chacha's xor and Xor.
-/
import Derived.Test.YtmbckgfpkmnlnabDoorChaFace
namespace Go.Proofs.YtmbckgfpkmnlnabDoor.cha
open Go.RowKit
open Go.Proofs.YtmbckgfpkmnlnabDoor.soft
open Go.Proofs.YtmbckgfpkmnlnabDoor.ghs (bt_nb tb tb_lt mkl mkl_length mkl_get tx_ext)

/-- Xored from place o on, the first k of them. -/
def xo2 (L : List Nat) (o : Nat) (f : Nat → Nat) : Nat → List Nat
  | 0 => L
  | k + 1 => (xo2 L o f k).set (o + k) (L.getD (o + k) 0 ^^^ f k)
theorem xo2_length (L : List Nat) (o : Nat) (f : Nat → Nat) : ∀ k, (xo2 L o f k).length = L.length
  | 0 => rfl
  | k + 1 => by rw [xo2, List.length_set, xo2_length L o f k]
theorem xo2_get (L : List Nat) (o : Nat) (f : Nat → Nat) : ∀ k j, j < L.length → (xo2 L o f k).getD j 0 = if o ≤ j ∧ j < o + k then L.getD j 0 ^^^ f (j - o) else L.getD j 0
  | 0, j, _ => by rw [xo2, if_neg (by omega)]
  | k + 1, j, hj => by
    have ih := xo2_get L o f k j hj
    rw [xo2, ghs.getD_set _ _ _ _ (by rw [xo2_length]; exact hj)]
    by_cases c : o + k = j
    · rw [if_pos c, if_pos (by omega), ← c, Nat.add_sub_cancel_left]
    · rw [if_neg c, ih]
      by_cases c2 : o ≤ j ∧ j < o + k
      · rw [if_pos c2, if_pos (by omega)]
      · rw [if_neg c2, if_neg (by omega)]
set_option maxRecDepth 100000 in
set_option maxHeartbeats 1600000 in
theorem xor_full (g n cap o m c : Nat) (L : List Nat) (okL : ∀ j, L.getD j 0 < 256) (mask : ByteArray) (hm : mask.size = 64) (hmm : o + m = n) (hr : 64 < m) (B : Nat) (w : World) (hR : Row w B 1 g n cap (by8 L)) :
    Calls Tryd.prog 64 #[.slice (some ⟨g, o, none⟩) m c, .string mask] w fun e w' => e = .returned (.tuple #[]) ∧ Row w' B 1 g n cap (by8 (xo2 L o (tb mask) 64)) ∧ (∀ k, k ≠ g → w'.heap[k]? = w.heap[k]?) ∧ w'.heap.size = w.heap.size ∧ (∀ (B : Nat) (z : World), B ≤ g → Below B z w → Below B z w') := by
  have hz : (mask.size : Int) = 64 := by omega
  have hgb := PlainAid.get_bt mask
  have hLl : L.length = n := by have := hR.len; rw [by8_length, Nat.mul_one] at this; exact this
  have HM : Hid (o + m = n) := hmm
  have hc : (64 : Int) < (m : Int) := by omega
  clear hmm hr
  go_enter Tryd.func64, Tryd.ntmps64
  go_wp2_with fail
  go_loopw [10] (fun i wr => ∃ k : Nat, k ≤ 64 ∧ i = .int .i64 k ∧ Row wr B 1 g n cap (by8 (xo2 L o (tb mask) k)) ∧ (∀ k, k ≠ g → wr.heap[k]? = w.heap[k]?) ∧ wr.heap.size = w.heap.size ∧ (∀ (B : Nat) (z : World), B ≤ g → Below B z w → Below B z wr)) (fun i _ => 64 - (intOf i).toNat)
  case atStart => exact ⟨0, by omega, rfl, hR, fun _ _ => rfl, rfl, fun _ _ _ h => h⟩
  case round =>
    clear hR
    obtain ⟨k, hk, rfl, hR, hO, hS, hX⟩ := hrel
    by_cases hlt : k < 64
    · have d0 : decide ((k : Int) < 64) = true := by simp; omega
      have hM := HM.out
      have i1 : k < mask.size := by omega
      have i2 : k < m := by omega
      have j0 : (k : Int) < (m : Int) := by omega
      have j1 : (k : Int) < 64 := by omega
      have k0 : (0 : Int) ≤ (k : Int) := by omega
      have e2 := bt_nb mask k i1
      have x1 := cv.xor8 _ _ (okL (o + k)) (tb_lt mask k)
      have hl := xo2_length L o (tb mask) k
      have HU : Hid (xo2 L o (tb mask) (k + 1) = (xo2 L o (tb mask) k).set (o + k) (L.getD (o + k) 0 ^^^ tb mask k)) := rfl
      have c1 := hR.get (o + k) _ (by8_get _ (o + k) (by omega))
      rw [xo2_get _ _ _ _ _ (by omega), if_neg (by omega)] at c1
      have z1 := (hR.free (o + k) (by have := hR.le; omega)).2
      rw [Nat.zero_add] at z1
      have hj : o + k < (by8 (xo2 L o (tb mask) k)).length := by rw [by8_length]; omega
      generalize L.getD (o + k) 0 ^^^ tb mask k = z at *
      generalize L.getD (o + k) 0 = x at *
      generalize tb mask k = y at *
      generalize xo2 L o (tb mask) k = L' at *
      clear hM
      go_wp2_with fail
      go_region
      go_wp2
      go_roundw
      case rel => exact ⟨k + 1, by omega, by go_num, by rw [HU.out, ← by8_set]; exact (hR.set (o + k) _ hj).drew, fun b hb => (Below.heap_setCell _ _ _ _ hb).trans (hO b hb), by simpa [World.setCell] using hS, fun B z hB hz => ((hX B z hB hz).setCell hB _).drew⟩
      case measure => simp [intOf]; omega
    · obtain rfl : k = 64 := by omega
      have d0 : decide (((64 : Nat) : Int) < 64) = false := by simp
      go_wp2_with fail
      exact ⟨rfl, .tuple #[], results_none Tryd.results64 _ _, rfl, hR, hO, hS, hX⟩
set_option maxRecDepth 100000 in
set_option maxHeartbeats 1600000 in
theorem xor_part (g n cap o m c : Nat) (L : List Nat) (okL : ∀ j, L.getD j 0 < 256) (mask : ByteArray) (hm : mask.size = 64) (hmm : o + m = n) (hr : m ≤ 64) (B : Nat) (w : World) (hR : Row w B 1 g n cap (by8 L)) :
    Calls Tryd.prog 64 #[.slice (some ⟨g, o, none⟩) m c, .string mask] w fun e w' => e = .returned (.tuple #[]) ∧ Row w' B 1 g n cap (by8 (xo2 L o (tb mask) m)) ∧ (∀ k, k ≠ g → w'.heap[k]? = w.heap[k]?) ∧ w'.heap.size = w.heap.size ∧ (∀ (B : Nat) (z : World), B ≤ g → Below B z w → Below B z w') := by
  have hz : (mask.size : Int) = 64 := by omega
  have hgb := PlainAid.get_bt mask
  have hLl : L.length = n := by have := hR.len; rw [by8_length, Nat.mul_one] at this; exact this
  have HM : Hid (o + m = n) := hmm
  have hc : ¬ (64 : Int) < (m : Int) := by omega
  clear hmm hr
  go_enter Tryd.func64, Tryd.ntmps64
  go_wp2_with fail
  go_loopw [10] (fun i wr => ∃ k : Nat, k ≤ m ∧ i = .int .i64 k ∧ Row wr B 1 g n cap (by8 (xo2 L o (tb mask) k)) ∧ (∀ k, k ≠ g → wr.heap[k]? = w.heap[k]?) ∧ wr.heap.size = w.heap.size ∧ (∀ (B : Nat) (z : World), B ≤ g → Below B z w → Below B z wr)) (fun i _ => m - (intOf i).toNat)
  case atStart => exact ⟨0, by omega, rfl, hR, fun _ _ => rfl, rfl, fun _ _ _ h => h⟩
  case round =>
    clear hR
    obtain ⟨k, hk, rfl, hR, hO, hS, hX⟩ := hrel
    by_cases hlt : k < m
    · have d0 : decide ((k : Int) < (m : Int)) = true := by simp; omega
      have hM := HM.out
      have i1 : k < mask.size := by omega
      have i2 : k < m := by omega
      have j0 : (k : Int) < (m : Int) := by omega
      have j1 : (k : Int) < 64 := by omega
      have k0 : (0 : Int) ≤ (k : Int) := by omega
      have e2 := bt_nb mask k i1
      have x1 := cv.xor8 _ _ (okL (o + k)) (tb_lt mask k)
      have hl := xo2_length L o (tb mask) k
      have HU : Hid (xo2 L o (tb mask) (k + 1) = (xo2 L o (tb mask) k).set (o + k) (L.getD (o + k) 0 ^^^ tb mask k)) := rfl
      have c1 := hR.get (o + k) _ (by8_get _ (o + k) (by omega))
      rw [xo2_get _ _ _ _ _ (by omega), if_neg (by omega)] at c1
      have z1 := (hR.free (o + k) (by have := hR.le; omega)).2
      rw [Nat.zero_add] at z1
      have hj : o + k < (by8 (xo2 L o (tb mask) k)).length := by rw [by8_length]; omega
      generalize L.getD (o + k) 0 ^^^ tb mask k = z at *
      generalize L.getD (o + k) 0 = x at *
      generalize tb mask k = y at *
      generalize xo2 L o (tb mask) k = L' at *
      clear hM
      go_wp2_with fail
      go_region
      go_wp2
      go_roundw
      case rel => exact ⟨k + 1, by omega, by go_num, by rw [HU.out, ← by8_set]; exact (hR.set (o + k) _ hj).drew, fun b hb => (Below.heap_setCell _ _ _ _ hb).trans (hO b hb), by simpa [World.setCell] using hS, fun B z hB hz => ((hX B z hB hz).setCell hB _).drew⟩
      case measure => simp [intOf]; omega
    · obtain rfl : k = m := by omega
      have d0 : decide ((k : Int) < (k : Int)) = false := by simp
      go_wp2_with fail
      exact ⟨rfl, .tuple #[], results_none Tryd.results64 _ _, rfl, hR, hO, hS, hX⟩

/-- What the loop leaves. -/
def Lx (key nonce : ByteArray) (n : Nat) (s : ByteArray) (j : Nat) : List Nat := mkl s.size fun i => if i < 64 * j then tb s i ^^^ str key nonce n i else tb s i
theorem Lx_length (key nonce : ByteArray) (n : Nat) (s : ByteArray) (j : Nat) : (Lx key nonce n s j).length = s.size := mkl_length _ _
theorem Lx_lt (key nonce : ByteArray) (n : Nat) (s : ByteArray) (j : Nat) : ∀ i, (Lx key nonce n s j).getD i 0 < 256 := fun i => by
  by_cases h : i < s.size
  · rw [Lx, mkl_get _ _ _ h]
    split
    · exact Nat.xor_lt_two_pow (n := 8) (tb_lt _ _) (str_lt _ _ _ _)
    · exact tb_lt _ _
  · rw [List.getD_eq_getElem?_getD, List.getElem?_eq_none (by rw [Lx_length]; omega)]; decide
theorem Lx_start (key nonce : ByteArray) (n : Nat) (s : ByteArray) : nb s = Lx key nonce n s 0 :=
  tx_ext (by rw [nb_length, Lx_length]) fun i hi => by
    rw [nb_length] at hi
    rw [Lx, mkl_get _ _ _ hi, if_neg (by omega)]
    rfl
theorem Lx_step (key nonce : ByteArray) (n : Nat) (s : ByteArray) (j r : Nat) (hr : r = s.size - 64 * j ∧ r ≤ 64 ∨ r = 64 ∧ 64 * j + 64 ≤ s.size) (hj : 64 * j ≤ s.size) :
    xo2 (Lx key nonce n s j) (64 * j) (tb (blk key nonce ((n + j) % 4294967296))) r = Lx key nonce n s (j + 1) :=
  tx_ext (by rw [xo2_length, Lx_length, Lx_length]) fun i hi => by
    rw [xo2_length, Lx_length] at hi
    rw [xo2_get _ _ _ _ _ (by rw [Lx_length]; exact hi), Lx, Lx, mkl_get _ _ _ hi, mkl_get _ _ _ hi]
    by_cases c : 64 * j ≤ i
    · by_cases c2 : i < 64 * j + r
      · rw [if_pos ⟨c, c2⟩, if_neg (by omega), if_pos (by omega), str, show i / 64 = j from by omega, show i % 64 = i - 64 * j from by omega]
      · rw [if_neg (by omega), if_neg (by omega), if_neg (by omega)]
    · rw [if_neg (by omega), if_pos (by omega), if_pos (by omega)]
theorem Lx_all (key nonce : ByteArray) (n : Nat) (s : ByteArray) (j : Nat) (h : s.size ≤ 64 * j) : tx (Lx key nonce n s j) = hid key nonce n s := by
  unfold hid Lx
  congr 1
  exact ghs.mkl_congr fun i hi => if_pos (by omega)
theorem sl_row (g n cap lo : Nat) (h : lo ≤ n) (h2 : lo < cap) (w : World) : (Instr.sliceAt 39 (.slice (some ⟨g, 0, none⟩) n cap) (some (.int .i64 (lo : Int))) none none).run Tryd.prog w = .ok (.slice (some ⟨g, lo, none⟩) (n - lo) (cap - lo)) w := by
  obtain ⟨j0, hj, _, hj1, _⟩ := info_parts cv.infoU8
  have hne : ¬ cap = lo := by omega
  simp [Instr.sliceAt, Instr.slice, run_underlying Tryd.underlying39, Instr.sliceBounds, Instr.sliceBound, asIntOf, sizeOf, typeInfo, hj, hj1, h, hne, Addr.add_mid]
theorem xor_row (g n cap o : Nat) (L : List Nat) (okL : ∀ j, L.getD j 0 < 256) (mask : ByteArray) (hm : mask.size = 64) (ho : o ≤ n) (B : Nat) (w : World) (hR : Row w B 1 g n cap (by8 L)) :
    Calls Tryd.prog 64 #[.slice (some ⟨g, o, none⟩) (n - o) (cap - o), .string mask] w fun e w' => e = .returned (.tuple #[]) ∧ (∃ r, (r = n - o ∧ r ≤ 64 ∨ r = 64 ∧ o + 64 ≤ n) ∧ Row w' B 1 g n cap (by8 (xo2 L o (tb mask) r))) ∧ (∀ k, k ≠ g → w'.heap[k]? = w.heap[k]?) ∧ w'.heap.size = w.heap.size ∧ (∀ (B : Nat) (z : World), B ≤ g → Below B z w → Below B z w') := by
  by_cases h : 64 < n - o
  · refine (xor_full g n cap o (n - o) (cap - o) L okL mask hm (by omega) h B w hR).mono ?_
    rintro e w' ⟨rfl, h1, h2⟩
    exact ⟨rfl, ⟨64, .inr ⟨rfl, by omega⟩, h1⟩, h2⟩
  · refine (xor_part g n cap o (n - o) (cap - o) L okL mask hm (by omega) (by omega) B w hR).mono ?_
    rintro e w' ⟨rfl, h1, h2⟩
    exact ⟨rfl, ⟨n - o, .inl ⟨rfl, by omega⟩, h1⟩, h2⟩
theorem Xor_bad (key nonce : ByteArray) (n : Nat) (s : ByteArray) (h : key.size ≠ 32 ∨ nonce.size ≠ 12) (w : World) :
    Calls Tryd.prog 55 #[.string key, .string nonce, .int .u32 n, .string s] w fun e w' => e = .returned (.tuple #[.string ⟨#[]⟩, .int .i64 1]) ∧ Below w.heap.size w w' := by
  by_cases h1 : key.size = 32
  · have t1 : ((key.size : Int) != 32) = false := by rw [bne_eq_false_iff_eq]; omega
    have t2 : ((nonce.size : Int) != 12) = true := by rw [bne_iff_ne]; omega
    clear h h1
    go_enter Tryd.func55, Tryd.ntmps55
    go_wp2_with fail
    go_ret2
    exact ⟨rfl, Below.refl _ _⟩
  · have t1 : ((key.size : Int) != 32) = true := by rw [bne_iff_ne]; omega
    clear h h1
    go_enter Tryd.func55, Tryd.ntmps55
    go_wp2_with fail
    go_ret2
    exact ⟨rfl, Below.refl _ _⟩
theorem Xor_large (key nonce : ByteArray) (n : Nat) (s : ByteArray) (h1 : key.size = 32) (h2 : nonce.size = 12) (hs : 2000 < s.size) (w : World) :
    Calls Tryd.prog 55 #[.string key, .string nonce, .int .u32 n, .string s] w fun e w' => e = .returned (.tuple #[.string ⟨#[]⟩, .int .i64 2]) ∧ Below w.heap.size w w' := by
  have t1 : ((key.size : Int) != 32) = false := by rw [bne_eq_false_iff_eq]; omega
  have t2 : ((nonce.size : Int) != 12) = false := by rw [bne_eq_false_iff_eq]; omega
  have t3 : decide ((s.size : Int) > 2000) = true := by simp; omega
  clear h1 h2 hs
  go_enter Tryd.func55, Tryd.ntmps55
  go_wp2_with fail
  go_ret2
  exact ⟨rfl, Below.refl _ _⟩
set_option maxRecDepth 100000 in
set_option maxHeartbeats 4000000 in
theorem Xor_good (key nonce : ByteArray) (n : Nat) (s : ByteArray) (hn : n < 4294967296) (h1 : key.size = 32) (h2 : nonce.size = 12) (hs : s.size ≤ 2000) (w : World) :
    Calls Tryd.prog 55 #[.string key, .string nonce, .int .u32 n, .string s] w fun e w' => e = .returned (.tuple #[.string (hid key nonce n s), .int .i64 0]) ∧ Below w.heap.size w w' := by
  have t1 : ((key.size : Int) != 32) = false := by rw [bne_eq_false_iff_eq]; omega
  have t2 : ((nonce.size : Int) != 12) = false := by rw [bne_eq_false_iff_eq]; omega
  obtain ⟨N, hN⟩ : ∃ N, s.size = N := ⟨_, rfl⟩
  have hNs : (s.size : Int) = (N : Int) := by omega
  have t3 : decide ((N : Int) > 2000) = false := by simp; omega
  have f0 := told1 n hn
  have hb := beg_S key nonce h1 hn
  have s4 : (told [n]).size = 4 := told_size _
  have s16 : (told [n] ++ nonce).size = 16 := by rw [ByteArray.size_append]; omega
  have f1 := begun_any key (told [n] ++ nonce) h1 s16
  rw [hb] at f1
  clear hb
  obtain ⟨T, hT⟩ : ∃ T, T = told [n] ++ nonce := ⟨_, rfl⟩
  rw [← hT] at f1 s16
  have hT' : told [n] ++ nonce = T := hT.symm
  clear hT
  generalize told [n] = T4 at *
  have lS : ∀ m, (wd (S key nonce m)).length = 16 := fun m => by rw [wd_length, S_length]
  have l1 : ∀ m, (wd (S key nonce m)).toArray.all (·.oneCell') = true := fun m => wd_one _
  clear h1
  go_enter Tryd.func55, Tryd.ntmps55
  go_wp2_with (first
    | (go_at_call 54; (refine (f0 _).mono ?_); rintro e w1 ⟨rfl, hb1⟩)
    | (go_at_call 52; (with_reducible refine (f1 _).mono ?_); rintro e w2 ⟨rfl, hb2⟩; have hZ := Blk.new w2 80 (wd z16) _ rfl)
    | (refine wpList_store_blk rfl 80 (.tmp 10) (.tmp 30) rfl w2.heap.size (wd (S key nonce n)) rfl rfl (wd z16) hZ (by rw [lS]; rfl) (l1 _) infoST ?_; intro W hW; obtain ⟨W5, cp, hcv, hRw, hbW⟩ := cv.bytes_row s W; rw [hN] at hcv hRw))
  have hX0 : Below w.heap.size w (w.alloc (.cells #[.int .u32 n] 28)) := (Below.refl _ _).alloc (Nat.le_refl _) _
  have hX1 := hX0.trans (hb1.mono (Nat.le_succ _))
  have hX2 := hX1.trans (hb2.mono hX1.size)
  have hX3 := hW.below w.heap.size w hX2.size (hX2.alloc hX2.size (.cells (wd z16).toArray 80))
  have hX5 := hX3.trans (hbW.mono hX3.size)
  have hsg := hW.blk.lt
  have hS5 := hW.blk.below hbW hsg
  have hle := hX3.size
  have hle2 := hX2.size
  obtain ⟨g, hg⟩ : ∃ g, W.heap.size = g := ⟨_, rfl⟩
  obtain ⟨sp, hsp⟩ : ∃ sp, w2.heap.size = sp := ⟨_, rfl⟩
  rw [hg] at hRw hsg hle
  rw [hsp] at hS5 hsg hle2
  have hgw : w.heap.size ≤ g := hle
  rw [Lx_start key nonce n s] at hRw
  rw [hg, hsp]
  clear hX0 hX1 hX2 hX3 hW hbW hZ hb1 hb2 f0 f1 hcv hle
  go_loopw [12] (fun i wr => ∃ j : Nat, i = .int .i64 ((64 * j : Nat) : Int) ∧ 64 * j < N + 64 ∧ Row wr g 1 g N cp (by8 (Lx key nonce n s j)) ∧ Blk wr sp 80 (wd (S key nonce ((n + j) % 4294967296))) ∧ Below w.heap.size w wr) (fun i _ => N + 64 - (intOf i).toNat)
  case atStart => exact ⟨0, rfl, by omega, hRw, by rw [Nat.add_zero, Nat.mod_eq_of_lt hn]; exact hS5, hX5⟩
  case round =>
    clear hRw hS5 hX5
    obtain ⟨j, rfl, hj, hR, hS, hnx⟩ := hrel
    obtain ⟨o, ho⟩ : ∃ o, o = 64 * j := ⟨_, rfl⟩
    have HO : Hid (o = 64 * j) := ho
    rw [← ho]
    by_cases hlt : o < N
    · have d0 : decide ((o : Int) < (N : Int)) = true := by simp; omega
      have lm : (n + j) % 4294967296 < 4294967296 := Nat.mod_lt _ (by decide)
      have HL := fun r h1 h2 => Lx_step key nonce n s j r h1 h2
      have HX : Hid (∀ r, (r = N - o ∧ r ≤ 64 ∨ r = 64 ∧ o + 64 ≤ N) → xo2 (Lx key nonce n s j) o (tb (blk key nonce ((n + j) % 4294967296))) r = Lx key nonce n s (j + 1)) := fun r h => by
        rw [ho]
        exact HL r (by rw [hN, ← ho]; exact h) (by rw [hN, ← ho]; omega)
      have HC : Hid ((n + (j + 1)) % 4294967296 = ((n + j) % 4294967296 + 1) % 4294967296) := by show _ = _; omega
      have hgt := S_get key nonce ((n + j) % 4294967296)
      have hst := fun x => S_set key nonce ((n + j) % 4294967296) x
      have okL := Lx_lt key nonce n s j
      have fb := block_any (S key nonce ((n + j) % 4294967296)) (S_length _ _ _) (S_ok _ _ lm)
      have hBk : (blk key nonce ((n + j) % 4294967296)).size = 64 := blk_size _ _ _
      rw [show block (S key nonce ((n + j) % 4294967296)) = blk key nonce ((n + j) % 4294967296) from rfl] at fb
      have hl16 := S_length key nonce ((n + j) % 4294967296)
      have fx := fun (W : World) (h : Row W g 1 g N cp (by8 (Lx key nonce n s j))) => xor_row g N cp o (Lx key nonce n s j) okL (blk key nonce ((n + j) % 4294967296)) hBk (by omega) g W h
      have hsl := sl_row g N cp o (by omega) (by have := hR.le; omega)
      have HW : Hid (S key nonce ((n + (j + 1)) % 4294967296) = (S key nonce ((n + j) % 4294967296)).set 12 (((n + j) % 4294967296 + 1) % 4294967296)) := by show _ = _; rw [hst, HC.out]
      clear HL hst lm ho
      generalize blk key nonce ((n + j) % 4294967296) = Bk at *
      obtain ⟨c, hc⟩ : ∃ c, c = (n + j) % 4294967296 := ⟨_, rfl⟩
      rw [← hc] at hgt HW
      have HD : Hid (c = (n + j) % 4294967296) := hc
      rw [← hc] at hS fb hl16
      clear hc
      generalize S key nonce c = L at *
      generalize Lx key nonce n s j = X at *
      have lL : (wd L).length = 16 := by rw [wd_length, hl16]
      have e1 := add32 c 1
      rw [show ((1 : Nat) : Int) = 1 from rfl] at e1
      have lg := hR.lt
      have ls := hS.lt
      have q1 : ∀ y : Up wr, y.1.rangeAt sp 0 (wd L) := fun y => (hS.below y.2 ls).range 0 _ (by simp)
      have F1 : Hid (∀ y : Up wr, Calls Tryd.prog 65 #[.agg (wd L).toArray] y.1 fun e w' => e = .returned (.string Bk) ∧ Below y.1.heap.size y.1 w') := fun y => fb y.1
      clear fb
      have hne := Up.some wr
      go_wp2_with fail
      refine wp_region_tail 5 (by kernel_rfl) (by kernel_rfl) ?_
      simp only [List.take_succ_cons, List.take_zero, List.drop_succ_cons, List.drop_zero]
      repeat (first
        | (refine wpQuiet_load rfl 80 (.tmp 10) rfl sp 0 rfl (wd L) _ q1 Tryd.underlying80 rfl (by rw [lL]; exact infoST) ?_; simp only [Act.put, List.setIfInBounds_toArray, List.set_cons_succ, List.set_cons_zero])
        | (go_big_quiet_step (with_reducible exact calls_up (F1.out _))))
      refine wpQuiet_nil ?_
      rintro w6 ⟨y6, rfl⟩
      have hR6 := hR.below y6.2 lg
      have hS6 := hS.below y6.2 ls
      have hX6 := hnx.trans (y6.2.mono hnx.size)
      have fx6 := fx y6.1 hR6
      clear q1 F1 hne fx hR hS hnx
      go_wp2_with (go_at_call 64; refine fx6.mono ?_; rintro e w7 ⟨rfl, ⟨r, hr, hR7⟩, hO7, hs7, hB7⟩; have hS7 : Blk w7 sp 80 (wd L) := (by have h := hS6; unfold Blk at h ⊢; rw [hO7 sp (by omega)]; exact h); have c7 := hS7.cell 12 _ (wd_get L 12 (by omega)); have z7 := hS7.frozen 12; rw [hgt] at c7)
      go_roundw
      case rel => exact ⟨j + 1, by have := HO.out; congr 1; omega, by have := HO.out; omega, by rw [← HX.out r hr]; exact hR7.other (by simp; omega) _, by rw [HW.out, ← wd_set]; exact hS7.set 12 _, (hB7 _ _ hgw hX6).setCell (by simpa using hle2) _⟩
      case measure => simp [intOf]; omega
    · have d0 : decide ((o : Int) < (N : Int)) = false := by simp; omega
      have hcv := cv.conv_row hR (fun x hx => by
        obtain ⟨i, hi, rfl⟩ := List.mem_iff_getElem.1 hx
        have := Lx_lt key nonce n s j i
        rwa [List.getD_eq_getElem?_getD, List.getElem?_eq_getElem hi] at this)
      rw [Lx_all key nonce n s j (by omega)] at hcv
      obtain ⟨R, HRr⟩ : ∃ R, Hid (R = hid key nonce n s) := ⟨_, rfl⟩
      rw [← HRr.out] at hcv
      clear ho
      go_wp2_with fail
      go_ret2
      exact ⟨by rw [← HRr.out]; rfl, hnx⟩
end Go.Proofs.YtmbckgfpkmnlnabDoor.cha
