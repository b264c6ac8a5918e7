/-
  THE WALK OF the document's own product of blocks.
-/
import Derived.Test.YtibdlccaenanmaaRefGhashCoefs
import Derived.Test.YtibdlccaenanmaaChr
namespace Go.Proofs.Ytibdlccaenanmaa.ghs
open Go.RowKit

theorem tx_append (l m : List Nat) : tx l ++ tx m = tx (l ++ m) := by
  apply ByteArray.ext
  simp [tx]
/-- A new variable of many cells. -/
theorem wpList_alloc_blk {P : Program} {ops : Array Oper} {rest : List Oper} {op : Oper} {a : Act} {w : World} {Q : Exit → Act → World → Prop} (hgd : op.guard = none) (ty : TypeId) (ho : op.op = .alloc ty) (l : List Value) (i : TypeInfo)
    (hi : P.info? ty = some i) (z : Value) (hz : i.zero = some z) (hl : z.cells = l.toArray)
    (h : wpList P ops Q rest (a.put op.dst (.pointer (some ⟨w.heap.size, 0, none⟩))) (w.alloc (.cells l.toArray ty))) : wpList P ops Q (op :: rest) a w := by
  refine wpList_plain hgd fun K hK => ?_
  unfold Oper.wp execOp
  simp [ho, Instr.alloc, zeroValue, typeInfo, hi, hz, newVar, newRow, hl]
  exact hK _ _ h
def zero256 : List Nat := List.replicate 256 0
theorem infoA : (Try.prog.info? 105).map (fun i => (i.zero, i.size, i.bytes)) = some (some (.agg (by64 zero256).toArray), 256, 2048) := by kernel_rfl
theorem zero256_eq : zero256 = mkl 256 (fun _ => 0) := tx_ext (by rw [mkl_length]; exact List.length_replicate) fun j hj => by
  rw [show zero256.length = 256 from List.length_replicate] at hj
  rw [mkl_get _ _ _ hj, zero256, List.getD_eq_getElem?_getD, List.getElem?_replicate]
  split <;> rfl
/-- The coefficients of a text lie in block g. -/
structure Rd (w : World) (g : Nat) (f : Nat → Nat) : Prop where
  lt : g < w.heap.size
  at0 : ∀ j, j < 128 → w.cell? ⟨g, j, none⟩ = some (.int .i64 ((f j : Nat) : Int))
theorem Rd.below {w w' : World} {g B : Nat} {f : Nat → Nat} (h : Rd w g f) (hb : Below B w w') (hg : g < B) : Rd w' g f := ⟨Nat.lt_of_lt_of_le h.lt hb.size, fun j hj => (hb.cell (p := ⟨g, j, none⟩) hg).trans (h.at0 j hj)⟩
theorem Rd.other {w : World} {g : Nat} {f : Nat → Nat} (h : Rd w g f) {a : Addr} (ha : g ≠ a.block) (u : Value) : Rd (w.setCell a u) g f := by
  refine ⟨by simpa using h.lt, fun j hj => ?_⟩
  rw [World.cell?_of_block (Below.heap_setCell _ _ _ _ ha)]
  exact h.at0 j hj
theorem xorI (a b : Nat) (ha : a < 2) (hb : b < 2) : bits .xor .i64 (a : Int) (b : Int) = ((a ^^^ b : Nat) : Int) := gal.xor64 a b (by omega) (by omega)
theorem sl_8 (b c d : Nat) (hc : c ≤ d) (hd : d ≤ 256) (h256 : c ≠ 256) (w : World) : (Instr.sliceAt 105 (.pointer (some ⟨b, 0, none⟩)) (some (.int .i64 (c : Int))) (some (.int .i64 (d : Int))) none).run Try.prog w = .ok (.slice (some ⟨b, c, none⟩) (d - c) (256 - c)) w := by
  obtain ⟨j0, hj, _, hj1, _⟩ := info_parts infoINT
  have hne : ¬ 256 = c := fun h => h256 h.symm
  simp [Instr.sliceAt, Instr.sureAddr, run_underlying Try.underlying105, Instr.sliceBounds, Instr.sliceBound, asIntOf, sizeOf, typeInfo, hj, hj1, hc, hd, hne, Addr.add_mid]
theorem chr_num (z : Nat) (hz : z < 256) (w : World) : Calls Try.prog 45 #[.int .i64 (z : Int)] w fun e w' => e = .returned (.string (tx [z])) ∧ Below w.heap.size w w' := by
  have := num.chr_any (z : Int) (by omega) (by omega) w
  rw [Int.toNat_natCast] at this
  exact this

theorem ghashMul_bad (a b : ByteArray) (h : a.size ≠ 16 ∨ b.size ≠ 16) (w : World) :
    Calls Try.prog 60 #[.string a, .string b] w fun e w' => e = .returned (.tuple #[.string ⟨#[]⟩, .int .i64 1]) ∧ Below w.heap.size w w' := by
  by_cases ha : a.size = 16
  · have z1 : (a.size : Int) = 16 := by omega
    have t2 : ((b.size : Int) != 16) = true := by rw [bne_iff_ne]; omega
    clear h ha
    go_enter Try.func60, Try.ntmps60
    go_wp2
    go_ret2
    exact ⟨rfl, Below.refl _ _⟩
  · have t1 : ((a.size : Int) != 16) = true := by rw [bne_iff_ne]; omega
    clear h ha
    go_enter Try.func60, Try.ntmps60
    go_wp2
    go_ret2
    exact ⟨rfl, Below.refl _ _⟩

set_option maxRecDepth 100000 in
set_option maxHeartbeats 3200000 in
theorem ghashMul_good (a b : ByteArray) (ha : a.size = 16) (hb : b.size = 16) (w : World) :
    Calls Try.prog 60 #[.string a, .string b] w fun e w' => e = .returned (.tuple #[.string (bt (gm (bn a) (bn b))), .int .i64 0]) ∧ Below w.heap.size w w' := by
  obtain ⟨i0, hi, hz0, hz1, hz2⟩ := info_parts infoA
  have z1 : (a.size : Int) = 16 := by omega
  have z2 : (b.size : Int) = 16 := by omega
  obtain ⟨Z, HZ⟩ : ∃ Z, Hid (Z = mkl 256 (prodF (cf a) (cf b) 0)) := ⟨_, rfl⟩
  rw [show zero256 = Z from by rw [HZ.out]; exact zero256_eq] at hz0
  have hA : Blk (w.alloc (.cells (by64 Z).toArray 105)) w.heap.size 105 (by64 Z) := Blk.new w 105 (by64 Z) _ rfl
  have hX : Below w.heap.size w (w.alloc (.cells (by64 Z).toArray 105)) := (Below.refl _ _).alloc (Nat.le_refl _) _
  have f1 := coefs_any a ha
  have f2 := coefs_any b hb
  have hAl := hA.lt
  go_enter Try.func60, Try.ntmps60
  go_wp2_with (first
    | (refine wpList_alloc_blk rfl 105 rfl (by64 Z) i0 hi _ hz0 rfl ?_)
    | (go_at_call 79; with_reducible refine (f1 _).mono ?_; rintro e w1 ⟨g1, cap1, rfl, hg1, hl1, hc1, hb1⟩)
    | (go_at_call 79; with_reducible refine (f2 _).mono ?_; rintro e w2 ⟨g2, cap2, rfl, hg2, hl2, hc2, hb2⟩))
  have hP0 : Blk w2 w.heap.size 105 (by64 (mkl 256 (prodF (cf a) (cf b) 0))) := by rw [← HZ.out]; exact (hA.below hb1 hAl).below hb2 (Nat.lt_of_lt_of_le hAl hb1.size)
  have R1 : Rd w2 g1 (cf a) := (Rd.mk hl1 hc1).below hb2 hl1
  have R2 : Rd w2 g2 (cf b) := ⟨hl2, hc2⟩
  have hX1 := hX.trans (hb1.mono hX.size)
  have hX0 : Below w.heap.size w w2 := hX1.trans (hb2.mono hX1.size)
  have n1 : w.heap.size < g1 := by rw [World.size_alloc] at hg1; omega
  have n2 : w.heap.size < g2 := by have := hb1.size; rw [World.size_alloc] at this; omega
  clear hc1 hc2 hb1 hb2 hg1 hg2 hl1 hl2 hA hX hX1 hAl HZ hz0 f1 f2
  have bx := cf_bits a
  have by' := cf_bits b
  obtain ⟨x, Hx⟩ : ∃ x, Hid (x = cf a) := ⟨_, rfl⟩
  obtain ⟨y, Hy⟩ : ∃ y, Hid (y = cf b) := ⟨_, rfl⟩
  rw [← Hx.out] at hP0 R1 bx
  rw [← Hy.out] at hP0 R2 by'
  have Bx : Hid (Bits x) := bx
  have By : Hid (Bits y) := by'
  clear bx by'
  go_loopw [35] (fun i wr => ∃ k : Nat, k ≤ 128 ∧ i = .int .i64 k ∧ Blk wr w.heap.size 105 (by64 (mkl 256 (prodF x y k))) ∧ Rd wr g1 x ∧ Rd wr g2 y ∧ Below w.heap.size w wr) (fun i _ => 128 - (intOf i).toNat)
  case atStart => exact ⟨0, by omega, rfl, hP0, R1, R2, hX0⟩
  case round =>
    clear hP0 R1 R2 hX0
    obtain ⟨i, hi128, rfl, hP, R1, R2, hnx⟩ := hrel
    by_cases hlt : i < 128
    · have d0 : decide ((i : Int) < 128) = true := by simp; omega
      have ca := R1.at0 i hlt
      have hx2 := Bx.out i
      have i00 : (0 : Int) ≤ (i : Int) := by omega
      have i16 : (i : Int) < 128 := by omega
      by_cases hp : x i = 0
      · have HS : Hid (prodF x y (i + 1) = prodF x y i) := if_pos hp
        rw [hp] at ca
        go_wp2_with fail
        go_roundw
        case rel => exact ⟨i + 1, by omega, by go_num, by rw [HS.out]; exact hP, R1, R2, hnx⟩
        case measure => simp [intOf]; omega
      · have HS : Hid (prodF x y (i + 1) = rowF (prodF x y i) i y 128) := if_neg hp
        have hp1 : x i = 1 := by omega
        rw [hp1] at ca
        have hF := prodF_bits x By.out i
        have HFb : Hid (Bits (prodF x y i)) := hF
        clear hp1 hp hx2 hF
        generalize prodF x y i = F at *
        go_wp2_with fail
        go_loopw [44] (fun q wr => ∃ k : Nat, k ≤ 128 ∧ q = .int .i64 k ∧ Blk wr w.heap.size 105 (by64 (mkl 256 (rowF F i y k))) ∧ Rd wr g1 x ∧ Rd wr g2 y ∧ Below w.heap.size w wr) (fun q _ => 128 - (intOf q).toNat)
        case atStart => exact ⟨0, by omega, rfl, hP, R1, R2, hnx⟩
        case round =>
          clear hP R1 R2 hnx ca
          obtain ⟨k, hk128, rfl, hP, R1, R2, hnx⟩ := hrel
          by_cases hk : k < 128
          · have d1 : decide ((k : Int) < 128) = true := by simp; omega
            have cb := R2.at0 k hk
            obtain ⟨m, hm⟩ : ∃ m, m = i + k := ⟨_, rfl⟩
            have HU : Hid ((mkl 256 (rowF F i y k)).set m (rowF F i y k m ^^^ y k) = mkl 256 (rowF F i y (k + 1))) := by
              rw [hm]; exact mkl_set _ _ _ _
            have cw := hP.cell m _ (by64_get _ m (by rw [mkl_length]; omega))
            rw [mkl_get _ _ _ (by omega)] at cw
            have zw := hP.frozen m
            have x1 := xorI _ _ (rowF_bits HFb.out i By.out k m) (By.out k)
            generalize rowF F i y k m ^^^ y k = v at *
            generalize rowF F i y k m = u at *
            generalize y k = t at *
            have e1 : (i : Int) + (k : Int) = (m : Int) := by omega
            have k00 : (0 : Int) ≤ (k : Int) := by omega
            have k16 : (k : Int) < 128 := by omega
            have m00 : (0 : Int) ≤ (m : Int) := by omega
            have m16 : (m : Int) < 256 := by omega
            clear hm
            go_wp2_with fail
            go_roundw
            case rel => exact ⟨k + 1, by omega, by go_num, by rw [← HU.out, ← by64_set]; exact hP.set m _, R1.other (by simp; omega) _, R2.other (by simp; omega) _, hnx.setCell (by simp) _⟩
            case measure => simp [intOf]; omega
          · obtain rfl : k = 128 := by omega
            have d1 : decide (((128 : Nat) : Int) < 128) = false := by decide
            rw [← HS.out] at hP
            go_wp2_with fail
            go_roundw
            case rel => exact ⟨i + 1, by omega, by go_num, hP, R1, R2, hnx⟩
            case measure => simp [intOf]; omega
    · obtain rfl : i = 128 := by omega
      rw [show ((128 : Nat) : Int) = 128 from rfl]
      have d0 : decide ((128 : Int) < 128) = false := by decide
      have HFb : Hid (Bits (prodF x y 128)) := prodF_bits x By.out 128
      have HR : Hid (redF (prodF x y 128) 127 = refF a b) := by rw [Hx.out, Hy.out]; rfl
      generalize prodF x y 128 = F at *
      clear R1 R2
      go_wp2_with fail
      go_loopw [13] (fun i wr => ∃ k : Nat, k ≤ 127 ∧ i = .int .i64 (254 - (k : Int)) ∧ Blk wr w.heap.size 105 (by64 (mkl 256 (redF F k))) ∧ Below w.heap.size w wr) (fun i _ => (intOf i).toNat)
      case atStart => exact ⟨0, by omega, rfl, hP, hnx⟩
      case round =>
        clear hP hnx
        obtain ⟨k, hk127, rfl, hP, hnx⟩ := hrel
        have hsz := hnx.size
        have hPl := hP.lt
        by_cases hk : k < 127
        · obtain ⟨m, hm⟩ : ∃ m, m = 254 - k := ⟨_, rfl⟩
          have hmk : 254 - (k : Int) = (m : Int) := by omega
          rw [hmk]
          have d1 : decide ((m : Int) ≥ 128) = true := by simp; omega
          have cw := hP.cell m _ (by64_get _ m (by rw [mkl_length]; omega))
          rw [mkl_get _ _ _ (by omega)] at cw
          have hb2 := redF_bits HFb.out k m
          have m00 : (0 : Int) ≤ (m : Int) := by omega
          have m16 : (m : Int) < 256 := by omega
          have HM : Hid (m = 254 - k) := hm
          obtain ⟨m', hm'⟩ : ∃ m', m' = m - 1 := ⟨_, rfl⟩
          have em : (m : Int) - 1 = (m' : Int) := by omega
          have HM' : Hid (254 - ((k + 1 : Nat) : Int) = (m' : Int)) := by show 254 - ((k + 1 : Nat) : Int) = (m' : Int); omega
          have HL : Hid (m' < m) := by show m' < m; omega
          clear hm'
          have HKb : Hid (Bits (redF F k)) := redF_bits HFb.out k
          by_cases hc : redF F k m = 1
          · have HS : Hid (redF F (k + 1) = flF (redF F k) m 4) := by rw [hm]; exact if_pos (by rw [← hm]; exact hc)
            rw [hc] at cw
            clear hc hb2 hm hmk
            generalize redF F k = G at *
            have hN : Blk (wr.alloc (.cells #[.int .i64 0, .int .i64 1, .int .i64 2, .int .i64 7] 3)) wr.heap.size 3 (by64 [0, 1, 2, 7]) := Blk.new wr 3 (by64 [0, 1, 2, 7]) _ rfl
            have hP1 := hP.alloc (.cells #[.int .i64 0, .int .i64 1, .int .i64 2, .int .i64 7] 3)
            have hX1 := hnx.alloc hsz (.cells #[.int .i64 0, .int .i64 1, .int .i64 2, .int .i64 7] 3)
            have cw1 := hP1.cell m _ (by64_get _ m (by rw [mkl_length]; have := HM.out; omega))
            obtain ⟨gs, hgs⟩ : ∃ gs, gs = wr.heap.size := ⟨_, rfl⟩
            have HGS : Hid (gs = wr.heap.size) := hgs
            clear hgs
            go_wp2_with fail
            rw [← HGS.out]
            rw [← HGS.out] at hN
            have ngs : gs ≠ w.heap.size := by have := HGS.out; omega
            clear cw cw1 HGS
            go_loopw [69] (fun q wr => ∃ r : Nat, r ≤ 4 ∧ q = .int .i64 r ∧ Blk wr w.heap.size 105 (by64 (mkl 256 (flF G m r))) ∧ Blk wr gs 3 (by64 [0, 1, 2, 7]) ∧ Below w.heap.size w wr) (fun q _ => 4 - (intOf q).toNat)
            case atStart => exact ⟨0, by omega, rfl, hP1, hN, hX1⟩
            case round =>
              clear hP hnx hP1 hN hX1 hsz hPl
              obtain ⟨r, hr4, rfl, hP, hN, hnx⟩ := hrel
              by_cases hr : r < 4
              · have d2 : decide ((r : Int) < 4) = true := by simp; omega
                have ct := hN.cell r _ (by64_get _ r hr)
                have ht : [0, 1, 2, 7].getD r 0 = tp r := rfl
                rw [ht] at ct
                have htl : tp r ≤ 7 := by rcases (by omega : r = 0 ∨ r = 1 ∨ r = 2 ∨ r = 3) with rfl | rfl | rfl | rfl <;> decide
                obtain ⟨j, hj⟩ : ∃ j, j = m - 128 + tp r := ⟨_, rfl⟩
                have HU : Hid ((mkl 256 (flF G m r)).set j (flF G m r j ^^^ 1) = mkl 256 (flF G m (r + 1))) := by
                  rw [hj]; exact mkl_set _ _ _ _
                have hm := HM.out
                have cj := hP.cell j _ (by64_get _ j (by rw [mkl_length]; omega))
                rw [mkl_get _ _ _ (by omega)] at cj
                have zj := hP.frozen j
                have x1 : bits .xor .i64 ((flF G m r j : Nat) : Int) 1 = ((flF G m r j ^^^ 1 : Nat) : Int) := xorI _ 1 (flF_bits HKb.out m r j) (by decide)
                generalize flF G m r j ^^^ 1 = v at *
                generalize flF G m r j = u at *
                generalize tp r = tr at *
                obtain ⟨m1, hm1⟩ : ∃ m1, m1 = m - 128 := ⟨_, rfl⟩
                have e1 : (m : Int) - 128 = (m1 : Int) := by omega
                have e2 : (m1 : Int) + (tr : Int) = (j : Int) := by omega
                have r00 : (0 : Int) ≤ (r : Int) := by omega
                have r16 : (r : Int) < 4 := by omega
                have j00 : (0 : Int) ≤ (j : Int) := by omega
                have j16 : (j : Int) < 256 := by omega
                have m1b : m1 < 256 := by omega
                clear hm hj hm1 htl ht
                go_wp2_with fail
                go_roundw
                case rel => exact ⟨r + 1, by omega, by go_num, by rw [← HU.out, ← by64_set]; exact hP.set j _, hN.other ngs _, hnx.setCell (by simp) _⟩
                case measure => simp [intOf]; omega
              · obtain rfl : r = 4 := by omega
                have d2 : decide (((4 : Nat) : Int) < 4) = false := by decide
                rw [← HS.out] at hP
                go_wp2_with fail
                go_roundw
                case rel => exact ⟨k + 1, by omega, by rw [HM'.out], hP, hnx⟩
                case measure => have := HL.out; simp [intOf]; omega
          · have HS : Hid (redF F (k + 1) = redF F k) := by exact if_neg (by rw [← hm]; exact hc)
            have hc0 : redF F k m = 0 := by omega
            rw [hc0] at cw
            clear hc hb2 hm hmk hc0
            go_wp2_with fail
            go_roundw
            case rel => exact ⟨k + 1, by omega, by rw [HM'.out], by rw [HS.out]; exact hP, hnx⟩
            case measure => have := HL.out; simp [intOf]; omega
        · obtain rfl : k = 127 := by omega
          rw [show 254 - ((127 : Nat) : Int) = 127 from rfl]
          have d1 : decide ((127 : Int) ≥ 128) = false := by decide
          rw [HR.out] at hP
          have HB : Hid (Bits (refF a b)) := refF_bits a b
          have HO : Hid (∀ i, i < 16 → bin (fun j => refF a b (8 * i + j)) 8 = byt (gm (bn a) (bn b)) i) := ref_byte a b
          clear HR HFb
          generalize refF a b = R at *
          obtain ⟨G, HG⟩ : ∃ G, Hid (G = gm (bn a) (bn b)) := ⟨_, rfl⟩
          rw [← HG.out] at HO
          go_wp2_with fail
          go_loopw [16, 82] (fun s i wr => ∃ k : Nat, k ≤ 16 ∧ i = .int .i64 k ∧ s = .string (tx (mkl k (byt G))) ∧ Blk wr w.heap.size 105 (by64 (mkl 256 R)) ∧ Below w.heap.size w wr) (fun _ i _ => 16 - (intOf i).toNat)
          case atStart => exact ⟨0, by omega, rfl, rfl, hP, hnx⟩
          case round =>
            clear hP hnx hsz hPl
            obtain ⟨i, hi16, rfl, rfl, hP, hnx⟩ := hrel
            by_cases hi : i < 16
            · have d2 : decide ((i : Int) < 16) = true := by simp; omega
              obtain ⟨o, ho⟩ : ∃ o, o = 8 * i := ⟨_, rfl⟩
              obtain ⟨o8, ho8⟩ : ∃ o8, o8 = o + 8 := ⟨_, rfl⟩
              have hsl := sl_8 w.heap.size o o8 (by omega) (by omega) (by omega)
              rw [show o8 - o = 8 from by omega] at hsl
              have e1 : 8 * (i : Int) = (o : Int) := by omega
              have e2 : (o : Int) + 8 = (o8 : Int) := by omega
              have HY := HO.out i hi
              rw [← ho] at HY
              have HYY : Hid (bin (fun j => R (o + j)) 8 = byt G i) := HY
              have hob : o ≤ 120 := by omega
              have HU : Hid (tx (mkl i (byt G)) ++ tx [byt G i] = tx (mkl (i + 1) (byt G))) := by
                show _ = _
                rw [tx_append, mkl_succ]
              have s1 : (tx (mkl i (byt G))).size = i := by rw [tx_size, mkl_length]
              generalize tx (mkl i (byt G)) = T at *
              clear ho ho8 HY
              go_wp2_with fail
              go_loopw [18, 92] (fun n q wr => ∃ k : Nat, k ≤ 8 ∧ q = .int .i64 k ∧ n = .int .i64 ((bin (fun j => R (o + j)) k : Nat) : Int) ∧ Blk wr w.heap.size 105 (by64 (mkl 256 R)) ∧ Below w.heap.size w wr) (fun _ q _ => 8 - (intOf q).toNat)
              case atStart => exact ⟨0, by omega, rfl, rfl, hP, hnx⟩
              case round =>
                clear hP hnx
                obtain ⟨q, hq8, rfl, rfl, hP, hnx⟩ := hrel
                have hbl := bin_lt (f := fun j => R (o + j)) (fun j => HB.out _) q
                by_cases hq : q < 8
                · have d3 : decide ((q : Int) < 8) = true := by simp; omega
                  have hl : bin (fun j => R (o + j)) q < 256 := Nat.lt_of_lt_of_le hbl (Nat.pow_le_pow_right (n := 2) (j := 8) (by decide) (by omega))
                  have HS : Hid (bin (fun j => R (o + j)) (q + 1) = 2 * bin (fun j => R (o + j)) q + R (o + q)) := rfl
                  have cq := hP.cell (o + q) _ (by64_get _ (o + q) (by rw [mkl_length]; omega))
                  rw [mkl_get _ _ _ (by omega)] at cq
                  have hb2 := HB.out (o + q)
                  generalize bin (fun j => R (o + j)) q = n at *
                  generalize R (o + q) = u at *
                  obtain ⟨n2, hn2⟩ : ∃ n2, n2 = 2 * n := ⟨_, rfl⟩
                  obtain ⟨n3, hn3⟩ : ∃ n3, n3 = n2 + u := ⟨_, rfl⟩
                  have e3 : 2 * (n : Int) = (n2 : Int) := by omega
                  have e4 : (n2 : Int) + (u : Int) = (n3 : Int) := by omega
                  have HS3 : Hid (bin (fun j => R (o + j)) (q + 1) = n3) := by show _ = _; rw [HS.out]; omega
                  have b2 : n2 < 1024 := by omega
                  have b3 : n3 < 1024 := by omega
                  have q00 : (0 : Int) ≤ (q : Int) := by omega
                  have q16 : (q : Int) < 8 := by omega
                  clear hn2 hn3 HS hbl hl
                  go_wp2_with fail
                  go_roundw
                  case rel => exact ⟨q + 1, by omega, by go_num, by rw [HS3.out], hP, hnx⟩
                  case measure => simp [intOf]; omega
                · obtain rfl : q = 8 := by omega
                  have d3 : decide (((8 : Nat) : Int) < 8) = false := by decide
                  clear hbl
                  rw [HYY.out]
                  have hz := byt_lt G i
                  have f3 := chr_num (byt G i) hz
                  have s2 : (tx [byt G i]).size = 1 := tx_size _
                  generalize tx [byt G i] = Y at *
                  generalize byt G i = z at *
                  have hPl := hP.lt
                  go_wp2_with (go_at_call 45; refine (f3 _).mono ?_; rintro e w5 ⟨rfl, hb5⟩)
                  go_roundw
                  case rel => exact ⟨i + 1, by omega, by go_num, by rw [← HU.out], hP.below hb5 hPl, hnx.trans (hb5.mono hnx.size)⟩
                  case measure => simp [intOf]; omega
            · obtain rfl : i = 16 := by omega
              have d2 : decide (((16 : Nat) : Int) < 16) = false := by decide
              have HE : Hid (tx (mkl 16 (byt G)) = bt G) := rfl
              generalize tx (mkl 16 (byt G)) = T at *
              go_wp2_with fail
              go_ret2
              exact ⟨by rw [← HG.out, ← HE.out]; rfl, hnx⟩
end Go.Proofs.Ytibdlccaenanmaa.ghs
