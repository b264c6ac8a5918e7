/-
  THE WALK OF the document's own Decrypt.
-/
import Derived.Test.YtgfcbmajgaeadaaRefAesMix
namespace Go.Proofs.Ytgfcbmajgaeadaa.aes
open Go.RowKit
open Go.Proofs.Ytgfcbmajgaeadaa.gal

/-- The block ahead of time j. -/
def stB (E B : List Nat) (R : Nat) : Nat → List Nat
  | 0 => B
  | j + 1 => decS E R B j
theorem stB_len (E B : List Nat) (R : Nat) (hB : B.length = 16) : ∀ j, (stB E B R j).length = 16
  | 0 => hB
  | j + 1 => by cases j <;> exact mk_length _ _
theorem stB_ok (E B : List Nat) (R : Nat) (hB : Ok B) : ∀ j, Ok (stB E B R j)
  | 0 => hB
  | j + 1 => decS_ok E B R j
/-- What is mixed: nothing the first time. -/
def mxB (x : List Nat) (j n : Nat) : List Nat := if j = 0 then x else mixes x n
theorem mxB_len (x : List Nat) (h : x.length = 16) (j n : Nat) : (mxB x j n).length = 16 := by
  unfold mxB
  split
  · exact h
  · cases n
    · exact h
    · exact mk_length _ _
theorem mixes_okB (a : List Nat) (h : Ok a) : ∀ k, Ok (mixes a k)
  | 0 => h
  | k + 1 => mixN_ok _ (mixes_okB a h k)
theorem mxB_ok (x : List Nat) (h : Ok x) (j n : Nat) : Ok (mxB x j n) := by
  unfold mxB
  split
  · exact h
  · exact mixes_okB x h n
theorem mxB_first (x : List Nat) (n : Nat) : mxB x 0 n = x := rfl
theorem mxB_next (x : List Nat) (j n : Nat) (h : j ≠ 0) : mixN (mxB x j n) = mxB x j (n + 1) := by
  unfold mxB
  rw [if_neg h, if_neg h]
  rfl
theorem stB_step (E B : List Nat) (R j : Nat) (hj : j ≤ R) : stB E B R (j + 1) = backN (movN 3 (mxB (xorN 16 (stB E B R j) (rk E (R - j))) j 3)) := by
  cases j with
  | zero => rfl
  | succ j =>
    show decS E R B (j + 1) = _
    rw [decS, mxB, if_neg (by omega), show R - 1 - j = R - (j + 1) from by omega]
    rfl
/-- The table of Backs, so far. -/
def Bks (T : List Nat) (k : Nat) : Prop := T.length = 256 ∧ ∀ x, x < k → T.getD (gsub x) 0 = x
theorem Bks.step {T : List Nat} {k : Nat} (h : Bks T k) (hk : k < 256) : Bks (T.set (gsub k) k) (k + 1) := by
  obtain ⟨hl, h⟩ := h
  have hs := gsub_lt k
  refine ⟨by rw [List.length_set, hl], fun x hx => ?_⟩
  rw [set_get _ _ _ _ (by omega)]
  split
  · rename_i e; exact gsub_inj k x hk (by omega) e
  · rename_i e
    exact h x (by
      rcases Nat.lt_or_ge x k with h2 | h2
      · exact h2
      · obtain rfl : x = k := by omega
        exact absurd rfl e)
theorem Bks.all {T : List Nat} (h : Bks T 256) (x : Nat) (hx : x < 256) : T.getD x 0 = gback x := by
  have := h.2 (gback x) (gback_lt x)
  rwa [sub_back x hx] at this
/-- Moved back, so far. -/
def Mvd (A T : List Nat) (k : Nat) : Prop := T.length = 16 ∧ ∀ q, q < k → T.getD (5 * q % 16) 0 = gback (A.getD q 0)
theorem five_inj : ∀ a, a < 16 → ∀ b, b < 16 → 5 * a % 16 = 5 * b % 16 → a = b := by decide
theorem Mvd.step {A T : List Nat} {k : Nat} (h : Mvd A T k) (hk : k < 16) : Mvd A (T.set (5 * k % 16) (gback (A.getD k 0))) (k + 1) := by
  obtain ⟨hl, h⟩ := h
  refine ⟨by rw [List.length_set, hl], fun q hq => ?_⟩
  rw [set_get _ _ _ _ (by omega)]
  split
  · rename_i e; rw [five_inj k hk q (by omega) e]
  · rename_i e
    exact h q (by
      rcases Nat.lt_or_ge q k with h2 | h2
      · exact h2
      · obtain rfl : q = k := by omega
        exact absurd rfl e)
theorem Mvd.all {A T : List Nat} (h : Mvd A T 16) : T = backN (movN 3 A) := by
  refine ext_get (by rw [h.1, backN, mk_length]) fun i hi => ?_
  rw [h.1] at hi
  rw [backN, mk_get _ _ _ hi, movN, mk_get _ _ _ hi]
  have e : ∀ i, i < 16 → 5 * ((i + 4 * 3 * (i % 4)) % 16) % 16 = i := by decide
  have := h.2 ((i + 4 * 3 * (i % 4)) % 16) (Nat.mod_lt _ (by decide))
  rw [e i hi] at this
  exact this
theorem wpList_new_blk {P : Program} {ops : Array Oper} {rest : List Oper} {op : Oper} {a : Act} {w : World} {Q : Exit → Act → World → Prop} (hgd : op.guard = none) (ty : TypeId) (ho : op.op = .alloc ty) (l : List Value) (i : TypeInfo)
    (hi : P.info? ty = some i) (z : Value) (hz : i.zero = some z) (hl : z.cells = l.toArray)
    (h : wpList P ops Q rest (a.put op.dst (.pointer (some ⟨w.heap.size, 0, none⟩))) (w.alloc (.cells l.toArray ty))) : wpList P ops Q (op :: rest) a w := by
  refine wpList_plain hgd fun K hK => ?_
  unfold Oper.wp execOp
  simp [ho, Instr.alloc, zeroValue, typeInfo, hi, hz, newVar, newRow, hl]
  exact hK _ _ h
def zer256 : List Nat := List.replicate 256 0
def zer16 : List Nat := [0, 0, 0, 0, 0, 0, 0, 0, 0, 0, 0, 0, 0, 0, 0, 0]
theorem info256 : (Try.prog.info? 64).map (fun i => (i.zero, i.size, i.bytes)) = some (some (.agg (by8 zer256).toArray), 256, 256) := by kernel_rfl
theorem sl_a16 (b : Nat) (w : World) : (Instr.sliceAt 61 (.pointer (some ⟨b, 0, none⟩)) none none none).run Try.prog w = .ok (.slice (some ⟨b, 0, none⟩) 16 16) w := by
  obtain ⟨j0, hj, _, hj1, _⟩ := info_parts infoY
  simp [Instr.sliceAt, Instr.sureAddr, run_underlying Try.underlying61, Instr.sliceBounds, sizeOf, typeInfo, hj, Addr.add_mid]
set_option maxRecDepth 100000 in
set_option maxHeartbeats 3200000 in
theorem back_any (E : List Nat) (R : Nat) (hR : 1 ≤ R) (hR2 : R ≤ 100) (hE : Ok E) (blk : ByteArray) (hb : blk.size = 16) (sg wg wcap : Nat) (hwc : 4 * (R + 1) ≤ wcap) (w : World) (hT : Tab w sg gsub) (hW : Words w wg (4 * (R + 1)) E) :
    Calls Try.prog 25 #[.agg #[.slice (some ⟨sg, 0, none⟩) 256 256, .slice (some ⟨wg, 0, none⟩) (4 * (R + 1)) wcap], .string blk] w fun e w' => e = .returned (.string (tx (dec E R (nb blk)))) ∧ Below w.heap.size w w' := by
  have hBo := nb_lt blk
  have hBl : (nb blk).length = 16 := by rw [nb_length, hb]
  obtain ⟨N, hN⟩ : ∃ N, N = 4 * (R + 1) := ⟨_, rfl⟩
  rw [← hN] at hwc hW ⊢
  have hkey : ∀ (i : Nat) (W : World), i ≤ R → Below w.heap.size w W → Calls Try.prog 48 #[.agg #[.slice (some ⟨sg, 0, none⟩) 256 256, .slice (some ⟨wg, 0, none⟩) N wcap], .int .i64 (i : Int)] W fun e w' => e = .returned (.string (tx (rk E i))) ∧ Below W.heap.size W w' := fun i W hi hX => key_any _ wg N wcap i E (by omega) hwc (by omega) W (hW.below hX hW.1)
  have hxor : ∀ (A : List Nat) (i : Nat) (W : World), A.length = 16 → Ok A → Calls Try.prog 36 #[.string (tx A), .string (tx (rk E i))] W fun e w' => e = .returned (.string (tx (xorN 16 A (rk E i)))) ∧ Below W.heap.size W w' := fun A i W hl ho => by
    have := xor_any (tx A) (tx (rk E i)) 16 (by rw [tx_size, hl]) (by rw [tx_size, rk, mk_length]; exact Nat.le_refl _) (by decide) W
    rwa [nb_tx A ho, nb_tx _ (rk_ok E i hE)] at this
  obtain ⟨sv, hsv⟩ : ∃ sv : Value, sv = .slice (some ⟨sg, 0, none⟩) 256 256 := ⟨_, rfl⟩
  obtain ⟨wv, hwv⟩ : ∃ wv : Value, wv = .slice (some ⟨wg, 0, none⟩) N wcap := ⟨_, rfl⟩
  rw [← hsv, ← hwv] at hkey ⊢
  have HK : Hid _ := hkey
  have HX : Hid _ := hxor
  have HTab : Hid (Tab w sg gsub) := hT
  clear hkey hxor hW hT
  have td : (N : Int).tdiv 4 = ((R + 1 : Nat) : Int) := by rw [Int.tdiv_eq_ediv_of_nonneg (by omega)]; omega
  obtain ⟨R1, hR1⟩ : ∃ R1, R1 = R + 1 := ⟨_, rfl⟩
  rw [← hR1] at td
  have td2 : (R1 : Int) - 1 = (R : Int) := by omega
  have HWV : Hid (wv = .slice (some ⟨wg, 0, none⟩) N wcap) := hwv
  have HSV : Hid (sv = .slice (some ⟨sg, 0, none⟩) 256 256) := hsv
  obtain ⟨i0, hi, hz0, hz1, hz2⟩ := info_parts info256
  have hzl : zer256.length = 256 := List.length_replicate
  generalize zer256 = Z at *
  have hB0 := (Blk.new w 37 [sv, wv] _ rfl).alloc (.cells (by8 Z).toArray 64)
  have hBB0 := Blk.new (w.alloc (.cells #[sv, wv] 37)) 64 (by8 Z) _ rfl
  rw [World.size_alloc] at hBB0
  have hX0 : Below w.heap.size w ((w.alloc (.cells #[sv, wv] 37)).alloc (.cells (by8 Z).toArray 64)) := ((Below.refl _ _).alloc (Nat.le_refl _) _).alloc (by simp) _
  have HBS : Hid (blk.size = 16) := hb
  have HR1 : Hid (R1 = R + 1) := hR1
  have HN : Hid (N = 4 * (R + 1)) := hN
  have rb : R1 ≤ 101 := by omega
  have nbd : N ≤ 404 := by omega
  clear hb hN hR1 hwv hsv
  have hlen : ∀ u, (Builtin.len_ #[35] 3 #[wv]).run Try.prog u = .ok (.int .i64 (N : Int)) u := fun u => by rw [HWV.out]; rfl
  have hlen2 : ∀ u, (Builtin.len_ #[33] 3 #[sv]).run Try.prog u = .ok (.int .i64 256) u := fun u => by rw [HSV.out]; rfl
  go_enter Try.func25, Try.ntmps25
  go_wp2_with (refine wpList_new_blk rfl 64 rfl (by8 Z) i0 hi _ hz0 rfl ?_)
  obtain ⟨w0, hw0⟩ : ∃ x, x = (w.alloc (.cells #[sv, wv] 37)).alloc (.cells (by8 Z).toArray 64) := ⟨_, rfl⟩
  rw [← hw0] at hB0 hBB0 hX0 ⊢
  obtain ⟨ab, hab⟩ : ∃ x, x = w.heap.size := ⟨_, rfl⟩
  rw [← hab] at hB0 hBB0 ⊢
  have HAB : Hid (ab = w.heap.size) := hab
  obtain ⟨bb, hbb⟩ : ∃ x, x = ab + 1 := ⟨_, rfl⟩
  rw [← hbb] at hBB0 ⊢
  have HBB : Hid (bb = ab + 1) := hbb
  have ax : ab ≠ bb := by omega
  have ay : w.heap.size ≤ ab := by omega
  have az : w.heap.size ≤ bb := by omega
  clear hw0 hab hbb
  go_loopw [25] (fun i wr => ∃ (k : Nat) (T : List Nat), k ≤ 256 ∧ i = .int .i64 k ∧ Bks T k ∧ Blk wr ab 37 [sv, wv] ∧ Blk wr bb 64 (by8 T) ∧ Below w.heap.size w wr) (fun i _ => 256 - (intOf i).toNat)
  case atStart => exact ⟨0, Z, by omega, rfl, ⟨hzl, fun x hx => by omega⟩, hB0, hBB0, hX0⟩
  case round =>
    clear hB0 hBB0 hX0
    obtain ⟨k, T, hk, rfl, hBk, hB, hBB, hnx⟩ := hrel
    by_cases hk2 : k < 256
    · have d0 : decide ((k : Int) < 256) = true := by simp; omega
      have hix : ∀ u, (Instr.indexAt 33 sv (.int .i64 (k : Int))).run Try.prog u = .ok (.pointer (some ⟨sg, k, none⟩)) u := fun u => by
        obtain ⟨j0, hj, _, hj1, _⟩ := info_parts infoY
        rw [HSV.out]
        simp [Instr.indexAt, asIntOf, run_underlying Try.underlying33, sizeOf, typeInfo, hj, hj1, hk2, Addr.add_mid]
      have c1 := (HTab.out.below hnx HTab.out.1).2 k hk2
      have HST : Hid _ := hBk.step hk2
      have hTl := hBk.1
      have hs := gsub_lt k
      have hw : (k : Int) % 256 = (k : Int) := by omega
      have k0 : (0 : Int) ≤ (k : Int) := by omega
      have kz : (k : Int) < 256 := by omega
      clear hBk
      generalize gsub k = s at *
      have c2 := hBB.cell s _ (by8_get T s (by omega))
      have f2 := hBB.frozen s
      have hBB2 := hBB.set s (.int .u8 (k : Int))
      rw [by8_set] at hBB2
      have HBB2 : Hid _ := hBB2
      have hB2 := hB.other (a := ⟨bb, s, none⟩) ax (.int .u8 (k : Int))
      have HB2 : Hid _ := hB2
      clear hBB2 hB2
      have s0 : (0 : Int) ≤ (s : Int) := by omega
      have sz : (s : Int) < 256 := by omega
      go_wp2_with fail
      go_roundw
      case rel => exact ⟨k + 1, _, by omega, by go_num, HST.out, HB2.out, HBB2.out, hnx.setCell az _⟩
      case measure => simp [intOf]; omega
    · obtain rfl : k = 256 := by omega
      rw [show ((256 : Nat) : Int) = 256 from rfl]
      have d0 : decide ((256 : Int) < 256) = false := by decide
      have hTl := hBk.1
      have HBA : Hid (∀ x, x < 256 → T.getD x 0 = gback x) := fun x hx => hBk.all x hx
      have HT0 : Hid (tx (stB E (nb blk) R 0) = blk) := by show _ = _; exact tx_nb blk
      have HR0 : Hid (R - 0 = R) := Nat.sub_zero R
      clear hBk
      go_wp2_with fail
      go_loopw [1, 9] (fun t i wr => ∃ j : Nat, j ≤ R ∧ i = .int .i64 ((R - j : Nat) : Int) ∧ t = .string (tx (stB E (nb blk) R j)) ∧ Blk wr ab 37 [sv, wv] ∧ Blk wr bb 64 (by8 T) ∧ Below w.heap.size w wr) (fun _ i _ => (intOf i).toNat)
      case atStart => exact ⟨0, by omega, rfl, by rw [HT0.out], hB, hBB, hnx⟩
      case round =>
        clear hB hBB hnx
        obtain ⟨j, hj, rfl, rfl, hB, hBB, hnx⟩ := hrel
        have hbl := hB.lt
        have hbbl := hBB.lt
        obtain ⟨i, hi'⟩ : ∃ i, i = R - j := ⟨_, rfl⟩
        rw [← hi']
        by_cases hjR : j < R
        · have d1 : decide ((i : Int) > 0) = true := by simp; omega
          have ib : i ≤ R := by omega
          have HSt := stB_step E (nb blk) R j hj
          rw [← hi'] at HSt
          have hSl := stB_len E (nb blk) R hBl j
          have hSo := stB_ok E (nb blk) R hBo j
          have fk := HK.out i
          have fx := HX.out (stB E (nb blk) R j) i
          have hxl : (xorN 16 (stB E (nb blk) R j) (rk E i)).length = 16 := mk_length _ _
          have hxo := xorN_ok 16 (stB E (nb blk) R j) (rk E i) hSo (rk_ok E i hE)
          obtain ⟨S', HS'⟩ : ∃ S', Hid (S' = stB E (nb blk) R (j + 1)) := ⟨_, rfl⟩
          rw [← HS'.out] at HSt
          have HStep : Hid _ := HSt
          clear HSt
          generalize xorN 16 (stB E (nb blk) R j) (rk E i) = x at *
          generalize stB E (nb blk) R j = S at *
          obtain ⟨ST, hST⟩ : ∃ q, Hid (tx S = q) := ⟨_, rfl⟩
          rw [hST.out] at fx ⊢
          have i0 : (0 : Int) < (i : Int) := by omega
          have HI : Hid (i = R - j) := hi'
          clear hi'
          have fk1 := fk
          generalize tx (rk E i) = Kk at *
          obtain ⟨XT, hXT⟩ : ∃ q, Hid (tx x = q) := ⟨_, rfl⟩
          rw [hXT.out] at fx
          go_wp2_with (first
            | (refine wpList_load_blk rfl 37 (.tmp 2) rfl ab 0 rfl hB [sv, wv] rfl _ Try.underlying37 rfl infoAES ?_)
            | (go_at_call 48; with_reducible refine (fk _ ib hnx).mono ?_; rintro e w2 ⟨rfl, hb2⟩)
            | (go_at_call 36; with_reducible refine (fx _ hSl hSo).mono ?_; rintro e w3 ⟨rfl, hb3⟩))
          have k2 := hnx.trans (hb2.mono hnx.size)
          have k3 := k2.trans (hb3.mono k2.size)
          have hB3 := (hB.below hb2 hbl).below hb3 (Nat.lt_of_lt_of_le hbl hb2.size)
          have hBB3 := (hBB.below hb2 hbbl).below hb3 (Nat.lt_of_lt_of_le hbbl hb2.size)
          clear hB hBB hnx hb2 hb3 k2 fk fx fk1
          go_loopw [1, 45] (fun t q wr => ∃ n : Nat, n ≤ 3 ∧ q = .int .i64 n ∧ t = .string (tx (mxB x j n)) ∧ Blk wr ab 37 [sv, wv] ∧ Blk wr bb 64 (by8 T) ∧ Below w.heap.size w wr) (fun _ q _ => 3 - (intOf q).toNat)
          case atStart =>
            refine ⟨0, by omega, rfl, ?_, hB3, hBB3, k3⟩
            rw [← hXT.out]
            unfold mxB
            split <;> rfl
          case round =>
            clear hB3 hBB3 k3
            obtain ⟨n, hn, rfl, rfl, hB1, hBB1, hX1⟩ := hrel
            have hMl := mxB_len x hxl j n
            have hMo := mxB_ok x hxo j n
            by_cases hn3 : n < 3
            · have d2' : decide ((n : Int) < 3) = true := by simp; omega
              have HNx : Hid (j ≠ 0 → mixN (mxB x j n) = mxB x j (n + 1)) := mxB_next x j n
              have HFi : Hid (j = 0 → mxB x j n = mxB x j (n + 1)) := fun h => by rw [h]; rfl
              generalize mxB x j n = M at *
              have hMs : (tx M).size = 16 := by rw [tx_size, hMl]
              have hXl : (mixN M).length = 16 := mk_length _ _
              obtain ⟨X, hXM⟩ : ∃ q, Hid (mixN M = q) := ⟨_, rfl⟩
              rw [hXM.out] at hXl HNx
              obtain ⟨MT, hMT⟩ : ∃ q, Hid (tx M = q) := ⟨_, rfl⟩
              rw [hMT.out] at hMs ⊢
              go_wp2_with fail
              go_loopw [10, 47] (fun t q wq => ∃ c : Nat, c ≤ 4 ∧ q = .int .i64 c ∧ t = .string (tx (X.take (4 * c))) ∧ Blk wq ab 37 [sv, wv] ∧ Below w.heap.size w wq ∧ Blk wq bb 64 (by8 T)) (fun _ q _ => 4 - (intOf q).toNat)
              case atStart => exact ⟨0, by omega, rfl, rfl, hB1, hX1, hBB1⟩
              case round =>
                clear hB1 hX1 hBB1
                obtain ⟨c, hc4, rfl, rfl, hB, hnx, hBB⟩ := hrel
                by_cases hc : c < 4
                · have d2 : decide ((c : Int) < 4) = true := by simp; omega
                  obtain ⟨lo, hlo⟩ : ∃ q, q = 4 * c := ⟨_, rfl⟩
                  obtain ⟨hh, hhi⟩ : ∃ q, q = lo + 4 := ⟨_, rfl⟩
                  have el : 4 * (c : Int) = (lo : Int) := by omega
                  have eh : (lo : Int) + 4 = (hh : Int) := by omega
                  have hcx := tx_col M c hMl hc
                  rw [← hlo, ← hhi] at hcx
                  have lb1 : (0 : Int) ≤ (lo : Int) := by omega
                  have lb2 : (lo : Int) ≤ (hh : Int) := by omega
                  have lb3 : (0 : Int) ≤ (hh : Int) := by omega
                  have lb4 : (hh : Int) ≤ 16 := by omega
                  have wl1 := wrap_small lo (by omega)
                  have wl2 := wrap_small hh (by omega)
                  have hcl4 : (colN M c).length = 4 := mk_length _ _
                  have hco := colN_ok M c hMo
                  have hCs : (tx (colN M c)).size = 4 := by rw [tx_size, hcl4]
                  have hCn : Hid (nb (tx (colN M c)) = colN M c) := nb_tx _ hco
                  obtain ⟨cl, hcM⟩ : ∃ q, Hid (colN M c = q) := ⟨_, rfl⟩
                  rw [hcM.out] at hcx hco hCs hCn hcl4
                  obtain ⟨CT, hCT⟩ : ∃ q, Hid (tx cl = q) := ⟨_, rfl⟩
                  rw [hCT.out] at hcx hCs hCn
                  have hgb := PlainAid.get_bt CT
                  have HLO : Hid (lo = 4 * c) := hlo
                  clear hlo hhi
                  rw [hMT.out] at hcx
                  obtain ⟨TY, HTY⟩ : ∃ q, Hid (tx (X.take (4 * c)) = q) := ⟨_, rfl⟩
                  rw [HTY.out]
                  go_wp2_with fail
                  rw [← HTY.out]
                  go_loopw [10, 57] (fun t q wq => ∃ r : Nat, r ≤ 4 ∧ q = .int .i64 r ∧ t = .string (tx (X.take (4 * c + r))) ∧ Blk wq ab 37 [sv, wv] ∧ Below w.heap.size w wq ∧ Blk wq bb 64 (by8 T)) (fun _ q _ => 4 - (intOf q).toNat)
                  case atStart => exact ⟨0, by omega, rfl, rfl, hB, hnx, hBB⟩
                  case round =>
                    clear hB hnx hBB
                    obtain ⟨r, hr, rfl, rfl, hB, hnx, hBB⟩ := hrel
                    have hbl := hB.lt
                    have hnz := hnx.size
                    by_cases hr4 : r < 4
                    · have d3 : decide ((r : Int) < 4) = true := by simp; omega
                      have e1 : ((r : Int) + 1).tmod 4 = (((r + 1) % 4 : Nat) : Int) := by rw [Int.tmod_eq_emod_of_nonneg (by omega)]; omega
                      have e2 : ((r : Int) + 2).tmod 4 = (((r + 2) % 4 : Nat) : Int) := by rw [Int.tmod_eq_emod_of_nonneg (by omega)]; omega
                      have e3 : ((r : Int) + 3).tmod 4 = (((r + 3) % 4 : Nat) : Int) := by rw [Int.tmod_eq_emod_of_nonneg (by omega)]; omega
                      have l1 : (r + 1) % 4 < 4 := by omega
                      have l2 : (r + 2) % 4 < 4 := by omega
                      have l3 : (r + 3) % 4 < 4 := by omega
                      have v0 : PlainAid.bt CT r = ((cl.getD r 0 : Nat) : Int) := by rw [bt_nb CT r (by omega), hCn.out]
                      have v1 : PlainAid.bt CT ((r + 1) % 4) = ((cl.getD ((r + 1) % 4) 0 : Nat) : Int) := by rw [bt_nb CT _ (by omega), hCn.out]
                      have v2 : PlainAid.bt CT ((r + 2) % 4) = ((cl.getD ((r + 2) % 4) 0 : Nat) : Int) := by rw [bt_nb CT _ (by omega), hCn.out]
                      have v3 : PlainAid.bt CT ((r + 3) % 4) = ((cl.getD ((r + 3) % 4) 0 : Nat) : Int) := by rw [bt_nb CT _ (by omega), hCn.out]
                      have HS := ref_stir cl hco r hr4
                      have HM := mix_col M c r hr4 hc
                      rw [hcM.out] at HM
                      rw [HM] at HS
                      have hXr : 4 * c + r < X.length := by omega
                      have HT := tx_more X (4 * c + r) hXr
                      rw [hXM.out] at HS
                      rw [← HS] at HT
                      have b0 := hco.get r
                      have b1 := hco.get ((r + 1) % 4)
                      have b2 := hco.get ((r + 2) % 4)
                      have b3 := hco.get ((r + 3) % 4)
                      clear HS HM
                      generalize (r + 1) % 4 = m1 at *
                      generalize (r + 2) % 4 = m2 at *
                      generalize (r + 3) % 4 = m3 at *
                      generalize cl.getD r 0 = a0 at *
                      generalize cl.getD m1 0 = a1 at *
                      generalize cl.getD m2 0 = a2 at *
                      generalize cl.getD m3 0 = a3 at *
                      have G1 : ∀ W, Calls Try.prog 35 #[.int .u8 a0, .int .u8 2] W fun e w' => e = .returned (.int .u8 (gm a0 2)) ∧ Below W.heap.size W w' := mulB a0 2 b0 (by decide)
                      have G2 : ∀ W, Calls Try.prog 35 #[.int .u8 a1, .int .u8 3] W fun e w' => e = .returned (.int .u8 (gm a1 3)) ∧ Below W.heap.size W w' := mulB a1 3 b1 (by decide)
                      have g0 := gm_lt a0 2
                      have g1 := gm_lt a1 3
                      generalize gm a0 2 = T0 at *
                      generalize gm a1 3 = T1 at *
                      have x1 := xor8 _ _ g0 g1
                      have y1 := xor_lt g0 g1
                      generalize T0 ^^^ T1 = X1 at *
                      have x2 := xor8 _ _ y1 b2
                      have y2 := xor_lt y1 b2
                      generalize X1 ^^^ a2 = X2 at *
                      have x3 := xor8 _ _ y2 b3
                      have y3 := xor_lt y2 b3
                      generalize X2 ^^^ a3 = X3 at *
                      have F3 := chr8 X3 y3
                      have s1 : (tx (X.take (4 * c + r))).size = 4 * c + r := by rw [tx_size, List.length_take]; omega
                      have s2 : (tx [X3]).size = 1 := tx_size _
                      have HT' : Hid _ := HT
                      clear HT
                      generalize tx [X3] = Z at *
                      generalize tx (X.take (4 * c + r)) = T at *
                      have F1 : Hid (∀ y : Up wr, Calls Try.prog 35 #[.int .u8 a0, .int .u8 2] y.1 fun e w' => e = .returned (.int .u8 T0) ∧ Below y.1.heap.size y.1 w') := fun y => G1 y.1
                      have F2 : Hid (∀ y : Up wr, Calls Try.prog 35 #[.int .u8 a1, .int .u8 3] y.1 fun e w' => e = .returned (.int .u8 T1) ∧ Below y.1.heap.size y.1 w') := fun y => G2 y.1
                      clear G1 G2 g0 g1 y1 y2
                      have r0 : (0 : Int) ≤ (r : Int) := by omega
                      have rz : (r : Int) < 4 := by omega
                      have rn : r < CT.size := by omega
                      have z1 : (m1 : Int) < 4 := by omega
                      have n1 : m1 < CT.size := by omega
                      have z2 : (m2 : Int) < 4 := by omega
                      have n2 : m2 < CT.size := by omega
                      have z3 : (m3 : Int) < 4 := by omega
                      have n3 : m3 < CT.size := by omega
                      have hne := Up.some wr
                      go_wp2_with fail
                      refine wp_region_up (by kernel_rfl) (by kernel_rfl) ?_
                      repeat (go_big_quiet_step (first | (with_reducible exact calls_up (F1.out _)) | (with_reducible exact calls_up (F2.out _))))
                      refine wpQuiet_nil ?_
                      rintro w1' ⟨y1', rfl⟩
                      clear F1 F2 hne
                      go_wp2_with (go_at_call 38; with_reducible refine (F3 _).mono ?_; rintro e w2' ⟨rfl, hb2'⟩)
                      have k1 := hnx.trans (y1'.2.mono hnz)
                      have k2 := k1.trans (hb2'.mono k1.size)
                      have hB2 := (hB.below y1'.2 hbl).below hb2' (Nat.lt_of_lt_of_le hbl y1'.2.size)
                      have hBB2 := (hBB.below y1'.2 hBB.lt).below hb2' (Nat.lt_of_lt_of_le hBB.lt y1'.2.size)
                      go_roundw
                      case rel => exact ⟨r + 1, by omega, by go_num, by rw [HT'.out]; rfl, hB2, k2, hBB2⟩
                      case measure => simp [intOf]; omega
                    · obtain rfl : r = 4 := by omega
                      have d3 : decide (((4 : Nat) : Int) < 4) = false := by decide
                      rw [show 4 * c + 4 = 4 * (c + 1) from by omega]
                      obtain ⟨TX, HTX⟩ : ∃ TX, Hid (TX = tx (X.take (4 * (c + 1)))) := ⟨_, rfl⟩
                      rw [← HTX.out]
                      go_wp2_with fail
                      go_roundw
                      case rel => exact ⟨c + 1, by omega, by go_num, by rw [HTX.out], hB, hnx, hBB⟩
                      case measure => simp [intOf]; omega
                · obtain rfl : c = 4 := by omega
                  have d2 : decide (((4 : Nat) : Int) < 4) = false := by decide
                  rw [List.take_of_length_le (by omega)]
                  obtain ⟨TX, HTX⟩ : ∃ q, Hid (tx X = q) := ⟨_, rfl⟩
                  rw [HTX.out]
                  by_cases hj0 : j = 0
                  · have hRi : (i : Int) = (R : Int) := by have := HI.out; omega
                    have d4 : decide ((i : Int) < (R : Int)) = false := by simp; omega
                    have HE2 := HFi.out hj0
                    have HJ0 : Hid (j = 0) := hj0
                    have hge : (R : Int) ≤ (i : Int) := by omega
                    clear hj0 hRi
                    go_wp2_with fail
                    go_roundw
                    case rel => exact ⟨n + 1, by omega, by go_num, by rw [← HE2, hMT.out], hB, hBB, hnx⟩
                    case measure => simp [intOf]; omega
                  · have d4 : decide ((i : Int) < (R : Int)) = true := by have := HI.out; simp; omega
                    have HE2 := HNx.out hj0
                    have hge : (i : Int) < (R : Int) := by have := HI.out; omega
                    go_wp2_with fail
                    go_roundw
                    case rel => exact ⟨n + 1, by omega, by go_num, by rw [← HE2, HTX.out], hB, hBB, hnx⟩
                    case measure => simp [intOf]; omega
            · obtain rfl : n = 3 := by omega
              have d2' : decide (((3 : Nat) : Int) < 3) = false := by decide
              have hSt := HStep.out
              generalize mxB x j 3 = M at *
              have hMs : (tx M).size = 16 := by rw [tx_size, hMl]
              have hMn : Hid (nb (tx M) = M) := nb_tx M hMo
              obtain ⟨MT, hMT⟩ : ∃ q, Hid (tx M = q) := ⟨_, rfl⟩
              rw [hMT.out] at hMs hMn ⊢
              have hgb := PlainAid.get_bt MT
              have hl1 := hB1.lt
              have hl2 := hBB1.lt
              obtain ⟨mb, hmb⟩ : ∃ q, q = wr.heap.size := ⟨_, rfl⟩
              have hV0 := Blk.new wr 61 (by8 zer16) _ rfl
              have hB4 := hB1.alloc (.cells (by8 zer16).toArray 61)
              have hBB4 := hBB1.alloc (.cells (by8 zer16).toArray 61)
              have hX4 := hX1.alloc hX1.size (.cells (by8 zer16).toArray 61)
              have hX1s := hX1.size
              rw [← hmb] at hV0 hl1 hl2 hX1s
              go_wp2_with fail
              rw [← hmb]
              obtain ⟨w4, hw4⟩ : ∃ q, q = wr.alloc (.cells (by8 zer16).toArray 61) := ⟨_, rfl⟩
              rw [← hw4] at hV0 hB4 hBB4 hX4
              have e4 : wr.alloc (.cells #[.int .u8 0, .int .u8 0, .int .u8 0, .int .u8 0, .int .u8 0, .int .u8 0, .int .u8 0, .int .u8 0, .int .u8 0, .int .u8 0, .int .u8 0, .int .u8 0, .int .u8 0, .int .u8 0, .int .u8 0, .int .u8 0] 61) = w4 := hw4.symm
              rw [e4]
              clear hw4 e4 hB1 hBB1 hX1 hmb
              go_loopw [95] (fun q wr => ∃ (n : Nat) (V : List Nat), n ≤ 16 ∧ q = .int .i64 n ∧ Mvd M V n ∧ Blk wr mb 61 (by8 V) ∧ Blk wr ab 37 [sv, wv] ∧ Blk wr bb 64 (by8 T) ∧ Below w.heap.size w wr) (fun q _ => 16 - (intOf q).toNat)
              case atStart => exact ⟨0, zer16, by omega, rfl, ⟨rfl, fun q hq => by omega⟩, hV0, hB4, hBB4, hX4⟩
              case round =>
                clear hV0 hB4 hBB4 hX4
                obtain ⟨n, V, hn', rfl, hMv, hV, hB, hBB, hnx⟩ := hrel
                by_cases hn16 : n < 16
                · have d5 : decide ((n : Int) < 16) = true := by simp; omega
                  obtain ⟨r, hr⟩ : ∃ r, r = 5 * n % 16 := ⟨_, rfl⟩
                  have e1 : (5 * (n : Int)).tmod 16 = (r : Int) := by rw [Int.tmod_eq_emod_of_nonneg (by omega), hr]; omega
                  have v0 : PlainAid.bt MT n = ((M.getD n 0 : Nat) : Int) := by rw [bt_nb MT n (by omega), hMn.out]
                  have b0 := hMo.get n
                  have hst := hMv.step hn16
                  rw [← hr] at hst
                  have HST : Hid _ := hst
                  have hVl := hMv.1
                  have c1 := hBB.cell (M.getD n 0) _ (by8_get T (M.getD n 0) (by omega))
                  rw [HBA.out _ b0] at c1
                  have c2 := hV.cell r _ (by8_get V r (by omega))
                  have f2 := hV.frozen r
                  have hrl : r < 16 := by omega
                  have HRR : Hid (r = 5 * n % 16) := hr
                  clear hr hst hMv
                  generalize M.getD n 0 = xx at *
                  generalize gback xx = gb at *
                  have hV2 := hV.set r (.int .u8 (gb : Int))
                  rw [by8_set] at hV2
                  have HV2 : Hid _ := hV2
                  clear hV2
                  have n0 : (0 : Int) ≤ (n : Int) := by omega
                  have nz : (n : Int) < 16 := by omega
                  have ns : n < MT.size := by omega
                  have r0 : (0 : Int) ≤ (r : Int) := by omega
                  have rz : (r : Int) < 16 := by omega
                  have x0 : (0 : Int) ≤ (xx : Int) := by omega
                  have xz : (xx : Int) < 256 := by omega
                  go_wp2_with fail
                  go_roundw
                  case rel => exact ⟨n + 1, _, by omega, by go_num, HST.out, HV2.out, hB.other (by show ab ≠ mb; omega) _, hBB.other (by show bb ≠ mb; omega) _, hnx.setCell (by show w.heap.size ≤ mb; omega) _⟩
                  case measure => simp [intOf]; omega
                · obtain rfl : n = 16 := by omega
                  have d5 : decide (((16 : Nat) : Int) < 16) = false := by decide
                  have hVE := hMv.all
                  rw [← hSt] at hVE
                  have hVl := hMv.1
                  rw [hVE] at hV hVl
                  have hS'o : Ok S' := by rw [hSt]; exact backN_ok _
                  have hcv := conv_row (B := 0) (cap := 16) (n := 16) ⟨by rw [by8_length, hVl], Nat.zero_le _, hV.lt, Nat.le_refl _, hV.range 0 _ (by simp), by have := hV.there; rw [by8_length, hVl] at this; exact this⟩ hS'o
                  have hsw := sl_a16 mb
                  have e6 : (i : Int) - 1 = ((R - (j + 1) : Nat) : Int) := by have := HI.out; omega
                  have HME : Hid (R - (j + 1) < i) := by show _ < _; have := HI.out; omega
                  obtain ⟨i', HI'⟩ : ∃ q, Hid (q = R - (j + 1)) := ⟨_, rfl⟩
                  rw [← HI'.out] at e6 HME
                  obtain ⟨TS, HTS⟩ : ∃ q, Hid (tx S' = q) := ⟨_, rfl⟩
                  rw [HTS.out] at hcv
                  clear hSt hMv
                  go_wp2_with fail
                  go_roundw
                  case rel => exact ⟨j + 1, by omega, by rw [HI'.out], by rw [← HTS.out, HS'.out], hB, hBB, hnx⟩
                  case measure => have := HME.out; simp [intOf]; omega
        · obtain rfl : j = R := by omega
          obtain rfl : i = 0 := by omega
          have d1 : decide (((0 : Nat) : Int) > 0) = false := by decide
          have g1 := HK.out 0 wr (by omega) hnx
          have g2 := HX.out (stB E (nb blk) j j) 0
          have hSl := stB_len E (nb blk) j hBl j
          have hSo := stB_ok E (nb blk) j hBo j
          have HF : Hid (xorN 16 (stB E (nb blk) j j) (rk E 0) = dec E j (nb blk)) := by
            show _ = _
            obtain ⟨m, rfl⟩ : ∃ m, j = m + 1 := ⟨j - 1, by omega⟩
            rfl
          rw [HF.out] at g2
          have g1' : Calls Try.prog 48 #[.agg #[sv, wv], .int .i64 0] wr fun e w' => e = .returned (.string (tx (rk E 0))) ∧ Below wr.heap.size wr w' := g1
          generalize tx (rk E 0) = Kk at *
          generalize stB E (nb blk) j j = S at *
          obtain ⟨TS, HTS⟩ : ∃ q, Hid (tx (dec E j (nb blk)) = q) := ⟨_, rfl⟩
          rw [HTS.out] at g2
          generalize tx S = ST at *
          clear hi' g1
          go_wp2_with (first
            | (refine wpList_load_blk rfl 37 (.tmp 2) rfl ab 0 rfl hB [sv, wv] rfl _ Try.underlying37 rfl infoAES ?_)
            | (go_at_call 48; with_reducible refine g1'.mono ?_; rintro e w2 ⟨rfl, hb2⟩)
            | (go_at_call 36; with_reducible refine (g2 _ hSl hSo).mono ?_; rintro e w3 ⟨rfl, hb3⟩))
          go_ret
          have k2 := hnx.trans (hb2.mono hnx.size)
          exact ⟨by rw [HTS.out]; rfl, k2.trans (hb3.mono k2.size)⟩
end Go.Proofs.Ytgfcbmajgaeadaa.aes
