/-
  THE WALKS OF package kdf's block (K) and xored, over whatever digest.
-/
import Derived.Test.YtmkhojaddedpfaaDoorPlainKdf
import Derived.Test.YtmkhojaddedpfaaDoorConv
import Derived.Test.YtmkhojaddedpfaaDoorSoft
import Derived.Test.YtmkhojaddedpfaaDoorBut
import Derived.Test.YtmkhojaddedpfaaDoorBlakeText
import Derived.OwnWalk
namespace Go.Proofs.YtmkhojaddedpfaaDoor.kdf
open Go.RowKit
open Go.Proofs.YtmkhojaddedpfaaDoor.soft
open Go.Proofs.YtmkhojaddedpfaaDoor.ghs (tb tb_lt mkl mkl_length mkl_get upl upl_length upl_all)

def z64 : List Nat := List.replicate 64 0
theorem infoBLz : (Tryd.prog.info? 65).map (fun i => (i.zero, i.size, i.bytes)) = some (some (.agg (by8 z64).toArray), 64, 64) := by kernel_rfl
theorem infoBL : (Tryd.prog.info? 65).map (·.size) = some 64 := by kernel_rfl
theorem infoU8s : (Tryd.prog.info? 5).map (·.size) = some 1 := by kernel_rfl
theorem upl_at (l : List Nat) (f : Nat → Nat) : ∀ k j, k ≤ j → (upl l f k).getD j 0 = l.getD j 0
  | 0, _, _ => rfl
  | k + 1, j, h => by
    rw [upl, List.getD_eq_getElem?_getD, List.getElem?_set_ne (by omega), ← List.getD_eq_getElem?_getD, upl_at l f k j (by omega)]
theorem sl_all (b : Nat) (w : World) : (Instr.sliceAt 65 (.pointer (some ⟨b, 0, none⟩)) none none none).run Tryd.prog w = .ok (.slice (some ⟨b, 0, none⟩) 64 64) w := by
  obtain ⟨j0, hj, _, hj1, _⟩ := info_parts cv.infoU8
  simp [Instr.sliceAt, Instr.sureAddr, run_underlying Tryd.underlying65, Instr.sliceBounds, sizeOf, typeInfo, hj, Addr.add_mid]

set_option maxRecDepth 100000 in
set_option maxHeartbeats 1600000 in
theorem xored_any (l : List Nat) (hl : l.length = 64) (ok : ∀ x ∈ l, x < 256) (x : Nat) (hx : x < 256) (w : World) :
    Calls Tryd.prog 24 #[.agg (by8 l).toArray, .int .u8 (x : Nat)] w fun e w' => e = .returned (.string (tx (xd l x))) ∧ Below w.heap.size w w' := by
  have hB : Blk (w.alloc (.cells (by8 l).toArray 65)) w.heap.size 65 (by8 l) := Blk.new w 65 (by8 l) _ rfl
  have hX : Below w.heap.size w (w.alloc (.cells (by8 l).toArray 65)) := (Below.refl _ _).alloc (Nat.le_refl _) _
  obtain ⟨G, HG⟩ : ∃ G : Nat → Nat, Hid (G = fun i => l.getD i 0 ^^^ x) := ⟨_, rfl⟩
  have HE : Hid (mkl 64 G = xd l x) := by
    show _ = _
    refine ghs.tx_ext (by rw [mkl_length, xd_length, hl]) fun j hj => ?_
    rw [mkl_length] at hj
    rw [mkl_get _ _ _ hj, HG.out]
    show l.getD j 0 ^^^ x = (l.map (· ^^^ x)).getD j 0
    rw [List.getD_eq_getElem?_getD, List.getD_eq_getElem?_getD, List.getElem?_map, List.getElem?_eq_getElem (show j < l.length by omega)]
    rfl
  have okx := xd_lt ok hx
  have bd : ∀ j, l.getD j 0 < 256 := fun j => by
    rw [List.getD_eq_getElem?_getD]
    cases h : l[j]? with
    | none => show 0 < 256; decide
    | some y => exact ok y (List.mem_of_getElem? h)
  have sw := sl_all w.heap.size
  go_enter Tryd.func24, Tryd.ntmps24
  go_wp2_with fail
  go_loopw [6] (fun i wr => ∃ k : Nat, k ≤ 64 ∧ i = .int .i64 k ∧ Blk wr w.heap.size 65 (by8 (upl l G k)) ∧ Below w.heap.size w wr) (fun i _ => 64 - (intOf i).toNat)
  case atStart => exact ⟨0, by omega, rfl, hB, hX⟩
  case round =>
    clear hB hX
    obtain ⟨k, hk, rfl, hA, hnx⟩ := hrel
    by_cases hlt : k < 64
    · have d0 : decide ((k : Int) < 64) = true := by simp; omega
      have lU := upl_length l G k
      have q1 := hA.cell k _ (by8_get _ k (by omega))
      rw [upl_at l G k k (Nat.le_refl _)] at q1
      have z1 := hA.frozen k
      have HU : Hid (upl l G (k + 1) = (upl l G k).set k (l.getD k 0 ^^^ x)) := by show _ = _; rw [upl, HG.out]
      have b1 := bd k
      have t1 := cv.xor8 _ _ b1 hx
      have p0 : (0 : Int) ≤ (k : Int) := by omega
      have p1 : (k : Int) < 64 := by omega
      generalize l.getD k 0 ^^^ x = y at *
      generalize l.getD k 0 = v at *
      generalize upl l G k = L at *
      go_wp2_with fail
      go_roundw
      case rel => exact ⟨k + 1, by omega, by go_num, by rw [HU.out, ← by8_set]; exact hA.set k _, hnx.setCell (by simp) _⟩
      case measure => simp [intOf]; omega
    · obtain rfl : k = 64 := by omega
      have d0 : decide (((64 : Nat) : Int) < 64) = false := by decide
      rw [show ((64 : Nat) : Int) = 64 from rfl] at d0 ⊢
      rw [upl_all l G 64 hl, HE.out] at hA
      have hcv := cv.conv_blk hA (by rw [xd_length, hl]) okx 64
      obtain ⟨T, HT⟩ : ∃ T, Hid (T = tx (xd l x)) := ⟨_, rfl⟩
      rw [← HT.out] at hcv
      go_wp2_with fail
      go_ret
      exact ⟨by rw [← HT.out]; rfl, hnx⟩

/-- A digest, as a function value: what it answers, in the worlds that have all that w has. -/
def Does (F : FuncId) (D : ByteArray → ByteArray) (w : World) : Prop := ∀ s W, s.size < 576460752303423488 → Below w.heap.size w W →
  Calls Tryd.prog F #[.string s] W fun e w' => e = .returned (.string (D s)) ∧ Below W.heap.size W w'
theorem Does.grown {F : FuncId} {D : ByteArray → ByteArray} {w w' : World} (h : Does F D w) (hb : Below w.heap.size w w') : Does F D w' := fun s W hs hW => h s W hs (hb.trans (hW.mono hb.size))
/-- It is entered. -/
def Goes (F : FuncId) : Prop := ∀ (args : Array Value) (W : World), (callFunc F args).run Tryd.prog W = .ok (.enter F args) W

theorem copied_kk (s : ByteArray) (h : s.size ≤ 64) : (by8 z64).take 0 ++ (by8 (nb s)).take 64 ++ (by8 z64).drop (0 + ((by8 (nb s)).take 64).length) = by8 (kk s) := by
  have lC : ((by8 (nb s)).take 64).length = s.size := by rw [List.length_take, by8_length, nb_length]; omega
  rw [List.take_zero, List.nil_append, Nat.zero_add, lC, ← by8_take, ← by8_drop, ← by8_append]
  refine congrArg by8 (ghs.tx_ext (by rw [List.length_append, List.length_take, nb_length, List.length_drop, kk_length]; show _ + (64 - s.size) = 64; omega) fun j hj => ?_)
  rw [List.length_append, List.length_take, nb_length, List.length_drop] at hj
  have hj : j < 64 := by have : z64.length = 64 := rfl; omega
  unfold kk
  rw [mkl_get _ _ _ hj]
  unfold tb
  by_cases c : j < s.size
  · rw [List.getD_eq_getElem?_getD, List.getElem?_append_left (by rw [List.length_take, nb_length]; omega), List.getElem?_take, if_pos hj, ← List.getD_eq_getElem?_getD]
  · rw [List.getD_eq_getElem?_getD, List.getElem?_append_right (by rw [List.length_take, nb_length]; omega), List.getElem?_drop]
    have e : (nb s).getD j 0 = 0 := by rw [List.getD_eq_getElem?_getD, List.getElem?_eq_none (by rw [nb_length]; omega)]; rfl
    rw [e]
    unfold z64
    rw [List.getElem?_replicate]
    split <;> rfl
/-- The copy into the fresh block. -/
theorem copied_in (w : World) (b : Nat) (s : ByteArray) (h : s.size ≤ 64) (Z D : List Value) (hZ : Hid (Z = by8 z64)) (hD : Hid (D = by8 (kk s))) (hN : Blk w b 65 Z) :
    ∃ W, (Builtin.copy_ #[63, 9] 3 #[.slice (some ⟨b, 0, none⟩) 64 64, .string s]).run Tryd.prog w = .ok (.int .i64 (s.size : Nat)) W ∧ Blk W b 65 D ∧ (∀ k t L, k ≠ b → Blk w k t L → Blk W k t L) ∧
      ∀ B a, B ≤ b → Below B a w → Below B a W := by
  have lC : ((by8 (nb s)).take 64).length = s.size := by rw [List.length_take, by8_length, nb_length]; omega
  rw [hZ.out] at hN
  have hc := run_copy_text (P := Tryd.prog) w 63 9 3 5 b 0 64 64 s ((by8 (nb s)).take 64) Tryd.underlying63 infoU8s rfl
      (fun j hj => by
        have hj2 : 0 + j < (by8 z64).length := by rw [by8_length]; show 0 + j < 64; omega
        rw [hN.cell (0 + j) ((by8 z64)[0 + j]'hj2) (List.getElem?_eq_getElem hj2)]; rfl) (fun j _ => hN.frozen _)
  rw [lC] at hc
  have hW := copied_of hN 0 ((by8 (nb s)).take 64) (by rw [lC, by8_length]; show 0 + s.size ≤ 64; omega)
  refine ⟨_, hc, ?_, fun k t L hk hL => ?_, fun B a hB ha => hW.below B a hB ha⟩
  · have := hW.blk
    rw [copied_kk s h, ← hD.out] at this
    exact this
  · unfold Blk at hL ⊢
    rw [hW.other k hk]
    exact hL

set_option maxRecDepth 100000 in
set_option maxHeartbeats 1600000 in
theorem block_any (F : FuncId) (D : ByteArray → ByteArray) (he : Goes F) (hD : ∀ s, (D s).size = 32) (key : ByteArray) (hk : key.size < 576460752303423488) (w : World) (hF : Does F D w) :
    Calls Tryd.prog 23 #[.func (.func F) #[] #[], .string key] w fun e w' => e = .returned (.agg (by8 (kk (kb D key))).toArray) ∧ Below w.heap.size w w' := by
  obtain ⟨i0, hi, hz0, hz1, hz2⟩ := info_parts infoBLz
  obtain ⟨Z, hZ⟩ : ∃ Z, Z = by8 z64 := ⟨_, rfl⟩
  have HZ : Hid (Z = by8 z64) := hZ
  have lZ : Z.length = 64 := by rw [hZ]; rfl
  rw [← hZ] at hz0
  have hR : Blk (w.alloc (.cells Z.toArray 65)) w.heap.size 65 Z := Blk.new w 65 Z _ rfl
  have hX : Below w.heap.size w (w.alloc (.cells Z.toArray 65)) := (Below.refl _ _).alloc (Nat.le_refl _) _
  clear hZ
  unfold Goes at he
  obtain ⟨C, HC⟩ : ∃ C, Hid (C = by8 (kk (kb D key))) := ⟨_, rfl⟩
  have lC : C.length = 64 := by rw [HC.out, by8_length, kk_length]
  have oC : C.toArray.all (·.oneCell') = true := by rw [HC.out]; exact by8_one _
  by_cases c : 64 < key.size
  · have e1 : kb D key = D key := if_pos c
    have f1 := hF key (w.alloc (.cells Z.toArray 65)) hk hX
    have h32 := hD key
    rw [e1] at HC ⊢
    rw [← HC.out]
    generalize D key = K at *
    have d0 : decide ((key.size : Int) > 64) = true := by simp; omega
    have d0' : decide ((64 : Int) < (key.size : Int)) = true := by simp; omega
    have c' : (64 : Int) < (key.size : Int) := by omega
    clear hF hD e1
    go_enter Tryd.func23, Tryd.ntmps23
    go_wp2_with (first
      | (refine wpList_alloc_blk rfl 65 rfl Z i0 hi _ hz0 rfl ?_)
      | (with_reducible refine f1.mono ?_; rintro e w1 ⟨rfl, hb1⟩; obtain ⟨W, hcp, hBW, hoW, hbW⟩ := copied_in (w1.alloc (.cells Z.toArray 65)) w1.heap.size K (by omega) Z C HZ HC (Blk.new w1 65 Z _ rfl); have sw := sl_all w1.heap.size
         have hs1 := hb1.size; rw [World.size_alloc] at hs1; have hRW := hoW w.heap.size 65 Z (by omega) ((hR.below hb1 hR.lt).alloc _); have hXW := hbW w.heap.size w (by omega) ((hX.trans (hb1.mono hX.size)).alloc (by omega) _))
      | (refine wpList_load_blk rfl 65 (.tmp 5) rfl w1.heap.size 0 rfl hBW C (by simp) _ Tryd.underlying65 rfl (by rw [lC]; exact infoBL) ?_)
      | (refine wpList_store_blk rfl 65 (.tmp 4) (.tmp 15) rfl w.heap.size C rfl rfl Z hRW (by rw [lC, lZ]) oC (by rw [lZ]; exact infoBL) ?_; intro W5 hW5))
    exact bodyPost_ret (results_blk1 Tryd.results23 _ rfl hW5.blk _ Tryd.underlying65 rfl (by rw [lC]; exact infoBL)) rfl ⟨rfl, hW5.below _ _ (by omega) hXW⟩
  · have e1 : kb D key = key := if_neg c
    rw [e1] at HC ⊢
    rw [← HC.out]
    have d0 : decide ((key.size : Int) > 64) = false := by simp; omega
    have d0' : decide ((64 : Int) < (key.size : Int)) = false := by simp; omega
    have c' : ¬ (64 : Int) < (key.size : Int) := by omega
    clear hF hD e1
    obtain ⟨W, hcp, hBW, hoW, hbW⟩ := copied_in ((w.alloc (.cells Z.toArray 65)).alloc (.cells Z.toArray 65)) (w.heap.size + 1) key (by omega) Z C HZ HC (by
      have h := Blk.new (w.alloc (.cells Z.toArray 65)) 65 Z _ rfl
      rw [World.size_alloc] at h
      exact h)
    have sw := sl_all (w.heap.size + 1)
    have hRW := hoW w.heap.size 65 Z (by omega) (hR.alloc _)
    have hXW := hbW w.heap.size w (by omega) (hX.alloc (by simp) _)
    go_enter Tryd.func23, Tryd.ntmps23
    go_wp2_with (first
      | (refine wpList_alloc_blk rfl 65 rfl Z i0 hi _ hz0 rfl ?_)
      | (refine wpList_load_blk rfl 65 (.tmp 5) rfl (w.heap.size + 1) 0 rfl hBW C (by simp) _ Tryd.underlying65 rfl (by rw [lC]; exact infoBL) ?_)
      | (refine wpList_store_blk rfl 65 (.tmp 4) (.tmp 15) rfl w.heap.size C rfl rfl Z hRW (by rw [lC, lZ]) oC (by rw [lZ]; exact infoBL) ?_; intro W5 hW5))
    exact bodyPost_ret (results_blk1 Tryd.results23 _ rfl hW5.blk _ Tryd.underlying65 rfl (by rw [lC]; exact infoBL)) rfl ⟨rfl, hW5.below _ _ (by omega) hXW⟩
end Go.Proofs.YtmkhojaddedpfaaDoor.kdf
