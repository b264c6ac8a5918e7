/-
  THE WALKS OF package ghash's number and read.
-/
import Derived.Test.YtibdlccaenanmaaGhashTimes
import Derived.Test.YtibdlccaenanmaaPlainGhashText
namespace Go.Proofs.Ytibdlccaenanmaa.ghs
open Go.RowKit

set_option maxHeartbeats 400000 in
theorem number_any (b o c : Nat) (f : Nat → Nat) (hf : ∀ j, f j < 256) (w : World) (hc : ∀ j, j < 8 → w.cell? ⟨b, o + j, none⟩ = some (.int .u8 (f j))) :
    Calls Try.prog 75 #[.slice (some ⟨b, o, none⟩) 8 c] w fun e w' => e = .returned (.int .u64 (bf f 8)) ∧ w' = w := by
  have HC : Hid (∀ j, j < 8 → w.cell? ⟨b, o + j, none⟩ = some (.int .u8 (f j))) := hc
  clear hc
  go_enter Try.func75, Try.ntmps75
  go_wp2_with fail
  go_loop [3, 8] (fun n i => ∃ k : Nat, k ≤ 8 ∧ i = .int .i64 k ∧ n = .int .u64 (bf f k)) (fun _ i => 8 - (intOf i).toNat)
  case atStart => exact ⟨0, by omega, rfl, rfl⟩
  case round =>
    obtain ⟨k, hk, rfl, rfl⟩ := hrel
    by_cases hlt : k < 8
    · have d0 : decide ((k : Int) < 8) = true := by simp; omega
      have hb := bf_lt hf k
      have h8 := hf k
      have hck := HC.out k hlt
      have hl : bf f k < 72057594037927936 := Nat.lt_of_lt_of_le hb (Nat.pow_le_pow_right (n := 256) (j := 7) (by decide) (by omega))
      have HS : Hid (bf f (k + 1) = bf f k * 256 + f k) := rfl
      generalize bf f k = n at *
      generalize f k = x at *
      obtain ⟨m, hm⟩ : ∃ m, m = n * 256 := ⟨_, rfl⟩
      obtain ⟨r, hr⟩ : ∃ r, r = m + x := ⟨_, rfl⟩
      have e1 : IntKind.u64.wrap ((n : Int) * 256) = (m : Int) := by rw [wrap_u]; omega
      have e2 : bits .or .u64 (m : Int) (x : Int) = (r : Int) := by rw [orU _ _ (by omega) (by omega), hm, ghs.or8 _ _ h8, hr, hm]
      have e3 : IntKind.u64.wrap (x : Int) = (x : Int) := wrapU _ (by omega)
      have HR : Hid (bf f (k + 1) = r) := by show bf f (k + 1) = r; rw [HS.out, hr, hm]
      clear hb hl hm hr HS
      have k0 : (0 : Int) ≤ (k : Int) := by omega
      have kz : (k : Int) < 8 := by omega
      go_wp2_with fail
      go_round
      case rel => exact ⟨k + 1, by omega, by go_num, by rw [HR.out]⟩
      case measure => simp [intOf]; omega
    · obtain rfl : k = 8 := by omega
      have d0 : decide (((8 : Nat) : Int) < 8) = false := by decide
      obtain ⟨n, HN⟩ : ∃ n, Hid (n = bf f 8) := ⟨_, rfl⟩
      rw [← HN.out]
      go_wp2_with fail
      go_ret
      exact ⟨by rw [← HN.out]; rfl, rfl⟩

/-- A text copied into a block. -/
theorem run_copy_text {P : Program} (w : World) (dT sT ty elem : TypeId) (b o dLen dCap : Nat) (s : ByteArray) (cs : List Value)
    (hu : P.underlying dT = some (.slice elem)) (hs : (P.info? elem).map (·.size) = some 1) (hcs : cs = (by8 (nb s)).take dLen)
    (hc : ∀ j, j < cs.length → (w.cell? ⟨b, o + j, none⟩).isSome = true) (hf : ∀ j, j < cs.length → w.frozen? ⟨b, o + j, none⟩ = false) :
    (Builtin.copy_ #[dT, sT] ty #[.slice (some ⟨b, o, none⟩) dLen dCap, .string s]).run P w = .ok (goInt cs.length) (w.setCells b o cs) := by
  have h1 : ∀ v ∈ cs, v.oneCell' = true := fun v hv => by8_ones (nb s) v (by rw [hcs] at hv; exact List.mem_of_mem_take hv)
  have hst := run_storeCells_cells (P := P) b o cs 0 w (by simpa using hc) (by simpa using hf) h1
  have hn : cs.length = Nat.min s.size dLen := by rw [hcs, List.length_take, by8_length, nb_length]; exact Nat.min_comm _ _
  have he : ((s.extract 0 cs.length).data.map fun b => Value.int .u8 b.toNat).toList = cs := by
    have e1 : cs = (by8 (nb s)).take cs.length := by
      rw [hn, hcs]
      apply List.ext_getElem?
      intro i
      rw [List.getElem?_take, List.getElem?_take]
      have hz : (by8 (nb s)).length = s.size := by rw [by8_length, nb_length]
      show _ = if i < min s.size dLen then _ else _
      by_cases c1 : i < dLen
      · by_cases c2 : i < s.size
        · rw [if_pos c1, if_pos (by omega)]
        · rw [if_pos c1, if_neg (by omega), List.getElem?_eq_none (by omega)]
      · rw [if_neg c1, if_neg (by omega)]
    refine Eq.trans ?_ e1.symm
    rw [by8_nb, ByteArray.data_extract]
    simp
  cases hq : P.info? elem with
  | none => simp [hq] at hs
  | some i =>
    rw [← he] at hst
    simp [Builtin.copy_, run_underlying hu, Builtin.lenOf, Builtin.firstCells, sizeOf, typeInfo, hq, ← hn]
    simp at hst he
    rw [hst]
    simp [he]
theorem wpList_copy_text {P : Program} {w : World} {ops : Array Oper} {rest : List Oper} {o : Oper} {a : Act} {Q : Exit → Act → World → Prop} (hgd : o.guard = none) (d s : Operand) (dT sT : TypeId)
    (ho : o.op = .call { callee := .builtin .copy, args := #[d, s], argTypes := #[dT, sT] }) (elem : TypeId) (hu : P.underlying dT = some (.slice elem)) (hsz : (P.info? elem).map (·.size) = some 1)
    (b off dLen dCap : Nat) (x : ByteArray) (hd : a.eval d = .slice (some ⟨b, off, none⟩) dLen dCap) (hs : a.eval s = .string x)
    {t : Nat} {l : List Value} (hA : Blk w b t l) (cs : List Value) (hcs : cs = (by8 (nb x)).take dLen) (hfit : off + cs.length ≤ l.length)
    (h : ∀ W, Blk W b t (l.take off ++ cs ++ l.drop (off + cs.length)) → W.heap.size = w.heap.size → (∀ k, k ≠ b → W.heap[k]? = w.heap[k]?) → (∀ (B : Nat) (z : World), B ≤ b → Below B z w → Below B z W) → wpList P ops Q rest (a.put o.dst (goInt cs.length)) W) :
    wpList P ops Q (o :: rest) a w := by
  refine wpList_plain hgd fun K hK' => ?_
  have hrun := run_copy_text (P := P) w dT sT o.type elem b off dLen dCap x cs hu hsz hcs
    (fun j hj => by rw [hA.cell (off + j) l[off + j] (List.getElem?_eq_getElem (by omega))]; rfl) (fun j _ => hA.frozen _)
  unfold Oper.wp
  simp [execOp, ho, resolve, invoke, builtin, hd, hs, hrun, Result.andThen]
  exact hK' _ _ (h _ (Blk.storedFrom cs off w l hA hfit) (blk_size_setCells b cs off w) (fun _ hk => blk_setCells hk cs off w) (fun _ _ hB hb => blk_below_setCells hB cs off w hb))
def z16 : List Value := by8 [0, 0, 0, 0, 0, 0, 0, 0, 0, 0, 0, 0, 0, 0, 0, 0]
theorem copied (s : ByteArray) : z16.take 0 ++ (by8 (nb s)).take 16 ++ z16.drop (0 + ((by8 (nb s)).take 16).length) = by8 ((List.range 16).map (tb s)) := by
  have hz : z16 = by8 (List.replicate 16 0) := rfl
  rw [hz, List.take_zero, List.nil_append, Nat.zero_add, ← by8_take, by8_length, ← by8_drop, ← by8_append]
  congr 1
  have hl : ((nb s).take 16).length = min 16 s.size := by rw [List.length_take, nb_length]
  refine tx_ext (by rw [List.length_append, hl, List.length_drop, List.length_replicate, List.length_map, List.length_range]; omega) fun j hj => ?_
  have hj : j < 16 := by rw [List.length_append, hl, List.length_drop, List.length_replicate] at hj; omega
  have e2 : ((List.range 16).map (tb s)).getD j 0 = tb s j := by simp [hj]
  rw [e2]
  unfold tb
  rw [List.getD_eq_getElem?_getD, List.getD_eq_getElem?_getD]
  by_cases c : j < s.size
  · rw [List.getElem?_append_left (by rw [hl]; omega), List.getElem?_take, if_pos hj]
  · rw [List.getElem?_append_right (by rw [hl]; omega), List.getElem?_eq_none (l := nb s) (by rw [nb_length]; omega), List.getElem?_drop, List.getElem?_replicate]
    split <;> rfl
theorem infoU8 : (Try.prog.info? 5).map (fun i => (i.zero, i.size, i.bytes)) = some (some (.int .u8 0), 1, 1) := by kernel_rfl
theorem infoU8s : (Try.prog.info? 5).map (·.size) = some 1 := by kernel_rfl
theorem sl_all (b : Nat) (w : World) : (Instr.sliceAt 70 (.pointer (some ⟨b, 0, none⟩)) none none none).run Try.prog w = .ok (.slice (some ⟨b, 0, none⟩) 16 16) w := by
  obtain ⟨j0, hj, _, hj1, _⟩ := info_parts infoU8
  simp [Instr.sliceAt, Instr.sureAddr, run_underlying Try.underlying70, Instr.sliceBounds, sizeOf, typeInfo, hj, Addr.add_mid]
theorem sl_lo (b : Nat) (w : World) : (Instr.sliceAt 70 (.pointer (some ⟨b, 0, none⟩)) none (some (.int .i64 8)) none).run Try.prog w = .ok (.slice (some ⟨b, 0, none⟩) 8 16) w := by
  obtain ⟨j0, hj, _, hj1, _⟩ := info_parts infoU8
  simp [Instr.sliceAt, Instr.sureAddr, run_underlying Try.underlying70, Instr.sliceBounds, Instr.sliceBound, asIntOf, sizeOf, typeInfo, hj, Addr.add_mid]
theorem sl_hi (b : Nat) (w : World) : (Instr.sliceAt 70 (.pointer (some ⟨b, 0, none⟩)) (some (.int .i64 8)) none none).run Try.prog w = .ok (.slice (some ⟨b, 8, none⟩) 8 8) w := by
  obtain ⟨j0, hj, _, hj1, _⟩ := info_parts infoU8
  simp [Instr.sliceAt, Instr.sureAddr, run_underlying Try.underlying70, Instr.sliceBounds, Instr.sliceBound, asIntOf, sizeOf, typeInfo, hj, hj1, Addr.add_mid]
theorem range_cells {w : World} {b t : Nat} (f : Nat → Nat) (h : Blk w b t (by8 ((List.range 16).map f))) (j : Nat) (hj : j < 16) : w.cell? ⟨b, j, none⟩ = some (.int .u8 (f j)) := by
  refine h.cell j _ ?_
  rw [by8_get _ _ (by simpa using hj)]
  simp [hj]

set_option maxHeartbeats 800000 in
theorem read_any (s : ByteArray) (w : World) :
    Calls Try.prog 51 #[.string s] w fun e w' => e = .returned (.agg (blc (bn s)).toArray) ∧ Below w.heap.size w w' := by
  have hR : Blk ((w.alloc (.cells #[.int .u64 0, .int .u64 0] 77)).alloc (.cells z16.toArray 70)) w.heap.size 77 zc := (Blk.new w 77 zc _ rfl).alloc _
  have hA : Blk ((w.alloc (.cells #[.int .u64 0, .int .u64 0] 77)).alloc (.cells z16.toArray 70)) (w.heap.size + 1) 70 z16 := by
    have h := Blk.new (w.alloc (.cells #[.int .u64 0, .int .u64 0] 77)) 70 z16 _ rfl
    rw [World.size_alloc] at h
    exact h
  have hX : Below w.heap.size w ((w.alloc (.cells #[.int .u64 0, .int .u64 0] 77)).alloc (.cells z16.toArray 70)) := ((Below.refl _ _).alloc (Nat.le_refl _) _).alloc (by simp) _
  have s1 := sl_all (w.heap.size + 1)
  have s2 := sl_lo (w.heap.size + 1)
  have s3 := sl_hi (w.heap.size + 1)
  obtain ⟨x, hx⟩ : ∃ x, x = bf (tb s) 8 := ⟨_, rfl⟩
  obtain ⟨y, hy⟩ : ∃ y, y = bf (fun j => tb s (8 + j)) 8 := ⟨_, rfl⟩
  have e16 : bn s = x * 2 ^ 64 + y := by rw [hx, hy]; exact bf_16 _
  have ly : y < 2 ^ 64 := by rw [hy]; exact bf_lt (fun j => tb_lt s (8 + j)) 8
  have HE : Hid (blc (bn s) = [.int .u64 (x : Int), .int .u64 (y : Int)]) := by
    show blc (bn s) = _
    unfold blc fr bk
    rw [e16, show (x * 2 ^ 64 + y) / 2 ^ 64 = x from by omega, show (x * 2 ^ 64 + y) % 2 ^ 64 = y from by omega]
  have hlen : 0 + ((by8 (nb s)).take 16).length ≤ z16.length := by rw [List.length_take]; show _ ≤ 16; omega
  go_enter Try.func51, Try.ntmps51
  go_wp2_with (refine wpList_copy_text rfl (.tmp 4) (.tmp 5) 41 9 rfl 5 Try.underlying41 infoU8s (w.heap.size + 1) 0 16 16 s rfl rfl (t := 70) (l := z16) hA _ rfl hlen ?_; intro W1 hA1 hs1 ho1 hb1)
  rw [copied] at hA1
  have hR1 : Blk W1 w.heap.size 77 zc := by unfold Blk; rw [ho1 _ (by omega)]; exact hR
  have hX1 : Below w.heap.size w W1 := hb1 _ _ (by omega) hX
  clear ho1 hb1 hs1 hlen hA hR hX e16 ly
  have l1 := hA1.lt
  have l2 := hR1.lt
  have hne := Up.some W1
  have F1 : Hid (∀ z : Up W1, Calls Try.prog 75 #[.slice (some ⟨w.heap.size + 1, 0, none⟩) 8 16] z.1 fun e w' => e = .returned (.int .u64 x) ∧ Below z.1.heap.size z.1 w') := fun z => by
    rw [hx]
    refine (number_any (w.heap.size + 1) 0 16 (tb s) (tb_lt s) z.1 fun j hj => ?_).mono fun _ _ ⟨h1, h2⟩ => ⟨h1, by rw [h2]; exact Below.refl _ _⟩
    rw [Nat.zero_add]
    exact range_cells (tb s) (hA1.below z.2 l1) j (by omega)
  have F2 : Hid (∀ z : Up W1, Calls Try.prog 75 #[.slice (some ⟨w.heap.size + 1, 8, none⟩) 8 8] z.1 fun e w' => e = .returned (.int .u64 y) ∧ Below z.1.heap.size z.1 w') := fun z => by
    rw [hy]
    exact (number_any (w.heap.size + 1) 8 8 (fun j => tb s (8 + j)) (fun j => tb_lt s _) z.1 fun j hj => range_cells (tb s) (hA1.below z.2 l1) (8 + j) (by omega)).mono fun _ _ ⟨h1, h2⟩ => ⟨h1, by rw [h2]; exact Below.refl _ _⟩
  clear hx hy
  simp only [Act.put, List.setIfInBounds_toArray, List.set_cons_succ, List.set_cons_zero]
  refine wp_region_tail 5 (by kernel_rfl) (by kernel_rfl) ?_
  simp only [List.take_succ_cons, List.take_zero, List.drop_succ_cons, List.drop_zero]
  repeat (go_big_quiet_step (with_reducible (first | exact calls_up (F1.out _) | exact calls_up (F2.out _))))
  refine wpQuiet_nil ?_
  rintro w1 ⟨y1, rfl⟩
  have hR2 := hR1.below y1.2 l2
  have hX2 := hX1.trans (y1.2.mono hX1.size)
  clear F1 F2 hR1 hA1 hX1 hne
  refine wpList_store_blk rfl 77 (.tmp 2) (.tmp 11) rfl w.heap.size [.int .u64 x, .int .u64 y] rfl rfl zc hR2 rfl (two_one _ _) infoBL ?_
  intro W3 hW3
  go_wp2
  exact bodyPost_ret (results_blk1 Try.results51 _ rfl hW3.blk _ Try.underlying77 rfl infoBL) rfl ⟨by rw [HE.out], hW3.below _ _ (Nat.le_refl _) hX2⟩
end Go.Proofs.Ytibdlccaenanmaa.ghs
