/-
  THE WALKS OF package blake's text, begun, cut.
-/
import Derived.Test.YtmbckgfpkmnlnabDoorBlakeTab
import Derived.Test.YtmbckgfpkmnlnabDoorConv
import Derived.Test.YtmbckgfpkmnlnabDoorBlakeMixed
import Derived.Laws.AppendOwn
namespace Go.Proofs.YtmbckgfpkmnlnabDoor.bla
open Go.RowKit
open Go.Proofs.YtmbckgfpkmnlnabDoor.soft
open Go.Proofs.YtmbckgfpkmnlnabDoor.cha (ad ad_lt rl Ws xor_lt b4 bs4 bs4_ok bs4_append bs4_one told)
open Go.Proofs.YtmbckgfpkmnlnabDoor.sha (h0 h0_ok)
open Go.Proofs.YtmbckgfpkmnlnabDoor.ghs (tb mkl mkl_length mkl_get)
open Go.Proofs.YtmbckgfpkmnlnabDoor.b32

set_option maxRecDepth 100000 in
set_option maxHeartbeats 1600000 in
theorem text_any (l : List Nat) (hl : l.length = 8) (w : World) :
    Calls Tryd.prog 43 #[.agg (wd l).toArray] w fun e w' => e = .returned (.string (told l)) ∧ Below w.heap.size w w' := by
  obtain ⟨i0, hi, hz0, hz1, hz2⟩ := info_parts infoU8
  obtain ⟨iu, hiu, hiu1⟩ := infoU32'
  have ll : (wd l).length = 8 := by rw [wd_length, hl]
  have h0 : Blk (w.alloc (.cells (wd l).toArray 65)) w.heap.size 65 (wd l) := Blk.new w 65 (wd l) _ rfl
  have hX : Below w.heap.size w (w.alloc (.cells (wd l).toArray 65)) := (Below.refl _ _).alloc (Nat.le_refl _) _
  have HI : Hid (∀ (k : Nat), k < 8 → ∀ W, (Instr.index 65 (.agg (wd l).toArray) (.int .i64 (k : Int))).run Tryd.prog W = .ok (.int .u32 ((l.getD k 0 : Nat) : Int)) W) := fun k hk W => run_index_wd Tryd.underlying65 Tryd.underlying28 hiu hiu1 l k hk (by omega) W
  go_enter Tryd.func43, Tryd.ntmps43
  go_wp2_with (refine wpList_load_blk rfl 65 (.tmp 1) rfl w.heap.size 0 rfl h0 (wd l) (by simp) _ Tryd.underlying65 rfl (by rw [ll]; exact infoST) ?_)
  go_loopw [3, 7] (fun u i wr => ∃ k : Nat, k ≤ 8 ∧ i = .int .i64 k ∧ wr.ownsRow w.heap.size 5 1 u (4 * k) (by8 (bs4 (l.take k))) ∧ Below w.heap.size w wr) (fun _ i _ => 8 - (intOf i).toNat)
  case atStart => exact ⟨0, by omega, rfl, World.ownsRow_nil _ _ _ _, hX⟩
  case round =>
    clear h0 hX
    obtain ⟨k, hk, rfl, hown, hnx⟩ := hrel
    by_cases hlt : k < 8
    · have d0 : decide ((k : Int) < 8) = true := by simp; omega
      have hi1 := HI.out k hlt
      have hU : Hid (by8 (bs4 (l.take k)) ++ by8 (b4 (l.getD k 0)) = by8 (bs4 (l.take (k + 1)))) := by
        show _ = _
        rw [List.take_succ_eq_append_getElem (by omega), bs4_append, bs4_one, by8_append, List.getD_eq_getElem?_getD, List.getElem?_eq_getElem (by omega)]
        rfl
      have hsz := hnx.size
      obtain ⟨y0, e0⟩ : ∃ y, y = l.getD k 0 % 256 := ⟨_, rfl⟩
      obtain ⟨y1, e1⟩ : ∃ y, y = l.getD k 0 / 256 % 256 := ⟨_, rfl⟩
      obtain ⟨y2, e2⟩ : ∃ y, y = l.getD k 0 / 65536 % 256 := ⟨_, rfl⟩
      obtain ⟨y3, e3⟩ : ∃ y, y = l.getD k 0 / 16777216 % 256 := ⟨_, rfl⟩
      have HB : Hid (by8 (b4 (l.getD k 0)) = [.int .u8 (y0 : Int), .int .u8 (y1 : Int), .int .u8 (y2 : Int), .int .u8 (y3 : Int)]) := by
        show _ = _
        rw [e0, e1, e2, e3]; rfl
      generalize l.getD k 0 = x at *
      have s0 : IntKind.u8.wrap (x : Int) = (y0 : Int) := by rw [cv.wrap_8]; omega
      have s1 : IntKind.u8.wrap ((x : Int) / 256) = (y1 : Int) := by rw [cv.wrap_8]; omega
      have s2 : IntKind.u8.wrap ((x : Int) / 65536) = (y2 : Int) := by rw [cv.wrap_8]; omega
      have s3 : IntKind.u8.wrap ((x : Int) / 16777216) = (y3 : Int) := by rw [cv.wrap_8]; omega
      clear e0 e1 e2 e3
      have q0 : (0 : Int) ≤ (k : Int) := by omega
      have r0 : (k : Int) < 8 := by omega
      go_wp2_with (at_builtin; refine wpList_append_own _ rfl _ _ 39 rfl w.heap.size 5 i0 (.int .u8 0) 1 1 Tryd.underlying39 hi hz0 hz1 hz2 rfl (by decide) _ _ _ rfl (hown.alloc _) ⟨wr.heap.size, 0, none⟩ 4 4 [.int .u8 (y0 : Int), .int .u8 (y1 : Int), .int .u8 (y2 : Int), .int .u8 (y3 : Int)] rfl rfl (World.news_of_block (cs := #[.int .u8 (y0 : Int), .int .u8 (y1 : Int), .int .u8 (y2 : Int), .int .u8 (y3 : Int)]) (t := 5) (fr := (0, 0)) (heap_alloc_new wr _)) (by simp [Value.oneCell']) (by unfold maxLen; omega) (by omega) (by simp; omega) ?_; intro u2 w2 hown2 hgr2 hnn2)
      go_roundw
      case rel => exact ⟨k + 1, by omega, by go_num, by rw [← hU.out, HB.out]; exact hown2, (hnx.alloc (by omega) _).grown hgr2 (by simp; omega) (fun q hq => (hown.lt q hq).1)⟩
      case measure => simp [intOf]; omega
    · obtain rfl : k = 8 := by omega
      have d0 : decide (((8 : Nat) : Int) < 8) = false := by decide
      rw [List.take_of_length_le (by omega)] at hown
      obtain ⟨g3, cap3, rfl, hge3, hlt3⟩ := hown.form (by omega)
      have hcv := cv.conv_row (Row.own hown) (bs4_ok l)
      obtain ⟨T, HT⟩ : ∃ T, Hid (T = told l) := ⟨_, rfl⟩
      rw [show tx (bs4 l) = T from HT.out.symm] at hcv
      go_wp2_with fail
      go_ret
      exact ⟨by rw [HT.out]; rfl, hnx⟩
set_option maxRecDepth 100000 in
set_option maxHeartbeats 1600000 in
theorem begun_any (ks sz : Nat) (h1 : ks ≤ 32) (h2 : sz ≤ 32) (w : World) (hT : Tab w) :
    Calls Tryd.prog 42 #[.int .i64 ks, .int .i64 sz] w fun e w' => e = .returned (.agg (wd (bg ks sz)).toArray) ∧ Below w.heap.size w w' := by
  have hI := hT.iv
  have gI := hT.ltI
  obtain ⟨x1, e1⟩ : ∃ x, x = 256 * ks := ⟨_, rfl⟩
  obtain ⟨x2, e2⟩ : ∃ x, x = 16842752 ^^^ x1 := ⟨_, rfl⟩
  obtain ⟨x3, e3⟩ : ∃ x, x = x2 ^^^ sz := ⟨_, rfl⟩
  obtain ⟨x4, e4⟩ : ∃ x, x = 1779033703 ^^^ x3 := ⟨_, rfl⟩
  have l1 : x1 < 4294967296 := by omega
  have l2 : x2 < 4294967296 := by rw [e2]; exact xor_lt (by decide) l1
  have l3 : x3 < 4294967296 := by rw [e3]; exact xor_lt l2 (by omega)
  have s0 : IntKind.i64.wrap (256 * (ks : Int)) = (x1 : Int) := by rw [IntWalk.i64_in _ ⟨by omega, by omega⟩]; omega
  have s1 : IntKind.u32.wrap (x1 : Int) = (x1 : Int) := by rw [b32.wrap32]; omega
  have s2 : bits .xor .u32 16842752 (x1 : Int) = (x2 : Int) := by rw [e2]; exact xor32 16842752 x1 (by decide) l1
  have s3 : IntKind.u32.wrap (sz : Int) = (sz : Int) := by rw [b32.wrap32]; omega
  have s4 : bits .xor .u32 (x2 : Int) (sz : Int) = (x3 : Int) := by rw [e3]; exact xor32 x2 sz l2 (by omega)
  have s5 : bits .xor .u32 1779033703 (x3 : Int) = (x4 : Int) := by rw [e4]; exact xor32 1779033703 x3 (by decide) l3
  have HE : Hid (bg ks sz = [x4, 3144134277, 1013904242, 2773480762, 1359893119, 2600822924, 528734635, 1541459225]) := by
    show _ = _
    rw [e4, e3, e2, e1]; rfl
  rw [HE.out]
  clear e1 e2 e3 e4 hT l1 l2 l3
  have hR : Blk (w.alloc (.cells (wd z8).toArray 65)) w.heap.size 65 (wd z8) := Blk.new w 65 (wd z8) _ rfl
  have hX : Below w.heap.size w (w.alloc (.cells (wd z8).toArray 65)) := (Below.refl _ _).alloc (Nat.le_refl _) _
  have hN : Blk ((w.alloc (.cells (wd z8).toArray 65)).alloc (.cells (wd z8).toArray 65)) (w.heap.size + 1) 65 (wd z8) := by
    have h := Blk.new (w.alloc (.cells (wd z8).toArray 65)) 65 (wd z8) _ rfl
    rw [World.size_alloc] at h
    exact h
  go_enter Tryd.func42, Tryd.ntmps42
  go_wp2_with (first
    | (refine wpList_load_mid rfl 65 (.global 0) rfl 0 0 rfl (wd h0) _ (range_keep hI hX gI) Tryd.underlying65 rfl infoST ?_)
    | (refine wpList_store_blk rfl 65 (.tmp 5) (.tmp 6) rfl (w.heap.size + 1) (wd h0) rfl rfl (wd z8) hN rfl (wd_one _) infoST ?_; intro W1 hW1; have c0 := hW1.blk.cell 0 (.int .u32 1779033703) rfl; have f0 := hW1.blk.frozen 0; have hS2 := hW1.blk.set 0 (.int .u32 (x4 : Nat)); have hR2 : Blk (W1.setCell ⟨w.heap.size + 1, 0, none⟩ (.int .u32 (x4 : Nat))) w.heap.size 65 (wd z8) := (hW1.other _ _ _ (by omega) (hR.alloc _)).other (by simp) _)
    | (refine wpList_load_blk rfl 65 (.tmp 5) rfl (w.heap.size + 1) 0 rfl hS2 (wd [x4, 3144134277, 1013904242, 2773480762, 1359893119, 2600822924, 528734635, 1541459225]) rfl _ Tryd.underlying65 rfl infoST ?_)
    | (refine wpList_store_blk rfl 65 (.tmp 4) (.tmp 18) rfl w.heap.size (wd [x4, 3144134277, 1013904242, 2773480762, 1359893119, 2600822924, 528734635, 1541459225]) rfl rfl (wd z8) hR2 rfl (wd_one _) infoST ?_; intro W5 hW5))
  have hX1 := hW1.below _ _ (show w.heap.size ≤ w.heap.size + 1 by omega) (hX.alloc (by simp) _)
  exact bodyPost_ret (results_blk1 Tryd.results42 _ rfl hW5.blk _ Tryd.underlying65 rfl infoST) rfl ⟨rfl, hW5.below _ _ (Nat.le_refl _) (hX1.setCell (by simp) _)⟩
theorem sl_whole (b : Nat) (w : World) : (Instr.sliceAt 75 (.pointer (some ⟨b, 0, none⟩)) none none none).run Tryd.prog w = .ok (.slice (some ⟨b, 0, none⟩) 64 64) w := by
  obtain ⟨j0, hj, _, hj1, _⟩ := info_parts infoU8
  simp [Instr.sliceAt, Instr.sureAddr, run_underlying Tryd.underlying75, Instr.sliceBounds, sizeOf, typeInfo, hj, Addr.add_mid]
theorem results_cell_tmpB {P : Program} {fn : Func} {p q : Tmp} {ty : TypeId} (hr : fn.results = #[.cell p ty, .tmp q]) (tmps : Array Value) (w : World) :
    (results fn tmps).run P w = ((asAddr (tmps.getD p undef)).run P w).andThen fun a w₁ => ((loadVar ty a).run P w₁).andThen fun v w₂ => .ok (.tuple #[v, tmps.getD q undef]) w₂ := by
  simp only [results, hr]
  simp [Sem.run_bind, Result.andThen]
theorem results_cell_tmp {P : Program} {fn : Func} {p q : Tmp} {ty : TypeId} (hr : fn.results = #[.cell p ty, .tmp q]) (tmps : Array Value) {w : World} {b t : Nat} {l : List Value} {v : Value} (hp : tmps.getD p undef = .pointer (some ⟨b, 0, none⟩)) (hq : tmps.getD q undef = v) (hA : Blk w b t l)
    (d : TypeDesc) (hu : P.underlying ty = some d) (hd : d.isRow = true) (hi : (P.info? ty).map (·.size) = some l.length) :
    (results fn tmps).run P w = .ok (.tuple #[.agg l.toArray, v]) w := by
  have h := hA.loadVar (P := P) (ty := ty) d hu hd hi
  rw [results_cell_tmpB hr, hp, hq]
  show Result.andThen ((Go.loadVar ty ⟨b, 0, none⟩).run P w) _ = _
  rw [h]
  rfl
/-- What each operation of cut's last region yields. -/
def CV (D : List Value) (s R : ByteArray) (n : Nat) : Nat → Value
  | 0 => .agg D.toArray
  | 1 => .string s
  | 2 => .int .i64 (n : Nat)
  | 3 => .string R
  | 5 => .string R
  | _ => undef
structure CG (D Z : List Value) (s R : ByteArray) (n b : Nat) (w : World) (f : Nat → Option Value) (W : World) : Prop where
  val : ∀ i v, f i = some v → v = CV D s R n i
  blk : Blk W (b + 1) 75 D
  res : Blk W b 75 (if (f 4).isSome then D else Z)
  below : Below b w W
theorem CG.pure {D Z : List Value} {s R : ByteArray} {n b : Nat} {w W : World} {f : Nat → Option Value} (h : CG D Z s R n b w f W) (i : Nat) (h4 : i ≠ 4) : CG D Z s R n b w (upd f i (CV D s R n i)) W := by
  refine ⟨fun j v hj => ?_, h.blk, by rw [upd_other f _ (Ne.symm h4)]; exact h.res, h.below⟩
  by_cases c : j = i
  · subst c; rw [upd_same] at hj; cases hj; rfl
  · rw [upd_other f _ c] at hj; exact h.val j v hj
set_option maxRecDepth 100000 in
set_option maxHeartbeats 1600000 in
theorem cut_any (s : ByteArray) (w : World) :
    Calls Tryd.prog 50 #[.string s] w fun e w' => e = .returned (.tuple #[.agg (by8 (cutB s)).toArray, .string (cutR s)]) ∧ Below w.heap.size w w' := by
  obtain ⟨i0, hi, hz0, hz1, hz2⟩ := info_parts infoBLz
  obtain ⟨Z, hZd⟩ : ∃ Z, Z = by8 z64 := ⟨_, rfl⟩
  have HZ : Hid (Z = by8 z64) := hZd
  have lZ : Z.length = 64 := by rw [hZd]; rfl
  rw [← hZd] at hz0
  clear hZd
  obtain ⟨n, hn⟩ : ∃ n, n = min 64 s.size := ⟨_, rfl⟩
  obtain ⟨C, hC⟩ : ∃ C, C = (by8 (nb s)).take 64 := ⟨_, rfl⟩
  have lC : C.length = n := by rw [hC, List.length_take, by8_length, nb_length, hn]
  obtain ⟨D, hD⟩ : ∃ D, Hid (D = by8 (cutB s)) := ⟨_, rfl⟩
  have lD : D.length = 64 := by rw [hD.out, by8_length, cutB_length]
  have oD : D.toArray.all (·.oneCell') = true := by rw [hD.out]; exact by8_one _
  have HD : Hid (Z.take 0 ++ C ++ Z.drop (0 + C.length) = D) := by
    show _ = _
    rw [hD.out, HZ.out, List.take_zero, List.nil_append, Nat.zero_add, lC, hC, ← by8_take, ← by8_drop, ← by8_append]
    refine congrArg by8 (ghs.tx_ext (by rw [List.length_append, List.length_take, nb_length, List.length_drop, cutB_length]; show _ + (64 - n) = 64; omega) fun j hj => ?_)
    rw [List.length_append, List.length_take, nb_length, List.length_drop] at hj
    have hj : j < 64 := by have : z64.length = 64 := rfl; omega
    unfold cutB
    rw [mkl_get _ _ _ hj]
    unfold tb
    by_cases c : j < n
    · rw [List.getD_eq_getElem?_getD, List.getElem?_append_left (by rw [List.length_take, nb_length]; omega), List.getElem?_take, if_pos hj, ← List.getD_eq_getElem?_getD]
    · rw [List.getD_eq_getElem?_getD, List.getElem?_append_right (by rw [List.length_take, nb_length]; omega), List.getElem?_drop]
      have e : (nb s).getD j 0 = 0 := by rw [List.getD_eq_getElem?_getD, List.getElem?_eq_none (by rw [nb_length]; omega)]; rfl
      rw [e]
      unfold z64
      rw [List.getElem?_replicate]
      split <;> rfl
  have ns : n ≤ s.size := by omega
  have HR : Hid (s.extract n s.size = cutR s) := by show _ = _; rw [hn]; rfl
  have hR : Blk (w.alloc (.cells Z.toArray 75)) w.heap.size 75 Z := Blk.new w 75 Z _ rfl
  have hX : Below w.heap.size w (w.alloc (.cells Z.toArray 75)) := (Below.refl _ _).alloc (Nat.le_refl _) _
  have hN : Blk ((w.alloc (.cells Z.toArray 75)).alloc (.cells Z.toArray 75)) (w.heap.size + 1) 75 Z := by
    have h := Blk.new (w.alloc (.cells Z.toArray 75)) 75 Z _ rfl
    rw [World.size_alloc] at h
    exact h
  have sw := sl_whole (w.heap.size + 1)
  have HC : Hid (C = (by8 (nb s)).take 64) := hC
  have n64 : n ≤ 64 := by omega
  clear hC hn
  obtain ⟨W1, hcp, hW1⟩ : ∃ W1, (Builtin.copy_ #[39, 9] 3 #[.slice (some ⟨w.heap.size + 1, 0, none⟩) 64 64, .string s]).run Tryd.prog ((w.alloc (.cells Z.toArray 75)).alloc (.cells Z.toArray 75)) = .ok (.int .i64 (n : Nat)) W1 ∧ Copied ((w.alloc (.cells Z.toArray 75)).alloc (.cells Z.toArray 75)) W1 (w.heap.size + 1) 75 0 Z C := by
    have h := run_copy_text (P := Tryd.prog) ((w.alloc (.cells Z.toArray 75)).alloc (.cells Z.toArray 75)) 39 9 3 5 (w.heap.size + 1) 0 64 64 s C Tryd.underlying39 infoU8s HC.out
      (fun j hj => by have hj2 : 0 + j < Z.length := (by omega); rw [hN.cell (0 + j) (Z[0 + j]'hj2) (List.getElem?_eq_getElem hj2)]; rfl) (fun j _ => hN.frozen _)
    rw [lC] at h
    exact ⟨_, h, copied_of hN 0 C (by omega)⟩
  have hB1 := hW1.blk
  rw [HD.out] at hB1
  have hR1 : Blk W1 w.heap.size 75 Z := by
    have h := hR.alloc (.cells Z.toArray 75)
    unfold Blk at h ⊢
    rw [hW1.other _ (by omega)]; exact h
  have hX1 := hW1.below w.heap.size w (by omega) (hX.alloc (by simp) _)
  go_enter Tryd.func50, Tryd.ntmps50
  go_wp2_with (refine wpList_alloc_blk rfl 75 rfl Z i0 hi _ hz0 rfl ?_)
  obtain ⟨R, hRd⟩ : ∃ R, Hid (R = cutR s) := ⟨_, rfl⟩
  have HR2 : s.extract n s.size = R := by rw [HR.out, ← hRd.out]
  refine wp_region_all (by kernel_rfl) (by kernel_rfl) (CG D Z s R n w.heap.size w) ?_ ?_ ?_
  · exact ⟨fun _ _ h => (by cases h), hB1, hR1, Below.drew hX1⟩
  · intro f W A hin hout hG i o ho hf hpre
    have e0 : A.eval (.tmp 0) = .string s := hout 0 (by kernel_rfl)
    have e2 : A.eval (.tmp 2) = .pointer (some ⟨w.heap.size, 0, none⟩) := hout 2 (by kernel_rfl)
    have e4 : A.eval (.tmp 4) = .pointer (some ⟨w.heap.size + 1, 0, none⟩) := hout 4 (by kernel_rfl)
    have e5 : A.eval (.tmp 5) = .int .i64 (n : Nat) := hout 5 (by kernel_rfl)
    have get : ∀ j, (f j).isSome = true → f j = some (CV D s R n j) := fun j hj => by
      cases hx : f j with
      | none => rw [hx] at hj; cases hj
      | some v => rw [hG.val j v hx]
    match i, ho, hf with
    | 0, ho, hf =>
      obtain rfl := Option.some.inj ho
      exact op_load (v := .agg D.toArray) rfl rfl rfl e4 (hG.blk.loadAt (P := Tryd.prog) 0 D (by simp) _ Tryd.underlying75 rfl (by rw [lD]; exact infoBL)) ⟨_, rfl, hG.pure 0 (by decide)⟩
    | 1, ho, hf =>
      obtain rfl := Option.some.inj ho
      exact op_value (v := .string s) (W' := W) rfl rfl (by generalize A.eval = ev at *; simp [go_sem, e0]) ⟨_, rfl, hG.pure 1 (by decide)⟩
    | 2, ho, hf =>
      obtain rfl := Option.some.inj ho
      exact op_value (v := .int .i64 (n : Nat)) (W' := W) rfl rfl (by generalize A.eval = ev at *; simp [go_sem, e5]) ⟨_, rfl, hG.pure 2 (by decide)⟩
    | 3, ho, hf =>
      obtain rfl := Option.some.inj ho
      have g1 : A.eval (.tmp 10) = .string s := hin 1 10 _ (get 1 (hpre ⟨1, .data⟩ (by simp) rfl)) (by kernel_rfl) (by simp)
      have g2 : A.eval (.tmp 11) = .int .i64 (n : Nat) := hin 2 11 _ (get 2 (hpre ⟨2, .data⟩ (by simp) rfl)) (by kernel_rfl) (by simp)
      exact op_value (v := .string R) (W' := W) rfl rfl (by generalize A.eval = ev at *; simp [go_sem, g1, g2, ns, HR2]) ⟨_, rfl, hG.pure 3 (by decide)⟩
    | 4, ho, hf =>
      obtain rfl := Option.some.inj ho
      have g1 : A.eval (.tmp 9) = .agg D.toArray := hin 0 9 _ (get 0 (hpre ⟨0, .data⟩ (by simp) rfl)) (by kernel_rfl) (by simp)
      have hres := hG.res
      rw [hf] at hres
      have hres' : Blk W w.heap.size 75 Z := hres
      have hst := bstored hres' (l' := D) (by rw [lD, lZ])
      refine op_store (b := w.heap.size) (cells := D.toArray) rfl rfl rfl e2 g1 (by have := hres'.there; show W.there w.heap.size 0 D.length; rw [lD, ← lZ]; exact this) (by show _ = some D.length; rw [lD]; exact infoBL) oD ⟨_, rfl, ?_⟩
      refine ⟨fun j v hj => ?_, hst.other _ _ _ (by omega) hG.blk, ?_, hst.below _ _ (Nat.le_refl _) hG.below⟩
      · by_cases c : j = 4
        · subst c; rw [upd_same] at hj; cases hj; rfl
        · rw [upd_other f _ c] at hj; exact hG.val j v hj
      · rw [upd_same]; exact hst.blk
    | 5, ho, hf =>
      obtain rfl := Option.some.inj ho
      have g1 : A.eval (.tmp 12) = .string R := hin 3 12 _ (get 3 (hpre ⟨3, .data⟩ (by simp) rfl)) (by kernel_rfl) (by simp)
      exact op_value (v := .string R) (W' := W) rfl rfl (by generalize A.eval = ev at *; simp [go_sem, g1]) ⟨_, rfl, hG.pure 5 (by decide)⟩
    | (j + 6), ho, _ => exact absurd ho (by simp)
  · intro f W hall hG
    have hr := hG.res
    rw [hall 4 (by decide), if_pos rfl] at hr
    have hb := hG.below
    rw [fr_congr (g := fun j => some (CV D s R n j)) _ 0 _ (fun j _ hj => by
      have hs := hall j (by simpa using hj)
      cases hx : f j with
      | none => rw [hx] at hs; cases hs
      | some v => rw [hG.val j v hx])]
    simp only [fr, CV, Act.put, List.setIfInBounds_toArray, List.set_cons_succ, List.set_cons_zero]
    go_wp2
    exact bodyPost_ret (results_cell_tmp (v := .string R) Tryd.results50 _ rfl rfl hr _ Tryd.underlying75 rfl (by rw [lD]; exact infoBL)) rfl ⟨by rw [hD.out, hRd.out], hb⟩
end Go.Proofs.YtmbckgfpkmnlnabDoor.bla
