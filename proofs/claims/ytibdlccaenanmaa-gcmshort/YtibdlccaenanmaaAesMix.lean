/-
  THE WALKS OF package aes's stirred, mixed.
-/
import Derived.Test.YtibdlccaenanmaaAesSquare
import Derived.Laws.IdiomCopy
import Derived.Deep.RegionHeld3
namespace Go.Proofs.Ytibdlccaenanmaa.aes
open Go.RowKit
open Go.Proofs.Ytibdlccaenanmaa.gal

set_option maxRecDepth 100000 in
set_option maxHeartbeats 1600000 in
theorem stirred_any (a : List Nat) (ha : a.length = 4) (oa : Ok a) (g : Nat) (w : World) (hT : Tbl w g 512 (gm 2)) :
    Calls Try.prog 85 #[.pointer (some ⟨g, 0, none⟩), .agg (by8 a).toArray] w fun e w' => e = .returned (.agg (by8 (stirN a)).toArray) ∧ Below w.heap.size w w' := by
  have hA : Blk (((w.alloc (.cells (by8 a).toArray 110)).alloc (.cells (by8 zero4).toArray 110)).alloc (.cells (by8 zero4).toArray 110)) w.heap.size 110 (by8 a) := ((Blk.new w 110 (by8 a) _ rfl).alloc _).alloc _
  have hZ : Blk (((w.alloc (.cells (by8 a).toArray 110)).alloc (.cells (by8 zero4).toArray 110)).alloc (.cells (by8 zero4).toArray 110)) (w.heap.size + 1) 110 (by8 zero4) := by
    have h := Blk.new (w.alloc (.cells (by8 a).toArray 110)) 110 (by8 zero4) _ rfl
    rw [World.size_alloc] at h
    exact h.alloc _
  have hO : Blk (((w.alloc (.cells (by8 a).toArray 110)).alloc (.cells (by8 zero4).toArray 110)).alloc (.cells (by8 zero4).toArray 110)) (w.heap.size + 1 + 1) 110 (by8 zero4) := by
    have h := Blk.new ((w.alloc (.cells (by8 a).toArray 110)).alloc (.cells (by8 zero4).toArray 110)) 110 (by8 zero4) _ rfl
    rw [World.size_alloc, World.size_alloc] at h
    exact h
  have hX : Below w.heap.size w (((w.alloc (.cells (by8 a).toArray 110)).alloc (.cells (by8 zero4).toArray 110)).alloc (.cells (by8 zero4).toArray 110)) := (((Below.refl _ _).alloc (Nat.le_refl _) _).alloc (by simp) _).alloc (by simp; omega) _
  have HT : Hid (Tbl w g 512 (gm 2)) := hT
  clear hT
  obtain ⟨F, HF⟩ : ∃ F : Nat → Nat, Hid (F = fun i => gm 2 (a.getD i 0) ^^^ gm 2 (a.getD ((i + 1) % 4) 0) ^^^ a.getD ((i + 1) % 4) 0 ^^^ a.getD ((i + 2) % 4) 0 ^^^ a.getD ((i + 3) % 4) 0) := ⟨_, rfl⟩
  go_enter Try.func85, Try.ntmps85
  go_wp2_with fail
  go_loopw [8] (fun i wr => ∃ k : Nat, k ≤ 4 ∧ i = .int .i64 k ∧ Blk wr w.heap.size 110 (by8 a) ∧ Blk wr (w.heap.size + 1) 110 (by8 zero4) ∧ Blk wr (w.heap.size + 1 + 1) 110 (by8 (upto zero4 F k)) ∧ Below w.heap.size w wr) (fun i _ => 4 - (intOf i).toNat)
  case atStart => exact ⟨0, by omega, rfl, hA, hZ, hO, hX⟩
  case round =>
    clear hA hZ hX hO
    obtain ⟨k, hk, rfl, hA, hZ, hO, hnx⟩ := hrel
    by_cases hlt : k < 4
    · have hTw := HT.out.below hnx HT.out.1
      have HU : Hid (upto zero4 F (k + 1) = (upto zero4 F k).set k (gm 2 (a.getD k 0) ^^^ gm 2 (a.getD ((k + 1) % 4) 0) ^^^ a.getD ((k + 1) % 4) 0 ^^^ a.getD ((k + 2) % 4) 0 ^^^ a.getD ((k + 3) % 4) 0)) := by
        show upto zero4 F (k + 1) = _
        rw [upto, HF.out]
      have e1 : ((k : Int) + 1).tmod 4 = (((k + 1) % 4 : Nat) : Int) := by rw [Int.tmod_eq_emod_of_nonneg (by omega)]; omega
      have e2 : ((k : Int) + 2).tmod 4 = (((k + 2) % 4 : Nat) : Int) := by rw [Int.tmod_eq_emod_of_nonneg (by omega)]; omega
      have e3 : ((k : Int) + 3).tmod 4 = (((k + 3) % 4 : Nat) : Int) := by rw [Int.tmod_eq_emod_of_nonneg (by omega)]; omega
      have l1 : (k + 1) % 4 < 4 := by omega
      have l2 : (k + 2) % 4 < 4 := by omega
      have l3 : (k + 3) % 4 < 4 := by omega
      have c0 := hA.cell k _ (by8_get _ k (by omega))
      have c1 := hA.cell ((k + 1) % 4) _ (by8_get _ ((k + 1) % 4) (by omega))
      have c2 := hA.cell ((k + 2) % 4) _ (by8_get _ ((k + 2) % 4) (by omega))
      have c3 := hA.cell ((k + 3) % 4) _ (by8_get _ ((k + 3) % 4) (by omega))
      have b0 := oa.get k
      have b1 := oa.get ((k + 1) % 4)
      have b2 := oa.get ((k + 2) % 4)
      have b3 := oa.get ((k + 3) % 4)
      have co := hO.cell k _ (by8_get _ k (by rw [upto_length]; exact hlt))
      have hf := hO.frozen k
      generalize (k + 1) % 4 = m1 at *
      generalize (k + 2) % 4 = m2 at *
      generalize (k + 3) % 4 = m3 at *
      generalize a.getD k 0 = a0 at *
      generalize a.getD m1 0 = a1 at *
      generalize a.getD m2 0 = a2 at *
      generalize a.getD m3 0 = a3 at *
      have t0 := hTw.2 a0 b0
      have t1 := hTw.2 a1 b1
      have g0 := gm_lt 2 a0
      have g1 := gm_lt 2 a1
      generalize gm 2 a0 = T0 at *
      generalize gm 2 a1 = T1 at *
      have x1 := xor8 _ _ g0 g1
      have y1 := xor_lt g0 g1
      generalize T0 ^^^ T1 = X1 at *
      have x2 := xor8 _ _ y1 b1
      have y2 := xor_lt y1 b1
      generalize X1 ^^^ a1 = X2 at *
      have x3 := xor8 _ _ y2 b2
      have y3 := xor_lt y2 b2
      generalize X2 ^^^ a2 = X3 at *
      have x4 := xor8 _ _ y3 b3
      generalize X3 ^^^ a3 = X4 at *
      generalize upto zero4 F k = L at *
      generalize L.getD k 0 = ol at *
      clear hTw y1 y2 y3 g0 g1
      have kz : (k : Int) < 4 := by omega
      have k0 : (0 : Int) ≤ (k : Int) := by omega
      have z1 : (m1 : Int) < 4 := by omega
      have z2 : (m2 : Int) < 4 := by omega
      have z3 : (m3 : Int) < 4 := by omega
      have q0 : (a0 : Int) < 256 := by omega
      have q1 : (a1 : Int) < 256 := by omega
      have p0 : (0 : Int) ≤ (a0 : Int) := by omega
      have p1 : (0 : Int) ≤ (a1 : Int) := by omega
      go_wp2_with fail
      go_region
      go_wp2
      go_roundw
      case rel => exact ⟨k + 1, by omega, by go_num, hA.other (by simp; omega) _, hZ.other (by simp) _, by rw [HU.out, ← by8_set]; exact hO.set k _, (hnx.setCell (by simp; omega) _).drew⟩
      case measure => simp [intOf]; omega
    · obtain rfl : k = 4 := by omega
      have hD : upto zero4 F 4 = stirN a := (upto_all zero4 F 4 rfl).trans (by rw [HF.out]; rfl)
      rw [hD] at hO
      have hd : (by8 (stirN a)).length = 4 := by rw [by8_length]; exact mk_length _ _
      clear hD
      obtain ⟨D, HD⟩ : ∃ D, Hid (D = stirN a) := ⟨_, rfl⟩
      rw [← HD.out] at hO hd
      go_wp2_with (first | (refine wpList_load_blk rfl 110 (.tmp 5) rfl (w.heap.size + 1 + 1) 0 rfl hO (by8 D) (by simp) _ Try.underlying110 rfl (by rw [hd]; exact infoWD) ?_) | (refine wpList_store_blk rfl 110 (.tmp 4) (.tmp 48) rfl (w.heap.size + 1) (by8 D) rfl rfl (by8 zero4) hZ (by rw [hd]; rfl) (by8_one _) infoWD ?_; intro W hW))
      exact bodyPost_ret (results_blk1 Try.results85 _ rfl hW.blk _ Try.underlying110 rfl (by rw [hd]; exact infoWD)) rfl ⟨by rw [HD.out], hW.below _ _ (by omega) hnx⟩

/-- A copy into a block, as one step of a region that draws its order. -/
theorem step_copy_blk {P : Program} {ops : Array Oper} {o : Oper} {a : Act} {w : World} {K : Act → World → Prop} {Q : Exit → Act → World → Prop} {E : Prop} (hgd : o.guard = none) (d s : Operand) (dT sT : TypeId)
    (ho : o.op = .call { callee := .builtin .copy, args := #[d, s], argTypes := #[dT, sT] }) (elem : TypeId) (hu : P.underlying dT = some (.slice elem)) (hsz : (P.info? elem).map (·.size) = some 1)
    (b off dLen dCap : Nat) (ad : Addr) (sLen sCap : Nat) (hd : a.eval d = .slice (some ⟨b, off, none⟩) dLen dCap) (hs : a.eval s = .slice (some ad) sLen sCap)
    {t : Nat} {l : List Value} (hA : Blk w b t l) (cs : List Value) (hn : cs.length = Nat.min sLen dLen) (hsrc : ∀ j v, cs[j]? = some v → w.cell? (ad.add j) = some v) (hfit : off + cs.length ≤ l.length) (h1 : ∀ v ∈ cs, v.oneCell' = true)
    (h : ∀ W, Blk W b t (l.take off ++ cs ++ l.drop (off + cs.length)) → W.heap.size = w.heap.size → (∀ k, k ≠ b → W.heap[k]? = w.heap[k]?) → (∀ (B : Nat) (z : World), B ≤ b → Below B z w → Below B z W) → K (a.put o.dst (goInt cs.length)) W) :
    if Region.wanted o (yielded ops a.tmps) = true then Oper.wp P o a w K Q else E := by
  have hw : Region.wanted o (yielded ops a.tmps) = true := by simp [Region.wanted, hgd]
  rw [if_pos hw]
  have hrun := run_copy_cells (P := P) w dT sT o.type elem b off dLen dCap ad sLen sCap cs hu hsz hn hsrc
    (fun j hj => by rw [hA.cell (off + j) l[off + j] (List.getElem?_eq_getElem (by omega))]; rfl) (fun j _ => hA.frozen _) h1
  unfold Oper.wp
  simp [execOp, ho, resolve, invoke, builtin, hd, hs, hrun, Result.andThen]
  exact h _ (Blk.storedFrom cs off w l hA hfit) (blk_size_setCells b cs off w) (fun _ hk => blk_setCells hk cs off w) (fun _ _ hB hb => blk_below_setCells hB cs off w hb)

/-- The first q columns mixed. -/
def mixP (A : List Nat) (q : Nat) : List Nat := mk 16 fun i => if i < 4 * q then (mixN A).getD i 0 else A.getD i 0
theorem mixP_0 (A : List Nat) (h : A.length = 16) : mixP A 0 = A := by
  refine (mk_congr fun k _ => ?_).trans (mk_of A 16 h)
  rw [if_neg (by omega)]
theorem mixP_4 (A : List Nat) : mixP A 4 = mixN A := by
  refine (mk_congr fun k hk => ?_).trans (mk_of (mixN A) 16 (mk_length _ _))
  rw [if_pos (by omega)]
theorem mixP_col (A : List Nat) (q : Nat) (hq : q < 4) : colN A q = ((mixP A q).drop (4 * q)).take 4 := by
  refine ext_get (by rw [colN, mk_length, List.length_take, List.length_drop, mixP, mk_length]; omega) fun k hk => ?_
  rw [colN, mk_length] at hk
  have e : (((mixP A q).drop (4 * q)).take 4).getD k 0 = (mixP A q).getD (4 * q + k) 0 := by
    rw [List.getD_eq_getElem?_getD, List.getElem?_take, if_pos hk, List.getElem?_drop, ← List.getD_eq_getElem?_getD]
  rw [e, colN, mk_get _ _ _ hk, mixP, mk_get _ _ _ (by omega), if_neg (by omega)]
theorem mixP_step (A : List Nat) (q : Nat) (hq : q < 4) : (mixP A q).take (4 * q) ++ stirN (colN A q) ++ (mixP A q).drop (4 * q + 4) = mixP A (q + 1) := by
  have h1 : (mixP A q).length = 16 := mk_length _ _
  have h2 : (stirN (colN A q)).length = 4 := mk_length _ _
  refine ext_get (by rw [List.length_append, List.length_append, List.length_take, List.length_drop, h1, h2, mixP, mk_length]; omega) fun k hk => ?_
  rw [List.length_append, List.length_append, List.length_take, List.length_drop, h1, h2] at hk
  have hk16 : k < 16 := by omega
  rw [mixP, mixP, mk_get 16 _ k hk16, List.getD_eq_getElem?_getD]
  have e1 : ((mk 16 fun i => if i < 4 * q then (mixN A).getD i 0 else A.getD i 0).take (4 * q)).length = 4 * q := by rw [List.length_take, mk_length]; omega
  by_cases c1 : k < 4 * q
  · rw [if_pos (by omega), List.append_assoc, List.getElem?_append_left (by omega), List.getElem?_take, if_pos c1, ← List.getD_eq_getElem?_getD, mk_get _ _ _ hk16, if_pos c1]
  · rw [List.append_assoc, List.getElem?_append_right (by omega), e1]
    by_cases c2 : k < 4 * q + 4
    · rw [if_pos (by omega), List.getElem?_append_left (by omega), ← List.getD_eq_getElem?_getD, mixN, mk_get _ _ _ hk16, show k / 4 = q from by omega, show k % 4 = k - 4 * q from by omega]
    · rw [if_neg (by omega), List.getElem?_append_right (by omega), h2, List.getElem?_drop, ← List.getD_eq_getElem?_getD, show 4 * q + 4 + (k - 4 * q - 4) = k from by omega, mk_get _ _ _ hk16, if_neg (by omega)]
theorem mixes_length (a : List Nat) (h : a.length = 16) : ∀ k, (mixes a k).length = 16
  | 0 => h
  | _ + 1 => mk_length _ _
theorem mixes_ok (a : List Nat) (h : Ok a) : ∀ k, Ok (mixes a k)
  | 0 => h
  | k + 1 => mixN_ok _ (mixes_ok a h k)
theorem sl_sq (b c : Nat) (hc : c < 16) (w : World) : (Instr.sliceAt 71 (.pointer (some ⟨b, 0, none⟩)) (some (.int .i64 (c : Int))) none none).run Try.prog w = .ok (.slice (some ⟨b, c, none⟩) (16 - c) (16 - c)) w := by
  obtain ⟨j0, hj, _, hj1, _⟩ := info_parts infoU8
  have hne : ¬ 16 = c := by omega
  have h1 : c ≤ 16 := by omega
  simp [Instr.sliceAt, Instr.sureAddr, run_underlying Try.underlying71, Instr.sliceBounds, Instr.sliceBound, asIntOf, sizeOf, typeInfo, hj, hj1, h1, hne, Addr.add_mid]
theorem sl_wd (b : Nat) (w : World) : (Instr.sliceAt 110 (.pointer (some ⟨b, 0, none⟩)) none none none).run Try.prog w = .ok (.slice (some ⟨b, 0, none⟩) 4 4) w := by
  obtain ⟨j0, hj, _, hj1, _⟩ := info_parts infoU8
  simp [Instr.sliceAt, Instr.sureAddr, run_underlying Try.underlying110, Instr.sliceBounds, sizeOf, typeInfo, hj, Addr.add_mid]
theorem at_wd (a : Option Addr) (len cap : Nat) (hn : 4 ≤ len) (w : World) : (Instr.arrayAt 110 (.slice a len cap)).run Try.prog w = .ok (.pointer a) w := by
  have hlt : ¬ len < 4 := by omega
  simp [Instr.arrayAt, run_underlying Try.underlying110, hlt]

set_option maxRecDepth 100000 in
set_option maxHeartbeats 1600000 in
theorem mixed_any (a : List Nat) (ha : a.length = 16) (oa : Ok a) (g t : Nat) (ht : t ≤ 3) (w : World) (hT : Tbl w g 512 (gm 2)) :
    Calls Try.prog 69 #[.pointer (some ⟨g, 0, none⟩), .agg (by8 a).toArray, .int .i64 t] w fun e w' => e = .returned (.agg (by8 (mixes a t)).toArray) ∧ Below w.heap.size w w' := by
  have hA : Blk ((w.alloc (.cells (by8 a).toArray 71)).alloc (.cells (by8 zero16).toArray 71)) w.heap.size 71 (by8 a) := (Blk.new w 71 (by8 a) _ rfl).alloc _
  have hZ : Blk ((w.alloc (.cells (by8 a).toArray 71)).alloc (.cells (by8 zero16).toArray 71)) (w.heap.size + 1) 71 (by8 zero16) := by
    have h := Blk.new (w.alloc (.cells (by8 a).toArray 71)) 71 (by8 zero16) _ rfl
    rw [World.size_alloc] at h
    exact h
  have hX : Below w.heap.size w ((w.alloc (.cells (by8 a).toArray 71)).alloc (.cells (by8 zero16).toArray 71)) := ((Below.refl _ _).alloc (Nat.le_refl _) _).alloc (by simp) _
  have HT : Hid (Tbl w g 512 (gm 2)) := hT
  clear hT
  have infoB : (Try.prog.info? 5).map (·.size) = some 1 := by kernel_rfl
  go_enter Try.func69, Try.ntmps69
  go_wp2_with fail
  go_loopw [10] (fun i wr => ∃ r : Nat, r ≤ t ∧ i = .int .i64 r ∧ Blk wr w.heap.size 71 (by8 (mixes a r)) ∧ Blk wr (w.heap.size + 1) 71 (by8 zero16) ∧ Below w.heap.size w wr) (fun i _ => t - (intOf i).toNat)
  case atStart => exact ⟨0, by omega, rfl, hA, hZ, hX⟩
  case round =>
    clear hA hZ hX
    obtain ⟨r, hr, rfl, hA, hZ, hnx⟩ := hrel
    by_cases hlt : r < t
    · have d0 : decide ((r : Int) < (t : Int)) = true := by simp; omega
      have HM : Hid (mixN (mixes a r) = mixes a (r + 1)) := rfl
      have hal := mixes_length a ha r
      have hao := mixes_ok a oa r
      generalize mixes a r = A at *
      go_wp2_with fail
      go_loopw [7] (fun c wq => ∃ q : Nat, q ≤ 4 ∧ c = .int .i64 ((4 * q : Nat) : Int) ∧ Blk wq w.heap.size 71 (by8 (mixP A q)) ∧ Blk wq (w.heap.size + 1) 71 (by8 zero16) ∧ Below w.heap.size w wq) (fun c _ => 16 - (intOf c).toNat)
      case atStart => exact ⟨0, by omega, rfl, by rw [mixP_0 A hal]; exact hA, hZ, hnx⟩
      case round =>
        clear hA hZ hnx
        obtain ⟨q, hq, rfl, hA, hZ, hnx⟩ := hrel
        have hpl : (by8 (mixP A q)).length = 16 := by rw [by8_length]; exact mk_length _ _
        by_cases hq4 : q < 4
        · obtain ⟨c, hc⟩ : ∃ c, c = 4 * q := ⟨_, rfl⟩
          rw [← hc]
          have d1 : decide ((c : Int) < 16) = true := by simp; omega
          have hcl : (colN A q).length = 4 := mk_length _ _
          have hsl := sl_sq w.heap.size c (by omega)
          have hat := at_wd (some ⟨w.heap.size, c, none⟩) (16 - c) (16 - c) (by omega)
          have HPT : Hid (by8 (colN A q) = ((by8 (mixP A q)).drop c).take (by8 (colN A q)).length) := by
            show _ = _
            rw [by8_length, hcl, mixP_col A q hq4, by8_take, by8_drop, hc]
          have f1 := stirred_any (colN A q) hcl (colN_ok A q hao) g
          have hS : (stirN (colN A q)).length = 4 := mk_length _ _
          have HN : Hid (by8 ((mixP A q).take c ++ stirN (colN A q) ++ (mixP A q).drop (c + 4)) = by8 (mixP A (q + 1))) := by
            show _ = _
            rw [hc, mixP_step A q hq4]
          rw [by8_append, by8_append, by8_take, by8_drop] at HN
          generalize stirN (colN A q) = D at *
          generalize colN A q = C at *
          have HC : Hid (c = 4 * q) := hc
          clear hc
          have hTw := HT.out.below hnx HT.out.1
          have hzl := hZ.lt
          have hal' := hA.lt
          go_wp2_with (first
            | (refine wpList_load_blk rfl 110 (.tmp 19) rfl w.heap.size c rfl hA (by8 C) HPT.out _ Try.underlying110 rfl (by rw [by8_length, hcl]; exact infoWD) ?_)
            | (go_at_call 85; refine (f1 _ hTw).mono ?_; rintro e w5 ⟨rfl, hb5⟩; have hA5 := hA.below hb5 hal'; have hZ5 := hZ.below hb5 hzl; have hs5 := hb5.size)
            | (refine wpList_store_blk rfl 110 (.tmp 8) (.tmp 21) rfl w5.heap.size (by8 D) rfl rfl (by8 zero4) (Blk.new w5 110 (by8 zero4) _ rfl) (by rw [by8_length, hS]; rfl) (by8_one _) infoWD ?_; intro W6 hW6))
          have hA6 := hW6.other _ _ _ (by omega) (hA5.alloc (.cells (by8 zero4).toArray 110))
          have hZ6 := hW6.other _ _ _ (by omega) (hZ5.alloc (.cells (by8 zero4).toArray 110))
          have hn6 : Below w.heap.size w W6 := hW6.below _ _ (Nat.le_trans hnx.size hs5) ((hnx.trans (hb5.mono hnx.size)).alloc (Nat.le_trans hnx.size hs5) _)
          have hsw := sl_wd w5.heap.size
          have hmn : (by8 D).length = Nat.min 4 (16 - c) := by rw [by8_length, hS]; have := HC.out; show 4 = min 4 (16 - c); omega
          have hfit : c + (by8 D).length ≤ (by8 (mixP A q)).length := by rw [hpl, by8_length, hS]; have := HC.out; omega
          go_region_held3 (fun _ => True) (trivial) ((refine step_copy_blk (by rfl) (.tmp 23) (.tmp 24) 41 41 (by rfl) 5 Try.underlying41 infoB w.heap.size c (16 - c) (16 - c) ⟨w5.heap.size, 0, none⟩ 4 4 (by rfl) (by rfl) (t := 71) (l := by8 (mixP A q)) hA6 (by8 D) hmn (fun j v hv => by rw [Addr.add_mid, Nat.zero_add]; exact hW6.blk.cell j v hv) hfit (by8_ones _) ?_; intro W7 hA7 hs7 ho7 hb7))
          all_goals
            have hcs : goInt (by8 D).length = .int .i64 4 := by rw [by8_length, hS]; rfl
            rw [by8_length, hS, HN.out] at hA7
            have hZ7 : Blk W7 (w.heap.size + 1) 71 (by8 zero16) := by
              unfold Blk at hZ6 ⊢
              rw [ho7 _ (by omega)]
              exact hZ6
            have hn7 := hb7 w.heap.size w (Nat.le_refl _) (by first | exact hn6 | exact hn6.drew)
            clear ho7 hb7
            go_wp2
            go_roundw
            case rel => exact ⟨q + 1, by omega, by have := HC.out; rw [show 4 * (q + 1) = c + 4 from by omega]; go_num, hA7, hZ7, hn7⟩
            case measure => have := HC.out; simp [intOf]; omega
        · obtain rfl : q = 4 := by omega
          have d1 : decide ((((4 * 4 : Nat) : Int)) < 16) = false := by decide
          rw [mixP_4, HM.out] at hA
          go_wp2_with fail
          go_roundw
          case rel => exact ⟨r + 1, by omega, by go_num, hA, hZ, hnx⟩
          case measure => simp [intOf]; omega
    · obtain rfl : r = t := by omega
      have d0 : decide ((r : Int) < (r : Int)) = false := by simp
      have hd : (by8 (mixes a r)).length = 16 := by rw [by8_length]; exact mixes_length a ha r
      obtain ⟨D, HD⟩ : ∃ D, Hid (D = mixes a r) := ⟨_, rfl⟩
      rw [← HD.out] at hA hd
      go_wp2_with (first | (refine wpList_load_blk rfl 71 (.tmp 4) rfl w.heap.size 0 rfl hA (by8 D) (by simp) _ Try.underlying71 rfl (by rw [hd]; exact infoSQ) ?_) | (refine wpList_store_blk rfl 71 (.tmp 6) (.tmp 27) rfl (w.heap.size + 1) (by8 D) rfl rfl (by8 zero16) hZ (by rw [hd]; rfl) (by8_one _) infoSQ ?_; intro W hW))
      exact bodyPost_ret (results_blk1 Try.results69 _ rfl hW.blk _ Try.underlying71 rfl (by rw [hd]; exact infoSQ)) rfl ⟨by rw [HD.out], hW.below _ _ (by omega) hnx⟩
end Go.Proofs.Ytibdlccaenanmaa.aes
