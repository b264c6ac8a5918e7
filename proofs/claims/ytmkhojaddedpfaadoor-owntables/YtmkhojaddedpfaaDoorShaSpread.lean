/-
  THE WALK OF package sha's spread.
-/
import Derived.Test.YtmkhojaddedpfaaDoorShaStir
namespace Go.Proofs.YtmkhojaddedpfaaDoor.sha
open Go.RowKit
open Go.Proofs.YtmkhojaddedpfaaDoor.soft
open Go.Proofs.YtmkhojaddedpfaaDoor.cha (ad ad_lt rl Ws xor_lt)
open Go.Proofs.YtmkhojaddedpfaaDoor.ghs (mkl mkl_length mkl_get)

theorem infoU8 : (Tryd.prog.info? 5).map (fun i => (i.zero, i.size, i.bytes)) = some (some (.int .u8 0), 1, 1) := by kernel_rfl
def z64 : List Nat := List.replicate 64 0
theorem infoW64z : (Tryd.prog.info? 96).map (fun i => (i.zero, i.size, i.bytes)) = some (some (.agg (wd z64).toArray), 64, 256) := by kernel_rfl
theorem infoW64 : (Tryd.prog.info? 96).map (·.size) = some 64 := by kernel_rfl
theorem sl_b (b k : Nat) (hk : k < 64) (w : World) : (Instr.sliceAt 86 (.pointer (some ⟨b, 0, none⟩)) (some (.int .i64 (k : Nat))) none none).run Tryd.prog w = .ok (.slice (some ⟨b, k, none⟩) (64 - k) (64 - k)) w := by
  obtain ⟨j0, hj, _, hj1, _⟩ := info_parts infoU8
  have h1 : k ≤ 64 := by omega
  have h2 : ¬ 64 = k := by omega
  simp [Instr.sliceAt, Instr.sureAddr, run_underlying Tryd.underlying86, Instr.sliceBounds, Instr.sliceBound, asIntOf, sizeOf, typeInfo, hj, hj1, Addr.add_mid, h1, h2]

theorem calls_upq {P : Program} {f : FuncId} {args : Array Value} {v : Value} {w : World} {x : Up w}
    (h : ∀ W, Calls P f args W fun e w' => e = .returned v ∧ w' = W) : Calls P f args x.1 fun e w'' => e = .returned v ∧ ∃ y : Up w, w'' = y.1 :=
  calls_up ((h x.1).mono fun _ _ ⟨he, hm⟩ => ⟨he, by rw [hm]; exact Below.refl _ _⟩)
set_option maxRecDepth 100000 in
set_option maxHeartbeats 3200000 in
theorem spread_any (f : Nat → Nat) (hf : ∀ j, f j < 256) (w : World) :
    Calls Tryd.prog 42 #[.agg (by8 (mkl 64 f)).toArray] w fun e w' => e = .returned (.agg (wd (ws f 64)).toArray) ∧ Below w.heap.size w w' := by
  obtain ⟨i0, hi, hz0, hz1, hz2⟩ := info_parts infoW64z
  have lB : (by8 (mkl 64 f)).length = 64 := by rw [by8_length, mkl_length]
  obtain ⟨D, hD⟩ : ∃ D, D = by8 (mkl 64 f) := ⟨_, rfl⟩
  obtain ⟨Z, hZd⟩ : ∃ Z, Z = wd z64 := ⟨_, rfl⟩
  have HD : Hid (D = by8 (mkl 64 f)) := hD
  have HZ : Hid (Z = wd z64) := hZd
  have lZ : Z.length = 64 := by rw [hZd]; rfl
  rw [← hZd] at hz0
  rw [← hD] at lB ⊢
  clear hD hZd
  have h0 : Blk (((w.alloc (.cells D.toArray 86)).alloc (.cells Z.toArray 96)).alloc (.cells Z.toArray 96)) w.heap.size 86 D := ((Blk.new w 86 D _ rfl).alloc _).alloc _
  have h1 : Blk (((w.alloc (.cells D.toArray 86)).alloc (.cells Z.toArray 96)).alloc (.cells Z.toArray 96)) (w.heap.size + 1) 96 Z := by
    have h := Blk.new (w.alloc (.cells D.toArray 86)) 96 Z _ rfl
    rw [World.size_alloc] at h
    exact h.alloc _
  have h2 : Blk (((w.alloc (.cells D.toArray 86)).alloc (.cells Z.toArray 96)).alloc (.cells Z.toArray 96)) (w.heap.size + 1 + 1) 96 Z := by
    have h := Blk.new ((w.alloc (.cells D.toArray 86)).alloc (.cells Z.toArray 96)) 96 Z _ rfl
    rw [World.size_alloc, World.size_alloc] at h
    exact h
  have hX : Below w.heap.size w (((w.alloc (.cells D.toArray 86)).alloc (.cells Z.toArray 96)).alloc (.cells Z.toArray 96)) := (((Below.refl _ _).alloc (Nat.le_refl _) _).alloc (by simp) _).alloc (by simp; omega) _
  go_enter Tryd.func42, Tryd.ntmps42
  go_wp2_with (refine wpList_alloc_blk rfl 96 rfl Z i0 hi _ hz0 rfl ?_)
  have h2' : Blk (((w.alloc (.cells D.toArray 86)).alloc (.cells Z.toArray 96)).alloc (.cells Z.toArray 96)) (w.heap.size + 1 + 1) 96 (wd (wz f 0)) := by rw [show wd (wz f 0) = Z from by rw [wz_0]; exact HZ.out.symm]; exact h2
  go_loopw [10] (fun i wr => ∃ k : Nat, k ≤ 16 ∧ i = .int .i64 k ∧ Blk wr w.heap.size 86 D ∧ Blk wr (w.heap.size + 1) 96 Z ∧ Blk wr (w.heap.size + 1 + 1) 96 (wd (wz f k)) ∧ Below w.heap.size w wr) (fun i _ => 16 - (intOf i).toNat)
  case atStart => exact ⟨0, by omega, rfl, h0, h1, h2', hX⟩
  case round =>
    clear h0 h1 h2 h2' hX
    obtain ⟨k, hk16, rfl, hA, hR, hW, hnx⟩ := hrel
    by_cases hlt : k < 16
    · have d0 : decide ((k : Int) < 16) = true := by simp; omega
      obtain ⟨q, hq⟩ : ∃ q, q = 4 * k := ⟨_, rfl⟩
      have e1 : 4 * (k : Int) = (q : Int) := by omega
      have hsl := sl_b w.heap.size q (by omega)
      have f1 : ∀ W, Below wr.heap.size wr W → _ := fun W hW => number_any w.heap.size q (64 - q) (64 - q) (by omega) f k hf W (Nat.lt_of_lt_of_le hA.lt hW.size) fun j hj => by
        refine (hA.below hW hA.lt).cell (q + j) _ ?_
        rw [HD.out, by8_get _ _ (by rw [mkl_length]; omega), mkl_get _ _ _ (by omega), hq]
      have f2 := f1 wr (Below.refl _ _)
      clear f1
      have l := wz_length f k (by omega)
      have HU : Hid (wz f (k + 1) = (wz f k).set k (nm f k)) := by
        show _ = _
        rw [← wz_set f k (by omega)]
        unfold wn
        rw [if_pos hlt]
      have c1 := hW.cell k _ (wd_get _ k (by omega))
      have z1 := hW.frozen k
      generalize nm f k = x at *
      generalize wz f k = L at *
      generalize L.getD k 0 = o at *
      have q0 : (0 : Int) ≤ (k : Int) := by omega
      have r0 : (k : Int) < 64 := by omega
      clear hq
      go_wp2_with (go_at_call 46; (with_reducible refine f2.mono ?_); rintro e w2 ⟨rfl, hb2⟩; have c2 := (hW.below hb2 hW.lt).cell k _ (wd_get _ k (by omega)); have z2 := (hW.below hb2 hW.lt).frozen k)
      go_roundw
      case rel => exact ⟨k + 1, by omega, by go_num, (hA.below hb2 hA.lt).other (by simp; omega) _, (hR.below hb2 hR.lt).other (by simp) _, by rw [HU.out, ← wd_set]; exact (hW.below hb2 hW.lt).set k _, (hnx.trans (hb2.mono hnx.size)).setCell (by simp; omega) _⟩
      case measure => simp [intOf]; omega
    · obtain rfl : k = 16 := by omega
      have d0 : decide (((16 : Nat) : Int) < 16) = false := by decide
      rw [show ((16 : Nat) : Int) = 16 from rfl] at d0 ⊢
      go_wp2_with fail
      go_loopw [6] (fun i wr => ∃ k : Nat, 16 ≤ k ∧ k ≤ 64 ∧ i = .int .i64 k ∧ Blk wr (w.heap.size + 1) 96 Z ∧ Blk wr (w.heap.size + 1 + 1) 96 (wd (wz f k)) ∧ Below w.heap.size w wr) (fun i _ => 64 - (intOf i).toNat)
      case atStart => exact ⟨16, by omega, by omega, rfl, hR, hW, hnx⟩
      case round =>
        clear hA hR hW hnx d0
        obtain ⟨k, hk16, hk64, rfl, hR, hW, hnx⟩ := hrel
        by_cases hlt : k < 64
        · have d0 : decide ((k : Int) < 64) = true := by simp; omega
          obtain ⟨q16, j16⟩ : ∃ q, q = k - 16 := ⟨_, rfl⟩
          obtain ⟨q15, j15⟩ : ∃ q, q = k - 15 := ⟨_, rfl⟩
          obtain ⟨q7, j7⟩ : ∃ q, q = k - 7 := ⟨_, rfl⟩
          obtain ⟨q2, j2⟩ : ∃ q, q = k - 2 := ⟨_, rfl⟩
          have i16 : (k : Int) - 16 = (q16 : Int) := by omega
          have i15 : (k : Int) - 15 = (q15 : Int) := by omega
          have i7 : (k : Int) - 7 = (q7 : Int) := by omega
          have i2 : (k : Int) - 2 = (q2 : Int) := by omega
          have l := wz_length f k (by omega)
          have o16 : q16 < 64 := by omega
          have o15 : q15 < 64 := by omega
          have o7 : q7 < 64 := by omega
          have o2 : q2 < 64 := by omega
          have C16 := wd_get (wz f k) q16 (by omega)
          have C15 := hW.cell q15 _ (wd_get _ q15 (by omega))
          have C7 := wd_get (wz f k) q7 (by omega)
          have C2 := hW.cell q2 _ (wd_get _ q2 (by omega))
          have hok := ws_ok hf k
          have g16 := wz_get f k q16 (by omega)
          have g15 := wz_get f k q15 (by omega)
          have g7 := wz_get f k q7 (by omega)
          have g2 := wz_get f k q2 (by omega)
          rw [g16] at C16; rw [g15] at C15; rw [g7] at C7; rw [g2] at C2
          have H16 : Hid _ := C16
          have H7 : Hid _ := C7
          have HK : Hid _ := wd_get (wz f k) k (by omega)
          clear C16 C7
          have b15 := hok.get q15
          have b2 := hok.get q2
          have HU : Hid (wz f (k + 1) = (wz f k).set k (ad (ad (ad ((ws f k).getD q16 0) ((ws f k).getD q7 0)) (s0 ((ws f k).getD q15 0))) (s1 ((ws f k).getD q2 0)))) := by
            show _ = _
            rw [← wz_set f k (by omega)]
            unfold wn wx
            rw [if_neg (by omega), j16, j15, j7, j2]
          clear g16 g15 g7 g2 hok j16 j15 j7 j2
          generalize (ws f k).getD q16 0 = a16 at *
          generalize (ws f k).getD q15 0 = a15 at *
          generalize (ws f k).getD q7 0 = a7 at *
          generalize (ws f k).getD q2 0 = a2 at *
          obtain ⟨p7, r7⟩ : ∃ y, y = rr 7 a15 := ⟨_, rfl⟩
          obtain ⟨p18, r18⟩ : ∃ y, y = rr 18 a15 := ⟨_, rfl⟩
          obtain ⟨p3, r3⟩ : ∃ y, y = a15 / 8 := ⟨_, rfl⟩
          obtain ⟨p17, r17⟩ : ∃ y, y = rr 17 a2 := ⟨_, rfl⟩
          obtain ⟨p19, r19⟩ : ∃ y, y = rr 19 a2 := ⟨_, rfl⟩
          obtain ⟨p10, r10⟩ : ∃ y, y = a2 / 1024 := ⟨_, rfl⟩
          have c7 : p7 < 4294967296 := by rw [r7]; exact rr_lt (by omega) (by omega) b15
          have c18 : p18 < 4294967296 := by rw [r18]; exact rr_lt (by omega) (by omega) b15
          have c3 : p3 < 4294967296 := by rw [r3]; exact div_lt' _ b15
          have c17 : p17 < 4294967296 := by rw [r17]; exact rr_lt (by omega) (by omega) b2
          have c19 : p19 < 4294967296 := by rw [r19]; exact rr_lt (by omega) (by omega) b2
          have c10 : p10 < 4294967296 := by rw [r10]; exact div_lt' _ b2
          have f7 := turned_7 a15 b15
          have f18 := turned_18 a15 b15
          have f17 := turned_17 a2 b2
          have f19 := turned_19 a2 b2
          rw [← r7] at f7; rw [← r18] at f18; rw [← r17] at f17; rw [← r19] at f19
          have d3 : (a15 : Int) / 8 = (p3 : Int) := by omega
          have d10 : (a2 : Int) / 1024 = (p10 : Int) := by omega
          obtain ⟨x1, y1⟩ : ∃ y, y = p7 ^^^ p18 := ⟨_, rfl⟩
          have m1 : x1 < 4294967296 := by rw [y1]; exact xor_lt c7 c18
          have e1 := xor32 p7 p18 c7 c18
          obtain ⟨x2, y2⟩ : ∃ y, y = x1 ^^^ p3 := ⟨_, rfl⟩
          have e2 := xor32 x1 p3 m1 c3
          obtain ⟨x3, y3⟩ : ∃ y, y = p17 ^^^ p19 := ⟨_, rfl⟩
          have m3 : x3 < 4294967296 := by rw [y3]; exact xor_lt c17 c19
          have e3 := xor32 p17 p19 c17 c19
          obtain ⟨x4, y4⟩ : ∃ y, y = x3 ^^^ p10 := ⟨_, rfl⟩
          have e4 := xor32 x3 p10 m3 c10
          obtain ⟨z1, n1⟩ : ∃ y, y = ad a16 a7 := ⟨_, rfl⟩
          have s1' := add32 a16 a7
          obtain ⟨z2, n2⟩ : ∃ y, y = ad z1 x2 := ⟨_, rfl⟩
          have s2' := add32 z1 x2
          have s3' : ((a16 : Int) + (a7 : Int) + (x2 : Int)) % 4294967296 = (z2 : Int) := by rw [n2, n1, ← add32, ← add32]; omega
          obtain ⟨z3, n3⟩ : ∃ y, y = ad z2 x4 := ⟨_, rfl⟩
          have s4' := add32 z2 x4
          have s5' : ((z1 : Int) + (x2 : Int) + (x4 : Int)) % 4294967296 = (z3 : Int) := by rw [n3, n2, ← add32, ← add32]; omega
          have s6' : ((a16 : Int) + (a7 : Int) + (x2 : Int) + (x4 : Int)) % 4294967296 = (z3 : Int) := by rw [n3, n2, n1, ← add32, ← add32, ← add32]; omega
          have HV : Hid (wz f (k + 1) = (wz f k).set k z3) := by
            show _ = _
            rw [HU.out, n3, n2, n1, y4, y3, y2, y1, r7, r18, r3, r17, r19, r10]
            rfl
          rw [← y1] at e1; rw [← y2] at e2; rw [← y3] at e3; rw [← y4] at e4; rw [← n1] at s1'; rw [← n2] at s2'; rw [← n3] at s4'
          clear HU r7 r18 r3 r17 r19 r10 y1 y2 y3 y4 n1 n2 n3 c7 c18 c3 c17 c19 c10 m1 m3 b15 b2
          generalize wz f k = L at *
          generalize L.getD k 0 = o at *
          have q0 : (0 : Int) ≤ (k : Int) := by omega
          have r0 : (k : Int) < 64 := by omega
          have q16' : (q16 : Int) < 64 := by omega
          have q15' : (q15 : Int) < 64 := by omega
          have q7' : (q7 : Int) < 64 := by omega
          have q2' : (q2 : Int) < 64 := by omega
          have q16z : (0 : Int) ≤ (q16 : Int) := by omega
          have q15z : (0 : Int) ≤ (q15 : Int) := by omega
          have q7z : (0 : Int) ≤ (q7 : Int) := by omega
          have q2z : (0 : Int) ≤ (q2 : Int) := by omega
          go_wp2_with fail
          go_quiet (fail)
          have hW1 : Blk (wr.drewN nq) (w.heap.size + 1 + 1) 96 (wd L) := hW
          have hR1 : Blk (wr.drewN nq) (w.heap.size + 1) 96 Z := hR
          have hX1 : Below w.heap.size w (wr.drewN nq) := ⟨hnx.os, hnx.tape, hnx.output, hnx.size, hnx.block⟩
          clear hW hR hnx C15 C2
          generalize wr.drewN nq = W1 at *
          have C16 := fun x : Up W1 => (hW1.below x.2 hW1.lt).cell q16 _ H16.out
          have C7 := fun x : Up W1 => (hW1.below x.2 hW1.lt).cell q7 _ H7.out
          have hne := Up.some W1
          go_wp2_with fail
          refine wp_region_tail 29 (by kernel_rfl) (by kernel_rfl) ?_
          simp only [List.take_succ_cons, List.take_zero, List.drop_succ_cons, List.drop_zero]
          repeat (go_big_quiet_step (with_reducible (first | exact calls_upq f7 | exact calls_upq f18 | exact calls_upq f17 | exact calls_upq f19)))
          refine wpQuiet_nil ?_
          rintro w1 ⟨y1, rfl⟩
          have hW2 := hW1.below y1.2 hW1.lt
          have hR2 := hR1.below y1.2 hR1.lt
          have hX2 := hX1.trans (y1.2.mono hX1.size)
          have k1 := hW2.cell k _ HK.out
          have z1 := hW2.frozen k
          clear C16 C7
          go_wp2_with fail
          go_roundw
          case rel => exact ⟨k + 1, by omega, by omega, by go_num, hR2.other (by simp) _, by rw [HV.out, ← wd_set]; exact hW2.set k _, hX2.setCell (by simp; omega) _⟩
          case measure => simp [intOf]; omega
        · obtain rfl : k = 64 := by omega
          have d0 : decide (((64 : Nat) : Int) < 64) = false := by decide
          rw [wz_64] at hW
          have lq : (wd (ws f 64)).length = 64 := by rw [wd_length, ws_length]
          have l1 := wd_one (ws f 64)
          obtain ⟨R, HR⟩ : ∃ R, Hid (R = wd (ws f 64)) := ⟨_, rfl⟩
          rw [← HR.out] at hW lq l1
          go_wp2_with (first | (refine wpList_load_blk rfl 96 (.tmp 3) rfl (w.heap.size + 1 + 1) 0 rfl hW R (by simp) _ Tryd.underlying96 rfl (by rw [lq]; exact infoW64) ?_) | (refine wpList_store_blk rfl 96 (.tmp 2) (.tmp 62) rfl (w.heap.size + 1) R rfl rfl Z hR (by rw [lq, lZ]) l1 (by rw [lZ]; exact infoW64) ?_; intro W hW2))
          exact bodyPost_ret (results_blk1 Tryd.results42 _ rfl hW2.blk _ Tryd.underlying96 rfl (by rw [lq]; exact infoW64)) rfl ⟨by rw [HR.out], hW2.below _ _ (by omega) hnx⟩
end Go.Proofs.YtmkhojaddedpfaaDoor.sha
