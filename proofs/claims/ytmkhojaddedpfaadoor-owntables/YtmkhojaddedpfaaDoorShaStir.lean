/-
  THE WALK OF package sha's stir.
-/
import Derived.Test.YtmkhojaddedpfaaDoorShaWord
import Derived.Test.YtmkhojaddedpfaaDoorBut
namespace Go.Proofs.YtmkhojaddedpfaaDoor.sha
open Go.RowKit
open Go.Proofs.YtmkhojaddedpfaaDoor.soft
open Go.Proofs.YtmkhojaddedpfaaDoor.cha (ad ad_lt rl Ws xor_lt)

theorem infoU32 : (Tryd.prog.info? 27).map (fun i => (i.zero, i.size, i.bytes)) = some (some (.int .u32 0), 1, 4) := by kernel_rfl
theorem infoU32s : (Tryd.prog.info? 27).map (·.size) = some 1 := by kernel_rfl
theorem sl_1 (b : Nat) (w : World) : (Instr.sliceAt 84 (.pointer (some ⟨b, 0, none⟩)) (some (.int .i64 1)) none none).run Tryd.prog w = .ok (.slice (some ⟨b, 1, none⟩) 7 7) w := by
  obtain ⟨j0, hj, _, hj1, _⟩ := info_parts infoU32
  simp [Instr.sliceAt, Instr.sureAddr, run_underlying Tryd.underlying84, Instr.sliceBounds, Instr.sliceBound, asIntOf, sizeOf, typeInfo, hj, hj1, Addr.add_mid]
theorem sl_7 (b : Nat) (w : World) : (Instr.sliceAt 84 (.pointer (some ⟨b, 0, none⟩)) none (some (.int .i64 7)) none).run Tryd.prog w = .ok (.slice (some ⟨b, 0, none⟩) 7 8) w := by
  obtain ⟨j0, hj, _, hj1, _⟩ := info_parts infoU32
  simp [Instr.sliceAt, Instr.sureAddr, run_underlying Tryd.underlying84, Instr.sliceBounds, Instr.sliceBound, asIntOf, sizeOf, typeInfo, hj, Addr.add_mid]
theorem results_none {P : Program} {fn : Func} (hr : fn.results = #[]) (tmps : Array Value) (w : World) : (results fn tmps).run P w = .ok (.tuple #[]) w := by
  simp [results, hr]

theorem calls_q {P : Program} {f : FuncId} {args : Array Value} {v : Value} (h : ∀ W, Calls P f args W fun e w' => e = .returned v ∧ w' = W) {w : World} {k n : Nat} :
    Calls P f args (w.drewN (k + n)) fun e w'' => e = .returned v ∧ ∃ n, w'' = w.drewN (k + n) :=
  (h _).mono fun _ _ ⟨he, hm⟩ => ⟨he, n, hm⟩
set_option maxRecDepth 100000 in
set_option maxHeartbeats 1600000 in
theorem stir_any (l : List Nat) (hl : l.length = 8) (ok : Ws l) (x b : Nat) (w : World) (hS : Blk w b 84 (wd l)) :
    Calls Tryd.prog 43 #[.pointer (some ⟨b, 0, none⟩), .int .u32 x] w fun e w' => e = .returned (.tuple #[]) ∧ Blk w' b 84 (wd (stL l x)) ∧ w.grownBy w' (some b) := by
  match l, hl with
  | [l0, l1, l2, l3, l4, l5, l6, l7], _ =>
  have b0 : l0 < 4294967296 := ok l0 (by simp)
  have b1 : l1 < 4294967296 := ok l1 (by simp)
  have b2 : l2 < 4294967296 := ok l2 (by simp)
  have b4 : l4 < 4294967296 := ok l4 (by simp)
  have b5 : l5 < 4294967296 := ok l5 (by simp)
  have b6 : l6 < 4294967296 := ok l6 (by simp)
  obtain ⟨p6, q6⟩ : ∃ y, y = rr 6 l4 := ⟨_, rfl⟩
  obtain ⟨p11, q11⟩ : ∃ y, y = rr 11 l4 := ⟨_, rfl⟩
  obtain ⟨p25, q25⟩ : ∃ y, y = rr 25 l4 := ⟨_, rfl⟩
  have c6 : p6 < 4294967296 := by rw [q6]; exact rr_lt (by omega) (by omega) b4
  have c11 : p11 < 4294967296 := by rw [q11]; exact rr_lt (by omega) (by omega) b4
  have c25 : p25 < 4294967296 := by rw [q25]; exact rr_lt (by omega) (by omega) b4
  have f6 := turned_6 l4 b4
  have f11 := turned_11 l4 b4
  have f25 := turned_25 l4 b4
  rw [← q6] at f6; rw [← q11] at f11; rw [← q25] at f25
  obtain ⟨y1, r1⟩ : ∃ y, y = p6 ^^^ p11 := ⟨_, rfl⟩
  have d1 : y1 < 4294967296 := by rw [r1]; exact xor_lt c6 c11
  have e1 := xor32 p6 p11 c6 c11
  obtain ⟨y2, r2⟩ : ∃ y, y = y1 ^^^ p25 := ⟨_, rfl⟩
  have e2 := xor32 y1 p25 d1 c25
  obtain ⟨z1, s1⟩ : ∃ y, y = ad l7 y2 := ⟨_, rfl⟩
  have e3 := add32 l7 y2
  obtain ⟨g1, u1⟩ : ∃ y, y = l4 &&& l5 := ⟨_, rfl⟩
  have v1 : g1 < 4294967296 := by rw [u1]; exact and_lt b4
  have e4 := and32 l4 l5 b4 b5
  obtain ⟨ne, u2⟩ : ∃ y, y = 4294967295 ^^^ l4 := ⟨_, rfl⟩
  have v2 : ne < 4294967296 := by rw [u2]; exact xor_lt (by omega) b4
  have e5 : bits .xor .u32 IntKind.u32.max (l4 : Int) = ((4294967295 ^^^ l4 : Nat) : Int) := xor32 4294967295 l4 (by omega) b4
  obtain ⟨g2, u3⟩ : ∃ y, y = ne &&& l6 := ⟨_, rfl⟩
  have v3 : g2 < 4294967296 := by rw [u3]; exact and_lt v2
  have e6 := and32 ne l6 v2 b6
  obtain ⟨g3, u4⟩ : ∃ y, y = g1 ^^^ g2 := ⟨_, rfl⟩
  have e7 := xor32 g1 g2 v1 v3
  obtain ⟨z2, s2⟩ : ∃ y, y = ad z1 g3 := ⟨_, rfl⟩
  have e8 := add32 z1 g3
  obtain ⟨z3, s3⟩ : ∃ y, y = ad z2 x := ⟨_, rfl⟩
  have e9 := add32 z2 x
  obtain ⟨p2, q2⟩ : ∃ y, y = rr 2 l0 := ⟨_, rfl⟩
  obtain ⟨p13, q13⟩ : ∃ y, y = rr 13 l0 := ⟨_, rfl⟩
  obtain ⟨p22, q22⟩ : ∃ y, y = rr 22 l0 := ⟨_, rfl⟩
  have c2 : p2 < 4294967296 := by rw [q2]; exact rr_lt (by omega) (by omega) b0
  have c13 : p13 < 4294967296 := by rw [q13]; exact rr_lt (by omega) (by omega) b0
  have c22 : p22 < 4294967296 := by rw [q22]; exact rr_lt (by omega) (by omega) b0
  have f2 := turned_2 l0 b0
  have f13 := turned_13 l0 b0
  have f22 := turned_22 l0 b0
  rw [← q2] at f2; rw [← q13] at f13; rw [← q22] at f22
  obtain ⟨y3, r3⟩ : ∃ y, y = p2 ^^^ p13 := ⟨_, rfl⟩
  have d3 : y3 < 4294967296 := by rw [r3]; exact xor_lt c2 c13
  have e10 := xor32 p2 p13 c2 c13
  obtain ⟨y4, r4⟩ : ∃ y, y = y3 ^^^ p22 := ⟨_, rfl⟩
  have e11 := xor32 y3 p22 d3 c22
  obtain ⟨m1, t1'⟩ : ∃ y, y = l0 &&& l1 := ⟨_, rfl⟩
  have k1 : m1 < 4294967296 := by rw [t1']; exact and_lt b0
  have e12 := and32 l0 l1 b0 b1
  obtain ⟨m2, t2'⟩ : ∃ y, y = l0 &&& l2 := ⟨_, rfl⟩
  have k2 : m2 < 4294967296 := by rw [t2']; exact and_lt b0
  have e13 := and32 l0 l2 b0 b2
  obtain ⟨m3, t3'⟩ : ∃ y, y = m1 ||| m2 := ⟨_, rfl⟩
  have k3 : m3 < 4294967296 := by rw [t3']; exact or_lt k1 k2
  have e14 := or32 m1 m2 k1 k2
  obtain ⟨m4, t4'⟩ : ∃ y, y = l1 &&& l2 := ⟨_, rfl⟩
  have k4 : m4 < 4294967296 := by rw [t4']; exact and_lt b1
  have e15 := and32 l1 l2 b1 b2
  obtain ⟨m5, t5'⟩ : ∃ y, y = m3 ||| m4 := ⟨_, rfl⟩
  have e16 := or32 m3 m4 k3 k4
  obtain ⟨z4, s4⟩ : ∃ y, y = ad y4 m5 := ⟨_, rfl⟩
  have e17 := add32 y4 m5
  obtain ⟨z5, s5⟩ : ∃ y, y = ad z3 z4 := ⟨_, rfl⟩
  have e18 := add32 z3 z4
  obtain ⟨z6, s6⟩ : ∃ y, y = ad l3 z3 := ⟨_, rfl⟩
  have e19 := add32 l3 z3
  have e20 : ((z1 : Int) + (g3 : Int) + (x : Int)) % 4294967296 = (z3 : Int) := by
    rw [s3, s2, ← add32, ← add32]; omega
  have HE : Hid (stL [l0, l1, l2, l3, l4, l5, l6, l7] x = [z5, l0, l1, l2, z6, l4, l5, l6]) := by
    have h3 : z3 = t1 [l0, l1, l2, l3, l4, l5, l6, l7] x := by rw [s3, s2, u4, u3, u2, u1, s1, r2, r1, q6, q11, q25]; rfl
    have h4 : z4 = t2 [l0, l1, l2, l3, l4, l5, l6, l7] := by rw [s4, t5', t4', t3', t2', t1', r4, r3, q2, q13, q22]; rfl
    show _ = _
    rw [s5, s6, h3, h4]
    rfl
  rw [← r1] at e1; rw [← r2] at e2; rw [← s1] at e3; rw [← u1] at e4; rw [← u2] at e5; rw [← u3] at e6; rw [← u4] at e7; rw [← s2] at e8; rw [← s3] at e9; rw [← r3] at e10; rw [← r4] at e11; rw [← t1'] at e12; rw [← t2'] at e13; rw [← t3'] at e14; rw [← t4'] at e15; rw [← t5'] at e16; rw [← s4] at e17; rw [← s5] at e18; rw [← s6] at e19
  clear q6 q11 q25 q2 q13 q22 r1 r2 r3 r4 s1 s2 s3 s4 s5 s6 u1 u2 u3 u4 t1' t2' t3' t4' t5' c6 c11 c25 c2 c13 c22 d1 d3 v1 v2 v3 k1 k2 k3 k4 ok b0 b1 b2 b4 b5 b6
  rw [HE.out]
  have a0 := hS.cell 0 _ rfl
  have a1 := hS.cell 1 _ rfl
  have a2 := hS.cell 2 _ rfl
  have a4 := hS.cell 4 _ rfl
  have a5 := hS.cell 5 _ rfl
  have a6 := hS.cell 6 _ rfl
  have a7 := hS.cell 7 _ rfl
  have hpre : ∀ (j : Nat) (v : Value), (wd [l0, l1, l2, l3, l4, l5, l6])[j]? = some v → (wd [l0, l1, l2, l3, l4, l5, l6, l7])[j]? = some v := fun j v hv => by
    rw [show wd [l0, l1, l2, l3, l4, l5, l6, l7] = wd [l0, l1, l2, l3, l4, l5, l6] ++ wd [l7] from rfl, List.getElem?_append_left (List.getElem?_eq_some_iff.1 hv).1]
    exact hv
  have sA := sl_1 b
  have sB := sl_7 b
  go_enter Tryd.func43, Tryd.ntmps43
  go_wp2_with fail
  go_quiet (fail)
  go_wp2_with fail
  go_quiet (fail)
  go_wp2_with fail
  go_quiet ((go_at_call 47; (first | (with_reducible exact calls_q f6) | (with_reducible exact calls_q f11) | (with_reducible exact calls_q f25))))
  go_wp2_with (go_at_call 47; (first | (with_reducible refine (f2 _).mono ?_) | (with_reducible refine (f13 _).mono ?_) | (with_reducible refine (f22 _).mono ?_)); rintro e w1 ⟨rfl, rfl⟩)
  go_region_law ((refine step_copy_blk (by rfl) (.tmp 82) (.tmp 85) 108 108 (by rfl) 27 Tryd.underlying108 infoU32s b 1 7 7 ⟨b, 0, none⟩ 7 8 (by kernel_rfl) (by kernel_rfl) (t := 84) (l := wd [l0, l1, l2, l3, l4, l5, l6, l7]) (by exact hS) (wd [l0, l1, l2, l3, l4, l5, l6]) rfl (fun j v hv => by rw [Addr.add_mid, Nat.zero_add]; exact hS.cell j v (hpre j v hv)) (by rw [wd_length, wd_length]; exact Nat.le_refl _) (wd_ones _) ?_; intro W7 hA7))
  have hB7 : Blk W7 b 84 (wd [l0, l0, l1, l2, l3, l4, l5, l6]) := hA7.blk
  have hG7 := hA7.but (a := w) ⟨rfl, rfl, rfl, Nat.le_refl _, fun _ _ _ => rfl⟩
  have k0 := hB7.cell 0 _ rfl
  have k4 := hB7.cell 4 _ rfl
  have o0 := hB7.frozen 0
  have o4 := hB7.frozen 4
  go_wp2_with fail
  go_region
  go_wp2
  exact ⟨rfl, .tuple #[], results_none Tryd.results43 _ _, rfl, ((hB7.set 0 (.int .u32 (z5 : Nat))).set 4 (.int .u32 (z6 : Nat))).drew, but_drew (but_set (but_set hG7 0 _) 4 _)⟩
end Go.Proofs.YtmkhojaddedpfaaDoor.sha
