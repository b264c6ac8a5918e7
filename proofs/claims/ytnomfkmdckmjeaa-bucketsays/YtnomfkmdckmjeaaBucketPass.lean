/-
  THE TICKS PASS: maps.DeleteFunc at the bucket's map, walked here; then each of those who stay has its ticks more.
-/
import Derived.Test.YtnomfkmdckmjeaaBucketLow
import Derived.Test.YtnomfkmdckmjeaaBut
namespace Go.Proofs.Ytnomfkmdckmjeaa.bkt
open Go.RowKit Go.Maps
open Go.Proofs.Ytnomfkmdckmjeaa.soft

set_option maxHeartbeats 4000000 in
set_option maxRecDepth 100000 in
theorem delete_any (m n : Nat) (D : DataW Unit) (t : Int) (bx : Nat) (w : World) (hown : w.ownsMap Try.prog 30 (plainElem Try.prog 3) m n D) (hne : bx ≠ m) (hbx : w.cell? ⟨bx, 0, none⟩ = some (.int .i64 t)) :
    Calls Try.prog 15 #[.map (some m), .func (.func 16) #[] #[.pointer (some ⟨bx, 0, none⟩)]] w fun e w' => e = .returned (.tuple #[]) ∧ w'.ownsMap Try.prog 30 (plainElem Try.prog 3) m n (Lib.deleteFuncD (pdOf t) D) ∧ w.grownBy w' (some m) := by
  obtain ⟨es0, rfl, hap, hkeys⟩ := hown.entries keyed
  have HX : Hid (w.cell? ⟨bx, 0, none⟩ = some (.int .i64 t)) := hbx
  clear hbx
  go_enter Try.func15, Try.ntmps15
  go_wp2_with (first
    | (at_range; refine wpList_range_own _ rfl _ 44 rfl 30 3 keyed Try.underlying44 _ m n _ rfl hown ?_; intro w0 hrg0 hg0 hs0)
    | go_in)
  go_frame
  go_loopw [8] (fun _ wr => ∃ (left : Lit → Bool) (cnt : Nat), wr.ranges Try.prog 30 (plainElem Try.prog 3) m w.heap.size n (Fk (pdOf t) es0 left) left cnt ∧ w.grownBy wr (some m))
    (fun _ wr => wr.rangeLeft m w.heap.size)
  case atStart => exact ⟨_, _, by rw [Fk_start hkeys]; exact hrg0, hg0.but _⟩
  case round =>
    clear hrg0 hg0 hs0
    obtain ⟨left, cnt, hrg, hgw⟩ := hrel
    go_wp2_with (first
      | (at_next; refine wpList_next_ranges_ii _ rfl _ rfl 30 3 .u32 .i64 keyed Try.underlying30 Try.underlying3 m w.heap.size n _ _ _ rfl hrg ?_ ?_)
      | go_in)
    · intro _ hl0
      go_wp2
      go_end0
      exact ⟨rfl, by rw [← Fk_end hl0]; exact hrg.owns, hgw⟩
    · intro x c w1 cnt1 hwx hwc hlx hat hrg1 hlt hg1 hs1 hen
      have hkey : keyOf Try.prog 30 (.int .u32 x) = some (.int .u32 x) := keyOf_int_mk Try.underlying30 hwx
      have hgw1 := hgw.andThen hg1 (fun j hj => by cases hj; exact Or.inl (Nat.le_refl _))
      have hbl := hrg1.owns.lt
      have hc := goes_any (.int .u32 x) c t bx w1 (hgw1.cell HX.out (fun e => hne (by cases e; rfl)))
      have hpd : pdOf t (.int .u32 x) (.lit (.int .i64 c)) = decide (wrap64 (c + t) ≥ 5) := rfl
      cases hp : decide (wrap64 (c + t) ≥ 5) <;> rw [hp] at hc hpd
      · clear hp
        go_wp2_with (first
          | (go_at_call 16; refine hc.mono ?_; rintro e w2 ⟨rfl, hq⟩; have hq := hq.symm; subst hq)
          | go_in)
        go_roundw
        case rel => exact ⟨_, cnt1, by rw [← Fk_stays hap (keyed.key hkey) hlx hpd hat]; exact hrg1, hgw1⟩
        case measure => rw [hrg1.left_eq, hrg.left_eq]; exact hlt
      · clear hp
        go_wp2_with (first
          | (go_at_call 16; refine hc.mono ?_; rintro e w2 ⟨rfl, hq⟩; have hq := hq.symm; subst hq)
          | (at_delete; refine wpList_delete_ranges _ rfl _ _ 44 30 rfl 3 keyed Try.underlying44 _ m w.heap.size n _ _ _ rfl hrg1 _ _ rfl hkey ?_; intro w3 cnt3 hrg3 hle hturn; go_frame)
          | go_in)
        rw [strike_twice] at hrg3
        go_roundw
        case rel => exact ⟨_, cnt3, by rw [← Fk_struck hap (keyed.key hkey) hlx hpd hat]; exact hrg3, hgw1.andThen hturn.grown (fun j hj => by cases hj; exact Or.inr rfl)⟩
        case measure => rw [hrg3.left_eq, hrg.left_eq]; omega
/-- A look-up in a region that only reads. -/
theorem wpQuiet_look {P : Program} {ops : Array Oper} {w : World} {K : Act → Prop} {rest : List Oper} {op : Oper} {a : Act} (hgd : op.guard = none) (ty : TypeId) (x y : Operand) (c : Bool) (ho : op.op = .lookup ty x y c) (mv kv v : Value) (hx : a.eval x = mv) (hy : a.eval y = kv)
    (hr : ∀ z : Up w, (Instr.lookup ty mv kv c).run P z.1 = .ok v z.1) (h : wpQuiet P ops (fun w' => ∃ x : Up w, w' = x.1) K rest (a.put op.dst v)) : wpQuiet P ops (fun w' => ∃ x : Up w, w' = x.1) K (op :: rest) a := by
  have hw : Region.wanted op (yielded ops a.tmps) = true := by simp [Region.wanted, hgd]
  unfold wpQuiet
  rw [if_pos hw]
  refine ⟨v, ?_, h⟩
  rintro W ⟨z, rfl⟩
  unfold Oper.quietAt execOp
  simp only [ho, hx, hy, Sem.run_bind, hr z, Result.andThen_ok]
  exact ⟨rfl, rfl⟩
set_option maxHeartbeats 1600000 in
set_option maxRecDepth 100000 in
theorem passTo_any (b m : Nat) (S : St) (hO : S.Ok) (n : Nat) (ht : S.t ≤ n) (hn : n ≤ 1099511627776) (w : World) (hB : Bm w b m S) :
    Calls Try.prog 14 #[.pointer (some ⟨b, 0, none⟩), .int .i64 (n : Int)] w fun e w' => e = .returned (.tuple #[]) ∧ Bm w' b m ⟨n, pass S.l (n - S.t)⟩ ∧ Chg (fun k => k = b ∨ k = m) w w' := by
  obtain ⟨t, htd⟩ : ∃ t, t = n - S.t := ⟨_, rfl⟩
  rw [← htd]
  have hbl := hB.blk.lt
  have hml := hB.map.lt
  have hne := hB.ne
  have e1 : (n : Int) - (S.t : Int) = (t : Int) := by omega
  have ht40 : t ≤ 1099511627776 := by omega
  have hBB := hB.blk
  obtain ⟨T, hT⟩ : ∃ T, (S.t : Int) = T := ⟨_, rfl⟩
  rw [hT] at hBB e1
  obtain ⟨w1, hw1⟩ : ∃ w1, w1 = w.setCell ⟨b, 1, none⟩ (.int .i64 (n : Int)) := ⟨_, rfl⟩
  have hs1 : w1.heap.size = w.heap.size := by rw [hw1]; simp [World.setCell]
  have hB1 : Blk w1 b 46 [.map (some m), .int .i64 (n : Int)] := by rw [hw1]; exact hBB.set 1 _
  have hC1 : Chg (fun k => k = b ∨ k = m) w w1 := by rw [hw1]; exact (Chg.refl _ _).set (.inl (.inl rfl)) 1 _
  have hM1 : Map w1 m S.l := by
    rw [hw1]
    obtain ⟨D, ho, hs⟩ := hB.map
    exact ⟨D, ho.setCell (fun e => hne e.symm) _, hs⟩
  obtain ⟨w2, hw2⟩ : ∃ w2, w2 = w1.alloc (.cells #[.int .i64 (t : Int)] 3) := ⟨_, rfl⟩
  have hB2 : Blk w2 b 46 [.map (some m), .int .i64 (n : Int)] := by rw [hw2]; exact hB1.alloc _
  have hE2 : Blk w2 w.heap.size 3 [.int .i64 (t : Int)] := by rw [hw2, ← hs1]; exact Blk.new w1 3 _ _ rfl
  have hM2 : Map w2 m S.l := by rw [hw2]; exact hM1.below ((Below.refl _ _).alloc (Nat.le_refl _) _)
  have hC2 : Chg (fun k => k = b ∨ k = m) w w2 := by rw [hw2]; exact hC1.alloc _
  have c0 := hBB.cell 0 _ rfl
  have c1 := hBB.cell 1 _ rfl
  have z1 := hBB.frozen 1
  have d0 := hB2.cell 0 _ rfl
  obtain ⟨D, hown, hsays⟩ := hM2
  have hsz2 : w.heap.size < w2.heap.size := hE2.lt
  have f1 := delete_any m _ D (t : Int) w.heap.size w2 hown (by omega) (hE2.cell 0 _ rfl)
  have hst := hsays.stay (t := t) rfl ht40 hO.each
  generalize Lib.deleteFuncD (pdOf (t : Int)) D = D1 at f1 hst
  have hW : Hid (w2 = (w.setCell ⟨b, 1, none⟩ (.int .i64 (n : Int))).alloc (.cells #[.int .i64 (t : Int)] 3)) := by rw [hw2, hw1]; exact rfl
  rw [hw2, hw1] at f1
  have k1 : ∀ w3, ((w.setCell ⟨b, 1, none⟩ (.int .i64 (n : Int))).alloc (.cells #[.int .i64 (t : Int)] 3)).grownBy w3 (some m) → Blk w3 b 46 [.map (some m), .int .i64 (n : Int)] ∧ Blk w3 w.heap.size 3 [.int .i64 (t : Int)] ∧ Chg (fun k => k = b ∨ k = m) w w3 ∧ w3.cell? ⟨b, 0, none⟩ = some (.map (some m)) := fun w3 hg => by
    rw [← hW.out] at hg
    have h1 := hB2.but hg (fun e => hne (Option.some.inj e))
    exact ⟨h1, hE2.but hg (fun e => by have := Option.some.inj e; omega), hC2.but hg (fun j hj => Or.inl (Or.inr (Option.some.inj hj).symm)), h1.cell 0 _ rfl⟩
  clear hB1 hM1 hC1 hT htd hB hBB hw1 hw2 hs1 hown hsays
  go_enter Try.func14, Try.ntmps14
  go_wp2_with (first
    | (go_at_call 15; refine f1.mono ?_; rintro e w3 ⟨rfl, hown3, hg3⟩; obtain ⟨hB3, hE3, hC3, e0⟩ := k1 w3 hg3)
    | (at_range; refine wpList_range_own _ rfl _ 44 rfl 30 3 keyed Try.underlying44 _ m _ _ rfl hown3 ?_; intro w0 hrg0 hg0 hs0)
    | go_in)
  go_frame
  have hR3 : w.heap.size < w3.heap.size := hE3.lt
  obtain ⟨R, hR⟩ : ∃ R, w3.heap.size = R := ⟨_, rfl⟩
  rw [hR] at hrg0 hR3 ⊢
  have hkS : ((stay S.l t).map (·.1)).Nodup := (List.filter_sublist.map _).nodup hO.keys
  have hB0 := hB3.but hg0 (by simp)
  have hE0 := hE3.but hg0 (by simp)
  have hC0 := hC3.but hg0 (fun j hj => by cases hj)
  have hHas : ∀ p ∈ stay S.l t, Maps.has D1 (kU p.1) = true := fun p hp => by
    rw [hst.has hkS, look_of_mem hkS (show (p.1, p.2) ∈ stay S.l t from hp)]; rfl
  have hmid := mid_start (stay S.l t) t (Maps.has D1) hHas
  have HN : Hid ((stay S.l t).map (·.1)).Nodup := hkS
  have HE : Hid (∀ p ∈ S.l, p.1 < 4294967296 ∧ p.2 < 5) := hO.each
  clear hB3 hE3 hC3 hown3 hg3 hHas hkS e0 f1 k1 hE2 hB2 hC2 hsz2 hs0 hg0 hW hO hR
  go_loopw [5] (fun _ wr => ∃ (left : Lit → Bool) (cnt : Nat) (D : DataW Unit), wr.ranges Try.prog 30 (plainElem Try.prog 3) m R S.l.length D left cnt ∧ Says D (mid (stay S.l t) t left) ∧ Blk wr b 46 [.map (some m), .int .i64 (n : Int)] ∧ Blk wr w.heap.size 3 [.int .i64 (t : Int)] ∧ Chg (fun k => k = b ∨ k = m) w wr)
    (fun _ wr => wr.rangeLeft m R)
  case atStart => exact ⟨_, _, D1, hrg0, by rw [hmid]; exact hst, hB0, hE0, hC0⟩
  case round =>
    clear hrg0 hst hB0 hE0 hC0 hmid
    obtain ⟨left, cnt, D, hrg, hs, hB, hE, hC⟩ := hrel
    go_wp2_with (first
      | (at_next; refine wpList_next_ranges_ii _ rfl _ rfl 30 3 .u32 .i64 keyed Try.underlying30 Try.underlying3 m R S.l.length _ _ _ rfl hrg ?_ ?_)
      | go_in)
    · intro _ hl0
      go_wp2
      go_end0
      exact ⟨rfl, ⟨hB, Map.of hrg.owns (by rw [← mid_end S.l t left hl0]; exact hs), hne⟩, hC⟩
    · intro x c w4 cnt1 hwx hwc hlx hat hrg1 hlt hg1 hs1 hen
      have hx0 := hwx
      simp [Lit.wf] at hx0
      have u0 : IntKind.u32.min = 0 := rfl
      have u1 : IntKind.u32.max = 4294967295 := rfl
      obtain ⟨x, rfl⟩ : ∃ k : Nat, x = k := ⟨x.toNat, by omega⟩
      have hx : x < 4294967296 := by omega
      have hkM : ((mid (stay S.l t) t left).map (·.1)).Nodup := by rw [mid_keys]; exact HN.out
      have hlk := hs.has hkM x
      have hhas : Maps.has D (kU x) = true := Maps.has_true_of_atKey hat
      rw [hhas] at hlk
      obtain ⟨v, hv⟩ := Option.isSome_iff_exists.1 hlk.symm
      have hv2 := hv
      rw [mid_look t left hlx] at hv2
      have hcv : c = (v : Int) := by
        have h1 := (hs.some hkM hv).2 .nil
        have h2 := hat .nil
        rw [show (Lit.int IntKind.u32 (x : Int)) = kU x from rfl, h1] at h2
        injection h2 with h2
        injection h2 with _ h2
        exact h2.symm
      subst hcv
      have hv5 : v < 5 := by
        have := look_mem hv2
        unfold stay at this
        exact (HE.out _ (List.mem_filter.1 this).1).2
      have hstep := mid_step HN.out t left hv2
      have hput := hs.upd (v := v + t) hkM hv
      rw [hstep] at hput
      have HP : Hid (Says (D.put (kU x) (.lit (.int .i64 ((v + t : Nat) : Int)))) (mid (stay S.l t) t fun z => left z && !z.sameKey (kU x))) := hput
      have hB4 := hB.but hg1 (fun e => by have := Option.some.inj e; omega)
      have hE4 := hE.but hg1 (fun e => by have := Option.some.inj e; omega)
      have hC4 := hC.but hg1 (fun j hj => Or.inr (by have := Option.some.inj hj; omega))
      have hM4 : ∀ z : Up w4, (Instr.lookup 44 (.map (some m)) (.int .u32 (x : Int)) false).run Try.prog z.1 = .ok (.int .i64 (v : Int)) z.1 := fun z => by
        have := (Map.of hrg1.owns hs |>.below z.2).find1 hkM hx
        rw [hv] at this
        exact this
      have q0 : ∀ z : Up w4, z.1.cell? ⟨b, 0, none⟩ = some (.map (some m)) := fun z => (hB4.below z.2 hB4.lt).cell 0 _ rfl
      have q1 : ∀ z : Up w4, z.1.cell? ⟨w.heap.size, 0, none⟩ = some (.int .i64 (t : Int)) := fun z => (hE4.below z.2 hE4.lt).cell 0 _ rfl
      have HX : Hid (x < 4294967296 ∧ Maps.has D (kU x) = true) := ⟨hx, hhas⟩
      have v0 : (0 : Int) ≤ (v : Int) := by omega
      have v4 : (v : Int) ≤ 4 := by omega
      have t0 : (0 : Int) ≤ (t : Int) := by omega
      have t4 : (t : Int) ≤ 1099511627776 := by omega
      clear hB hE hC hs hv hv2 hstep hput hhas hlk hkM hat hx0 u0 u1 hwc hx
      go_wp2
      have hneU := Up.some w4
      refine wp_region_tail 8 (by kernel_rfl) (by kernel_rfl) ?_
      simp only [List.take_succ_cons, List.take_zero, List.drop_succ_cons, List.drop_zero]
      repeat (first
        | (refine wpQuiet_look rfl 44 (.tmp 34) (.tmp 35) false rfl _ _ _ rfl rfl hM4 ?_; simp only [Act.put, List.setIfInBounds_toArray, List.set_cons_succ, List.set_cons_zero])
        | (go_big_quiet_step (fail)))
      refine wpQuiet_nil ?_
      rintro w5 ⟨y5, rfl⟩
      have hrg5 : World.ranges y5.1 Try.prog 30 (plainElem Try.prog 3) m R S.l.length D (fun z => left z && !z.sameKey (kU x)) cnt1 :=
        hrg1.kept (row := none) ⟨y5.2.os, y5.2.tape, y5.2.output, y5.2.size, fun k hk _ => y5.2.block k hk⟩ (by simp) (by simp)
      have hB5 := hB4.below y5.2 hB4.lt
      have hE5 := hE4.below y5.2 hE4.lt
      have hC5 := hC4.trans (Chg.below y5.2)
      clear hM4 q0 q1 hneU hB4 hE4 hC4 hrg1
      refine wpList_store_ranges _ rfl _ _ _ 44 rfl 30 3 keyed Try.underlying44 _ m R S.l.length D _ _ rfl hrg5 _ _ (kU x) rfl rfl (key_of HX.out.1) HX.out.2 (.lit (.int .i64 ((v + t : Nat) : Int))) [] (by rw [show ((v : Int) + (t : Int)) = ((v + t : Nat) : Int) from by omega]; exact plainElem_int Try.underlying3 (wfI (by omega) (by omega))) ?_
      intro w6 hrg6 hturn
      have hg6 := hturn.grown
      have hB6 := hB5.but hg6 (fun e => hne (Option.some.inj e))
      have hE6 := hE5.but hg6 (fun e => by have := Option.some.inj e; omega)
      have hC6 := hC5.but hg6 (fun j hj => Or.inl (Or.inr (Option.some.inj hj).symm))
      go_frame
      go_roundw
      case rel => exact ⟨_, _, _, _, _, _, _, _, _, _, _, _, _, ⟨_, cnt1, _, hrg6, HP.out, hB6, hE6, hC6⟩, rfl⟩
      case measure => rw [hrg6.left_eq, hrg.left_eq]; exact hlt
end Go.Proofs.Ytnomfkmdckmjeaa.bkt
