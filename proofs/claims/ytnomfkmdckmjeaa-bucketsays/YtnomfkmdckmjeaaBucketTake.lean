/-
  THE WALK OF package bucket's Take.
-/
import Derived.Test.YtnomfkmdckmjeaaBucketPass
namespace Go.Proofs.Ytnomfkmdckmjeaa.bkt
open Go.RowKit Go.Maps
open Go.Proofs.Ytnomfkmdckmjeaa.soft

abbrev two (b m k : Nat) : Prop := k = b ∨ k = m
theorem Take_bad (b m : Nat) (S : St) (x : Int) (now : Int) (hb : bad S now = true) (hO : S.Ok) (w : World) (hB : Bm w b m S) :
    Calls Try.prog 8 #[.pointer (some ⟨b, 0, none⟩), .int .u32 x, .int .i64 now] w fun e w' => e = .returned (.int .i64 1) ∧ w' = w := by
  have c1 := hB.blk.cell 1 _ rfl
  have hb' := of_decide_eq_true hb
  have hT := hO.time
  by_cases c : now < (S.t : Int)
  · have d0 : decide (now < (S.t : Int)) = true := decide_eq_true c
    clear hb hb' c hT
    go_enter Try.func8, Try.ntmps8
    go_wp2
    go_ret
    exact ⟨rfl, rfl⟩
  · have d0 : decide (now < (S.t : Int)) = false := decide_eq_false c
    have d1 : decide (now > 1099511627776) = true := decide_eq_true (by omega)
    clear hb hb' c hT
    go_enter Try.func8, Try.ntmps8
    go_wp2
    go_ret
    exact ⟨rfl, rfl⟩
/-- 'm[x] = u' at the operation. -/
theorem wpList_put {w : World} {ops : Array Oper} {rest : List Oper} {o : Oper} {a : Act} {Q : Exit → Act → World → Prop} (hg : o.guard = none) (mo xo vo : Operand) (hop : o.op = Op.mapUpdate 44 mo xo vo) (m : Nat) (L : List Ent) (hk : (L.map (·.1)).Nodup) (hl : L.length ≤ 16)
    (hM : Map w m L) (x u : Nat) (hx : x < 4294967296) (hu : u < 5) (h0 : a.eval mo = .map (some m)) (h1 : a.eval xo = .int .u32 (x : Int)) (h2 : a.eval vo = .int .i64 (u : Int))
    (hK : ∀ w', Map w' m (put L x u) → w.grownBy w' (some m) → wpList Try.prog ops Q rest (a.put o.dst undef) w') : wpList Try.prog ops Q (o :: rest) a w := by
  obtain ⟨D, ho, hs⟩ := hM
  refine wpList_mapUpdate_own w hg mo xo vo 44 hop 30 3 keyed Try.underlying44 _ m _ D h0 ho (by unfold maxLen; omega) _ _ (kU x) h1 h2 (key_of hx) (.lit (.int .i64 (u : Int))) [] (plainElem_int Try.underlying3 (wfI (by omega) (by omega))) ?_
  intro w' hown' hgr
  exact hK w' (Map.of hown' (hs.put hk x u)) hgr
set_option maxHeartbeats 1600000 in
set_option maxRecDepth 100000 in
theorem Take_good (b m : Nat) (S : St) (x : Nat) (hx : x < 4294967296) (n : Nat) (ht : S.t ≤ n) (hn : n ≤ 1099511627776) (hO : S.Ok) (w : World) (hB : Bm w b m S) :
    Calls Try.prog 8 #[.pointer (some ⟨b, 0, none⟩), .int .u32 (x : Int), .int .i64 (n : Int)] w fun e w' => e = .returned (.int .i64 (err' (pass S.l (n - S.t)) x : Int)) ∧ Bm w' b m ⟨n, nxt' (pass S.l (n - S.t)) x⟩ ∧ Chg (two b m) w w' := by
  have f1 := passTo_any b m S hO n ht hn w hB
  have hO1 := hO.pass (m := n) hn
  generalize pass S.l (n - S.t) = L at *
  have c1 := hB.blk.cell 1 _ rfl
  have d0 : decide ((n : Int) < (S.t : Int)) = false := decide_eq_false (by omega)
  have d1 : decide ((n : Int) > 1099511627776) = false := decide_eq_false (by omega)
  have hbl := hB.blk.lt
  have hml := hB.map.lt
  have hkey : (L.map (·.1)).Nodup := hO1.keys
  have hfew : L.length ≤ 16 := hO1.few
  have flk : ∀ W, Bm W b m ⟨n, L⟩ → (Instr.lookup 44 (.map (some m)) (.int .u32 (x : Int)) true).run Try.prog W = .ok (.tuple #[.int .i64 (((look L x).getD 0 : Nat) : Int), .bool (look L x).isSome]) W := fun W hW => hW.map.find hkey hx
  have fln : ∀ W ty, Bm W b m ⟨n, L⟩ → (Builtin.len_ #[44] ty #[.map (some m)]).run Try.prog W = .ok (.int .i64 (L.length : Int)) W := fun W ty hW => hW.map.len ty
  have fL := fun W hW => Left_any b m ⟨n, L⟩ hkey x hx W hW
  have HK : Hid ((L.map (·.1)).Nodup) := hkey
  have HX : Hid (x < 4294967296) := hx
  unfold nxt' err'
  cases hc : look L x with
  | none =>
    have hlf : left L x = 5 := by unfold left; rw [hc]; rfl
    rw [hc] at flk
    simp only [Option.getD_none, Option.isSome_none] at flk
    by_cases h16 : L.length = 16
    · simp only [if_pos h16]
      have e16 : ((L.length : Int) == 16) = true := by rw [beq_iff_eq]; omega
      clear hc hkey hO1 fL hlf h16
      go_enter Try.func8, Try.ntmps8
      go_wp2_with (go_at_call 14; refine f1.mono ?_; rintro e w1 ⟨rfl, hB1, hC1⟩; have g0 := hB1.blk.cell 0 _ rfl; have g1 := flk w1 hB1; have g2 := fun ty => fln w1 ty hB1)
      go_ret
      exact ⟨rfl, hB1, hC1⟩
    · simp only [if_neg h16]
      have e16 : ((L.length : Int) == 16) = false := by rw [beq_eq_false_iff_ne]; omega
      rw [show left L x = 5 from hlf]
      have fL' : ∀ W, Bm W b m ⟨n, L⟩ → Calls Try.prog 10 #[.pointer (some ⟨b, 0, none⟩), .int .u32 (x : Int)] W fun e w' => e = .returned (.int .i64 5) ∧ w' = W := fun W hW => by
        have := fL W hW
        rw [show left (St.mk n L).l x = 5 from hlf] at this
        exact this
      clear hc hkey hO1 fL hlf h16
      go_enter Try.func8, Try.ntmps8
      go_wp2_with (go_at_call 14; refine f1.mono ?_; rintro e w1 ⟨rfl, hB1, hC1⟩; have g0 := hB1.blk.cell 0 _ rfl; have g1 := flk w1 hB1; have g2 := fun ty => fln w1 ty hB1)
      have q0 : ∀ z : Up w1, z.1.cell? ⟨b, 0, none⟩ = some (.map (some m)) := fun z => (hB1.below z.2).blk.cell 0 _ rfl
      have fc : ∀ z : Up w1, Calls Try.prog 10 #[.pointer (some ⟨b, 0, none⟩), .int .u32 (x : Int)] z.1 fun e w'' => e = .returned (.int .i64 5) ∧ ∃ y : Up w1, w'' = y.1 := fun z => calls_up ((fL' z.1 (hB1.below z.2)).mono fun _ _ ⟨he, hm⟩ => ⟨he, by rw [hm]; exact Below.refl _ _⟩)
      have hneU := Up.some w1
      clear g0 g1 g2 flk fln fL' f1
      refine wp_region_tail 9 (by kernel_rfl) (by kernel_rfl) ?_
      simp only [List.take_succ_cons, List.take_zero, List.drop_succ_cons, List.drop_zero]
      repeat (go_big_quiet_step (with_reducible exact fc _))
      refine wpQuiet_nil ?_
      rintro w2 ⟨y2, rfl⟩
      have hB2 := hB1.below y2.2
      have hC2 := hC1.trans (Chg.below y2.2)
      refine wpList_put rfl _ _ _ rfl m L HK.out hfew hB2.map x 4 HX.out (by decide) rfl rfl rfl ?_
      intro w3 hM3 hg3
      have hB3 : Bm w3 b m ⟨n, put L x 4⟩ := ⟨hB2.blk.but hg3 (fun e => hB2.ne (Option.some.inj e)), hM3, hB2.ne⟩
      have hC3 := hC2.but hg3 (fun j hj => Or.inl (Or.inr (Option.some.inj hj).symm))
      go_wp2
      go_ret
      exact ⟨rfl, hB3, hC3⟩
  | some v =>
    have hv5 : v < 5 := (hO1.each _ (look_mem hc)).2
    have hlf : left L x = v := by unfold left; rw [hc]; rfl
    rw [hc] at flk
    simp only [Option.getD_some, Option.isSome_some] at flk
    cases v with
    | zero =>
      clear hc hkey hO1 fL hlf hv5
      go_enter Try.func8, Try.ntmps8
      go_wp2_with (go_at_call 14; refine f1.mono ?_; rintro e w1 ⟨rfl, hB1, hC1⟩; have g0 := hB1.blk.cell 0 _ rfl; have g1 := flk w1 hB1; have g2 := fun ty => fln w1 ty hB1)
      go_ret
      exact ⟨rfl, hB1, hC1⟩
    | succ k =>
      simp only [if_true]
      rw [show left L x = k + 1 from hlf, Nat.add_sub_cancel]
      have fL' : ∀ W, Bm W b m ⟨n, L⟩ → Calls Try.prog 10 #[.pointer (some ⟨b, 0, none⟩), .int .u32 (x : Int)] W fun e w' => e = .returned (.int .i64 ((k + 1 : Nat) : Int)) ∧ w' = W := fun W hW => by
        have := fL W hW
        rw [show left (St.mk n L).l x = k + 1 from hlf] at this
        exact this
      obtain ⟨y, hy⟩ : ∃ y : Int, y = ((k + 1 : Nat) : Int) := ⟨_, rfl⟩
      have ey : y - 1 = (k : Int) := by omega
      have y0 : (1 : Int) ≤ y := by omega
      have y1 : y ≤ 5 := by omega
      have e0 : (y == 0) = false := by rw [beq_eq_false_iff_ne]; omega
      rw [← hy] at flk fL'
      have HV : Hid (k < 5) := show k < 5 by omega
      clear hc hkey hO1 fL hlf hv5 hy
      go_enter Try.func8, Try.ntmps8
      go_wp2_with (go_at_call 14; refine f1.mono ?_; rintro e w1 ⟨rfl, hB1, hC1⟩; have g0 := hB1.blk.cell 0 _ rfl; have g1 := flk w1 hB1; have g2 := fun ty => fln w1 ty hB1)
      have q0 : ∀ z : Up w1, z.1.cell? ⟨b, 0, none⟩ = some (.map (some m)) := fun z => (hB1.below z.2).blk.cell 0 _ rfl
      have fc : ∀ z : Up w1, Calls Try.prog 10 #[.pointer (some ⟨b, 0, none⟩), .int .u32 (x : Int)] z.1 fun e w'' => e = .returned (.int .i64 y) ∧ ∃ y : Up w1, w'' = y.1 := fun z => calls_up ((fL' z.1 (hB1.below z.2)).mono fun _ _ ⟨he, hm⟩ => ⟨he, by rw [hm]; exact Below.refl _ _⟩)
      have hneU := Up.some w1
      clear g0 g1 g2 flk fln fL' f1
      refine wp_region_tail 9 (by kernel_rfl) (by kernel_rfl) ?_
      simp only [List.take_succ_cons, List.take_zero, List.drop_succ_cons, List.drop_zero]
      repeat (go_big_quiet_step (with_reducible exact fc _))
      refine wpQuiet_nil ?_
      rintro w2 ⟨y2, rfl⟩
      have hB2 := hB1.below y2.2
      have hC2 := hC1.trans (Chg.below y2.2)
      refine wpList_put rfl _ _ _ rfl m L HK.out hfew hB2.map x k HX.out HV.out rfl rfl rfl ?_
      intro w3 hM3 hg3
      have hB3 : Bm w3 b m ⟨n, put L x k⟩ := ⟨hB2.blk.but hg3 (fun e => hB2.ne (Option.some.inj e)), hM3, hB2.ne⟩
      have hC3 := hC2.but hg3 (fun j hj => Or.inl (Or.inr (Option.some.inj hj).symm))
      go_wp2
      go_ret
      exact ⟨rfl, hB3, hC3⟩
/-- Take, at whatever time. -/
theorem Take_any (b m : Nat) (S : St) (hO : S.Ok) (x : Nat) (hx : x < 4294967296) (now : Int) (w : World) (hB : Bm w b m S) :
    Calls Try.prog 8 #[.pointer (some ⟨b, 0, none⟩), .int .u32 (x : Int), .int .i64 now] w fun e w' => e = .returned (.int .i64 (err S x now : Int)) ∧ Bm w' b m (nxt S x now) ∧ Chg (two b m) w w' := by
  unfold err nxt
  cases hb : bad S now with
  | true =>
    refine (Take_bad b m S (x : Int) now hb hO w hB).mono ?_
    rintro e w' ⟨rfl, rfl⟩
    exact ⟨rfl, hB, Chg.refl _ _⟩
  | false =>
    have hb' := bad_false hb
    obtain ⟨n, rfl⟩ : ∃ n : Nat, now = n := ⟨now.toNat, by omega⟩
    rw [Int.toNat_natCast]
    exact Take_good b m S x hx n (by omega) (by omega) hO w hB
end Go.Proofs.Ytnomfkmdckmjeaa.bkt
