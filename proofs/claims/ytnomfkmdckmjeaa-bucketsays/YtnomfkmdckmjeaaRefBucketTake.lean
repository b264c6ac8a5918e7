/-
  THE DOCUMENT's BUCKET: a turn is taken.
-/
import Derived.Test.YtnomfkmdckmjeaaRefBucket
namespace Go.Proofs.Ytnomfkmdckmjeaa.rbkt
open Go.RowKit
open bkt

theorem Take_bad (d : Nat) (S : St) (x : Int) (now : Int) (hb : bad S now = true) (hO : S.Ok) (w : World) (hR : RBm w d S) :
    Calls Try.prog 9 #[.pointer (some ⟨d, 0, none⟩), .int .u32 x, .int .i64 now] w fun e w' => e = .returned (.int .i64 1) ∧ w' = w := by
  obtain ⟨a1, c1, a2, c2, hR⟩ := hR
  have q0 := hR.blk.cell 0 _ rfl
  have hb' := of_decide_eq_true hb
  have hT := hO.time
  by_cases c : now < (S.t : Int)
  · have d0 : decide (now < (S.t : Int)) = true := decide_eq_true c
    clear hb hb' c hT
    go_enter Try.func9, Try.ntmps9
    go_wp2
    go_ret
    exact ⟨rfl, rfl⟩
  · have d0 : decide (now < (S.t : Int)) = false := decide_eq_false c
    have d1 : decide (now > 1099511627776) = true := decide_eq_true (by omega)
    clear hb hb' c hT
    go_enter Try.func9, Try.ntmps9
    go_wp2
    go_ret
    exact ⟨rfl, rfl⟩
/-- New blocks may turn as they will. -/
theorem chg_new {F : Nat → Prop} {w a b : World} (h : Chg F w a) {D : Nat} (hD : w.heap.size ≤ D) (hb : Below D a b) : Chg F w b :=
  ⟨h.low.trans (hb.mono (Nat.zero_le _)), fun k hk hx => (hb.block k (by omega)).trans (h.same k hk hx)⟩
set_option maxHeartbeats 3200000 in
set_option maxRecDepth 100000 in
theorem Take_good (d : Nat) (S : St) (x : Nat) (n : Nat) (ht : S.t ≤ n) (hn : n ≤ 1099511627776) (hO : S.Ok) (w : World) (hR : RBm w d S) :
    Calls Try.prog 9 #[.pointer (some ⟨d, 0, none⟩), .int .u32 (x : Int), .int .i64 (n : Int)] w fun e w' => e = .returned (.int .i64 (err' (pass S.l (n - S.t)) x : Int)) ∧ RBm w' d ⟨n, nxt' (pass S.l (n - S.t)) x⟩ ∧ Chg (fun k => k = d) w w' := by
  obtain ⟨a1, c1, a2, c2, hR⟩ := hR
  have q0 := hR.blk.cell 0 _ rfl
  have q1 := hR.blk.cell 1 _ rfl
  have HB : Hid (Blk w d 29 [.int .i64 (S.t : Int), .slice a1 S.l.length c1, .slice a2 S.l.length c2]) := hR.blk
  have HT : Hid (Two w (d + 1) (.slice a1 S.l.length c1) (.slice a2 S.l.length c2) S.l) := hR.two
  have HO : Hid S.Ok := hO
  have h16 : S.l.length ≤ 16 := hO.few
  obtain ⟨D, hD⟩ : ∃ D, w.heap.size = D := ⟨_, rfl⟩
  have hdD : d < D := by have := hR.blk.lt; omega
  have HD : Hid (w.heap.size = D) := hD
  obtain ⟨T, hT⟩ : ∃ T, S.t = T := ⟨_, rfl⟩
  obtain ⟨L, hL⟩ : ∃ L, S.l = L := ⟨_, rfl⟩
  rw [hT] at q0 HB ht ⊢
  rw [hL] at q1 HB HT h16 ⊢
  have HE : Hid (∀ p ∈ L, p.1 < 4294967296 ∧ p.2 < 5) := by rw [← hL]; exact hO.each
  have HP : Hid (St.Ok ⟨n, pass L (n - T)⟩) := by rw [← hL, ← hT]; exact hO.pass hn
  obtain ⟨N, hN⟩ : ∃ N, N = L.length := ⟨_, rfl⟩
  rw [← hN] at q1 HB HT h16
  have HN : Hid (N = L.length) := hN
  have hX0 : Below D w w := Below.refl _ _
  have d0 : decide ((n : Int) < (T : Int)) = false := decide_eq_false (by omega)
  have d0n : decide (n < T) = false := decide_eq_false (by omega)
  have d1 : decide ((n : Int) > 1099511627776) = false := decide_eq_false (by omega)
  obtain ⟨t, htt⟩ : ∃ t, n - T = t := ⟨_, rfl⟩
  rw [htt] at HP ⊢
  obtain ⟨Z, hZ⟩ : ∃ Z, pass L t = Z := ⟨_, rfl⟩
  have HZ : Hid (pass L t = Z) := hZ
  rw [hZ] at HP ⊢
  have enT : (n : Int) - (T : Int) = (t : Int) := by omega
  have t0 : (0 : Int) ≤ (t : Int) := by omega
  have t1 : (t : Int) ≤ 1099511627776 := by omega
  obtain ⟨iu, hu, hu0, hu1, hu2⟩ := info_parts infoU
  obtain ⟨ii, hi, hi0, hi1, hi2⟩ := info_parts infoI
  clear hR hO hD hT hL hN ht htt hZ
  go_enter Try.func9, Try.ntmps9
  go_wp2
  go_loopw [28, 7, 8, 9] (fun i v1 v2 m wr => ∃ (k : Nat) (z : Int) (u1 u2 : Value), k ≤ N ∧ i = .int .i64 (k : Int) ∧ v1 = u1 ∧ v2 = u2 ∧ m = .int .i64 z ∧ At (pass (L.take k) t) x z ∧ Two wr D u1 u2 (pass (L.take k) t) ∧ Below D w wr) (fun i _ _ _ _ => N - (intOf i).toNat)
  case atStart => exact ⟨0, _, _, _, Nat.zero_le _, rfl, rfl, rfl, rfl, At.nil x, Two.nil _ _, hX0⟩
  case round =>
    clear hX0
    obtain ⟨k, z, u1, u2, hk, rfl, rfl, rfl, rfl, hA, hW, hX⟩ := hrel
    have k0 : (0 : Int) ≤ (k : Int) := by omega
    have k1 : (k : Int) ≤ 16 := by omega
    have hDr : D ≤ wr.heap.size := by have := hX.size; have := HD.out; omega
    have hBr := HB.out.below hX hdD
    have r0 := hBr.cell 0 _ rfl
    have r1 := hBr.cell 1 _ rfl
    have r2 := hBr.cell 2 _ rfl
    have hNL := HN.out
    obtain ⟨b1, s1, rfl⟩ := row_form hW.k
    obtain ⟨b2, s2, rfl⟩ := row_form hW.l
    by_cases hlt : k < N
    · have d2 : decide ((k : Int) < (N : Int)) = true := decide_eq_true (by omega)
      have hl : k < L.length := by omega
      have hpt := pass_take hl t
      have hlenM : (pass (L.take k) t).length ≤ 16 := Nat.le_trans (pass_len _ _) (by rw [List.length_take]; omega)
      obtain ⟨g1, -, -, hg1, i1, e1⟩ := at_keys HT.out.k hNL hlt _ (ks_get hl)
      obtain ⟨g2, -, -, hg2, i2, e2⟩ := at_lefts HT.out.l hNL hlt _ (ls_get hl)
      replace e1 := (hX.cell (p := ⟨g1, k, none⟩) (show g1 < D by have := HD.out; omega)).trans e1
      replace e2 := (hX.cell (p := ⟨g2, k, none⟩) (show g2 < D by have := HD.out; omega)).trans e2
      have hp := HE.out _ (List.getElem_mem hl)
      generalize L[k] = p at *
      generalize pass (L.take k) t = M at *
      have HM : Hid (pass (L.take (k + 1)) t = M ++ if p.2 + t < 5 then [(p.1, p.2 + t)] else []) := hpt
      obtain ⟨p1, p2⟩ := p
      simp only at e1 e2 hp HM
      have p20 : (0 : Int) ≤ (p2 : Int) := by omega
      have p24 : (p2 : Int) ≤ 4 := by omega
      obtain ⟨q, hq⟩ : ∃ q : Int, (if (9 : Int) < (t : Int) then (9 : Int) else (t : Int)) = q := ⟨_, rfl⟩
      have q0' : 0 ≤ q ∧ q ≤ 9 ∧ (q = (t : Int) ∨ q = 9 ∧ 9 < (t : Int)) := by rw [← hq]; split <;> omega
      have q90 : (0 : Int) ≤ q := q0'.1
      have q99 : q ≤ 9 := q0'.2.1
      obtain ⟨y, hy⟩ : ∃ y, (p2 : Int) + q = y := ⟨_, rfl⟩
      have hWd : Two wr.drew D (.slice b1 M.length s1) (.slice b2 M.length s2) M := ⟨hW.k.drew, hW.l.drew, hW.d⟩
      have hXd : Below D w wr.drew := hX.drew
      have hDd : D ≤ wr.drew.heap.size := hDr
      clear hpt hNL hBr
      by_cases h4 : y > 4
      · have d3 : decide (y > 4) = true := decide_eq_true h4
        have HM2 : Hid (pass (L.take (k + 1)) t = M) := by
          show _ = _
          rw [HM.out, if_neg (by omega), List.append_nil]
        clear q0' h4 hp
        go_wp2
        go_region
        go_wp2
        go_roundw
        case rel => exact ⟨k + 1, z, _, _, by omega, by go_num, rfl, rfl, rfl, by rw [HM2.out]; exact hA, by rw [HM2.out]; exact hWd, hXd⟩
        case measure => simp [intOf]; omega
      · have d3 : decide (y > 4) = false := decide_eq_false h4
        obtain ⟨v, hv⟩ : ∃ v : Nat, y = (v : Int) := ⟨y.toNat, by omega⟩
        have hvt : v = p2 + t := by omega
        have hqt : q = (t : Int) := by omega
        subst hv
        subst hqt
        have HM2 : Hid (pass (L.take (k + 1)) t = M ++ [(p1, v)]) := by
          show _ = _
          rw [HM.out, if_pos (by omega), hvt]
        have HW : Hid (Two wr.drew D (.slice b1 M.length s1) (.slice b2 M.length s2) M) := hWd
        have v0 : (0 : Int) ≤ (v : Int) := by omega
        have v4 : (v : Int) ≤ 4 := by omega
        have m0 : (0 : Int) ≤ (M.length : Int) := by omega
        clear q0' hp h4 hvt hWd hW
        by_cases hpx : p1 = x
        · have t2 : ((p1 : Int) == (x : Int)) = true := by rw [beq_iff_eq]; omega
          have HA : Hid (At (M ++ [(p1, v)]) x (M.length : Int)) := At.here M hpx
          clear hpx hA
          go_wp2
          go_region
          generalize wr.drew = wd at *
          go_wp2_with (first
            | (at_builtin; refine wpList_append_own_at _ rfl _ _ 26 rfl D 30 iu _ 1 4 Try.underlying26 hu hu0 hu1 hu2 rfl (by omega) _ M.length _ rfl (HW.out.k.alloc _) ⟨wd.heap.size, 0, none⟩ 1 1 [.int .u32 (p1 : Int)] rfl rfl (World.news_of_block (cs := #[.int .u32 (p1 : Int)]) (t := 30) (fr := (0, 0)) (heap_alloc_new wd _)) (by simp [Value.oneCell']) (by unfold maxLen; omega) (by omega) (by simp; omega) ?_; intro v1' w4 hk4 hg4 _ hb4
               have hl4 := HW.out.mid _ hg4
               have hD4 : D ≤ w4.heap.size := by have := hg4.size; rw [World.size_alloc] at this; omega)
            | (at_builtin; refine wpList_append_own_at _ rfl _ _ 27 rfl D 3 ii _ 1 8 Try.underlying27 hi hi0 hi1 hi2 rfl (by omega) _ M.length _ rfl (hl4.alloc _) ⟨w4.heap.size, 0, none⟩ 1 1 [.int .i64 (v : Int)] rfl rfl (World.news_of_block (cs := #[.int .i64 (v : Int)]) (t := 3) (fr := (0, 0)) (heap_alloc_new w4 _)) (by simp [Value.oneCell']) (by unfold maxLen; omega) (by omega) (by simp; omega) ?_; intro v2' w6 hk6 hg6 _ hb6
               have hT6 := HW.out.push (p1, v) _ _ hk4 hg4 hb4 hk6 hg6 hb6
               have hX6 := hXd.trans (push_below HW.out hDd _ _ hg4 hg6)
               clear hk4 hg4 hb4 hk6 hg6 hb6 hl4 hD4))
          go_roundw
          case rel => exact ⟨k + 1, _, v1', v2', by omega, by go_num, rfl, rfl, rfl, by rw [HM2.out]; exact HA.out, by rw [HM2.out]; exact hT6, hX6⟩
          case measure => simp [intOf]; omega
        · have t2 : ((p1 : Int) == (x : Int)) = false := by rw [beq_eq_false_iff_ne]; omega
          have HA : Hid (At (M ++ [(p1, v)]) x z) := hA.skip hpx
          clear hpx hA
          go_wp2
          go_region
          generalize wr.drew = wd at *
          go_wp2_with (first
            | (at_builtin; refine wpList_append_own_at _ rfl _ _ 26 rfl D 30 iu _ 1 4 Try.underlying26 hu hu0 hu1 hu2 rfl (by omega) _ M.length _ rfl (HW.out.k.alloc _) ⟨wd.heap.size, 0, none⟩ 1 1 [.int .u32 (p1 : Int)] rfl rfl (World.news_of_block (cs := #[.int .u32 (p1 : Int)]) (t := 30) (fr := (0, 0)) (heap_alloc_new wd _)) (by simp [Value.oneCell']) (by unfold maxLen; omega) (by omega) (by simp; omega) ?_; intro v1' w4 hk4 hg4 _ hb4
               have hl4 := HW.out.mid _ hg4
               have hD4 : D ≤ w4.heap.size := by have := hg4.size; rw [World.size_alloc] at this; omega)
            | (at_builtin; refine wpList_append_own_at _ rfl _ _ 27 rfl D 3 ii _ 1 8 Try.underlying27 hi hi0 hi1 hi2 rfl (by omega) _ M.length _ rfl (hl4.alloc _) ⟨w4.heap.size, 0, none⟩ 1 1 [.int .i64 (v : Int)] rfl rfl (World.news_of_block (cs := #[.int .i64 (v : Int)]) (t := 3) (fr := (0, 0)) (heap_alloc_new w4 _)) (by simp [Value.oneCell']) (by unfold maxLen; omega) (by omega) (by simp; omega) ?_; intro v2' w6 hk6 hg6 _ hb6
               have hT6 := HW.out.push (p1, v) _ _ hk4 hg4 hb4 hk6 hg6 hb6
               have hX6 := hXd.trans (push_below HW.out hDd _ _ hg4 hg6)
               clear hk4 hg4 hb4 hk6 hg6 hb6 hl4 hD4))
          go_roundw
          case rel => exact ⟨k + 1, _, v1', v2', by omega, by go_num, rfl, rfl, rfl, by rw [HM2.out]; exact HA.out, by rw [HM2.out]; exact hT6, hX6⟩
          case measure => simp [intOf]; omega
    · obtain rfl : k = N := by omega
      have d2 : decide ((k : Int) < (k : Int)) = false := decide_eq_false (by omega)
      rw [List.take_of_length_le (by omega), HZ.out] at hA hW
      rw [List.take_of_length_le (by omega), HZ.out]
      have hM16 : Z.length ≤ 16 := HP.out.few
      have hkey : (Z.map (·.1)).Nodup := HP.out.keys
      have y0 := hBr.frozen 0
      have y1 := hBr.frozen 1
      have y2 := hBr.frozen 2
      have hCr : Chg (fun k => k = d) w wr := Chg.below (by rw [HD.out]; exact hX)
      have hlw : ∀ k, D ≤ k → k < wr.heap.size → ¬ k = d := fun k h _ => by omega
      have hC1 := (((Chg.refl (fun k => k = d) wr).set (.inl rfl) 0 (.int .i64 (n : Int))).set (.inl rfl) 1 (.slice b1 Z.length s1)).set (.inl rfl) 2 (.slice b2 Z.length s2)
      have hB4 := ((hBr.set 0 (.int .i64 (n : Int))).set 1 (.slice b1 Z.length s1)).set 2 (.slice b2 Z.length s2)
      have hT4 := hW.chg hC1 hlw
      have hC4 := hCr.trans hC1
      obtain ⟨W4, hW4⟩ : ∃ W4, ((wr.setCell ⟨d, 0, none⟩ (.int .i64 (n : Int))).setCell ⟨d, 1, none⟩ (.slice b1 Z.length s1)).setCell ⟨d, 2, none⟩ (.slice b2 Z.length s2) = W4 := ⟨_, rfl⟩
      rw [hW4] at hB4 hT4 hC4
      have hD4 : D ≤ W4.heap.size := by have := hC4.size; have := HD.out; omega
      have m0 : (0 : Int) ≤ (Z.length : Int) := by omega
      have m16 : (Z.length : Int) ≤ 16 := by omega
      have HB4 : Hid (Blk W4 d 29 [.int .i64 (n : Int), .slice b1 Z.length s1, .slice b2 Z.length s2]) := hB4
      have HT4 : Hid (Two W4 D (.slice b1 Z.length s1) (.slice b2 Z.length s2) Z) := hT4
      have HC4 : Hid (Chg (fun k => k = d) w W4) := hC4
      clear hW hC1 hCr hX hBr hB4 hC4 hlw hNL HE
      cases hA with
      | none h =>
        have hlf : left Z x = 5 := by unfold left; rw [h]; rfl
        by_cases h16 : Z.length = 16
        · have he : err' Z x = 9 := by unfold err'; rw [h]; show (if Z.length = 16 then 9 else 0) = 9; rw [if_pos h16]
          have HR : Hid (err' Z x = 9 ∧ nxt' Z x = Z) := ⟨he, by unfold nxt'; rw [he, if_neg (by decide)]⟩
          have e16 : decide ((Z.length : Int) > 15) = true := decide_eq_true (by omega)
          clear h hlf he h16 hkey hT4
          go_wp2
          go_ret
          exact ⟨by rw [HR.out.1]; rfl, by rw [HR.out.2]; exact ⟨_, _, _, _, HB4.out, HT4.out.mono hdD⟩, HC4.out⟩
        · have he : err' Z x = 0 := by unfold err'; rw [h]; show (if Z.length = 16 then 9 else 0) = 0; rw [if_neg h16]
          have HR : Hid (err' Z x = 0 ∧ nxt' Z x = Z ++ [(x, 4)]) := ⟨he, by unfold nxt'; rw [he, if_pos rfl, put_new h, hlf]⟩
          have e16 : decide ((Z.length : Int) > 15) = false := decide_eq_false (by omega)
          clear h hlf he h16 hkey hT4
          go_wp2_with (first
            | (at_builtin; refine wpList_append_own_at _ rfl _ _ 26 rfl D 30 iu _ 1 4 Try.underlying26 hu hu0 hu1 hu2 rfl (by omega) _ Z.length _ rfl (HT4.out.k.alloc _) ⟨W4.heap.size, 0, none⟩ 1 1 [.int .u32 (x : Int)] rfl rfl (World.news_of_block (cs := #[.int .u32 (x : Int)]) (t := 30) (fr := (0, 0)) (heap_alloc_new W4 _)) (by simp [Value.oneCell']) (by unfold maxLen; omega) (by omega) (by simp; omega) ?_; intro v1' w5 hk5 hg5 _ hb5
               obtain ⟨a5, s5, rfl⟩ := row_form hk5
               have hl5 := HT4.out.mid _ hg5
               have hD5 : D ≤ w5.heap.size := by have := hg5.size; rw [World.size_alloc] at this; omega)
            | (at_builtin; refine wpList_append_own_at _ rfl _ _ 27 rfl D 3 ii _ 1 8 Try.underlying27 hi hi0 hi1 hi2 rfl (by omega) _ Z.length _ rfl (hl5.alloc _) ⟨w5.heap.size, 0, none⟩ 1 1 [.int .i64 4] rfl rfl (World.news_of_block (cs := #[.int .i64 4]) (t := 3) (fr := (0, 0)) (heap_alloc_new w5 _)) (by simp [Value.oneCell']) (by unfold maxLen; omega) (by omega) (by simp; omega) ?_; intro v2' w6 hk6 hg6 _ hb6
               obtain ⟨a6, s6, rfl⟩ := row_form hk6
               have hT6 := HT4.out.push (x, 4) _ _ hk5 hg5 hb5 hk6 hg6 hb6
               have hX6 := push_below HT4.out hD4 _ _ hg5 hg6
               have hB6 := HB4.out.below hX6 hdD
               have c60 := hB6.cell 0 _ rfl
               have c61 := hB6.cell 1 _ rfl
               have c62 := hB6.cell 2 _ rfl
               have z61 := hB6.frozen 1
               have z62 := hB6.frozen 2
               clear hk5 hg5 hb5 hk6 hg6 hb6 hl5 hD5))
          have hBF := (hB6.set 1 (.slice a5 (Z.length + 1) s5)).set 2 (.slice a6 (Z.length + 1) s6)
          have hCF := ((Chg.refl (fun k => k = d) w6).set (.inl rfl) 1 (.slice a5 (Z.length + 1) s5)).set (.inl rfl) 2 (.slice a6 (Z.length + 1) s6)
          have hTF := hT6.chg hCF (fun k h _ => by omega)
          have hCW := (chg_new HC4.out (Nat.le_of_eq HD.out) hX6).trans hCF
          go_ret
          refine ⟨by rw [HR.out.1]; rfl, ?_, hCW⟩
          rw [HR.out.2]
          refine ⟨a5, s5, a6, s6, ?_, ?_⟩
          · show Blk _ d 29 [.int .i64 (n : Int), .slice a5 (Z ++ [(x, 4)]).length s5, .slice a6 (Z ++ [(x, 4)]).length s6]
            rw [List.length_append]
            exact hBF
          · show Two _ (d + 1) (.slice a5 (Z ++ [(x, 4)]).length s5) (.slice a6 (Z ++ [(x, 4)]).length s6) (Z ++ [(x, 4)])
            rw [List.length_append]
            exact hTF.mono hdD
      | «at» j hj h =>
        have j0 : (0 : Int) ≤ (j : Int) := by omega
        have dj0 : decide ((j : Int) ≥ 0) = true := decide_eq_true (by omega)
        have dj1 : decide ((j : Int) < 0) = false := decide_eq_false (by omega)
        have hlk := look_at hkey hj h
        have hv5 : Z[j].2 < 5 := (HP.out.each _ (List.getElem_mem hj)).2
        have hlf : left Z x = Z[j].2 := by unfold left; rw [hlk]; rfl
        obtain ⟨g2, rfl, hgD, hg2, i2, e2⟩ := at_lefts HT4.out.l rfl hj _ (ls_get hj)
        by_cases hv : Z[j].2 = 0
        · have he : err' Z x = 15 := by unfold err'; rw [hlk, hv]; rfl
          have HR : Hid (err' Z x = 15 ∧ nxt' Z x = Z) := ⟨he, by unfold nxt'; rw [he, if_neg (by decide)]⟩
          rw [hv] at e2
          have e2' : W4.cell? ⟨g2, j, none⟩ = some (.int .i64 0) := e2
          clear h hlf he hkey hT4 hlk hv hv5 e2 hj
          go_wp2
          go_ret
          exact ⟨by rw [HR.out.1]; rfl, by rw [HR.out.2]; exact ⟨_, _, _, _, HB4.out, HT4.out.mono hdD⟩, HC4.out⟩
        · obtain ⟨u, hu5⟩ : ∃ u, Z[j].2 = u + 1 := ⟨Z[j].2 - 1, by omega⟩
          have he : err' Z x = 0 := by unfold err'; rw [hlk, hu5]; rfl
          have hset : upd Z x u = Z.set j (x, u) := upd_at hkey hj h u
          have HR : Hid (err' Z x = 0 ∧ nxt' Z x = Z.set j (x, u)) := ⟨he, by unfold nxt'; rw [he, if_pos rfl, put_old hlk, hlf, hu5, Nat.add_sub_cancel, hset]⟩
          rw [hu5] at e2
          obtain ⟨y, hy⟩ : ∃ y : Int, y = ((u + 1 : Nat) : Int) := ⟨_, rfl⟩
          rw [← hy] at e2
          have ey : y - 1 = (u : Int) := by omega
          have e0 : (y == 0) = false := by rw [beq_eq_false_iff_ne]; omega
          have yb0 : (1 : Int) ≤ y := by omega
          have yb1 : y ≤ 5 := by omega
          have fz := HT4.out.l.frozenAt j
          obtain ⟨hst, hgr⟩ := HT4.out.l.stored j (.int .i64 (u : Int))
          have hkk := HT4.out.k.kept hgr (by
            cases e : (Value.slice b1 Z.length s1).ownBlock with
            | none => exact .inl rfl
            | some q => exact .inr fun e2 => HT4.out.d q e (by rw [e2]; rfl))
          have hdd := HT4.out.d
          have hks := ks_set hj u
          rw [h] at hks
          have HTF : Hid (Two (W4.setCell ⟨g2, j, none⟩ (.int .i64 (u : Int))) D (.slice b1 Z.length s1) (.slice (some ⟨g2, 0, none⟩) Z.length s2) (Z.set j (x, u))) := by
            refine ⟨?_, ?_, hdd⟩
            · rw [List.length_set, hks]; exact hkk
            · rw [List.length_set, ls_set]; exact hst
          have HBF : Hid (Blk (W4.setCell ⟨g2, j, none⟩ (.int .i64 (u : Int))) d 29 [.int .i64 (n : Int), .slice b1 Z.length s1, .slice (some ⟨g2, 0, none⟩) Z.length s2]) := HB4.out.other (show d ≠ g2 by omega) _
          have HCF : Hid (Chg (fun k => k = d) w (W4.setCell ⟨g2, j, none⟩ (.int .i64 (u : Int)))) := HC4.out.set (.inr (by rw [HD.out]; exact hgD)) j _
          have HLen : Hid ((Z.set j (x, u)).length = Z.length) := List.length_set
          clear h hlf he hkey hT4 hlk hv hv5 hj hset hu5 hst hgr hkk hdd hks hy
          go_wp2
          go_ret
          refine ⟨by rw [HR.out.1]; rfl, ?_, HCF.out⟩
          rw [HR.out.2]
          refine ⟨b1, s1, some ⟨g2, 0, none⟩, s2, ?_, ?_⟩
          · show Blk _ d 29 [.int .i64 (n : Int), .slice b1 (Z.set j (x, u)).length s1, .slice (some ⟨g2, 0, none⟩) (Z.set j (x, u)).length s2]
            rw [HLen.out]
            exact HBF.out
          · show Two _ (d + 1) (.slice b1 (Z.set j (x, u)).length s1) (.slice (some ⟨g2, 0, none⟩) (Z.set j (x, u)).length s2) (Z.set j (x, u))
            rw [HLen.out]
            exact HTF.out.mono hdD
theorem Take_any (d : Nat) (S : St) (hO : S.Ok) (x : Nat) (now : Int) (w : World) (hR : RBm w d S) :
    Calls Try.prog 9 #[.pointer (some ⟨d, 0, none⟩), .int .u32 (x : Int), .int .i64 now] w fun e w' => e = .returned (.int .i64 (err S x now : Int)) ∧ RBm w' d (nxt S x now) ∧ Chg (fun k => k = d) w w' := by
  cases hb : bad S now with
  | true =>
    refine (Take_bad d S x now hb hO w hR).mono ?_
    rintro e w' ⟨rfl, rfl⟩
    rw [(bad_err hb x).1, (bad_err hb x).2]
    exact ⟨rfl, hR, Chg.refl _ _⟩
  | false =>
    obtain ⟨h1, h2⟩ := bad_false hb
    obtain ⟨n, rfl⟩ : ∃ n : Nat, now = n := ⟨now.toNat, by omega⟩
    rw [(good (by omega) (by omega) x).1, (good (by omega) (by omega) x).2]
    exact Take_good d S x n (by omega) (by omega) hO w hR
end Go.Proofs.Ytnomfkmdckmjeaa.rbkt
