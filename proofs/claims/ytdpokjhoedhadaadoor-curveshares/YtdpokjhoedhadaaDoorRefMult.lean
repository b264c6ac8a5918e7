/-
  THE WALK OF the document's own Mult.
-/
import Derived.Test.YtdpokjhoedhadaaDoorRefClimb
import Derived.Test.YtdpokjhoedhadaaDoorRefClamp
import Derived.Test.YtdpokjhoedhadaaDoorCurveMult
namespace Go.Proofs.YtdpokjhoedhadaaDoor.num
open Go.RowKit
open soft edw

theorem dg_small16 (v : Int) : small (dg 16 v) := fun a ha => by have := dg_bd 16 v a ha; omega
theorem textK {a : K} {v : Value} (hv : NumK a v) (W : World) : Calls Tryd.prog 26 #[v] W fun e W' => ∃ r, e = .returned r ∧ r = .string (crv.kt a) ∧ Below W.heap.size W W' := by
  obtain ⟨x, hx, rfl, rfl⟩ := hv
  have h := text_list (dg 16 x) (dg_length _ _) (dg_small16 x) W
  rw [val_dg16 x hx.1 hx.2, crv.text_kt] at h
  refine h.mono ?_
  rintro e W' ⟨rfl, hb⟩
  exact ⟨_, rfl, rfl, hb⟩
theorem numOfK (s : ByteArray) (hs : s.size = 32) (W : World) : Calls Tryd.prog 23 #[.string s] W fun e W' => ∃ r, e = .returned r ∧ NumK (kap (N s)) r ∧ Below W.heap.size W W' := by
  refine (numOf_any s hs W).mono ?_
  rintro e W' ⟨rfl, hb⟩
  have := N_bd s hs
  exact ⟨_, rfl, ⟨N s, ⟨this.1, this.2⟩, rfl, rfl⟩, hb⟩
theorem chrK (n : Int) (h0 : 0 ≤ n) (h1 : n ≤ 255) (W : World) : Calls Tryd.prog 21 #[.int .i64 n] W fun e W' => ∃ r, e = .returned r ∧ r = .string ⟨#[UInt8.ofNat n.toNat]⟩ ∧ Below W.heap.size W W' := by
  refine (chr_any n h0 h1 W).mono ?_
  rintro e W' ⟨rfl, hb⟩
  exact ⟨_, rfl, rfl, hb⟩
theorem slice_31 {a : Nat} {o : Oper} (ho : o.op = .slice 9 (.tmp a) none (some (.const (.int .i64 31))) none) (ev : Operand → Value) (s : ByteArray) (hm : 31 ≤ s.size) (e1 : ev (.tmp a) = .string s) (hc : ∀ v, ev (.const v) = v) (W : World) : (execOp ev o).run Tryd.prog W = .ok (.value (.string (s.extract 0 31))) W := by
  unfold execOp
  rw [ho]
  have hle : (31 : Int) ≤ (s.size : Int) := by omega
  simp [go_sem, e1, hc, Tryd.underlying9, hle]
theorem index_31 {a : Nat} {o : Oper} (ho : o.op = .index 9 (.tmp a) (.const (.int .i64 31))) (ev : Operand → Value) (s : ByteArray) (hm : 31 < s.size) (e1 : ev (.tmp a) = .string s) (hc : ∀ v, ev (.const v) = v) (W : World) : (execOp ev o).run Tryd.prog W = .ok (.value (.int .u8 (PlainAid.bt s 31))) W := by
  have hgb := PlainAid.get_bt s 31 hm
  have hle : (31 : Int) < (s.size : Int) := by omega
  unfold execOp
  rw [ho]
  simp [go_sem, e1, hc, hgb]
  intro h
  exact absurd h (by omega)
theorem conv_int {a : Nat} {o : Oper} (ho : o.op = .convert 5 3 (.tmp a)) (ev : Operand → Value) (s : ByteArray) (e1 : ev (.tmp a) = .int .u8 (PlainAid.bt s 31)) (W : World) : (execOp ev o).run Tryd.prog W = .ok (.value (.int .i64 (PlainAid.bt s 31))) W := by
  have h0 := PlainAid.bt_nonneg s 31
  have h1 := PlainAid.bt_le s 31
  have hw : IntKind.i64.wrap (PlainAid.bt s 31) = PlainAid.bt s 31 := IntWalk.i64_in _ ⟨by omega, by omega⟩
  unfold execOp
  rw [ho]
  simp [go_sem, e1, hw]
theorem rem_128 {a : Nat} {o : Oper} (ho : o.op = .binOp .rem 3 (.tmp a) (.const (.int .i64 128)) 3) (ev : Operand → Value) (s : ByteArray) (e1 : ev (.tmp a) = .int .i64 (PlainAid.bt s 31)) (hc : ∀ v, ev (.const v) = v) (W : World) : (execOp ev o).run Tryd.prog W = .ok (.value (.int .i64 (PlainAid.bt s 31 % 128))) W := by
  have h0 := PlainAid.bt_nonneg s 31
  have q : (PlainAid.bt s 31).tmod 128 = PlainAid.bt s 31 % 128 := Int.tmod_eq_emod_of_nonneg h0
  unfold execOp
  rw [ho]
  simp [go_sem, e1, hc, q]
theorem join_eq (u : ByteArray) (hu : u.size = 32) : u.extract 0 31 ++ ⟨#[UInt8.ofNat (PlainAid.bt u 31 % 128).toNat]⟩ = crv.belowC u := by
  have hl : u.data.toList.length = 32 := hu
  have e : (u.extract 0 31 ++ ⟨#[UInt8.ofNat (PlainAid.bt u 31 % 128).toNat]⟩ : ByteArray).data.toList = (crv.belowC u).data.toList := by
    show _ = u.data.toList.set 31 _
    rw [List.set_eq_take_append_cons_drop, if_pos (by omega), List.drop_of_length_le (by omega)]
    simp
  generalize crv.belowC u = q at *
  generalize u.extract 0 31 ++ ⟨#[UInt8.ofNat (PlainAid.bt u 31 % 128).toNat]⟩ = p at *
  cases p; cases q; congr; exact Array.ext' e
theorem join_low {a b : Nat} {o : Oper} (ho : o.op = .binOp .add 9 (.tmp a) (.tmp b) 9) (ev : Operand → Value) (u : ByteArray) (hu : u.size = 32) (e1 : ev (.tmp a) = .string (u.extract 0 31)) (e2 : ev (.tmp b) = .string ⟨#[UInt8.ofNat (PlainAid.bt u 31 % 128).toNat]⟩) (W : World) : (execOp ev o).run Tryd.prog W = .ok (.value (.string (crv.belowC u))) W := by
  rw [← join_eq u hu]
  have hx : (u.extract 0 31).size = 31 := by rw [ByteArray.size_extract]; omega
  have hy : (⟨#[UInt8.ofNat (PlainAid.bt u 31 % 128).toNat]⟩ : ByteArray).size = 1 := rfl
  generalize u.extract 0 31 = p at *
  generalize (⟨#[UInt8.ofNat (PlainAid.bt u 31 % 128).toNat]⟩ : ByteArray) = q at *
  unfold execOp
  rw [ho]
  simp [go_sem, e1, e2, hx, hy]
def mR9 (W0 : World) (s u : ByteArray) (t : (K × K) × (K × K)) : Nat → Value → World → Prop
  | 0, v, _ => v = .string s
  | 1, v, _ => v = .string u
  | 2, v, _ => v = .string (u.extract 0 31)
  | 3, v, _ => v = .string u
  | 4, v, _ => v = .int .u8 (PlainAid.bt u 31)
  | 5, v, _ => v = .int .i64 (PlainAid.bt u 31)
  | 6, v, _ => v = .int .i64 (PlainAid.bt u 31 % 128)
  | 7, v, _ => v = .string ⟨#[UInt8.ofNat (PlainAid.bt u 31 % 128).toNat]⟩
  | 8, v, _ => v = .string (crv.belowC u)
  | 9, v, _ => NumK (kap (N (crv.belowC u))) v
  | 10, v, _ => TwoK t v
  | 11, v, _ => TwoK t v
  | 12, v, _ => PntK t.1 v
  | 13, v, _ => PntK t.2 v
  | 14, v, W => ∃ b, v = .pointer (some ⟨b, 0, none⟩) ∧ W0.heap.size ≤ b ∧ ∃ p, BlkP W b p
  | 15, v, W => ∃ b, v = .pointer (some ⟨b, 0, none⟩) ∧ W0.heap.size ≤ b ∧ ∃ p, BlkP W b p
  | 16, _, _ => True
  | 17, _, _ => True
  | _, _, _ => True
def mR10 (h : Nat) (p : K × K) : Nat → Value → World → Prop
  | 0, v, _ => v = .pointer (some ⟨h, 0, none⟩)
  | 1, v, _ => NumK (p.1) v
  | 2, v, _ => v = .pointer (some ⟨h, 16, none⟩)
  | 3, v, _ => NumK (p.2) v
  | 4, v, _ => NumK (kinv p.2) v
  | 5, v, _ => NumK (p.1 * kinv p.2) v
  | 6, v, _ => v = .string (crv.kt (p.1 * kinv p.2))
  | _, _, _ => True
/-- Bits as signs. -/
def kbs (n : ByteArray) (m : Nat) : List UInt8 := (List.range m).map fun j => if crv.bitAt n (254 - j) then 49 else 48
theorem kbs_succ (n : ByteArray) (m : Nat) : kbs n (m + 1) = kbs n m ++ [if crv.bitAt n (254 - m) then 49 else 48] := by simp [kbs, List.range_succ]
theorem bl_kbs (n : ByteArray) (m : Nat) : bl ⟨(kbs n m).toArray⟩ = crv.kb n m := by
  unfold bl kbs crv.kb
  simp only [List.map_map]
  refine List.map_congr_left fun j _ => ?_
  show ((if crv.bitAt n (254 - j) then (49 : UInt8) else 48) != 48) = _
  cases crv.bitAt n (254 - j) <;> rfl
theorem kbs_join (n : ByteArray) (m : Nat) (x : Int) (hx : x = if crv.bitAt n (254 - m) then 1 else 0) : (⟨(kbs n m).toArray⟩ ++ ⟨#[UInt8.ofNat (48 + x).toNat]⟩ : ByteArray) = ⟨(kbs n (m + 1)).toArray⟩ := by
  rw [kbs_succ, hx]
  apply ByteArray.ext
  cases crv.bitAt n (254 - m) <;> simp
theorem kbs_size (n : ByteArray) (m : Nat) : (⟨(kbs n m).toArray⟩ : ByteArray).size = m := by
  show (kbs n m).toArray.size = m
  simp [kbs]
theorem clamp_same (k : ByteArray) (h : k.size = 32) : clampB k = crv.clampC k := by
  have hl : k.data.toList.length = 32 := h
  have e : (clampB k).data.toList = (crv.clampC k).data.toList := by
    unfold clampB crv.clampC
    generalize UInt8.ofNat (PlainAid.bt k 0 / 8 * 8).toNat = a
    generalize UInt8.ofNat (PlainAid.bt k 31 % 64 + 64).toNat = b
    simp only [ByteArray.data_append, ByteArray.data_extract, Array.toList_append, Array.toList_extract, List.extract_eq_take_drop, List.cons_append, List.nil_append]
    cases hk : k.data.toList with
    | nil => rw [hk] at hl; cases hl
    | cons x t =>
      rw [hk] at hl
      have ht : t.length = 31 := by simpa using hl
      have e : t.set 30 b = t.take 30 ++ [b] := by rw [List.set_eq_take_append_cons_drop, if_pos (by omega), List.drop_of_length_le (by omega)]
      simp [e]
  generalize clampB k = p at *
  generalize crv.clampC k = q at *
  cases p; cases q; congr; exact Array.ext' e
set_option maxRecDepth 100000 in
set_option maxHeartbeats 3200000 in
theorem refMult_good (k u : ByteArray) (hk : k.size = 32) (hu : u.size = 32) (w : World) :
    Calls Tryd.prog 9 #[.string k, .string u] w fun e w' => e = .returned (.tuple #[.string (crv.xt k u), .int .i64 0]) ∧ Below w.heap.size w w' := by
  have t1 : ((u.size : Int) != 32) = false := by rw [bne_eq_false_iff_eq]; omega
  have h1 := clamp_good k hk
  rw [clamp_same k hk] at h1
  have hn := crv.clampC_size k hk
  have HE : Hid (crv.xt k u = crv.kt (mlt (crv.kb (crv.clampC k) 255) (kap (N (crv.belowC u))))) := rfl
  generalize crv.clampC k = n at *
  generalize crv.xt k u = R at *
  clear hk
  go_enter Tryd.func9, Tryd.ntmps9
  go_wp2_with (go_at_call 20; refine (h1 _).mono ?_; rintro e w1 ⟨rfl, hb1⟩)
  go_loopw [8, 9] (fun bs i wr => ∃ j : Nat, j ≤ 255 ∧ i = .int .i64 (254 - (j : Int)) ∧ bs = .string ⟨(kbs n j).toArray⟩ ∧ Below w.heap.size w wr) (fun _ i _ => (intOf i + 1).toNat)
  case atStart => exact ⟨0, by omega, rfl, rfl, hb1⟩
  case round =>
    obtain ⟨j, hj, rfl, rfl, hnx⟩ := hrel
    have hks := kbs_size n j
    by_cases hlt : j < 255
    · obtain ⟨c, hc⟩ : ∃ c, 254 - j = c := ⟨_, rfl⟩
      rw [show 254 - (j : Int) = (c : Int) from by omega]
      have q0 : (c : Int).tdiv 8 = ((c / 8 : Nat) : Int) := by rw [Int.tdiv_eq_ediv_of_nonneg (by omega)]; omega
      have q1 : (c : Int).tmod 8 = ((c % 8 : Nat) : Int) := by rw [Int.tmod_eq_emod_of_nonneg (by omega)]; omega
      have hgb := PlainAid.get_bt n
      have i0 : c / 8 < n.size := by omega
      have j0 : ((c / 8 : Nat) : Int) < (n.size : Int) := by omega
      have b0 := PlainAid.bt_nonneg n (c / 8)
      have b1 := PlainAid.bt_le n (c / 8)
      have hx : PlainAid.bt n (c / 8) / 2 ^ (c % 8) % 2 = if crv.bitAt n (254 - j) then 1 else 0 := by
        rw [hc]
        unfold crv.bitAt
        by_cases h : PlainAid.bt n (c / 8) / 2 ^ (c % 8) % 2 = 1
        · rw [h]; simp
        · simp only [h]; simp; omega
      have HK : Hid _ := kbs_join n j _ hx
      clear hx
      have p0 : 0 ≤ PlainAid.bt n (c / 8) / 2 ^ (c % 8) := Int.ediv_nonneg b0 (Int.le_of_lt (Int.pow_pos (by decide)))
      have q2 : (PlainAid.bt n (c / 8) / 2 ^ (c % 8)).tmod 2 = PlainAid.bt n (c / 8) / 2 ^ (c % 8) % 2 := Int.tmod_eq_emod_of_nonneg p0
      have r0 : c % 8 < 8 := by omega
      generalize c / 8 = m at *
      generalize c % 8 = r at *
      have p1 : PlainAid.bt n m / 2 ^ r % 2 < 2 := by omega
      have p2 : 0 ≤ PlainAid.bt n m / 2 ^ r % 2 := by omega
      go_wp2_with (go_at_call 21; refine (chr_any _ (by omega) (by omega) _).mono ?_; rintro e w5 ⟨rfl, hb5⟩)
      go_roundw
      case rel => exact ⟨j + 1, by omega, by go_num, by rw [HK.out], hnx.trans (hb5.mono hnx.size)⟩
      case measure => simp [intOf] <;> omega
    · obtain rfl : j = 255 := by omega
      rw [show (254 : Int) - ((255 : Nat) : Int) = -1 from rfl]
      have HI : Hid (∀ v, NumK (kap (N (crv.belowC u))) v → ∀ W, Calls Tryd.prog 22 #[.string ⟨(kbs n 255).toArray⟩, v] W fun e w' => ∃ r, e = .returned r ∧ TwoK (lad (kap (N (crv.belowC u))) (crv.kb n 255)) r ∧ Below W.heap.size W w') := fun v hv W => by
        have h := climb_any 255 (by decide) ⟨(kbs n 255).toArray⟩ (kbs_size n 255) _ v hv W
        rw [bl_kbs] at h
        exact h
      have HE2 : Hid (R = crv.kt ((lad (kap (N (crv.belowC u))) (crv.kb n 255)).1.1 * kinv (lad (kap (N (crv.belowC u))) (crv.kb n 255)).1.2)) := HE.out
      clear HE
      generalize (⟨(kbs n 255).toArray⟩ : ByteArray) = s at *
      generalize lad (kap (N (crv.belowC u))) (crv.kb n 255) = t at *
      have g0 := PlainAid.bt_nonneg u 31
      have g1 := PlainAid.bt_le u 31
      clear h1 hn hb1 hks hj hlt
      go_wp2_with fail
      rename World => W0
      have hSt : Stable (mR9 W0 s u t) := by
        intro i v W W' h hb
        unfold mR9 at h ⊢
        split at h <;> first | exact h | (obtain ⟨b, e, hle, p, hB⟩ := h; exact ⟨b, e, hle, p, hB.below hb hB.lt⟩)
      have hC : StableC [(16, 14, fun W b => BlkP W b t.1), (17, 15, fun W b => BlkP W b t.2)] := by
        intro s hs W W' b h1 h2 h3
        simp only [List.mem_cons, List.not_mem_nil, or_false] at hs
        rcases hs with rfl | rfl <;> exact BlkP.below h1 h3 h2
      refine wp_region_all (by kernel_rfl) (by kernel_rfl) (Kept (mR9 W0 s u t) (fun i => i == 14 || i == 15) W0 [(16, 14, fun W b => BlkP W b t.1), (17, 15, fun W b => BlkP W b t.2)]) (Kept.start W0) ?_ ?_
      · intro f W A hin hout hG i o ho hf hpre
        have hg := hG.good
        have hF : ∀ j v, (j == 14 || j == 15) = true → mR9 W0 s u t j v W → ∃ b, v = .pointer (some ⟨b, 0, none⟩) ∧ b < W.heap.size := by
          intro j v hj hr
          simp only [Bool.or_eq_true, beq_iff_eq] at hj
          rcases hj with rfl | rfl <;> (obtain ⟨b, e, _, p, hB⟩ := hr; exact ⟨b, e, hB.lt⟩)
        match i, ho, hf with
        | 0, ho, hf =>
          obtain rfl := Option.some.inj ho
          have e8 : A.eval (.tmp 8) = .string s := hout 8 (by kernel_rfl)
          exact op_value (v := .string s) (W' := W) rfl rfl (by generalize A.eval = ev at *; simp [go_sem, e8]) ⟨_, rfl, hG.move hC hf rfl (Below.refl _ _) (hg.value hSt rfl (rfl))⟩
        | 1, ho, hf =>
          obtain rfl := Option.some.inj ho
          have e1 : A.eval (.tmp 1) = .string u := hout 1 (by kernel_rfl)
          exact op_value (v := .string u) (W' := W) rfl rfl (by generalize A.eval = ev at *; simp [go_sem, e1]) ⟨_, rfl, hG.move hC hf rfl (Below.refl _ _) (hg.value hSt rfl (rfl))⟩
        | 2, ho, hf =>
          obtain rfl := Option.some.inj ho
          obtain ⟨v1, f1, r1⟩ := hg.get (hpre ⟨1, .data⟩ (by simp) rfl)
          have e43 := hin 1 43 v1 f1 (by kernel_rfl) (by simp)
          obtain rfl : v1 = .string u := r1
          exact op_value (v := .string (u.extract 0 31)) (W' := W) rfl rfl (slice_31 rfl A.eval u (by omega) e43 (fun _ => rfl) W) ⟨_, rfl, hG.move hC hf rfl (Below.refl _ _) (hg.value hSt rfl (rfl))⟩
        | 3, ho, hf =>
          obtain rfl := Option.some.inj ho
          have e1 : A.eval (.tmp 1) = .string u := hout 1 (by kernel_rfl)
          exact op_value (v := .string u) (W' := W) rfl rfl (by generalize A.eval = ev at *; simp [go_sem, e1]) ⟨_, rfl, hG.move hC hf rfl (Below.refl _ _) (hg.value hSt rfl (rfl))⟩
        | 4, ho, hf =>
          obtain rfl := Option.some.inj ho
          obtain ⟨v3, f3, r3⟩ := hg.get (hpre ⟨3, .data⟩ (by simp) rfl)
          have e45 := hin 3 45 v3 f3 (by kernel_rfl) (by simp)
          obtain rfl : v3 = .string u := r3
          exact op_value (v := .int .u8 (PlainAid.bt u 31)) (W' := W) rfl rfl (index_31 rfl A.eval u (by omega) e45 (fun _ => rfl) W) ⟨_, rfl, hG.move hC hf rfl (Below.refl _ _) (hg.value hSt rfl (rfl))⟩
        | 5, ho, hf =>
          obtain rfl := Option.some.inj ho
          obtain ⟨v4, f4, r4⟩ := hg.get (hpre ⟨4, .data⟩ (by simp) rfl)
          have e46 := hin 4 46 v4 f4 (by kernel_rfl) (by simp)
          obtain rfl : v4 = .int .u8 (PlainAid.bt u 31) := r4
          exact op_value (v := .int .i64 (PlainAid.bt u 31)) (W' := W) rfl rfl (conv_int rfl A.eval u e46 W) ⟨_, rfl, hG.move hC hf rfl (Below.refl _ _) (hg.value hSt rfl (rfl))⟩
        | 6, ho, hf =>
          obtain rfl := Option.some.inj ho
          obtain ⟨v5, f5, r5⟩ := hg.get (hpre ⟨5, .data⟩ (by simp) rfl)
          have e47 := hin 5 47 v5 f5 (by kernel_rfl) (by simp)
          obtain rfl : v5 = .int .i64 (PlainAid.bt u 31) := r5
          exact op_value (v := .int .i64 (PlainAid.bt u 31 % 128)) (W' := W) rfl rfl (rem_128 rfl A.eval u e47 (fun _ => rfl) W) ⟨_, rfl, hG.move hC hf rfl (Below.refl _ _) (hg.value hSt rfl (rfl))⟩
        | 7, ho, hf =>
          obtain rfl := Option.some.inj ho
          obtain ⟨v6, f6, r6⟩ := hg.get (hpre ⟨6, .data⟩ (by simp) rfl)
          have e48 := hin 6 48 v6 f6 (by kernel_rfl) (by simp)
          obtain rfl : v6 = .int .i64 (PlainAid.bt u 31 % 128) := r6
          refine op_call (g := 21) (args := #[.int .i64 (PlainAid.bt u 31 % 128)]) rfl rfl (by have ef : ∀ f, A.eval (.func f) = .func (.func f) #[] #[] := fun _ => rfl; generalize A.eval = ev at *; simp [go_sem, e48, ef]) ?_
          refine (chrK (PlainAid.bt u 31 % 128) (by omega) (by omega) W).mono ?_
          rintro e W' ⟨r, rfl, hr, hb⟩
          exact ⟨r, rfl, r, rfl, hG.move hC hf rfl hb (hg.call hSt rfl hb hr)⟩
        | 8, ho, hf =>
          obtain rfl := Option.some.inj ho
          obtain ⟨v2, f2, r2⟩ := hg.get (hpre ⟨2, .data⟩ (by simp) rfl)
          have e44 := hin 2 44 v2 f2 (by kernel_rfl) (by simp)
          obtain rfl : v2 = .string (u.extract 0 31) := r2
          obtain ⟨v7, f7, r7⟩ := hg.get (hpre ⟨7, .data⟩ (by simp) rfl)
          have e49 := hin 7 49 v7 f7 (by kernel_rfl) (by simp)
          obtain rfl : v7 = .string ⟨#[UInt8.ofNat (PlainAid.bt u 31 % 128).toNat]⟩ := r7
          exact op_value (v := .string (crv.belowC u)) (W' := W) rfl rfl (join_low rfl A.eval u hu e44 e49 W) ⟨_, rfl, hG.move hC hf rfl (Below.refl _ _) (hg.value hSt rfl (rfl))⟩
        | 9, ho, hf =>
          obtain rfl := Option.some.inj ho
          obtain ⟨v8, f8, r8⟩ := hg.get (hpre ⟨8, .data⟩ (by simp) rfl)
          have e50 := hin 8 50 v8 f8 (by kernel_rfl) (by simp)
          obtain rfl : v8 = .string (crv.belowC u) := r8
          refine op_call (g := 23) (args := #[.string (crv.belowC u)]) rfl rfl (by have ef : ∀ f, A.eval (.func f) = .func (.func f) #[] #[] := fun _ => rfl; generalize A.eval = ev at *; simp [go_sem, e50, ef]) ?_
          refine (numOfK _ (crv.belowC_size u hu) W).mono ?_
          rintro e W' ⟨r, rfl, hr, hb⟩
          exact ⟨r, rfl, r, rfl, hG.move hC hf rfl hb (hg.call hSt rfl hb hr)⟩
        | 10, ho, hf =>
          obtain rfl := Option.some.inj ho
          obtain ⟨v0, f0, r0⟩ := hg.get (hpre ⟨0, .data⟩ (by simp) rfl)
          have e42 := hin 0 42 v0 f0 (by kernel_rfl) (by simp)
          obtain rfl : v0 = .string s := r0
          obtain ⟨v9, f9, r9⟩ := hg.get (hpre ⟨9, .data⟩ (by simp) rfl)
          have e51 := hin 9 51 v9 f9 (by kernel_rfl) (by simp)
          refine op_call (g := 22) (args := #[.string s, v9]) rfl rfl (by have ef : ∀ f, A.eval (.func f) = .func (.func f) #[] #[] := fun _ => rfl; generalize A.eval = ev at *; simp [go_sem, e42, e51, ef]) ?_
          refine (HI.out _ r9 W).mono ?_
          rintro e W' ⟨r, rfl, hr, hb⟩
          exact ⟨r, rfl, r, rfl, hG.move hC hf rfl hb (hg.call hSt rfl hb hr)⟩
        | 11, ho, hf =>
          obtain rfl := Option.some.inj ho
          obtain ⟨v10, f10, r10⟩ := hg.get (hpre ⟨10, .data⟩ (by simp) rfl)
          have e52 := hin 10 52 v10 f10 (by kernel_rfl) (by simp)
          exact op_value (v := v10) (W' := W) rfl rfl (by generalize A.eval = ev at *; simp [go_sem, e52]) ⟨_, rfl, hG.move hC hf rfl (Below.refl _ _) (hg.value hSt rfl (r10))⟩
        | 12, ho, hf =>
          obtain rfl := Option.some.inj ho
          obtain ⟨v11, f11, r11⟩ := hg.get (hpre ⟨11, .data⟩ (by simp) rfl)
          have e41 := hin 11 41 v11 f11 (by kernel_rfl) (by simp)
          obtain ⟨g1, g2, h1, h2, rfl⟩ := r11
          exact op_value (v := g1) (W' := W) rfl rfl (by generalize A.eval = ev at *; simp [go_sem, e41]) ⟨_, rfl, hG.move hC hf rfl (Below.refl _ _) (hg.value hSt rfl (h1))⟩
        | 13, ho, hf =>
          obtain rfl := Option.some.inj ho
          obtain ⟨v11, f11, r11⟩ := hg.get (hpre ⟨11, .data⟩ (by simp) rfl)
          have e41 := hin 11 41 v11 f11 (by kernel_rfl) (by simp)
          obtain ⟨g1, g2, h1, h2, rfl⟩ := r11
          exact op_value (v := g2) (W' := W) rfl rfl (by generalize A.eval = ev at *; simp [go_sem, e41]) ⟨_, rfl, hG.move hC hf rfl (Below.refl _ _) (hg.value hSt rfl (h2))⟩
        | 14, ho, hf =>
          obtain rfl := Option.some.inj ho
          exact op_value (v := .pointer (some ⟨W.heap.size, 0, none⟩)) (W' := W.alloc (.cells (pcells 0 0).toArray 39)) rfl rfl (by simp [go_sem, zpcells]) ⟨_, rfl, hG.move hC hf rfl ((Below.refl _ _).alloc (Nat.le_refl _) _) (hg.alloc hSt hF ⟨_, rfl, hg.below.size, _, BlkP.new W⟩)⟩
        | 15, ho, hf =>
          obtain rfl := Option.some.inj ho
          exact op_value (v := .pointer (some ⟨W.heap.size, 0, none⟩)) (W' := W.alloc (.cells (pcells 0 0).toArray 39)) rfl rfl (by simp [go_sem, zpcells]) ⟨_, rfl, hG.move hC hf rfl ((Below.refl _ _).alloc (Nat.le_refl _) _) (hg.alloc hSt hF ⟨_, rfl, hg.below.size, _, BlkP.new W⟩)⟩
        | 16, ho, hf =>
          obtain rfl := Option.some.inj ho
          obtain ⟨v14, f14, r14⟩ := hg.get (hpre ⟨14, .data⟩ (by simp) rfl)
          have e10 := hin 14 10 v14 f14 (by kernel_rfl) (by simp)
          obtain ⟨v12, f12, r12⟩ := hg.get (hpre ⟨12, .data⟩ (by simp) rfl)
          have e53 := hin 12 53 v12 f12 (by kernel_rfl) (by simp)
          obtain ⟨y1, y2, o1, o2, k1, k2, rfl⟩ := r12
          obtain ⟨b, rfl, hle, p, z1, z2, oz1, oz2, kz1, kz2, hB⟩ := r14
          refine op_store (cells := (pcells y1 y2).toArray) rfl rfl rfl e10 e53 (there_pnt y1 y2 hB) (info_pnt y1 y2) (pcells_one _ _) ⟨_, rfl, ?_⟩
          have hW := bstored hB (l' := pcells y1 y2) (by simp only [pcells_length])
          rw [List.toList_toArray]
          generalize W.setCells b 0 (pcells y1 y2) = W2 at *
          refine kept_storeP hG f14 hf rfl rfl hle hW trivial ?_ ?_ ?_
          · intro j v hj hr
            unfold mR9 at hr ⊢
            split at hr <;> first | exact hr | (obtain ⟨b', e, hle', p', hB'⟩ := hr; by_cases hbb : b' = b; (subst hbb; exact ⟨_, e, hle', (kap y1, kap y2), y1, y2, o1, o2, rfl, rfl, hW.blk⟩); exact ⟨b', e, hle', p', hB'.other hW hbb⟩)
          · intro s hs e
            simp only [List.mem_cons, List.not_mem_nil, or_false] at hs
            rcases hs with rfl | rfl
            · first | exact ⟨rfl, y1, y2, o1, o2, k1, k2, hW.blk⟩ | exact absurd e (by simp)
            · first | exact ⟨rfl, y1, y2, o1, o2, k1, k2, hW.blk⟩ | exact absurd e (by simp)
          · intro s hs e
            simp only [List.mem_cons, List.not_mem_nil, or_false] at hs
            rcases hs with rfl | rfl
            · first | exact absurd rfl e | exact ⟨by simp, rfl, fun b' hbb h => BlkP.other h hW hbb⟩
            · first | exact absurd rfl e | exact ⟨by simp, rfl, fun b' hbb h => BlkP.other h hW hbb⟩
        | 17, ho, hf =>
          obtain rfl := Option.some.inj ho
          obtain ⟨v15, f15, r15⟩ := hg.get (hpre ⟨15, .data⟩ (by simp) rfl)
          have e11 := hin 15 11 v15 f15 (by kernel_rfl) (by simp)
          obtain ⟨v13, f13, r13⟩ := hg.get (hpre ⟨13, .data⟩ (by simp) rfl)
          have e54 := hin 13 54 v13 f13 (by kernel_rfl) (by simp)
          obtain ⟨y1, y2, o1, o2, k1, k2, rfl⟩ := r13
          obtain ⟨b, rfl, hle, p, z1, z2, oz1, oz2, kz1, kz2, hB⟩ := r15
          refine op_store (cells := (pcells y1 y2).toArray) rfl rfl rfl e11 e54 (there_pnt y1 y2 hB) (info_pnt y1 y2) (pcells_one _ _) ⟨_, rfl, ?_⟩
          have hW := bstored hB (l' := pcells y1 y2) (by simp only [pcells_length])
          rw [List.toList_toArray]
          generalize W.setCells b 0 (pcells y1 y2) = W2 at *
          refine kept_storeP hG f15 hf rfl rfl hle hW trivial ?_ ?_ ?_
          · intro j v hj hr
            unfold mR9 at hr ⊢
            split at hr <;> first | exact hr | (obtain ⟨b', e, hle', p', hB'⟩ := hr; by_cases hbb : b' = b; (subst hbb; exact ⟨_, e, hle', (kap y1, kap y2), y1, y2, o1, o2, rfl, rfl, hW.blk⟩); exact ⟨b', e, hle', p', hB'.other hW hbb⟩)
          · intro s hs e
            simp only [List.mem_cons, List.not_mem_nil, or_false] at hs
            rcases hs with rfl | rfl
            · first | exact ⟨rfl, y1, y2, o1, o2, k1, k2, hW.blk⟩ | exact absurd e (by simp)
            · first | exact ⟨rfl, y1, y2, o1, o2, k1, k2, hW.blk⟩ | exact absurd e (by simp)
          · intro s hs e
            simp only [List.mem_cons, List.not_mem_nil, or_false] at hs
            rcases hs with rfl | rfl
            · first | exact absurd rfl e | exact ⟨by simp, rfl, fun b' hbb h => BlkP.other h hW hbb⟩
            · first | exact absurd rfl e | exact ⟨by simp, rfl, fun b' hbb h => BlkP.other h hW hbb⟩
        | (j + 18), ho, _ => exact absurd ho (by simp)
      · intro f W hall hG
        have hg := hG.good
        obtain ⟨v0, f0, r0⟩ := hg.get (hall 0 (by simp))
        obtain ⟨v1, f1, r1⟩ := hg.get (hall 1 (by simp))
        obtain ⟨v2, f2, r2⟩ := hg.get (hall 2 (by simp))
        obtain ⟨v3, f3, r3⟩ := hg.get (hall 3 (by simp))
        obtain ⟨v4, f4, r4⟩ := hg.get (hall 4 (by simp))
        obtain ⟨v5, f5, r5⟩ := hg.get (hall 5 (by simp))
        obtain ⟨v6, f6, r6⟩ := hg.get (hall 6 (by simp))
        obtain ⟨v7, f7, r7⟩ := hg.get (hall 7 (by simp))
        obtain ⟨v8, f8, r8⟩ := hg.get (hall 8 (by simp))
        obtain ⟨v9, f9, r9⟩ := hg.get (hall 9 (by simp))
        obtain ⟨v10, f10, r10⟩ := hg.get (hall 10 (by simp))
        obtain ⟨v11, f11, r11⟩ := hg.get (hall 11 (by simp))
        obtain ⟨v12, f12, r12⟩ := hg.get (hall 12 (by simp))
        obtain ⟨v13, f13, r13⟩ := hg.get (hall 13 (by simp))
        obtain ⟨v14, f14, r14⟩ := hg.get (hall 14 (by simp))
        obtain ⟨v15, f15, r15⟩ := hg.get (hall 15 (by simp))
        obtain ⟨v16, f16, r16⟩ := hg.get (hall 16 (by simp))
        obtain ⟨v17, f17, r17⟩ := hg.get (hall 17 (by simp))
        have hne14_15 := hg.apart 14 15 _ (by decide) rfl rfl f14
        obtain ⟨b14, g14, _, q14⟩ := hG.kept (16, 14, fun W b => BlkP W b t.1) (by simp) (hall 16 (by simp))
        obtain rfl : v14 = .pointer (some ⟨b14, 0, none⟩) := Option.some.inj (f14.symm.trans g14)
        obtain ⟨b15, g15, _, q15⟩ := hG.kept (17, 15, fun W b => BlkP W b t.2) (by simp) (hall 17 (by simp))
        obtain rfl : v15 = .pointer (some ⟨b15, 0, none⟩) := Option.some.inj (f15.symm.trans g15)
        have hbW := hg.below
        simp only [fr, f0, f1, f2, f3, f4, f5, f6, f7, f8, f9, f10, f11, f12, f13, f14, f15, f16, f17, Act.put, List.setIfInBounds_toArray, List.set_cons_zero, List.set_cons_succ]
        have c14 : BlkP W b14 t.1 := q14
        have hX2 : Below w.heap.size w W := hnx.trans (hbW.mono hnx.size)
        clear hG hg hall f0 f1 f2 f3 f4 f5 f6 f7 f8 f9 f10 f11 f12 f13 f14 f15 f16 f17 r0 r1 r2 r3 r4 r5 r6 r7 r8 r9 r10 r11 r12 r13 r14 r15 r16 r17 hne14_15 g14 g15 q14 q15
        clear hbW hnx HI
        clear f
        go_wp2_with fail
        have hSt : Stable (mR10 b14 t.1) := by
          intro i v W W' h hb
          unfold mR10 at h ⊢
          split at h <;> first | exact h | (obtain ⟨b, e, hle, hB⟩ := h; exact ⟨b, e, hle, hB.below hb hB.lt⟩)
        refine wp_region_told 7 (by kernel_rfl) (by kernel_rfl) (mR10 b14 t.1) (fun _ => false) ?_ ?_
        · intro f W A hin hout hg i o hi ho hpre
          have hb := c14.below hg.below c14.lt
          match i, hi with
          | 0, _ =>
            obtain rfl := Option.some.inj ho
            have e10 : A.eval (.tmp 10) = .pointer (some ⟨b14, 0, none⟩) := hout 10 (by kernel_rfl)
            exact op_value (v := .pointer (some ⟨b14, 0, none⟩)) (W' := W) rfl rfl (by generalize A.eval = ev at *; simp [go_sem, e10]) ⟨_, rfl, hg.value hSt rfl (rfl)⟩
          | 1, _ =>
            obtain rfl := Option.some.inj ho
            obtain ⟨v0, f0, r0⟩ := hg.get (hpre ⟨0, .data⟩ (by simp) rfl)
            have e55 := hin 0 55 v0 f0 (by kernel_rfl) (by simp)
            obtain rfl : v0 = .pointer (some ⟨b14, 0, none⟩) := r0
            obtain ⟨v, hv, hrun⟩ := hb.loadX
            exact op_load rfl rfl rfl e55 hrun ⟨_, rfl, hg.value hSt rfl hv⟩
          | 2, _ =>
            obtain rfl := Option.some.inj ho
            have e10 : A.eval (.tmp 10) = .pointer (some ⟨b14, 0, none⟩) := hout 10 (by kernel_rfl)
            exact op_value (v := .pointer (some ⟨b14, 16, none⟩)) (W' := W) rfl rfl (by generalize A.eval = ev at *; simp [go_sem, e10]) ⟨_, rfl, hg.value hSt rfl (rfl)⟩
          | 3, _ =>
            obtain rfl := Option.some.inj ho
            obtain ⟨v2, f2, r2⟩ := hg.get (hpre ⟨2, .data⟩ (by simp) rfl)
            have e57 := hin 2 57 v2 f2 (by kernel_rfl) (by simp)
            obtain rfl : v2 = .pointer (some ⟨b14, 16, none⟩) := r2
            obtain ⟨v, hv, hrun⟩ := hb.loadZ
            exact op_load rfl rfl rfl e57 hrun ⟨_, rfl, hg.value hSt rfl hv⟩
          | 4, _ =>
            obtain rfl := Option.some.inj ho
            obtain ⟨v3, f3, r3⟩ := hg.get (hpre ⟨3, .data⟩ (by simp) rfl)
            have e58 := hin 3 58 v3 f3 (by kernel_rfl) (by simp)
            refine op_call (g := 25) (args := #[v3]) rfl rfl (by have ef : ∀ f, A.eval (.func f) = .func (.func f) #[] #[] := fun _ => rfl; generalize A.eval = ev at *; simp [go_sem, e58, ef]) ?_
            refine (inverseK r3 W).mono ?_
            rintro e W' ⟨r, rfl, hr, hb⟩
            exact ⟨r, rfl, r, rfl, hg.call hSt rfl hb hr⟩
          | 5, _ =>
            obtain rfl := Option.some.inj ho
            obtain ⟨v1, f1, r1⟩ := hg.get (hpre ⟨1, .data⟩ (by simp) rfl)
            have e56 := hin 1 56 v1 f1 (by kernel_rfl) (by simp)
            obtain ⟨v4, f4, r4⟩ := hg.get (hpre ⟨4, .data⟩ (by simp) rfl)
            have e59 := hin 4 59 v4 f4 (by kernel_rfl) (by simp)
            refine op_call (g := 24) (args := #[v1, v4]) rfl rfl (by have ef : ∀ f, A.eval (.func f) = .func (.func f) #[] #[] := fun _ => rfl; generalize A.eval = ev at *; simp [go_sem, e56, e59, ef]) ?_
            refine (timesK r1 r4 W).mono ?_
            rintro e W' ⟨r, rfl, hr, hb⟩
            exact ⟨r, rfl, r, rfl, hg.call hSt rfl hb hr⟩
          | 6, _ =>
            obtain rfl := Option.some.inj ho
            obtain ⟨v5, f5, r5⟩ := hg.get (hpre ⟨5, .data⟩ (by simp) rfl)
            have e60 := hin 5 60 v5 f5 (by kernel_rfl) (by simp)
            refine op_call (g := 26) (args := #[v5]) rfl rfl (by have ef : ∀ f, A.eval (.func f) = .func (.func f) #[] #[] := fun _ => rfl; generalize A.eval = ev at *; simp [go_sem, e60, ef]) ?_
            refine (textK r5 W).mono ?_
            rintro e W' ⟨r, rfl, hr, hb⟩
            exact ⟨r, rfl, r, rfl, hg.call hSt rfl hb hr⟩
          | (j + 7), h => exact absurd h (by omega)
        · intro f W hall hg
          obtain ⟨v0, f0, r0⟩ := hg.get (hall 0 (by decide))
          obtain ⟨v1, f1, r1⟩ := hg.get (hall 1 (by decide))
          obtain ⟨v2, f2, r2⟩ := hg.get (hall 2 (by decide))
          obtain ⟨v3, f3, r3⟩ := hg.get (hall 3 (by decide))
          obtain ⟨v4, f4, r4⟩ := hg.get (hall 4 (by decide))
          obtain ⟨v5, f5, r5⟩ := hg.get (hall 5 (by decide))
          obtain ⟨v6, f6, r6⟩ := hg.get (hall 6 (by decide))
          have hbW := hg.below
          simp only [List.drop_succ_cons, List.drop_zero, List.take_succ_cons, List.take_zero, fr, f0, f1, f2, f3, f4, f5, f6, Act.put, List.setIfInBounds_toArray, List.set_cons_zero, List.set_cons_succ]
          obtain rfl : v6 = .string (crv.kt (t.1.1 * kinv t.1.2)) := r6
          go_wp2_with fail
          go_ret2
          exact ⟨by rw [HE2.out]; rfl, hX2.trans (hbW.mono hX2.size)⟩
theorem refMult_bad (k u : ByteArray) (h : k.size ≠ 32 ∨ u.size ≠ 32) (w : World) :
    Calls Tryd.prog 9 #[.string k, .string u] w fun e w' => e = .returned (.tuple #[.string ⟨#[]⟩, .int .i64 1]) ∧ Below w.heap.size w w' := by
  by_cases hk : k.size = 32
  · have t1 : ((u.size : Int) != 32) = true := by rw [bne_iff_ne]; omega
    have h1 := clamp_good k hk
    generalize clampB k = c at *
    clear h hk
    go_enter Tryd.func9, Tryd.ntmps9
    go_wp2_with (go_at_call 20; refine (h1 _).mono ?_; rintro e w1 ⟨rfl, hb1⟩)
    go_ret2
    exact ⟨rfl, hb1⟩
  · have h1 := clamp_bad k hk
    clear h hk
    go_enter Tryd.func9, Tryd.ntmps9
    go_wp2_with (go_at_call 20; refine (h1 _).mono ?_; rintro e w1 ⟨rfl, rfl⟩)
    go_ret2
    exact ⟨rfl, Below.refl _ _⟩
end Go.Proofs.YtdpokjhoedhadaaDoor.num
