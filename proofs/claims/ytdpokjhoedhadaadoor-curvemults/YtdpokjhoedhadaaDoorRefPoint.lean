/-
  THE WALKS OF the document's own points: double, add.
-/
import Derived.Test.YtdpokjhoedhadaaDoorRefK
namespace Go.Proofs.YtdpokjhoedhadaaDoor.num
open Go.RowKit
open soft edw

/-- What the regions of double yield. -/
def dR1 (h : Nat) (W0 : World) (p : K × K) : Nat → Value → World → Prop
  | 0, v, _ => v = .pointer (some ⟨h, 0, none⟩)
  | 1, v, _ => NumK (p.1) v
  | 2, v, _ => v = .pointer (some ⟨h, 16, none⟩)
  | 3, v, _ => NumK (p.2) v
  | 4, v, _ => NumK (p.1 + p.2) v
  | 5, v, _ => v = .pointer (some ⟨h, 0, none⟩)
  | 6, v, _ => NumK (p.1) v
  | 7, v, _ => v = .pointer (some ⟨h, 16, none⟩)
  | 8, v, _ => NumK (p.2) v
  | 9, v, _ => NumK (p.1 - p.2) v
  | 10, v, W => ∃ b, v = .pointer (some ⟨b, 0, none⟩) ∧ W0.heap.size ≤ b ∧ BlkK W b 0
  | 11, v, W => ∃ b, v = .pointer (some ⟨b, 0, none⟩) ∧ W0.heap.size ≤ b ∧ BlkK W b 0
  | _, _, _ => True
def dR2 (p : K × K) : Nat → Value → World → Prop
  | 0, v, _ => NumK (p.1 + p.2) v
  | 1, v, _ => NumK (p.1 + p.2) v
  | 2, v, _ => NumK ((p.1 + p.2) * (p.1 + p.2)) v
  | 3, v, _ => NumK (p.1 - p.2) v
  | 4, v, _ => NumK (p.1 - p.2) v
  | 5, v, _ => NumK ((p.1 - p.2) * (p.1 - p.2)) v
  | _, _, _ => True
def dR4 (p : K × K) : Nat → Value → World → Prop
  | 0, v, _ => NumK ((p.1 + p.2) * (p.1 + p.2)) v
  | 1, v, _ => NumK ((p.1 - p.2) * (p.1 - p.2)) v
  | 2, v, _ => NumK ((p.1 + p.2) * (p.1 + p.2) * ((p.1 - p.2) * (p.1 - p.2))) v
  | 3, v, _ => NumK ((p.1 + p.2) * (p.1 + p.2) - (p.1 - p.2) * (p.1 - p.2)) v
  | 4, v, _ => NumK ((p.1 + p.2) * (p.1 + p.2)) v
  | 5, v, _ => NumK ((p.1 + p.2) * (p.1 + p.2) - (p.1 - p.2) * (p.1 - p.2)) v
  | 6, v, _ => NumK ((p.1 + p.2) * (p.1 + p.2) + ((p.1 + p.2) * (p.1 + p.2) - (p.1 - p.2) * (p.1 - p.2)) * 121665) v
  | 7, v, _ => NumK (((p.1 + p.2) * (p.1 + p.2) - (p.1 - p.2) * (p.1 - p.2)) * ((p.1 + p.2) * (p.1 + p.2) + ((p.1 + p.2) * (p.1 + p.2) - (p.1 - p.2) * (p.1 - p.2)) * 121665)) v
  | 8, v, _ => PntK (dbl p) v
  | _, _, _ => True
set_option maxRecDepth 100000 in
set_option maxHeartbeats 1600000 in
theorem double_any (p : K × K) (v : Value) (hv : PntK p v) (w : World) :
    Calls Tryd.prog 34 #[v] w fun e w' => ∃ r, e = .returned r ∧ PntK (dbl p) r ∧ Below w.heap.size w w' := by
  obtain ⟨x, z, hx, hz, kx, kz, rfl⟩ := hv
  go_enter Tryd.func34, Tryd.ntmps34
  go_wp2_with fail
  rw [zpcells]
  have b1 : BlkP ((w.alloc (.cells (pcells x z).toArray 39)).alloc (.cells (pcells 0 0).toArray 39)) w.heap.size p := ⟨x, z, hx, hz, kx, kz, (Blk.new w 39 (pcells x z) _ rfl).alloc _⟩
  have b2 : BlkP ((w.alloc (.cells (pcells x z).toArray 39)).alloc (.cells (pcells 0 0).toArray 39)) (w.heap.size + 1) (0, 0) := by
    have h := BlkP.new (w.alloc (.cells (pcells x z).toArray 39))
    rw [World.size_alloc] at h
    exact h
  have hX : Below w.heap.size w ((w.alloc (.cells (pcells x z).toArray 39)).alloc (.cells (pcells 0 0).toArray 39)) := ((Below.refl _ _).alloc (Nat.le_refl _) _).alloc (by simp) _
  have hsz : ((w.alloc (.cells (pcells x z).toArray 39)).alloc (.cells (pcells 0 0).toArray 39)).heap.size = w.heap.size + 1 + 1 := by simp
  generalize (w.alloc (.cells (pcells x z).toArray 39)).alloc (.cells (pcells 0 0).toArray 39) = W0 at *
  have l1 := b1.lt
  have hSt : Stable (dR1 w.heap.size W0 p) := by
    intro i v W W' h hb
    unfold dR1 at h ⊢
    split at h <;> first | exact h | (obtain ⟨b, e, hle, hB⟩ := h; exact ⟨b, e, hle, hB.below hb hB.lt⟩)
  refine wp_region_told 12 (by kernel_rfl) (by kernel_rfl) (dR1 w.heap.size W0 p) (fun i => i == 10 || i == 11) ?_ ?_
  · intro f W A hin hout hg i o hi ho hpre
    have hF : ∀ j v, (j == 10 || j == 11) = true → dR1 w.heap.size W0 p j v W → ∃ b, v = .pointer (some ⟨b, 0, none⟩) ∧ b < W.heap.size := by
      intro j v hj hr
      simp only [Bool.or_eq_true, beq_iff_eq] at hj
      rcases hj with rfl | rfl <;> (obtain ⟨b, e, _, hB⟩ := hr; exact ⟨b, e, hB.lt⟩)
    have hbl := b1.below hg.below l1
    match i, hi with
    | 0, _ =>
      obtain rfl := Option.some.inj ho
      have e1 : A.eval (.tmp 1) = .pointer (some ⟨w.heap.size, 0, none⟩) := hout 1 (by kernel_rfl)
      exact op_value (v := .pointer (some ⟨w.heap.size, 0, none⟩)) (W' := W) rfl rfl (by generalize A.eval = ev at *; simp [go_sem, e1]) ⟨_, rfl, hg.value hSt rfl (rfl)⟩
    | 1, _ =>
      obtain rfl := Option.some.inj ho
      obtain ⟨v0, f0, r0⟩ := hg.get (hpre ⟨0, .data⟩ (by simp) rfl)
      have e6 := hin 0 6 v0 f0 (by kernel_rfl) (by simp)
      obtain rfl : v0 = .pointer (some ⟨w.heap.size, 0, none⟩) := r0
      obtain ⟨v, hv, hrun⟩ := hbl.loadX
      exact op_load rfl rfl rfl e6 hrun ⟨_, rfl, hg.value hSt rfl hv⟩
    | 2, _ =>
      obtain rfl := Option.some.inj ho
      have e1 : A.eval (.tmp 1) = .pointer (some ⟨w.heap.size, 0, none⟩) := hout 1 (by kernel_rfl)
      exact op_value (v := .pointer (some ⟨w.heap.size, 16, none⟩)) (W' := W) rfl rfl (by generalize A.eval = ev at *; simp [go_sem, e1]) ⟨_, rfl, hg.value hSt rfl (rfl)⟩
    | 3, _ =>
      obtain rfl := Option.some.inj ho
      obtain ⟨v2, f2, r2⟩ := hg.get (hpre ⟨2, .data⟩ (by simp) rfl)
      have e8 := hin 2 8 v2 f2 (by kernel_rfl) (by simp)
      obtain rfl : v2 = .pointer (some ⟨w.heap.size, 16, none⟩) := r2
      obtain ⟨v, hv, hrun⟩ := hbl.loadZ
      exact op_load rfl rfl rfl e8 hrun ⟨_, rfl, hg.value hSt rfl hv⟩
    | 4, _ =>
      obtain rfl := Option.some.inj ho
      obtain ⟨v1, f1, r1⟩ := hg.get (hpre ⟨1, .data⟩ (by simp) rfl)
      have e7 := hin 1 7 v1 f1 (by kernel_rfl) (by simp)
      obtain ⟨v3, f3, r3⟩ := hg.get (hpre ⟨3, .data⟩ (by simp) rfl)
      have e9 := hin 3 9 v3 f3 (by kernel_rfl) (by simp)
      refine op_call (g := 48) (args := #[v1, v3, .int .i64 1]) rfl rfl (by have ef : ∀ f, A.eval (.func f) = .func (.func f) #[] #[] := fun _ => rfl; have ec : ∀ v, A.eval (.const v) = v := fun _ => rfl; generalize A.eval = ev at *; simp [go_sem, e7, e9, ef, ec]) ?_
      refine (plusK r1 r3 W).mono ?_
      rintro e W' ⟨r, rfl, hr, hb⟩
      exact ⟨r, rfl, r, rfl, hg.call hSt rfl hb hr⟩
    | 5, _ =>
      obtain rfl := Option.some.inj ho
      have e1 : A.eval (.tmp 1) = .pointer (some ⟨w.heap.size, 0, none⟩) := hout 1 (by kernel_rfl)
      exact op_value (v := .pointer (some ⟨w.heap.size, 0, none⟩)) (W' := W) rfl rfl (by generalize A.eval = ev at *; simp [go_sem, e1]) ⟨_, rfl, hg.value hSt rfl (rfl)⟩
    | 6, _ =>
      obtain rfl := Option.some.inj ho
      obtain ⟨v5, f5, r5⟩ := hg.get (hpre ⟨5, .data⟩ (by simp) rfl)
      have e11 := hin 5 11 v5 f5 (by kernel_rfl) (by simp)
      obtain rfl : v5 = .pointer (some ⟨w.heap.size, 0, none⟩) := r5
      obtain ⟨v, hv, hrun⟩ := hbl.loadX
      exact op_load rfl rfl rfl e11 hrun ⟨_, rfl, hg.value hSt rfl hv⟩
    | 7, _ =>
      obtain rfl := Option.some.inj ho
      have e1 : A.eval (.tmp 1) = .pointer (some ⟨w.heap.size, 0, none⟩) := hout 1 (by kernel_rfl)
      exact op_value (v := .pointer (some ⟨w.heap.size, 16, none⟩)) (W' := W) rfl rfl (by generalize A.eval = ev at *; simp [go_sem, e1]) ⟨_, rfl, hg.value hSt rfl (rfl)⟩
    | 8, _ =>
      obtain rfl := Option.some.inj ho
      obtain ⟨v7, f7, r7⟩ := hg.get (hpre ⟨7, .data⟩ (by simp) rfl)
      have e13 := hin 7 13 v7 f7 (by kernel_rfl) (by simp)
      obtain rfl : v7 = .pointer (some ⟨w.heap.size, 16, none⟩) := r7
      obtain ⟨v, hv, hrun⟩ := hbl.loadZ
      exact op_load rfl rfl rfl e13 hrun ⟨_, rfl, hg.value hSt rfl hv⟩
    | 9, _ =>
      obtain rfl := Option.some.inj ho
      obtain ⟨v6, f6, r6⟩ := hg.get (hpre ⟨6, .data⟩ (by simp) rfl)
      have e12 := hin 6 12 v6 f6 (by kernel_rfl) (by simp)
      obtain ⟨v8, f8, r8⟩ := hg.get (hpre ⟨8, .data⟩ (by simp) rfl)
      have e14 := hin 8 14 v8 f8 (by kernel_rfl) (by simp)
      refine op_call (g := 48) (args := #[v6, v8, .int .i64 (-1)]) rfl rfl (by have ef : ∀ f, A.eval (.func f) = .func (.func f) #[] #[] := fun _ => rfl; have ec : ∀ v, A.eval (.const v) = v := fun _ => rfl; generalize A.eval = ev at *; simp [go_sem, e12, e14, ef, ec]) ?_
      refine (minusK r6 r8 W).mono ?_
      rintro e W' ⟨r, rfl, hr, hb⟩
      exact ⟨r, rfl, r, rfl, hg.call hSt rfl hb hr⟩
    | 10, _ =>
      obtain rfl := Option.some.inj ho
      exact op_value (v := .pointer (some ⟨W.heap.size, 0, none⟩)) (W' := W.alloc (.cells (ncells 0).toArray 37)) rfl rfl (by simp [go_sem, zcells]) ⟨_, rfl, hg.alloc hSt hF ⟨_, rfl, hg.below.size, BlkK.new W⟩⟩
    | 11, _ =>
      obtain rfl := Option.some.inj ho
      exact op_value (v := .pointer (some ⟨W.heap.size, 0, none⟩)) (W' := W.alloc (.cells (ncells 0).toArray 37)) rfl rfl (by simp [go_sem, zcells]) ⟨_, rfl, hg.alloc hSt hF ⟨_, rfl, hg.below.size, BlkK.new W⟩⟩
    | (j + 12), h => exact absurd h (by omega)
  · intro f W hall hg
    obtain ⟨v0, f0, r0⟩ := hg.get (hall 0 (by decide))
    obtain ⟨v1, f1, r1⟩ := hg.get (hall 1 (by decide))
    obtain ⟨v2, f2, r2⟩ := hg.get (hall 2 (by decide))
    obtain ⟨v3, f3, r3⟩ := hg.get (hall 3 (by decide))
    obtain ⟨v4, f4, r4⟩ := hg.get (hall 4 (by decide))
    obtain ⟨v5, f5, r5⟩ := hg.get (hall 5 (by decide))
    obtain ⟨v6, f6, r6⟩ := hg.get (hall 6 (by decide))
    obtain ⟨v7, f7, r7⟩ := hg.get (hall 7 (by decide))
    obtain ⟨v8, f8, r8⟩ := hg.get (hall 8 (by decide))
    obtain ⟨v9, f9, r9⟩ := hg.get (hall 9 (by decide))
    obtain ⟨v10, f10, r10⟩ := hg.get (hall 10 (by decide))
    obtain ⟨v11, f11, r11⟩ := hg.get (hall 11 (by decide))
    have hne10_11 := hg.apart 10 11 _ (by decide) rfl rfl f10
    have hbW := hg.below
    simp only [List.drop_succ_cons, List.drop_zero, List.take_succ_cons, List.take_zero, fr, f0, f1, f2, f3, f4, f5, f6, f7, f8, f9, f10, f11, Act.put, List.setIfInBounds_toArray, List.set_cons_zero, List.set_cons_succ]
    obtain ⟨b3, rfl, hle3, u3, _, _, hb3⟩ := r10
    obtain ⟨b4, rfl, hle4, u4, _, _, hb4⟩ := r11
    have hne : b3 ≠ b4 := fun e => hne10_11 (by rw [e]; exact f11)
    obtain ⟨yA, oA, kA, rfl⟩ := r4
    obtain ⟨yB, oB, kB, rfl⟩ := r9
    refine wpList_store_blk rfl 37 (.tmp 3) (.tmp 10) rfl b3 (ncells yA) rfl rfl (ncells u3) hb3 (by simp only [ncells_length]) (ncells_one _) (infoNUM _) ?_
    intro W1 hW1
    refine wpList_store_blk rfl 37 (.tmp 4) (.tmp 15) rfl b4 (ncells yB) rfl rfl (ncells u4) (hW1.other _ _ _ (Ne.symm hne) hb4) (by simp only [ncells_length]) (ncells_one _) (infoNUM _) ?_
    intro W2 hW2
    have l2 := b2.lt
    have hX2 : Below w.heap.size w W2 := hW2.below _ _ (by omega) (hW1.below _ _ (by omega) (hX.trans (hbW.mono hX.size)))
    have c3 : BlkK W2 b3 (p.1 + p.2) := ⟨yA, oA, kA, hW2.other _ _ _ hne hW1.blk⟩
    have c4 : BlkK W2 b4 (p.1 - p.2) := ⟨yB, oB, kB, hW2.blk⟩
    have c2 : BlkP W2 (w.heap.size + 1) (0, 0) := ((b2.below hbW l2).other hW1 (by omega)).other hW2 (by omega)
    clear hg hall f0 f1 f2 f3 f4 f5 f6 f7 f8 f9 f10 f11 hne10_11 r0 r1 r2 r3 r5 r6 r7 r8
    clear hbW hW1 hW2 hb3 hb4
    clear f W W1 oA kA oB kB b1 b2 hX l1 l2 hx hz kx kz
    go_wp2_with fail
    dsimp only [Act.put]
    have hSt : Stable (dR2 p) := by
      intro i v W W' h hb
      unfold dR2 at h ⊢
      split at h <;> first | exact h | (obtain ⟨b, e, hle, hB⟩ := h; exact ⟨b, e, hle, hB.below hb hB.lt⟩)
    refine wp_region_told 6 (by kernel_rfl) (by kernel_rfl) (dR2 p) (fun _ => false) ?_ ?_
    · intro f W A hin hout hg i o hi ho hpre
      have hb3 := c3.below hg.below c3.lt
      have hb4 := c4.below hg.below c4.lt
      match i, hi with
      | 0, _ =>
        obtain rfl := Option.some.inj ho
        have e3 : A.eval (.tmp 3) = .pointer (some ⟨b3, 0, none⟩) := hout 3 (by kernel_rfl)
        obtain ⟨v, hv, hrun⟩ := hb3.load
        exact op_load rfl rfl rfl e3 hrun ⟨_, rfl, hg.value hSt rfl hv⟩
      | 1, _ =>
        obtain rfl := Option.some.inj ho
        have e3 : A.eval (.tmp 3) = .pointer (some ⟨b3, 0, none⟩) := hout 3 (by kernel_rfl)
        obtain ⟨v, hv, hrun⟩ := hb3.load
        exact op_load rfl rfl rfl e3 hrun ⟨_, rfl, hg.value hSt rfl hv⟩
      | 2, _ =>
        obtain rfl := Option.some.inj ho
        obtain ⟨v0, f0, r0⟩ := hg.get (hpre ⟨0, .data⟩ (by simp) rfl)
        have e16 := hin 0 16 v0 f0 (by kernel_rfl) (by simp)
        obtain ⟨v1, f1, r1⟩ := hg.get (hpre ⟨1, .data⟩ (by simp) rfl)
        have e17 := hin 1 17 v1 f1 (by kernel_rfl) (by simp)
        refine op_call (g := 24) (args := #[v0, v1]) rfl rfl (by have ef : ∀ f, A.eval (.func f) = .func (.func f) #[] #[] := fun _ => rfl; generalize A.eval = ev at *; simp [go_sem, e16, e17, ef]) ?_
        refine (timesK r0 r1 W).mono ?_
        rintro e W' ⟨r, rfl, hr, hb⟩
        exact ⟨r, rfl, r, rfl, hg.call hSt rfl hb hr⟩
      | 3, _ =>
        obtain rfl := Option.some.inj ho
        have e4 : A.eval (.tmp 4) = .pointer (some ⟨b4, 0, none⟩) := hout 4 (by kernel_rfl)
        obtain ⟨v, hv, hrun⟩ := hb4.load
        exact op_load rfl rfl rfl e4 hrun ⟨_, rfl, hg.value hSt rfl hv⟩
      | 4, _ =>
        obtain rfl := Option.some.inj ho
        have e4 : A.eval (.tmp 4) = .pointer (some ⟨b4, 0, none⟩) := hout 4 (by kernel_rfl)
        obtain ⟨v, hv, hrun⟩ := hb4.load
        exact op_load rfl rfl rfl e4 hrun ⟨_, rfl, hg.value hSt rfl hv⟩
      | 5, _ =>
        obtain rfl := Option.some.inj ho
        obtain ⟨v3, f3, r3⟩ := hg.get (hpre ⟨3, .data⟩ (by simp) rfl)
        have e19 := hin 3 19 v3 f3 (by kernel_rfl) (by simp)
        obtain ⟨v4, f4, r4⟩ := hg.get (hpre ⟨4, .data⟩ (by simp) rfl)
        have e20 := hin 4 20 v4 f4 (by kernel_rfl) (by simp)
        refine op_call (g := 24) (args := #[v3, v4]) rfl rfl (by have ef : ∀ f, A.eval (.func f) = .func (.func f) #[] #[] := fun _ => rfl; generalize A.eval = ev at *; simp [go_sem, e19, e20, ef]) ?_
        refine (timesK r3 r4 W).mono ?_
        rintro e W' ⟨r, rfl, hr, hb⟩
        exact ⟨r, rfl, r, rfl, hg.call hSt rfl hb hr⟩
      | (j + 6), h => exact absurd h (by omega)
    · intro f W hall hg
      obtain ⟨v0, f0, r0⟩ := hg.get (hall 0 (by decide))
      obtain ⟨v1, f1, r1⟩ := hg.get (hall 1 (by decide))
      obtain ⟨v2, f2, r2⟩ := hg.get (hall 2 (by decide))
      obtain ⟨v3, f3, r3⟩ := hg.get (hall 3 (by decide))
      obtain ⟨v4, f4, r4⟩ := hg.get (hall 4 (by decide))
      obtain ⟨v5, f5, r5⟩ := hg.get (hall 5 (by decide))
      have hbW := hg.below
      simp only [List.drop_succ_cons, List.drop_zero, List.take_succ_cons, List.take_zero, fr, f0, f1, f2, f3, f4, f5, Act.put, List.setIfInBounds_toArray, List.set_cons_zero, List.set_cons_succ]
      obtain ⟨yA, oA, kA, rfl⟩ := r2
      obtain ⟨yB, oB, kB, rfl⟩ := r5
      obtain ⟨uA, _, _, hA⟩ := c3.below hbW c3.lt
      obtain ⟨uB, _, _, hB⟩ := c4.below hbW c4.lt
      have c2 := c2.below hbW c2.lt
      refine wpList_store_blk rfl 37 (.tmp 3) (.tmp 18) rfl b3 (ncells yA) rfl rfl (ncells uA) hA (by simp only [ncells_length]) (ncells_one _) (infoNUM _) ?_
      intro W3 hW3
      refine wpList_store_blk rfl 37 (.tmp 4) (.tmp 21) rfl b4 (ncells yB) rfl rfl (ncells uB) (hW3.other _ _ _ (Ne.symm hne) hB) (by simp only [ncells_length]) (ncells_one _) (infoNUM _) ?_
      intro W4 hW4
      have hX4 : Below w.heap.size w W4 := hW4.below _ _ (by omega) (hW3.below _ _ (by omega) (hX2.trans (hbW.mono hX2.size)))
      have d3 : Blk W4 b3 37 (ncells yA) := hW4.other _ _ _ hne hW3.blk
      have d4 : Blk W4 b4 37 (ncells yB) := hW4.blk
      have d2 : BlkP W4 (w.heap.size + 1) (0, 0) := (c2.other hW3 (by omega)).other hW4 (by omega)
      have kA2 : NumK ((p.1 + p.2) * (p.1 + p.2)) (.agg (ncells yA).toArray) := ⟨yA, oA, kA, rfl⟩
      have kB2 : NumK ((p.1 - p.2) * (p.1 - p.2)) (.agg (ncells yB).toArray) := ⟨yB, oB, kB, rfl⟩
      clear hg hall f0 f1 f2 f3 f4 f5 r0 r1 r3 r4
      clear hW3 hW4 hA hB c2 c3 c4 hX2 hbW
      go_wp2_with (first
        | (refine wpList_load_blk rfl 37 (.tmp 3) rfl b3 0 rfl d3 (ncells yA) (by simp) _ Tryd.underlying37 rfl (infoNUM _) ?_)
        | (refine wpList_load_blk rfl 37 (.tmp 4) rfl b4 0 rfl d4 (ncells yB) (by simp) _ Tryd.underlying37 rfl (infoNUM _) ?_)
        | (go_at_call 48; refine (minusK kA2 kB2 _).mono ?_; rintro e w5 ⟨r5, rfl, ⟨yE, oE, kE, rfl⟩, hb5⟩)
        | (refine wpList_store_blk rfl 37 (.tmp 5) (.tmp 24) rfl w5.heap.size (ncells yE) rfl rfl (ncells 0) (Blk.new w5 37 (ncells 0) _ zcells) (by simp only [ncells_length]) (ncells_one _) (infoNUM _) ?_; intro W6 hW6))
      dsimp only [Act.put]
      have l3 := d3.lt
      have l4 := d4.lt
      have l2 := d2.lt
      have sz5 := hb5.size
      have hbN : Below W4.heap.size W4 (w5.alloc (.cells #[Value.int .i64 0, .int .i64 0, .int .i64 0, .int .i64 0, .int .i64 0, .int .i64 0, .int .i64 0, .int .i64 0, .int .i64 0, .int .i64 0, .int .i64 0, .int .i64 0, .int .i64 0, .int .i64 0, .int .i64 0, .int .i64 0] 37)) := hb5.alloc hb5.size _
      have c3 : BlkK W6 b3 ((p.1 + p.2) * (p.1 + p.2)) := ⟨yA, oA, kA, hW6.other _ _ _ (by omega) (d3.below hbN l3)⟩
      have c4 : BlkK W6 b4 ((p.1 - p.2) * (p.1 - p.2)) := ⟨yB, oB, kB, hW6.other _ _ _ (by omega) (d4.below hbN l4)⟩
      have c5 : BlkK W6 w5.heap.size ((p.1 + p.2) * (p.1 + p.2) - (p.1 - p.2) * (p.1 - p.2)) := ⟨yE, oE, kE, hW6.blk⟩
      have c2 : BlkP W6 (w.heap.size + 1) (0, 0) := (d2.below hbN l2).other hW6 (by omega)
      have sz4 := hX4.size
      have hX6 : Below w.heap.size w W6 := hW6.below _ _ (by omega) (hX4.trans (hbN.mono hX4.size))
      clear hb5 hbN hW6 d3 d4 d2 kA2 kB2 oE kE oA kA oB kB
      have hSt : Stable (dR4 p) := by
        intro i v W W' h hb
        unfold dR4 at h ⊢
        split at h <;> first | exact h | (obtain ⟨b, e, hle, hB⟩ := h; exact ⟨b, e, hle, hB.below hb hB.lt⟩)
      refine wp_region_told 9 (by kernel_rfl) (by kernel_rfl) (dR4 p) (fun _ => false) ?_ ?_
      · intro f W A hin hout hg i o hi ho hpre
        have hb3 := c3.below hg.below c3.lt
        have hb4 := c4.below hg.below c4.lt
        have hb5 := c5.below hg.below c5.lt
        match i, hi with
        | 0, _ =>
          obtain rfl := Option.some.inj ho
          have e3 : A.eval (.tmp 3) = .pointer (some ⟨b3, 0, none⟩) := hout 3 (by kernel_rfl)
          obtain ⟨v, hv, hrun⟩ := hb3.load
          exact op_load rfl rfl rfl e3 hrun ⟨_, rfl, hg.value hSt rfl hv⟩
        | 1, _ =>
          obtain rfl := Option.some.inj ho
          have e4 : A.eval (.tmp 4) = .pointer (some ⟨b4, 0, none⟩) := hout 4 (by kernel_rfl)
          obtain ⟨v, hv, hrun⟩ := hb4.load
          exact op_load rfl rfl rfl e4 hrun ⟨_, rfl, hg.value hSt rfl hv⟩
        | 2, _ =>
          obtain rfl := Option.some.inj ho
          obtain ⟨v0, f0, r0⟩ := hg.get (hpre ⟨0, .data⟩ (by simp) rfl)
          have e25 := hin 0 25 v0 f0 (by kernel_rfl) (by simp)
          obtain ⟨v1, f1, r1⟩ := hg.get (hpre ⟨1, .data⟩ (by simp) rfl)
          have e26 := hin 1 26 v1 f1 (by kernel_rfl) (by simp)
          refine op_call (g := 24) (args := #[v0, v1]) rfl rfl (by have ef : ∀ f, A.eval (.func f) = .func (.func f) #[] #[] := fun _ => rfl; generalize A.eval = ev at *; simp [go_sem, e25, e26, ef]) ?_
          refine (timesK r0 r1 W).mono ?_
          rintro e W' ⟨r, rfl, hr, hb⟩
          exact ⟨r, rfl, r, rfl, hg.call hSt rfl hb hr⟩
        | 3, _ =>
          obtain rfl := Option.some.inj ho
          have e5 : A.eval (.tmp 5) = .pointer (some ⟨w5.heap.size, 0, none⟩) := hout 5 (by kernel_rfl)
          obtain ⟨v, hv, hrun⟩ := hb5.load
          exact op_load rfl rfl rfl e5 hrun ⟨_, rfl, hg.value hSt rfl hv⟩
        | 4, _ =>
          obtain rfl := Option.some.inj ho
          have e3 : A.eval (.tmp 3) = .pointer (some ⟨b3, 0, none⟩) := hout 3 (by kernel_rfl)
          obtain ⟨v, hv, hrun⟩ := hb3.load
          exact op_load rfl rfl rfl e3 hrun ⟨_, rfl, hg.value hSt rfl hv⟩
        | 5, _ =>
          obtain rfl := Option.some.inj ho
          have e5 : A.eval (.tmp 5) = .pointer (some ⟨w5.heap.size, 0, none⟩) := hout 5 (by kernel_rfl)
          obtain ⟨v, hv, hrun⟩ := hb5.load
          exact op_load rfl rfl rfl e5 hrun ⟨_, rfl, hg.value hSt rfl hv⟩
        | 6, _ =>
          obtain rfl := Option.some.inj ho
          obtain ⟨v4, f4, r4⟩ := hg.get (hpre ⟨4, .data⟩ (by simp) rfl)
          have e29 := hin 4 29 v4 f4 (by kernel_rfl) (by simp)
          obtain ⟨v5, f5, r5⟩ := hg.get (hpre ⟨5, .data⟩ (by simp) rfl)
          have e30 := hin 5 30 v5 f5 (by kernel_rfl) (by simp)
          refine op_call (g := 48) (args := #[v4, v5, .int .i64 121665]) rfl rfl (by have ef : ∀ f, A.eval (.func f) = .func (.func f) #[] #[] := fun _ => rfl; have ec : ∀ v, A.eval (.const v) = v := fun _ => rfl; generalize A.eval = ev at *; simp [go_sem, e29, e30, ef, ec]) ?_
          refine (facK r4 r5 W).mono ?_
          rintro e W' ⟨r, rfl, hr, hb⟩
          exact ⟨r, rfl, r, rfl, hg.call hSt rfl hb hr⟩
        | 7, _ =>
          obtain rfl := Option.some.inj ho
          obtain ⟨v3, f3, r3⟩ := hg.get (hpre ⟨3, .data⟩ (by simp) rfl)
          have e28 := hin 3 28 v3 f3 (by kernel_rfl) (by simp)
          obtain ⟨v6, f6, r6⟩ := hg.get (hpre ⟨6, .data⟩ (by simp) rfl)
          have e31 := hin 6 31 v6 f6 (by kernel_rfl) (by simp)
          refine op_call (g := 24) (args := #[v3, v6]) rfl rfl (by have ef : ∀ f, A.eval (.func f) = .func (.func f) #[] #[] := fun _ => rfl; generalize A.eval = ev at *; simp [go_sem, e28, e31, ef]) ?_
          refine (timesK r3 r6 W).mono ?_
          rintro e W' ⟨r, rfl, hr, hb⟩
          exact ⟨r, rfl, r, rfl, hg.call hSt rfl hb hr⟩
        | 8, _ =>
          obtain rfl := Option.some.inj ho
          obtain ⟨v2, f2, r2⟩ := hg.get (hpre ⟨2, .data⟩ (by simp) rfl)
          have e27 := hin 2 27 v2 f2 (by kernel_rfl) (by simp)
          obtain ⟨v7, f7, r7⟩ := hg.get (hpre ⟨7, .data⟩ (by simp) rfl)
          have e32 := hin 7 32 v7 f7 (by kernel_rfl) (by simp)
          obtain ⟨y1, o1, k1, rfl⟩ := r2
          obtain ⟨y2, o2, k2, rfl⟩ := r7
          exact op_value (v := Pnt y1 y2) (W' := W) rfl rfl (build_run rfl A.eval y1 y2 e27 e32 W) ⟨_, rfl, hg.value hSt rfl (⟨y1, y2, o1, o2, k1, k2, rfl⟩)⟩
        | (j + 9), h => exact absurd h (by omega)
      · intro f W hall hg
        obtain ⟨v0, f0, r0⟩ := hg.get (hall 0 (by decide))
        obtain ⟨v1, f1, r1⟩ := hg.get (hall 1 (by decide))
        obtain ⟨v2, f2, r2⟩ := hg.get (hall 2 (by decide))
        obtain ⟨v3, f3, r3⟩ := hg.get (hall 3 (by decide))
        obtain ⟨v4, f4, r4⟩ := hg.get (hall 4 (by decide))
        obtain ⟨v5, f5, r5⟩ := hg.get (hall 5 (by decide))
        obtain ⟨v6, f6, r6⟩ := hg.get (hall 6 (by decide))
        obtain ⟨v7, f7, r7⟩ := hg.get (hall 7 (by decide))
        obtain ⟨v8, f8, r8⟩ := hg.get (hall 8 (by decide))
        have hbW := hg.below
        simp only [List.drop_succ_cons, List.drop_zero, List.take_succ_cons, List.take_zero, fr, f0, f1, f2, f3, f4, f5, f6, f7, f8, Act.put, List.setIfInBounds_toArray, List.set_cons_zero, List.set_cons_succ]
        obtain ⟨y1, y2, o1, o2, k1, k2, rfl⟩ := r8
        obtain ⟨z1, z2, _, _, _, _, hP⟩ := c2.below hbW c2.lt
        refine wpList_store_blk rfl 39 (.tmp 2) (.tmp 33) rfl (w.heap.size + 1) (pcells y1 y2) rfl rfl (pcells z1 z2) hP (by simp only [pcells_length]) (pcells_one _ _) (infoPNT _ _) ?_
        intro W7 hW7
        go_wp2_with fail
        exact bodyPost_ret (results_blk1 Tryd.results34 _ rfl hW7.blk _ Tryd.underlying39 rfl (infoPNT _ _)) rfl ⟨_, rfl, ⟨y1, y2, o1, o2, k1, k2, rfl⟩, hW7.below _ _ (by omega) (hX6.trans (hbW.mono hX6.size))⟩
def aR1 (h : Nat) (W0 : World) (p q : K × K) : Nat → Value → World → Prop
  | 0, v, _ => v = .pointer (some ⟨h, 0, none⟩)
  | 1, v, _ => NumK (p.1) v
  | 2, v, _ => v = .pointer (some ⟨h, 16, none⟩)
  | 3, v, _ => NumK (p.2) v
  | 4, v, _ => NumK (p.1 - p.2) v
  | 5, v, _ => v = .pointer (some ⟨(h + 1), 0, none⟩)
  | 6, v, _ => NumK (q.1) v
  | 7, v, _ => v = .pointer (some ⟨(h + 1), 16, none⟩)
  | 8, v, _ => NumK (q.2) v
  | 9, v, _ => NumK (q.1 + q.2) v
  | 10, v, _ => NumK ((p.1 - p.2) * (q.1 + q.2)) v
  | 11, v, W => ∃ b, v = .pointer (some ⟨b, 0, none⟩) ∧ W0.heap.size ≤ b ∧ BlkK W b 0
  | _, _, _ => True
def aR2 (h : Nat) (W0 : World) (p q : K × K) : Nat → Value → World → Prop
  | 0, v, _ => v = .pointer (some ⟨h, 0, none⟩)
  | 1, v, _ => NumK (p.1) v
  | 2, v, _ => v = .pointer (some ⟨h, 16, none⟩)
  | 3, v, _ => NumK (p.2) v
  | 4, v, _ => NumK (p.1 + p.2) v
  | 5, v, _ => v = .pointer (some ⟨(h + 1), 0, none⟩)
  | 6, v, _ => NumK (q.1) v
  | 7, v, _ => v = .pointer (some ⟨(h + 1), 16, none⟩)
  | 8, v, _ => NumK (q.2) v
  | 9, v, _ => NumK (q.1 - q.2) v
  | 10, v, _ => NumK ((p.1 + p.2) * (q.1 - q.2)) v
  | 11, v, W => ∃ b, v = .pointer (some ⟨b, 0, none⟩) ∧ W0.heap.size ≤ b ∧ BlkK W b 0
  | _, _, _ => True
def aR3 (W0 : World) (p q : K × K) : Nat → Value → World → Prop
  | 0, v, _ => NumK ((p.1 - p.2) * (q.1 + q.2)) v
  | 1, v, _ => NumK ((p.1 + p.2) * (q.1 - q.2)) v
  | 2, v, _ => NumK ((p.1 - p.2) * (q.1 + q.2) + (p.1 + p.2) * (q.1 - q.2)) v
  | 3, v, _ => NumK ((p.1 - p.2) * (q.1 + q.2)) v
  | 4, v, _ => NumK ((p.1 + p.2) * (q.1 - q.2)) v
  | 5, v, _ => NumK ((p.1 - p.2) * (q.1 + q.2) - (p.1 + p.2) * (q.1 - q.2)) v
  | 6, v, W => ∃ b, v = .pointer (some ⟨b, 0, none⟩) ∧ W0.heap.size ≤ b ∧ BlkK W b 0
  | 7, v, W => ∃ b, v = .pointer (some ⟨b, 0, none⟩) ∧ W0.heap.size ≤ b ∧ BlkK W b 0
  | _, _, _ => True
def aR4 (p q : K × K) (x : K) : Nat → Value → World → Prop
  | 0, v, _ => NumK ((p.1 - p.2) * (q.1 + q.2) + (p.1 + p.2) * (q.1 - q.2)) v
  | 1, v, _ => NumK ((p.1 - p.2) * (q.1 + q.2) + (p.1 + p.2) * (q.1 - q.2)) v
  | 2, v, _ => NumK (((p.1 - p.2) * (q.1 + q.2) + (p.1 + p.2) * (q.1 - q.2)) * ((p.1 - p.2) * (q.1 + q.2) + (p.1 + p.2) * (q.1 - q.2))) v
  | 3, v, _ => NumK (x) v
  | 4, v, _ => NumK ((p.1 - p.2) * (q.1 + q.2) - (p.1 + p.2) * (q.1 - q.2)) v
  | 5, v, _ => NumK ((p.1 - p.2) * (q.1 + q.2) - (p.1 + p.2) * (q.1 - q.2)) v
  | 6, v, _ => NumK (((p.1 - p.2) * (q.1 + q.2) - (p.1 + p.2) * (q.1 - q.2)) * ((p.1 - p.2) * (q.1 + q.2) - (p.1 + p.2) * (q.1 - q.2))) v
  | 7, v, _ => NumK (x * (((p.1 - p.2) * (q.1 + q.2) - (p.1 + p.2) * (q.1 - q.2)) * ((p.1 - p.2) * (q.1 + q.2) - (p.1 + p.2) * (q.1 - q.2)))) v
  | 8, v, _ => PntK (((p.1 - p.2) * (q.1 + q.2) + (p.1 + p.2) * (q.1 - q.2)) * ((p.1 - p.2) * (q.1 + q.2) + (p.1 + p.2) * (q.1 - q.2)), x * (((p.1 - p.2) * (q.1 + q.2) - (p.1 + p.2) * (q.1 - q.2)) * ((p.1 - p.2) * (q.1 + q.2) - (p.1 + p.2) * (q.1 - q.2)))) v
  | _, _, _ => True
theorem ref_tog (p q : K × K) (x : K) : ((((p.1 - p.2) * (q.1 + q.2) + (p.1 + p.2) * (q.1 - q.2)) * ((p.1 - p.2) * (q.1 + q.2) + (p.1 + p.2) * (q.1 - q.2))), x * (((p.1 - p.2) * (q.1 + q.2) - (p.1 + p.2) * (q.1 - q.2)) * ((p.1 - p.2) * (q.1 + q.2) - (p.1 + p.2) * (q.1 - q.2)))) = tog p q x := by
  unfold tog
  congr 1 <;> grind -lia -linarith
set_option maxRecDepth 100000 in
set_option maxHeartbeats 3200000 in
theorem add_any (p q : K × K) (x : K) (v u n : Value) (hv : PntK p v) (hu : PntK q u) (hn : NumK x n) (w : World) :
    Calls Tryd.prog 35 #[v, u, n] w fun e w' => ∃ r, e = .returned r ∧ PntK (tog p q x) r ∧ Below w.heap.size w w' := by
  obtain ⟨px, pz, hpx, hpz, kpx, kpz, rfl⟩ := hv
  obtain ⟨qx, qz, hqx, hqz, kqx, kqz, rfl⟩ := hu
  obtain ⟨nx, hnx, knx, rfl⟩ := hn
  rw [show Num nx = .agg (ncells nx).toArray from rfl]
  go_enter Tryd.func35, Tryd.ntmps35
  go_wp2_with fail
  rw [zpcells]
  have b1 : BlkP ((((w.alloc (.cells (pcells px pz).toArray 39)).alloc (.cells (pcells qx qz).toArray 39)).alloc (.cells (ncells nx).toArray 37)).alloc (.cells (pcells 0 0).toArray 39)) w.heap.size p := ⟨px, pz, hpx, hpz, kpx, kpz, (((Blk.new w 39 (pcells px pz) _ rfl).alloc _).alloc _).alloc _⟩
  have b2 : BlkP ((((w.alloc (.cells (pcells px pz).toArray 39)).alloc (.cells (pcells qx qz).toArray 39)).alloc (.cells (ncells nx).toArray 37)).alloc (.cells (pcells 0 0).toArray 39)) (w.heap.size + 1) q := by
    have h := Blk.new (w.alloc (.cells (pcells px pz).toArray 39)) 39 (pcells qx qz) _ rfl
    rw [World.size_alloc] at h
    exact ⟨qx, qz, hqx, hqz, kqx, kqz, (h.alloc _).alloc _⟩
  have b3 : BlkK ((((w.alloc (.cells (pcells px pz).toArray 39)).alloc (.cells (pcells qx qz).toArray 39)).alloc (.cells (ncells nx).toArray 37)).alloc (.cells (pcells 0 0).toArray 39)) (w.heap.size + 1 + 1) x := by
    have h := Blk.new ((w.alloc (.cells (pcells px pz).toArray 39)).alloc (.cells (pcells qx qz).toArray 39)) 37 (ncells nx) _ rfl
    rw [World.size_alloc, World.size_alloc] at h
    exact ⟨nx, hnx, knx, h.alloc _⟩
  have b4 : BlkP ((((w.alloc (.cells (pcells px pz).toArray 39)).alloc (.cells (pcells qx qz).toArray 39)).alloc (.cells (ncells nx).toArray 37)).alloc (.cells (pcells 0 0).toArray 39)) (w.heap.size + 1 + 1 + 1) (0, 0) := by
    have h := BlkP.new (((w.alloc (.cells (pcells px pz).toArray 39)).alloc (.cells (pcells qx qz).toArray 39)).alloc (.cells (ncells nx).toArray 37))
    rw [World.size_alloc, World.size_alloc, World.size_alloc] at h
    exact h
  have hX : Below w.heap.size w ((((w.alloc (.cells (pcells px pz).toArray 39)).alloc (.cells (pcells qx qz).toArray 39)).alloc (.cells (ncells nx).toArray 37)).alloc (.cells (pcells 0 0).toArray 39)) := ((((Below.refl _ _).alloc (Nat.le_refl _) _).alloc (by simp) _).alloc (by simp; omega) _).alloc (by simp; omega) _
  have hsz : ((((w.alloc (.cells (pcells px pz).toArray 39)).alloc (.cells (pcells qx qz).toArray 39)).alloc (.cells (ncells nx).toArray 37)).alloc (.cells (pcells 0 0).toArray 39)).heap.size = w.heap.size + 1 + 1 + 1 + 1 := by simp
  generalize (((w.alloc (.cells (pcells px pz).toArray 39)).alloc (.cells (pcells qx qz).toArray 39)).alloc (.cells (ncells nx).toArray 37)).alloc (.cells (pcells 0 0).toArray 39) = W0 at *
  clear hpx hpz kpx kpz hqx hqz kqx kqz hnx knx
  have hSt : Stable (aR1 w.heap.size W0 p q) := by
    intro i v W W' h hb
    unfold aR1 at h ⊢
    split at h <;> first | exact h | (obtain ⟨b, e, hle, hB⟩ := h; exact ⟨b, e, hle, hB.below hb hB.lt⟩)
  refine wp_region_told 12 (by kernel_rfl) (by kernel_rfl) (aR1 w.heap.size W0 p q) (fun i => i == 11) ?_ ?_
  · intro f W A hin hout hg i o hi ho hpre
    have hF : ∀ j v, (j == 11) = true → aR1 w.heap.size W0 p q j v W → ∃ b, v = .pointer (some ⟨b, 0, none⟩) ∧ b < W.heap.size := by
      intro j v hj hr
      simp only [beq_iff_eq] at hj
      rcases hj with rfl <;> (obtain ⟨b, e, _, hB⟩ := hr; exact ⟨b, e, hB.lt⟩)
    have hp := b1.below hg.below b1.lt
    have hq := b2.below hg.below b2.lt
    match i, hi with
    | 0, _ =>
      obtain rfl := Option.some.inj ho
      have e3 : A.eval (.tmp 3) = .pointer (some ⟨w.heap.size, 0, none⟩) := hout 3 (by kernel_rfl)
      exact op_value (v := .pointer (some ⟨w.heap.size, 0, none⟩)) (W' := W) rfl rfl (by generalize A.eval = ev at *; simp [go_sem, e3]) ⟨_, rfl, hg.value hSt rfl (rfl)⟩
    | 1, _ =>
      obtain rfl := Option.some.inj ho
      obtain ⟨v0, f0, r0⟩ := hg.get (hpre ⟨0, .data⟩ (by simp) rfl)
      have e11 := hin 0 11 v0 f0 (by kernel_rfl) (by simp)
      obtain rfl : v0 = .pointer (some ⟨w.heap.size, 0, none⟩) := r0
      obtain ⟨v, hv, hrun⟩ := hp.loadX
      exact op_load rfl rfl rfl e11 hrun ⟨_, rfl, hg.value hSt rfl hv⟩
    | 2, _ =>
      obtain rfl := Option.some.inj ho
      have e3 : A.eval (.tmp 3) = .pointer (some ⟨w.heap.size, 0, none⟩) := hout 3 (by kernel_rfl)
      exact op_value (v := .pointer (some ⟨w.heap.size, 16, none⟩)) (W' := W) rfl rfl (by generalize A.eval = ev at *; simp [go_sem, e3]) ⟨_, rfl, hg.value hSt rfl (rfl)⟩
    | 3, _ =>
      obtain rfl := Option.some.inj ho
      obtain ⟨v2, f2, r2⟩ := hg.get (hpre ⟨2, .data⟩ (by simp) rfl)
      have e13 := hin 2 13 v2 f2 (by kernel_rfl) (by simp)
      obtain rfl : v2 = .pointer (some ⟨w.heap.size, 16, none⟩) := r2
      obtain ⟨v, hv, hrun⟩ := hp.loadZ
      exact op_load rfl rfl rfl e13 hrun ⟨_, rfl, hg.value hSt rfl hv⟩
    | 4, _ =>
      obtain rfl := Option.some.inj ho
      obtain ⟨v1, f1, r1⟩ := hg.get (hpre ⟨1, .data⟩ (by simp) rfl)
      have e12 := hin 1 12 v1 f1 (by kernel_rfl) (by simp)
      obtain ⟨v3, f3, r3⟩ := hg.get (hpre ⟨3, .data⟩ (by simp) rfl)
      have e14 := hin 3 14 v3 f3 (by kernel_rfl) (by simp)
      refine op_call (g := 48) (args := #[v1, v3, .int .i64 (-1)]) rfl rfl (by have ef : ∀ f, A.eval (.func f) = .func (.func f) #[] #[] := fun _ => rfl; have ec : ∀ v, A.eval (.const v) = v := fun _ => rfl; generalize A.eval = ev at *; simp [go_sem, e12, e14, ef, ec]) ?_
      refine (minusK r1 r3 W).mono ?_
      rintro e W' ⟨r, rfl, hr, hb⟩
      exact ⟨r, rfl, r, rfl, hg.call hSt rfl hb hr⟩
    | 5, _ =>
      obtain rfl := Option.some.inj ho
      have e4 : A.eval (.tmp 4) = .pointer (some ⟨w.heap.size + 1, 0, none⟩) := hout 4 (by kernel_rfl)
      exact op_value (v := .pointer (some ⟨w.heap.size + 1, 0, none⟩)) (W' := W) rfl rfl (by generalize A.eval = ev at *; simp [go_sem, e4]) ⟨_, rfl, hg.value hSt rfl (rfl)⟩
    | 6, _ =>
      obtain rfl := Option.some.inj ho
      obtain ⟨v5, f5, r5⟩ := hg.get (hpre ⟨5, .data⟩ (by simp) rfl)
      have e16 := hin 5 16 v5 f5 (by kernel_rfl) (by simp)
      obtain rfl : v5 = .pointer (some ⟨w.heap.size + 1, 0, none⟩) := r5
      obtain ⟨v, hv, hrun⟩ := hq.loadX
      exact op_load rfl rfl rfl e16 hrun ⟨_, rfl, hg.value hSt rfl hv⟩
    | 7, _ =>
      obtain rfl := Option.some.inj ho
      have e4 : A.eval (.tmp 4) = .pointer (some ⟨w.heap.size + 1, 0, none⟩) := hout 4 (by kernel_rfl)
      exact op_value (v := .pointer (some ⟨w.heap.size + 1, 16, none⟩)) (W' := W) rfl rfl (by generalize A.eval = ev at *; simp [go_sem, e4]) ⟨_, rfl, hg.value hSt rfl (rfl)⟩
    | 8, _ =>
      obtain rfl := Option.some.inj ho
      obtain ⟨v7, f7, r7⟩ := hg.get (hpre ⟨7, .data⟩ (by simp) rfl)
      have e18 := hin 7 18 v7 f7 (by kernel_rfl) (by simp)
      obtain rfl : v7 = .pointer (some ⟨w.heap.size + 1, 16, none⟩) := r7
      obtain ⟨v, hv, hrun⟩ := hq.loadZ
      exact op_load rfl rfl rfl e18 hrun ⟨_, rfl, hg.value hSt rfl hv⟩
    | 9, _ =>
      obtain rfl := Option.some.inj ho
      obtain ⟨v6, f6, r6⟩ := hg.get (hpre ⟨6, .data⟩ (by simp) rfl)
      have e17 := hin 6 17 v6 f6 (by kernel_rfl) (by simp)
      obtain ⟨v8, f8, r8⟩ := hg.get (hpre ⟨8, .data⟩ (by simp) rfl)
      have e19 := hin 8 19 v8 f8 (by kernel_rfl) (by simp)
      refine op_call (g := 48) (args := #[v6, v8, .int .i64 1]) rfl rfl (by have ef : ∀ f, A.eval (.func f) = .func (.func f) #[] #[] := fun _ => rfl; have ec : ∀ v, A.eval (.const v) = v := fun _ => rfl; generalize A.eval = ev at *; simp [go_sem, e17, e19, ef, ec]) ?_
      refine (plusK r6 r8 W).mono ?_
      rintro e W' ⟨r, rfl, hr, hb⟩
      exact ⟨r, rfl, r, rfl, hg.call hSt rfl hb hr⟩
    | 10, _ =>
      obtain rfl := Option.some.inj ho
      obtain ⟨v4, f4, r4⟩ := hg.get (hpre ⟨4, .data⟩ (by simp) rfl)
      have e15 := hin 4 15 v4 f4 (by kernel_rfl) (by simp)
      obtain ⟨v9, f9, r9⟩ := hg.get (hpre ⟨9, .data⟩ (by simp) rfl)
      have e20 := hin 9 20 v9 f9 (by kernel_rfl) (by simp)
      refine op_call (g := 24) (args := #[v4, v9]) rfl rfl (by have ef : ∀ f, A.eval (.func f) = .func (.func f) #[] #[] := fun _ => rfl; generalize A.eval = ev at *; simp [go_sem, e15, e20, ef]) ?_
      refine (timesK r4 r9 W).mono ?_
      rintro e W' ⟨r, rfl, hr, hb⟩
      exact ⟨r, rfl, r, rfl, hg.call hSt rfl hb hr⟩
    | 11, _ =>
      obtain rfl := Option.some.inj ho
      exact op_value (v := .pointer (some ⟨W.heap.size, 0, none⟩)) (W' := W.alloc (.cells (ncells 0).toArray 37)) rfl rfl (by simp [go_sem, zcells]) ⟨_, rfl, hg.alloc hSt hF ⟨_, rfl, hg.below.size, BlkK.new W⟩⟩
    | (j + 12), h => exact absurd h (by omega)
  · intro f W hall hg
    obtain ⟨v0, f0, r0⟩ := hg.get (hall 0 (by decide))
    obtain ⟨v1, f1, r1⟩ := hg.get (hall 1 (by decide))
    obtain ⟨v2, f2, r2⟩ := hg.get (hall 2 (by decide))
    obtain ⟨v3, f3, r3⟩ := hg.get (hall 3 (by decide))
    obtain ⟨v4, f4, r4⟩ := hg.get (hall 4 (by decide))
    obtain ⟨v5, f5, r5⟩ := hg.get (hall 5 (by decide))
    obtain ⟨v6, f6, r6⟩ := hg.get (hall 6 (by decide))
    obtain ⟨v7, f7, r7⟩ := hg.get (hall 7 (by decide))
    obtain ⟨v8, f8, r8⟩ := hg.get (hall 8 (by decide))
    obtain ⟨v9, f9, r9⟩ := hg.get (hall 9 (by decide))
    obtain ⟨v10, f10, r10⟩ := hg.get (hall 10 (by decide))
    obtain ⟨v11, f11, r11⟩ := hg.get (hall 11 (by decide))
    have hbW := hg.below
    simp only [List.drop_succ_cons, List.drop_zero, List.take_succ_cons, List.take_zero, fr, f0, f1, f2, f3, f4, f5, f6, f7, f8, f9, f10, f11, Act.put, List.setIfInBounds_toArray, List.set_cons_zero, List.set_cons_succ]
    obtain ⟨b7, rfl, hle7, u7, _, _, hb7⟩ := r11
    obtain ⟨yA, oA, kA, rfl⟩ := r10
    refine wpList_store_blk rfl 37 (.tmp 7) (.tmp 21) rfl b7 (ncells yA) rfl rfl (ncells u7) hb7 (by simp only [ncells_length]) (ncells_one _) (infoNUM _) ?_
    intro W1 hW1
    have hX1 : Below w.heap.size w W1 := hW1.below _ _ (by omega) (hX.trans (hbW.mono hX.size))
    have c7 : BlkK W1 b7 ((p.1 - p.2) * (q.1 + q.2)) := ⟨yA, oA, kA, hW1.blk⟩
    have c1 := (b1.below hbW b1.lt).other hW1 (by omega)
    have c2 := (b2.below hbW b2.lt).other hW1 (by omega)
    have c3 := (b3.below hbW b3.lt).other hW1 (by omega)
    have c4 := (b4.below hbW b4.lt).other hW1 (by omega)
    have z1 : W0.heap.size ≤ W1.heap.size := (by rw [hW1.size]; exact hbW.size)
    clear hg hall f0 f1 f2 f3 f4 f5 f6 f7 f8 f9 f10 f11 r0 r1 r2 r3 r4 r5 r6 r7 r8 r9
    clear hbW hW1 hb7 oA kA b1 b2 b3 b4 hX
    clear f W
    go_wp2_with fail
    dsimp only [Act.put]
    have hSt : Stable (aR2 w.heap.size W1 p q) := by
      intro i v W W' h hb
      unfold aR2 at h ⊢
      split at h <;> first | exact h | (obtain ⟨b, e, hle, hB⟩ := h; exact ⟨b, e, hle, hB.below hb hB.lt⟩)
    refine wp_region_told 12 (by kernel_rfl) (by kernel_rfl) (aR2 w.heap.size W1 p q) (fun i => i == 11) ?_ ?_
    · intro f W A hin hout hg i o hi ho hpre
      have hF : ∀ j v, (j == 11) = true → aR2 w.heap.size W1 p q j v W → ∃ b, v = .pointer (some ⟨b, 0, none⟩) ∧ b < W.heap.size := by
        intro j v hj hr
        simp only [beq_iff_eq] at hj
        rcases hj with rfl <;> (obtain ⟨b, e, _, hB⟩ := hr; exact ⟨b, e, hB.lt⟩)
      have hp := c1.below hg.below c1.lt
      have hq := c2.below hg.below c2.lt
      match i, hi with
      | 0, _ =>
        obtain rfl := Option.some.inj ho
        have e3 : A.eval (.tmp 3) = .pointer (some ⟨w.heap.size, 0, none⟩) := hout 3 (by kernel_rfl)
        exact op_value (v := .pointer (some ⟨w.heap.size, 0, none⟩)) (W' := W) rfl rfl (by generalize A.eval = ev at *; simp [go_sem, e3]) ⟨_, rfl, hg.value hSt rfl (rfl)⟩
      | 1, _ =>
        obtain rfl := Option.some.inj ho
        obtain ⟨v0, f0, r0⟩ := hg.get (hpre ⟨0, .data⟩ (by simp) rfl)
        have e22 := hin 0 22 v0 f0 (by kernel_rfl) (by simp)
        obtain rfl : v0 = .pointer (some ⟨w.heap.size, 0, none⟩) := r0
        obtain ⟨v, hv, hrun⟩ := hp.loadX
        exact op_load rfl rfl rfl e22 hrun ⟨_, rfl, hg.value hSt rfl hv⟩
      | 2, _ =>
        obtain rfl := Option.some.inj ho
        have e3 : A.eval (.tmp 3) = .pointer (some ⟨w.heap.size, 0, none⟩) := hout 3 (by kernel_rfl)
        exact op_value (v := .pointer (some ⟨w.heap.size, 16, none⟩)) (W' := W) rfl rfl (by generalize A.eval = ev at *; simp [go_sem, e3]) ⟨_, rfl, hg.value hSt rfl (rfl)⟩
      | 3, _ =>
        obtain rfl := Option.some.inj ho
        obtain ⟨v2, f2, r2⟩ := hg.get (hpre ⟨2, .data⟩ (by simp) rfl)
        have e24 := hin 2 24 v2 f2 (by kernel_rfl) (by simp)
        obtain rfl : v2 = .pointer (some ⟨w.heap.size, 16, none⟩) := r2
        obtain ⟨v, hv, hrun⟩ := hp.loadZ
        exact op_load rfl rfl rfl e24 hrun ⟨_, rfl, hg.value hSt rfl hv⟩
      | 4, _ =>
        obtain rfl := Option.some.inj ho
        obtain ⟨v1, f1, r1⟩ := hg.get (hpre ⟨1, .data⟩ (by simp) rfl)
        have e23 := hin 1 23 v1 f1 (by kernel_rfl) (by simp)
        obtain ⟨v3, f3, r3⟩ := hg.get (hpre ⟨3, .data⟩ (by simp) rfl)
        have e25 := hin 3 25 v3 f3 (by kernel_rfl) (by simp)
        refine op_call (g := 48) (args := #[v1, v3, .int .i64 1]) rfl rfl (by have ef : ∀ f, A.eval (.func f) = .func (.func f) #[] #[] := fun _ => rfl; have ec : ∀ v, A.eval (.const v) = v := fun _ => rfl; generalize A.eval = ev at *; simp [go_sem, e23, e25, ef, ec]) ?_
        refine (plusK r1 r3 W).mono ?_
        rintro e W' ⟨r, rfl, hr, hb⟩
        exact ⟨r, rfl, r, rfl, hg.call hSt rfl hb hr⟩
      | 5, _ =>
        obtain rfl := Option.some.inj ho
        have e4 : A.eval (.tmp 4) = .pointer (some ⟨w.heap.size + 1, 0, none⟩) := hout 4 (by kernel_rfl)
        exact op_value (v := .pointer (some ⟨w.heap.size + 1, 0, none⟩)) (W' := W) rfl rfl (by generalize A.eval = ev at *; simp [go_sem, e4]) ⟨_, rfl, hg.value hSt rfl (rfl)⟩
      | 6, _ =>
        obtain rfl := Option.some.inj ho
        obtain ⟨v5, f5, r5⟩ := hg.get (hpre ⟨5, .data⟩ (by simp) rfl)
        have e27 := hin 5 27 v5 f5 (by kernel_rfl) (by simp)
        obtain rfl : v5 = .pointer (some ⟨w.heap.size + 1, 0, none⟩) := r5
        obtain ⟨v, hv, hrun⟩ := hq.loadX
        exact op_load rfl rfl rfl e27 hrun ⟨_, rfl, hg.value hSt rfl hv⟩
      | 7, _ =>
        obtain rfl := Option.some.inj ho
        have e4 : A.eval (.tmp 4) = .pointer (some ⟨w.heap.size + 1, 0, none⟩) := hout 4 (by kernel_rfl)
        exact op_value (v := .pointer (some ⟨w.heap.size + 1, 16, none⟩)) (W' := W) rfl rfl (by generalize A.eval = ev at *; simp [go_sem, e4]) ⟨_, rfl, hg.value hSt rfl (rfl)⟩
      | 8, _ =>
        obtain rfl := Option.some.inj ho
        obtain ⟨v7, f7, r7⟩ := hg.get (hpre ⟨7, .data⟩ (by simp) rfl)
        have e29 := hin 7 29 v7 f7 (by kernel_rfl) (by simp)
        obtain rfl : v7 = .pointer (some ⟨w.heap.size + 1, 16, none⟩) := r7
        obtain ⟨v, hv, hrun⟩ := hq.loadZ
        exact op_load rfl rfl rfl e29 hrun ⟨_, rfl, hg.value hSt rfl hv⟩
      | 9, _ =>
        obtain rfl := Option.some.inj ho
        obtain ⟨v6, f6, r6⟩ := hg.get (hpre ⟨6, .data⟩ (by simp) rfl)
        have e28 := hin 6 28 v6 f6 (by kernel_rfl) (by simp)
        obtain ⟨v8, f8, r8⟩ := hg.get (hpre ⟨8, .data⟩ (by simp) rfl)
        have e30 := hin 8 30 v8 f8 (by kernel_rfl) (by simp)
        refine op_call (g := 48) (args := #[v6, v8, .int .i64 (-1)]) rfl rfl (by have ef : ∀ f, A.eval (.func f) = .func (.func f) #[] #[] := fun _ => rfl; have ec : ∀ v, A.eval (.const v) = v := fun _ => rfl; generalize A.eval = ev at *; simp [go_sem, e28, e30, ef, ec]) ?_
        refine (minusK r6 r8 W).mono ?_
        rintro e W' ⟨r, rfl, hr, hb⟩
        exact ⟨r, rfl, r, rfl, hg.call hSt rfl hb hr⟩
      | 10, _ =>
        obtain rfl := Option.some.inj ho
        obtain ⟨v4, f4, r4⟩ := hg.get (hpre ⟨4, .data⟩ (by simp) rfl)
        have e26 := hin 4 26 v4 f4 (by kernel_rfl) (by simp)
        obtain ⟨v9, f9, r9⟩ := hg.get (hpre ⟨9, .data⟩ (by simp) rfl)
        have e31 := hin 9 31 v9 f9 (by kernel_rfl) (by simp)
        refine op_call (g := 24) (args := #[v4, v9]) rfl rfl (by have ef : ∀ f, A.eval (.func f) = .func (.func f) #[] #[] := fun _ => rfl; generalize A.eval = ev at *; simp [go_sem, e26, e31, ef]) ?_
        refine (timesK r4 r9 W).mono ?_
        rintro e W' ⟨r, rfl, hr, hb⟩
        exact ⟨r, rfl, r, rfl, hg.call hSt rfl hb hr⟩
      | 11, _ =>
        obtain rfl := Option.some.inj ho
        exact op_value (v := .pointer (some ⟨W.heap.size, 0, none⟩)) (W' := W.alloc (.cells (ncells 0).toArray 37)) rfl rfl (by simp [go_sem, zcells]) ⟨_, rfl, hg.alloc hSt hF ⟨_, rfl, hg.below.size, BlkK.new W⟩⟩
      | (j + 12), h => exact absurd h (by omega)
    · intro f W hall hg
      obtain ⟨v0, f0, r0⟩ := hg.get (hall 0 (by decide))
      obtain ⟨v1, f1, r1⟩ := hg.get (hall 1 (by decide))
      obtain ⟨v2, f2, r2⟩ := hg.get (hall 2 (by decide))
      obtain ⟨v3, f3, r3⟩ := hg.get (hall 3 (by decide))
      obtain ⟨v4, f4, r4⟩ := hg.get (hall 4 (by decide))
      obtain ⟨v5, f5, r5⟩ := hg.get (hall 5 (by decide))
      obtain ⟨v6, f6, r6⟩ := hg.get (hall 6 (by decide))
      obtain ⟨v7, f7, r7⟩ := hg.get (hall 7 (by decide))
      obtain ⟨v8, f8, r8⟩ := hg.get (hall 8 (by decide))
      obtain ⟨v9, f9, r9⟩ := hg.get (hall 9 (by decide))
      obtain ⟨v10, f10, r10⟩ := hg.get (hall 10 (by decide))
      obtain ⟨v11, f11, r11⟩ := hg.get (hall 11 (by decide))
      have hbW := hg.below
      simp only [List.drop_succ_cons, List.drop_zero, List.take_succ_cons, List.take_zero, fr, f0, f1, f2, f3, f4, f5, f6, f7, f8, f9, f10, f11, Act.put, List.setIfInBounds_toArray, List.set_cons_zero, List.set_cons_succ]
      obtain ⟨b8, rfl, hle8, u8, _, _, hb8⟩ := r11
      obtain ⟨yB, oB, kB, rfl⟩ := r10
      refine wpList_store_blk rfl 37 (.tmp 8) (.tmp 32) rfl b8 (ncells yB) rfl rfl (ncells u8) hb8 (by simp only [ncells_length]) (ncells_one _) (infoNUM _) ?_
      intro W2 hW2
      have l7 := c7.lt
      have hX2 : Below w.heap.size w W2 := hW2.below _ _ (by omega) (hX1.trans (hbW.mono hX1.size))
      have d8 : BlkK W2 b8 ((p.1 + p.2) * (q.1 - q.2)) := ⟨yB, oB, kB, hW2.blk⟩
      have d7 := (c7.below hbW c7.lt).other hW2 (by omega)
      have d3 := (c3.below hbW c3.lt).other hW2 (by omega)
      have d4 := (c4.below hbW c4.lt).other hW2 (by omega)
      have z2 : W0.heap.size ≤ W2.heap.size := (by rw [hW2.size]; exact Nat.le_trans z1 hbW.size)
      have l8 : b7 < b8 := by omega
      have l82 := d8.lt
      clear hg hall f0 f1 f2 f3 f4 f5 f6 f7 f8 f9 f10 f11 r0 r1 r2 r3 r4 r5 r6 r7 r8 r9
      clear hbW hW2 hb8 oB kB c1 c2 c3 c4 c7 hX1
      clear f W
      go_wp2_with fail
      dsimp only [Act.put]
      have hSt : Stable (aR3 W2 p q) := by
        intro i v W W' h hb
        unfold aR3 at h ⊢
        split at h <;> first | exact h | (obtain ⟨b, e, hle, hB⟩ := h; exact ⟨b, e, hle, hB.below hb hB.lt⟩)
      refine wp_region_told 8 (by kernel_rfl) (by kernel_rfl) (aR3 W2 p q) (fun i => i == 6 || i == 7) ?_ ?_
      · intro f W A hin hout hg i o hi ho hpre
        have hF : ∀ j v, (j == 6 || j == 7) = true → aR3 W2 p q j v W → ∃ b, v = .pointer (some ⟨b, 0, none⟩) ∧ b < W.heap.size := by
          intro j v hj hr
          simp only [Bool.or_eq_true, beq_iff_eq] at hj
          rcases hj with rfl | rfl <;> (obtain ⟨b, e, _, hB⟩ := hr; exact ⟨b, e, hB.lt⟩)
        have hb7 := d7.below hg.below d7.lt
        have hb8 := d8.below hg.below d8.lt
        match i, hi with
        | 0, _ =>
          obtain rfl := Option.some.inj ho
          have e7 : A.eval (.tmp 7) = .pointer (some ⟨b7, 0, none⟩) := hout 7 (by kernel_rfl)
          obtain ⟨v, hv, hrun⟩ := hb7.load
          exact op_load rfl rfl rfl e7 hrun ⟨_, rfl, hg.value hSt rfl hv⟩
        | 1, _ =>
          obtain rfl := Option.some.inj ho
          have e8 : A.eval (.tmp 8) = .pointer (some ⟨b8, 0, none⟩) := hout 8 (by kernel_rfl)
          obtain ⟨v, hv, hrun⟩ := hb8.load
          exact op_load rfl rfl rfl e8 hrun ⟨_, rfl, hg.value hSt rfl hv⟩
        | 2, _ =>
          obtain rfl := Option.some.inj ho
          obtain ⟨v0, f0, r0⟩ := hg.get (hpre ⟨0, .data⟩ (by simp) rfl)
          have e33 := hin 0 33 v0 f0 (by kernel_rfl) (by simp)
          obtain ⟨v1, f1, r1⟩ := hg.get (hpre ⟨1, .data⟩ (by simp) rfl)
          have e34 := hin 1 34 v1 f1 (by kernel_rfl) (by simp)
          refine op_call (g := 48) (args := #[v0, v1, .int .i64 1]) rfl rfl (by have ef : ∀ f, A.eval (.func f) = .func (.func f) #[] #[] := fun _ => rfl; have ec : ∀ v, A.eval (.const v) = v := fun _ => rfl; generalize A.eval = ev at *; simp [go_sem, e33, e34, ef, ec]) ?_
          refine (plusK r0 r1 W).mono ?_
          rintro e W' ⟨r, rfl, hr, hb⟩
          exact ⟨r, rfl, r, rfl, hg.call hSt rfl hb hr⟩
        | 3, _ =>
          obtain rfl := Option.some.inj ho
          have e7 : A.eval (.tmp 7) = .pointer (some ⟨b7, 0, none⟩) := hout 7 (by kernel_rfl)
          obtain ⟨v, hv, hrun⟩ := hb7.load
          exact op_load rfl rfl rfl e7 hrun ⟨_, rfl, hg.value hSt rfl hv⟩
        | 4, _ =>
          obtain rfl := Option.some.inj ho
          have e8 : A.eval (.tmp 8) = .pointer (some ⟨b8, 0, none⟩) := hout 8 (by kernel_rfl)
          obtain ⟨v, hv, hrun⟩ := hb8.load
          exact op_load rfl rfl rfl e8 hrun ⟨_, rfl, hg.value hSt rfl hv⟩
        | 5, _ =>
          obtain rfl := Option.some.inj ho
          obtain ⟨v3, f3, r3⟩ := hg.get (hpre ⟨3, .data⟩ (by simp) rfl)
          have e36 := hin 3 36 v3 f3 (by kernel_rfl) (by simp)
          obtain ⟨v4, f4, r4⟩ := hg.get (hpre ⟨4, .data⟩ (by simp) rfl)
          have e37 := hin 4 37 v4 f4 (by kernel_rfl) (by simp)
          refine op_call (g := 48) (args := #[v3, v4, .int .i64 (-1)]) rfl rfl (by have ef : ∀ f, A.eval (.func f) = .func (.func f) #[] #[] := fun _ => rfl; have ec : ∀ v, A.eval (.const v) = v := fun _ => rfl; generalize A.eval = ev at *; simp [go_sem, e36, e37, ef, ec]) ?_
          refine (minusK r3 r4 W).mono ?_
          rintro e W' ⟨r, rfl, hr, hb⟩
          exact ⟨r, rfl, r, rfl, hg.call hSt rfl hb hr⟩
        | 6, _ =>
          obtain rfl := Option.some.inj ho
          exact op_value (v := .pointer (some ⟨W.heap.size, 0, none⟩)) (W' := W.alloc (.cells (ncells 0).toArray 37)) rfl rfl (by simp [go_sem, zcells]) ⟨_, rfl, hg.alloc hSt hF ⟨_, rfl, hg.below.size, BlkK.new W⟩⟩
        | 7, _ =>
          obtain rfl := Option.some.inj ho
          exact op_value (v := .pointer (some ⟨W.heap.size, 0, none⟩)) (W' := W.alloc (.cells (ncells 0).toArray 37)) rfl rfl (by simp [go_sem, zcells]) ⟨_, rfl, hg.alloc hSt hF ⟨_, rfl, hg.below.size, BlkK.new W⟩⟩
        | (j + 8), h => exact absurd h (by omega)
      · intro f W hall hg
        obtain ⟨v0, f0, r0⟩ := hg.get (hall 0 (by decide))
        obtain ⟨v1, f1, r1⟩ := hg.get (hall 1 (by decide))
        obtain ⟨v2, f2, r2⟩ := hg.get (hall 2 (by decide))
        obtain ⟨v3, f3, r3⟩ := hg.get (hall 3 (by decide))
        obtain ⟨v4, f4, r4⟩ := hg.get (hall 4 (by decide))
        obtain ⟨v5, f5, r5⟩ := hg.get (hall 5 (by decide))
        obtain ⟨v6, f6, r6⟩ := hg.get (hall 6 (by decide))
        obtain ⟨v7, f7, r7⟩ := hg.get (hall 7 (by decide))
        have hne6_7 := hg.apart 6 7 _ (by decide) rfl rfl f6
        have hbW := hg.below
        simp only [List.drop_succ_cons, List.drop_zero, List.take_succ_cons, List.take_zero, fr, f0, f1, f2, f3, f4, f5, f6, f7, Act.put, List.setIfInBounds_toArray, List.set_cons_zero, List.set_cons_succ]
        obtain ⟨b9, rfl, hle9, u9, _, _, hb9⟩ := r6
        obtain ⟨b10, rfl, hle10, u10, _, _, hb10⟩ := r7
        have hne : b9 ≠ b10 := fun e => hne6_7 (by rw [e]; exact f7)
        obtain ⟨yC, oC, kC, rfl⟩ := r2
        obtain ⟨yD, oD, kD, rfl⟩ := r5
        refine wpList_store_blk rfl 37 (.tmp 9) (.tmp 35) rfl b9 (ncells yC) rfl rfl (ncells u9) hb9 (by simp only [ncells_length]) (ncells_one _) (infoNUM _) ?_
        intro W3 hW3
        refine wpList_store_blk rfl 37 (.tmp 10) (.tmp 38) rfl b10 (ncells yD) rfl rfl (ncells u10) (hW3.other _ _ _ (Ne.symm hne) hb10) (by simp only [ncells_length]) (ncells_one _) (infoNUM _) ?_
        intro W4 hW4
        have hX4 : Below w.heap.size w W4 := hW4.below _ _ (by omega) (hW3.below _ _ (by omega) (hX2.trans (hbW.mono hX2.size)))
        have c9 : BlkK W4 b9 ((p.1 - p.2) * (q.1 + q.2) + (p.1 + p.2) * (q.1 - q.2)) := ⟨yC, oC, kC, hW4.other _ _ _ hne hW3.blk⟩
        have c10 : BlkK W4 b10 ((p.1 - p.2) * (q.1 + q.2) - (p.1 + p.2) * (q.1 - q.2)) := ⟨yD, oD, kD, hW4.blk⟩
        have c3 := ((d3.below hbW d3.lt).other hW3 (by omega)).other hW4 (by omega)
        have c4 := ((d4.below hbW d4.lt).other hW3 (by omega)).other hW4 (by omega)
        clear hg hall f0 f1 f2 f3 f4 f5 f6 f7 r0 r1 r3 r4 hne6_7
        clear hbW hW3 hW4 hb9 hb10 oC kC oD kD d3 d4 d7 d8 hX2
        clear f W
        go_wp2_with fail
        dsimp only [Act.put]
        have hSt : Stable (aR4 p q x) := by
          intro i v W W' h hb
          unfold aR4 at h ⊢
          split at h <;> first | exact h | (obtain ⟨b, e, hle, hB⟩ := h; exact ⟨b, e, hle, hB.below hb hB.lt⟩)
        refine wp_region_told 9 (by kernel_rfl) (by kernel_rfl) (aR4 p q x) (fun _ => false) ?_ ?_
        · intro f W A hin hout hg i o hi ho hpre
          have hb9 := c9.below hg.below c9.lt
          have hb10 := c10.below hg.below c10.lt
          have hx := c3.below hg.below c3.lt
          match i, hi with
          | 0, _ =>
            obtain rfl := Option.some.inj ho
            have e9 : A.eval (.tmp 9) = .pointer (some ⟨b9, 0, none⟩) := hout 9 (by kernel_rfl)
            obtain ⟨v, hv, hrun⟩ := hb9.load
            exact op_load rfl rfl rfl e9 hrun ⟨_, rfl, hg.value hSt rfl hv⟩
          | 1, _ =>
            obtain rfl := Option.some.inj ho
            have e9 : A.eval (.tmp 9) = .pointer (some ⟨b9, 0, none⟩) := hout 9 (by kernel_rfl)
            obtain ⟨v, hv, hrun⟩ := hb9.load
            exact op_load rfl rfl rfl e9 hrun ⟨_, rfl, hg.value hSt rfl hv⟩
          | 2, _ =>
            obtain rfl := Option.some.inj ho
            obtain ⟨v0, f0, r0⟩ := hg.get (hpre ⟨0, .data⟩ (by simp) rfl)
            have e39 := hin 0 39 v0 f0 (by kernel_rfl) (by simp)
            obtain ⟨v1, f1, r1⟩ := hg.get (hpre ⟨1, .data⟩ (by simp) rfl)
            have e40 := hin 1 40 v1 f1 (by kernel_rfl) (by simp)
            refine op_call (g := 24) (args := #[v0, v1]) rfl rfl (by have ef : ∀ f, A.eval (.func f) = .func (.func f) #[] #[] := fun _ => rfl; generalize A.eval = ev at *; simp [go_sem, e39, e40, ef]) ?_
            refine (timesK r0 r1 W).mono ?_
            rintro e W' ⟨r, rfl, hr, hb⟩
            exact ⟨r, rfl, r, rfl, hg.call hSt rfl hb hr⟩
          | 3, _ =>
            obtain rfl := Option.some.inj ho
            have e5 : A.eval (.tmp 5) = .pointer (some ⟨w.heap.size + 1 + 1, 0, none⟩) := hout 5 (by kernel_rfl)
            obtain ⟨v, hv, hrun⟩ := hx.load
            exact op_load rfl rfl rfl e5 hrun ⟨_, rfl, hg.value hSt rfl hv⟩
          | 4, _ =>
            obtain rfl := Option.some.inj ho
            have e10 : A.eval (.tmp 10) = .pointer (some ⟨b10, 0, none⟩) := hout 10 (by kernel_rfl)
            obtain ⟨v, hv, hrun⟩ := hb10.load
            exact op_load rfl rfl rfl e10 hrun ⟨_, rfl, hg.value hSt rfl hv⟩
          | 5, _ =>
            obtain rfl := Option.some.inj ho
            have e10 : A.eval (.tmp 10) = .pointer (some ⟨b10, 0, none⟩) := hout 10 (by kernel_rfl)
            obtain ⟨v, hv, hrun⟩ := hb10.load
            exact op_load rfl rfl rfl e10 hrun ⟨_, rfl, hg.value hSt rfl hv⟩
          | 6, _ =>
            obtain rfl := Option.some.inj ho
            obtain ⟨v4, f4, r4⟩ := hg.get (hpre ⟨4, .data⟩ (by simp) rfl)
            have e43 := hin 4 43 v4 f4 (by kernel_rfl) (by simp)
            obtain ⟨v5, f5, r5⟩ := hg.get (hpre ⟨5, .data⟩ (by simp) rfl)
            have e44 := hin 5 44 v5 f5 (by kernel_rfl) (by simp)
            refine op_call (g := 24) (args := #[v4, v5]) rfl rfl (by have ef : ∀ f, A.eval (.func f) = .func (.func f) #[] #[] := fun _ => rfl; generalize A.eval = ev at *; simp [go_sem, e43, e44, ef]) ?_
            refine (timesK r4 r5 W).mono ?_
            rintro e W' ⟨r, rfl, hr, hb⟩
            exact ⟨r, rfl, r, rfl, hg.call hSt rfl hb hr⟩
          | 7, _ =>
            obtain rfl := Option.some.inj ho
            obtain ⟨v3, f3, r3⟩ := hg.get (hpre ⟨3, .data⟩ (by simp) rfl)
            have e42 := hin 3 42 v3 f3 (by kernel_rfl) (by simp)
            obtain ⟨v6, f6, r6⟩ := hg.get (hpre ⟨6, .data⟩ (by simp) rfl)
            have e45 := hin 6 45 v6 f6 (by kernel_rfl) (by simp)
            refine op_call (g := 24) (args := #[v3, v6]) rfl rfl (by have ef : ∀ f, A.eval (.func f) = .func (.func f) #[] #[] := fun _ => rfl; generalize A.eval = ev at *; simp [go_sem, e42, e45, ef]) ?_
            refine (timesK r3 r6 W).mono ?_
            rintro e W' ⟨r, rfl, hr, hb⟩
            exact ⟨r, rfl, r, rfl, hg.call hSt rfl hb hr⟩
          | 8, _ =>
            obtain rfl := Option.some.inj ho
            obtain ⟨v2, f2, r2⟩ := hg.get (hpre ⟨2, .data⟩ (by simp) rfl)
            have e41 := hin 2 41 v2 f2 (by kernel_rfl) (by simp)
            obtain ⟨v7, f7, r7⟩ := hg.get (hpre ⟨7, .data⟩ (by simp) rfl)
            have e46 := hin 7 46 v7 f7 (by kernel_rfl) (by simp)
            obtain ⟨y1, o1, k1, rfl⟩ := r2
            obtain ⟨y2, o2, k2, rfl⟩ := r7
            exact op_value (v := Pnt y1 y2) (W' := W) rfl rfl (build_run rfl A.eval y1 y2 e41 e46 W) ⟨_, rfl, hg.value hSt rfl (⟨y1, y2, o1, o2, k1, k2, rfl⟩)⟩
          | (j + 9), h => exact absurd h (by omega)
        · intro f W hall hg
          obtain ⟨v0, f0, r0⟩ := hg.get (hall 0 (by decide))
          obtain ⟨v1, f1, r1⟩ := hg.get (hall 1 (by decide))
          obtain ⟨v2, f2, r2⟩ := hg.get (hall 2 (by decide))
          obtain ⟨v3, f3, r3⟩ := hg.get (hall 3 (by decide))
          obtain ⟨v4, f4, r4⟩ := hg.get (hall 4 (by decide))
          obtain ⟨v5, f5, r5⟩ := hg.get (hall 5 (by decide))
          obtain ⟨v6, f6, r6⟩ := hg.get (hall 6 (by decide))
          obtain ⟨v7, f7, r7⟩ := hg.get (hall 7 (by decide))
          obtain ⟨v8, f8, r8⟩ := hg.get (hall 8 (by decide))
          have hbW := hg.below
          simp only [List.drop_succ_cons, List.drop_zero, List.take_succ_cons, List.take_zero, fr, f0, f1, f2, f3, f4, f5, f6, f7, f8, Act.put, List.setIfInBounds_toArray, List.set_cons_zero, List.set_cons_succ]
          obtain ⟨y1, y2, o1, o2, k1, k2, rfl⟩ := r8
          obtain ⟨z1, z2, _, _, _, _, hP⟩ := c4.below hbW c4.lt
          refine wpList_store_blk rfl 39 (.tmp 6) (.tmp 47) rfl (w.heap.size + 1 + 1 + 1) (pcells y1 y2) rfl rfl (pcells z1 z2) hP (by simp only [pcells_length]) (pcells_one _ _) (infoPNT _ _) ?_
          intro W5 hW5
          go_wp2_with fail
          exact bodyPost_ret (results_blk1 Tryd.results35 _ rfl hW5.blk _ Tryd.underlying39 rfl (infoPNT _ _)) rfl ⟨_, rfl, by rw [← ref_tog]; exact ⟨y1, y2, o1, o2, k1, k2, rfl⟩, hW5.below _ _ (by omega) (hX4.trans (hbW.mono hX4.size))⟩
end Go.Proofs.YtdpokjhoedhadaaDoor.num
