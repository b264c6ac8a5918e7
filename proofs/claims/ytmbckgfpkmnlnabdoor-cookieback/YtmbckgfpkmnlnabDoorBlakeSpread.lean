/-
  THE WALK OF package blake's spread.
-/
import Derived.Test.YtmbckgfpkmnlnabDoorBlakeTab
namespace Go.Proofs.YtmbckgfpkmnlnabDoor.bla
open Go.RowKit
open Go.Proofs.YtmbckgfpkmnlnabDoor.soft
open Go.Proofs.YtmbckgfpkmnlnabDoor.cha (ad ad_lt rl Ws xor_lt)
open Go.Proofs.YtmbckgfpkmnlnabDoor.sha (h0 h0_ok)
open Go.Proofs.YtmbckgfpkmnlnabDoor.ghs (mkl mkl_length mkl_get)

/-- k of each laid. -/
def sp8 (h : List Nat) : Nat → List Nat
  | 0 => z16
  | k + 1 => ((sp8 h k).set k (h.getD k 0)).set (8 + k) (h0.getD k 0)
theorem sp8_length (h : List Nat) : ∀ k, (sp8 h k).length = 16
  | 0 => rfl
  | k + 1 => by rw [sp8, List.length_set, List.length_set, sp8_length h k]
theorem sp8_8 {h : List Nat} (hl : h.length = 8) : sp8 h 8 = h ++ h0 := by
  match h, hl with
  | [_, _, _, _, _, _, _, _], _ => rfl
set_option maxRecDepth 100000 in
set_option maxHeartbeats 3200000 in
theorem spread_any (l : List Nat) (hl : l.length = 8) (ok : Ws l) (c : Nat) (last : Bool) (w : World) (hT : Tab w) :
    Calls Tryd.prog 59 #[.agg (wd l).toArray, .int .u64 c, .bool last] w fun e w' => e = .returned (.agg (wd (spr l c last)).toArray) ∧ Below w.heap.size w w' := by
  obtain ⟨i0, hi, hz0, hz1, hz2⟩ := info_parts infoWIDEz
  obtain ⟨iu, hiu, hiu1⟩ := infoU32'
  have ll : (wd l).length = 8 := by rw [wd_length, hl]
  obtain ⟨Z, hZd⟩ : ∃ Z, Z = wd z16 := ⟨_, rfl⟩
  have HZ : Hid (Z = wd z16) := hZd
  have lZ : Z.length = 16 := by rw [hZd]; rfl
  rw [← hZd] at hz0
  clear hZd
  have HI : Hid (∀ (k : Nat), k < 8 → ∀ W, (Instr.index 65 (.agg (wd l).toArray) (.int .i64 (k : Int))).run Tryd.prog W = .ok (.int .u32 ((l.getD k 0 : Nat) : Int)) W) := fun k hk W => run_index_wd Tryd.underlying65 Tryd.underlying28 hiu hiu1 l k hk (by omega) W
  have gI := hT.ltI
  have HT : Hid (Tab w) := hT
  clear hT
  have h0' : Blk (((w.alloc (.cells (wd l).toArray 65)).alloc (.cells Z.toArray 87)).alloc (.cells Z.toArray 87)) w.heap.size 65 (wd l) := ((Blk.new w 65 (wd l) _ rfl).alloc _).alloc _
  have h1 : Blk (((w.alloc (.cells (wd l).toArray 65)).alloc (.cells Z.toArray 87)).alloc (.cells Z.toArray 87)) (w.heap.size + 1) 87 Z := by
    have h := Blk.new (w.alloc (.cells (wd l).toArray 65)) 87 Z _ rfl
    rw [World.size_alloc] at h
    exact h.alloc _
  have h2 : Blk (((w.alloc (.cells (wd l).toArray 65)).alloc (.cells Z.toArray 87)).alloc (.cells Z.toArray 87)) (w.heap.size + 1 + 1) 87 (wd (sp8 l 0)) := by
    have h := Blk.new ((w.alloc (.cells (wd l).toArray 65)).alloc (.cells Z.toArray 87)) 87 Z _ rfl
    rw [World.size_alloc, World.size_alloc] at h
    rw [show wd (sp8 l 0) = Z from HZ.out.symm]
    exact h
  have hX : Below w.heap.size w (((w.alloc (.cells (wd l).toArray 65)).alloc (.cells Z.toArray 87)).alloc (.cells Z.toArray 87)) := (((Below.refl _ _).alloc (Nat.le_refl _) _).alloc (by simp) _).alloc (by simp; omega) _
  go_enter Tryd.func59, Tryd.ntmps59
  go_wp2_with (first
    | (refine wpList_alloc_blk rfl 87 rfl Z i0 hi _ hz0 rfl ?_)
    | (refine wpList_load_blk rfl 65 (.tmp 3) rfl w.heap.size 0 rfl h0' (wd l) (by simp) _ Tryd.underlying65 rfl (by rw [ll]; exact infoST) ?_))
  go_loopw [11] (fun i wr => ∃ k : Nat, k ≤ 8 ∧ i = .int .i64 k ∧ Blk wr (w.heap.size + 1) 87 Z ∧ Blk wr (w.heap.size + 1 + 1) 87 (wd (sp8 l k)) ∧ Below w.heap.size w wr) (fun i _ => 8 - (intOf i).toNat)
  case atStart => exact ⟨0, by omega, rfl, h1, h2, hX⟩
  case round =>
    clear h0' h1 h2 hX
    obtain ⟨k, hk, rfl, hR, hM, hnx⟩ := hrel
    by_cases hlt : k < 8
    · have d0 : decide ((k : Int) < 8) = true := by simp; omega
      have hi1 := HI.out k hlt
      have lL := sp8_length l k
      have HU : Hid (sp8 l (k + 1) = ((sp8 l k).set k (l.getD k 0)).set (8 + k) (h0.getD k 0)) := rfl
      have cI : wr.cell? ⟨0, k, none⟩ = some (.int .u32 ((h0.getD k 0 : Nat) : Int)) := by
        have := range_keep HT.out.iv hnx gI k _ (wd_get h0 k hlt)
        rwa [Nat.zero_add] at this
      obtain ⟨k8, hk8⟩ : ∃ q, q = 8 + k := ⟨_, rfl⟩
      have s0 : IntKind.i64.wrap (8 + (k : Int)) = (k8 : Int) := by rw [IntWalk.i64_in _ ⟨by omega, by omega⟩]; omega
      have s1 : 8 + (k : Int) = (k8 : Int) := by omega
      have c1 := hM.cell k _ (wd_get _ k (by omega))
      have c2 := hM.cell k8 _ (wd_get _ k8 (by omega))
      have z1 := hM.frozen k
      have z2 := hM.frozen k8
      rw [← hk8] at HU
      have q0 : (0 : Int) ≤ (k : Int) := by omega
      have q1 : (k : Int) < 16 := by omega
      have q2 : (k8 : Int) < 16 := by omega
      have q3 : (0 : Int) ≤ (k8 : Int) := by omega
      have q4 : (k : Int) < 8 := by omega
      have ne1 : ¬ k = k8 := by omega
      have ne2 : ¬ k8 = k := by omega
      have ne3 : ¬ 0 = w.heap.size + 1 + 1 := by omega
      clear hk8
      generalize (sp8 l k).getD k 0 = p at *
      generalize (sp8 l k).getD k8 0 = q at *
      generalize sp8 l k = L at *
      generalize l.getD k 0 = x at *
      generalize h0.getD k 0 = y at *
      go_wp2_with fail
      go_region
      go_wp2_with fail
      go_roundw
      case rel => exact ⟨k + 1, by omega, by go_num, ((hR.other (by simp) _).other (by simp) _).drew, by rw [HU.out, ← wd_set, ← wd_set]; exact ((hM.set k _).set k8 _).drew, ((hnx.setCell (by simp; omega) _).setCell (by simp; omega) _).drew⟩
      case measure => simp [intOf]; omega
    · obtain rfl : k = 8 := by omega
      have d0 : decide (((8 : Nat) : Int) < 8) = false := by decide
      rw [show ((8 : Nat) : Int) = 8 from rfl] at d0 ⊢
      rw [sp8_8 hl] at hM
      have v12 : (wd (l ++ h0))[12]? = some (.int .u32 1359893119) := by
        rw [wd_append, List.getElem?_append_right (by omega), ll]; rfl
      have v13 : (wd (l ++ h0))[13]? = some (.int .u32 2600822924) := by
        rw [wd_append, List.getElem?_append_right (by omega), ll]; rfl
      have v14 : (wd (l ++ h0))[14]? = some (.int .u32 528734635) := by
        rw [wd_append, List.getElem?_append_right (by omega), ll]; rfl
      have c12 := hM.cell 12 _ v12
      have c13 := hM.cell 13 _ v13
      have c14 := hM.cell 14 _ v14
      have z12 := hM.frozen 12
      have z13 := hM.frozen 13
      have z14 := hM.frozen 14
      obtain ⟨a0, e0⟩ : ∃ x, x = c % 4294967296 := ⟨_, rfl⟩
      obtain ⟨a1, e1⟩ : ∃ x, x = c / 4294967296 % 4294967296 := ⟨_, rfl⟩
      obtain ⟨x0, f0⟩ : ∃ x, x = 1359893119 ^^^ a0 := ⟨_, rfl⟩
      obtain ⟨x1, f1⟩ : ∃ x, x = 2600822924 ^^^ a1 := ⟨_, rfl⟩
      have s0 : IntKind.u32.wrap (c : Int) = (a0 : Int) := by rw [b32.wrap32]; omega
      have s1 : IntKind.u32.wrap ((c : Int) / 4294967296) = (a1 : Int) := by rw [b32.wrap32]; omega
      have s2 : bits .xor .u32 1359893119 (a0 : Int) = (x0 : Int) := by rw [f0]; exact b32.xor32 1359893119 a0 (by decide) (by omega)
      have s3 : bits .xor .u32 2600822924 (a1 : Int) = (x1 : Int) := by rw [f1]; exact b32.xor32 2600822924 a1 (by decide) (by omega)
      have s4 : bits .xor .u32 IntKind.u32.max 528734635 = 3766232660 := by decide
      cases last with
      | false =>
        have HE : Hid (((wd (l ++ h0)).set 12 (.int .u32 (x0 : Nat))).set 13 (.int .u32 (x1 : Nat)) = wd (spr l c false)) := by
          show _ = _
          rw [f0, f1, e0, e1, wd_set, wd_set]
          match l, hl with
          | [_, _, _, _, _, _, _, _], _ => rfl
        have hM2 : Blk ((wr.setCell ⟨w.heap.size + 1 + 1, 12, none⟩ (.int .u32 (x0 : Nat))).setCell ⟨w.heap.size + 1 + 1, 13, none⟩ (.int .u32 (x1 : Nat))) (w.heap.size + 1 + 1) 87 (wd (spr l c false)) := by rw [← HE.out]; exact (hM.set 12 _).set 13 _
        have hR2 : Blk ((wr.setCell ⟨w.heap.size + 1 + 1, 12, none⟩ (.int .u32 (x0 : Nat))).setCell ⟨w.heap.size + 1 + 1, 13, none⟩ (.int .u32 (x1 : Nat))) (w.heap.size + 1) 87 Z := (hR.other (by simp) _).other (by simp) _
        have hX2 := (hnx.setCell (p := ⟨w.heap.size + 1 + 1, 12, none⟩) (by show w.heap.size ≤ w.heap.size + 1 + 1; omega) (.int .u32 (x0 : Nat))).setCell (p := ⟨w.heap.size + 1 + 1, 13, none⟩) (by show w.heap.size ≤ w.heap.size + 1 + 1; omega) (.int .u32 (x1 : Nat))
        have lE : (wd (spr l c false)).length = 16 := by rw [wd_length, spr_length hl]
        have oE := wd_one (spr l c false)
        obtain ⟨E, HEd⟩ : ∃ E, Hid (E = wd (spr l c false)) := ⟨_, rfl⟩
        rw [← HEd.out] at hM2 lE oE
        clear f0 f1 e0 e1 HE
        go_wp2_with (first
          | (refine wpList_load_blk rfl 87 (.tmp 7) rfl (w.heap.size + 1 + 1) 0 rfl hM2 E (by simp) _ Tryd.underlying87 rfl (by rw [lE]; exact infoWIDE) ?_)
          | (refine wpList_store_blk rfl 87 (.tmp 6) (.tmp 43) rfl (w.heap.size + 1) E rfl rfl Z hR2 (by rw [lE, lZ]) oE (by rw [lZ]; exact infoWIDE) ?_; intro W5 hW5))
        exact bodyPost_ret (results_blk1 Tryd.results59 _ rfl hW5.blk _ Tryd.underlying87 rfl (by rw [lE]; exact infoWIDE)) rfl ⟨by rw [HEd.out], hW5.below _ _ (by omega) hX2⟩
      | true =>
        have HE : Hid ((((wd (l ++ h0)).set 12 (.int .u32 (x0 : Nat))).set 13 (.int .u32 (x1 : Nat))).set 14 (.int .u32 3766232660) = wd (spr l c true)) := by
          show _ = _
          rw [f0, f1, e0, e1, wd_set, wd_set, show (3766232660 : Int) = ((3766232660 : Nat) : Int) from rfl, wd_set]
          match l, hl with
          | [_, _, _, _, _, _, _, _], _ => rfl
        have hM2 : Blk (((wr.setCell ⟨w.heap.size + 1 + 1, 12, none⟩ (.int .u32 (x0 : Nat))).setCell ⟨w.heap.size + 1 + 1, 13, none⟩ (.int .u32 (x1 : Nat))).setCell ⟨w.heap.size + 1 + 1, 14, none⟩ (.int .u32 3766232660)) (w.heap.size + 1 + 1) 87 (wd (spr l c true)) := by rw [← HE.out]; exact ((hM.set 12 _).set 13 _).set 14 _
        have hR2 : Blk (((wr.setCell ⟨w.heap.size + 1 + 1, 12, none⟩ (.int .u32 (x0 : Nat))).setCell ⟨w.heap.size + 1 + 1, 13, none⟩ (.int .u32 (x1 : Nat))).setCell ⟨w.heap.size + 1 + 1, 14, none⟩ (.int .u32 3766232660)) (w.heap.size + 1) 87 Z := ((hR.other (by simp) _).other (by simp) _).other (by simp) _
        have hX2 := ((hnx.setCell (p := ⟨w.heap.size + 1 + 1, 12, none⟩) (by show w.heap.size ≤ w.heap.size + 1 + 1; omega) (.int .u32 (x0 : Nat))).setCell (p := ⟨w.heap.size + 1 + 1, 13, none⟩) (by show w.heap.size ≤ w.heap.size + 1 + 1; omega) (.int .u32 (x1 : Nat))).setCell (p := ⟨w.heap.size + 1 + 1, 14, none⟩) (by show w.heap.size ≤ w.heap.size + 1 + 1; omega) (.int .u32 3766232660)
        have lE : (wd (spr l c true)).length = 16 := by rw [wd_length, spr_length hl]
        have oE := wd_one (spr l c true)
        obtain ⟨E, HEd⟩ : ∃ E, Hid (E = wd (spr l c true)) := ⟨_, rfl⟩
        rw [← HEd.out] at hM2 lE oE
        clear f0 f1 e0 e1 HE
        go_wp2_with (first
          | (refine wpList_load_blk rfl 87 (.tmp 7) rfl (w.heap.size + 1 + 1) 0 rfl hM2 E (by simp) _ Tryd.underlying87 rfl (by rw [lE]; exact infoWIDE) ?_)
          | (refine wpList_store_blk rfl 87 (.tmp 6) (.tmp 43) rfl (w.heap.size + 1) E rfl rfl Z hR2 (by rw [lE, lZ]) oE (by rw [lZ]; exact infoWIDE) ?_; intro W5 hW5))
        exact bodyPost_ret (results_blk1 Tryd.results59 _ rfl hW5.blk _ Tryd.underlying87 rfl (by rw [lE]; exact infoWIDE)) rfl ⟨by rw [HEd.out], hW5.below _ _ (by omega) hX2⟩
end Go.Proofs.YtmbckgfpkmnlnabDoor.bla
