/-
  THE WALK OF package blake's numbers.
-/
import Derived.Test.YtmbckgfpkmnlnabDoorBlakeTab
namespace Go.Proofs.YtmbckgfpkmnlnabDoor.bla
open Go.RowKit
open Go.Proofs.YtmbckgfpkmnlnabDoor.soft
open Go.Proofs.YtmbckgfpkmnlnabDoor.cha (ad ad_lt rl Ws xor_lt)
open Go.Proofs.YtmbckgfpkmnlnabDoor.ghs (mkl mkl_length mkl_get)
open Go.Proofs.YtmbckgfpkmnlnabDoor.b32

theorem nms_get (f : Nat → Nat) : ∀ (k j : Nat), k ≤ 4 * j → (nms f k).getD j 0 = 0
  | 0, j, _ => by
    show (List.replicate 16 0).getD j 0 = 0
    rw [List.getD_eq_getElem?_getD, List.getElem?_replicate]
    split <;> rfl
  | k + 1, j, h => by
    rw [nms, List.getD_eq_getElem?_getD, List.getElem?_set_ne (by omega), ← List.getD_eq_getElem?_getD]
    exact nms_get f k j (by omega)
set_option maxRecDepth 100000 in
set_option maxHeartbeats 3200000 in
theorem numbers_any (b : List Nat) (hb : b.length = 64) (ok : ∀ j, b.getD j 0 < 256) (w : World) :
    Calls Tryd.prog 61 #[.agg (by8 b).toArray] w fun e w' => e = .returned (.agg (wd (nms (fun j => b.getD j 0) 64)).toArray) ∧ Below w.heap.size w w' := by
  obtain ⟨i0, hi, hz0, hz1, hz2⟩ := info_parts infoM16z
  obtain ⟨iu, hiu, hiu1⟩ := infoU8'
  have lB : (by8 b).length = 64 := by rw [by8_length, hb]
  obtain ⟨Z, hZd⟩ : ∃ Z, Z = wd z16 := ⟨_, rfl⟩
  have HZ : Hid (Z = wd z16) := hZd
  have lZ : Z.length = 16 := by rw [hZd]; rfl
  rw [← hZd] at hz0
  clear hZd
  have HI : Hid (∀ (k : Nat), k < 64 → ∀ W, (Instr.index 75 (.agg (by8 b).toArray) (.int .i64 (k : Int))).run Tryd.prog W = .ok (.int .u8 ((b.getD k 0 : Nat) : Int)) W) := fun k hk W => run_index_by8 Tryd.underlying75 Tryd.underlying5 hiu hiu1 b k hk (by omega) W
  obtain ⟨f, hf⟩ : ∃ f : Nat → Nat, Hid (f = fun j => b.getD j 0) := ⟨_, rfl⟩
  have okf : ∀ j, f j < 256 := fun j => by rw [hf.out]; exact ok j
  rw [← hf.out]
  have h0 : Blk (((w.alloc (.cells (by8 b).toArray 75)).alloc (.cells Z.toArray 79)).alloc (.cells Z.toArray 79)) w.heap.size 75 (by8 b) := ((Blk.new w 75 (by8 b) _ rfl).alloc _).alloc _
  have h1 : Blk (((w.alloc (.cells (by8 b).toArray 75)).alloc (.cells Z.toArray 79)).alloc (.cells Z.toArray 79)) (w.heap.size + 1) 79 Z := by
    have h := Blk.new (w.alloc (.cells (by8 b).toArray 75)) 79 Z _ rfl
    rw [World.size_alloc] at h
    exact h.alloc _
  have h2 : Blk (((w.alloc (.cells (by8 b).toArray 75)).alloc (.cells Z.toArray 79)).alloc (.cells Z.toArray 79)) (w.heap.size + 1 + 1) 79 (wd (nms f 0)) := by
    have h := Blk.new ((w.alloc (.cells (by8 b).toArray 75)).alloc (.cells Z.toArray 79)) 79 Z _ rfl
    rw [World.size_alloc, World.size_alloc] at h
    rw [show wd (nms f 0) = Z from HZ.out.symm]
    exact h
  have hX : Below w.heap.size w (((w.alloc (.cells (by8 b).toArray 75)).alloc (.cells Z.toArray 79)).alloc (.cells Z.toArray 79)) := (((Below.refl _ _).alloc (Nat.le_refl _) _).alloc (by simp) _).alloc (by simp; omega) _
  go_enter Tryd.func61, Tryd.ntmps61
  go_wp2_with (first
    | (refine wpList_alloc_blk rfl 79 rfl Z i0 hi _ hz0 rfl ?_)
    | (refine wpList_load_blk rfl 75 (.tmp 1) rfl w.heap.size 0 rfl h0 (by8 b) (by simp) _ Tryd.underlying75 rfl (by rw [lB]; exact infoBL) ?_))
  go_loopw [7] (fun i wr => ∃ k : Nat, k ≤ 64 ∧ i = .int .i64 k ∧ Blk wr (w.heap.size + 1) 79 Z ∧ Blk wr (w.heap.size + 1 + 1) 79 (wd (nms f k)) ∧ Below w.heap.size w wr) (fun i _ => 64 - (intOf i).toNat)
  case atStart => exact ⟨0, by omega, rfl, h1, h2, hX⟩
  case round =>
    clear h0 h1 h2 hX
    obtain ⟨k, hk, rfl, hR, hM, hnx⟩ := hrel
    by_cases hlt : k < 64
    · have d0 : decide ((k : Int) < 64) = true := by simp; omega
      have hi1 := HI.out k hlt
      rw [show b.getD k 0 = f k from by rw [hf.out]] at hi1
      have lL := nms_length f k
      have okL := nms_ok okf k
      have lx := okf k
      obtain ⟨kq, hkq⟩ : ∃ q, q = k / 4 := ⟨_, rfl⟩
      obtain ⟨kr, hkr⟩ : ∃ q, q = k % 4 := ⟨_, rfl⟩
      have HU : Hid (nms f (k + 1) = (nms f k).set kq ((nms f k).getD kq 0 ||| f k * 2 ^ (8 * kr))) := by show _ = _; rw [hkq, hkr]; rfl
      have ls : f k * 2 ^ (8 * kr) < 4294967296 := by rw [hkr]; exact sh_lt lx
      have lo := okL.get kq
      have q16 : kq < 16 := by omega
      have c1 := hM.cell kq _ (wd_get _ kq (by omega))
      have z1 := hM.frozen kq
      obtain ⟨y, hy⟩ : ∃ y, y = f k * 2 ^ (8 * kr) := ⟨_, rfl⟩
      have s0 : (k : Int) / 4 = (kq : Int) := by omega
      have s1 : (k : Int) % 4 = (kr : Int) := by omega
      have s0' : Int.tdiv (k : Int) 4 = (kq : Int) := by rw [Int.tdiv_eq_ediv_of_nonneg (by omega)]; exact s0
      have s1' : Int.tmod (k : Int) 4 = (kr : Int) := by rw [Int.tmod_eq_emod_of_nonneg (by omega)]; exact s1
      have s2 : IntKind.i64.wrap (8 * (kr : Int)) = 8 * (kr : Int) := IntWalk.i64_in _ ⟨by omega, by omega⟩
      have s3 : IntKind.u32.wrap ((f k : Int) * 2 ^ (8 * kr)) = (y : Int) := by
        have e : (f k : Int) * 2 ^ (8 * kr) = ((f k * 2 ^ (8 * kr) : Nat) : Int) := by simp
        rw [e, ← hy, b32.wrap32]
        omega
      have s3' : (f k : Int) * 2 ^ (8 * kr) % 4294967296 = (y : Int) := by rw [← b32.wrap32]; exact s3
      have s4 := or32 ((nms f k).getD kq 0) y lo (by omega)
      rw [← hy] at HU
      obtain ⟨o, ho⟩ : ∃ o, o = (nms f k).getD kq 0 ||| y := ⟨_, rfl⟩
      rw [← ho] at s4 HU
      have q0 : (0 : Int) ≤ (kq : Int) := by omega
      have q1 : (kq : Int) < 16 := by omega
      have r0 : (0 : Int) ≤ 8 * (kr : Int) := by omega
      have r1 : ¬ 8 * (kr : Int) < 0 := by omega
      have kl : kr < 4 := by omega
      clear hy ho ls lo okL okf hkq hkr s0 s1
      generalize (nms f k).getD kq 0 = p at *
      generalize f k = x at *
      generalize nms f k = L at *
      go_wp2_with fail
      go_region
      go_wp2_with fail
      go_roundw
      case rel => exact ⟨k + 1, by omega, by go_num, (hR.other (by simp) _).drew, by rw [HU.out, ← wd_set]; exact (hM.set kq _).drew, ((hnx.setCell (by simp; omega) _)).drew⟩
      case measure => simp [intOf]; omega
    · obtain rfl : k = 64 := by omega
      have d0 : decide (((64 : Nat) : Int) < 64) = false := by decide
      rw [show ((64 : Nat) : Int) = 64 from rfl] at d0 ⊢
      have lE : (wd (nms f 64)).length = 16 := by rw [wd_length, nms_length]
      have oE := wd_one (nms f 64)
      obtain ⟨E, HE⟩ : ∃ E, Hid (E = wd (nms f 64)) := ⟨_, rfl⟩
      rw [← HE.out] at hM lE oE
      go_wp2_with (first
        | (refine wpList_load_blk rfl 79 (.tmp 3) rfl (w.heap.size + 1 + 1) 0 rfl hM E (by simp) _ Tryd.underlying79 rfl (by rw [lE]; exact infoM16) ?_)
        | (refine wpList_store_blk rfl 79 (.tmp 2) (.tmp 24) rfl (w.heap.size + 1) E rfl rfl Z hR (by rw [lE, lZ]) oE (by rw [lZ]; exact infoM16) ?_; intro W5 hW5))
      exact bodyPost_ret (results_blk1 Tryd.results61 _ rfl hW5.blk _ Tryd.underlying79 rfl (by rw [lE]; exact infoM16)) rfl ⟨by rw [HE.out], hW5.below _ _ (by omega) hnx⟩
end Go.Proofs.YtmbckgfpkmnlnabDoor.bla
