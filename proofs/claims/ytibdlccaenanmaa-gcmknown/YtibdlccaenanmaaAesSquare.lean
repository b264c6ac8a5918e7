/-
  THE WALKS OF package aes's squares: xored, read, moved; of a column: stirred.
-/
import Derived.Test.YtibdlccaenanmaaAesWord
import Derived.BigRegion
namespace Go.Proofs.Ytibdlccaenanmaa.aes
open Go.RowKit
open Go.Proofs.Ytibdlccaenanmaa.gal

theorem infoSQ : (Try.prog.info? 71).map (·.size) = some 16 := by kernel_rfl
theorem idx16 (l : List Nat) (hl : l.length = 16) (k : Nat) (hk : k < 16) (w : World) : (Instr.index 71 (.agg (by8 l).toArray) (.int .i64 (k : Int))).run Try.prog w = .ok (.int .u8 ((l.getD k 0 : Nat) : Int)) w := by
  obtain ⟨j0, hj, _, hj1, _⟩ := info_parts infoU8
  exact run_index_by8 Try.underlying71 Try.underlying5 hj hj1 l k hk (by omega) w
def zero16 : List Nat := [0, 0, 0, 0, 0, 0, 0, 0, 0, 0, 0, 0, 0, 0, 0, 0]

set_option maxRecDepth 100000 in
set_option maxHeartbeats 800000 in
theorem xored_any (a b : List Nat) (ha : a.length = 16) (hb : b.length = 16) (oa : Ok a) (ob : Ok b) (w : World) :
    Calls Try.prog 68 #[.agg (by8 a).toArray, .agg (by8 b).toArray] w fun e w' => e = .returned (.agg (by8 (xorN 16 a b)).toArray) ∧ Below w.heap.size w w' := by
  have hA : Blk (((w.alloc (.cells (by8 a).toArray 71)).alloc (.cells (by8 b).toArray 71)).alloc (.cells (by8 zero16).toArray 71)) w.heap.size 71 (by8 a) := ((Blk.new w 71 (by8 a) _ rfl).alloc _).alloc _
  have hB : Blk (((w.alloc (.cells (by8 a).toArray 71)).alloc (.cells (by8 b).toArray 71)).alloc (.cells (by8 zero16).toArray 71)) (w.heap.size + 1) 71 (by8 b) := by
    have h := Blk.new (w.alloc (.cells (by8 a).toArray 71)) 71 (by8 b) _ rfl
    rw [World.size_alloc] at h
    exact h.alloc _
  have hZ : Blk (((w.alloc (.cells (by8 a).toArray 71)).alloc (.cells (by8 b).toArray 71)).alloc (.cells (by8 zero16).toArray 71)) (w.heap.size + 1 + 1) 71 (by8 zero16) := by
    have h := Blk.new ((w.alloc (.cells (by8 a).toArray 71)).alloc (.cells (by8 b).toArray 71)) 71 (by8 zero16) _ rfl
    rw [World.size_alloc, World.size_alloc] at h
    exact h
  have hX : Below w.heap.size w (((w.alloc (.cells (by8 a).toArray 71)).alloc (.cells (by8 b).toArray 71)).alloc (.cells (by8 zero16).toArray 71)) := (((Below.refl _ _).alloc (Nat.le_refl _) _).alloc (by simp) _).alloc (by simp; omega) _
  go_enter Try.func68, Try.ntmps68
  go_wp2_with (refine wpList_load_blk rfl 71 (.tmp 3) rfl (w.heap.size + 1) 0 rfl hB (by8 b) (by simp) _ Try.underlying71 rfl (by rw [by8_length, hb]; exact infoSQ) ?_)
  go_loopw [8] (fun i wr => ∃ k : Nat, k ≤ 16 ∧ i = .int .i64 k ∧ Blk wr w.heap.size 71 (by8 (upto a (fun j => a.getD j 0 ^^^ b.getD j 0) k)) ∧ Blk wr (w.heap.size + 1 + 1) 71 (by8 zero16) ∧ Below w.heap.size w wr) (fun i _ => 16 - (intOf i).toNat)
  case atStart => exact ⟨0, by omega, rfl, hA, hZ, hX⟩
  case round =>
    clear hA hB hZ hX
    obtain ⟨k, hk, rfl, hA, hZ, hnx⟩ := hrel
    by_cases hlt : k < 16
    · have hix := idx16 b hb k hlt
      have hc := hA.cell k _ (by8_get _ k (by rw [upto_length]; omega))
      rw [upto_get _ _ _ _ (by omega), if_neg (by omega)] at hc
      have hf := hA.frozen k
      have hx := xor8 _ _ (oa.get k) (ob.get k)
      have HU : Hid (upto a (fun j => a.getD j 0 ^^^ b.getD j 0) (k + 1) = (upto a (fun j => a.getD j 0 ^^^ b.getD j 0) k).set k (a.getD k 0 ^^^ b.getD k 0)) := rfl
      generalize upto a (fun j => a.getD j 0 ^^^ b.getD j 0) k = L at *
      generalize a.getD k 0 ^^^ b.getD k 0 = s at *
      generalize a.getD k 0 = x at *
      generalize b.getD k 0 = y at *
      have kz : (k : Int) < 16 := by omega
      have k0 : (0 : Int) ≤ (k : Int) := by omega
      go_wp2_with fail
      go_roundw
      case rel => exact ⟨k + 1, by omega, by go_num, by rw [HU.out, ← by8_set]; exact hA.set k _, hZ.other (by simp; omega) _, hnx.setCell (by simp) _⟩
      case measure => simp [intOf]; omega
    · obtain rfl : k = 16 := by omega
      have hD : upto a (fun j => a.getD j 0 ^^^ b.getD j 0) 16 = xorN 16 a b := upto_all _ _ _ ha
      rw [hD] at hA
      have hd : (by8 (xorN 16 a b)).length = 16 := by rw [by8_length]; exact mk_length _ _
      clear hD
      obtain ⟨D, HD⟩ : ∃ D, Hid (D = xorN 16 a b) := ⟨_, rfl⟩
      rw [← HD.out] at hA hd
      go_wp2_with (first | (refine wpList_load_blk rfl 71 (.tmp 2) rfl w.heap.size 0 rfl hA (by8 D) (by simp) _ Try.underlying71 rfl (by rw [hd]; exact infoSQ) ?_) | (refine wpList_store_blk rfl 71 (.tmp 4) (.tmp 19) rfl (w.heap.size + 1 + 1) (by8 D) rfl rfl (by8 zero16) hZ (by rw [hd]; rfl) (by8_one _) infoSQ ?_; intro W hW))
      exact bodyPost_ret (results_blk1 Try.results68 _ rfl hW.blk _ Try.underlying71 rfl (by rw [hd]; exact infoSQ)) rfl ⟨by rw [HD.out], hW.below _ _ (by omega) hnx⟩

/-- A table of bytes, from place o of block g on. -/
def Tbl (w : World) (g o : Nat) (f : Nat → Nat) : Prop := g < w.heap.size ∧ ∀ x, x < 256 → w.cell? ⟨g, o + x, none⟩ = some (.int .u8 ((f x : Nat) : Int))
theorem Tbl.below {w w' : World} {B g o : Nat} {f : Nat → Nat} (h : Tbl w g o f) (hb : Below B w w') (hg : g < B) : Tbl w' g o f := ⟨Nat.lt_of_lt_of_le h.1 hb.size, fun x hx => (hb.cell (p := ⟨g, o + x, none⟩) hg).trans (h.2 x hx)⟩

set_option maxRecDepth 100000 in
set_option maxHeartbeats 800000 in
theorem read_any (a : List Nat) (ha : a.length = 16) (oa : Ok a) (f : Nat → Nat) (g o : Nat) (w : World) (hT : Tbl w g o f) :
    Calls Try.prog 70 #[.agg (by8 a).toArray, .pointer (some ⟨g, o, none⟩)] w fun e w' => e = .returned (.agg (by8 (mk 16 fun k => f (a.getD k 0))).toArray) ∧ Below w.heap.size w w' := by
  have hA : Blk ((w.alloc (.cells (by8 a).toArray 71)).alloc (.cells (by8 zero16).toArray 71)) w.heap.size 71 (by8 a) := (Blk.new w 71 (by8 a) _ rfl).alloc _
  have hZ : Blk ((w.alloc (.cells (by8 a).toArray 71)).alloc (.cells (by8 zero16).toArray 71)) (w.heap.size + 1) 71 (by8 zero16) := by
    have h := Blk.new (w.alloc (.cells (by8 a).toArray 71)) 71 (by8 zero16) _ rfl
    rw [World.size_alloc] at h
    exact h
  have hX : Below w.heap.size w ((w.alloc (.cells (by8 a).toArray 71)).alloc (.cells (by8 zero16).toArray 71)) := ((Below.refl _ _).alloc (Nat.le_refl _) _).alloc (by simp) _
  have HT : Hid (Tbl w g o f) := hT
  clear hT
  go_enter Try.func70, Try.ntmps70
  go_wp2_with (refine wpList_load_blk rfl 71 (.tmp 2) rfl w.heap.size 0 rfl hA (by8 a) (by simp) _ Try.underlying71 rfl (by rw [by8_length, ha]; exact infoSQ) ?_)
  go_loopw [8] (fun i wr => ∃ k : Nat, k ≤ 16 ∧ i = .int .i64 k ∧ Blk wr w.heap.size 71 (by8 (upto a (fun j => f (a.getD j 0)) k)) ∧ Blk wr (w.heap.size + 1) 71 (by8 zero16) ∧ Below w.heap.size w wr) (fun i _ => 16 - (intOf i).toNat)
  case atStart => exact ⟨0, by omega, rfl, hA, hZ, hX⟩
  case round =>
    clear hA hZ hX
    obtain ⟨k, hk, rfl, hA, hZ, hnx⟩ := hrel
    by_cases hlt : k < 16
    · have hix := idx16 a ha k hlt
      have hc := hA.cell k _ (by8_get _ k (by rw [upto_length]; omega))
      have hf := hA.frozen k
      have hx := oa.get k
      have ht := (HT.out.below hnx HT.out.1).2 _ hx
      have HU : Hid (upto a (fun j => f (a.getD j 0)) (k + 1) = (upto a (fun j => f (a.getD j 0)) k).set k (f (a.getD k 0))) := rfl
      generalize upto a (fun j => f (a.getD j 0)) k = L at *
      generalize a.getD k 0 = x at *
      generalize f x = s at *
      have kz : (k : Int) < 16 := by omega
      have k0 : (0 : Int) ≤ (k : Int) := by omega
      have xz : (x : Int) < 256 := by omega
      have x0 : (0 : Int) ≤ (x : Int) := by omega
      go_wp2_with fail
      go_roundw
      case rel => exact ⟨k + 1, by omega, by go_num, by rw [HU.out, ← by8_set]; exact hA.set k _, hZ.other (by simp) _, hnx.setCell (by simp) _⟩
      case measure => simp [intOf]; omega
    · obtain rfl : k = 16 := by omega
      have hD : upto a (fun j => f (a.getD j 0)) 16 = mk 16 (fun k => f (a.getD k 0)) := upto_all _ _ _ ha
      rw [hD] at hA
      have hd : (by8 (mk 16 fun k => f (a.getD k 0))).length = 16 := by rw [by8_length]; exact mk_length _ _
      clear hD
      obtain ⟨D, HD⟩ : ∃ D, Hid (D = mk 16 fun k => f (a.getD k 0)) := ⟨_, rfl⟩
      rw [← HD.out] at hA hd
      go_wp2_with (first | (refine wpList_load_blk rfl 71 (.tmp 2) rfl w.heap.size 0 rfl hA (by8 D) (by simp) _ Try.underlying71 rfl (by rw [hd]; exact infoSQ) ?_) | (refine wpList_store_blk rfl 71 (.tmp 4) (.tmp 20) rfl (w.heap.size + 1) (by8 D) rfl rfl (by8 zero16) hZ (by rw [hd]; rfl) (by8_one _) infoSQ ?_; intro W hW))
      exact bodyPost_ret (results_blk1 Try.results70 _ rfl hW.blk _ Try.underlying71 rfl (by rw [hd]; exact infoSQ)) rfl ⟨by rw [HD.out], hW.below _ _ (by omega) hnx⟩

set_option maxRecDepth 100000 in
set_option maxHeartbeats 800000 in
theorem moved_any (a : List Nat) (ha : a.length = 16) (t : Nat) (ht : t ≤ 3) (w : World) :
    Calls Try.prog 71 #[.agg (by8 a).toArray, .int .i64 t] w fun e w' => e = .returned (.agg (by8 (movN t a)).toArray) ∧ Below w.heap.size w w' := by
  have hA : Blk (((w.alloc (.cells (by8 a).toArray 71)).alloc (.cells (by8 zero16).toArray 71)).alloc (.cells (by8 zero16).toArray 71)) w.heap.size 71 (by8 a) := ((Blk.new w 71 (by8 a) _ rfl).alloc _).alloc _
  have hZ : Blk (((w.alloc (.cells (by8 a).toArray 71)).alloc (.cells (by8 zero16).toArray 71)).alloc (.cells (by8 zero16).toArray 71)) (w.heap.size + 1) 71 (by8 zero16) := by
    have h := Blk.new (w.alloc (.cells (by8 a).toArray 71)) 71 (by8 zero16) _ rfl
    rw [World.size_alloc] at h
    exact h.alloc _
  have hO : Blk (((w.alloc (.cells (by8 a).toArray 71)).alloc (.cells (by8 zero16).toArray 71)).alloc (.cells (by8 zero16).toArray 71)) (w.heap.size + 1 + 1) 71 (by8 zero16) := by
    have h := Blk.new ((w.alloc (.cells (by8 a).toArray 71)).alloc (.cells (by8 zero16).toArray 71)) 71 (by8 zero16) _ rfl
    rw [World.size_alloc, World.size_alloc] at h
    exact h
  have hX : Below w.heap.size w (((w.alloc (.cells (by8 a).toArray 71)).alloc (.cells (by8 zero16).toArray 71)).alloc (.cells (by8 zero16).toArray 71)) := (((Below.refl _ _).alloc (Nat.le_refl _) _).alloc (by simp) _).alloc (by simp; omega) _
  go_enter Try.func71, Try.ntmps71
  go_wp2_with fail
  go_loopw [7] (fun i wr => ∃ k : Nat, k ≤ 16 ∧ i = .int .i64 k ∧ Blk wr w.heap.size 71 (by8 a) ∧ Blk wr (w.heap.size + 1) 71 (by8 zero16) ∧ Blk wr (w.heap.size + 1 + 1) 71 (by8 (upto zero16 (fun i => a.getD ((i + 4 * t * (i % 4)) % 16) 0) k)) ∧ Below w.heap.size w wr) (fun i _ => 16 - (intOf i).toNat)
  case atStart => exact ⟨0, by omega, rfl, hA, hZ, hO, hX⟩
  case round =>
    clear hA hZ hX hO
    obtain ⟨k, hk, rfl, hA, hZ, hO, hnx⟩ := hrel
    by_cases hlt : k < 16
    · obtain ⟨r, hr⟩ : ∃ r, r = (k + 4 * t * (k % 4)) % 16 := ⟨_, rfl⟩
      have r1 : r < 16 := by omega
      have e1 : (k : Int).tmod 4 = ((k % 4 : Nat) : Int) := by rw [Int.tmod_eq_emod_of_nonneg (by omega)]; omega
      have hk4 : k % 4 < 4 := by omega
      have HU : Hid (upto zero16 (fun i => a.getD ((i + 4 * t * (i % 4)) % 16) 0) (k + 1) = (upto zero16 (fun i => a.getD ((i + 4 * t * (i % 4)) % 16) 0) k).set k (a.getD r 0)) := by rw [hr]; rfl
      generalize k % 4 = m at *
      obtain ⟨p, hp⟩ : ∃ p, p = 4 * t * m := ⟨_, rfl⟩
      have hpb : p ≤ 36 := by rw [hp]; exact Nat.le_trans (Nat.mul_le_mul (Nat.mul_le_mul_left 4 ht) (by omega : m ≤ 3)) (by decide)
      have e2 : 4 * (t : Int) * (m : Int) = (p : Int) := by rw [hp]; simp
      have e3 : ((k : Int) + (p : Int)).tmod 16 = (r : Int) := by rw [Int.tmod_eq_emod_of_nonneg (by omega), hr, ← hp]; omega
      rw [← hp] at hr
      have HR : Hid (r = (k + p) % 16) := hr
      clear hr hp
      have hc := hA.cell r _ (by8_get _ r (by omega))
      have hco := hO.cell k _ (by8_get _ k (by rw [upto_length]; exact hlt))
      have hf := hO.frozen k
      generalize upto zero16 (fun i => a.getD ((i + 4 * t * (i % 4)) % 16) 0) k = L at *
      generalize a.getD r 0 = x at *
      have kz : (k : Int) < 16 := by omega
      have k0 : (0 : Int) ≤ (k : Int) := by omega
      have rz : (r : Int) < 16 := by omega
      have r0 : (0 : Int) ≤ (r : Int) := by omega
      go_wp2_with fail
      go_roundw
      case rel => exact ⟨k + 1, by omega, by go_num, hA.other (by simp; omega) _, hZ.other (by simp) _, by rw [HU.out, ← by8_set]; exact hO.set k _, hnx.setCell (by simp; omega) _⟩
      case measure => simp [intOf]; omega
    · obtain rfl : k = 16 := by omega
      have hD : upto zero16 (fun i => a.getD ((i + 4 * t * (i % 4)) % 16) 0) 16 = movN t a := upto_all _ _ _ rfl
      rw [hD] at hO
      have hd : (by8 (movN t a)).length = 16 := by rw [by8_length]; exact mk_length _ _
      clear hD
      obtain ⟨D, HD⟩ : ∃ D, Hid (D = movN t a) := ⟨_, rfl⟩
      rw [← HD.out] at hO hd
      go_wp2_with (first | (refine wpList_load_blk rfl 71 (.tmp 5) rfl (w.heap.size + 1 + 1) 0 rfl hO (by8 D) (by simp) _ Try.underlying71 rfl (by rw [hd]; exact infoSQ) ?_) | (refine wpList_store_blk rfl 71 (.tmp 4) (.tmp 23) rfl (w.heap.size + 1) (by8 D) rfl rfl (by8 zero16) hZ (by rw [hd]; rfl) (by8_one _) infoSQ ?_; intro W hW))
      exact bodyPost_ret (results_blk1 Try.results71 _ rfl hW.blk _ Try.underlying71 rfl (by rw [hd]; exact infoSQ)) rfl ⟨by rw [HD.out], hW.below _ _ (by omega) hnx⟩
end Go.Proofs.Ytibdlccaenanmaa.aes
