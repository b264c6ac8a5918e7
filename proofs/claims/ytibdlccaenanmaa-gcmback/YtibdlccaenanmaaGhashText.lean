/-
  THE WALK OF package ghash's text.
-/
import Derived.Test.YtibdlccaenanmaaGhashRead
namespace Go.Proofs.Ytibdlccaenanmaa.ghs
open Go.RowKit

/-- The bytes, 2 k of them told. -/
def out (a : Nat) : Nat → List Nat
  | 0 => [0, 0, 0, 0, 0, 0, 0, 0, 0, 0, 0, 0, 0, 0, 0, 0]
  | k + 1 => ((out a k).set k (byt a k)).set (8 + k) (byt a (8 + k))
theorem out_length (a : Nat) : ∀ k, (out a k).length = 16
  | 0 => rfl
  | k + 1 => by show (((out a k).set k _).set _ _).length = 16; rw [List.length_set, List.length_set, out_length a k]
theorem out_get (a : Nat) : ∀ k, k ≤ 8 → ∀ j, j < 16 → (j < k ∨ (8 ≤ j ∧ j < 8 + k)) → (out a k).getD j 0 = byt a j
  | 0, _, j, _, h => by omega
  | k + 1, hk, j, hj, h => by
    show (((out a k).set k (byt a k)).set (8 + k) (byt a (8 + k))).getD j 0 = _
    rw [getD_set _ _ _ _ (by rw [List.length_set, out_length]; exact hj)]
    by_cases c : 8 + k = j
    · rw [if_pos c, c]
    · rw [if_neg c, getD_set _ _ _ _ (by rw [out_length]; exact hj)]
      by_cases c2 : k = j
      · rw [if_pos c2, c2]
      · rw [if_neg c2]
        exact out_get a k (by omega) j hj (by omega)
theorem out_all (a : Nat) : out a 8 = bys a :=
  tx_ext (by rw [out_length, bys_length]) fun j hj => by
    rw [out_length] at hj
    rw [out_get a 8 (by omega) j hj (by omega), bys_get a j hj]
theorem fr_byt (a k : Nat) (hk : k < 8) : fr a / 2 ^ (56 - 8 * k) % 256 = byt a k := by
  unfold fr byt
  rw [Nat.div_div_eq_div_mul, ← Nat.pow_add]
  have e : (256 : Nat) ^ (15 - k) = 2 ^ (64 + (56 - 8 * k)) := by
    rw [show (256 : Nat) = 2 ^ 8 from rfl, ← Nat.pow_mul]
    congr 1
    omega
  rw [e]
theorem bk_byt (a k : Nat) (hk : k < 8) : bk a / 2 ^ (56 - 8 * k) % 256 = byt a (8 + k) := by
  unfold bk byt
  have e : (256 : Nat) ^ (15 - (8 + k)) = 2 ^ (56 - 8 * k) := by
    rw [show (256 : Nat) = 2 ^ 8 from rfl, ← Nat.pow_mul]
    congr 1
    omega
  have e2 : 2 ^ 64 = 2 ^ (56 - 8 * k) * 2 ^ (8 * k + 8) := by rw [← Nat.pow_add, show 56 - 8 * k + (8 * k + 8) = 64 from by omega]
  rw [e, e2, Nat.mod_mul_right_div_self]
  exact Nat.mod_mod_of_dvd _ ⟨2 ^ (8 * k), by rw [Nat.pow_add, Nat.mul_comm]⟩
/-- A block of bytes, as a text. -/
theorem conv_blk {w : World} {b t n : Nat} {l : List Nat} (h : Blk w b t (by8 l)) (hl : l.length = n) (ok : ∀ x ∈ l, x < 256) (cap : Nat) : (convert 41 9 (.slice (some ⟨b, 0, none⟩) n cap)).run Try.prog w = .ok (.string (tx l)) w := by
  have hl' : (l.map UInt8.ofNat).length = n := by rw [List.length_map]; exact hl
  subst hl'
  refine run_convert_bytes_back w 41 9 5 ⟨b, 0, none⟩ cap (l.map UInt8.ofNat) Try.underlying41 Try.underlying5 Try.underlying9 fun j hj => ?_
  rw [List.length_map] at hj
  rw [Addr.add_mid, Nat.zero_add]
  refine (h.cell j _ (by8_get l j hj)).trans ?_
  rw [List.getElem_map, List.getD_eq_getElem?_getD, List.getElem?_eq_getElem hj, UInt8.toNat_ofNat_of_lt' (by have := ok _ (List.getElem_mem hj); have : UInt8.size = 256 := rfl; omega)]
  rfl
theorem wrap_8 (n : Int) : IntKind.u8.wrap n = n % 256 := by simp [IntKind.wrap, IntKind.bits, IntKind.signed]

set_option maxRecDepth 100000 in
set_option maxHeartbeats 1600000 in
theorem text_any (a : Nat) (w : World) :
    Calls Try.prog 54 #[.agg (blc a).toArray] w fun e w' => e = .returned (.string (bt a)) ∧ Below w.heap.size w w' := by
  have hB : Blk ((w.alloc (.cells (blc a).toArray 77)).alloc (.cells z16.toArray 70)) w.heap.size 77 (blc a) := (Blk.new w 77 (blc a) _ rfl).alloc _
  have hA : Blk ((w.alloc (.cells (blc a).toArray 77)).alloc (.cells z16.toArray 70)) (w.heap.size + 1) 70 z16 := by
    have h := Blk.new (w.alloc (.cells (blc a).toArray 77)) 70 z16 _ rfl
    rw [World.size_alloc] at h
    exact h
  have hX : Below w.heap.size w ((w.alloc (.cells (blc a).toArray 77)).alloc (.cells z16.toArray 70)) := ((Below.refl _ _).alloc (Nat.le_refl _) _).alloc (by simp) _
  go_enter Try.func54, Try.ntmps54
  go_wp2_with fail
  go_loopw [6] (fun i wr => ∃ k : Nat, k ≤ 8 ∧ i = .int .i64 k ∧ Blk wr w.heap.size 77 (blc a) ∧ Blk wr (w.heap.size + 1) 70 (by8 (out a k)) ∧ Below w.heap.size w wr) (fun i _ => 8 - (intOf i).toNat)
  case atStart => exact ⟨0, by omega, rfl, hB, hA, hX⟩
  case round =>
    clear hB hA hX
    obtain ⟨k, hk, rfl, hB, hA, hnx⟩ := hrel
    by_cases hlt : k < 8
    · have d0 : decide ((k : Int) < 8) = true := by simp; omega
      have hl := out_length a k
      have x1 := fr_byt a k hlt
      have x2 := bk_byt a k hlt
      have HU : Hid (out a (k + 1) = ((out a k).set k (byt a k)).set (8 + k) (byt a (8 + k))) := rfl
      have q1 := hB.cell 0 _ rfl
      have q2 := hB.cell 1 _ rfl
      have c1 := hA.cell k _ (by8_get _ k (by rw [hl]; omega))
      have c2 := hA.cell (8 + k) _ (by8_get _ (8 + k) (by rw [hl]; omega))
      have z1 := hA.frozen k
      have z2 := hA.frozen (8 + k)
      generalize out a k = L at *
      generalize byt a k = b1 at *
      generalize byt a (8 + k) = b2 at *
      generalize fr a = f at *
      generalize bk a = g at *
      obtain ⟨s, hs⟩ : ∃ s, s = 56 - 8 * k := ⟨_, rfl⟩
      obtain ⟨m, hm⟩ : ∃ m, m = 8 + k := ⟨_, rfl⟩
      obtain ⟨r, hr⟩ : ∃ r, r = 8 * k := ⟨_, rfl⟩
      rw [← hs] at x1 x2
      obtain ⟨X, hX⟩ : ∃ X, X = f / 2 ^ s := ⟨_, rfl⟩
      obtain ⟨Y, hY⟩ : ∃ Y, Y = g / 2 ^ s := ⟨_, rfl⟩
      rw [← hX] at x1
      rw [← hY] at x2
      have e1 : 8 * (k : Int) = (r : Int) := by omega
      have e2 : 56 - (r : Int) = (s : Int) := by omega
      have e3 : 8 + (k : Int) = (m : Int) := by omega
      have e4 : (f : Int) / 2 ^ s = (X : Int) := by rw [hX]; simp
      have e5 : (g : Int) / 2 ^ s = (Y : Int) := by rw [hY]; simp
      have e6 : IntKind.u8.wrap (X : Int) = (b1 : Int) := by rw [wrap_8]; omega
      have e7 : IntKind.u8.wrap (Y : Int) = (b2 : Int) := by rw [wrap_8]; omega
      have k0 : (0 : Int) ≤ (k : Int) := by omega
      have kz : (k : Int) < 16 := by omega
      have m0 : (0 : Int) ≤ (m : Int) := by omega
      have mz : (m : Int) < 16 := by omega
      have r0 : (0 : Int) ≤ (r : Int) := by omega
      have rz : (r : Int) < 64 := by omega
      have s0 : (0 : Int) ≤ (s : Int) := by omega
      have sz : (s : Int) < 64 := by omega
      rw [← hm] at HU c2 z2
      generalize L.getD k 0 = o1 at *
      generalize L.getD m 0 = o2 at *
      have hmk : m ≠ k := by omega
      have hmk' : k ≠ m := by omega
      have hm16 : m < 16 := by omega
      clear hX hY hs hr hm x1 x2
      go_wp2_with fail
      go_region
      go_wp2
      go_roundw
      case rel => exact ⟨k + 1, by omega, by go_num, (hB.other (by simp) _).other (by simp) _, by rw [HU.out, ← by8_set, ← by8_set]; exact (hA.set k _).set m _, ((hnx.setCell (by simp) _).setCell (by simp) _).drew⟩
      case measure => simp [intOf]; omega
    · obtain rfl : k = 8 := by omega
      have d0 : decide (((8 : Nat) : Int) < 8) = false := by decide
      rw [out_all] at hA
      have s1 := sl_all (w.heap.size + 1)
      have hcv := conv_blk hA (bys_length a) (bys_ok a) 16
      obtain ⟨T, HT⟩ : ∃ T, Hid (T = bt a) := ⟨_, rfl⟩
      rw [show tx (bys a) = T from HT.out.symm] at hcv
      go_wp2_with fail
      go_ret
      exact ⟨by rw [← HT.out]; rfl, hnx⟩
end Go.Proofs.Ytibdlccaenanmaa.ghs
