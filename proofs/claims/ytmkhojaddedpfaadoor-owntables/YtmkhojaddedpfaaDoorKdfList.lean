/-
  THE WALK OF package kdf's keys, over whatever digest.
-/
import Derived.Test.YtmkhojaddedpfaaDoorKdfMac
namespace Go.Proofs.YtmkhojaddedpfaaDoor.kdf
open Go.RowKit

theorem infoSTR : (Tryd.prog.info? 9).map (fun i => (i.zero, i.size, i.bytes)) = some (some (.string ⟨#[]⟩), 1, 16) := by kernel_rfl
theorem own_blk {w : World} {B e g n : Nat} {xs : List Value} (h : w.ownsRow B e 1 (.slice (some ⟨g, 0, none⟩) n n) n xs) : Blk w g e xs := by
  obtain ⟨hl, ⟨h0, _⟩ | ⟨g', cap', cur, hv, hB, hg, hn, hm, hc, ht⟩⟩ := h
  · cases h0
  · injection hv with e1 e2 e3
    injection e1 with e1
    injection e1 with e1
    subst e1 e3
    rw [List.take_of_length_le (by simp; omega)] at ht
    unfold Blk
    rw [hg, ← ht]
theorem made_strs (n : Nat) : (madeCells (Value.string ⟨#[]⟩).cells (n * 1)).toList = List.replicate n (.string ⟨#[]⟩) := by
  have : (Value.string ⟨#[]⟩).cells = #[Value.string ⟨#[]⟩] := rfl
  rw [this, Nat.mul_one, toList_madeCells_one]
/-- The keys that are made so far, texts of no byte behind them. -/
def kl (D : ByteArray → ByteArray) (p : ByteArray) (n k : Nat) : List Value := (List.range n).map fun j => if j < k then .string (ky D p (j + 1)) else .string ⟨#[]⟩
theorem kl_length (D : ByteArray → ByteArray) (p : ByteArray) (n k : Nat) : (kl D p n k).length = n := by simp [kl]
theorem kl_get (D : ByteArray → ByteArray) (p : ByteArray) (n k j : Nat) (h : j < n) : (kl D p n k)[j]? = some (if j < k then .string (ky D p (j + 1)) else .string ⟨#[]⟩) := by
  unfold kl
  rw [List.getElem?_map, List.getElem?_range h]
  rfl
theorem kl_zero (D : ByteArray → ByteArray) (p : ByteArray) (n : Nat) : kl D p n 0 = List.replicate n (.string ⟨#[]⟩) := by
  apply List.ext_getElem?
  intro j
  by_cases h : j < n
  · rw [kl_get _ _ _ _ _ h, List.getElem?_replicate, if_pos h, if_neg (by omega)]
  · rw [List.getElem?_eq_none (by rw [kl_length]; omega), List.getElem?_eq_none (by rw [List.length_replicate]; omega)]
theorem kl_set (D : ByteArray → ByteArray) (p : ByteArray) (n k : Nat) (hk : k < n) : (kl D p n k).set k (.string (ky D p (k + 1))) = kl D p n (k + 1) := by
  apply List.ext_getElem?
  intro j
  rw [List.getElem?_set]
  by_cases h : j < n
  · by_cases e : k = j
    · subst e
      rw [if_pos rfl, if_pos (by rw [kl_length]; exact h), kl_get _ _ _ _ _ h, if_pos (by omega)]
    · rw [if_neg e, kl_get _ _ _ _ _ h, kl_get _ _ _ _ _ h]
      by_cases c : j < k
      · rw [if_pos c, if_pos (by omega)]
      · rw [if_neg c, if_neg (by omega)]
  · have h1 : (kl D p n k)[j]? = none := List.getElem?_eq_none (by rw [kl_length]; omega)
    have h2 : (kl D p n (k + 1))[j]? = none := List.getElem?_eq_none (by rw [kl_length]; omega)
    rw [h1, h2]
    by_cases e : k = j
    · exact absurd hk (by omega)
    · rw [if_neg e]
/-- What a list of keys is, at a block. -/
structure Keys (D : ByteArray → ByteArray) (p : ByteArray) (n b : Nat) (w : World) : Prop where
  cell : ∀ j, j < n → w.cell? ⟨b, j, none⟩ = some (.string (ky D p (j + 1)))
  lt : b < w.heap.size
  blk : ∃ l : List Value, l.length = n ∧ Blk w b 9 l
theorem Keys.below {D : ByteArray → ByteArray} {p : ByteArray} {n b : Nat} {w w' : World} (h : Keys D p n b w) (hb : Below w.heap.size w w') : Keys D p n b w' :=
  ⟨fun j hj => by rw [hb.cell (p := ⟨b, j, none⟩) h.lt]; exact h.cell j hj, Nat.lt_of_lt_of_le h.lt hb.size, by obtain ⟨l, h1, h2⟩ := h.blk; exact ⟨l, h1, h2.below hb h.lt⟩⟩

set_option maxRecDepth 100000 in
set_option maxHeartbeats 1600000 in
theorem keys_any (F : FuncId) (D : ByteArray → ByteArray) (he : Goes F) (hD : ∀ s, (D s).size = 32) (p : ByteArray) (hp : p.size < 576460752303423488) (n : Nat) (hn : n ≤ 3) (w : World) (hF : Does F D w) :
    Calls Tryd.prog 15 #[.func (.func F) #[] #[], .string p, .int .i64 (n : Nat)] w fun e w' => (∃ b, e = .returned (.slice (some ⟨b, 0, none⟩) n n) ∧ w.heap.size ≤ b ∧ Keys D p n b w') ∧ Below w.heap.size w w' := by
  obtain ⟨i0, hi, hz0, hz1, hz2⟩ := info_parts infoSTR
  have f1 : ∀ (k : Nat), k < n → ∀ W, Below w.heap.size w W → Calls Tryd.prog 16 #[.func (.func F) #[] #[], .string p, .string (ky D p k ++ tx [k + 1])] W fun e w' => e = .returned (.string (ky D p (k + 1))) ∧ Below W.heap.size W w' := fun k _ W hW =>
    mac_any F D he hD p (ky D p k ++ tx [k + 1]) hp (by have := ky_size hD p k; rw [ByteArray.size_append, tx_size]; simp; omega) W (hF.grown hW)
  clear hF he
  go_enter Tryd.func15, Tryd.ntmps15
  go_wp2_with (at_make; refine wpList_make_full _ rfl _ _ 32 rfl w.heap.size 9 i0 (.string ⟨#[]⟩) 1 Tryd.underlying32 hi hz0 hz1 _ _ _ _ n rfl rfl rfl rfl (by rw [hz2]; omega) (by unfold maxLen; omega) (Nat.le_refl _) ?_; intro w1 hown0 hgr0)
  rw [made_strs, ← kl_zero D p] at hown0
  have hB0 := own_blk hown0
  have hX0 : Below w.heap.size w w1 := (Below.refl _ _).grown hgr0 (Nat.le_refl _) (fun k hk => by cases hk)
  clear hown0 hgr0
  go_loopw [8, 14] (fun u i wr => ∃ k : Nat, k ≤ n ∧ i = .int .i64 k ∧ u = .string (ky D p k) ∧ Blk wr w.heap.size 9 (kl D p n k) ∧ Below w.heap.size w wr) (fun _ i _ => n - (intOf i).toNat)
  case atStart => exact ⟨0, by omega, rfl, rfl, hB0, hX0⟩
  case round =>
    clear hB0 hX0
    obtain ⟨k, hk, rfl, rfl, hB, hnx⟩ := hrel
    by_cases hlt : k < n
    · have d0 : decide ((k : Int) < (n : Int)) = true := by simp; omega
      have f2 := f1 k hlt
      have HU : Hid ((kl D p n k).set k (.string (ky D p (k + 1))) = kl D p n (k + 1)) := kl_set D p n k hlt
      have c1 := hB.cell k _ (kl_get D p n k k hlt)
      rw [if_neg (by omega)] at c1
      have z1 := hB.frozen k
      obtain ⟨x, hx⟩ : ∃ x, x = k + 1 := ⟨_, rfl⟩
      have s0 : IntKind.i64.wrap ((k : Int) + 1) = (x : Int) := by rw [IntWalk.i64_in _ ⟨by omega, by omega⟩]; omega
      have s0' : (k : Int) + 1 = (x : Int) := by omega
      have s1 : IntKind.u8.wrap (x : Int) = (x : Int) := by rw [cv.wrap_8]; omega
      have s2 : IntKind.i64.wrap (x : Int) = (x : Int) := IntWalk.i64_in _ ⟨by omega, by omega⟩
      have j0 : (k : Int) < (n : Int) := by omega
      have k0 : (0 : Int) ≤ (k : Int) := by omega
      have Hx : Hid (x = k + 1) := hx
      rw [← hx] at f2 HU
      have x4 : x ≤ 3 := by omega
      clear hx
      have hcv : (convert 63 9 (.slice (some ⟨wr.heap.size, 0, none⟩) 1 1)).run Tryd.prog (wr.alloc (.cells #[.int .u8 (x : Int)] 5)) = .ok (.string (tx [x])) (wr.alloc (.cells #[.int .u8 (x : Int)] 5)) :=
        cv.conv_blk (Blk.new wr 5 (by8 [x]) _ rfl) rfl (fun y hy => by rw [List.mem_singleton.1 hy]; omega) 1
      have lT : (tx [x]).size = 1 := by rw [tx_size]; rfl
      have lk := ky_size hD p k
      generalize tx [x] = T at *
      have hXA : Below w.heap.size w (wr.alloc (.cells #[.int .u8 (x : Int)] 5)) := hnx.alloc hnx.size _
      have hBA := hB.alloc (.cells #[.int .u8 (x : Int)] 5)
      have hlB := hBA.lt
      go_wp2_with (go_at_call 16; (with_reducible refine (f2 _ hXA).mono ?_); rintro e w1 ⟨rfl, hb1⟩; have hB1 := hBA.below hb1 hlB; have c2 := hB1.cell k _ (kl_get D p n k k hlt); rw [if_neg (by omega)] at c2; have z2 := hB1.frozen k)
      go_roundw
      case rel => exact ⟨x, by omega, by go_num, rfl, by rw [← HU.out]; exact hB1.set k _, (hXA.trans (hb1.mono hXA.size)).setCell (Nat.le_refl _) _⟩
      case measure => simp [intOf]; omega
    · obtain rfl : k = n := by omega
      have d0 : decide ((k : Int) < (k : Int)) = false := by simp
      have hc : Keys D p k w.heap.size wr := ⟨fun j hj => by rw [hB.cell j _ (kl_get D p k k j hj), if_pos hj], hB.lt, ⟨_, kl_length D p k k, hB⟩⟩
      go_wp2_with fail
      go_ret
      exact ⟨⟨_, rfl, Nat.le_refl _, hc⟩, hnx⟩
end Go.Proofs.YtmkhojaddedpfaaDoor.kdf
