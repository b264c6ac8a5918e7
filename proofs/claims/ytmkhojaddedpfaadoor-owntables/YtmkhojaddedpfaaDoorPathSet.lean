/-
  A TABLE IS MADE, AND A PREFIX SET: New, Set.
-/
import Derived.Test.YtmkhojaddedpfaaDoorPathPut
namespace Go.Proofs.YtmkhojaddedpfaaDoor.pth
open Go.RowKit

/-- What is wrong with a prefix and a peer. -/
def rr (L : List En) (a : Nat) (bits peer : Int) : Int :=
  if bits < 0 ∨ 32 < bits ∨ peer < 0 ∨ 8 ≤ peer then 1 else if a % 2 ^ (32 - bits.toNat) ≠ 0 then 5 else if L.length = 64 ∧ at' L bits.toNat (a / 2 ^ (32 - bits.toNat)) = none then 9 else 0
/-- The table behind Set. -/
def sL (L : List En) (a : Nat) (bits peer : Int) : List En := if rr L a bits peer = 0 then ins (a, bits.toNat, peer.toNat) L else L
theorem rr_arg {L : List En} {a : Nat} {bits peer : Int} (h : bits < 0 ∨ 32 < bits ∨ peer < 0 ∨ 8 ≤ peer) : rr L a bits peer = 1 := by unfold rr; rw [if_pos h]
theorem sL_err {L : List En} {a : Nat} {bits peer : Int} (h : rr L a bits peer ≠ 0) : sL L a bits peer = L := by unfold sL; rw [if_neg h]
theorem sL_ok {L : List En} {a : Nat} {bits peer : Int} (h : rr L a bits peer = 0) : sL L a bits peer = ins (a, bits.toNat, peer.toNat) L := by unfold sL; rw [if_pos h]
theorem rr_zero {L : List En} {a : Nat} {bits peer : Int} (h : rr L a bits peer = 0) : ∃ n p : Nat, bits = n ∧ peer = p ∧ n ≤ 32 ∧ p < 8 ∧ a % 2 ^ (32 - n) = 0 ∧ (L.length = 64 → at' L n (a / 2 ^ (32 - n)) ≠ none) := by
  unfold rr at h
  split at h
  · cases h
  · rename_i h1
    split at h
    · cases h
    · rename_i h2
      split at h
      · cases h
      · rename_i h3
        refine ⟨bits.toNat, peer.toNat, by omega, by omega, by omega, by omega, by omega, fun k1 k2 => h3 ⟨k1, k2⟩⟩
theorem sL_len {L : List En} (h : Ok L) (hL : L.length ≤ 64) {a : Nat} {bits peer : Int} : (sL L a bits peer).length ≤ 64 := by
  by_cases hr : rr L a bits peer = 0
  · rw [sL_ok hr]
    obtain ⟨n, p, rfl, rfl, h1, h2, h3, h4⟩ := rr_zero hr
    simp only [Int.toNat_natCast]
    have hav := node_num h3
    cases hc : at' L n (a / 2 ^ (32 - n)) with
    | none =>
      have := len_new (p := p) h hc
      rw [hav] at this
      have h5 : L.length ≠ 64 := fun k => h4 k hc
      omega
    | some q =>
      have := len_old (p := p) h hc
      rw [hav] at this
      omega
  · rw [sL_err hr]; exact hL
theorem sL_ok' {L : List En} (h : Ok L) {a : Nat} (ha : a < 4294967296) {bits peer : Int} : Ok (sL L a bits peer) := by
  by_cases hr : rr L a bits peer = 0
  · rw [sL_ok hr]
    obtain ⟨n, p, rfl, rfl, h1, h2, h3, h4⟩ := rr_zero hr
    exact h.ins ⟨h1, ha, h3, h2⟩
  · rw [sL_err hr]; exact h
/-- The tree of a new table. -/
def B0 (b : Nat) : Nat → Nat → Option Nat := fun d v => if d = 0 ∧ v = 0 then some b else none
theorem at_nil (d v : Nat) : at' [] d v = none := rfl
theorem Tab.new (w : World) : Tab (w.alloc (.cells #[.bool false, .int .u32 0, .int .i64 0, .int .i64 0, .pointer none, .pointer none, .int .i64 0] 49)) w.heap.size [] (B0 w.heap.size) := by
  refine ⟨Ok.nil, ⟨rfl, ?_, ?_, ?_, ?_⟩, ?_⟩
  · intro d v k hk
    unfold B0 at hk
    split at hk
    · rename_i c; obtain ⟨rfl, rfl⟩ := c; exact ⟨by omega, by decide⟩
    · cases hk
  · intro d v d' v' k hk hk'
    unfold B0 at hk hk'
    split at hk <;> split at hk'
    · omega
    · cases hk'
    · cases hk
    · cases hk
  · intro d v k hk
    unfold B0 at hk
    rw [if_neg (by omega)] at hk
    cases hk
  · intro d v p hp
    rw [at_nil] at hp
    cases hp
  · intro d v k hk
    unfold B0 at hk
    split at hk
    · rename_i c
      obtain ⟨rfl, rfl⟩ := c
      cases hk
      exact Blk.new w 49 _ _ rfl
    · cases hk
theorem own_new {b k : Nat} (h : OwnB (B0 b) k) : k = b := by
  obtain ⟨d, v, h⟩ := h
  unfold B0 at h
  split at h
  · cases h; rfl
  · cases h
theorem New_any (w : World) :
    Calls Tryd.prog 9 #[] w fun e w' => e = .returned (.pointer (some ⟨w.heap.size, 0, none⟩)) ∧ w' = w.alloc (.cells #[.bool false, .int .u32 0, .int .i64 0, .int .i64 0, .pointer none, .pointer none, .int .i64 0] 49) := by
  go_enter Tryd.func9, Tryd.ntmps9
  go_wp2
  go_ret
  exact ⟨rfl, rfl⟩
theorem shl_num {a n : Nat} (hn : n ≤ 32) : IntKind.u32.wrap ((a : Int) * 2 ^ n) = ((2 ^ n * (a % 2 ^ (32 - n)) : Nat) : Int) := by
  have : (a : Int) * 2 ^ n = ((a * 2 ^ n : Nat) : Int) := by push_cast; rfl
  rw [this, ← Nat.mul_mod_mul_left, two_up hn, Nat.mul_comm (2 ^ n)]
  simp [IntKind.wrap, IntKind.signed, IntKind.bits]
set_option maxHeartbeats 3200000 in
theorem Set_any (b : Nat) (L : List En) (B : Nat → Nat → Option Nat) (a : Nat) (bits peer : Int) (ha : a < 4294967296) (hL : L.length ≤ 64) (w : World) (hT : Tab w b L B) :
    Calls Tryd.prog 10 #[.pointer (some ⟨b, 0, none⟩), .agg #[.int .u32 (a : Int), .int .i64 bits], .int .i64 peer] w fun e w' => e = .returned (.int .i64 (rr L a bits peer)) ∧ ∃ B', Tab w' b (sL L a bits peer) B' ∧ Turns (OwnB B) (OwnB B') w w' := by
  obtain ⟨D, hD⟩ : ∃ D, w.heap.size = D := ⟨_, rfl⟩
  have hP : Blk (w.alloc (.cells #[.int .u32 (a : Int), .int .i64 bits] 29)) D 29 [.int .u32 (a : Int), .int .i64 bits] := by rw [← hD]; exact Blk.new w 29 _ _ rfl
  have hT1 : Tab (w.alloc (.cells #[.int .u32 (a : Int), .int .i64 bits] 29)) b L B := hT.below ((Below.refl _ _).alloc (Nat.le_refl _) _)
  have HX : Hid (Turns (OwnB B) (OwnB B) w (w.alloc (.cells #[.int .u32 (a : Int), .int .i64 bits] 29))) := Turns.alloc _ _ _
  have c0 := hP.cell 0 _ rfl
  have c1 := hP.cell 1 _ rfl
  by_cases h1 : bits < 0 ∨ 32 < bits ∨ peer < 0 ∨ 8 ≤ peer
  · have hr := rr_arg (L := L) (a := a) h1
    rw [sL_err (by rw [hr]; decide), hr]
    have key : ∃ d1 d2 d3 d4 : Bool, decide (bits < 0) = d1 ∧ decide (bits > 32) = d2 ∧ decide (peer < 0) = d3 ∧ decide (peer ≥ 8) = d4 ∧ (d1 || d2 || d3 || d4) = true := by
      refine ⟨_, _, _, _, rfl, rfl, rfl, rfl, ?_⟩
      simp only [Bool.or_eq_true, decide_eq_true_eq]
      omega
    obtain ⟨d1, d2, d3, d4, e1, e2, e3, e4, ho⟩ := key
    clear h1 hr hT
    cases d1
    · cases d2
      · cases d3
        · cases d4
          · cases ho
          · go_enter Tryd.func10, Tryd.ntmps10
            go_wp2
            go_ret
            exact ⟨rfl, B, hT1, HX.out⟩
        · go_enter Tryd.func10, Tryd.ntmps10
          go_wp2
          go_ret
          exact ⟨rfl, B, hT1, HX.out⟩
      · go_enter Tryd.func10, Tryd.ntmps10
        go_wp2
        go_ret
        exact ⟨rfl, B, hT1, HX.out⟩
    · go_enter Tryd.func10, Tryd.ntmps10
      go_wp2
      go_ret
      exact ⟨rfl, B, hT1, HX.out⟩
  · obtain ⟨n, p, rfl, rfl, hn, hp⟩ : ∃ n p : Nat, bits = n ∧ peer = p ∧ n ≤ 32 ∧ p < 8 := ⟨bits.toNat, peer.toNat, by omega, by omega, by omega, by omega⟩
    have e1 : decide ((n : Int) < 0) = false := decide_eq_false (by omega)
    have e2 : decide ((n : Int) > 32) = false := decide_eq_false (by omega)
    have e3 : decide ((p : Int) < 0) = false := decide_eq_false (by omega)
    have e4 : decide ((p : Int) ≥ 8) = false := decide_eq_false (by omega)
    have n0 : (0 : Int) ≤ (n : Int) := by omega
    have n1 : (n : Int) ≤ 64 := by omega
    have hsh := shl_num (a := a) hn
    have hrr : rr L a n p = if a % 2 ^ (32 - n) ≠ 0 then 5 else if L.length = 64 ∧ at' L n (a / 2 ^ (32 - n)) = none then 9 else 0 := by
      unfold rr
      rw [if_neg h1]
      rfl
    clear h1
    by_cases h2 : a % 2 ^ (32 - n) = 0
    · rw [if_neg (fun h => h h2)] at hrr
      rw [h2, Nat.mul_zero] at hsh
      have hsh' : IntKind.u32.wrap ((a : Int) * 2 ^ n) = 0 := hsh
      have hBb := hT1.blk _ _ _ hT1.shape.root
      have c6 := hBb.cell 6 _ rfl
      have f1 := fun W (hW : Tab W b L B) => has_any b L B W hW a n ha hn
      clear hsh
      by_cases h3 : L.length = 64 ∧ at' L n (a / 2 ^ (32 - n)) = none
      · rw [if_pos h3] at hrr
        rw [sL_err (by rw [hrr]; decide), hrr]
        rw [h3.2] at f1
        rw [h3.1] at c6
        have f1' : ∀ W, Tab W b L B → Calls Tryd.prog 17 #[.pointer (some ⟨b, 0, none⟩), .agg #[.int .u32 (a : Int), .int .i64 (n : Int)]] W fun e w' => e = .returned (.bool false) ∧ Below W.heap.size W w' := f1
        clear h3 hrr f1 hT h2 hBb
        go_enter Tryd.func10, Tryd.ntmps10
        go_wp2
        go_region_with (go_at_call 17; (with_reducible refine (f1' _ (by first | exact hT1.drew | exact hT1)).mono ?_); rintro e w3 ⟨rfl, hX3⟩)
        all_goals go_wp2
        all_goals go_ret
        all_goals exact ⟨rfl, B, hT1.drew.below hX3, HX.out.trans ((Turns.drew _ _).trans (Turns.below hX3))⟩
      · rw [if_neg h3] at hrr
        rw [sL_ok hrr, hrr]
        simp only [Int.toNat_natCast]
        have f2 := fun W (hW : Tab W b L B) => put_any b L B a n p ha hn h2 hp hL W hW
        have HDB : Hid (¬ OwnB B D) := fun ⟨d, v, h⟩ => by have := hT.lt h; omega
        by_cases h4 : L.length = 64
        · cases ho : at' L n (a / 2 ^ (32 - n)) with
          | none => exact absurd ⟨h4, ho⟩ h3
          | some q =>
            rw [ho] at f1
            rw [h4] at c6
            have f1' : ∀ W, Tab W b L B → Calls Tryd.prog 17 #[.pointer (some ⟨b, 0, none⟩), .agg #[.int .u32 (a : Int), .int .i64 (n : Int)]] W fun e w' => e = .returned (.bool true) ∧ Below W.heap.size W w' := f1
            clear h3 hrr f1 hT h2 hBb ho h4 hL
            go_enter Tryd.func10, Tryd.ntmps10
            go_wp2
            go_region_with (go_at_call 17; (with_reducible refine (f1' _ (by first | exact hT1.drew | exact hT1)).mono ?_); rintro e w3 ⟨rfl, hX3⟩)
            have hT3 := hT1.drew.below hX3
            have hX4 := HX.out.trans ((Turns.drew _ _).trans (Turns.below hX3))
            have hP3 : Blk w3 D 29 [.int .u32 (a : Int), .int .i64 (n : Int)] := hP.drew.below hX3 hP.lt
            have p0 := hP3.cell 0 _ rfl
            have p1 := hP3.cell 1 _ rfl
            go_wp2_with (go_at_call 18; (with_reducible refine (f2 _ hT3).mono ?_); rintro e w4 ⟨B', rfl, hT5, hX5⟩)
            go_ret
            exact ⟨rfl, B', hT5, hX4.trans hX5⟩
        · have t6 : ((L.length : Int) == 64) = false := by rw [beq_eq_false_iff_ne]; omega
          clear h3 hrr f1 hT h2 hBb h4 hL
          go_enter Tryd.func10, Tryd.ntmps10
          go_wp2
          go_region
          have hT3 := hT1.drew
          have hX4 := HX.out.trans (Turns.drew _ _)
          have p0 := hP.drew.cell 0 _ rfl
          have p1 := hP.drew.cell 1 _ rfl
          go_wp2_with (go_at_call 18; (with_reducible refine (f2 _ hT3).mono ?_); rintro e w4 ⟨B', rfl, hT5, hX5⟩)
          go_ret
          exact ⟨rfl, B', hT5, hX4.trans hX5⟩
    · rw [if_pos h2] at hrr
      rw [sL_err (by rw [hrr]; decide), hrr]
      obtain ⟨x, hx⟩ : ∃ x, 2 ^ n * (a % 2 ^ (32 - n)) = x := ⟨_, rfl⟩
      rw [hx] at hsh
      have hx0 : x ≠ 0 := by
        rw [← hx]
        exact Nat.mul_ne_zero (Nat.pos_iff_ne_zero.1 (two_pos n)) h2
      have tE : ((x : Int) == 0) = false := by rw [beq_eq_false_iff_ne]; omega
      have tF : ((x : Int) != 0) = true := by rw [bne_iff_ne]; omega
      clear h2 hrr hx hx0 hT
      go_enter Tryd.func10, Tryd.ntmps10
      go_wp2
      go_ret
      exact ⟨rfl, B, hT1, HX.out⟩
end Go.Proofs.YtmkhojaddedpfaaDoor.pth
