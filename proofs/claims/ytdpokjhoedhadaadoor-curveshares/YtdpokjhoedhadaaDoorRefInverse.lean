/-
  THE WALK OF the document's own inverse: to the power of P - 2.
-/
import Derived.Test.YtdpokjhoedhadaaDoorRefPower
import Derived.Test.YtdpokjhoedhadaaDoorShelf
import Derived.Outline
namespace Go.Proofs.YtdpokjhoedhadaaDoor.num
open Go.RowKit

theorem range_below {w w' : World} {B b o : Nat} {cs : List Value} (h : w.rangeAt b o cs) (hb : Below B w w') (hlt : b < B) : w'.rangeAt b o cs := fun j v hv => by
  rw [hb.cell (p := ⟨b, o + j, none⟩) hlt]
  exact h j v hv
theorem there_below {w w' : World} {B b o n : Nat} (h : w.there b o n) (hb : Below B w w') (hlt : b < B) : w'.there b o n := fun j hj => by
  rw [hb.cell (p := ⟨b, o + j, none⟩) hlt, hb.frozen (p := ⟨b, o + j, none⟩) hlt]
  exact h j hj

theorem one_cells (l : List Int) : ∀ v ∈ l.map (Value.int .i64), v.oneCell' = true := by
  intro v hv
  obtain ⟨a, _, rfl⟩ := List.mem_map.1 hv
  rfl
theorem cells_len (v : Int) : ((dg 16 v).map (Value.int .i64)).length = 16 := by rw [List.length_map, dg_length]
/-- The bits of P - 2. -/
def inv : List UInt8 := Lib.repeatL [49] 250 ++ [48, 49, 48, 49, 49]
theorem inv_ex : (ex inv : Int) = P - 2 := by decide +kernel
theorem inv_bits : ∀ c ∈ inv, c = 48 ∨ c = 49 := by decide +kernel

def ones : ByteArray := ⟨(Lib.repeatL [49] 250).toArray⟩
theorem ones_size : ones.size = 250 := by
  show (Lib.repeatL [49] 250).toArray.size = 250
  rw [List.size_toArray, Lib.repeatL_length]
  rfl
theorem ones_inv : (ones ++ ⟨#[48, 49, 48, 49, 49]⟩ : ByteArray).data.toList = inv := by
  unfold ones inv
  simp
theorem bits_ok : ∀ c ∈ (ones ++ ⟨#[48, 49, 48, 49, 49]⟩ : ByteArray).data.toList, c = 48 ∨ c = 49 := by rw [ones_inv]; exact inv_bits
theorem repeat_ones (w : World) : Calls Tryd.prog 38 #[.string ⟨#[49]⟩, .int .i64 250] w fun e w' => e = .returned (.string ones) ∧ Below w.heap.size w w' :=
  Tryd.strings_Repeat ⟨#[49]⟩ 250 w (by omega) (by show 1 * 250 ≤ _; omega)

set_option maxRecDepth 100000 in
set_option maxHeartbeats 1600000 in
theorem inverse_list (X : List Int) (hl : X.length = 16) (Q : List Int → Prop)
    (hpow : ∀ w : World, Calls Tryd.prog 37 #[.agg (ints X), .string (ones ++ ⟨#[48, 49, 48, 49, 49]⟩)] w fun e w' => (∃ D : List Int, D.length = 16 ∧ Q D ∧ e = .returned (.agg (ints D))) ∧ Below w.heap.size w w') (w : World) :
    Calls Tryd.prog 25 #[.agg (ints X)] w fun e w' => (∃ D : List Int, D.length = 16 ∧ Q D ∧ e = .returned (.agg (ints D))) ∧ Below w.heap.size w w' := by
  have hx0 := Arr.new w 37 X
  have hXr := (hx0.alloc (.cells (ints zeros) 37)).range
  have hZ := Arr.new (w.alloc (.cells (ints X) 37)) 37 zeros
  rw [World.size_alloc] at hZ
  have hB : Below w.heap.size w ((w.alloc (.cells (ints X) 37)).alloc (.cells (ints zeros) 37)) := ((Below.refl _ _).alloc (Nat.le_refl _) _).alloc (by simp) _
  have hsz : ((w.alloc (.cells (ints X) 37)).alloc (.cells (ints zeros) 37)).heap.size = w.heap.size + 1 + 1 := by simp
  have hu := Tryd.underlying37
  have hi : (Tryd.prog.info? 37).map (·.size) = some (X.map (Value.int .i64)).length := by rw [List.length_map, hl]; kernel_rfl
  have hcl : (X.map (Value.int .i64)).length = 16 := by rw [List.length_map, hl]
  have ho := one_cells X
  have hon := ones_size
  have HP : Hid (∀ w : World, Calls Tryd.prog 37 #[.agg (ints X), .string (ones ++ ⟨#[48, 49, 48, 49, 49]⟩)] w fun e w' => (∃ D : List Int, D.length = 16 ∧ Q D ∧ e = .returned (.agg (ints D))) ∧ Below w.heap.size w w') := hpow
  clear hpow
  go_enter Tryd.func25, Tryd.ntmps25
  go_wp2
  generalize hW0 : (w.alloc (.cells (ints X) 37)).alloc (.cells #[.int .i64 0, .int .i64 0, .int .i64 0, .int .i64 0, .int .i64 0, .int .i64 0, .int .i64 0, .int .i64 0, .int .i64 0, .int .i64 0, .int .i64 0, .int .i64 0, .int .i64 0, .int .i64 0, .int .i64 0, .int .i64 0] 37) = W0
  have hW1 : (w.alloc (.cells (ints X) 37)).alloc (.cells (ints zeros) 37) = W0 := hW0
  rw [hW1] at hXr hZ hB hsz
  clear hW0 hW1 hx0
  have HSZ : Hid (W0.heap.size = w.heap.size + 1 + 1) := hsz
  clear hsz
  have hZt : W0.there (w.heap.size + 1) 0 16 := hZ.there
  go_region_held3 (fun w' => w'.rangeAt w.heap.size 0 (X.map (Value.int .i64)))
    (first
      | go_keep_ranges
      | (exact World.rangeAt_setCells_apart (by assumption) _ _ _ (Or.inl (by omega)))
      | (exact range_below (by assumption) hb6 (by omega))
      | (exact range_below (by assumption) hb5 (by have h := HSZ.out; simp; omega)))
    (first
      | (go_at_call 38; refine (repeat_ones _).mono ?_; rintro e w5 ⟨rfl, hb5⟩; have sz5 : w.heap.size + 1 + 1 ≤ w5.heap.size := (by have h := hb5.size; have h2 := HSZ.out; simp at h; omega))
      | (go_at_call 37; refine (HP.out _).mono ?_; rintro e w6 ⟨⟨D6, hl6, hq6, rfl⟩, hb6⟩; have h0 := HSZ.out; have h9 : w.heap.size + 1 < W0.drew.heap.size := (by show _ < W0.heap.size; omega); have hZ5 := hZ.drew.below hb5 h9; have hZ6 := hZ5.below hb6 (by omega); have ho6 := one_cells D6; have hc6 : (D6.map (Value.int .i64)).length = 16 := (by rw [List.length_map, hl6]); have hi6 : (Tryd.prog.info? 37).map (·.size) = some (D6.map (Value.int .i64)).length := (by rw [hc6]; kernel_rfl); have ht6 : w6.there (w.heap.size + 1) 0 16 := hZ6.there))
  have hS := stored_setCells hZ6 (l' := D6) (by rw [hl6]; rfl)
  have hB6 : Below w.heap.size w w6 := (hB.drew.trans (hb5.mono (by show _ ≤ W0.heap.size; omega))).trans (hb6.mono (by omega))
  generalize w6.setCells (w.heap.size + 1) 0 (D6.map (Value.int .i64)) = W7 at *
  clear hi hi6 ho ho6 hcl hc6 ht6
  go_wp2
  exact bodyPost_ret (results_arr Tryd.results25 _ rfl hS.arr _ Tryd.underlying37 rfl (by rw [hl6]; kernel_rfl)) rfl ⟨⟨D6, hl6, hq6, rfl⟩, hS.below _ _ (by omega) hB6⟩

theorem inverse_any (x : Int) (hx : Ok x) (w : World) :
    Calls Tryd.prog 25 #[Num x] w fun e w' => (∃ v : Int, Ok v ∧ v % P = (x ^ (ex inv)) % P ∧ e = .returned (Num v)) ∧ Below w.heap.size w w' := by
  refine (inverse_list (dg 16 x) (dg_length _ _) (fun D => ∃ v, Ok v ∧ v % P = (x ^ (ex inv)) % P ∧ D = dg 16 v) (fun w => ?_) w).mono ?_
  · refine (power_any x hx _ bits_ok w).mono ?_
    rintro e w' ⟨⟨v, h1, h2, rfl⟩, hb⟩
    rw [ones_inv] at h2
    exact ⟨⟨dg 16 v, dg_length _ _, ⟨v, h1, h2, rfl⟩, rfl⟩, hb⟩
  · rintro e w' ⟨⟨D, _, ⟨v, h1, h2, rfl⟩, rfl⟩, hb⟩
    exact ⟨⟨v, h1, h2, rfl⟩, hb⟩
end Go.Proofs.YtdpokjhoedhadaaDoor.num
