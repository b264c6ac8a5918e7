/-
  THE WALK OF package aes's newTables.
-/
import Derived.Test.YtibdlccaenanmaaAesSquare
namespace Go.Proofs.Ytibdlccaenanmaa.aes
open Go.RowKit
open Go.Proofs.Ytibdlccaenanmaa.gal

/-- A new variable of many cells. -/
theorem wpList_alloc_blk {P : Program} {ops : Array Oper} {rest : List Oper} {op : Oper} {a : Act} {w : World} {Q : Exit → Act → World → Prop} (hgd : op.guard = none) (ty : TypeId) (ho : op.op = .alloc ty) (l : List Value) (i : TypeInfo)
    (hi : P.info? ty = some i) (z : Value) (hz : i.zero = some z) (hl : z.cells = l.toArray)
    (h : wpList P ops Q rest (a.put op.dst (.pointer (some ⟨w.heap.size, 0, none⟩))) (w.alloc (.cells l.toArray ty))) : wpList P ops Q (op :: rest) a w := by
  refine wpList_plain hgd fun K hK => ?_
  unfold Oper.wp execOp
  simp [ho, Instr.alloc, zeroValue, typeInfo, hi, hz, newVar, newRow, hl]
  exact hK _ _ h
def zeroT : List Nat := List.replicate 768 0
theorem infoTB : (Try.prog.info? 91).map (fun i => (i.zero, i.size, i.bytes)) = some (some (.agg (by8 zeroT).toArray), 768, 768) := by kernel_rfl
/-- The first k bytes are in the tables. -/
def Tabs (T : List Nat) (k : Nat) : Prop := T.length = 768 ∧ ∀ x, x < k → T.getD x 0 = gsub x ∧ T.getD (256 + gsub x) 0 = x ∧ T.getD (512 + x) 0 = gm 2 x
theorem getD_set (l : List Nat) (i v j : Nat) (hi : i < l.length) : (l.set i v).getD j 0 = if i = j then v else l.getD j 0 := by
  rw [List.getD_eq_getElem?_getD, List.getD_eq_getElem?_getD]
  by_cases e : i = j
  · subst e; rw [List.getElem?_set_self hi, if_pos rfl]; rfl
  · rw [List.getElem?_set_ne e, if_neg e]
theorem Tabs.step {T : List Nat} {k : Nat} (h : Tabs T k) (hk : k < 256) : Tabs (((T.set k (gsub k)).set (256 + gsub k) k).set (512 + k) (gm 2 k)) (k + 1) := by
  have hs := gsub_lt k
  obtain ⟨hl, h⟩ := h
  refine ⟨by rw [List.length_set, List.length_set, List.length_set, hl], fun x hx => ?_⟩
  have hx' := gsub_lt x
  rw [getD_set _ _ _ _ (by rw [List.length_set, List.length_set]; omega), getD_set _ _ _ _ (by rw [List.length_set]; omega), getD_set _ _ _ _ (by omega)]
  rw [getD_set _ _ _ _ (by rw [List.length_set, List.length_set]; omega), getD_set _ _ _ _ (by rw [List.length_set]; omega), getD_set _ _ _ _ (by omega)]
  rw [getD_set _ _ _ _ (by rw [List.length_set, List.length_set]; omega), getD_set _ _ _ _ (by rw [List.length_set]; omega), getD_set _ _ _ _ (by omega)]
  by_cases e : k = x
  · subst e
    rw [if_neg (by omega), if_neg (by omega), if_pos rfl, if_neg (by omega), if_pos rfl, if_pos rfl]
    exact ⟨rfl, rfl, rfl⟩
  · have hxk : x < k := by omega
    have hne : gsub k ≠ gsub x := fun h2 => e (gsub_inj k x hk (by omega) h2)
    obtain ⟨a, b, c⟩ := h x hxk
    rw [if_neg (by omega), if_neg (by omega), if_neg (by omega), if_neg (by omega), if_neg (by omega), if_neg (by omega), if_neg (by omega), if_neg (by omega), if_neg (by omega)]
    exact ⟨a, b, c⟩
theorem Tabs.back {T : List Nat} (h : Tabs T 256) (x : Nat) (hx : x < 256) : T.getD (256 + x) 0 = gback x := by
  have := (h.2 (gback x) (gback_lt x)).2.1
  rwa [sub_back x hx] at this

set_option maxRecDepth 100000 in
set_option maxHeartbeats 1600000 in
theorem newTables_any (w : World) :
    Calls Try.prog 66 #[] w fun e w' => ∃ T, e = .returned (.agg (by8 T).toArray) ∧ Tabs T 256 ∧ Below w.heap.size w w' := by
  obtain ⟨i0, hi, hz0, hz1, hz2⟩ := info_parts infoTB
  have hzl : zeroT.length = 768 := List.length_replicate
  have h0 : Tabs zeroT 0 := ⟨hzl, fun x hx => by omega⟩
  have infoS : (Try.prog.info? 91).map (·.size) = some 768 := by rw [hi, Option.map_some, hz1]
  generalize zeroT = Z at *
  have hO : Blk ((w.alloc (.cells (by8 Z).toArray 91)).alloc (.cells (by8 Z).toArray 91)) w.heap.size 91 (by8 Z) := (Blk.new w 91 (by8 Z) _ rfl).alloc _
  have hA : Blk ((w.alloc (.cells (by8 Z).toArray 91)).alloc (.cells (by8 Z).toArray 91)) (w.heap.size + 1) 91 (by8 Z) := by
    have h := Blk.new (w.alloc (.cells (by8 Z).toArray 91)) 91 (by8 Z) _ rfl
    rw [World.size_alloc] at h
    exact h
  have hX : Below w.heap.size w ((w.alloc (.cells (by8 Z).toArray 91)).alloc (.cells (by8 Z).toArray 91)) := ((Below.refl _ _).alloc (Nat.le_refl _) _).alloc (by simp) _
  go_enter Try.func66, Try.ntmps66
  go_wp2_with (refine wpList_alloc_blk rfl 91 rfl (by8 Z) i0 hi _ hz0 rfl ?_)
  go_loopw [5] (fun i wr => ∃ (k : Nat) (T : List Nat), k ≤ 256 ∧ i = .int .i64 k ∧ Tabs T k ∧ Blk wr w.heap.size 91 (by8 Z) ∧ Blk wr (w.heap.size + 1) 91 (by8 T) ∧ Below w.heap.size w wr) (fun i _ => 256 - (intOf i).toNat)
  case atStart => exact ⟨0, Z, by omega, rfl, h0, hO, hA, hX⟩
  case round =>
    clear hA hO hX
    obtain ⟨k, T, hk, rfl, hTa, hO, hA, hnx⟩ := hrel
    by_cases hlt : k < 256
    · have d0 : decide ((k : Int) < 256) = true := by simp; omega
      have hw : (k : Int) % 256 = (k : Int) := by omega
      have hst := hTa.step hlt
      have HST : Hid _ := hst
      have hTl := hTa.1
      clear hst hTa
      have f1 := sub_good k hlt
      have f2 : ∀ w, Calls Try.prog 82 #[.int .u8 2, .int .u8 k] w fun e w' => e = .returned (.int .u8 (gm 2 k)) ∧ w' = w := mul_good 2 k (by decide) hlt
      have hs := gsub_lt k
      generalize gsub k = s at *
      generalize gm 2 k = d at *
      have c1 := hA.cell k _ (by8_get _ k (by omega))
      have z1 := hA.frozen k
      have hA1 := hA.set k (.int .u8 (s : Int))
      rw [by8_set] at hA1
      have c2 := hA1.cell (256 + s) _ (by8_get _ (256 + s) (by rw [List.length_set]; omega))
      have z2 := hA1.frozen (256 + s)
      have hA2 := hA1.set (256 + s) (.int .u8 (k : Int))
      rw [by8_set] at hA2
      have c3 := hA2.cell (512 + k) _ (by8_get _ (512 + k) (by rw [List.length_set, List.length_set]; omega))
      have z3 := hA2.frozen (512 + k)
      have hA3 := hA2.set (512 + k) (.int .u8 (d : Int))
      rw [by8_set] at hA3
      have HA3 : Hid _ := hA3
      clear hA1 hA2 hA3
      have kz : (k : Int) < 256 := by omega
      have k0 : (0 : Int) ≤ (k : Int) := by omega
      have sz : (s : Int) < 256 := by omega
      have s0 : (0 : Int) ≤ (s : Int) := by omega
      go_wp2_with (first
        | (go_at_call 81; refine (f1 _).mono ?_; rintro e w1 ⟨rfl, rfl⟩)
        | (go_at_call 82; refine (f2 _).mono ?_; rintro e w1 ⟨rfl, rfl⟩))
      go_roundw
      case rel => exact ⟨k + 1, _, by omega, by go_num, HST.out, ((hO.other (by simp) _).other (by simp) _).other (by simp) _, HA3.out, ((hnx.setCell (by simp) _).setCell (by simp) _).setCell (by simp) _⟩
      case measure => simp [intOf]; omega
    · obtain rfl : k = 256 := by omega
      have d0 : decide (((256 : Nat) : Int) < 256) = false := by decide
      have hTl := hTa.1
      have HTA : Hid (Tabs T 256) := hTa
      clear hTa
      go_wp2_with (first | (refine wpList_load_blk rfl 91 (.tmp 1) rfl (w.heap.size + 1) 0 rfl hA (by8 T) (by simp) _ Try.underlying91 rfl (by rw [by8_length, hTl]; exact infoS) ?_) | (refine wpList_store_blk rfl 91 (.tmp 0) (.tmp 26) rfl w.heap.size (by8 T) rfl rfl (by8 Z) hO (by rw [by8_length, by8_length, hTl, hzl]) (by8_one _) (by rw [by8_length, hzl]; exact infoS) ?_; intro W hW))
      exact bodyPost_ret (results_blk1 Try.results66 _ rfl hW.blk _ Try.underlying91 rfl (by rw [by8_length, hTl]; exact infoS)) rfl ⟨T, rfl, HTA.out, hW.below _ _ (by omega) hnx⟩
end Go.Proofs.Ytibdlccaenanmaa.aes
