/-
  THE WALKS OF package sha's New, a Hash's Sum, and Sum.
-/
import Derived.Test.YtmkhojaddedpfaaDoorShaWrite
namespace Go.Proofs.YtmkhojaddedpfaaDoor.sha
open Go.RowKit
open Go.Proofs.YtmkhojaddedpfaaDoor.soft
open Go.Proofs.YtmkhojaddedpfaaDoor.cha (ad ad_lt rl Ws xor_lt)
open Go.Proofs.YtmkhojaddedpfaaDoor.ghs (tb tb_lt mkl mkl_length mkl_get)

def n64 : List Nat := List.replicate 64 0
theorem infoHz : (Tryd.prog.info? 88).map (fun i => (i.zero, i.size, i.bytes)) = some (some (.agg (tri z8 n64 0).toArray), 73, 104) := by kernel_rfl
theorem infoH : (Tryd.prog.info? 88).map (·.size) = some 73 := by kernel_rfl
theorem tri_one (S R : List Nat) (z : Nat) : (tri S R z).toArray.all (·.oneCell') = true := by simp [tri, wd, by8, Value.oneCell']
set_option maxRecDepth 100000 in
set_option maxHeartbeats 800000 in
theorem New_any (w : World) : Calls Tryd.prog 30 #[] w fun e w' => ∃ b, e = .returned (.pointer (some ⟨b, 0, none⟩)) ∧ w.heap.size ≤ b ∧ Blk w' b 88 (hc ⟨#[]⟩) ∧ Below w.heap.size w w' := by
  have f1 := begun_any w
  obtain ⟨i0, hi, hz0, hz1, hz2⟩ := info_parts infoHz
  have hfo : List.foldl (fun (cs : Array Value) (x : Value × Nat) => cs.setIfInBounds x.snd x.fst) (tri z8 n64 0).toArray (wd h0).zipIdx = (hc ⟨#[]⟩).toArray := by kernel_rfl
  have hsz : (tri z8 n64 0).toArray.size = 73 := by rw [List.size_toArray]; exact tri_length 0 rfl (by decide)
  generalize tri z8 n64 0 = Z at *
  have hzv : ∀ w, (zeroValue 88).run Tryd.prog w = .ok (.agg Z.toArray) w := fun w => by simp [zeroValue, typeInfo, hi, hz0]
  have hl8 : (wd h0).length = 8 := rfl
  generalize wd h0 = H at *
  generalize hc ⟨#[]⟩ = HV at *
  go_enter Tryd.func30, Tryd.ntmps30
  go_wp2_with (go_at_call 35; (refine f1.mono ?_); rintro e w1 ⟨rfl, hb1⟩)
  go_ret
  exact ⟨w1.heap.size, rfl, hb1.size, Blk.new w1 88 HV _ rfl, hb1.alloc hb1.size _⟩

set_option maxRecDepth 100000 in
set_option maxHeartbeats 1600000 in
theorem HSum_any (b : Nat) (s : ByteArray) (hlen : s.size < 576460752303423488) (w : World) (hT : Tab w) (hB : Blk w b 88 (hc s)) :
    Calls Tryd.prog 32 #[.pointer (some ⟨b, 0, none⟩)] w fun e w' => e = .returned (.string (shaT s)) ∧ Below w.heap.size w w' := by
  obtain ⟨i0, hi, hz0, hz1, hz2⟩ := info_parts infoHz
  have lZ := tri_length (S := z8) (R := n64) 0 rfl (by decide)
  have lH := hc_length s
  have oH : (hc s).toArray.all (·.oneCell') = true := tri_one _ _ _
  have hl := hB.lt
  have hGl := hT.lt
  have c72 := hB.cell 72 _ (tri_get72 s.size (stA_length _ _) (restL_length s))
  obtain ⟨z, hz⟩ : ∃ z, Hid (z = s.size) := ⟨_, rfl⟩
  rw [← hz.out] at c72
  obtain ⟨T, hTd⟩ : ∃ T, Hid (T = padT s.size) := ⟨_, rfl⟩
  have hTs : T.size ≤ 200 := by rw [hTd.out, padT_size]; have := nz_lt s.size; omega
  have f1 : ∀ w, Calls Tryd.prog 37 #[.int .u64 (z : Int)] w fun e w' => e = .returned (.string T) ∧ Below w.heap.size w w' := fun w => by
    rw [hz.out, hTd.out]
    exact behind_any s.size (by omega) w
  obtain ⟨F, HF⟩ : ∃ F, Hid (F = s ++ T) := ⟨_, rfl⟩
  have HFF : Hid (F = full s) := by show F = _; rw [HF.out, hTd.out]; rfl
  obtain ⟨S, HS⟩ : ∃ S, Hid (S = stA (tb F) (F.size / 64)) := ⟨_, rfl⟩
  have lS : S.length = 8 := by rw [HS.out]; exact stA_length _ _
  have oS : Ws S := by rw [HS.out]; exact stA_ok _ _
  have lwS : (wd S).length = 8 := by rw [wd_length, lS]
  have f3 := text_any S lS oS
  have HO : Hid (out S = shaT s) := by show _ = _; rw [HS.out, HFF.out]; rfl
  generalize tri z8 n64 0 = Z at *
  go_enter Tryd.func32, Tryd.ntmps32
  go_wp2_with (first
    | (refine wpList_load_blk rfl 88 (.tmp 5) rfl b 0 rfl hB (hc s) (by simp) _ Tryd.underlying88 rfl (by rw [lH]; exact infoH) ?_)
    | (refine wpList_alloc_blk rfl 88 rfl Z i0 hi _ hz0 rfl ?_; have g3 : Blk (w.alloc (.cells Z.toArray 88)) w.heap.size 88 Z := Blk.new w 88 Z _ rfl)
    | (refine wpList_store_blk rfl 88 (.tmp 3) (.tmp 6) rfl w.heap.size (hc s) rfl rfl Z g3 (by rw [lH, lZ]) oH (by rw [lZ]; exact infoH) ?_; intro W1 hW1; have hB1 : Blk W1 b 88 (hc s) := hW1.other _ _ _ (by omega) (hB.alloc _); have c72' := hB1.cell 72 _ (tri_get72 s.size (stA_length _ _) (restL_length s)); rw [← hz.out] at c72'))
  have hX1 : Below w.heap.size w W1 := hW1.below _ _ (Nat.le_refl _) ((Below.refl _ _).alloc (Nat.le_refl _) _)
  have hA1 := hW1.blk
  have hT1 := hT.grown hX1
  clear hW1 g3
  refine (f1 _).mono ?_
  rintro e w2 ⟨rfl, hb2⟩
  have f4 := write_any w.heap.size s T (by omega) w2 (hT1.grown hb2) (by omega) (hA1.below hb2 hA1.lt)
  rw [← HF.out] at f4
  have hX2 := hX1.trans (hb2.mono hX1.size)
  go_wp2_with (first
    | (go_at_call 31; (with_reducible refine f4.mono ?_); rintro e w3 ⟨rfl, hB3, hG3⟩; have hB4 : Blk w3 w.heap.size 88 (tri S (restL F) F.size) := (by rw [HS.out]; exact hB3))
    | (refine wpList_load_blk rfl 84 (.tmp 13) rfl w.heap.size 0 rfl hB4 (wd S) (tri_S S _ _) _ Tryd.underlying84 rfl (by rw [lwS]; exact infoST) ?_)
    | (go_at_call 38; (with_reducible refine (f3 _).mono ?_); rintro e w5 ⟨rfl, hb5⟩))
  go_ret
  have hX3 := hX2.grown hG3 hX2.size (fun j hj => by cases hj; exact Nat.le_refl _)
  exact ⟨by rw [← HO.out]; rfl, hX3.trans (hb5.mono hX3.size)⟩

set_option maxHeartbeats 800000 in
theorem Sum_any (s : ByteArray) (hlen : s.size < 576460752303423488) (w : World) (hT : Tab w) :
    Calls Tryd.prog 22 #[.string s] w fun e w' => e = .returned (.string (shaT s)) ∧ Below w.heap.size w w' := by
  have f1 := New_any w
  have hGl := hT.lt
  obtain ⟨R, HR⟩ : ∃ R, Hid (R = shaT s) := ⟨_, rfl⟩
  go_enter Tryd.func22, Tryd.ntmps22
  go_wp2_with (go_at_call 30; (refine f1.mono ?_); rintro e w1 ⟨b, rfl, hb, hB1, hb1⟩)
  have f2 := write_any b ⟨#[]⟩ s (by show 0 + s.size < _; omega) w1 (hT.grown hb1) (by omega) hB1
  rw [show (⟨#[]⟩ : ByteArray) ++ s = s from ByteArray.empty_append] at f2
  go_wp2_with (go_at_call 31; (with_reducible refine f2.mono ?_); rintro e w2 ⟨rfl, hB2, hG2⟩)
  have hX2 := hb1.grown hG2 hb1.size (fun j hj => by cases hj; exact hb)
  have f3 := HSum_any b s hlen w2 (hT.grown hX2) hB2
  rw [← HR.out] at f3
  go_wp2_with (go_at_call 32; (with_reducible refine f3.mono ?_); rintro e w3 ⟨rfl, hb3⟩)
  go_ret
  exact ⟨by rw [← HR.out]; rfl, hX2.trans (hb3.mono hX2.size)⟩
end Go.Proofs.YtmkhojaddedpfaaDoor.sha
