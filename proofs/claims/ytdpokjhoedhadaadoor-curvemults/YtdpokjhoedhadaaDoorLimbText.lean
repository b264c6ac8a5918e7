/-
  THE WALK OF package elem's numbers: text.
-/
import Derived.Test.YtdpokjhoedhadaaDoorLimbRead
import Derived.Deep.AppendLies
namespace Go.Proofs.YtdpokjhoedhadaaDoor.limb
open Go.RowKit
open Go.Proofs.YtdpokjhoedhadaaDoor.num (P N nB nB_bd mem_getD leB)

theorem infoB : (Tryd.prog.info? 5).map (fun i => (i.zero, i.size, i.bytes)) = some (some (.int .u8 0), 1, 1) := by kernel_rfl
/-- Bytes, as cells. -/
def cellsOf (l : List UInt8) : List Value := l.map fun b => .int .u8 (b.toNat : Int)
/-- The text of a row of bytes that the call owns. -/
theorem conv_own {w : World} {base g n cap : Nat} {l : List UInt8} (hown : w.ownsRow base 5 1 (.slice (some ⟨g, 0, none⟩) n cap) n (cellsOf l)) :
    (convert 30 9 (.slice (some ⟨g, 0, none⟩) n cap)).run Tryd.prog w = .ok (.string ⟨l.toArray⟩) w := by
  have hn : l.length = n := by have := hown.1; simpa [cellsOf] using this
  subst hn
  refine run_convert_bytes_back w 30 9 5 ⟨g, 0, none⟩ cap l Tryd.underlying30 Tryd.underlying5 Tryd.underlying9 fun j hj => ?_
  have h := hown.cellAt j (by omega)
  have hadd : (⟨g, 0, none⟩ : Addr).add j = ⟨g, j, none⟩ := by unfold Addr.add; split <;> simp_all
  rw [hadd, h]
  simp [cellsOf, List.getElem?_eq_getElem hj]
/-- The bytes of limbs. -/
def bytesL (l : List Int) : List UInt8 := l.flatMap fun d => leB 4 d
theorem bytesL_append (a b : List Int) : bytesL (a ++ b) = bytesL a ++ bytesL b := by simp [bytesL]
theorem leB_add (m n : Nat) (v : Int) : leB (m + n) v = leB m v ++ leB n (v / 256 ^ m) := by
  induction m generalizing v with
  | zero => simp [leB]
  | succ m ih =>
    rw [show m + 1 + n = (m + n) + 1 from by omega]
    simp only [leB, List.cons_append]
    rw [ih, Int.ediv_ediv_of_nonneg (by decide), Int.pow_succ, Int.mul_comm (256 ^ m)]
theorem leB_low (v : Int) : leB 4 (v % 4294967296) = leB 4 v := by
  simp only [leB]
  rw [show v % 4294967296 % 256 = v % 256 from by omega, show v % 4294967296 / 256 % 256 = v / 256 % 256 from by omega, show v % 4294967296 / 256 / 256 % 256 = v / 256 / 256 % 256 from by omega, show v % 4294967296 / 256 / 256 / 256 % 256 = v / 256 / 256 / 256 % 256 from by omega]
theorem bytes_dg (n : Nat) (v : Int) : bytesL (dg n v) = leB (4 * n) v := by
  induction n generalizing v with
  | zero => rfl
  | succ n ih =>
    have e : bytesL (dg (n + 1) v) = leB 4 (v % 4294967296) ++ bytesL (dg n (v / 4294967296)) := by simp [bytesL, dg]
    rw [e, ih, leB_low, show 4 * (n + 1) = 4 + 4 * n from by omega, leB_add]
    rfl
theorem ofNat_int (x : Int) (h0 : 0 ≤ x) (h1 : x < 256) : (((UInt8.ofNat x.toNat).toNat : Nat) : Int) = x := by
  rw [UInt8.toNat_ofNat_of_lt' (by have : UInt8.size = 256 := rfl; omega), Int.toNat_of_nonneg h0]
theorem text_step (l : List Int) (k : Nat) (hk : k < l.length) (a : Int) (ha : l.getD k 0 = a) (a0 : 0 ≤ a) (a1 : a < 4294967296) : cellsOf (bytesL (l.take (k + 1))) = cellsOf (bytesL (l.take k)) ++ [.int .u8 (a % 256), .int .u8 (a / 256 % 256), .int .u8 (a / 65536 % 256), .int .u8 (a / 16777216)] := by
  have e : l[k] = a := by rw [← ha, List.getD_eq_getElem?_getD, List.getElem?_eq_getElem hk]; rfl
  rw [List.take_succ_eq_append_getElem hk, bytesL_append, e]
  have e2 : bytesL [a] = leB 4 a := by simp [bytesL]
  rw [e2]
  simp only [cellsOf, List.map_append, leB, List.map_cons, List.map_nil]
  rw [ofNat_int _ (by omega) (by omega), ofNat_int _ (by omega) (by omega), ofNat_int _ (by omega) (by omega), ofNat_int _ (by omega) (by omega)]
  rw [show a / 256 / 256 = a / 65536 from by omega, show a / 65536 / 256 % 256 = a / 16777216 from by omega]

set_option maxRecDepth 100000 in
set_option maxHeartbeats 800000 in
theorem text_list (l : List Int) (hl : l.length = 8) (hs : ok l) (w : World) :
    Calls Tryd.prog 58 #[.agg (ints l)] w fun e w' => e = .returned (.string ⟨(bytesL l).toArray⟩) ∧ Below w.heap.size w w' := by
  obtain ⟨i0, hi, hz0, hz1, hz2⟩ := info_parts infoB
  have hL : Arr (w.alloc (.cells (ints l) 59)) w.heap.size 59 l := Arr.new w 59 l
  have hX : Below w.heap.size w (w.alloc (.cells (ints l) 59)) := (Below.refl _ _).alloc (Nat.le_refl _) _
  have hXs : (w.alloc (.cells (ints l) 59)).heap.size = w.heap.size + 1 := by simp
  go_enter Tryd.func58, Tryd.ntmps58
  go_wp2_with (first | (at_make; refine wpList_make_own _ rfl _ _ 30 rfl w.heap.size 5 i0 (.int .u8 0) 1 Tryd.underlying30 hi hz0 hz1 _ _ _ 32 rfl rfl (by omega) (by rw [hz2]; omega) (by unfold maxLen; omega) (by rw [hXs]; omega) ?_; intro w1 hown hgrow; have hB1 := (Below.refl (w.heap.size + 1) (w.alloc (.cells (ints l) 59))).grown hgrow (Nat.le_of_eq hXs.symm) (fun k hk => by cases hk)) | (refine wpList_load_arr rfl 59 (.tmp 1) rfl w.heap.size rfl l _ (hL.below hB1 (by omega)) Tryd.underlying59 rfl (by rw [hl]; exact infoNR) ?_))
  go_loopw [3, 8] (fun v i wr => ∃ k : Nat, k ≤ 8 ∧ i = .int .i64 k ∧ (∃ g cap, v = .slice (some ⟨g, 0, none⟩) (4 * k) cap) ∧ wr.ownsRow w.heap.size 5 1 v (4 * k) (cellsOf (bytesL (l.take k))) ∧ Below w.heap.size w wr)
    (fun _ i _ => 8 - (intOf i).toNat)
  case atStart =>
    rw [hXs] at hown
    exact ⟨0, Nat.zero_le _, rfl, ⟨_, _, rfl⟩, hown, hX.trans (hB1.mono (by omega))⟩
  case round =>
    obtain ⟨k, hk, rfl, ⟨g, cap, rfl⟩, hown1, hnx⟩ := hrel
    have hsz := hnx.size
    by_cases hlt : k < 8
    · have hix := idx l hl k hlt
      have ba := ok_get hs k
      have HS := text_step l k (by omega)
      generalize l.getD k 0 = a at *
      obtain ⟨ba0, ba1⟩ := ba
      have HT : Hid _ := HS a rfl ba0 ba1
      clear HS
      have hkz : (k : Int) < 8 := by omega
      go_wp2_with (at_builtin; refine wpList_append_lies _ rfl _ _ 30 rfl w.heap.size 5 i0 _ 1 1 Tryd.underlying30 hi hz0 hz1 hz2 rfl (by omega) (.slice (some ⟨g, 0, none⟩) (4 * k) cap) (4 * k) _ rfl (hown1.alloc _) ⟨wr.heap.size, 0, none⟩ 4 4 [.int .u8 (a % 256), .int .u8 (a / 256 % 256), .int .u8 (a / 65536 % 256), .int .u8 (a / 16777216)] rfl rfl (World.news_of_block (cs := #[.int .u8 (a % 256), .int .u8 (a / 256 % 256), .int .u8 (a / 65536 % 256), .int .u8 (a / 16777216)]) (t := 5) (fr := (0, 0)) (heap_alloc_new wr _)) (by simp [Value.oneCell']) (by omega) (by unfold maxLen; omega) (by omega) (by simp; omega) (wr.heap.size + 1) (by simp) ?_; intro gg cap1 w2 hown3 hgrow2 hat hltg)
      go_roundw
      case rel => exact ⟨k + 1, by omega, by go_num, ⟨gg, cap1, rfl⟩, by rw [HT.out]; exact hown3, (hnx.alloc (by omega) _).grown hgrow2 (by simp; omega) (fun j hj => by cases hj; exact (hown1.lt _ rfl).1)⟩
      case measure => simp [intOf]; omega
    · obtain rfl : k = 8 := by omega
      rw [List.take_of_length_le (by omega)] at hown1
      have hcv := conv_own hown1
      go_wp2
      go_ret
      exact ⟨rfl, hnx⟩
theorem text_any (v : Int) (w : World) :
    Calls Tryd.prog 58 #[.agg (ints (dg 8 (v % P)))] w fun e w' => e = .returned (.string (num.text v)) ∧ Below w.heap.size w w' := by
  have h := text_list (dg 8 (v % P)) (dg_length _ _) (dg_ok _ _) w
  rw [bytes_dg] at h
  exact h
end Go.Proofs.YtdpokjhoedhadaaDoor.limb
