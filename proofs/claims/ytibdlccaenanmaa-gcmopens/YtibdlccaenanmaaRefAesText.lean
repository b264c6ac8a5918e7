/-
  THE WALKS OF the document's own texts of bytes: xor, zeros; of an Aes's subbed and key.
-/
import Derived.Test.YtibdlccaenanmaaPlainAes
import Derived.Test.YtibdlccaenanmaaRow
import Derived.Test.YtibdlccaenanmaaBlk
import Derived.Test.YtibdlccaenanmaaUp
import Derived.Test.YtibdlccaenanmaaChr
import Derived.Test.YtibdlccaenanmaaShelf
import Derived.Test.YtibdlccaenanmaaShelfStr
import Derived.Test.YtibdlccaenanmaaGaloisMul
import Derived.PlainAid
namespace Go.Proofs.Ytibdlccaenanmaa.aes
open Go.RowKit
open Go.Proofs.Ytibdlccaenanmaa.gal

theorem bt_nb (s : ByteArray) (k : Nat) (h : k < s.size) : PlainAid.bt s k = (((nb s).getD k 0 : Nat) : Int) := by
  have h1 : k < s.data.toList.length := by simpa using h
  rw [← PlainAid.get_bt s k h, nb, List.getD_eq_getElem?_getD, List.getElem?_map, List.getElem?_eq_getElem h1]
  simp
  rfl
theorem tx_append (l m : List Nat) : tx l ++ tx m = tx (l ++ m) := by
  apply ByteArray.ext
  simp [tx]
theorem chr8 (z : Nat) (h : z < 256) (w : World) : Calls Try.prog 45 #[.int .i64 (z : Int)] w fun e w' => e = .returned (.string (tx [z])) ∧ Below w.heap.size w w' := by
  have := num.chr_any (z : Int) (by omega) (by omega) w
  rw [Int.toNat_natCast] at this
  exact this
theorem tx_none : tx [] = ⟨#[]⟩ := rfl

set_option maxRecDepth 100000 in
set_option maxHeartbeats 800000 in
theorem xor_any (a b : ByteArray) (n : Nat) (ha : a.size = n) (hb : n ≤ b.size) (hn : n ≤ 1000000) (w : World) :
    Calls Try.prog 36 #[.string a, .string b] w fun e w' => e = .returned (.string (tx (xorN n (nb a) (nb b)))) ∧ Below w.heap.size w w' := by
  have oa := nb_lt a
  have ob := nb_lt b
  have hga := PlainAid.get_bt a
  have hgb := PlainAid.get_bt b
  have za : (a.size : Int) = (n : Int) := by omega
  obtain ⟨F, HF⟩ : ∃ F : Nat → Nat, Hid (F = fun j => (nb a).getD j 0 ^^^ (nb b).getD j 0) := ⟨_, rfl⟩
  go_enter Try.func36, Try.ntmps36
  go_wp2_with fail
  go_loopw [5, 9] (fun t i wr => ∃ k : Nat, k ≤ n ∧ i = .int .i64 k ∧ t = .string (tx (mk k F)) ∧ Below w.heap.size w wr) (fun _ i _ => n - (intOf i).toNat)
  case atStart => exact ⟨0, by omega, rfl, rfl, Below.refl _ _⟩
  case round =>
    obtain ⟨k, hk, rfl, rfl, hnx⟩ := hrel
    by_cases hlt : k < n
    · have d0 : decide ((k : Int) < (n : Int)) = true := by simp; omega
      have i0 : k < a.size := by omega
      have i1 : k < b.size := by omega
      have j0 : (k : Int) < (n : Int) := by omega
      have j1 : (k : Int) < (b.size : Int) := by omega
      have k0 : (0 : Int) ≤ (k : Int) := by omega
      have e1 := bt_nb a k i0
      have e2 := bt_nb b k i1
      have x1 := xor8 _ _ (show (nb a).getD k 0 < 256 from Ok.get oa k) (show (nb b).getD k 0 < 256 from Ok.get ob k)
      have x2 := xor_lt (show (nb a).getD k 0 < 256 from Ok.get oa k) (show (nb b).getD k 0 < 256 from Ok.get ob k)
      have HU : Hid (tx (mk k F) ++ tx [(nb a).getD k 0 ^^^ (nb b).getD k 0] = tx (mk (k + 1) F)) := by
        show _ = _
        rw [tx_append, mk_succ, HF.out]
      generalize (nb a).getD k 0 ^^^ (nb b).getD k 0 = z at *
      generalize (nb a).getD k 0 = x at *
      generalize (nb b).getD k 0 = y at *
      have F1 : Hid (∀ y : Up wr, Calls Try.prog 45 #[.int .i64 (z : Int)] y.1 fun e w' => e = .returned (.string (tx [z])) ∧ Below y.1.heap.size y.1 w') := fun y => chr8 z x2 y.1
      have s1 : (tx (mk k F)).size = k := by rw [tx_size, mk_length]
      have s2 : (tx [z]).size = 1 := tx_size _
      generalize tx [z] = Z at *
      generalize tx (mk k F) = T at *
      have hne := Up.some wr
      go_wp2_with fail
      refine wp_region_up (by kernel_rfl) (by kernel_rfl) ?_
      repeat (go_big_quiet_step (with_reducible exact calls_up (F1.out _)))
      refine wpQuiet_nil ?_
      rintro w1 ⟨y1, rfl⟩
      go_wp2_with fail
      go_roundw
      case rel => exact ⟨k + 1, by omega, by go_num, by rw [← HU.out], hnx.trans (y1.2.mono hnx.size)⟩
      case measure => simp [intOf]; omega
    · obtain rfl : k = n := by omega
      have d0 : decide ((k : Int) < (k : Int)) = false := by simp
      have HE : Hid (mk k F = xorN k (nb a) (nb b)) := by rw [HF.out]; rfl
      rw [HE.out]
      obtain ⟨T, HTx⟩ : ∃ T, Hid (T = tx (xorN k (nb a) (nb b))) := ⟨_, rfl⟩
      rw [← HTx.out]
      go_wp2_with fail
      go_ret
      exact ⟨by rw [← HTx.out]; rfl, hnx⟩
theorem zeros_3 (w : World) : Calls Try.prog 39 #[.int .i64 3] w fun e w' => e = .returned (.string (tx [0, 0, 0])) ∧ Below w.heap.size w w' := by
  have f1 : ∀ w, Calls Try.prog 45 #[.int .i64 0] w fun e w' => e = .returned (.string (tx [0])) ∧ Below w.heap.size w w' := chr8 0 (by decide)
  have f2 : ∀ w, Calls Try.prog 23 #[.string (tx [0]), .int .i64 3] w fun e w' => e = .returned (.string (tx [0, 0, 0])) ∧ Below w.heap.size w w' := fun w => Try.strings_Repeat (tx [0]) 3 w (by decide) (by decide)
  generalize tx [0, 0, 0] = T at *
  generalize tx [0] = Z at *
  go_enter Try.func39, Try.ntmps39
  go_wp2_with (first | (go_at_call 45; refine (f1 _).mono ?_; rintro e w1 ⟨rfl, hb1⟩) | (go_at_call 23; refine (f2 _).mono ?_; rintro e w2 ⟨rfl, hb2⟩))
  go_ret
  exact ⟨rfl, hb1.trans (hb2.mono hb1.size)⟩

/-- A table of bytes, from place o of block g on. -/
def Tab (w : World) (g : Nat) (f : Nat → Nat) : Prop := g < w.heap.size ∧ ∀ x, x < 256 → w.cell? ⟨g, x, none⟩ = some (.int .u8 ((f x : Nat) : Int))
theorem Tab.below {w w' : World} {B g : Nat} {f : Nat → Nat} (h : Tab w g f) (hb : Below B w w') (hg : g < B) : Tab w' g f := ⟨Nat.lt_of_lt_of_le h.1 hb.size, fun x hx => (hb.cell (p := ⟨g, x, none⟩) hg).trans (h.2 x hx)⟩

set_option maxRecDepth 100000 in
set_option maxHeartbeats 800000 in
theorem rsub_any (sg scap : Nat) (v2 : Value) (a : ByteArray) (n : Nat) (ha : a.size = n) (hn : n ≤ 1000) (w : World) (hT : Tab w sg gsub) :
    Calls Try.prog 57 #[.agg #[.slice (some ⟨sg, 0, none⟩) 256 scap, v2], .string a] w fun e w' => e = .returned (.string (tx (subN n (nb a)))) ∧ Below w.heap.size w w' := by
  have oa := nb_lt a
  have hga := PlainAid.get_bt a
  have za : (a.size : Int) = (n : Int) := by omega
  obtain ⟨F, HF⟩ : ∃ F : Nat → Nat, Hid (F = fun j => gsub ((nb a).getD j 0)) := ⟨_, rfl⟩
  have hB : Blk (w.alloc (.cells #[.slice (some ⟨sg, 0, none⟩) 256 scap, v2] 56)) w.heap.size 56 [.slice (some ⟨sg, 0, none⟩) 256 scap, v2] := Blk.new w 56 _ _ rfl
  have hX : Below w.heap.size w (w.alloc (.cells #[.slice (some ⟨sg, 0, none⟩) 256 scap, v2] 56)) := (Below.refl _ _).alloc (Nat.le_refl _) _
  have HT : Hid (Tab w sg gsub) := hT
  clear hT
  go_enter Try.func57, Try.ntmps57
  go_wp2_with fail
  go_loopw [5, 9] (fun t i wr => ∃ k : Nat, k ≤ n ∧ i = .int .i64 k ∧ t = .string (tx (mk k F)) ∧ Blk wr w.heap.size 56 [.slice (some ⟨sg, 0, none⟩) 256 scap, v2] ∧ Below w.heap.size w wr) (fun _ i _ => n - (intOf i).toNat)
  case atStart => exact ⟨0, by omega, rfl, rfl, hB, hX⟩
  case round =>
    clear hB hX
    obtain ⟨k, hk, rfl, rfl, hB, hnx⟩ := hrel
    by_cases hlt : k < n
    · have d0 : decide ((k : Int) < (n : Int)) = true := by simp; omega
      have i0 : k < a.size := by omega
      have j0 : (k : Int) < (n : Int) := by omega
      have k0 : (0 : Int) ≤ (k : Int) := by omega
      have e1 := bt_nb a k i0
      have b1 : (nb a).getD k 0 < 256 := Ok.get oa k
      have HU : Hid (tx (mk k F) ++ tx [gsub ((nb a).getD k 0)] = tx (mk (k + 1) F)) := by
        show _ = _
        rw [tx_append, mk_succ, HF.out]
      have hll := hB.lt
      have hTr := HT.out.below hnx HT.out.1
      have q1 : ∀ y : Up wr, y.1.cell? ⟨w.heap.size, 0, none⟩ = some (.slice (some ⟨sg, 0, none⟩) 256 scap) := fun y => (hB.below y.2 hll).cell 0 _ rfl
      have q2 : ∀ y : Up wr, y.1.cell? ⟨sg, (nb a).getD k 0, none⟩ = some (.int .u8 ((gsub ((nb a).getD k 0) : Nat) : Int)) := fun y => (hTr.below y.2 hTr.1).2 _ b1
      have zl := gsub_lt ((nb a).getD k 0)
      generalize (nb a).getD k 0 = x at *
      generalize gsub x = z at *
      have F1 : Hid (∀ y : Up wr, Calls Try.prog 45 #[.int .i64 (z : Int)] y.1 fun e w' => e = .returned (.string (tx [z])) ∧ Below y.1.heap.size y.1 w') := fun y => chr8 z zl y.1
      have s1 : (tx (mk k F)).size = k := by rw [tx_size, mk_length]
      have s2 : (tx [z]).size = 1 := tx_size _
      generalize tx [z] = Z at *
      generalize tx (mk k F) = T at *
      have xz : (x : Int) < 256 := by omega
      have x0 : (0 : Int) ≤ (x : Int) := by omega
      have hne := Up.some wr
      clear hTr
      go_wp2_with fail
      refine wp_region_up (by kernel_rfl) (by kernel_rfl) ?_
      repeat (go_big_quiet_step (with_reducible exact calls_up (F1.out _)))
      refine wpQuiet_nil ?_
      rintro w1 ⟨y1, rfl⟩
      go_wp2_with fail
      go_roundw
      case rel => exact ⟨k + 1, by omega, by go_num, by rw [← HU.out], hB.below y1.2 hll, hnx.trans (y1.2.mono hnx.size)⟩
      case measure => simp [intOf]; omega
    · obtain rfl : k = n := by omega
      have d0 : decide ((k : Int) < (k : Int)) = false := by simp
      have HE : Hid (mk k F = subN k (nb a)) := by rw [HF.out]; rfl
      rw [HE.out]
      obtain ⟨T, HTx⟩ : ∃ T, Hid (T = tx (subN k (nb a))) := ⟨_, rfl⟩
      rw [← HTx.out]
      go_wp2_with fail
      go_ret
      exact ⟨by rw [← HTx.out]; rfl, hnx⟩

/-- What an Aes's row of words holds. -/
def Words (w : World) (g N : Nat) (E : List Nat) : Prop := g < w.heap.size ∧ ∀ j, j < N → w.cell? ⟨g, j, none⟩ = some (.string (tx (word E j)))
theorem Words.below {w w' : World} {B g N : Nat} {E : List Nat} (h : Words w g N E) (hb : Below B w w') (hg : g < B) : Words w' g N E := ⟨Nat.lt_of_lt_of_le h.1 hb.size, fun j hj => (hb.cell (p := ⟨g, j, none⟩) hg).trans (h.2 j hj)⟩
/-- The texts of words i to i + m. -/
def wds (E : List Nat) (i m : Nat) : List ByteArray := (List.range m).map fun j => tx (word E (i + j))
theorem wds_length (E : List Nat) (i m : Nat) : (wds E i m).length = m := by simp [wds]
theorem wds_get (E : List Nat) (i m j : Nat) (x : ByteArray) (h : (wds E i m)[j]? = some x) : j < m ∧ x = tx (word E (i + j)) := by
  unfold wds at h
  rw [List.getElem?_map] at h
  obtain ⟨q, h1, rfl⟩ := Option.map_eq_some_iff.1 h
  obtain ⟨h2, rfl⟩ := List.getElem?_eq_some_iff.1 h1
  simp at h2 ⊢
  exact h2
theorem join_none (xs : List (List UInt8)) : Lib.join xs [] = xs.flatten := by
  induction xs with
  | nil => rfl
  | cons x r ih =>
    rw [Lib.join_cons, List.flatten_cons]
    congr 1
    unfold Lib.joinTail
    congr 1
    simp
/-- Bytes 4 i to 4 (i + m). -/
def run (E : List Nat) (i m : Nat) : List Nat := mk (4 * m) fun k => E.getD (4 * i + k) 0
theorem run_succ (E : List Nat) (i m : Nat) : run E i (m + 1) = run E i m ++ word E (i + m) := by
  refine ext_get (by rw [run, mk_length, List.length_append, run, mk_length, word_length]; omega) fun k hk => ?_
  rw [run, mk_length] at hk
  rw [run, mk_get _ _ _ hk, List.getD_eq_getElem?_getD (l := _ ++ _)]
  by_cases c : k < 4 * m
  · rw [List.getElem?_append_left (by rw [run, mk_length]; exact c), ← List.getD_eq_getElem?_getD, run, mk_get _ _ _ c]
  · rw [List.getElem?_append_right (by rw [run, mk_length]; omega), ← List.getD_eq_getElem?_getD, run, mk_length, word, mk_get _ _ _ (by omega), show 4 * (i + m) + (k - 4 * m) = 4 * i + k from by omega]
theorem wds_join (E : List Nat) (i : Nat) : ∀ m, (Lib.join ((wds E i m).map (·.data.toList)) []).toArray = (tx (run E i m)).data
  | 0 => rfl
  | m + 1 => by
    have ih := wds_join E i m
    rw [join_none] at ih ⊢
    have e : wds E i (m + 1) = wds E i m ++ [tx (word E (i + m))] := by simp [wds, List.range_succ]
    rw [e, List.map_append, List.flatten_append, run_succ, ← tx_append]
    have e2 : (List.map (fun x => x.data.toList) (wds E i m)).flatten = (tx (run E i m)).data.toList := by
      rw [← ih]
    rw [e2]
    apply Array.ext'
    simp
theorem wds_text (E : List Nat) (i m : Nat) : (⟨(Lib.join ((wds E i m).map (·.data.toList)) (⟨#[]⟩ : ByteArray).data.toList).toArray⟩ : ByteArray) = tx (run E i m) := by
  apply ByteArray.ext
  exact wds_join E i m
theorem join_words (g o c N m : Nat) (E : List Nat) (w : World) (hW : Words w g N E) (ho : o + m ≤ N) (hc : m ≤ c) (hm : m ≤ 1000) :
    Calls Try.prog 77 #[.slice (some ⟨g, o, none⟩) m c, .string ⟨#[]⟩] w fun e w' => e = .returned (.string (tx (run E o m))) ∧ Below w.heap.size w w' := by
  have h := Try.strings_Join g o c (wds E o m) ⟨#[]⟩ w (fun j x hx => by
    obtain ⟨h1, rfl⟩ := wds_get E o m j x hx
    exact hW.2 (o + j) (by omega)) hW.1 (by rw [wds_length]; omega) (by rw [wds_length]; exact hc) (by
    have := congrArg Array.size (wds_join E o m)
    rw [List.size_toArray] at this
    refine Nat.le_trans (Nat.le_of_eq this) ?_
    have : (tx (run E o m)).data.size = 4 * m := by
      have := tx_size (run E o m)
      rw [run, mk_length] at this
      exact this
    omega)
  rw [wds_text, wds_length] at h
  exact h
theorem run_rk (E : List Nat) (i : Nat) : run E (4 * i) 4 = rk E i := mk_congr fun k _ => by rw [show 4 * (4 * i) + k = 16 * i + k from by omega]
theorem infoSTR : (Try.prog.info? 9).map (·.size) = some 1 := by kernel_rfl
theorem sl_words (g N cap lo hi : Nat) (h0 : lo ≤ hi) (h1 : hi ≤ cap) (h2 : lo < cap) (w : World) : (Instr.sliceAt 54 (.slice (some ⟨g, 0, none⟩) N cap) (some (.int .i64 (lo : Int))) (some (.int .i64 (hi : Int))) none).run Try.prog w = .ok (.slice (some ⟨g, lo, none⟩) (hi - lo) (cap - lo)) w := by
  obtain ⟨j0, hj, hj1⟩ := Option.map_eq_some_iff.1 infoSTR
  have hne : ¬ cap = lo := by omega
  have e1 : (lo : Int) ≤ (hi : Int) := by omega
  simp [Instr.sliceAt, Instr.slice, run_underlying Try.underlying54, Instr.sliceBounds, Instr.sliceBound, asIntOf, sizeOf, typeInfo, hj, hj1, h0, h1, hne, Addr.add_mid]
set_option maxHeartbeats 400000 in
theorem key_any (v1 : Value) (g N cap i : Nat) (E : List Nat) (hi : 4 * i + 4 ≤ N) (hc : N ≤ cap) (hN : N ≤ 1000) (w : World) (hW : Words w g N E) :
    Calls Try.prog 58 #[.agg #[v1, .slice (some ⟨g, 0, none⟩) N cap], .int .i64 (i : Int)] w fun e w' => e = .returned (.string (tx (rk E i))) ∧ Below w.heap.size w w' := by
  have hX : Below w.heap.size w (w.alloc (.cells #[v1, .slice (some ⟨g, 0, none⟩) N cap] 56)) := (Below.refl _ _).alloc (Nat.le_refl _) _
  obtain ⟨q, hq⟩ : ∃ q, q = 4 * i := ⟨_, rfl⟩
  obtain ⟨r, hr⟩ : ∃ r, r = q + 4 := ⟨_, rfl⟩
  have hsl := sl_words g N cap q r (by omega) (by omega) (by omega)
  rw [show r - q = 4 from by omega] at hsl
  have f1 := join_words g q (cap - q) N 4 E _ (hW.below hX hW.1) (by omega) (by omega) (by decide)
  rw [hq, run_rk, ← hq] at f1
  generalize tx (rk E i) = T at *
  have e1 : 4 * (i : Int) = (q : Int) := by omega
  have e2 : (q : Int) + 4 = (r : Int) := by omega
  have qb : q ≤ 1000 := by omega
  clear hq hr
  go_enter Try.func58, Try.ntmps58
  go_wp2_with (go_at_call 77; refine f1.mono ?_; rintro e w1 ⟨rfl, hb1⟩)
  go_ret
  exact ⟨rfl, hX.trans (hb1.mono hX.size)⟩
end Go.Proofs.Ytibdlccaenanmaa.aes
