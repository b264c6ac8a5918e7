/-
  THE WALK OF the document's stirred.
-/
import Derived.Test.YtjcgodojbpfooaaRefLow
import Derived.Test.YtjcgodojbpfooaaRefChaQuarter
import Derived.ArgAppend
import Derived.Deep.AppendLies
namespace Go.Proofs.Ytjcgodojbpfooaa.cha
open Go.RowKit
open Go.Proofs.Ytjcgodojbpfooaa.soft
open Go.Proofs.Ytjcgodojbpfooaa.ghs (bt_nb tb tb_lt tb_tx mkl mkl_length mkl_get mkl_succ upl upl_length upl_all tx_ext)

/-- The text that opens a state. -/
def sgT : ByteArray := ⟨#[101, 120, 112, 97, 110, 100, 32, 51, 50, 45, 98, 121, 116, 101, 32, 107]⟩
/-- All sixteen numbers of 64 bytes. -/
theorem beg_T (s : ByteArray) : mkl 16 (num (tb (sgT ++ s))) = beg s :=
  tx_ext (by rw [mkl_length, beg_length]) fun i hi => by
    rw [mkl_length] at hi
    rw [mkl_get _ _ _ hi, beg, List.getD_eq_getElem?_getD]
    have hz : sgT.size = 16 := rfl
    by_cases c : i < 4
    · rw [List.getElem?_append_left (by exact c), ← List.getD_eq_getElem?_getD]
      refine (num_congr (g := tb sgT) (j := i) fun k hk => tb_app1 _ _ _ (by omega)).trans ?_
      have : i = 0 ∨ i = 1 ∨ i = 2 ∨ i = 3 := by omega
      rcases this with rfl | rfl | rfl | rfl <;> decide +kernel
    · obtain ⟨j, rfl⟩ : ∃ j, i = 4 + j := ⟨i - 4, by omega⟩
      rw [List.getElem?_append_right (by show 4 ≤ 4 + j; omega), show 4 + j - sgm.length = j from by show 4 + j - 4 = j; omega, ← List.getD_eq_getElem?_getD, mkl_get _ _ _ (by omega)]
      refine num_congr fun k hk => ?_
      rw [show 4 * (4 + j) + k = sgT.size + (4 * j + k) from by omega, tb_app2]
/-- Place r of round k, x. -/
def pl (k x r : Nat) : Nat := 4 * r + (k + r * x) % 4
theorem pl_lt (k x r : Nat) (h : r < 4) : pl k x r < 16 := by unfold pl; omega
theorem step_pl (l : List Nat) (i : Nat) : step l i = st l (pl (i % 4) (i / 4 % 2) 0) (pl (i % 4) (i / 4 % 2) 1) (pl (i % 4) (i / 4 % 2) 2) (pl (i % 4) (i / 4 % 2) 3) := by
  unfold step pl
  rw [Nat.zero_mul, Nat.one_mul, show 4 * 0 + (i % 4 + 0) % 4 = i % 4 from by omega]
/-- What loops leave. -/
def pt (l : List Nat) (k x : Nat) (q : List Nat) : Nat → List Nat
  | 0 => l
  | r + 1 => (pt l k x q r).set (pl k x r) (q.getD r 0)
theorem pt_length (l : List Nat) (k x : Nat) (q : List Nat) : ∀ r, (pt l k x q r).length = l.length
  | 0 => rfl
  | r + 1 => by rw [pt, List.length_set, pt_length l k x q r]
theorem pt_4 (l : List Nat) (k x : Nat) (q : Q) : pt l k x (q4 q) 4 = put4 l (pl k x 0) (pl k x 1) (pl k x 2) (pl k x 3) q := rfl
def is4 (l : List Nat) : List Value := l.map fun n : Nat => Value.int .i64 (n : Int)
theorem is4_length (l : List Nat) : (is4 l).length = l.length := by simp [is4]
theorem is4_get (l : List Nat) (j : Nat) (h : j < l.length) : (is4 l)[j]? = some (.int .i64 ((l.getD j 0 : Nat) : Int)) := by simp [is4, h]
theorem is4_set (l : List Nat) (j n : Nat) : (is4 l).set j (.int .i64 (n : Int)) = is4 (l.set j n) := by simp [is4, List.map_set]
def z4n : List Nat := [0, 0, 0, 0]
theorem infoU32' : (Try.prog.info? 37).map (fun i => (i.zero, i.size, i.bytes)) = some (some (.int .u32 0), 1, 4) := by kernel_rfl

theorem num_in (s : ByteArray) (k : Nat) : num (tb (s.extract (4 * k) (4 * k + 4))) 0 = num (tb s) k := by
  have : ∀ j, j < 4 → tb (s.extract (4 * k) (4 * k + 4)) j = tb s (4 * k + j) := fun j hj => by
    unfold tb nb
    rw [ByteArray.data_extract, Array.toList_extract, List.getD_eq_getElem?_getD, List.getD_eq_getElem?_getD, List.getElem?_map, List.getElem?_map]
    simp [List.extract, List.getElem?_drop, hj]
  exact num_congr fun j hj => by rw [Nat.mul_zero, Nat.zero_add]; exact this j hj
set_option maxRecDepth 100000 in
set_option maxHeartbeats 8000000 in
theorem rstirred_any (s : ByteArray) (hs : s.size = 48) (w : World) :
    Calls Try.prog 46 #[.string s] w fun e w' => e = .returned (.tuple #[.string (sgT ++ s), .string (told (cha.stirred (beg s)))]) ∧ Below w.heap.size w w' := by
  obtain ⟨i0, hi, hz0, hz1, hz2⟩ := info_parts infoU32'
  have HBT : Hid (mkl 16 (num (tb (sgT ++ s))) = beg s) := beg_T s
  have hts : (sgT ++ s).size = 64 := by rw [ByteArray.size_append]; show 16 + s.size = 64; omega
  obtain ⟨T, hT⟩ : ∃ T, T = sgT ++ s := ⟨_, rfl⟩
  have HT : Hid (sgT ++ s = T) := hT.symm
  rw [HT.out] at HBT hts ⊢
  have hT' : (⟨#[101, 120, 112, 97, 110, 100, 32, 51, 50, 45, 98, 121, 116, 101, 32, 107]⟩ : ByteArray) ++ s = T := hT.symm
  clear hT
  have hsz : s.size = 48 := hs
  clear hs
  obtain ⟨E, HE⟩ : ∃ E, Hid (E = beg s) := ⟨_, rfl⟩
  have hEl : E.length = 16 := by rw [HE.out, beg_length]
  have hEo : Ws E := by rw [HE.out]; exact beg_ok s
  rw [← HE.out] at HBT ⊢
  clear HE
  obtain ⟨R, HRR⟩ : ∃ R, Hid (R = told (cha.stirred E)) := ⟨_, rfl⟩
  rw [← HRR.out]
  have hown0 : w.ownsRow w.heap.size 37 1 (.slice none 0 0) 0 (wd (mkl 0 (num (tb T)))) := World.ownsRow_nil _ _ _ _
  go_enter Try.func46, Try.ntmps46
  go_wp2_with fail
  go_loopw [4, 19] (fun v i wr => ∃ k : Nat, k ≤ 16 ∧ i = .int .i64 k ∧ wr.ownsRow w.heap.size 37 1 v k (wd (mkl k (num (tb T)))) ∧ Below w.heap.size w wr) (fun _ i _ => 16 - (intOf i).toNat)
  case atStart => exact ⟨0, by omega, rfl, hown0, Below.refl _ _⟩
  case round =>
    clear hown0
    obtain ⟨k, hk, rfl, hown, hnx⟩ := hrel
    by_cases hlt : k < 16
    · have d0 : decide ((k : Int) < 16) = true := by simp; omega
      obtain ⟨q, hq⟩ : ∃ q, q = 4 * k := ⟨_, rfl⟩
      obtain ⟨q2, hq2⟩ : ∃ q2, q2 = q + 4 := ⟨_, rfl⟩
      have e1 : 4 * (k : Int) = (q : Int) := by omega
      have e2 : (q : Int) + 4 = (q2 : Int) := by omega
      have hsl := cv.sl_in T q q2 (by omega) (by omega)
      have hes : (T.extract q q2).size = 4 := by rw [ByteArray.size_extract]; omega
      have f1 := of4 (T.extract q q2) hes
      have hne : num (tb (T.extract q q2)) 0 = num (tb T) k := by rw [hq2, hq]; exact num_in T k
      rw [hne] at f1
      have ln := num_lt (tb_lt T) k
      have HU : Hid (mkl (k + 1) (num (tb T)) = mkl k (num (tb T)) ++ [num (tb T) k]) := mkl_succ _ _
      clear hne hes
      generalize num (tb T) k = x at *
      generalize mkl k (num (tb T)) = L at *
      generalize T.extract q q2 = X at *
      have HQ : Hid (q = 4 * k) := hq
      clear hq hq2
      have hsz1 := hnx.size
      have hol := hown.lt
      go_wp2_with (first
        | (go_at_call 60; (with_reducible refine (f1 _).mono ?_); rintro e w1 ⟨rfl, hb1⟩; have hown1 := cv.own_below hown hb1 (fun b hb => (hol b hb).2); have hz1' := hb1.size)
        | (at_builtin; refine wpList_append_lies _ rfl _ _ 68 rfl w.heap.size 37 i0 _ 1 4 Try.underlying68 hi hz0 hz1 hz2 rfl (by omega) _ k _ rfl (hown1.alloc _) ⟨w1.heap.size, 0, none⟩ 1 1 [.int .u32 (x : Int)] rfl rfl (World.news_of_block (cs := #[.int .u32 (x : Int)]) (t := 37) (fr := (0, 0)) (heap_alloc_new w1 _)) (by simp [Value.oneCell']) (by omega) (by unfold maxLen; omega) (by omega) (by simp; omega) (w1.heap.size + 1) (by simp) ?_; intro gg cap1 w2 hown3 hgrow2 hat hltg))
      go_roundw
      case rel => exact ⟨k + 1, by omega, by go_num, by rw [HU.out, wd_append]; exact hown3, ((hnx.trans (hb1.mono hsz1)).alloc (by omega) _).grown hgrow2 (by simp; omega) (fun j hj => (hol j hj).1)⟩
      case measure => simp [intOf]; omega
    · obtain rfl : k = 16 := by omega
      have d0 : decide (((16 : Nat) : Int) < 16) = false := by decide
      obtain ⟨g, cap, rfl, hge, hglt⟩ := hown.form (by decide)
      have hR0 := Row.own hown
      rw [HBT.out] at hR0
      have hX0 := hnx
      rw [show ((16 : Nat) : Int) = 16 from rfl] at *
      clear hown hnx
      go_wp2_with fail
      go_loopw [35] (fun iv wr => ∃ i : Nat, i ≤ 80 ∧ iv = .int .i64 i ∧ Row wr w.heap.size 1 g 16 cap (wd (rds E i)) ∧ Below w.heap.size w wr) (fun iv _ => 80 - (intOf iv).toNat)
      case atStart => exact ⟨0, by omega, rfl, hR0, hX0⟩
      case round =>
        clear hR0 hX0
        obtain ⟨i, hi80, rfl, hR, hnx⟩ := hrel
        by_cases hlt : i < 80
        · have d1 : decide ((i : Int) < 80) = true := by simp; omega
          have HST : Hid (rds E (i + 1) = st (rds E i) (pl (i % 4) (i / 4 % 2) 0) (pl (i % 4) (i / 4 % 2) 1) (pl (i % 4) (i / 4 % 2) 2) (pl (i % 4) (i / 4 % 2) 3)) := step_pl _ _
          have hLl : (rds E i).length = 16 := by rw [rds_length, hEl]
          have hLo := rds_ok hEo i
          generalize rds E i = L at *
          obtain ⟨k, hkk⟩ : ∃ k, k = i % 4 := ⟨_, rfl⟩
          obtain ⟨j, hjj⟩ : ∃ j, j = i / 4 := ⟨_, rfl⟩
          obtain ⟨x, hxx⟩ : ∃ x, x = j % 2 := ⟨_, rfl⟩
          have t1 : (i : Int).tmod 4 = (k : Int) := by rw [Int.tmod_eq_emod_of_nonneg (by omega)]; omega
          have t2 : (i : Int).tdiv 4 = (j : Int) := by rw [Int.tdiv_eq_ediv_of_nonneg (by omega)]; omega
          have t3 : (j : Int).tmod 2 = (x : Int) := by rw [Int.tmod_eq_emod_of_nonneg (by omega)]; omega
          have t1' : (i : Int) % 4 = (k : Int) := by omega
          have t2' : (i : Int) / 4 = (j : Int) := by omega
          have t3' : (j : Int) % 2 = (x : Int) := by omega
          have hx2 : x < 2 := by omega
          have hk4 : k < 4 := by omega
          rw [← hkk, ← hjj, ← hxx] at HST
          clear hkk hjj hxx
          have hgl := hR.lt
          have hA : Blk ((wr.alloc (.cells (is4 z4n).toArray 81)).alloc (.cells (wd z4n).toArray 82)) wr.heap.size 81 (is4 z4n) := (Blk.new wr 81 (is4 z4n) _ rfl).alloc _
          have hV : Blk ((wr.alloc (.cells (is4 z4n).toArray 81)).alloc (.cells (wd z4n).toArray 82)) (wr.heap.size + 1) 82 (wd z4n) := by
            have h := Blk.new (wr.alloc (.cells (is4 z4n).toArray 81)) 82 (wd z4n) _ rfl
            rw [World.size_alloc] at h
            exact h
          have hR1 : Row ((wr.alloc (.cells (is4 z4n).toArray 81)).alloc (.cells (wd z4n).toArray 82)) w.heap.size 1 g 16 cap (wd L) := (hR.alloc _).alloc _
          have hX1 : Below w.heap.size w ((wr.alloc (.cells (is4 z4n).toArray 81)).alloc (.cells (wd z4n).toArray 82)) := (hnx.alloc hnx.size _).alloc (by have := hnx.size; simp; omega) _
          have hsz1 := hnx.size
          obtain ⟨ab, hab⟩ : ∃ ab, wr.heap.size = ab := ⟨_, rfl⟩
          rw [hab] at hA hV hsz1
          have hgab : g < ab := by omega
          clear hR hnx hgl
          go_wp2_with fail
          go_loopw [43] (fun rv wq => ∃ r : Nat, r ≤ 4 ∧ rv = .int .i64 r ∧ Blk wq ab 81 (is4 (upl z4n (pl k x) r)) ∧ Blk wq (ab + 1) 82 (wd (upl z4n (fun r => L.getD (pl k x r) 0) r)) ∧ Row wq w.heap.size 1 g 16 cap (wd L) ∧ Below w.heap.size w wq) (fun rv _ => 4 - (intOf rv).toNat)
          case atStart => exact ⟨0, by omega, rfl, hA, hV, hR1, hX1⟩
          case round =>
            clear hA hV hR1 hX1
            obtain ⟨r, hr4, rfl, hA, hV, hR, hnx⟩ := hrel
            by_cases hlr : r < 4
            · have d2 : decide ((r : Int) < 4) = true := by simp; omega
              obtain ⟨p, hp⟩ : ∃ p, p = pl k x r := ⟨_, rfl⟩
              obtain ⟨r4, h4⟩ : ∃ y, y = 4 * r := ⟨_, rfl⟩
              obtain ⟨y, hy⟩ : ∃ y, y = r * x := ⟨_, rfl⟩
              obtain ⟨z, hz⟩ : ∃ z, z = k + y := ⟨_, rfl⟩
              obtain ⟨u, hu⟩ : ∃ u, u = z % 4 := ⟨_, rfl⟩
              have yb : y ≤ 3 := by rw [hy]; rcases (by omega : x = 0 ∨ x = 1) with h | h <;> rw [h] <;> omega
              have zb : z ≤ 6 := by omega
              have ub : u ≤ 3 := by omega
              have rb : r4 ≤ 12 := by omega
              have e1 : 4 * (r : Int) = (r4 : Int) := by omega
              have e2 : (r : Int) * (x : Int) = (y : Int) := by rw [hy]; exact (Int.natCast_mul r x).symm
              have e3 : (k : Int) + (y : Int) = (z : Int) := by omega
              have e4 : (z : Int).tmod 4 = (u : Int) := by rw [Int.tmod_eq_emod_of_nonneg (by omega)]; omega
              have e4' : (z : Int) % 4 = (u : Int) := by omega
              have hpe : p = r4 + u := by rw [hp, h4, hu, hz, hy]; rfl
              have e5 : (r4 : Int) + (u : Int) = (p : Int) := by omega
              have hp16 : p < 16 := by rw [hp]; exact pl_lt k x r hlr
              have HA : Hid (upl z4n (pl k x) (r + 1) = (upl z4n (pl k x) r).set r p) := by rw [hp]; rfl
              have HV : Hid (upl z4n (fun r => L.getD (pl k x r) 0) (r + 1) = (upl z4n (fun r => L.getD (pl k x r) 0) r).set r (L.getD p 0)) := by rw [hp]; rfl
              have la := upl_length z4n (pl k x) r
              have lv := upl_length z4n (fun r => L.getD (pl k x r) 0) r
              have l4 : z4n.length = 4 := rfl
              clear h4 hy hz hu hpe hp
              generalize upl z4n (pl k x) r = LA at *
              generalize upl z4n (fun r => L.getD (pl k x r) 0) r = LV at *
              have c1 := hA.cell r _ (is4_get _ r (by omega))
              have z1 := hA.frozen r
              have hA' := hA.set r (.int .i64 (p : Int))
              have hV' := hV.other (a := ⟨ab, r, none⟩) (by simp) (.int .i64 (p : Int))
              have hR' := hR.other (a := ⟨ab, r, none⟩) (by simp; omega) (.int .i64 (p : Int))
              have hX' : Below w.heap.size w (wr.setCell ⟨ab, r, none⟩ (.int .i64 (p : Int))) := hnx.setCell (by simpa using hsz1) _
              rw [is4_set] at hA'
              have a1 := hA'.cell r _ (is4_get (LA.set r p) r (by rw [List.length_set]; omega))
              rw [ghs.getD_set _ _ _ _ (by omega), if_pos rfl] at a1
              have a2 := hV'.cell r _ (wd_get _ r (by omega))
              have z2 := hV'.frozen r
              have a3 := hR'.get p _ (wd_get _ p (by omega))
              generalize L.getD p 0 = X at *
              generalize LA.getD r 0 = o1 at *
              generalize LV.getD r 0 = o2 at *
              have r0 : (0 : Int) ≤ (r : Int) := by omega
              have rz : (r : Int) < 4 := by omega
              have p0 : (0 : Int) ≤ (p : Int) := by omega
              have pz : (p : Int) < 16 := by omega
              clear hA hV hR hnx
              go_wp2_with fail
              go_roundw
              case rel => exact ⟨r + 1, by omega, by go_num, by rw [HA.out]; exact hA'.other (by simp) _, by rw [HV.out, ← wd_set]; exact hV'.set r _, hR'.other (by simp; omega) _, hX'.setCell (by simp; omega) _⟩
              case measure => simp [intOf]; omega
            · obtain rfl : r = 4 := by omega
              have d2 : decide (((4 : Nat) : Int) < 4) = false := by decide
              have hVe : upl z4n (fun r => L.getD (pl k x r) 0) 4 = q4 (at4 L (pl k x 0) (pl k x 1) (pl k x 2) (pl k x 3)) := rfl
              have hAe : upl z4n (pl k x) 4 = mkl 4 (pl k x) := rfl
              rw [hVe] at hV
              rw [hAe] at hA
              clear hVe hAe
              have fq := rquarter_any (at4 L (pl k x 0) (pl k x 1) (pl k x 2) (pl k x 3)) (at4_ok hLo _ _ _ _)
              have HPT : Hid (rds E (i + 1) = pt L k x (q4 (qr (at4 L (pl k x 0) (pl k x 1) (pl k x 2) (pl k x 3)))) 4) := by
                show _ = _
                rw [HST.out, pt_4]
                rfl
              have lq : (wd (q4 (at4 L (pl k x 0) (pl k x 1) (pl k x 2) (pl k x 3)))).length = 4 := rfl
              have lQ : (q4 (qr (at4 L (pl k x 0) (pl k x 1) (pl k x 2) (pl k x 3)))).length = 4 := rfl
              generalize q4 (qr (at4 L (pl k x 0) (pl k x 1) (pl k x 2) (pl k x 3))) = Q4 at *
              generalize wd (q4 (at4 L (pl k x 0) (pl k x 1) (pl k x 2) (pl k x 3))) = V4 at *
              rw [show ((4 : Nat) : Int) = 4 from rfl] at *
              clear HST
              have hla := hA.lt
              go_wp2_with (first
                | (refine wpList_load_blk rfl 82 (.tmp 10) rfl (ab + 1) 0 rfl hV V4 (by simp) _ Try.underlying82 rfl (by rw [lq]; exact infoA4) ?_)
                | (go_at_call 71; (with_reducible refine (fq _).mono ?_); rintro e w5 ⟨rfl, hb5⟩))
              have hA5 := hA.below hb5 hla
              have hR5 := hR.below hb5 hR.lt
              have hX5 := hnx.trans (hb5.mono hnx.size)
              clear hA hV hR hnx hb5 fq
              go_loopw [68] (fun rv wq => ∃ r : Nat, r ≤ 4 ∧ rv = .int .i64 r ∧ Blk wq ab 81 (is4 (mkl 4 (pl k x))) ∧ Row wq w.heap.size 1 g 16 cap (wd (pt L k x Q4 r)) ∧ Below w.heap.size w wq) (fun rv _ => 4 - (intOf rv).toNat)
              case atStart => exact ⟨0, by omega, rfl, hA5, hR5, hX5⟩
              case round =>
                clear hA5 hR5 hX5
                obtain ⟨r, hr4, rfl, hA, hR, hnx⟩ := hrel
                by_cases hlr : r < 4
                · have d2 : decide ((r : Int) < 4) = true := by simp; omega
                  obtain ⟨j0, hj0, hj1⟩ := Option.map_eq_some_iff.1 (show (Try.prog.info? 37).map (·.size) = some 1 from by kernel_rfl)
                  have hix := run_index_wd Try.underlying82 Try.underlying37 hj0 hj1 Q4 r hlr (by omega)
                  have a1 := hA.cell r _ (is4_get _ r (by rw [mkl_length]; exact hlr))
                  rw [mkl_get _ _ _ hlr] at a1
                  have hp16 := pl_lt k x r hlr
                  have HU : Hid (pt L k x Q4 (r + 1) = (pt L k x Q4 r).set (pl k x r) (Q4.getD r 0)) := rfl
                  have lp := pt_length L k x Q4 r
                  generalize Q4.getD r 0 = X at *
                  generalize pl k x r = p at *
                  generalize pt L k x Q4 r = L' at *
                  have a2 := hR.get p _ (wd_get _ p (by omega))
                  have z2 := (hR.free p (by have := hR.le; omega)).2
                  rw [Nat.zero_add] at z2
                  have hpl : p < (wd L').length := by rw [wd_length]; omega
                  generalize L'.getD p 0 = o2 at *
                  have r0 : (0 : Int) ≤ (r : Int) := by omega
                  have rz : (r : Int) < 4 := by omega
                  have p0 : (0 : Int) ≤ (p : Int) := by omega
                  have pz : (p : Int) < 16 := by omega
                  have hgle := hR.ge
                  go_wp2_with fail
                  go_roundw
                  case rel => exact ⟨r + 1, by omega, by go_num, hA.other (by simp; omega) _, by rw [HU.out, ← wd_set]; exact hR.set p _ hpl, hnx.setCell (by simpa using hgle) _⟩
                  case measure => simp [intOf]; omega
                · obtain rfl : r = 4 := by omega
                  have d2 : decide (((4 : Nat) : Int) < 4) = false := by decide
                  rw [← HPT.out] at hR
                  go_wp2_with fail
                  go_roundw
                  case rel => exact ⟨i + 1, by omega, by go_num, hR, hnx⟩
                  case measure => simp [intOf]; omega
        · obtain rfl : i = 80 := by omega
          have d1 : decide (((80 : Nat) : Int) < 80) = false := by decide
          rw [show rds E 80 = cha.stirred E from rfl] at hR
          have hDl : (cha.stirred E).length = 16 := by rw [stirred_length, hEl]
          have hDo := stirred_ok hEo
          generalize cha.stirred E = D at *
          have HDR : Hid (told D = R) := HRR.out.symm
          have hX9 := hnx
          have hR9 := hR
          rw [show ((80 : Nat) : Int) = 80 from rfl]
          clear hR hnx
          go_wp2_with fail
          go_loopw [14, 82] (fun t iv wq => ∃ k : Nat, k ≤ 16 ∧ iv = .int .i64 k ∧ t = .string (told (D.take k)) ∧ Row wq w.heap.size 1 g 16 cap (wd D) ∧ Below w.heap.size w wq) (fun _ iv _ => 16 - (intOf iv).toNat)
          case atStart => exact ⟨0, by omega, rfl, rfl, hR9, hX9⟩
          case round =>
            clear hR9 hX9
            obtain ⟨k, hk16, rfl, rfl, hR, hnx⟩ := hrel
            by_cases hlk : k < 16
            · have d2 : decide ((k : Int) < 16) = true := by simp; omega
              have a1 := hR.get k _ (wd_get _ k (by omega))
              have lx := hDo.get k
              have f1 := low4 (D.getD k 0) (by omega)
              have HU : Hid (told (D.take (k + 1)) = told (D.take k) ++ told [D.getD k 0]) := by
                show _ = _
                rw [told, told, told, ← tx_app, ← bs4_append, List.take_succ_eq_append_getElem (by omega), List.getD_eq_getElem?_getD, List.getElem?_eq_getElem (by omega)]
                rfl
              have s1 : (told (D.take k)).size = 4 * k := by rw [told_size, List.length_take]; omega
              have s2 : (told [D.getD k 0]).size = 4 := told_size _
              generalize told [D.getD k 0] = T1 at *
              generalize told (D.take k) = T2 at *
              generalize D.getD k 0 = X at *
              have k0 : (0 : Int) ≤ (k : Int) := by omega
              have kz : (k : Int) < 16 := by omega
              have hgl2 := hR.lt
              go_wp2_with (go_at_call 43; (with_reducible refine (f1 _).mono ?_); rintro e w7 ⟨rfl, hb7⟩)
              go_roundw
              case rel => exact ⟨k + 1, by omega, by go_num, by rw [HU.out], hR.below hb7 hgl2, hnx.trans (hb7.mono hnx.size)⟩
              case measure => simp [intOf]; omega
            · obtain rfl : k = 16 := by omega
              have d2 : decide (((16 : Nat) : Int) < 16) = false := by decide
              have HD : Hid (told (D.take 16) = R) := by show _ = _; rw [List.take_of_length_le (by omega)]; exact HDR.out
              rw [HD.out]
              go_wp2_with fail
              go_ret2
              exact ⟨rfl, hnx⟩
end Go.Proofs.Ytjcgodojbpfooaa.cha
