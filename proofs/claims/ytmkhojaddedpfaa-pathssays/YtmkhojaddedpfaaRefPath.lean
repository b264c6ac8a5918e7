/-
  THE DOCUMENT's TABLE: paths in no order: outside, pathHas, Set, Drop, Find.
-/
import Derived.Test.YtmkhojaddedpfaaPathList
import Derived.Test.YtmkhojaddedpfaaUp
import Derived.Deep.AppendLies
import Derived.Deep.RegionLaw
import Derived.Lib.SmallJoins
namespace Go.Proofs.Ytmkhojaddedpfaa.rpth
open Go.RowKit
open pth

def out (n lo hi : Int) : Bool := decide (n < lo ∨ hi < n)
theorem outside_any (n lo hi : Int) (w : World) :
    Calls Try.prog 24 #[.int .i64 n, .int .i64 lo, .int .i64 hi] w fun e w' => e = .returned (.bool (out n lo hi)) ∧ w' = w := by
  by_cases c : n < lo
  · have d0 : decide (n < lo) = true := decide_eq_true c
    rw [show out n lo hi = true from decide_eq_true (.inl c)]
    go_enter Try.func24, Try.ntmps24
    go_wp2
    go_ret
    exact ⟨rfl, rfl⟩
  · have d0 : decide (n < lo) = false := decide_eq_false c
    rw [show out n lo hi = decide (n > hi) from decide_eq_decide.2 (by omega)]
    go_enter Try.func24, Try.ntmps24
    go_wp2
    go_ret
    exact ⟨rfl, rfl⟩
theorem wrap64 {n : Nat} (h : n < 18446744073709551616) : IntKind.u64.wrap (n : Int) = (n : Int) := by
  simp [IntKind.wrap, IntKind.signed, IntKind.bits]
  omega
theorem pathHas_any (x n p a : Nat) (hx : x < 4294967296) (hn : n ≤ 32) (ha : a < 4294967296) (w : World) :
    Calls Try.prog 26 #[.agg #[.int .u32 (x : Int), .int .i64 (n : Int)], .int .u32 (a : Int)] w fun e w' => e = .returned (.bool (decide (hasA (x, n, p) a))) ∧ Below w.heap.size w w' := by
  have hX : Below w.heap.size w (w.alloc (.cells #[.int .u32 (x : Int), .int .i64 (n : Int)] 32)) := (Below.refl _ _).alloc (Nat.le_refl _) _
  have n0 : (0 : Int) ≤ (n : Int) := by omega
  have n1 : (n : Int) ≤ 32 := by omega
  obtain ⟨m, hm⟩ : ∃ m, 32 - n = m := ⟨_, rfl⟩
  have hm1 : (32 : Int) - (n : Int) = (m : Int) := by omega
  have m0 : (0 : Int) ≤ (m : Int) := by omega
  have m1 : (m : Int) ≤ 64 := by omega
  obtain ⟨y, hy⟩ : ∃ y, x / 2 ^ m = y := ⟨_, rfl⟩
  obtain ⟨z, hz⟩ : ∃ z, a / 2 ^ m = z := ⟨_, rfl⟩
  have c1 : IntKind.u64.wrap (x : Int) = (x : Int) := wrap64 (by omega)
  have c2 : IntKind.u64.wrap (a : Int) = (a : Int) := wrap64 (by omega)
  have d1 : (x : Int) / 2 ^ m = (y : Int) := by rw [← hy]; norm_cast
  have d2 : (a : Int) / 2 ^ m = (z : Int) := by rw [← hz]; norm_cast
  have hd : hasA (x, n, p) a ↔ z = y := by
    unfold hasA
    simp only
    rw [hm, hy, hz]
  have HD : Hid (decide (hasA (x, n, p) a) = ((y : Int) == (z : Int))) := by
    show _ = _
    rw [Bool.eq_iff_iff]
    simp only [decide_eq_true_eq, beq_iff_eq, hd]
    omega
  clear hd hy hz hm
  go_enter Try.func26, Try.ntmps26
  go_wp2
  go_region
  all_goals go_wp2
  all_goals go_ret
  all_goals exact ⟨by rw [HD.out]; rfl, hX.drew⟩
/-- Block b is a table of the document's that has R, in the list v. -/
structure RTab (w : World) (b C : Nat) (v : Value) (R : List En) : Prop where
  blk : Blk w b 29 [v]
  own : w.ownsRow C 42 3 v R.length (rows R)
/-- What it owns. -/
def OwnR (b : Nat) (v : Value) (k : Nat) : Prop := k = b ∨ v.ownBlock = some k
theorem RTab.sep {w : World} {b C : Nat} {v : Value} {R : List En} (h : RTab w b C v R) : v.ownBlock ≠ some b := fun e => by
  obtain ⟨c, f, hc⟩ := row_block h.own b e
  have := h.blk
  unfold Blk at this
  rw [hc] at this
  simp only [Option.some.injEq, Obj.cells.injEq] at this
  exact absurd this.2.1 (by decide)
theorem RTab.lt {w : World} {b C : Nat} {v : Value} {R : List En} (h : RTab w b C v R) : ∀ k, OwnR b v k → k < w.heap.size := by
  rintro k (rfl | hk)
  · exact h.blk.lt
  · exact (h.own.lt k hk).2
theorem RTab.mono {w w' : World} {b C : Nat} {v : Value} {R : List En} (h : RTab w b C v R) (hw : ∀ k, OwnR b v k → w'.heap[k]? = w.heap[k]?) : RTab w' b C v R := by
  refine ⟨?_, ?_⟩
  · have := h.blk
    unfold Blk at this ⊢
    rw [hw b (.inl rfl)]
    exact this
  · rcases h.own with ⟨hl, h1 | ⟨g, cap, cur, rfl, h1, h2, h3, h4, h5, h6⟩⟩
    · exact ⟨hl, .inl h1⟩
    · exact ⟨hl, .inr ⟨g, cap, cur, rfl, h1, (hw g (.inr rfl)).trans h2, h3, h4, h5, h6⟩⟩
theorem RTab.below {w w' : World} {b C : Nat} {v : Value} {R : List En} (h : RTab w b C v R) (hb : Below w.heap.size w w') : RTab w' b C v R :=
  h.mono fun k hk => hb.block k (h.lt k hk)
/-- The first of the longest that have an address, among k. -/
def Best (R : List En) (a k : Nat) (m : Int) : Prop :=
  (m = -1 ∧ ∀ e ∈ R.take k, ¬ hasA e a) ∨ ∃ (j : Nat) (hj : j < R.length), m = (j : Int) ∧ j < k ∧ hasA R[j] a ∧ ∀ e ∈ R.take k, hasA e a → e.2.1 ≤ R[j].2.1
theorem best_skip {R : List En} {a k : Nat} {m : Int} (h : Best R a k m) (hk : k < R.length) (hn : hasA R[k] a → ∃ (j : Nat) (hj : j < R.length), m = (j : Int) ∧ R[k].2.1 ≤ R[j].2.1) : Best R a (k + 1) m := by
  have htk : R.take (k + 1) = R.take k ++ [R[k]] := List.take_succ_eq_append_getElem hk
  rcases h with ⟨h1, h2⟩ | ⟨j, hj, h1, h2, h3, h4⟩
  · left
    refine ⟨h1, fun e he hh => ?_⟩
    rw [htk] at he
    rcases List.mem_append.1 he with q | q
    · exact h2 e q hh
    · rw [List.mem_singleton.1 q] at hh
      obtain ⟨j, _, e1, _⟩ := hn hh
      omega
  · right
    refine ⟨j, hj, h1, by omega, h3, fun e he hh => ?_⟩
    rw [htk] at he
    rcases List.mem_append.1 he with q | q
    · exact h4 e q hh
    · rw [List.mem_singleton.1 q] at hh ⊢
      obtain ⟨j', hj', e1, e2⟩ := hn hh
      obtain rfl : j' = j := by omega
      exact e2
theorem best_take {R : List En} {a k : Nat} {m : Int} (h : Best R a k m) (hk : k < R.length) (hh : hasA R[k] a) (hm : m = -1 ∨ ∃ (j : Nat) (hj : j < R.length), m = (j : Int) ∧ R[j].2.1 < R[k].2.1) : Best R a (k + 1) (k : Int) := by
  have htk : R.take (k + 1) = R.take k ++ [R[k]] := List.take_succ_eq_append_getElem hk
  refine .inr ⟨k, hk, rfl, by omega, hh, fun e he hhe => ?_⟩
  rw [htk] at he
  rcases List.mem_append.1 he with q | q
  · rcases h with ⟨h1, h2⟩ | ⟨j, hj, h1, h2, h3, h4⟩
    · exact absurd hhe (h2 e q)
    · rcases hm with e1 | ⟨j', hj', e1, e2⟩
      · omega
      · obtain rfl : j' = j := by omega
        have := h4 e q hhe
        omega
  · rw [List.mem_singleton.1 q]; exact Nat.le_refl _
set_option maxRecDepth 100000 in
set_option maxHeartbeats 3200000 in
theorem Find_any (b C : Nat) (v : Value) (R : List En) (hR : ∀ e ∈ R, e.2.1 ≤ 32 ∧ e.1 < 4294967296) (hL : R.length ≤ 64) (a : Nat) (ha : a < 4294967296) (w : World) (hT : RTab w b C v R) :
    Calls Try.prog 14 #[.pointer (some ⟨b, 0, none⟩), .int .u32 (a : Int)] w fun e w' => ∃ r : Option Nat, e = .returned (.tuple #[.int .i64 ((r.getD 0 : Nat) : Int), .bool r.isSome]) ∧ (r = none → ∀ e ∈ R, ¬ hasA e a) ∧
      (∀ q, r = some q → ∃ e ∈ R, hasA e a ∧ e.2.2 = q ∧ ∀ f ∈ R, hasA f a → f.2.1 ≤ e.2.1) ∧ Below w.heap.size w w' := by
  obtain ⟨av, cv, rfl⟩ := row_slice hT.own
  obtain ⟨D, hD⟩ : ∃ D, w.heap.size = D := ⟨_, rfl⟩
  have hbD : b < D := by have := hT.blk.lt; omega
  have c0 := hT.blk.cell 0 _ rfl
  have HO : Hid (w.ownsRow C 42 3 (.slice av R.length cv) R.length (rows R)) := hT.own
  have hX0 : Below D w w := Below.refl _ _
  have l0 : (0 : Int) ≤ (R.length : Int) := by omega
  have l1 : (R.length : Int) ≤ 64 := by omega
  rw [hD]
  have hlt0 := hT.lt
  clear hT
  go_enter Try.func14, Try.ntmps14
  go_wp2
  have C0 : Hid (w.cell? ⟨b, 0, none⟩ = some (.slice av R.length cv)) := c0
  clear c0
  go_loopw [6, 14] (fun m i wr => ∃ k z, k ≤ R.length ∧ m = .int .i64 z ∧ i = .int .i64 (k : Int) ∧ Best R a k z ∧ Below D w wr) (fun _ i _ => R.length - (intOf i).toNat)
  case atStart => exact ⟨0, -1, Nat.zero_le _, rfl, rfl, .inl ⟨rfl, fun e h => by simp at h⟩, hX0⟩
  case round =>
    clear hX0
    obtain ⟨k, z, hk, rfl, rfl, hbest, hX⟩ := hrel
    have k0 : (0 : Int) ≤ (k : Int) := by omega
    have k1 : (k : Int) ≤ 64 := by omega
    have HB : Hid (Best R a k z) := hbest
    clear hbest
    by_cases hlt : k < R.length
    · have d0 : decide ((k : Int) < (R.length : Int)) = true := decide_eq_true (by omega)
      obtain ⟨g, o, hix, hg, _, q1, q2, q3, _⟩ := row_at HO.out rfl k hlt hlt
      have hgD : g < D := by have := (HO.out.lt g hg).2; omega
      replace q1 := (hX.cell (p := ⟨g, o, none⟩) hgD).trans q1
      replace q2 := (hX.cell (p := ⟨g, o + 1, none⟩) hgD).trans q2
      replace q3 := (hX.cell (p := ⟨g, o + 2, none⟩) hgD).trans q3
      obtain ⟨v1, v2⟩ := hR _ (List.getElem_mem hlt)
      have HS := fun h => best_skip HB.out hlt h
      have HTk := fun h1 h2 => best_take HB.out hlt h1 h2
      have HS' : Hid ((hasA R[k] a → ∃ (j : Nat) (hj : j < R.length), z = (j : Int) ∧ R[k].2.1 ≤ R[j].2.1) → Best R a (k + 1) z) := HS
      have HT' : Hid (hasA R[k] a → (z = -1 ∨ ∃ (j : Nat) (hj : j < R.length), z = (j : Int) ∧ R[j].2.1 < R[k].2.1) → Best R a (k + 1) (k : Int)) := HTk
      clear HS HTk
      generalize R[k] = x at *
      obtain ⟨e1, e2, e3⟩ := x
      simp only at q1 q2 q3 v1 v2
      have fh := fun W => pathHas_any e1 e2 e3 a v2 v1 ha W
      have hCr : D ≤ wr.heap.size := by have := hX.size; omega
      have hBE := Blk.new wr 42 [.int .u32 (e1 : Int), .int .i64 (e2 : Int), .int .i64 (e3 : Int)] _ rfl
      have hXE : Below D w (wr.alloc (.cells #[.int .u32 (e1 : Int), .int .i64 (e2 : Int), .int .i64 (e3 : Int)] 42)) := hX.alloc hCr _
      have hse : (wr.alloc (.cells #[.int .u32 (e1 : Int), .int .i64 (e2 : Int), .int .i64 (e3 : Int)] 42)).heap.size = wr.heap.size + 1 := by simp
      obtain ⟨Z, hZ⟩ : ∃ Z, wr.heap.size = Z := ⟨_, rfl⟩
      rw [hZ] at hBE hse hCr
      by_cases hh : hasA (e1, e2, e3) a
      · rw [decide_eq_true hh] at fh
        have F : Hid (∀ W, Calls Try.prog 26 #[.agg #[.int .u32 (e1 : Int), .int .i64 (e2 : Int)], .int .u32 (a : Int)] W fun e w' => e = .returned (.bool true) ∧ Below W.heap.size W w') := fh
        rcases HB.out with ⟨hz, _⟩ | ⟨j, hj, hz, hjk, _, _⟩
        · subst hz
          have HN : Hid (Best R a (k + 1) (k : Int)) := HT'.out hh (.inl rfl)
          clear hh fh HS' HT'
          go_wp2_with fail
          rw [hZ] at *
          generalize wr.alloc (.cells #[.int .u32 (e1 : Int), .int .i64 (e2 : Int), .int .i64 (e3 : Int)] 42) = W1 at *
          have r1 := fun y : Up W1 => (y.2.cell (p := ⟨Z, 0, none⟩) (by show Z < _; omega)).trans (hBE.cell 0 _ rfl)
          have r2 := fun y : Up W1 => (y.2.cell (p := ⟨Z, 1, none⟩) (by show Z < _; omega)).trans (hBE.cell 1 _ rfl)
          have hne := Up.some W1
          refine wp_region_up (by kernel_rfl) (by kernel_rfl) ?_
          repeat (go_big_quiet_step (with_reducible exact calls_up (F.out _)))
          refine wpQuiet_nil ?_
          rintro w' ⟨y, rfl⟩
          have hXy : Below D w y.1 := hXE.trans (y.2.mono (by omega))
          go_wp2
          go_roundw
          case rel => exact ⟨k + 1, k, by omega, rfl, by go_num, HN.out, hXy⟩
          case measure => simp [intOf]; omega
        · subst hz
          have j0 : (0 : Int) ≤ (j : Int) := by omega
          have j1 : (j : Int) ≤ 64 := by omega
          have tj : decide ((j : Int) < 0) = false := decide_eq_false (by omega)
          obtain ⟨g4, o4, hix4, hg4, _, _, s2, _, _⟩ := row_at HO.out rfl j (by omega) hj
          have hg4D : g4 < D := by have := (HO.out.lt g4 hg4).2; omega
          have s2' : ∀ y : Up (wr.alloc (.cells #[.int .u32 (e1 : Int), .int .i64 (e2 : Int), .int .i64 (e3 : Int)] 42)), y.1.cell? ⟨g4, o4 + 1, none⟩ = some (.int .i64 (R[j].2.1 : Int)) := fun y => (((hXE.trans (y.2.mono (by omega))).cell (p := ⟨g4, o4 + 1, none⟩) hg4D)).trans s2
          have s0' : ∀ y : Up (wr.alloc (.cells #[.int .u32 (e1 : Int), .int .i64 (e2 : Int), .int .i64 (e3 : Int)] 42)), y.1.cell? ⟨b, 0, none⟩ = some (.slice av R.length cv) := fun y => (((hXE.trans (y.2.mono (by omega))).cell (p := ⟨b, 0, none⟩) hbD)).trans C0.out
          by_cases hgt : R[j].2.1 < e2
          · have HN : Hid (Best R a (k + 1) (k : Int)) := HT'.out hh (.inr ⟨j, hj, rfl, hgt⟩)
            have t1 : decide ((e2 : Int) > (R[j].2.1 : Int)) = true := decide_eq_true (by omega)
            have t2 : decide ((R[j].2.1 : Int) < (e2 : Int)) = true := decide_eq_true (by omega)
            clear hh fh HS' HT' s2 hg4
            generalize R[j].2.1 = f2 at *
            go_wp2_with fail
            rw [hZ] at *
            generalize wr.alloc (.cells #[.int .u32 (e1 : Int), .int .i64 (e2 : Int), .int .i64 (e3 : Int)] 42) = W1 at *
            have r1 := fun y : Up W1 => (y.2.cell (p := ⟨Z, 0, none⟩) (by show Z < _; omega)).trans (hBE.cell 0 _ rfl)
            have r2 := fun y : Up W1 => (y.2.cell (p := ⟨Z, 1, none⟩) (by show Z < _; omega)).trans (hBE.cell 1 _ rfl)
            have hne := Up.some W1
            refine wp_region_up (by kernel_rfl) (by kernel_rfl) ?_
            repeat (go_big_quiet_step (with_reducible exact calls_up (F.out _)))
            refine wpQuiet_nil ?_
            rintro w' ⟨y, rfl⟩
            have hXy : Below D w y.1 := hXE.trans (y.2.mono (by omega))
            go_wp2
            go_roundw
            case rel => exact ⟨k + 1, k, by omega, rfl, by go_num, HN.out, hXy⟩
            case measure => simp [intOf]; omega
          · have HN : Hid (Best R a (k + 1) (j : Int)) := HS'.out (fun _ => ⟨j, hj, rfl, by show e2 ≤ _; omega⟩)
            have t1 : decide ((e2 : Int) > (R[j].2.1 : Int)) = false := decide_eq_false (by omega)
            have t2 : decide ((R[j].2.1 : Int) < (e2 : Int)) = false := decide_eq_false (by omega)
            clear hh fh HS' HT' s2 hg4
            generalize R[j].2.1 = f2 at *
            go_wp2_with fail
            rw [hZ] at *
            generalize wr.alloc (.cells #[.int .u32 (e1 : Int), .int .i64 (e2 : Int), .int .i64 (e3 : Int)] 42) = W1 at *
            have r1 := fun y : Up W1 => (y.2.cell (p := ⟨Z, 0, none⟩) (by show Z < _; omega)).trans (hBE.cell 0 _ rfl)
            have r2 := fun y : Up W1 => (y.2.cell (p := ⟨Z, 1, none⟩) (by show Z < _; omega)).trans (hBE.cell 1 _ rfl)
            have hne := Up.some W1
            refine wp_region_up (by kernel_rfl) (by kernel_rfl) ?_
            repeat (go_big_quiet_step (with_reducible exact calls_up (F.out _)))
            refine wpQuiet_nil ?_
            rintro w' ⟨y, rfl⟩
            have hXy : Below D w y.1 := hXE.trans (y.2.mono (by omega))
            go_wp2
            go_roundw
            case rel => exact ⟨k + 1, j, by omega, rfl, by go_num, HN.out, hXy⟩
            case measure => simp [intOf]; omega
      · rw [decide_eq_false hh] at fh
        have F : Hid (∀ W, Calls Try.prog 26 #[.agg #[.int .u32 (e1 : Int), .int .i64 (e2 : Int)], .int .u32 (a : Int)] W fun e w' => e = .returned (.bool false) ∧ Below W.heap.size W w') := fh
        have HN : Hid (Best R a (k + 1) z) := HS'.out (fun h => absurd h hh)
        clear hh fh HS' HT'
        go_wp2_with fail
        rw [hZ] at *
        generalize wr.alloc (.cells #[.int .u32 (e1 : Int), .int .i64 (e2 : Int), .int .i64 (e3 : Int)] 42) = W1 at *
        have r1 := fun y : Up W1 => (y.2.cell (p := ⟨Z, 0, none⟩) (by show Z < _; omega)).trans (hBE.cell 0 _ rfl)
        have r2 := fun y : Up W1 => (y.2.cell (p := ⟨Z, 1, none⟩) (by show Z < _; omega)).trans (hBE.cell 1 _ rfl)
        have hne := Up.some W1
        refine wp_region_up (by kernel_rfl) (by kernel_rfl) ?_
        repeat (go_big_quiet_step (with_reducible exact calls_up (F.out _)))
        refine wpQuiet_nil ?_
        rintro w' ⟨y, rfl⟩
        have hXy : Below D w y.1 := hXE.trans (y.2.mono (by omega))
        go_wp2
        go_roundw
        case rel => exact ⟨k + 1, z, by omega, rfl, by go_num, HN.out, hXy⟩
        case measure => simp [intOf]; omega
    · obtain rfl : k = R.length := by omega
      have d0 : decide ((R.length : Int) < (R.length : Int)) = false := decide_eq_false (by omega)
      have hb := HB.out
      unfold Best at hb
      rw [List.take_of_length_le (Nat.le_refl _)] at hb
      have c0 := (hX.cell (p := ⟨b, 0, none⟩) hbD).trans C0.out
      rcases hb with ⟨hz, hno⟩ | ⟨j, hj, hz, _, h3, h4⟩
      · subst hz
        have HN : Hid (∀ e ∈ R, ¬ hasA e a) := hno
        clear hno
        go_wp2
        go_ret2
        exact ⟨none, rfl, fun _ => HN.out, fun q h => (nomatch h), hX⟩
      · subst hz
        have HN : Hid (∃ e ∈ R, hasA e a ∧ e.2.2 = R[j].2.2 ∧ ∀ f ∈ R, hasA f a → f.2.1 ≤ e.2.1) := ⟨R[j], List.getElem_mem hj, h3, rfl, h4⟩
        have j0 : (0 : Int) ≤ (j : Int) := by omega
        have tj : decide ((j : Int) < 0) = false := decide_eq_false (by omega)
        obtain ⟨g4, o4, hix4, hg4, _, _, _, s3, _⟩ := row_at HO.out rfl j (by omega) hj
        have hg4D : g4 < D := by have := (HO.out.lt g4 hg4).2; omega
        have s3' := (hX.cell (p := ⟨g4, o4 + 2, none⟩) hg4D).trans s3
        clear h3 h4 s3 hg4
        generalize R[j].2.2 = q at *
        go_wp2
        go_ret2
        exact ⟨some q, rfl, fun h => (nomatch h), fun q' h => by cases h; exact HN.out, hX⟩
end Go.Proofs.Ytmkhojaddedpfaa.rpth
