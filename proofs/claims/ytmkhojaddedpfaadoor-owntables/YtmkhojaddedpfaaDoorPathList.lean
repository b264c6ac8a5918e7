/-
  LISTS OF PATHS: where one of them lies, and two lists compared (Eq).
-/
import Derived.Test.YtmkhojaddedpfaaDoorPathAll
import Derived.Deep.RegionWith
namespace Go.Proofs.YtmkhojaddedpfaaDoor.pth
open Go.RowKit

theorem rows_get {L : List En} {k i : Nat} (hk : k < L.length) (hi : i < 3) : (rows L)[3 * k + i]? = (cells3 L[k])[i]? := by
  induction L generalizing k with
  | nil => simp at hk
  | cons e L ih =>
    have e1 : rows (e :: L) = cells3 e ++ rows L := by rw [show e :: L = [e] ++ L from rfl, rows_app, rows_one]
    rw [e1]
    cases k with
    | zero => rw [Nat.mul_zero, Nat.zero_add, List.getElem?_append_left (by simp [cells3]; omega)]; rfl
    | succ k =>
      rw [List.getElem?_append_right (by simp [cells3]; omega)]
      have := ih (k := k) (by simpa using hk)
      rw [show 3 * (k + 1) + i - (cells3 e).length = 3 * k + i from by simp [cells3]; omega, this]
      rfl
set_option maxRecDepth 100000 in
/-- Where path k of a list of the call's own lies. -/
theorem row_at {w : World} {C n cap : Nat} {a : Option Addr} {L : List En} (h : w.ownsRow C 31 3 (.slice a n cap) n (rows L)) (hL : L.length = n) (k : Nat) (hk : k < n) (hl : k < L.length) :
    ∃ g o, (∀ W : World, (Instr.indexAt 25 (.slice a n cap) (.int .i64 (k : Int))).run Tryd.prog W = .ok (.pointer (some ⟨g, o, none⟩)) W) ∧ (Value.slice a n cap).ownBlock = some g ∧ Hid (o = k * 3) ∧
      w.cell? ⟨g, o, none⟩ = some (.int .u32 (L[k].1 : Int)) ∧ w.cell? ⟨g, o + 1, none⟩ = some (.int .i64 (L[k].2.1 : Int)) ∧ w.cell? ⟨g, o + 2, none⟩ = some (.int .i64 (L[k].2.2 : Int)) ∧ ∀ j, w.frozen? ⟨g, j, none⟩ = false := by
  obtain ⟨g, cap', e, _⟩ := h.form (by omega)
  obtain rfl : a = some ⟨g, 0, none⟩ := by injection e
  obtain rfl : cap' = cap := by injection e with _ _ e3; exact e3.symm
  refine ⟨g, k * 3, fun W => ?_, rfl, by show _ = _; rfl, ?_, ?_, ?_, ?_⟩
  · rw [run_indexAt_slice (h := Tryd.underlying25), if_pos ⟨by omega, by omega⟩]
    have hi : (Tryd.prog.info? 31).map (fun i => i.size) = some 3 := by kernel_rfl
    obtain ⟨i0, hi0, hs⟩ := Option.map_eq_some_iff.1 hi
    have hz : (sizeOf 31).run Tryd.prog W = .ok 3 W := by simp [sizeOf, typeInfo, hi0, hs]
    rw [show Tryd.prog.elem 25 = 31 from by kernel_rfl, hz]
    by_cases h0 : k = 0
    · subst h0; simp [Addr.add]
    · have h8 : ¬ k * 3 = 0 := by omega
      simp [Addr.add, h8]
  · rw [h.cellAt (k * 3) (by omega), Nat.mul_comm k 3]
    exact rows_get hl (i := 0) (by omega)
  · rw [h.cellAt (k * 3 + 1) (by omega), Nat.mul_comm k 3]
    exact rows_get hl (i := 1) (by omega)
  · rw [h.cellAt (k * 3 + 2) (by omega), Nat.mul_comm k 3]
    exact rows_get hl (i := 2) (by omega)
  · exact fun j => h.frozenAt j
theorem row_below {w w' : World} {C e n s : Nat} {v : Value} {xs : List Value} (h : w.ownsRow C e s v n xs) {B : Nat} (hb : Below B w w') (hB : ∀ k, v.ownBlock = some k → k < B) : w'.ownsRow C e s v n xs := by
  rcases h with ⟨hl, h | ⟨g, cap, cur, rfl, h1, h2, h3, h4, h5, h6⟩⟩
  · exact ⟨hl, .inl h⟩
  · exact ⟨hl, .inr ⟨g, cap, cur, rfl, h1, (hb.block g (hB g rfl)).trans h2, h3, h4, h5, h6⟩⟩
theorem row_turns {w w' : World} {C e n s : Nat} {v : Value} {xs : List Value} (h : w.ownsRow C e s v n xs) {X Y : Nat → Prop} (ht : Turns X Y w w') (hx : ∀ k, v.ownBlock = some k → ¬ X k) : w'.ownsRow C e s v n xs := by
  have hlt := h.lt
  rcases h with ⟨hl, h | ⟨g, cap, cur, rfl, h1, h2, h3, h4, h5, h6⟩⟩
  · exact ⟨hl, .inl h⟩
  · exact ⟨hl, .inr ⟨g, cap, cur, rfl, h1, (ht.same g (hlt g rfl).2 (hx g rfl)).trans h2, h3, h4, h5, h6⟩⟩
theorem row_mono {w : World} {C C' e n s : Nat} {v : Value} {xs : List Value} (h : w.ownsRow C e s v n xs) (hC : C' ≤ C) : w.ownsRow C' e s v n xs := by
  rcases h with ⟨hl, h | ⟨g, cap, cur, rfl, h1, h2⟩⟩
  · exact ⟨hl, .inl h⟩
  · exact ⟨hl, .inr ⟨g, cap, cur, rfl, Nat.le_trans hC h1, h2⟩⟩
theorem row_slice {w : World} {C e n s : Nat} {v : Value} {xs : List Value} (h : w.ownsRow C e s v n xs) : ∃ a cap, v = .slice a n cap := by
  rcases h.2 with ⟨rfl, rfl⟩ | ⟨g, cap, cur, rfl, _⟩
  · exact ⟨_, _, rfl⟩
  · exact ⟨_, _, rfl⟩
theorem take_ext {L M : List En} {k : Nat} (h : L.take k = M.take k) (hL : k < L.length) (hM : k < M.length) (he : L[k] = M[k]) : L.take (k + 1) = M.take (k + 1) := by
  rw [List.take_succ_eq_append_getElem hL, List.take_succ_eq_append_getElem hM, h, he]
set_option maxRecDepth 100000 in
set_option maxHeartbeats 1600000 in
theorem Eq_any {C n m : Nat} (v u : Value) (L M : List En) (hL : L.length = n) (hM : M.length = m) (hn : n ≤ 1000) (w : World) (h1 : w.ownsRow C 31 3 v n (rows L)) (h2 : w.ownsRow C 31 3 u m (rows M)) :
    Calls Tryd.prog 7 #[v, u] w fun e w' => e = .returned (.bool (decide (L = M))) ∧ Below w.heap.size w w' := by
  have hv : ∃ a cap, v = .slice a n cap := by
    rcases h1.2 with ⟨rfl, rfl⟩ | ⟨g, cap, cur, rfl, _⟩
    · exact ⟨_, _, rfl⟩
    · exact ⟨_, _, rfl⟩
  have hu : ∃ a cap, u = .slice a m cap := by
    rcases h2.2 with ⟨rfl, rfl⟩ | ⟨g, cap, cur, rfl, _⟩
    · exact ⟨_, _, rfl⟩
    · exact ⟨_, _, rfl⟩
  obtain ⟨a, cap, rfl⟩ := hv
  obtain ⟨b, cbp, rfl⟩ := hu
  by_cases hnm : n = m
  · subst hnm
    obtain ⟨D, hD⟩ : ∃ D, w.heap.size = D := ⟨_, rfl⟩
    have hX0 : Below D w w := Below.refl _ _
    have H1 : Hid (w.ownsRow C 31 3 (.slice a n cap) n (rows L)) := h1
    have H2 : Hid (w.ownsRow C 31 3 (.slice b n cbp) n (rows M)) := h2
    have t0 : ((n : Int) != (n : Int)) = false := by simp
    have t1 : ((n : Int) == (n : Int)) = true := by simp
    rw [hD]
    clear h1 h2
    go_enter Tryd.func7, Tryd.ntmps7
    go_wp2
    go_loopw [14] (fun i wr => ∃ k, k ≤ n ∧ i = .int .i64 (k : Int) ∧ L.take k = M.take k ∧ Below D w wr) (fun i _ => n - (intOf i).toNat)
    case atStart => exact ⟨0, Nat.zero_le _, rfl, by simp, hX0⟩
    case round =>
      clear hX0
      obtain ⟨k, hk, rfl, ht, hX⟩ := hrel
      have k0 : (0 : Int) ≤ (k : Int) := by omega
      have k1 : (k : Int) ≤ 1000 := by omega
      have HT : Hid (L.take k = M.take k) := ht
      clear ht
      by_cases hlt : k < n
      · have d0 : decide ((k : Int) < (n : Int)) = true := decide_eq_true (by omega)
        obtain ⟨g1, o1, x1, p1, _, a1, a2, a3, _⟩ := row_at H1.out hL k hlt (by omega)
        obtain ⟨g2, o2, x2, p2, _, b1, b2, b3, _⟩ := row_at H2.out hM k hlt (by omega)
        have q1 : g1 < D := by have := (H1.out.lt g1 p1).2; omega
        have q2 : g2 < D := by have := (H2.out.lt g2 p2).2; omega
        replace a1 := (hX.cell (p := ⟨g1, o1, none⟩) q1).trans a1
        replace a2 := (hX.cell (p := ⟨g1, o1 + 1, none⟩) q1).trans a2
        replace a3 := (hX.cell (p := ⟨g1, o1 + 2, none⟩) q1).trans a3
        replace b1 := (hX.cell (p := ⟨g2, o2, none⟩) q2).trans b1
        replace b2 := (hX.cell (p := ⟨g2, o2 + 1, none⟩) q2).trans b2
        replace b3 := (hX.cell (p := ⟨g2, o2 + 2, none⟩) q2).trans b3
        have hk1 : k < L.length := by omega
        have hk2 : k < M.length := by omega
        have hin : D ≤ wr.heap.size := by have := hX.size; omega
        have q3 : g2 < wr.heap.size := by omega
        have hX2 : ∀ o : Obj, Below D w ((wr.alloc o).drew) := fun o => (hX.alloc hin o).drew
        by_cases he : L[k] = M[k]
        · have HT2 : Hid (L.take (k + 1) = M.take (k + 1)) := take_ext HT.out hk1 hk2 he
          rw [← he] at b1 b2 b3
          generalize L[k] = e at *
          obtain ⟨e1, e2, e3⟩ := e
          simp only at a1 a2 a3 b1 b2 b3
          clear p1 p2 q1 q2 hk1 hk2 he
          go_wp2
          go_region
          all_goals go_wp2
          all_goals go_roundw
          case rel => exact ⟨k + 1, by omega, by go_num, HT2.out, hX2 _⟩
          case measure => simp [intOf]; omega
        · have HN : Hid (¬ L = M) := fun e => he (by subst e; rfl)
          have hne : ¬ (L[k].1 = M[k].1 ∧ L[k].2.1 = M[k].2.1 ∧ L[k].2.2 = M[k].2.2) := fun ⟨h1, h2, h3⟩ => he (Prod.ext h1 (Prod.ext h2 h3))
          clear he
          generalize L[k] = e at *
          generalize M[k] = f at *
          obtain ⟨e1, e2, e3⟩ := e
          obtain ⟨f1, f2, f3⟩ := f
          simp only at a1 a2 a3 b1 b2 b3 hne
          by_cases c1 : e1 = f1
          · subst c1
            by_cases c2 : e2 = f2
            · subst c2
              have c3 : ¬ e3 = f3 := fun e => hne ⟨rfl, rfl, e⟩
              have s1 : ((e3 : Int) == (f3 : Int)) = false := by rw [beq_eq_false_iff_ne]; omega
              have s2 : ((e3 : Int) != (f3 : Int)) = true := by rw [bne_iff_ne]; omega
              have s3 : decide ((e3 : Int) = (f3 : Int)) = false := decide_eq_false (by omega)
              clear c3 p1 p2 q1 q2 hk1 hk2 hne
              go_wp2
              go_region
              all_goals go_wp2
              all_goals go_ret
              all_goals exact ⟨by rw [decide_eq_false HN.out]; rfl, hX2 _⟩
            · have s1 : ((e2 : Int) == (f2 : Int)) = false := by rw [beq_eq_false_iff_ne]; omega
              have s2 : ((e2 : Int) != (f2 : Int)) = true := by rw [bne_iff_ne]; omega
              have s3 : decide ((e2 : Int) = (f2 : Int)) = false := decide_eq_false (by omega)
              clear c2 p1 p2 q1 q2 hk1 hk2 hne
              go_wp2
              go_region
              all_goals go_wp2
              all_goals go_ret
              all_goals exact ⟨by rw [decide_eq_false HN.out]; rfl, hX2 _⟩
          · have s1 : ((e1 : Int) == (f1 : Int)) = false := by rw [beq_eq_false_iff_ne]; omega
            have s2 : ((e1 : Int) != (f1 : Int)) = true := by rw [bne_iff_ne]; omega
            have s3 : decide ((e1 : Int) = (f1 : Int)) = false := decide_eq_false (by omega)
            clear c1 p1 p2 q1 q2 hk1 hk2 hne
            go_wp2
            go_region
            all_goals go_wp2
            all_goals go_ret
            all_goals exact ⟨by rw [decide_eq_false HN.out]; rfl, hX2 _⟩
      · obtain rfl : k = n := by omega
        have d0 : decide ((k : Int) < (k : Int)) = false := decide_eq_false (by omega)
        have HE : Hid (L = M) := by
          have := HT.out
          rw [List.take_of_length_le (by omega), List.take_of_length_le (by omega)] at this
          exact this
        go_wp2
        go_ret
        exact ⟨by rw [decide_eq_true HE.out]; rfl, hX⟩
  · have HE : Hid (¬ L = M) := fun e => by subst e; omega
    have t0 : ((n : Int) != (m : Int)) = true := by rw [bne_iff_ne]; omega
    clear hnm h1 h2
    go_enter Tryd.func7, Tryd.ntmps7
    go_wp2
    go_ret
    exact ⟨by rw [decide_eq_false HE.out]; rfl, Below.refl _ _⟩
end Go.Proofs.YtmkhojaddedpfaaDoor.pth
