/-
  THE VERIFIER's OWN TABLE: steps taken one behind the other (Step.Of, table).
-/
import Derived.Test.YtmkhojaddedpfaaDoorPathList
import Derived.Test.YtmkhojaddedpfaaDoorStepRow
import Derived.Test.YtmkhojaddedpfaaDoorKeepRest
namespace Go.Proofs.YtmkhojaddedpfaaDoor.pth
open Go.RowKit

theorem int_bd {n : Int} (h : (Lit.int .i64 n).wf = true) : -9223372036854775808 ≤ n ∧ n ≤ 9223372036854775807 := by
  simp [Lit.wf] at h
  have h0 : IntKind.i64.min = -9223372036854775808 := rfl
  have h1 : IntKind.i64.max = 9223372036854775807 := rfl
  omega
/-- A step's kind. -/
def kd (x : StepV) : Nat := (x.kind % 4).toNat
theorem Of_any (x : StepV) (hx : x.Fits) (w : World) :
    Calls Tryd.prog 11 #[.agg (cells8 x).toArray, .int .i64 4] w fun e w' => e = .returned (.int .i64 (kd x : Int)) ∧ Below w.heap.size w w' := by
  have f1 := rest_any x.kind 4 (by decide) (by decide) (int_bd hx.kind)
  have hX : Below w.heap.size w (w.alloc (.cells (cells8 x).toArray 42)) := (Below.refl _ _).alloc (Nat.le_refl _) _
  have HR : Hid ((x.kind % ((4 : Nat) : Int)).toNat = kd x) := by show _ = _; rfl
  rw [HR.out] at f1
  have f1' : ∀ W, Calls Tryd.prog 19 #[.int .i64 x.kind, .int .i64 4] W fun e w' => e = .returned (.int .i64 (kd x : Int)) ∧ w' = W := f1
  unfold cells8 at hX ⊢
  generalize kd x = q at *
  clear f1 HR
  go_enter Tryd.func11, Tryd.ntmps11
  go_wp2_with (go_at_call 19; (with_reducible refine (f1' _).mono ?_); rintro e w3 ⟨rfl, hq⟩; have hq := hq.symm; subst hq)
  go_ret
  exact ⟨rfl, hX⟩
/-- The table behind a step, and behind all of them. -/
def stepL (L : List En) (x : StepV) : List En := if kd x = 0 then dL L x.a else sL L x.ad.toNat x.bi x.a
def allL (zs : List StepV) : List En := zs.foldl stepL []
theorem dL_ok {L : List En} (h : Ok L) (peer : Int) : Ok (dL L peer) := h.filter _
theorem step_fits {x : StepV} (hx : x.Fits) : ∃ a : Nat, x.ad = a ∧ a < 4294967296 := by
  have := u32_bd hx.ad
  exact ⟨x.ad.toNat, by omega, by omega⟩
theorem stepL_ok {L : List En} (h : Ok L) {x : StepV} (hx : x.Fits) : Ok (stepL L x) := by
  unfold stepL
  split
  · exact dL_ok h _
  · obtain ⟨a, e, ha⟩ := step_fits hx
    rw [e]
    exact sL_ok' h ha
theorem stepL_len {L : List En} (h : Ok L) (hL : L.length ≤ 64) (x : StepV) : (stepL L x).length ≤ 64 := by
  unfold stepL
  split
  · exact Nat.le_trans (dL_len _ _) hL
  · exact sL_len h hL
theorem allL_take (zs : List StepV) (k : Nat) (hk : k < zs.length) : allL (zs.take (k + 1)) = stepL (allL (zs.take k)) zs[k] := by
  unfold allL
  rw [List.take_succ_eq_append_getElem hk, List.foldl_append]
  rfl
theorem allL_fits (zs : List StepV) (hz : ∀ z ∈ zs, z.Fits) : Ok (allL zs) ∧ (allL zs).length ≤ 64 := by
  unfold allL
  suffices h : ∀ L, Ok L → L.length ≤ 64 → Ok (zs.foldl stepL L) ∧ (zs.foldl stepL L).length ≤ 64 from h [] Ok.nil (by decide)
  induction zs with
  | nil => exact fun L h1 h2 => ⟨h1, h2⟩
  | cons z zs ih =>
    intro L h1 h2
    exact ih (fun y hy => hz y (by simp [hy])) _ (stepL_ok h1 (hz z (by simp))) (stepL_len h1 h2 z)
theorem turns_below {X Y : Nat → Prop} {w w' : World} {D : Nat} (h : Turns X Y w w') (hD : D ≤ w.heap.size) (hX : ∀ k, X k → D ≤ k) : Below D w w' :=
  ⟨h.low.os, h.low.tape, h.low.output, h.low.size, fun k hk => h.same k (by omega) (fun hx => by have := hX k hx; omega)⟩
theorem turns_own {X Y : Nat → Prop} {w w' : World} {D : Nat} (h : Turns X Y w w') (hD : D ≤ w.heap.size) (hX : ∀ k, X k → D ≤ k) : ∀ k, Y k → D ≤ k :=
  fun k hk => (h.new k hk).elim (hX k) (fun q => by omega)
set_option maxRecDepth 100000 in
set_option maxHeartbeats 3200000 in
theorem table_any (w : World) (a : Option Addr) (n c : Nat) (zs : List StepV) (hi : Steps w w.heap.size a n zs) (hn : n < 17592186044416) (hz : ∀ z ∈ zs, z.Fits) :
    Calls Tryd.prog 4 #[.slice a n c] w fun e w' => e = .returned (.pointer (some ⟨w.heap.size, 0, none⟩)) ∧ Below w.heap.size w w' ∧ ∃ B, Tab w' w.heap.size (allL zs) B ∧ ∀ k, OwnB B k → w.heap.size ≤ k := by
  have f0 := New_any w
  have hT0 := Tab.new w
  have hX0 : Below w.heap.size w (w.alloc (.cells #[.bool false, .int .u32 0, .int .i64 0, .int .i64 0, .pointer none, .pointer none, .int .i64 0] 49)) := (Below.refl _ _).alloc (Nat.le_refl _) _
  have hO0 : ∀ k, OwnB (B0 w.heap.size) k → w.heap.size ≤ k := fun k hk => by rw [own_new hk]; omega
  obtain ⟨w1, hw1⟩ : ∃ w1, w.alloc (.cells #[.bool false, .int .u32 0, .int .i64 0, .int .i64 0, .pointer none, .pointer none, .int .i64 0] 49) = w1 := ⟨_, rfl⟩
  have hs1 : w1.heap.size = w.heap.size + 1 := by rw [← hw1]; simp
  rw [hw1] at f0 hT0 hX0
  obtain ⟨D, hD⟩ : ∃ D, w.heap.size = D := ⟨_, rfl⟩
  rw [hD] at f0 hT0 hX0 hO0 hs1 hi ⊢
  have f1 := Set_any D [] (B0 D) 0 0 (-1) (by decide) (by decide) w1 hT0
  rw [rr_arg (by decide), sL_err (by rw [rr_arg (by decide)]; decide)] at f1
  have f1' : Calls Tryd.prog 10 #[.pointer (some ⟨D, 0, none⟩), .agg #[.int .u32 0, .int .i64 0], .int .i64 (-1)] w1 fun e w' => e = .returned (.int .i64 1) ∧ ∃ B', Tab w' D [] B' ∧ Turns (OwnB (B0 D)) (OwnB B') w1 w' := f1
  have HI : Hid (Steps w D a n zs) := hi
  have HZ : Hid (∀ z ∈ zs, z.Fits) := hz
  clear hi hz f1 hw1
  go_enter Tryd.func4, Tryd.ntmps4
  go_wp2_with (first
    | (go_at_call 9; (with_reducible refine f0.mono ?_); rintro e w3 ⟨rfl, hq⟩; have hq := hq.symm; subst hq)
    | (go_at_call 10; (with_reducible refine f1'.mono ?_); rintro e w3 ⟨rfl, B1, hT1, ht1⟩
       have hX1 := hX0.trans (turns_below ht1 (by omega) hO0)
       have hO1 := turns_own ht1 (by omega) hO0))
  have hs3 : D ≤ w3.heap.size := by have := hX1.size; omega
  have hD3 : ∀ k, OwnB B1 k → D ≤ k := hO1
  clear f0 f1' hT0 hX0 hO0 ht1 hO1 hs1
  go_loopw [17] (fun i wr => ∃ k B, k ≤ n ∧ i = .int .i64 (k : Int) ∧ Tab wr D (allL (zs.take k)) B ∧ (∀ q, OwnB B q → D ≤ q) ∧ Below D w wr) (fun i _ => n - (intOf i).toNat)
  case atStart => exact ⟨0, B1, Nat.zero_le _, rfl, hT1, hD3, hX1⟩
  case round =>
    clear hT1 hD3 hX1 hs3
    obtain ⟨k, B, hk, rfl, hT, hO, hX⟩ := hrel
    have k0 : (0 : Int) ≤ (k : Int) := by omega
    have k1 : (k : Int) ≤ 17592186044416 := by omega
    have hlen := HI.out.len
    by_cases hlt : k < n
    · have d0 : decide ((k : Int) < (n : Int)) = true := decide_eq_true (by omega)
      obtain ⟨b', o, hix, hbD, hc⟩ := (HI.out.below hX (Nat.le_refl _)).at c k hlt (by omega)
      have hst := allL_take zs k (by omega)
      have hfit : (zs[k]'(by omega)).Fits := HZ.out _ (List.getElem_mem _)
      obtain ⟨hok, hle⟩ := allL_fits (zs.take k) (fun z hz => HZ.out z (List.mem_of_mem_take hz))
      have HS : Hid (allL (zs.take (k + 1)) = stepL (allL (zs.take k)) (zs[k]'(by omega))) := hst
      generalize zs[k]'(by omega) = x at *
      generalize allL (zs.take k) = L at *
      have fOf := Of_any x hfit
      have hDs : D ≤ wr.heap.size := by have := hX.size; omega
      have hBE := Blk.new wr 42 (cells8 x) _ rfl
      have hTE : Tab (wr.alloc (.cells (cells8 x).toArray 42)) D L B := hT.below ((Below.refl _ _).alloc (Nat.le_refl _) _)
      have hXE : Below D w (wr.alloc (.cells (cells8 x).toArray 42)) := hX.alloc hDs _
      have hse : (wr.alloc (.cells (cells8 x).toArray 42)).heap.size = wr.heap.size + 1 := by simp
      obtain ⟨ad, had, hal⟩ := step_fits hfit
      obtain ⟨kind, xa, xb, xn, xm, xs, xad, xbi⟩ := x
      simp only at had
      subst had
      have q0 := hc 0 _ rfl
      have q1 := hc 1 _ rfl
      have q2 := hc 2 _ rfl
      have q3 := hc 3 _ rfl
      have q4 := hc 4 _ rfl
      have q5 := hc 5 _ rfl
      have q6 := hc 6 _ rfl
      have q7 := hc 7 _ rfl
      rw [Nat.add_zero] at q0
      obtain ⟨E, hE⟩ : ∃ E, wr.heap.size = E := ⟨_, rfl⟩
      have r0 := hBE.cell 0 _ rfl
      have r1 := hBE.cell 1 _ rfl
      have r2 := hBE.cell 2 _ rfl
      have r3 := hBE.cell 3 _ rfl
      have r4 := hBE.cell 4 _ rfl
      have r5 := hBE.cell 5 _ rfl
      have r6 := hBE.cell 6 _ rfl
      have r7 := hBE.cell 7 _ rfl
      rw [hE] at hBE hse r0 r1 r2 r3 r4 r5 r6 r7
      unfold cells8 at fOf hBE hTE hXE hse r0 r1 r2 r3 r4 r5 r6 r7
      simp only [stepL] at HS
      clear hc hst hfit hT hX hbD
      by_cases hkd : kd ⟨kind, xa, xb, xn, xm, xs, ad, xbi⟩ = 0
      · rw [if_pos hkd] at HS
        rw [hkd] at fOf
        have fOf' : ∀ W, Calls Tryd.prog 11 #[.agg #[.int .i64 kind, .int .i64 xa, .int .i64 xb, .int .u32 xn, .int .u32 xm, .string xs, .int .u32 (ad : Int), .int .i64 xbi], .int .i64 4] W fun e w' => e = .returned (.int .i64 0) ∧ Below W.heap.size W w' := fOf
        have f2 := fun W hW => Drop_any D L B xa hle W hW
        clear fOf hkd
        go_wp2_with (first
          | (go_at_call 11; (with_reducible refine (fOf' _).mono ?_); rintro e w5 ⟨rfl, h5⟩
             have hT5 := hTE.below h5
             have hX5 := hXE.trans (h5.mono (by omega))
             have hs5 : D ≤ w5.heap.size := by have := hX5.size; have := h5.size; omega
             have r1' := (h5.cell (p := ⟨E, 1, none⟩) (by show E < _; omega)).trans r1)
          | (go_at_call 12; (with_reducible refine (f2 _ (by assumption)).mono ?_); rintro e w6 ⟨rfl, B2, hT6, ht6⟩
             have hX6 := hX5.trans (turns_below ht6 hs5 hO)
             have hO6 := turns_own ht6 hs5 hO))
        go_roundw
        case rel => exact ⟨k + 1, B2, by omega, by go_num, by rw [HS.out]; exact hT6, hO6, hX6⟩
        case measure => simp [intOf]; omega
      · rw [if_neg hkd] at HS
        have t0 : ((kd ⟨kind, xa, xb, xn, xm, xs, ad, xbi⟩ : Int) == 0) = false := by rw [beq_eq_false_iff_ne]; omega
        have f2 := fun W hW => Set_any D L B ad xbi xa hal hle W hW
        generalize kd ⟨kind, xa, xb, xn, xm, xs, ad, xbi⟩ = q at *
        clear hkd
        go_wp2_with (first
          | (go_at_call 11; (with_reducible refine (fOf _).mono ?_); rintro e w5 ⟨rfl, h5⟩
             have hT5 := hTE.below h5
             have hX5 := hXE.trans (h5.mono (by omega))
             have hs5 : D ≤ w5.heap.size := by have := hX5.size; have := h5.size; omega
             have r1' := (h5.cell (p := ⟨E, 1, none⟩) (by show E < _; omega)).trans r1
             have r6' := (h5.cell (p := ⟨E, 6, none⟩) (by show E < _; omega)).trans r6
             have r7' := (h5.cell (p := ⟨E, 7, none⟩) (by show E < _; omega)).trans r7)
          | (go_at_call 10; (with_reducible refine (f2 _ (by assumption)).mono ?_); rintro e w6 ⟨rfl, B2, hT6, ht6⟩
             have hX6 := hX5.trans (turns_below ht6 hs5 hO)
             have hO6 := turns_own ht6 hs5 hO))
        go_roundw
        case rel => exact ⟨k + 1, B2, by omega, by go_num, by rw [HS.out]; exact hT6, hO6, hX6⟩
        case measure => simp [intOf]; omega
    · obtain rfl : k = n := by omega
      have d0 : decide ((k : Int) < (k : Int)) = false := decide_eq_false (by omega)
      rw [List.take_of_length_le (by omega)] at hT
      go_wp2
      go_ret
      exact ⟨rfl, hX, B, hT, hO⟩
end Go.Proofs.YtmkhojaddedpfaaDoor.pth
