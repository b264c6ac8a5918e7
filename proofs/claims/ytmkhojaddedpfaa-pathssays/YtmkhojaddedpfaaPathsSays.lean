/-
  PathsSays: whatever steps are taken of two tables, the program's and the document's, whatever addresses are asked: they say the same, and have the same.
-/
import Derived.Test.YtmkhojaddedpfaaKeepTable
import Derived.Test.YtmkhojaddedpfaaRefPathAll
import Derived.Test.YtmkhojaddedpfaaU32Row
import Derived.Deep.RegionHeld3
namespace Go.Proofs.Ytmkhojaddedpfaa.pathsSays
open Go.ChangeShapes Go.WideShapes Go.ChangeAt Go.RowKit
open pth
open rpth (RTab OwnR Rel)

/-- Both tables, in blocks of their own. -/
structure Both (w : World) (D u : Nat) (L R : List En) (B : Nat → Nat → Option Nat) (v : Value) : Prop where
  tab : Tab w D L B
  rtab : RTab w u 0 v R
  apart : ∀ q, OwnB B q → ¬ OwnR u v q
  lowB : ∀ q, OwnB B q → D ≤ q
  lowR : ∀ q, OwnR u v q → D ≤ q
theorem Both.ltB {w : World} {D u : Nat} {L R : List En} {B : Nat → Nat → Option Nat} {v : Value} (h : Both w D u L R B v) : ∀ q, OwnB B q → q < w.heap.size := fun _ ⟨_, _, hq⟩ => h.tab.lt hq
theorem Both.ltR {w : World} {D u : Nat} {L R : List En} {B : Nat → Nat → Option Nat} {v : Value} (h : Both w D u L R B v) : ∀ q, OwnR u v q → q < w.heap.size := h.rtab.lt
theorem Both.below {w w' : World} {D u : Nat} {L R : List En} {B : Nat → Nat → Option Nat} {v : Value} (h : Both w D u L R B v) (hb : Below w.heap.size w w') : Both w' D u L R B v :=
  ⟨h.tab.below hb, h.rtab.below hb, h.apart, h.lowB, h.lowR⟩
theorem Both.left {w w' : World} {D u : Nat} {L L' R : List En} {B B' : Nat → Nat → Option Nat} {v : Value} (h : Both w D u L R B v) (hT : Tab w' D L' B') (ht : Turns (OwnB B) (OwnB B') w w') (hD : D ≤ w.heap.size) : Both w' D u L' R B' v :=
  ⟨hT, h.rtab.mono fun k hk => ht.same k (h.ltR k hk) (fun q => h.apart k q hk), fun q hq hr => (ht.new q hq).elim (fun k => h.apart q k hr) (fun k => by have := h.ltR q hr; omega), turns_own ht hD h.lowB, h.lowR⟩
theorem Both.right {w w' : World} {D u : Nat} {L R R' : List En} {B : Nat → Nat → Option Nat} {v v' : Value} (h : Both w D u L R B v) (hT : RTab w' u 0 v' R') (ht : Turns (OwnR u v) (OwnR u v') w w') (hD : D ≤ w.heap.size) : Both w' D u L R' B v' :=
  ⟨h.tab.mono fun d x k hk => ht.same k (h.tab.lt hk) (h.apart k ⟨d, x, hk⟩), hT, fun q hq hr => (ht.new q hr).elim (fun k => h.apart q hq k) (fun k => by have := h.ltB q hq; omega), h.lowB, turns_own ht hD h.lowR⟩
/-- The document's Find is the longest. -/
theorem ref_find {R L : List En} (hrel : Rel R L) (hok : Ok L) (hL : L.length ≤ 64) (u : Nat) (v : Value) (a : Nat) (ha : a < 4294967296) (w : World) (hT : RTab w u 0 v R) :
    Calls Try.prog 14 #[.pointer (some ⟨u, 0, none⟩), .int .u32 (a : Int)] w fun e w' => e = .returned (.tuple #[.int .i64 (((lng L a 33).getD 0 : Nat) : Int), .bool (lng L a 33).isSome]) ∧ Below w.heap.size w w' := by
  refine (rpth.Find_any u 0 v R (fun e he => ?_) (by have := hrel.len hok; omega) a ha w hT).mono ?_
  · have := hok.each e ((hrel.mem e).1 he)
    omega
  · rintro e w' ⟨r, rfl, h1, h2, hb⟩
    have : r = lng L a 33 := by
      cases hc : lng L a 33 with
      | none =>
        cases r with
        | none => rfl
        | some q =>
          obtain ⟨e, he, hh, _, _⟩ := h2 q rfl
          have := lng_none hok 33 hc e ((hrel.mem e).1 he) hh
          have := hok.each e ((hrel.mem e).1 he)
          omega
      | some p =>
        obtain ⟨f, hf, f1, f2, f3, f4⟩ := lng_some hok 33 p hc
        cases r with
        | none => exact absurd f2 (h1 rfl f ((hrel.mem f).2 hf))
        | some q =>
          obtain ⟨e, he, hh, e1, e2⟩ := h2 q rfl
          have he' := (hrel.mem e).1 he
          have g1 := e2 f ((hrel.mem f).2 hf) f2
          have g2 := f4 e he' hh (by have := hok.each e he'; omega)
          have : e = f := has_same hok he' hf hh f2 (by omega)
          subst this
          rw [← e1, f3]
    rw [this]
    exact ⟨rfl, hb⟩
theorem cell_same {w w' : World} {X Y : Nat → Prop} (h : Turns X Y w w') {E i : Nat} (hE : E < w.heap.size) (hx : ¬ X E) {v : Value} (hv : w.cell? ⟨E, i, none⟩ = some v) : w'.cell? ⟨E, i, none⟩ = some v :=
  (World.cell?_of_block (h.same E hE hx)).trans hv
set_option maxRecDepth 100000 in
set_option maxHeartbeats 6400000 in
theorem walk (w : World) (av : Option Addr) (n c : Nat) (zs : List StepV) (hi : Steps w w.heap.size av n zs) (hr : n * 64 ≤ reachBytes) (hz : ∀ z ∈ zs, z.Fits)
    (aw : Option Addr) (n2 c2 : Nat) (qs : List Int) (hi2 : U32s w w.heap.size aw n2 qs) (hr2 : n2 * 4 ≤ reachBytes) (hz2 : ∀ z ∈ qs, (Lit.int .u32 z).wf = true) :
    Calls Try.prog 3 #[.slice av n c, .slice aw n2 c2] w fun e w' => e = .returned (.bool true) ∧ Below w.heap.size w w' := by
  have hrb : reachBytes < 140737488355328 := by decide
  have f0 := New_any w
  have hT0 := Tab.new w
  have hX0 : Below w.heap.size w (w.alloc (.cells #[.bool false, .int .u32 0, .int .i64 0, .int .i64 0, .pointer none, .pointer none, .int .i64 0] 56)) := (Below.refl _ _).alloc (Nat.le_refl _) _
  obtain ⟨w1, hw1⟩ : ∃ w1, w.alloc (.cells #[.bool false, .int .u32 0, .int .i64 0, .int .i64 0, .pointer none, .pointer none, .int .i64 0] 56) = w1 := ⟨_, rfl⟩
  have hs1 : w1.heap.size = w.heap.size + 1 := by rw [← hw1]; simp
  rw [hw1] at f0 hT0 hX0
  obtain ⟨D, hD⟩ : ∃ D, w.heap.size = D := ⟨_, rfl⟩
  rw [hD] at f0 hT0 hX0 hs1 hi hi2 ⊢
  have hR0 : RTab (w1.alloc (.cells #[.slice none 0 0] 29)) (D + 1) 0 (.slice none 0 0) [] := ⟨by rw [← hs1]; exact Blk.new w1 29 [.slice none 0 0] _ rfl, World.ownsRow_nil _ _ _ _⟩
  have hB2 : Both (w1.alloc (.cells #[.slice none 0 0] 29)) D (D + 1) [] [] (B0 D) (.slice none 0 0) := by
    refine ⟨hT0.below ((Below.refl _ _).alloc (Nat.le_refl _) _), hR0, fun q hq hr => ?_, fun q hq => by rw [own_new hq]; omega, fun q hq => ?_⟩
    · rw [own_new hq] at hr
      rcases hr with hr | hr
      · omega
      · cases hr
    · rcases hq with hq | hq
      · omega
      · cases hq
  have hX2 : Below D w (w1.alloc (.cells #[.slice none 0 0] 29)) := hX0.alloc (by omega) _
  have HI : Hid (Steps w D av n zs) := hi
  have HZ : Hid (∀ z ∈ zs, z.Fits) := hz
  have HI2 : Hid (U32s w D aw n2 qs) := hi2
  have HZ2 : Hid (∀ z ∈ qs, (Lit.int .u32 z).wf = true) := hz2
  have hn : n < 17592186044416 := by omega
  have hn2 : n2 < 35184372088832 := by omega
  clear hi hz hi2 hz2 hw1 hr hr2 hrb
  go_enter Try.func3, Try.ntmps3
  go_wp2_with (go_at_call 7; (with_reducible refine f0.mono ?_); rintro e w3 ⟨rfl, hq⟩; have hq := hq.symm; subst hq)
  obtain ⟨w4, hw4⟩ : ∃ w4, w4 = w1.alloc (.cells #[.slice none 0 0] 29) := ⟨_, rfl⟩
  rw [← hw4] at hB2 hX2 ⊢
  clear hw4 f0 hT0 hX0 hR0 hs1 hD
  go_loopw [22] (fun i wr => ∃ k R B v, k ≤ n ∧ i = .int .i64 (k : Int) ∧ Both wr D (D + 1) (allL (zs.take k)) R B v ∧ Rel R (allL (zs.take k)) ∧ Below D w wr) (fun i _ => n - (intOf i).toNat)
  case atStart => exact ⟨0, [], _, _, Nat.zero_le _, rfl, hB2, Rel.nil, hX2⟩
  case round =>
    clear hB2 hX2
    obtain ⟨k, R, B, v, hk, rfl, hB, hRel, hX⟩ := hrel
    have k0 : (0 : Int) ≤ (k : Int) := by omega
    have k1 : (k : Int) ≤ 17592186044416 := by omega
    have hlen := HI.out.len
    have hDs : D ≤ wr.heap.size := by have := hB.ltB D ⟨_, _, hB.tab.shape.root⟩; omega
    by_cases hlt : k < n
    · have d0 : decide ((k : Int) < (n : Int)) = true := decide_eq_true (by omega)
      obtain ⟨b', o, hix, hbD, hc⟩ := (HI.out.below hX (Nat.le_refl _)).at c k hlt (by omega)
      have hst := allL_take zs k (by omega)
      have hfit : (zs[k]'(by omega)).Fits := HZ.out _ (List.getElem_mem _)
      obtain ⟨hok, hle⟩ := allL_fits (zs.take k) (fun z hz => HZ.out z (List.mem_of_mem_take hz))
      have hRl := hRel.len hok
      have HS : Hid (allL (zs.take (k + 1)) = stepL (allL (zs.take k)) (zs[k]'(by omega))) := hst
      generalize zs[k]'(by omega) = x at *
      generalize allL (zs.take k) = L at *
      have fOf := Of_any x hfit
      have hBE := Blk.new wr 34 (cells8 x) _ rfl
      have hTE : Both (wr.alloc (.cells (cells8 x).toArray 34)) D (D + 1) L R B v := hB.below ((Below.refl _ _).alloc (Nat.le_refl _) _)
      have hXE : Below D w (wr.alloc (.cells (cells8 x).toArray 34)) := hX.alloc hDs _
      have hse : (wr.alloc (.cells (cells8 x).toArray 34)).heap.size = wr.heap.size + 1 := by simp
      have hnB : ∀ W v', Both W D (D + 1) L R B v' → ¬ OwnB B wr.heap.size := fun _ _ _ q => by have := hB.ltB _ q; omega
      have hnR : ¬ OwnR (D + 1) v wr.heap.size := fun q => by have := hB.ltR _ q; omega
      have hnB' := hnB wr v hB
      clear hnB
      obtain ⟨ad, had, hal⟩ := step_fits hfit
      obtain ⟨kind, xa, xb, xn, xm, xs, xad, xbi⟩ := x
      simp only at had
      subst had
      have q0 := hc 0 _ rfl
      have q1 := hc 1 _ rfl
      have q2 := hc 2 _ rfl
      have q3 := hc 3 _ rfl
      have q4 := hc 4 _ rfl
      have q5 := hc 5 _ rfl
      have q6 := hc 6 _ rfl
      have q7 := hc 7 _ rfl
      rw [Nat.add_zero] at q0
      obtain ⟨E, hE⟩ : ∃ E, wr.heap.size = E := ⟨_, rfl⟩
      have r0 := hBE.cell 0 _ rfl
      have r1 := hBE.cell 1 _ rfl
      have r2 := hBE.cell 2 _ rfl
      have r3 := hBE.cell 3 _ rfl
      have r4 := hBE.cell 4 _ rfl
      have r5 := hBE.cell 5 _ rfl
      have r6 := hBE.cell 6 _ rfl
      have r7 := hBE.cell 7 _ rfl
      rw [hE] at hBE hse r0 r1 r2 r3 r4 r5 r6 r7 hnB' hnR hDs
      unfold cells8 at fOf hBE hTE hXE hse r0 r1 r2 r3 r4 r5 r6 r7
      simp only [stepL] at HS
      have HnB : Hid (¬ OwnB B E) := hnB'
      have HnR : Hid (¬ OwnR (D + 1) v E) := hnR
      clear hc hst hfit hB hX hbD hnB' hnR
      by_cases hkd : kd ⟨kind, xa, xb, xn, xm, xs, ad, xbi⟩ = 0
      · rw [if_pos hkd] at HS
        rw [hkd] at fOf
        have fOf' : ∀ W, Calls Try.prog 8 #[.agg #[.int .i64 kind, .int .i64 xa, .int .i64 xb, .int .u32 xn, .int .u32 xm, .string xs, .int .u32 (ad : Int), .int .i64 xbi], .int .i64 4] W fun e w' => e = .returned (.int .i64 0) ∧ Below W.heap.size W w' := fOf
        have f2 := fun W hW => pth.Drop_any D L B xa hle W hW
        have f3 := fun W hW => rpth.Drop_any (D + 1) v R xa (by omega) W hW
        have hRd := hRel.drop xa
        rw [hRl, hRd.len (dL_ok hok xa)] at f3
        obtain ⟨y, hy⟩ : ∃ y, ((L.length : Int) - ((dL L xa).length : Int)) = y := ⟨_, rfl⟩
        rw [hy] at f2 f3
        clear fOf hkd hy
        go_wp2_with (first
          | (go_at_call 8; (with_reducible refine (fOf' _).mono ?_); rintro e w5 ⟨rfl, h5⟩
             have hB5 := hTE.below h5
             have hX5 := hXE.trans (h5.mono (by omega))
             have hs5 : E + 1 ≤ w5.heap.size := by have := h5.size; omega
             have r1' := (h5.cell (p := ⟨E, 1, none⟩) (by show E < _; omega)).trans r1))
        have hBd : Both w5.drew D (D + 1) L R B v := hB5.below (Below.refl _ _).drew
        have hXd : Below D w w5.drew := hX5.drew
        have r1d : w5.drew.cell? ⟨E, 1, none⟩ = some (.int .i64 xa) := r1'
        have hsd : E + 1 ≤ w5.drew.heap.size := hs5
        go_region_held3 (fun w' => w'.cell? ⟨E, 1, none⟩ = some (.int .i64 xa))
          (first
            | go_keep
            | exact r7'
            | exact r6')
          (first
            | (go_at_call 9; (with_reducible refine (f2 _ hBd.tab).mono ?_); rintro e w6 ⟨rfl, B2, hT6, ht6⟩
               have hB6 := hBd.left hT6 ht6 (by omega)
               have hX6 := hXd.trans (turns_below ht6 (by omega) hBd.lowB)
               have r6' := cell_same ht6 (by omega) HnB.out r1d
               have hs6 := Nat.le_trans hsd ht6.low.size)
            | (go_at_call 10; (with_reducible refine (f3 _ hB6.rtab).mono ?_); rintro e w7 ⟨rfl, v2, hT7, ht7⟩
               have hB7 := hB6.right hT7 ht7 (by omega)
               have hX7 := hX6.trans (turns_below ht7 (by omega) hB6.lowR)
               have r7' := cell_same ht7 (by omega) HnR.out r6'))
        go_wp2
        go_roundw
        case rel => exact ⟨k + 1, dL R xa, B2, v2, by omega, by go_num, by rw [HS.out]; exact hB7, by rw [HS.out]; exact hRd, hX7⟩
        case measure => simp [intOf]; omega
      · rw [if_neg hkd] at HS
        have t0 : ((kd ⟨kind, xa, xb, xn, xm, xs, ad, xbi⟩ : Int) == 0) = false := by rw [beq_eq_false_iff_ne]; omega
        have f2 := fun W hW => pth.Set_any D L B ad xbi xa hal hle W hW
        have f3 := fun W hW => rpth.Set_any (D + 1) v R L hRel hok hle ad xbi xa hal W hW
        generalize kd ⟨kind, xa, xb, xn, xm, xs, ad, xbi⟩ = q at *
        obtain ⟨y, hy⟩ : ∃ y, rr L ad xbi xa = y := ⟨_, rfl⟩
        rw [hy] at f2 f3
        have HS2 : Hid (allL (zs.take (k + 1)) = sL L ad xbi xa) := HS.out
        clear hkd hy HS
        go_wp2_with (first
          | (go_at_call 8; (with_reducible refine (fOf _).mono ?_); rintro e w5 ⟨rfl, h5⟩
             have hB5 := hTE.below h5
             have hX5 := hXE.trans (h5.mono (by omega))
             have hs5 : E + 1 ≤ w5.heap.size := by have := h5.size; omega
             have r1' := (h5.cell (p := ⟨E, 1, none⟩) (by show E < _; omega)).trans r1
             have r6' := (h5.cell (p := ⟨E, 6, none⟩) (by show E < _; omega)).trans r6
             have r7' := (h5.cell (p := ⟨E, 7, none⟩) (by show E < _; omega)).trans r7))
        have hBd : Both w5.drew D (D + 1) L R B v := hB5.below (Below.refl _ _).drew
        have hXd : Below D w w5.drew := hX5.drew
        have r1d : w5.drew.cell? ⟨E, 1, none⟩ = some (.int .i64 xa) := r1'
        have r6d : w5.drew.cell? ⟨E, 6, none⟩ = some (.int .u32 (ad : Int)) := r6'
        have r7d : w5.drew.cell? ⟨E, 7, none⟩ = some (.int .i64 xbi) := r7'
        have hsd : E + 1 ≤ w5.drew.heap.size := hs5
        go_region_held3 (fun w' => w'.cell? ⟨E, 1, none⟩ = some (.int .i64 xa) ∧ w'.cell? ⟨E, 6, none⟩ = some (.int .u32 (ad : Int)) ∧ w'.cell? ⟨E, 7, none⟩ = some (.int .i64 xbi))
          (first
            | go_keep
            | exact r7'
            | exact r6')
          (first
            | (go_at_call 11; (with_reducible refine (f2 _ hBd.tab).mono ?_); rintro e w6 ⟨rfl, B2, hT6, ht6⟩
               have hB6 := hBd.left hT6 ht6 (by omega)
               have hX6 := hXd.trans (turns_below ht6 (by omega) hBd.lowB)
               have r61 := cell_same ht6 (by omega) HnB.out r1d
               have r66 := cell_same ht6 (by omega) HnB.out r6d
               have r67 := cell_same ht6 (by omega) HnB.out r7d
               have hs6 := Nat.le_trans hsd ht6.low.size)
            | (go_at_call 12; (with_reducible refine (f3 _ hB6.rtab).mono ?_); rintro e w7 ⟨rfl, v2, R2, hT7, hR7, ht7⟩
               have hB7 := hB6.right hT7 ht7 (by omega)
               have hX7 := hX6.trans (turns_below ht7 (by omega) hB6.lowR)
               have r71 := cell_same ht7 (by omega) HnR.out r61
               have r76 := cell_same ht7 (by omega) HnR.out r66
               have r77 := cell_same ht7 (by omega) HnR.out r67))
        go_wp2
        go_roundw
        case rel => exact ⟨k + 1, R2, B2, v2, by omega, by go_num, by rw [HS2.out]; exact hB7, by rw [HS2.out]; exact hR7, hX7⟩
        case measure => simp [intOf]; omega
    · obtain rfl : k = n := by omega
      have d0 : decide ((k : Int) < (k : Int)) = false := decide_eq_false (by omega)
      rw [List.take_of_length_le (by omega)] at hB hRel
      obtain ⟨hok, hle⟩ := allL_fits zs HZ.out
      generalize allL zs = L at *
      generalize wr = W1 at *
      have HB : Hid (Both W1 D (D + 1) L R B v) := hB
      have HX : Hid (Below D w W1) := hX
      have HO : Hid (Ok L ∧ L.length ≤ 64 ∧ Rel R L) := ⟨hok, hle, hRel⟩
      have HI3 : Hid (U32s W1 D aw n2 qs) := HI2.out.below hX (Nat.le_refl _)
      obtain ⟨F, hF⟩ : ∃ F, W1.heap.size = F := ⟨_, rfl⟩
      have HF : Hid (W1.heap.size = F) := hF
      have hX3 : Below F W1 W1 := Below.refl _ _
      clear hok hle hRel hB hX HI HZ HI2 hlen hF
      go_wp2
      go_loopw [54] (fun i wr => ∃ j, j ≤ n2 ∧ i = .int .i64 (j : Int) ∧ Below F W1 wr) (fun i _ => n2 - (intOf i).toNat)
      case atStart => exact ⟨0, Nat.zero_le _, rfl, hX3⟩
      case round =>
        clear hX3
        obtain ⟨j, hj, rfl, hX⟩ := hrel
        have j0 : (0 : Int) ≤ (j : Int) := by omega
        have j1 : (j : Int) ≤ 35184372088832 := by omega
        have hl2 := HI3.out.len
        have hsz : F ≤ wr.heap.size := by have := hX.size; have := HF.out; omega
        have hDF : D < F := by have := HB.out.ltB D ⟨_, _, HB.out.tab.shape.root⟩; have := HF.out; omega
        have hBw : Both wr D (D + 1) L R B v := HB.out.below (by rw [HF.out]; exact hX)
        by_cases hlt : j < n2
        · have d1 : decide ((j : Int) < (n2 : Int)) = true := decide_eq_true (by omega)
          obtain ⟨b', o, hix, hbD, hc⟩ := (HI3.out.below hX (by omega)).at c2 j hlt (by omega)
          have hq := u32_bd (HZ2.out _ (List.getElem_mem (l := qs) (n := j) (by omega)))
          generalize qs[j]'(by omega) = z at *
          obtain ⟨x, rfl, hx⟩ : ∃ x : Nat, z = x ∧ x < 4294967296 := ⟨z.toNat, by omega, by omega⟩
          have f4 := fun W hW => pth.Find_any D L B x hx W hW
          have f5 := fun W hW => ref_find HO.out.2.2 HO.out.1 HO.out.2.1 (D + 1) v x hx W hW
          generalize lng L x 33 = r at *
          obtain ⟨m, hm⟩ : ∃ m, ((r.getD 0 : Nat) : Int) = m := ⟨_, rfl⟩
          obtain ⟨t, ht⟩ : ∃ t, r.isSome = t := ⟨_, rfl⟩
          rw [hm, ht] at f4 f5
          have m1 : (m != m) = false := by simp
          have m2 : (t != t) = false := by simp
          clear hm ht hq hl2
          go_wp2_with (first
            | (go_at_call 13; (with_reducible refine (f4 _ hBw.tab).mono ?_); rintro e w5 ⟨rfl, h5⟩
               have hB5 := hBw.below h5
               have hX5 := hX.trans (h5.mono hsz))
            | (go_at_call 14; (with_reducible refine (f5 _ hB5.rtab).mono ?_); rintro e w6 ⟨rfl, h6⟩
               have hX6 := hX5.trans (h6.mono (Nat.le_trans hsz h5.size))))
          go_roundw
          case rel => exact ⟨j + 1, by omega, by go_num, hX6⟩
          case measure => simp [intOf]; omega
        · obtain rfl : j = n2 := by omega
          have d1 : decide ((j : Int) < (j : Int)) = false := decide_eq_false (by omega)
          have hBw2 : Below D w wr := HX.out.trans (hX.mono (by omega))
          have hDw : D < wr.heap.size := by omega
          have f6 := fun W hW => pth.All_any D L B HO.out.2.1 W hW
          have f7 := fun W hW => rpth.All_any (D + 1) v R L HO.out.2.2 HO.out.1 HO.out.2.1 W hW
          have hL64 := HO.out.2.1
          have f8 := fun va vb W h1 h2 => Eq_any (C := 0) va vb L L rfl rfl (by omega) W h1 h2
          have hLL : decide (L = L) = true := decide_eq_true rfl
          rw [hLL] at f8
          have f9 := fun W hW => pth.Set_any D L B 0 0 (-1) (by decide) hL64 W hW
          rw [rr_arg (by decide), sL_err (by rw [rr_arg (by decide)]; decide)] at f9
          have f9' : ∀ W, Tab W D L B → Calls Try.prog 11 #[.pointer (some ⟨D, 0, none⟩), .agg #[.int .u32 0, .int .i64 0], .int .i64 (-1)] W fun e w' => e = .returned (.int .i64 1) ∧ ∃ B', Tab w' D L B' ∧ Turns (OwnB B) (OwnB B') W w' := f9
          clear f9 hLL hX hl2 hj hsz hDF
          go_wp2_with (first
            | (go_at_call 16; (with_reducible refine (f6 _ hBw.tab).mono ?_); rintro e w5 ⟨v5, rfl, hr5, h5⟩; obtain ⟨a5, k5, rfl⟩ := row_slice hr5
               have hB5 := hBw.below h5
               have hX5 := hBw2.trans (h5.mono (by omega))
               have hs5 := Nat.lt_of_lt_of_le hDw h5.size)
            | (go_at_call 17; (with_reducible refine (f7 _ hB5.rtab).mono ?_); rintro e w6 ⟨v6, rfl, hr6, h6⟩; obtain ⟨a6, k6, rfl⟩ := row_slice hr6
               have hB6 := hB5.below h6
               have hr56 := row_below hr5 h6 (fun q hq => (hr5.lt q hq).2)
               have hX6 := hX5.trans (h6.mono (by omega))
               have hs6 := Nat.lt_of_lt_of_le hs5 h6.size)
            | (go_at_call 15; (with_reducible refine (f8 _ _ _ (row_mono hr56 (Nat.zero_le _)) (row_mono hr6 (Nat.zero_le _))).mono ?_); rintro e w7 ⟨rfl, h7⟩
               have hB7 := hB6.below h7
               have hX7 := hX6.trans (h7.mono (by omega))
               have hs7 := Nat.lt_of_lt_of_le hs6 h7.size)
            | (go_at_call 11; (with_reducible refine (f9' _ hB7.tab).mono ?_); rintro e w8 ⟨rfl, B8, hT8, ht8⟩
               have hX8 := hX7.trans (turns_below ht8 (by omega) hB7.lowB)))
          go_ret
          exact ⟨rfl, hX8⟩
/-! ### The row's step -/
set_option maxRecDepth 100000 in
theorem lifted (os : Os) (started : os.Started) (H : Type) (enc : TypeId × Value → H) :
    ReturnsInHanded {} Try.checked os 3 .any (Rows.pathsSaysSpec.pre6 enc Try.prog Try.f3 Rows.pathsSaysRow.domain false) (Rows.pathsSaysSpec.post enc Try.prog Try.f3 false true false false) := by
  refine returnsInHanded_of_change_sized (C := Try.checked) own started (by kernel_rfl) Try.func3
    (ChangeSpec.witness6 (enc := enc) (C := Try.checked) false ⟨#[], #[.slice none 0 0, .slice none 0 0], []⟩ 8 (by kernel_rfl) (by kernel_rfl) (by kernel_rfl) (by kernel_rfl)) ?_
  intro W base args ds gs before hval0 hW _ hz0 _
  have hz : (DataW.weightsEach Try.prog (Try.f3.params.toList ++ Rows.pathsSaysSpec.plain.varTypes Try.prog) (ds ++ gs)).all (· ≤ reachBytes) = true := hz0
  clear hz0
  have hval : ∀ (j : Nat) t v, Try.f3.params[j]? = some t → args[j]? = some v → Value.okWide Try.prog W .any base t v := hval0
  have hW' := hW
  obtain ⟨p, q, hA0, hV, rfl, hfz, hnd⟩ := hW
  have hA : DataW.TrodAll enc Try.prog W 0 (fun _ => true) true Try.f3.params.toList args.toList ds p := hA0
  rw [Try.params3] at hA hval hz
  obtain ⟨v0, vs0, d0, ds0, p0, q0, hargs, rfl, rfl, h0, r0⟩ := trodAll_cons hA
  obtain ⟨v1, vs1, d1, ds1, p1, q1, rfl, rfl, rfl, h1, r1⟩ := trodAll_cons r0
  obtain ⟨rfl, rfl, rfl⟩ := trodAll_nil r1
  obtain rfl : args = #[v0, v1] := by cases args; simp_all
  obtain ⟨rfl, rfl⟩ := trodVars_none hV
  obtain ⟨a0, n0, c0, rfl⟩ := okWide_slice Try.underlying22 (hval 0 22 v0 rfl rfl)
  have l0 : ∀ x ∈ p0, x.block < W.heap.size := fun x hx => by
    have := hW'.lt x (by simp [hx])
    simpa using this
  obtain ⟨z0, i0, b0, e0⟩ := step_open h0 l0
  have y0 : n0 * 64 ≤ reachBytes := by
    rcases e0 with ⟨_, e0⟩ | ⟨es, sp, e0, g0⟩
    · rw [e0]; decide
    · have h := sized_slice hz (j := 0) (t := 22) (e := 34) (by rfl) (by rw [e0]; rfl) Try.underlying22
      rw [bytesSTEP] at h
      try simp only [List.length_append] at h
      omega
  obtain ⟨a1, n1, c1, rfl⟩ := okWide_slice Try.underlying23 (hval 1 23 v1 rfl rfl)
  have l1 : ∀ x ∈ p1, x.block < W.heap.size := fun x hx => by
    have := hW'.lt x (by simp [hx])
    simpa using this
  obtain ⟨z1, i1, b1, e1⟩ := u32_open h1 l1
  have y1 : n1 * 4 ≤ reachBytes := by
    rcases e1 with ⟨_, e1⟩ | ⟨es, sp, e1, g1⟩
    · rw [e1]; decide
    · have h := sized_slice hz (j := 1) (t := 23) (e := 30) (by rfl) (by rw [e1]; rfl) Try.underlying23
      rw [bytesU32] at h
      try simp only [List.length_append] at h
      omega
  clear hA0 hval0 hz
  simp only [List.append_nil] at hW'
  refine (walk W a0 n0 c0 z0 i0 y0 b0 a1 n1 c1 z1 i1 y1 b1).mono fun e W' ⟨he, hg⟩ => ?_
  subst he
  exact ⟨_, rfl, _, _, _, [], (p0 ++ (p1 ++ [])), [], hW', trodAll_cons_mk (shut_bool Try.underlying4 _) trodAll_mk0, (trodAll_cons_mk (step_shut h0 l0 hg) (trodAll_cons_mk (u32_shut h1 l1 hg) trodAll_mk0)), rfl, hg.frame _, fun h => by cases h⟩

/-- THE STATEMENT. -/
theorem proved : Rows.PathsSaysSaid :=
  OpenClaim.holds_of_wide 3 Try.f3 rfl rfl rfl rfl rfl rfl rfl ⟨rfl, rfl, rfl, rfl, rfl⟩ rfl rfl rfl rfl rfl (by kernel_rfl) Try.func3 (by kernel_rfl)
    (of_decide_eq_true (by kernel_rfl)) (by unfold Func.isWrapper; first | (rw [if_pos (by decide +kernel)]; kernel_rfl) | (rw [if_neg (by decide +kernel)]; exact ⟨rfl, rfl⟩))
    (fun os started H enc _ => lifted os started H enc)
end Go.Proofs.Ytmkhojaddedpfaa.pathsSays
