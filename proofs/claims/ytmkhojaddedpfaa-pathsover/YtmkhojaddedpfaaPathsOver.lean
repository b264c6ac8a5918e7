/-
  PathsOver: whatever steps a table was made by, whatever prefix is set to one peer and then to another: who was set last has it, nothing else changes, All rises, and what is refused changes nothing.
-/
import Derived.Test.YtmkhojaddedpfaaKeepTable
import Derived.BigQuiet
import Derived.Lib.SmallJoins
namespace Go.Proofs.Ytmkhojaddedpfaa.pathsOver
open Go.ChangeShapes Go.WideShapes Go.ChangeAt Go.RowKit
open pth

/-- What is set again, and nothing else, has another peer. -/
theorem ins_again (e : En) : ∀ L : List En, L.Pairwise lt → (∃ f ∈ L, same f e) → ins e L = L.map fun f => if same f e then e else f := by
  intro L
  induction L with
  | nil => rintro _ ⟨f, hf, _⟩; cases hf
  | cons f L ih =>
    rintro hL ⟨g, hg, hs⟩
    have h' := List.pairwise_cons.1 hL
    unfold ins
    split
    · rename_i h
      rcases List.mem_cons.1 hg with e1 | e1
      · subst e1; exact absurd (same_symm hs) (lt_not_same h)
      · exact absurd (same_symm hs) (lt_not_same (lt_trans h (h'.1 _ e1)))
    · split
      · rename_i h
        rcases List.mem_cons.1 hg with e1 | e1
        · subst e1; exact absurd hs (lt_not_same h)
        · rw [List.map_cons, if_neg (lt_not_same h), ih h'.2 ⟨g, e1, hs⟩]
      · rename_i h1 h2
        have hfe : same f e := by rcases lt_or e f with k | k | k; exact absurd k h1; exact same_symm k; exact absurd k h2
        rw [List.map_cons, if_pos hfe]
        congr 1
        have : ∀ x ∈ L, (if same x e then e else x) = x := fun x hx => if_neg fun q => lt_not_same (h'.1 _ hx) (by unfold same at *; omega)
        rw [List.map_congr_left this, List.map_id']
/-- Who is set over another. -/
theorem over {L : List En} (h : Ok L) {ad : Nat} {bits a b : Int} (h1 : rr L ad bits a = 0) : rr (sL L ad bits a) ad bits b = if 0 ≤ b ∧ b ≤ 7 then 0 else 1 := by
  have h1' := h1
  obtain ⟨n, p, rfl, rfl, g1, g2, g3, g4⟩ := rr_zero h1
  have hin : at' (sL L ad n p) n (ad / 2 ^ (32 - n)) ≠ none := by
    rw [sL_ok h1']
    simp only [Int.toNat_natCast]
    have := at_ins (L := L) h.rising (d0 := n) (u0 := ad / 2 ^ (32 - n)) (p := p) (d := n) (u := ad / 2 ^ (32 - n))
    rw [node_num g3, if_pos ⟨rfl, rfl⟩] at this
    rw [this]
    simp
  unfold rr
  simp only [Int.toNat_natCast]
  by_cases hb : 0 ≤ b ∧ b ≤ 7
  · rw [if_pos hb, if_neg (by omega), if_neg (fun q => q g3), if_neg (fun q => hin q.2)]
  · rw [if_neg hb, if_pos (by omega)]
theorem over_at {L : List En} (h : Ok L) {ad : Nat} {bits a b : Int} (h1 : rr L ad bits a = 0) (h2 : rr (sL L ad bits a) ad bits b = 0) :
    ∃ n pb : Nat, bits = n ∧ b = pb ∧ sL (sL L ad bits a) ad bits b = (sL L ad bits a).map fun f => if same f (ad, n, pb) then (ad, n, pb) else f := by
  have h1' := h1
  have h2' := h2
  obtain ⟨n, p, rfl, rfl, g1, g2, g3, g4⟩ := rr_zero h1
  obtain ⟨n', pb, hn, rfl, _, _, _, _⟩ := rr_zero h2
  refine ⟨n, pb, rfl, rfl, ?_⟩
  rw [sL_ok h2', sL_ok h1']
  simp only [Int.toNat_natCast]
  refine ins_again _ _ (rising_ins _ _ h.rising) ⟨(ad, n, p), ?_, rfl, rfl⟩
  rw [mem_ins _ _ _ h.rising]
  exact .inl rfl
theorem low {w w' : World} {X Y : Nat → Prop} {C : Nat} (h : Turns X Y w w') (hX : ∀ k, X k → C ≤ k) (hC : C ≤ w.heap.size) : Below C w w' := turns_below h hC hX
set_option maxRecDepth 100000 in
set_option maxHeartbeats 6400000 in
theorem walk (w : World) (av : Option Addr) (n c : Nat) (zs : List StepV) (hi : Steps w w.heap.size av n zs) (hr : n * 64 ≤ reachBytes) (hz : ∀ z ∈ zs, z.Fits)
    (ad : Int) (had : (Lit.int .u32 ad).wf = true) (bits : Int) (_hbits : (Lit.int .i64 bits).wf = true) (a : Int) (_ha : (Lit.int .i64 a).wf = true) (b : Int) (_hb : (Lit.int .i64 b).wf = true) :
    Calls Try.prog 6 #[.slice av n c, .agg #[.int .u32 ad, .int .i64 bits], .int .i64 a, .int .i64 b] w fun e w' => e = .returned (.bool true) ∧ Below w.heap.size w w' := by
  have hrb : reachBytes < 140737488355328 := by decide
  obtain ⟨x, rfl, hx⟩ : ∃ x : Nat, ad = x ∧ x < 4294967296 := by
    have := u32_bd had
    exact ⟨ad.toNat, by omega, by omega⟩
  obtain ⟨D, hD⟩ : ∃ D, w.heap.size = D := ⟨_, rfl⟩
  have hP : Blk (w.alloc (.cells #[.int .u32 (x : Int), .int .i64 bits] 32)) D 32 [.int .u32 (x : Int), .int .i64 bits] := by rw [← hD]; exact Blk.new w 32 _ _ rfl
  have hX0 : Below D w (w.alloc (.cells #[.int .u32 (x : Int), .int .i64 bits] 32)) := (Below.refl _ _).alloc (by omega) _
  have hs0 : (w.alloc (.cells #[.int .u32 (x : Int), .int .i64 bits] 32)).heap.size = D + 1 := by simp [hD]
  have hi0 : Steps (w.alloc (.cells #[.int .u32 (x : Int), .int .i64 bits] 32)) (D + 1) av n zs := by
    have := hi.below (C := w.heap.size) ((Below.refl w.heap.size w).alloc (Nat.le_refl _) (.cells #[.int .u32 (x : Int), .int .i64 bits] 32)) (Nat.le_refl _)
    refine ⟨this.len, fun h0 => ?_⟩
    obtain ⟨b', off, e1, e2, e3⟩ := this.lies h0
    exact ⟨b', off, e1, by omega, e3⟩
  have f0 := table_any (w.alloc (.cells #[.int .u32 (x : Int), .int .i64 bits] 32)) av n c zs (by rw [hs0]; exact hi0) (by omega) hz
  rw [hs0] at f0
  obtain ⟨hok, hle⟩ := allL_fits zs hz
  generalize allL zs = L at *
  have f1 := fun W B hW => Set_any (D + 1) L B x bits a hx hle W hW
  have hok1 := sL_ok' hok hx (bits := bits) (peer := a)
  have hle1 := sL_len hok hle (a := x) (bits := bits) (peer := a)
  obtain ⟨L1, hL1⟩ : ∃ L1, sL L x bits a = L1 := ⟨_, rfl⟩
  obtain ⟨r1, hr1⟩ : ∃ r, rr L x bits a = r := ⟨_, rfl⟩
  rw [hL1] at hok1 hle1
  have f2 := fun W B hW => Set_any (D + 1) L1 B x bits b hx hle1 W hW
  have hok2 := sL_ok' hok1 hx (bits := bits) (peer := b)
  have hle2 := sL_len hok1 hle1 (a := x) (bits := bits) (peer := b)
  obtain ⟨L2, hL2⟩ : ∃ L2, sL L1 x bits b = L2 := ⟨_, rfl⟩
  obtain ⟨r2, hr2⟩ : ∃ r, rr L1 x bits b = r := ⟨_, rfl⟩
  rw [hL2] at hok2 hle2
  rw [hL1, hr1] at f1
  rw [hL2, hr2] at f2
  have hover : r1 = 0 → r2 = if 0 ≤ b ∧ b ≤ 7 then 0 else 1 := fun h => by rw [← hr2, ← hL1]; exact over hok (by rw [hr1]; exact h)
  have herr : r2 ≠ 0 → L2 = L1 := fun h => by rw [← hL2]; exact sL_err (by rw [hr2]; exact h)
  have hat : r1 = 0 → r2 = 0 → ∃ n pb : Nat, bits = n ∧ b = pb ∧ L2 = L1.map fun f => if same f (x, n, pb) then (x, n, pb) else f := fun h1 h2 => by
    rw [← hL2, ← hL1]
    exact over_at hok (by rw [hr1]; exact h1) (by rw [hL1, hr2]; exact h2)
  rw [hD]
  clear hi hi0 hr hz had hrb hL1 hL2 hr1 hr2 hs0
  by_cases e1 : r1 = 0
  · subst e1
    have ho := hover rfl
    by_cases hb : 0 ≤ b ∧ b ≤ 7
    · rw [if_pos hb] at ho
      subst ho
      obtain ⟨bn, pb, rfl, rfl, hmap⟩ := hat rfl rfl
      have t1 : decide ((pb : Int) ≥ 0) = true := decide_eq_true (by omega)
      have t2 : decide ((pb : Int) ≤ 7) = true := decide_eq_true (by omega)
      have hl12 : L2.length = L1.length := by rw [hmap, List.length_map]
      have t3 : ((L1.length : Int) != (L2.length : Int)) = false := by rw [hl12]; simp
      have t4 : decide ((L1.length : Int) > 64) = false := decide_eq_false (by omega)
      have HM : Hid (L2 = L1.map fun f => if same f (x, bn, pb) then (x, bn, pb) else f) := hmap
      clear hover herr hat hb hmap
      go_enter Try.func6, Try.ntmps6
      go_wp2_with (first
        | (go_at_call 18; (with_reducible refine f0.mono ?_); rintro e w1 ⟨rfl, h1, B, hT1, hO1⟩
           have hs1 : D + 1 ≤ w1.heap.size := by have := hT1.lt hT1.shape.root; omega
           have hP1 := hP.below h1 (by omega)
           have hX1 := hX0.trans (h1.mono (by omega))
           have c0 := hP1.cell 0 _ rfl
           have c1 := hP1.cell 1 _ rfl)
        | (go_at_call 11; (with_reducible refine (f1 _ _ hT1).mono ?_); rintro e w2 ⟨rfl, B2, hT2, ht2⟩
           have h2 := low ht2 hO1 hs1
           have hP2 := hP1.below h2 (by omega)
           have hX2 := hX1.trans (h2.mono (by omega))
           have hO2 := turns_own ht2 hs1 hO1
           have hs2 := Nat.le_trans hs1 h2.size)
        | (go_at_call 16; (with_reducible refine (All_any (D + 1) _ _ hle1 _ hT2).mono ?_); rintro e w3 ⟨v3, rfl, hr3, h3⟩; obtain ⟨a3, k3, rfl⟩ := row_slice hr3
           have hT3 := hT2.below h3
           have hP3 := hP2.below h3 (by omega)
           have hX3 := hX2.trans (h3.mono (by omega))
           have hs3 := Nat.le_trans hs2 h3.size
           have c0 := hP3.cell 0 _ rfl
           have c1 := hP3.cell 1 _ rfl)
        | (go_at_call 11; (with_reducible refine (f2 _ _ hT3).mono ?_); rintro e w4 ⟨rfl, B4, hT4, ht4⟩
           have h4 := low ht4 hO2 hs3
           have hP4 := hP3.below h4 (by omega)
           have hX4 := hX3.trans (h4.mono (by omega))
           have hr4 := row_turns hr3 ht4 (fun j hj ⟨d, v, hB⟩ => by have := hT2.lt hB; have := (hr3.lt j hj).1; omega)
           have hs4 := Nat.le_trans hs3 h4.size)
        | (go_at_call 16; (with_reducible refine (All_any (D + 1) _ _ hle2 _ hT4).mono ?_); rintro e w5 ⟨v5, rfl, hr5, h5⟩; obtain ⟨a5, k5, rfl⟩ := row_slice hr5
           have hP5 := hP4.below h5 (by omega)
           have hr5' := hr5
           have hX5 := hX4.trans (h5.mono (by omega))
           have hq5 := row_below hr4 h5 (fun j hj => (hr4.lt j hj).2)
           have hs5 := Nat.le_trans hs4 h5.size
           have c0 := hP5.cell 0 _ rfl
           have c1 := hP5.cell 1 _ rfl))
      obtain ⟨E, hE⟩ : ∃ E, w5.heap.size = E := ⟨_, rfl⟩
      have hX50 : Below E w5 w5 := Below.refl _ _
      have H1 : Hid (w5.ownsRow w2.heap.size 42 3 (.slice a3 L1.length k3) L1.length (rows L1)) := hq5
      have H2 : Hid (w5.ownsRow w4.heap.size 42 3 (.slice a5 L2.length k5) L2.length (rows L2)) := hr5'
      have HL : Hid (L2.length = L1.length) := hl12
      have HO : Hid (L1.Pairwise lt) := hok1.rising
      have HP : Hid (Below D w w5) := hX5
      have HD : Hid (D < E) := by show _ < _; omega
      rw [hl12] at H2
      have hD5 : D < E := by omega
      clear hq5 hr5 hr5' hX5 hX1 hX2 hX3 hX4 hT1 hT2 hT3 hT4 hP1 hP2 hP3 hP4 hP5 ht2 ht4 h1 h2 h3 h4 h5 hO1 hO2 hr3 hr4 f0 f1 f2 hP hX0 hs1 hs2 hs3 hs4 hs5 hl12
      go_loopw [69] (fun i wr => ∃ k, k ≤ L1.length ∧ i = .int .i64 (k : Int) ∧ Below E w5 wr) (fun i _ => L1.length - (intOf i).toNat)
      case atStart => exact ⟨0, Nat.zero_le _, rfl, hX50⟩
      case round =>
        clear hX50
        obtain ⟨k, hk, rfl, hX⟩ := hrel
        have k0 : (0 : Int) ≤ (k : Int) := by omega
        have k1 : (k : Int) ≤ 64 := by omega
        have l1 : (L1.length : Int) ≤ 64 := by omega
        replace c0 := (hX.cell (p := ⟨D, 0, none⟩) hD5).trans c0
        replace c1 := (hX.cell (p := ⟨D, 1, none⟩) hD5).trans c1
        by_cases hlt : k < L1.length
        · have d0 : decide ((k : Int) < (L1.length : Int)) = true := decide_eq_true (by omega)
          have hlt2 : k < L2.length := by have := HL.out; omega
          obtain ⟨g1, o1, x1, p1, _, a1, a2, a3', _⟩ := row_at H1.out rfl k hlt hlt
          obtain ⟨g2, o2, x2, p2, _, b1, b2, b3, _⟩ := row_at H2.out HL.out k hlt hlt2
          have q1 : g1 < E := by have := (H1.out.lt g1 p1).2; omega
          have q2 : g2 < E := by have := (H2.out.lt g2 p2).2; omega
          have hmk : L2[k]'hlt2 = if same L1[k] (x, bn, pb) then (x, bn, pb) else L1[k] := by rw [List.getElem_of_eq HM.out, List.getElem_map]
          rw [hmk] at b1 b2 b3
          replace a1 := (hX.cell (p := ⟨g1, o1, none⟩) q1).trans a1
          replace a2 := (hX.cell (p := ⟨g1, o1 + 1, none⟩) q1).trans a2
          replace a3' := (hX.cell (p := ⟨g1, o1 + 2, none⟩) q1).trans a3'
          replace b1 := (hX.cell (p := ⟨g2, o2, none⟩) q2).trans b1
          replace b2 := (hX.cell (p := ⟨g2, o2 + 1, none⟩) q2).trans b2
          replace b3 := (hX.cell (p := ⟨g2, o2 + 2, none⟩) q2).trans b3
          clear hmk p1 p2 q1 q2
          cases k with
          | zero =>
            generalize L1[0] = e at *
            have x1' : ∀ W : World, (Instr.indexAt 27 (.slice a3 L1.length k3) (.int .i64 0)).run Try.prog W = .ok (.pointer (some ⟨g1, o1, none⟩)) W := x1
            have x2' : ∀ W : World, (Instr.indexAt 27 (.slice a5 L1.length k5) (.int .i64 0)).run Try.prog W = .ok (.pointer (some ⟨g2, o2, none⟩)) W := x2
            obtain ⟨e1, e2, e3⟩ := e
            simp only at a1 a2 a3'
            by_cases hs1 : e1 = x
            · subst hs1
              by_cases hs2 : e2 = bn
              · subst hs2
                rw [if_pos ⟨rfl, rfl⟩] at b1 b2 b3
                simp only at b1 b2 b3
                go_wp2
                go_quiet (fail)
                go_wp2
                go_quiet (fail)
                go_wp2
                go_roundw
                case rel => exact ⟨0 + 1, by omega, by go_num, hX.trans (Go.Joins.below_draws E wr _)⟩
                case measure => simp [intOf]; omega
              · rw [if_neg (fun q => hs2 q.2)] at b1 b2 b3
                simp only at b1 b2 b3
                have s1 : ((e2 : Int) == (bn : Int)) = false := by rw [beq_eq_false_iff_ne]; omega
                have s2 : ((e2 : Int) != (bn : Int)) = true := by rw [bne_iff_ne]; omega
                have s3 : decide ((e2 : Int) = (bn : Int)) = false := decide_eq_false (by omega)
                clear hs2
                go_wp2
                go_quiet (fail)
                go_wp2
                go_quiet (fail)
                go_wp2
                go_roundw
                case rel => exact ⟨0 + 1, by omega, by go_num, hX.trans (Go.Joins.below_draws E wr _)⟩
                case measure => simp [intOf]; omega
            · rw [if_neg (fun q => hs1 q.1)] at b1 b2 b3
              simp only at b1 b2 b3
              have s1 : ((e1 : Int) == (x : Int)) = false := by rw [beq_eq_false_iff_ne]; omega
              have s2 : ((e1 : Int) != (x : Int)) = true := by rw [bne_iff_ne]; omega
              have s3 : decide ((e1 : Int) = (x : Int)) = false := decide_eq_false (by omega)
              clear hs1
              go_wp2
              go_quiet (fail)
              go_wp2
              go_quiet (fail)
              go_wp2
              go_roundw
              case rel => exact ⟨0 + 1, by omega, by go_num, hX.trans (Go.Joins.below_draws E wr _)⟩
              case measure => simp [intOf]; omega
          | succ j =>
            obtain ⟨g3, o3, x3, p3, _, m1, m2, m3, _⟩ := row_at H1.out rfl j (by omega) (by omega)
            have q3 : g3 < E := by have := (H1.out.lt g3 p3).2; omega
            replace m1 := (hX.cell (p := ⟨g3, o3, none⟩) q3).trans m1
            replace m2 := (hX.cell (p := ⟨g3, o3 + 1, none⟩) q3).trans m2
            have hl : lt (L1[j]'(by omega)) (L1[j + 1]'hlt) := List.pairwise_iff_getElem.1 HO.out j (j + 1) (by omega) hlt (by omega)
            clear m3 p3 q3
            generalize L1[j + 1]'hlt = e at *
            generalize L1[j]'(by omega) = f at *
            obtain ⟨e1, e2, e3⟩ := e
            obtain ⟨f1, f2, f3⟩ := f
            simp only at a1 a2 a3' m1 m2
            have x1' : ∀ W : World, (Instr.indexAt 27 (.slice a3 L1.length k3) (.int .i64 ((j : Int) + 1))).run Try.prog W = .ok (.pointer (some ⟨g1, o1, none⟩)) W := x1
            have x2' : ∀ W : World, (Instr.indexAt 27 (.slice a5 L1.length k5) (.int .i64 ((j : Int) + 1))).run Try.prog W = .ok (.pointer (some ⟨g2, o2, none⟩)) W := x2
            have d1 : decide ((j : Int) + 1 > 0) = true := decide_eq_true (by omega)
            have d2 : (j : Int) + 1 - 1 = (j : Int) := by omega
            have j1 : (j : Int) ≤ 63 := by omega
            have j0 : (0 : Int) ≤ (j : Int) := by omega
            unfold lt at hl
            simp only at hl
            rcases hl with hl | ⟨hl1, hl2⟩
            · have u1 : decide ((f1 : Int) > (e1 : Int)) = false := decide_eq_false (by omega)
              have u1' : decide ((e1 : Int) < (f1 : Int)) = false := decide_eq_false (by omega)
              have u1n : ¬ e1 < f1 := by omega
              have u2n : ¬ f1 = e1 := by omega
              have u2 : ((f1 : Int) == (e1 : Int)) = false := by rw [beq_eq_false_iff_ne]; omega
              by_cases hs1 : e1 = x
              · subst hs1
                by_cases hs2 : e2 = bn
                · subst hs2
                  rw [if_pos ⟨rfl, rfl⟩] at b1 b2 b3
                  simp only at b1 b2 b3
                  go_wp2
                  go_quiet (fail)
                  go_wp2
                  go_quiet (fail)
                  go_wp2
                  go_roundw
                  case rel => exact ⟨j + 1 + 1, by omega, by go_num, hX.trans (Go.Joins.below_draws E wr _)⟩
                  case measure => simp [intOf]; omega
                · rw [if_neg (fun q => hs2 q.2)] at b1 b2 b3
                  simp only at b1 b2 b3
                  have s1 : ((e2 : Int) == (bn : Int)) = false := by rw [beq_eq_false_iff_ne]; omega
                  have s2 : ((e2 : Int) != (bn : Int)) = true := by rw [bne_iff_ne]; omega
                  have s3 : decide ((e2 : Int) = (bn : Int)) = false := decide_eq_false (by omega)
                  clear hs2
                  go_wp2
                  go_quiet (fail)
                  go_wp2
                  go_quiet (fail)
                  go_wp2
                  go_roundw
                  case rel => exact ⟨j + 1 + 1, by omega, by go_num, hX.trans (Go.Joins.below_draws E wr _)⟩
                  case measure => simp [intOf]; omega
              · rw [if_neg (fun q => hs1 q.1)] at b1 b2 b3
                simp only at b1 b2 b3
                have s1 : ((e1 : Int) == (x : Int)) = false := by rw [beq_eq_false_iff_ne]; omega
                have s2 : ((e1 : Int) != (x : Int)) = true := by rw [bne_iff_ne]; omega
                have s3 : decide ((e1 : Int) = (x : Int)) = false := decide_eq_false (by omega)
                clear hs1
                go_wp2
                go_quiet (fail)
                go_wp2
                go_quiet (fail)
                go_wp2
                go_roundw
                case rel => exact ⟨j + 1 + 1, by omega, by go_num, hX.trans (Go.Joins.below_draws E wr _)⟩
                case measure => simp [intOf]; omega
            · subst hl1
              have u1 : decide ((f1 : Int) > (f1 : Int)) = false := decide_eq_false (by omega)
              have u2 : ((f1 : Int) == (f1 : Int)) = true := by simp
              have u3 : decide ((f2 : Int) ≥ (e2 : Int)) = false := decide_eq_false (by omega)
              have u3' : decide ((e2 : Int) ≤ (f2 : Int)) = false := decide_eq_false (by omega)
              have u3n : ¬ e2 ≤ f2 := by omega
              by_cases hs1 : f1 = x
              · subst hs1
                by_cases hs2 : e2 = bn
                · subst hs2
                  rw [if_pos ⟨rfl, rfl⟩] at b1 b2 b3
                  simp only at b1 b2 b3
                  go_wp2
                  go_quiet (fail)
                  go_wp2
                  go_quiet (fail)
                  go_wp2
                  go_roundw
                  case rel => exact ⟨j + 1 + 1, by omega, by go_num, hX.trans (Go.Joins.below_draws E wr _)⟩
                  case measure => simp [intOf]; omega
                · rw [if_neg (fun q => hs2 q.2)] at b1 b2 b3
                  simp only at b1 b2 b3
                  have s1 : ((e2 : Int) == (bn : Int)) = false := by rw [beq_eq_false_iff_ne]; omega
                  have s2 : ((e2 : Int) != (bn : Int)) = true := by rw [bne_iff_ne]; omega
                  have s3 : decide ((e2 : Int) = (bn : Int)) = false := decide_eq_false (by omega)
                  clear hs2
                  go_wp2
                  go_quiet (fail)
                  go_wp2
                  go_quiet (fail)
                  go_wp2
                  go_roundw
                  case rel => exact ⟨j + 1 + 1, by omega, by go_num, hX.trans (Go.Joins.below_draws E wr _)⟩
                  case measure => simp [intOf]; omega
              · rw [if_neg (fun q => hs1 q.1)] at b1 b2 b3
                simp only at b1 b2 b3
                have s1 : ((f1 : Int) == (x : Int)) = false := by rw [beq_eq_false_iff_ne]; omega
                have s2 : ((f1 : Int) != (x : Int)) = true := by rw [bne_iff_ne]; omega
                have s3 : decide ((f1 : Int) = (x : Int)) = false := decide_eq_false (by omega)
                clear hs1
                go_wp2
                go_quiet (fail)
                go_wp2
                go_quiet (fail)
                go_wp2
                go_roundw
                case rel => exact ⟨j + 1 + 1, by omega, by go_num, hX.trans (Go.Joins.below_draws E wr _)⟩
                case measure => simp [intOf]; omega
        · obtain rfl : k = L1.length := by omega
          have d0 : decide ((L1.length : Int) < (L1.length : Int)) = false := decide_eq_false (by omega)
          go_wp2
          go_ret
          exact ⟨rfl, HP.out.trans (hX.mono (by have := HD.out; omega))⟩
    · rw [if_neg hb] at ho
      subst ho
      have hE := herr (by decide)
      subst hE
      have f7 := fun va vb W h1 h2 => Eq_any (C := 0) va vb L2 L2 rfl rfl (by omega) W h1 h2
      have b1 : ¬ (0 ≤ b ∧ b ≤ 7) := hb
      obtain ⟨y1, hy1⟩ : ∃ y, decide (b ≥ 0) = y := ⟨_, rfl⟩
      obtain ⟨y2, hy2⟩ : ∃ y, decide (b ≤ 7) = y := ⟨_, rfl⟩
      have hyy : (y1 && y2) = false := by
        rw [← hy1, ← hy2, Bool.eq_false_iff]
        intro q
        simp only [Bool.and_eq_true, decide_eq_true_eq] at q
        omega
      clear hover herr hat hb b1
      cases y1
      · clear hyy hy2
        go_enter Try.func6, Try.ntmps6
        go_wp2_with (first
          | (go_at_call 18; (with_reducible refine f0.mono ?_); rintro e w1 ⟨rfl, h1, B, hT1, hO1⟩
             have hs1 : D + 1 ≤ w1.heap.size := by have := hT1.lt hT1.shape.root; omega
             have hP1 := hP.below h1 (by omega)
             have hX1 := hX0.trans (h1.mono (by omega))
             have c0 := hP1.cell 0 _ rfl
             have c1 := hP1.cell 1 _ rfl)
          | (go_at_call 11; (with_reducible refine (f1 _ _ hT1).mono ?_); rintro e w2 ⟨rfl, B2, hT2, ht2⟩
             have h2 := low ht2 hO1 hs1
             have hP2 := hP1.below h2 (by omega)
             have hX2 := hX1.trans (h2.mono (by omega))
             have hO2 := turns_own ht2 hs1 hO1
             have hs2 := Nat.le_trans hs1 h2.size)
          | (go_at_call 16; (with_reducible refine (All_any (D + 1) _ _ hle1 _ hT2).mono ?_); rintro e w3 ⟨v3, rfl, hr3, h3⟩; obtain ⟨a3, k3, rfl⟩ := row_slice hr3
             have hT3 := hT2.below h3
             have hP3 := hP2.below h3 (by omega)
             have hX3 := hX2.trans (h3.mono (by omega))
             have hs3 := Nat.le_trans hs2 h3.size
             have c0 := hP3.cell 0 _ rfl
             have c1 := hP3.cell 1 _ rfl)
          | (go_at_call 11; (with_reducible refine (f2 _ _ hT3).mono ?_); rintro e w4 ⟨rfl, B4, hT4, ht4⟩
             have h4 := low ht4 hO2 hs3
             have hP4 := hP3.below h4 (by omega)
             have hX4 := hX3.trans (h4.mono (by omega))
             have hr4 := row_turns hr3 ht4 (fun j hj ⟨d, v, hB⟩ => by have := hT2.lt hB; have := (hr3.lt j hj).1; omega)
             have hs4 := Nat.le_trans hs3 h4.size)
          | (go_at_call 16; (with_reducible refine (All_any (D + 1) _ _ hle2 _ hT4).mono ?_); rintro e w5 ⟨v5, rfl, hr5, h5⟩; obtain ⟨a5, k5, rfl⟩ := row_slice hr5
             have hP5 := hP4.below h5 (by omega)
             have hr5' := hr5
             have hX5 := hX4.trans (h5.mono (by omega))
             have hq5 := row_below hr4 h5 (fun j hj => (hr4.lt j hj).2)
             have hs5 := Nat.le_trans hs4 h5.size
             have c0 := hP5.cell 0 _ rfl
             have c1 := hP5.cell 1 _ rfl)
          | (go_at_call 15; (with_reducible refine (f7 _ _ _ (row_mono hq5 (Nat.zero_le _)) (row_mono hr5' (Nat.zero_le _))).mono ?_); rintro e w6 ⟨rfl, h6⟩
             have hX6 := hX5.trans (h6.mono (by omega))))
        go_ret
        exact ⟨rfl, hX6⟩
      · cases y2
        · clear hyy
          go_enter Try.func6, Try.ntmps6
          go_wp2_with (first
            | (go_at_call 18; (with_reducible refine f0.mono ?_); rintro e w1 ⟨rfl, h1, B, hT1, hO1⟩
               have hs1 : D + 1 ≤ w1.heap.size := by have := hT1.lt hT1.shape.root; omega
               have hP1 := hP.below h1 (by omega)
               have hX1 := hX0.trans (h1.mono (by omega))
               have c0 := hP1.cell 0 _ rfl
               have c1 := hP1.cell 1 _ rfl)
            | (go_at_call 11; (with_reducible refine (f1 _ _ hT1).mono ?_); rintro e w2 ⟨rfl, B2, hT2, ht2⟩
               have h2 := low ht2 hO1 hs1
               have hP2 := hP1.below h2 (by omega)
               have hX2 := hX1.trans (h2.mono (by omega))
               have hO2 := turns_own ht2 hs1 hO1
               have hs2 := Nat.le_trans hs1 h2.size)
            | (go_at_call 16; (with_reducible refine (All_any (D + 1) _ _ hle1 _ hT2).mono ?_); rintro e w3 ⟨v3, rfl, hr3, h3⟩; obtain ⟨a3, k3, rfl⟩ := row_slice hr3
               have hT3 := hT2.below h3
               have hP3 := hP2.below h3 (by omega)
               have hX3 := hX2.trans (h3.mono (by omega))
               have hs3 := Nat.le_trans hs2 h3.size
               have c0 := hP3.cell 0 _ rfl
               have c1 := hP3.cell 1 _ rfl)
            | (go_at_call 11; (with_reducible refine (f2 _ _ hT3).mono ?_); rintro e w4 ⟨rfl, B4, hT4, ht4⟩
               have h4 := low ht4 hO2 hs3
               have hP4 := hP3.below h4 (by omega)
               have hX4 := hX3.trans (h4.mono (by omega))
               have hr4 := row_turns hr3 ht4 (fun j hj ⟨d, v, hB⟩ => by have := hT2.lt hB; have := (hr3.lt j hj).1; omega)
               have hs4 := Nat.le_trans hs3 h4.size)
            | (go_at_call 16; (with_reducible refine (All_any (D + 1) _ _ hle2 _ hT4).mono ?_); rintro e w5 ⟨v5, rfl, hr5, h5⟩; obtain ⟨a5, k5, rfl⟩ := row_slice hr5
               have hP5 := hP4.below h5 (by omega)
               have hr5' := hr5
               have hX5 := hX4.trans (h5.mono (by omega))
               have hq5 := row_below hr4 h5 (fun j hj => (hr4.lt j hj).2)
               have hs5 := Nat.le_trans hs4 h5.size
               have c0 := hP5.cell 0 _ rfl
               have c1 := hP5.cell 1 _ rfl)
            | (go_at_call 15; (with_reducible refine (f7 _ _ _ (row_mono hq5 (Nat.zero_le _)) (row_mono hr5' (Nat.zero_le _))).mono ?_); rintro e w6 ⟨rfl, h6⟩
               have hX6 := hX5.trans (h6.mono (by omega))))
          go_ret
          exact ⟨rfl, hX6⟩
        · cases hyy
  · have s1 : (r1 == 0) = false := by rw [beq_eq_false_iff_ne]; exact e1
    have s2 : (r1 != 0) = true := by rw [bne_iff_ne]; exact e1
    by_cases e2 : r2 = 0
    · subst e2
      clear hover herr hat e1
      go_enter Try.func6, Try.ntmps6
      go_wp2_with (first
        | (go_at_call 18; (with_reducible refine f0.mono ?_); rintro e w1 ⟨rfl, h1, B, hT1, hO1⟩
           have hs1 : D + 1 ≤ w1.heap.size := by have := hT1.lt hT1.shape.root; omega
           have hP1 := hP.below h1 (by omega)
           have hX1 := hX0.trans (h1.mono (by omega))
           have c0 := hP1.cell 0 _ rfl
           have c1 := hP1.cell 1 _ rfl)
        | (go_at_call 11; (with_reducible refine (f1 _ _ hT1).mono ?_); rintro e w2 ⟨rfl, B2, hT2, ht2⟩
           have h2 := low ht2 hO1 hs1
           have hP2 := hP1.below h2 (by omega)
           have hX2 := hX1.trans (h2.mono (by omega))
           have hO2 := turns_own ht2 hs1 hO1
           have hs2 := Nat.le_trans hs1 h2.size)
        | (go_at_call 16; (with_reducible refine (All_any (D + 1) _ _ hle1 _ hT2).mono ?_); rintro e w3 ⟨v3, rfl, hr3, h3⟩; obtain ⟨a3, k3, rfl⟩ := row_slice hr3
           have hT3 := hT2.below h3
           have hP3 := hP2.below h3 (by omega)
           have hX3 := hX2.trans (h3.mono (by omega))
           have hs3 := Nat.le_trans hs2 h3.size
           have c0 := hP3.cell 0 _ rfl
           have c1 := hP3.cell 1 _ rfl)
        | (go_at_call 11; (with_reducible refine (f2 _ _ hT3).mono ?_); rintro e w4 ⟨rfl, B4, hT4, ht4⟩
           have h4 := low ht4 hO2 hs3
           have hP4 := hP3.below h4 (by omega)
           have hX4 := hX3.trans (h4.mono (by omega))
           have hr4 := row_turns hr3 ht4 (fun j hj ⟨d, v, hB⟩ => by have := hT2.lt hB; have := (hr3.lt j hj).1; omega)
           have hs4 := Nat.le_trans hs3 h4.size)
        | (go_at_call 16; (with_reducible refine (All_any (D + 1) _ _ hle2 _ hT4).mono ?_); rintro e w5 ⟨v5, rfl, hr5, h5⟩; obtain ⟨a5, k5, rfl⟩ := row_slice hr5
           have hP5 := hP4.below h5 (by omega)
           have hr5' := hr5
           have hX5 := hX4.trans (h5.mono (by omega))
           have hq5 := row_below hr4 h5 (fun j hj => (hr4.lt j hj).2)
           have hs5 := Nat.le_trans hs4 h5.size
           have c0 := hP5.cell 0 _ rfl
           have c1 := hP5.cell 1 _ rfl))
      go_ret
      exact ⟨rfl, hX5⟩
    · have hE := herr e2
      subst hE
      have f7 := fun va vb W h1 h2 => Eq_any (C := 0) va vb L2 L2 rfl rfl (by omega) W h1 h2
      have s3 : (r2 == 0) = false := by rw [beq_eq_false_iff_ne]; exact e2
      have s4 : (r2 != 0) = true := by rw [bne_iff_ne]; exact e2
      clear hover herr hat e1 e2
      go_enter Try.func6, Try.ntmps6
      go_wp2_with (first
        | (go_at_call 18; (with_reducible refine f0.mono ?_); rintro e w1 ⟨rfl, h1, B, hT1, hO1⟩
           have hs1 : D + 1 ≤ w1.heap.size := by have := hT1.lt hT1.shape.root; omega
           have hP1 := hP.below h1 (by omega)
           have hX1 := hX0.trans (h1.mono (by omega))
           have c0 := hP1.cell 0 _ rfl
           have c1 := hP1.cell 1 _ rfl)
        | (go_at_call 11; (with_reducible refine (f1 _ _ hT1).mono ?_); rintro e w2 ⟨rfl, B2, hT2, ht2⟩
           have h2 := low ht2 hO1 hs1
           have hP2 := hP1.below h2 (by omega)
           have hX2 := hX1.trans (h2.mono (by omega))
           have hO2 := turns_own ht2 hs1 hO1
           have hs2 := Nat.le_trans hs1 h2.size)
        | (go_at_call 16; (with_reducible refine (All_any (D + 1) _ _ hle1 _ hT2).mono ?_); rintro e w3 ⟨v3, rfl, hr3, h3⟩; obtain ⟨a3, k3, rfl⟩ := row_slice hr3
           have hT3 := hT2.below h3
           have hP3 := hP2.below h3 (by omega)
           have hX3 := hX2.trans (h3.mono (by omega))
           have hs3 := Nat.le_trans hs2 h3.size
           have c0 := hP3.cell 0 _ rfl
           have c1 := hP3.cell 1 _ rfl)
        | (go_at_call 11; (with_reducible refine (f2 _ _ hT3).mono ?_); rintro e w4 ⟨rfl, B4, hT4, ht4⟩
           have h4 := low ht4 hO2 hs3
           have hP4 := hP3.below h4 (by omega)
           have hX4 := hX3.trans (h4.mono (by omega))
           have hr4 := row_turns hr3 ht4 (fun j hj ⟨d, v, hB⟩ => by have := hT2.lt hB; have := (hr3.lt j hj).1; omega)
           have hs4 := Nat.le_trans hs3 h4.size)
        | (go_at_call 16; (with_reducible refine (All_any (D + 1) _ _ hle2 _ hT4).mono ?_); rintro e w5 ⟨v5, rfl, hr5, h5⟩; obtain ⟨a5, k5, rfl⟩ := row_slice hr5
           have hP5 := hP4.below h5 (by omega)
           have hr5' := hr5
           have hX5 := hX4.trans (h5.mono (by omega))
           have hq5 := row_below hr4 h5 (fun j hj => (hr4.lt j hj).2)
           have hs5 := Nat.le_trans hs4 h5.size
           have c0 := hP5.cell 0 _ rfl
           have c1 := hP5.cell 1 _ rfl)
        | (go_at_call 15; (with_reducible refine (f7 _ _ _ (row_mono hq5 (Nat.zero_le _)) (row_mono hr5' (Nat.zero_le _))).mono ?_); rintro e w6 ⟨rfl, h6⟩
           have hX6 := hX5.trans (h6.mono (by omega))))
      go_ret
      exact ⟨rfl, hX6⟩

/-! ### The row's step -/
set_option maxRecDepth 100000 in
theorem lifted (os : Os) (started : os.Started) (H : Type) (enc : TypeId × Value → H) :
    ReturnsInHanded {} Try.checked os 6 .any (Rows.pathsOverSpec.pre6 enc Try.prog Try.f6 Rows.pathsOverRow.domain false) (Rows.pathsOverSpec.post enc Try.prog Try.f6 false true false false) := by
  refine returnsInHanded_of_change_sized (C := Try.checked) own started (by kernel_rfl) Try.func6
    (ChangeSpec.witness6 (enc := enc) (C := Try.checked) false ⟨#[], #[.slice none 0 0, .agg #[.int .u32 0, .int .i64 0], .int .i64 0, .int .i64 0], []⟩ 8 (by kernel_rfl) (by kernel_rfl) (by kernel_rfl) (by kernel_rfl)) ?_
  intro W base args ds gs before hval0 hW _ hz0 _
  have hz : (DataW.weightsEach Try.prog (Try.f6.params.toList ++ Rows.pathsOverSpec.plain.varTypes Try.prog) (ds ++ gs)).all (· ≤ reachBytes) = true := hz0
  clear hz0
  have hval : ∀ (j : Nat) t v, Try.f6.params[j]? = some t → args[j]? = some v → Value.okWide Try.prog W .any base t v := hval0
  have hW' := hW
  obtain ⟨p, q, hA0, hV, rfl, hfz, hnd⟩ := hW
  have hA : DataW.TrodAll enc Try.prog W 0 (fun _ => true) true Try.f6.params.toList args.toList ds p := hA0
  rw [Try.params6] at hA hval hz
  obtain ⟨v0, vs0, d0, ds0, p0, q0, hargs, rfl, rfl, h0, r0⟩ := trodAll_cons hA
  obtain ⟨v1, vs1, d1, ds1, p1, q1, rfl, rfl, rfl, h1, r1⟩ := trodAll_cons r0
  obtain ⟨v2, vs2, d2, ds2, p2, q2, rfl, rfl, rfl, h2, r2⟩ := trodAll_cons r1
  obtain ⟨v3, vs3, d3, ds3, p3, q3, rfl, rfl, rfl, h3, r3⟩ := trodAll_cons r2
  obtain ⟨rfl, rfl, rfl⟩ := trodAll_nil r3
  obtain rfl : args = #[v0, v1, v2, v3] := by cases args; simp_all
  obtain ⟨rfl, rfl⟩ := trodVars_none hV
  obtain ⟨a0, n0, c0, rfl⟩ := okWide_slice Try.underlying22 (hval 0 22 v0 rfl rfl)
  have l0 : ∀ x ∈ p0, x.block < W.heap.size := fun x hx => by
    have := hW'.lt x (by simp [hx])
    simpa using this
  obtain ⟨z0, i0, b0, e0⟩ := step_open h0 l0
  have y0 : n0 * 64 ≤ reachBytes := by
    rcases e0 with ⟨_, e0⟩ | ⟨es, sp, e0, g0⟩
    · rw [e0]; decide
    · have h := sized_slice hz (j := 0) (t := 22) (e := 34) (by rfl) (by rw [e0]; rfl) Try.underlying22
      rw [bytesSTEP] at h
      try simp only [List.length_append] at h
      omega
  obtain ⟨c1a, c1b, y1a, y1b, n1, rfl, rfl, rfl, hy1a, hy1b⟩ := Go.Joins.open_agg2 Try.underlying32 (by kernel_rfl) (show Try.prog.cellsOf 32 = 2 by kernel_rfl) (hval 1 32 v1 rfl rfl) h1
  obtain ⟨s1a, e1a, rfl, m1a⟩ := DataW.trod_int Try.underlying30 hy1a
  obtain ⟨s1b, e1b, rfl, m1b⟩ := DataW.trod_int Try.underlying3 hy1b
  simp at e1a e1b
  subst e1a e1b
  obtain ⟨s2, rfl, rfl, rfl, m2⟩ := open_int Try.underlying3 (hval 2 3 v2 rfl rfl) h2
  obtain ⟨s3, rfl, rfl, rfl, m3⟩ := open_int Try.underlying3 (hval 3 3 v3 rfl rfl) h3
  clear hA0 hval0 hz
  simp only [List.append_nil] at hW'
  refine (walk W a0 n0 c0 z0 i0 y0 b0 s1a m1a s1b m1b s2 m2 s3 m3).mono fun e W' ⟨he, hg⟩ => ?_
  subst he
  exact ⟨_, rfl, _, _, _, [], (p0 ++ ([] ++ ([] ++ ([] ++ [])))), [], hW', trodAll_cons_mk (shut_bool Try.underlying4 _) trodAll_mk0, (trodAll_cons_mk (step_shut h0 l0 hg) (trodAll_cons_mk (Go.Joins.shut_agg2 (y0 := (.lit (.int .u32 s1a), [])) (y1 := (.lit (.int .i64 s1b), [])) Try.underlying32 (by kernel_rfl) (show Try.prog.cellsOf 32 = 2 by kernel_rfl) (shut_int Try.underlying30 m1a) (shut_int Try.underlying3 m1b)) (trodAll_cons_mk (shut_int Try.underlying3 m2) (trodAll_cons_mk (shut_int Try.underlying3 m3) trodAll_mk0)))), rfl, hg.frame _, fun h => by cases h⟩

/-- THE STATEMENT. -/
theorem proved : Rows.PathsOverSaid :=
  OpenClaim.holds_of_wide 6 Try.f6 rfl rfl rfl rfl rfl rfl rfl ⟨rfl, rfl, rfl, rfl, rfl⟩ rfl rfl rfl rfl rfl (by kernel_rfl) Try.func6 (by kernel_rfl)
    (of_decide_eq_true (by kernel_rfl)) (by unfold Func.isWrapper; first | (rw [if_pos (by decide +kernel)]; kernel_rfl) | (rw [if_neg (by decide +kernel)]; exact ⟨rfl, rfl⟩))
    (fun os started H enc _ => lifted os started H enc)
end Go.Proofs.Ytmkhojaddedpfaa.pathsOver
